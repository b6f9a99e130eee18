/-
  What multiples gives, and what Prime returns.
-/
import Derived.Test.YtimcaihiobcccaaPolUp
import Derived.Test.YtimcaihiobcccaaGoRangeStop
import Derived.OwnWalkIn
import Derived.TacticsInMore
import Derived.LoopNIn
import Derived.LoopIn
set_option linter.unusedVariables false
set_option maxRecDepth 100000
namespace Go.Proofs.Ytimcaihiobcccaa
open Go.RowKit
attribute [local go_sem] Oper.semAt_some

theorem multiples_any (p : Nat) (w : World) :
    Calls Try.prog 29 #[.int .u64 p] w fun e w' => e = .returned (.func (.func 31) #[] #[.pointer (some ⟨w.heap.size, 0, none⟩)]) ∧ w' = w.alloc (.cells #[.int .u64 p] 22) := by
  go_enter Try.func29, Try.ntmps29
  go_wp2
  go_ret
  exact ⟨rfl, rfl⟩

/-- the i-th multiple -/
def mlt (p i : Nat) : Nat := Pol.frob p (i + 1) ^^^ 2
def okTo (p i : Nat) : Prop := ∀ j, 1 ≤ j → j ≤ i → Pol.gcd p (Pol.frob p j ^^^ 2) = 1

set_option maxHeartbeats 1000000 in
theorem mult1_any {p B2 : Nat} {J JS : World → Prop} {W1 : World} (hp2 : 2 ≤ Pol.len p) (hp57 : Pol.len p ≤ 57)
    (hJ : ∀ W, J W → W.heap[B2]? = some (.cells #[.int .u64 p] 22 (0, 0))) (h0 : J W1)
    (ly : Nat) (Book BookS : World → Prop) (hBook : ∀ A A', KeepsOthers A A' → Book A → Book A') (hb1 : Book W1)
    (hY : ∀ i W, i < (Pol.len p - 1) / 2 → okTo p i → Book W → J W → YieldAt Fence.wide 3 Try.prog ly #[.int .u64 (mlt p i : Nat)] W fun e W' => (e = .returned (.bool true) ∧ Book W' ∧ J W' ∧ okTo p (i + 1)) ∨ (e = .returned (.bool false) ∧ BookS W' ∧ JS W')) :
    CallsIn Fence.wide 4 Try.prog 31 (#[.func (.yield ly) #[] #[]] ++ #[.pointer (some ⟨B2, 0, none⟩)]) W1
      fun e W' => (∃ v, e = .returned v) ∧ ((Book W' ∧ J W' ∧ Pol.bo p) ∨ (BookS W' ∧ JS W')) := by
  have hp64 : p < 18446744073709551616 := lt64 (by omega)
  have cd := fun u => callsIn_wide (n := 3).2 (deg_any p hp64 u)
  obtain ⟨D, hD⟩ : ∃ D, D = (Pol.len p - 1) / 2 := ⟨_, rfl⟩
  have hD2 : ((Pol.len p : Int) - 1).tdiv 2 = (D : Int) := by
    rw [Int.tdiv_eq_ediv_of_nonneg (by omega), hD]; omega
  have hbo : okTo p D → Pol.bo p := fun h i h1 h2 => h i h1 (by rw [hD]; exact h2)
  rw [← hD] at hY
  have hfl : D ≠ 0 → ∀ i, Pol.len (Pol.frob p i) < Pol.len p := fun h i => Pol.frob_len (by omega) i
  have cp := fun x (hx : Pol.len x < Pol.len p) u => callsIn_wide (n := 3).2 (product_any x x p (lt64 (by omega)) hp2 hp57 hx u)
  have hfx : ∀ i, D ≠ 0 → bits .xor .u64 (Pol.frob p (i + 1) : Nat) 2 = ((mlt p i : Nat) : Int) := fun i h => by
    have := u64_xor_nat (Pol.frob p (i + 1)) 2 (lt64 (by have := hfl h (i + 1); omega)) (by decide)
    exact this
  have hfs : ∀ i, Pol.rem (Pol.mul (Pol.frob p i) (Pol.frob p i)) p = Pol.frob p (i + 1) := fun i => rfl
  have hD28 : D ≤ 28 := by omega
  have Hfs := Lib.hid hfs; clear hfs
  have Hfx := Lib.hid hfx; clear hfx
  have Cp := Lib.hid cp; clear cp
  have Hfl := Lib.hid hfl; clear hfl
  have Hbo := Lib.hid hbo; clear hbo
  have Cd := Lib.hid cd; clear cd
  obtain ⟨L, hL⟩ : ∃ L, L = Pol.len p := ⟨_, rfl⟩
  rw [← hL] at Cd hD2
  have hL64 : L ≤ 64 := by omega
  clear hD hL hp2 hp57 hp64
  refine callsIn_of_wp Try.func31 rfl trivial ?_ rfl
  simp only [Try.ntmps31, List.size_toArray, List.length_cons, List.length_nil, Nat.reduceAdd, Nat.reduceSub, Array.replicate_succ, Array.replicate_zero, List.push_toArray, List.append_toArray, List.nil_append, List.cons_append]
  have c2 := cell_of_one (hJ _ h0)
  have HY := Lib.hid hY; clear hY
  have HB := Lib.hid hBook; clear hBook
  have Hb1 := Lib.hid hb1; clear hb1
  have HJ := Lib.hid hJ; clear hJ
  have H0 := Lib.hid h0; clear h0
  gi_wp2_with fail
  refine ⟨trivial, (Cd.out _).mono ?_⟩; rintro e w1 ⟨rfl, rfl⟩
  clear c2
  gi_wp2_with fail
  gi_loopw [3, 7] (fun f i wr => ∃ k : Nat, k ≤ D ∧ i = .int .i64 (k : Int) ∧ f = .int .u64 (Pol.frob p k : Nat) ∧ Book wr ∧ J wr ∧ okTo p k) (fun _ i _ => D - (intOf i).toNat)
  case atStart => exact ⟨0, Nat.zero_le _, rfl, rfl, Hb1.out, H0.out, fun j h1 h2 => by omega⟩
  case round =>
    clear Hb1 H0
    obtain ⟨k, hk, rfl, rfl, hbk, hj, hok⟩ := hrel
    have Hok := Lib.hid hok; clear hok
    by_cases hc : k = D
    · subst hc
      have hge : decide ((k : Int) < (k : Int)) = false := decide_eq_false (by omega)
      have Hbk := Lib.hid hbk; clear hbk
      have Hj := Lib.hid hj; clear hj
      generalize Pol.frob p k = z at *
      gi_wp2
      go_end0
      exact ⟨⟨_, rfl⟩, .inl ⟨Hbk.out, Hj.out, Hbo.out Hok.out⟩⟩
    · have hge : decide ((k : Int) < (D : Int)) = true := decide_eq_true (by omega)
      have hlt : k < D := by omega
      have hD0 : D ≠ 0 := by omega
      have c2 := cell_of_one (HJ.out _ hj)
      have hl := Hfl.out hD0 k
      have cp := Cp.out _ hl
      rw [Hfs.out k] at cp
      have hx := Hfx.out k hD0
      obtain ⟨f1, hf1⟩ : ∃ f1, f1 = Pol.frob p (k + 1) := ⟨_, rfl⟩
      rw [← hf1] at cp hx
      have Hf1 := Lib.hid hf1; clear hf1
      generalize Pol.frob p k = z at *
      have CP := Lib.hid cp; clear cp
      obtain ⟨fn, tmps, assign, body, hy, hR⟩ := HY.out k wr hlt Hok.out hbk hj
      have HR := Lib.hid hR; clear hR
      have Hlt := Lib.hid hlt; clear hlt
      clear hl hD0 hbk hj
      gi_wp2_with fail
      refine ⟨trivial, (CP.out _).mono ?_⟩; rintro e w1 ⟨rfl, rfl⟩
      gi_wp2_with fail
      refine HR.out.mono ?_
      clear hy
      rintro e W7 (⟨rfl, hbk7, hj7, hok7⟩ | ⟨rfl, hbk7, hj7⟩)
      · have Hbk7 := Lib.hid hbk7; clear hbk7
        have Hj7 := Lib.hid hj7; clear hj7
        have Hok7 := Lib.hid hok7; clear hok7
        gi_wp2_with fail
        go_roundw
        case rel => exact ⟨k + 1, by have := Hlt.out; omega, by go_num, by rw [Hf1.out], Hbk7.out, Hj7.out, Hok7.out⟩
        case measure => simp [intOf]; omega
      · have Hbk7 := Lib.hid hbk7; clear hbk7
        have Hj7 := Lib.hid hj7; clear hj7
        gi_wp2_with fail
        (try simp only [Exit.inBlock, Exit.then])
        refine bodyPost_ret (v := .tuple #[]) (results_none rfl _ _ _) rfl ?_
        exact ⟨⟨_, rfl⟩, .inr ⟨Hbk7.out, Hj7.out⟩⟩

theorem prime_results (tmps : Array Value) (b : Nat) (x : Value) (W : World) (h2 : tmps.getD 2 undef = .pointer (some ⟨b, 0, none⟩))
    (h : W.heap[b]? = some (.cells #[x] 4 (0, 0))) :
    (results Try.f18 tmps).run Try.prog W = .ok x W := by
  have c0 : W.cell? ⟨b, 0, none⟩ = some x := by rw [cell_of_row _ _ 0 _ _ _ h]; rfl
  have f0 := row_free h 0
  have h2' : tmps[2]?.getD undef = .pointer (some ⟨b, 0, none⟩) := by simpa using h2
  simp [results, go_sem, h2', c0]

/-- what is told prime -/
def Pol.said (p : Nat) : Prop := Pol.may p ∧ Pol.bo p
noncomputable def primeB (p : Nat) : Bool := @decide (Pol.said p) (Classical.propDecidable _)
theorem primeB_true {p : Nat} (h : Pol.said p) : primeB p = true := @decide_eq_true _ (Classical.propDecidable _) h
theorem primeB_false {p : Nat} (h : ¬ Pol.said p) : primeB p = false := @decide_eq_false _ (Classical.propDecidable _) h
theorem primeB_said {p : Nat} (h : primeB p = true) : Pol.said p := @of_decide_eq_true _ (Classical.propDecidable _) h
theorem primeB_not {p : Nat} (h : primeB p = false) : ¬ Pol.said p := @of_decide_eq_false _ (Classical.propDecidable _) h

/-- what lies where, while it goes over the multiples -/
structure Prm (w : World) (p : Nat) (r : Bool) (W : World) : Prop where
  b0 : W.heap[w.heap.size]? = some (.cells #[.int .u64 p] 22 (0, 0))
  b1 : W.heap[w.heap.size + 1]? = some (.cells #[.bool r] 4 (0, 0))
  b2 : W.heap[w.heap.size + 2]? = some (.cells #[.int .u64 p] 22 (0, 0))
  be : Below w.heap.size w W
theorem Prm.stays {w : World} {p : Nat} {r : Bool} {B : Nat} (hB : w.heap.size ≤ B) : Stays B (Prm w p r) := fun W l o o' hl ho hc hj =>
  ⟨Stays.row W l o o' hl ho hc hj.b0, Stays.row W l o o' hl ho hc hj.b1, Stays.row W l o o' hl ho hc hj.b2, Stays.below hB W l o o' hl ho hc hj.be⟩

theorem Prm.set {w W : World} {p : Nat} {r : Bool} (h : Prm w p r W) (r' : Bool) : Prm w p r' (W.setCell ⟨w.heap.size + 1, 0, none⟩ (.bool r')) :=
  ⟨by rw [heap_setCell_other _ _ _ _ (by simp only; omega)]; exact h.b0, heap_setCell_same _ _ 0 _ _ _ h.b1, by rw [heap_setCell_other _ _ _ _ (by simp only; omega)]; exact h.b2, h.be.setCell (p := ⟨w.heap.size + 1, 0, none⟩) (show w.heap.size ≤ w.heap.size + 1 by omega) _⟩
theorem mlt_lt {p i : Nat} (h : Pol.may p) (h3 : 3 ≤ Pol.len p) : mlt p i < 18446744073709551616 := by
  have := Pol.frob_len h3 (i + 1)
  have h57 := h.2
  exact lt64 (Pol.len_xor_le (by omega) (by rw [show Pol.len 2 = 2 by decide]; omega))
theorem not_bo {p i : Nat} (hi : i < (Pol.len p - 1) / 2) (h : ¬ Pol.gcd p (mlt p i) = 1) : ¬ Pol.bo p := fun c => h (c (i + 1) (by omega) (by omega))
theorem ok_next {p i : Nat} (h : okTo p i) (h1 : Pol.gcd p (mlt p i) = 1) : okTo p (i + 1) := fun j h2 h3 => by
  by_cases e : j = i + 1
  · subst e; exact h1
  · exact h j h2 (by omega)

set_option maxHeartbeats 1000000 in
theorem prime_any (p : Nat) (hp : p < 18446744073709551616) (w : World) :
    Calls Try.prog 18 #[.int .u64 p] w fun e w' => e = .returned (.bool (primeB p)) ∧ Below w.heap.size w w' := by
  obtain ⟨rb, hrb⟩ : ∃ rb, rb = primeB p := ⟨_, rfl⟩
  rw [← hrb]
  by_cases hm : Pol.may p
  · have htr : Pol.bo p → rb = true := fun h => by rw [hrb]; exact primeB_true ⟨hm, h⟩
    have hfa : ¬ Pol.bo p → rb = false := fun h => by rw [hrb]; exact primeB_false (fun c => h c.2)
    have Htr := Lib.hid htr; clear htr
    have Hfa := Lib.hid hfa; clear hfa
    clear hrb
    have cm := fun u => callsIn_wide (n := 4).2 (modulus_any p hp u)
    rw [decide_eq_true (show 2 ≤ Pol.len p ∧ Pol.len p ≤ 57 from hm)] at cm
    have Cm := Lib.hid cm; clear cm
    have ct := fun u => callsIn_wide (n := 4).2 (multiples_any p u)
    have Ct := Lib.hid ct; clear ct
    have Hm := Lib.hid hm; clear hm
    refine (callsIn_wide (n := 5)).1 ?_
    refine callsIn_of_wp_marks Try.func18 rfl trivial ?_ rfl
    simp only [Try.ntmps18, List.size_toArray, List.length_cons, List.length_nil, Nat.reduceAdd, Nat.reduceSub, Array.replicate_succ, Array.replicate_zero, List.push_toArray, List.append_toArray, List.nil_append, List.cons_append]
    gi_wp2_with fail
    refine ⟨trivial, (Cm.out _).mono ?_⟩; rintro e w1 ⟨rfl, rfl⟩
    gi_wp2_with fail
    refine ⟨trivial, (Ct.out _).mono ?_⟩; rintro e w3 ⟨rfl, hw3⟩
    have hs3 : w3.heap.size = w.heap.size + 3 := by rw [hw3]; simp
    have hbel3 : Below w.heap.size w w3 := by rw [hw3]; exact (((Below.refl _ w).alloc (Nat.le_refl _) _).alloc (by simp) _).alloc (by simp; omega) _
    have hpr : Prm w p false w3 := by
      refine ⟨?_, ?_, ?_, hbel3⟩
      · rw [hw3]; exact row_alloc (row_alloc (heap_alloc_new _ _) _) _
      · rw [hw3]; refine row_alloc ?_ _; have := heap_alloc_new (w.alloc (.cells #[.int .u64 p] 22)) (.cells #[.bool false] 4); simpa using this
      · rw [hw3]; have := heap_alloc_new ((w.alloc (.cells #[.int .u64 p] 22)).alloc (.cells #[.bool false] 4)) (.cells #[.int .u64 p] 22); simpa using this
    have Hpr := Lib.hid hpr; clear hpr
    have Hw3 := Lib.hid hw3; clear hw3
    gi_wp2_with fail
    refine rangeFunc_stop rfl (by decide) (gf := 31) (lb := #[.pointer (some ⟨w.heap.size + 2, 0, none⟩)]) rfl trivial (enters_of Try.func31 (by kernel_rfl) rfl)
      (fun i : Nat => #[.int .u64 (mlt p i : Nat)]) (fun _ => rfl)
      (Prm w p false) (fun W => Prm w p false W ∧ Pol.bo p) (fun W => Prm w p false W ∧ ¬ Pol.bo p)
      (fun i W => Prm w p false W ∧ (i < (Pol.len p - 1) / 2 ∧ okTo p i)) (fun i W => Prm w p false W ∧ okTo p (i + 1)) (fun i W => Prm w p false W ∧ ¬ Pol.bo p)
      (fun i a₁ W => Prm w p false W ∧ ((i < (Pol.len p - 1) / 2 ∧ okTo p i) ∧ a₁ = { tmps := #[.int .u64 p, .pointer (some ⟨w.heap.size, 0, none⟩), .pointer (some ⟨w.heap.size + 1, 0, none⟩), .int .u64 (mlt p i : Nat), .int .u64 p, .bool true, .bool false, .int .u64 p, .func (.func 31) #[] #[.pointer (some ⟨w.heap.size + 2, 0, none⟩)], .int .u64 (mlt p i : Nat), undef, undef, undef, undef], defers := [] }))
      ?sEnd ?sStop ?sOut ?sRet ?sMid ?h0 ?hiter ?hassign ?hbody ?hdone ?hstop
    case sEnd => exact (Prm.stays (by omega)).and (Stays.pure _)
    case sStop => exact (Prm.stays (by omega)).and (Stays.pure _)
    case sOut => exact fun i => (Prm.stays (by omega)).and (Stays.pure _)
    case sRet => exact fun i => (Prm.stays (by omega)).and (Stays.pure _)
    case sMid => exact fun i a₁ => (Prm.stays (by omega)).and (Stays.pure _)
    case h0 =>
      intro o o'
      obtain ⟨r0, r1, r2, be⟩ := Hpr.out
      exact ⟨row_alloc (row_alloc r0 _) _, row_alloc (row_alloc r1 _) _, row_alloc (row_alloc r2 _) _, (be.alloc (by omega) _).alloc (by simp; omega) _⟩
    case hiter =>
      intro ly Book BookS W1 hBk hBs hly hb1 hj0 hY
      refine mult1_any Hm.out.1 Hm.out.2 (J := Prm w p false) (JS := fun W => Prm w p false W ∧ ¬ Pol.bo p) (fun W h => h.b2) hj0 ly Book BookS hBk hb1 ?_
      intro i W hi hok hbk hj
      exact hY i W hbk ⟨hj, hi, hok⟩
    case hassign =>
      intro ly i W K hly hin hK
      have Hin := Lib.hid hin; clear hin
      clear hs3 hbel3
      gi_wp2_with fail
      exact hK _ _ (KeepsOthers.refl _) ⟨Hin.out.1, Hin.out.2, rfl⟩
    case hbody =>
      rintro ly i a₁ W hly ⟨hprm, ⟨hi, hok⟩, rfl⟩
      have c0 := cell_of_one hprm.b0
      have c1 := cell_of_one hprm.b1
      have f1 := row_free hprm.b1 0
      have hg := gcd_any p (mlt p i) hp (mlt_lt Hm.out (by omega)) W
      have hno := fun h => not_bo (p := p) hi h
      have hyes := fun h => ok_next hok h
      have Hno := Lib.hid hno; clear hno
      have Hyes := Lib.hid hyes; clear hyes
      obtain ⟨g, hgg⟩ : ∃ g, g = Pol.gcd p (mlt p i) := ⟨_, rfl⟩
      rw [← hgg] at hg Hno Hyes
      generalize mlt p i = m at *
      have HG := Lib.hid hg; clear hg
      have Hprm := Lib.hid hprm; clear hprm
      clear hgg hi hok hs3 hbel3
      by_cases h1 : g = 1
      · have hd : decide (g = 1) = true := decide_eq_true h1
        have hyes := Hyes.out h1
        have HY := Lib.hid hyes; clear hyes
        gi_wp2_with fail
        refine ⟨trivial, (CallsIn.inRound ly (callsIn_wide.2 HG.out)).mono ?_⟩; rintro e W2 ⟨rfl, rfl⟩
        gi_wp2_with fail
        exact ⟨KeepsOthers.refl _, Hprm.out, HY.out⟩
      · have hd : decide (g = 1) = false := decide_eq_false h1
        have hno := Hno.out h1
        have HN := Lib.hid hno; clear hno
        gi_wp2_with fail
        refine ⟨trivial, (CallsIn.inRound ly (callsIn_wide.2 HG.out)).mono ?_⟩; rintro e W2 ⟨rfl, rfl⟩
        gi_wp2_with fail
        exact ⟨KeepsOthers.setCell _ _ _, Hprm.out.set false, HN.out⟩
    case hdone =>
      rintro D W hD ⟨hprm, hbo⟩ hK2
      have hrt := Htr.out hbo
      subst hrt
      have c1 := cell_of_one hprm.b1
      have f1 := row_free hprm.b1 0
      have Hprm := Lib.hid hprm; clear hprm
      have HK2 := Lib.hid hK2; clear hK2
      clear hbel3 hbo
      gi_wp2_with fail
      have hk : (W.setCell ⟨w.heap.size + 1, 0, none⟩ (.bool true)).heap[D]? = some (.deferred (some [])) := by
        rw [heap_setCell_other _ _ _ _ (by simp only; omega)]; exact HK2.out
      have hp3 := Prm.stays (B := w3.heap.size) (by omega) _ D _ (.deferred none) hD hk rfl (Hprm.out.set true)
      refine ⟨by simp, .inl ⟨_, _, rfl, run_takeDeferred hk, ?_⟩⟩
      exact ⟨_, prime_results _ (w.heap.size + 1) _ _ rfl hp3.b1, rfl, hp3.be⟩
    case hstop =>
      rintro D W hD ⟨hprm, hbo⟩ hK2
      have hrt := Hfa.out hbo
      subst hrt
      have c1 := cell_of_one hprm.b1
      have f1 := row_free hprm.b1 0
      have Hprm := Lib.hid hprm; clear hprm
      have HK2 := Lib.hid hK2; clear hK2
      clear hbel3 hbo
      gi_wp2_with fail
      have hp3 := Prm.stays (B := w3.heap.size) (by omega) _ D _ (.deferred none) hD HK2.out rfl Hprm.out
      refine ⟨by simp, .inl ⟨_, _, rfl, run_takeDeferred HK2.out, ?_⟩⟩
      exact ⟨_, prime_results _ (w.heap.size + 1) _ _ rfl hp3.b1, rfl, hp3.be⟩
  · have hrf : rb = false := by rw [hrb]; exact primeB_false (fun c => hm c.1)
    have cm := fun u => modulus_any p hp u
    rw [decide_eq_false (show ¬ (2 ≤ Pol.len p ∧ Pol.len p ≤ 57) from hm)] at cm
    have Cm := Lib.hid cm; clear cm
    subst hrf
    clear hrb hm hp
    go_enter Try.func18, Try.ntmps18
    go_wp2_with fail
    refine (Cm.out _).mono ?_; rintro e w1 ⟨rfl, rfl⟩
    go_wp2_with fail
    refine bodyPost_ret (v := .bool false) (prime_results _ (w.heap.size + 1) _ _ rfl (by have := heap_alloc_new (w.alloc (.cells #[.int .u64 p] 22)) (.cells #[.bool false] 4); simpa using this)) rfl ?_
    exact ⟨rfl, ((Below.refl _ _).alloc (Nat.le_refl _) _).alloc (by rw [World.size_alloc]; omega) _⟩
end Go.Proofs.Ytimcaihiobcccaa
