/-
  Which programs may be, by the document; which are large.
-/
import Derived.Test.YtolldoclnfnceaaDoorCodCheck
set_option linter.unusedVariables false
set_option maxRecDepth 100000
namespace Go.Proofs.YtolldoclnfnceaaDoor
open Go.RowKit

/-- a program in a box of the call's own -/
structure BoxAt (B : Nat) (x : Pv) (w : World) : Prop where
  c0 : w.cell? ⟨B, 0, none⟩ = some (.slice x.a x.n x.c)
  c1 : w.cell? ⟨B, 1, none⟩ = some (.slice x.b x.m x.d)
theorem BoxAt.keep {B : Nat} {x : Pv} {w w' : World} (h : BoxAt B x w) (hb : Below w.heap.size w w') : BoxAt B x w' := by
  have e : w'.heap[B]? = w.heap[B]? := hb.block B (cell_lt h.c0)
  exact ⟨by rw [World.cell?_of_block e]; exact h.c0, by rw [World.cell?_of_block e]; exact h.c1⟩
theorem BoxAt.new (w : World) (x : Pv) (T : TypeId) : BoxAt w.heap.size x (w.alloc (.cells #[.slice x.a x.n x.c, .slice x.b x.m x.d] T)) :=
  ⟨by rw [cell_of_row _ _ 0 _ _ _ (heap_alloc_new _ _)]; rfl, by rw [cell_of_row _ _ 1 _ _ _ (heap_alloc_new _ _)]; rfl⟩

set_option maxHeartbeats 2000000 in
theorem refMay12_any {x : Pv} {ts : List ByteArray} {cs : List Cod.In} {w : World} (h : PrAt x ts cs w) (hn : x.n ≤ 140737488355328) (hm : x.m ≤ 140737488355328) :
    Calls Tryd.prog 19 #[x.v] w fun e w' => e = .returned (.bool (decide (prog ts cs).May)) ∧ Below w.heap.size w w' := by
  obtain ⟨R, hR⟩ : ∃ R, R = decide (prog ts cs).May := ⟨_, rfl⟩
  rw [← hR]
  have hM := may_iff ts cs
  have ht := h.t
  have hi := h.i
  rw [h.n, h.m] at hM
  clear h
  obtain ⟨xa, xn, xc, xb, xm, xd⟩ := x
  simp only at hn hm ht hi hM
  unfold Pv.v
  have hb := obj_below w (.cells #[.slice xa xn xc, .slice xb xm xd] 25)
  have hbx := BoxAt.new w ⟨xa, xn, xc, xb, xm, xd⟩ 25
  have HR := Lib.hid hR; clear hR
  have HM := Lib.hid hM; clear hM
  have Ht := Lib.hid ht; clear ht
  have Hi := Lib.hid hi; clear hi
  have Hb := Lib.hid hb; clear hb
  have HB0 := Lib.hid hbx; clear hbx
  by_cases g1 : 16 < xn
  · have d1 : decide ((16 : Int) < (xn : Int)) = true := decide_eq_true (by omega)
    have hr : R = false := by rw [HR.out]; exact decide_eq_false (fun c => by have := (HM.out.1 c).1; omega)
    subst hr
    clear g1
    go_enter Tryd.func19, Tryd.ntmps19
    go_wp2_with fail
    go_ret
    exact ⟨rfl, Hb.out⟩
  · have d1 : decide ((16 : Int) < (xn : Int)) = false := decide_eq_false (by omega)
    by_cases g2 : 256 < xm
    · have d2 : decide ((256 : Int) < (xm : Int)) = true := decide_eq_true (by omega)
      have hr : R = false := by rw [HR.out]; exact decide_eq_false (fun c => by have := (HM.out.1 c).2.1; omega)
      subst hr
      clear g1 g2
      go_enter Tryd.func19, Tryd.ntmps19
      go_wp2_with fail
      go_ret
      exact ⟨rfl, Hb.out⟩
    · have d2 : decide ((256 : Int) < (xm : Int)) = false := decide_eq_false (by omega)
      have G1 := Lib.hid g1; clear g1
      have G2 := Lib.hid g2; clear g2
      go_enter Tryd.func19, Tryd.ntmps19
      go_wp2_with fail
      go_loopw [3] (fun i wr => ∃ k : Nat, k ≤ xn ∧ i = .int .i64 (k : Int) ∧ (∀ j, j < k → (ts.getD j .empty).size ≤ 64) ∧ wr = w.alloc (.cells #[.slice xa xn xc, .slice xb xm xd] 25)) (fun i _ => xn - (intOf i).toNat)
      case atStart => exact ⟨0, Nat.zero_le _, rfl, fun j hj => by omega, rfl⟩
      case round =>
        obtain ⟨k, hk, rfl, hz, rfl⟩ := hrel
        have Hz := Lib.hid hz; clear hz
        by_cases hlt : k < xn
        · have hlt2 : (k : Int) < (xn : Int) := by omega
          obtain ⟨b, off, rfl, c1⟩ := (Ht.out.keep Hb.out).2 k hlt
          obtain ⟨y, hy⟩ : ∃ y, y = ts.getD k .empty := ⟨_, rfl⟩
          rw [← hy] at c1
          by_cases g3 : 64 < y.size
          · have d3 : decide ((64 : Int) < (y.size : Int)) = true := decide_eq_true (by omega)
            have hr : R = false := by rw [HR.out]; exact decide_eq_false (fun c => by have := (HM.out.1 c).2.2.1 k hlt; rw [← hy] at this; omega)
            subst hr
            clear g3 hy
            go_wp2_with fail
            go_ret
            exact ⟨rfl, Hb.out⟩
          · have d3 : decide ((64 : Int) < (y.size : Int)) = false := decide_eq_false (by omega)
            have G3 := Lib.hid g3; clear g3
            have Hy := Lib.hid hy; clear hy
            go_wp2_with fail
            go_roundw
            case rel => exact ⟨k + 1, by omega, by go_num, fun j hj => by
              by_cases e : j = k
              · subst e; rw [← Hy.out]; exact Nat.le_of_not_lt G3.out
              · exact Hz.out j (by omega), trivial⟩
            case measure => simp [intOf]; omega
        · obtain rfl : k = xn := by omega
          have hlt2 : ¬ (k : Int) < (k : Int) := by omega
          have Hk := Lib.hid hk; clear hk hlt
          go_wp2_with fail
          go_loopw [4] (fun i wr => ∃ j : Nat, j ≤ xm ∧ i = .int .i64 (j : Int) ∧ (∀ t, t < j → Cod.ins (cs.getD t (0, 0)) = true) ∧ Below w.heap.size w wr ∧ BoxAt w.heap.size ⟨xa, k, xc, xb, xm, xd⟩ wr) (fun i _ => xm - (intOf i).toNat)
          case atStart => exact ⟨0, Nat.zero_le _, rfl, fun j hj => by omega, Hb.out, HB0.out⟩
          case round =>
            obtain ⟨j, hj, rfl, hzi, hbw, hbx⟩ := hrel
            have Hzi := Lib.hid hzi; clear hzi
            have Hbw := Lib.hid hbw; clear hbw
            have cB := hbx.c1
            simp only at cB
            have HB := Lib.hid hbx; clear hbx
            by_cases hlj : j < xm
            · have hlj2 : (j : Int) < (xm : Int) := by omega
              obtain ⟨b, off, rfl, c1, c2⟩ := (Hi.out.keep Hbw.out).2 j hlj
              obtain ⟨y, hy⟩ : ∃ y, y = cs.getD j (0, 0) := ⟨_, rfl⟩
              rw [← hy] at c1 c2
              have hv := fun u => refIns_any y u
              unfold insV at hv
              have Hy := Lib.hid hy; clear hy
              cases hins : Cod.ins y with
              | true =>
                rw [hins] at hv
                have HV := Lib.hid hv; clear hv
                have Hins := Lib.hid hins; clear hins
                go_wp2_with fail
                refine (HV.out _).mono ?_; rintro e w2 ⟨rfl, h2⟩
                have Hb2 := Lib.hid (Hbw.out.trans (h2.mono Hbw.out.size))
                have HB2 := Lib.hid (HB.out.keep h2); clear h2
                go_wp2_with fail
                go_roundw
                case rel => exact ⟨j + 1, by omega, by go_num, fun t ht => by
                  by_cases e : t = j
                  · subst e; rw [← Hy.out]; exact Hins.out
                  · exact Hzi.out t (by omega), Hb2.out, HB2.out⟩
                case measure => simp [intOf]; omega
              | false =>
                rw [hins] at hv
                have HV := Lib.hid hv; clear hv
                have hr : R = false := by rw [HR.out]; exact decide_eq_false (fun c => by have := (HM.out.1 c).2.2.2 j hlj; rw [← Hy.out, hins] at this; cases this)
                subst hr
                clear hins
                go_wp2_with fail
                refine (HV.out _).mono ?_; rintro e w2 ⟨rfl, h2⟩
                have Hb2 := Lib.hid (Hbw.out.trans (h2.mono Hbw.out.size)); clear h2
                go_wp2_with fail
                go_ret
                exact ⟨rfl, Hb2.out⟩
            · obtain rfl : j = xm := by omega
              have hlj2 : ¬ (j : Int) < (j : Int) := by omega
              have hr : R = true := by rw [HR.out]; exact decide_eq_true (HM.out.2 ⟨Nat.le_of_not_lt G1.out, Nat.le_of_not_lt G2.out, Hz.out, Hzi.out⟩)
              subst hr
              go_wp2_with fail
              go_ret
              exact ⟨rfl, Hbw.out⟩

/-- what Large counts -/
def largeN (ts : List ByteArray) (m : Nat) : Nat := m + tot ts (min ts.length 50)
def largeB (ts : List ByteArray) (m : Nat) : Bool := decide (40 < ts.length) || decide (4000 < largeN ts m)
theorem largeB_false {ts : List ByteArray} {m : Nat} (h : largeB ts m = false) : ts.length ≤ 40 ∧ m + tot ts ts.length ≤ 4000 := by
  unfold largeB largeN at h
  simp only [Bool.or_eq_false_iff, decide_eq_false_iff_not] at h
  have e : min ts.length 50 = ts.length := by omega
  rw [e] at h
  omega
set_option maxHeartbeats 1000000 in
theorem large_any {x : Pv} {ts : List ByteArray} {cs : List Cod.In} {w : World} (h : PrAt x ts cs w) (hn : x.n ≤ 140737488355328) (hm : x.m ≤ 140737488355328) (hs : ∀ y ∈ ts, y.size ≤ 140737488355328) :
    Calls Tryd.prog 7 #[x.v] w fun e w' => e = .returned (.bool (largeB ts cs.length)) ∧ Below w.heap.size w w' := by
  obtain ⟨R, hR⟩ : ∃ R, R = largeB ts cs.length := ⟨_, rfl⟩
  rw [← hR]
  unfold largeB largeN at hR
  rw [h.n, h.m] at hR
  have ht := h.t
  have htn := h.n
  clear h
  obtain ⟨xa, xn, xc, xb, xm, xd⟩ := x
  simp only at hn hm ht hR htn
  unfold Pv.v
  have hb := obj_below w (.cells #[.slice xa xn xc, .slice xb xm xd] 25)
  have hs2 := getD_size_le ts _ hs
  have htl : ∀ k, k ≤ 50 → tot ts k ≤ 7036874417766400 := fun k hk => by
    have := tot_le ts k 140737488355328 hs
    have : k * 140737488355328 ≤ 50 * 140737488355328 := Nat.mul_le_mul_right _ hk
    omega
  have Hs2 := Lib.hid hs2; clear hs2 hs
  have HR := Lib.hid hR; clear hR
  have Ht := Lib.hid ht; clear ht
  have Hb := Lib.hid hb; clear hb
  have Htl := Lib.hid htl; clear htl
  have Htn := Lib.hid htn; clear htn
  go_enter Tryd.func7, Tryd.ntmps7
  go_wp2_with fail
  go_loopw [3, 4] (fun s i wr => ∃ k : Nat, k ≤ xn ∧ k ≤ 50 ∧ i = .int .i64 (k : Int) ∧ s = .int .i64 ((xm + tot ts k : Nat) : Int) ∧ wr = w.alloc (.cells #[.slice xa xn xc, .slice xb xm xd] 25)) (fun _ i _ => xn - (intOf i).toNat)
  case atStart => exact ⟨0, Nat.zero_le _, by omega, rfl, by rw [tot_zero]; rfl, rfl⟩
  case round =>
    obtain ⟨k, hk, hk5, rfl, rfl, rfl⟩ := hrel
    have hto := Htl.out k hk5
    by_cases hlt : k < xn ∧ k < 50
    · obtain ⟨hl1, hl2⟩ := hlt
      have d1 : decide ((k : Int) < (xn : Int)) = true := decide_eq_true (by omega)
      have d2 : decide ((k : Int) < (50 : Int)) = true := decide_eq_true (by omega)
      have hst := tot_succ ts k (by rw [Htn.out]; exact hl1)
      have hsz := Hs2.out k
      obtain ⟨b, off, rfl, c1⟩ := (Ht.out.keep Hb.out).2 k hl1
      obtain ⟨y, hy⟩ : ∃ y, y = ts.getD k .empty := ⟨_, rfl⟩
      rw [← hy] at c1 hst hsz
      clear hy
      obtain ⟨q, hq⟩ : ∃ q, q = xm + tot ts k := ⟨_, rfl⟩
      rw [← hq]
      have hw1 : IntKind.i64.wrap ((q : Int) + (y.size : Int)) = ((q + y.size : Nat) : Int) := by simp only [IntKind.wrap_i64]; omega
      have hst2 : xm + tot ts (k + 1) = q + y.size := by omega
      have Hst := Lib.hid hst2; clear hst hst2 hq hto
      have hw2 : IntKind.i64.wrap ((k : Int) + 1) = ((k + 1 : Nat) : Int) := by simp only [IntKind.wrap_i64]; omega
      have hkk : (k : Int) < (xn : Int) := by omega
      go_wp2_with fail
      go_roundw
      case rel => exact ⟨k + 1, by omega, by omega, by go_num, by rw [Hst.out]; go_num, trivial⟩
      case measure => simp [intOf]; omega
    · have hend : R = (decide (40 < xn) || decide (4000 < xm + tot ts k)) := by
        rw [HR.out, show min xn 50 = k by omega]
      obtain ⟨q, hq⟩ : ∃ q, q = xm + tot ts k := ⟨_, rfl⟩
      rw [← hq] at hend ⊢
      have Hq := Lib.hid hq; clear hq hto
      have Hend := Lib.hid hend; clear hend
      obtain ⟨D1, hD1⟩ : ∃ D, D = decide (40 < xn) := ⟨_, rfl⟩
      obtain ⟨D2, hD2⟩ : ∃ D, D = decide (4000 < q) := ⟨_, rfl⟩
      have e1 : decide ((40 : Int) < (xn : Int)) = D1 := by rw [hD1, Bool.eq_iff_iff]; simp only [decide_eq_true_eq]; omega
      have e2 : decide ((4000 : Int) < (q : Int)) = D2 := by rw [hD2, Bool.eq_iff_iff]; simp only [decide_eq_true_eq]; omega
      have hr : R = (D1 || D2) := by rw [Hend.out, hD1, hD2]
      have Hr := Lib.hid hr; clear hr
      clear hD1 hD2
      have fin : ∀ B, B = R → Ending.returned (.bool B) = Ending.returned (.bool R) := fun B h => by rw [h]
      by_cases hl1 : k < xn
      · have d1 : decide ((k : Int) < (xn : Int)) = true := decide_eq_true (by omega)
        have d2 : decide ((k : Int) < (50 : Int)) = false := decide_eq_false (by omega)
        have hkk : (k : Int) < (xn : Int) := by omega
        clear hlt hl1 hk hk5
        cases D1 <;> cases D2
        all_goals
          go_wp2_with fail
          go_ret
          refine ⟨?_, Hb.out⟩
          rw [Hr.out]
          rfl
      · obtain rfl : k = xn := by omega
        have hkk : ¬ (k : Int) < (k : Int) := by omega
        clear hlt hl1 hk hk5
        cases D1 <;> cases D2
        all_goals
          go_wp2_with fail
          go_ret
          refine ⟨?_, Hb.out⟩
          rw [Hr.out]
          rfl
end Go.Proofs.YtolldoclnfnceaaDoor
