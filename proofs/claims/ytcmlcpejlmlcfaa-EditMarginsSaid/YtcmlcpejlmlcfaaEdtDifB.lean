/-
  What edit.differ, of rows of bytes, returns: how far both are alike from the beginning, and where the common end begins in each.
-/
import Derived.Test.YtcmlcpejlmlcfaaEdtPure
import Derived.BigQuiet
set_option linter.unusedVariables false
set_option maxRecDepth 100000
namespace Go.Proofs.Ytcmlcpejlmlcfaa
open Go.RowKit

/-- the slice reads as these bytes -/
def BRd (v : Value) (l : List UInt8) (w : World) : Prop := ∃ a cap, v = .slice a l.length cap ∧ l.length ≤ cap ∧ ∀ j, j < l.length → ∃ b, a = some ⟨b, 0, none⟩ ∧ w.cell? ⟨b, j, none⟩ = some (.int .u8 ((l.getD j 0).toNat : Int))
theorem BRd.new {v : Value} {l : List UInt8} {w w' : World} (h : BRd v l w) (hb : Below w.heap.size w w') : BRd v l w' := by
  obtain ⟨a, cap, rfl, hc, hf⟩ := h
  refine ⟨a, cap, rfl, hc, fun j hj => ?_⟩
  obtain ⟨b, rfl, e⟩ := hf j hj
  exact ⟨b, rfl, by rw [hb.cell (p := ⟨b, j, none⟩) (cell_lt e)]; exact e⟩
theorem Below.row {w w' : World} {b : Nat} {o : Obj} (hb : Below w.heap.size w w') (h : w.heap[b]? = some o) : w'.heap[b]? = some o := by rw [hb.block _ (row_lt h)]; exact h

set_option maxHeartbeats 1000000 in
theorem pre1B_any {B2 B3 : Nat} {va vb : Value} {la lb : List UInt8} {w : World} (h2 : w.heap[B2]? = some (.cells #[va] 50 (0, 0))) (h3 : w.heap[B3]? = some (.cells #[vb] 50 (0, 0))) (ra : BRd va la w) (rb : BRd vb lb w) (k : Nat) (hk : k < la.length) (hk' : k < lb.length) :
    Calls Try.prog 37 #[.int .i64 (k : Int), .pointer (some ⟨B2, 0, none⟩), .pointer (some ⟨B3, 0, none⟩)] w fun e w' => e = .returned (.bool (Edt.eqL 0 la lb k)) ∧ Below w.heap.size w w' := by
  have c2 := cell_of_one h2
  have c3 := cell_of_one h3
  obtain ⟨aa, capa, rfl, hca, hfa⟩ := ra
  obtain ⟨ab, capb, rfl, hcb, hfb⟩ := rb
  obtain ⟨b1, rfl, e1⟩ := hfa (k) (by omega)
  obtain ⟨b2, rfl, e2⟩ := hfb (k) (by omega)
  unfold Edt.eqL
  generalize la.getD (k) 0 = x at *
  generalize lb.getD (k) 0 = y at *
  clear hfa hfb h2 h3
  generalize la.length = n1 at *
  generalize lb.length = n2 at *
  obtain ⟨y1, hy1⟩ : ∃ y1, y1 = x.toNat := ⟨_, rfl⟩
  obtain ⟨y2, hy2⟩ : ∃ y2, y2 = y.toNat := ⟨_, rfl⟩
  have hxy : decide (x = y) = ((y1 : Int) == (y2 : Int)) := by
    rw [Bool.eq_iff_iff]
    simp only [decide_eq_true_eq, beq_iff_eq]
    constructor
    · rintro rfl; rw [hy1, hy2]
    · intro e; exact UInt8.toNat_inj.1 (by omega)
  rw [hxy]
  rw [← hy1] at e1
  rw [← hy2] at e2
  clear hxy hy1 hy2

  have l3 : k < capa := by omega
  have l4 : k < capb := by omega

  have Hb := Lib.hid (Below.refl w.heap.size w)
  go_enter Try.func37, Try.ntmps37
  go_wp2_with fail
  go_quiet (fail)
  go_wp2_with fail
  go_ret
  exact ⟨rfl, drewN_below Hb.out _⟩

set_option maxHeartbeats 1000000 in
theorem suf1B_any {B2 B3 : Nat} {va vb : Value} {la lb : List UInt8} {w : World} (h2 : w.heap[B2]? = some (.cells #[va] 50 (0, 0))) (h3 : w.heap[B3]? = some (.cells #[vb] 50 (0, 0))) (ra : BRd va la w) (rb : BRd vb lb w) (k : Nat) (hk : k < la.length) (hk' : k < lb.length) (hla : la.length ≤ 1099511627776) (hlb : lb.length ≤ 1099511627776) :
    Calls Try.prog 38 #[.int .i64 (k : Int), .pointer (some ⟨B2, 0, none⟩), .pointer (some ⟨B3, 0, none⟩)] w fun e w' => e = .returned (.bool (Edt.eqR 0 la lb k)) ∧ Below w.heap.size w w' := by
  have c2 := cell_of_one h2
  have c3 := cell_of_one h3
  obtain ⟨aa, capa, rfl, hca, hfa⟩ := ra
  obtain ⟨ab, capb, rfl, hcb, hfb⟩ := rb
  obtain ⟨b1, rfl, e1⟩ := hfa (la.length - 1 - k) (by omega)
  obtain ⟨b2, rfl, e2⟩ := hfb (lb.length - 1 - k) (by omega)
  unfold Edt.eqR
  generalize la.getD (la.length - 1 - k) 0 = x at *
  generalize lb.getD (lb.length - 1 - k) 0 = y at *
  clear hfa hfb h2 h3
  generalize la.length = n1 at *
  generalize lb.length = n2 at *
  obtain ⟨y1, hy1⟩ : ∃ y1, y1 = x.toNat := ⟨_, rfl⟩
  obtain ⟨y2, hy2⟩ : ∃ y2, y2 = y.toNat := ⟨_, rfl⟩
  have hxy : decide (x = y) = ((y1 : Int) == (y2 : Int)) := by
    rw [Bool.eq_iff_iff]
    simp only [decide_eq_true_eq, beq_iff_eq]
    constructor
    · rintro rfl; rw [hy1, hy2]
    · intro e; exact UInt8.toNat_inj.1 (by omega)
  rw [hxy]
  rw [← hy1] at e1
  rw [← hy2] at e2
  clear hxy hy1 hy2

  obtain ⟨j1, hj1⟩ : ∃ j1, n1 - 1 - k = j1 := ⟨_, rfl⟩
  obtain ⟨j2, hj2⟩ : ∃ j2, n2 - 1 - k = j2 := ⟨_, rfl⟩
  rw [hj1] at e1
  rw [hj2] at e2
  have w1 : IntKind.i64.wrap ((n1 : Int) - 1) = (n1 : Int) - 1 := by simp only [IntKind.wrap_i64]; omega
  have w2 : IntKind.i64.wrap ((n2 : Int) - 1) = (n2 : Int) - 1 := by simp only [IntKind.wrap_i64]; omega
  have w3 : IntKind.i64.wrap ((n1 : Int) - 1 - (k : Int)) = (j1 : Int) := by simp only [IntKind.wrap_i64]; omega
  have w4 : IntKind.i64.wrap ((n2 : Int) - 1 - (k : Int)) = (j2 : Int) := by simp only [IntKind.wrap_i64]; omega
  have l1 : j1 < n1 := by omega
  have l2 : j2 < n2 := by omega
  have l3 : j1 < capa := by omega
  have l4 : j2 < capb := by omega
  clear hj1 hj2 hk hk' hca hcb

  have Hb := Lib.hid (Below.refl w.heap.size w)
  go_enter Try.func38, Try.ntmps38
  go_wp2_with fail
  go_quiet (fail)
  go_wp2_with fail
  go_ret
  exact ⟨rfl, drewN_below Hb.out _⟩

/-- a function value of this kind -/
def fvB (F B2 B3 : Nat) : Value := .func (.func F) #[] #[.pointer (some ⟨B2, 0, none⟩), .pointer (some ⟨B3, 0, none⟩)]
set_option maxHeartbeats 1000000 in
theorem count2B_any {L B2 B3 m : Nat} {p : Nat → Bool} {w : World} (hm : m ≤ 1099511627776) (hL : w.heap[L]? = some (.cells #[.int .i64 (m : Int)] 3 (0, 0)))
    (hC : ∀ u, Below w.heap.size w u → ∀ k : Nat, k < m → Calls Try.prog 37 #[.int .i64 (k : Int), .pointer (some ⟨B2, 0, none⟩), .pointer (some ⟨B3, 0, none⟩)] u fun e u' => e = .returned (.bool (p k)) ∧ Below u.heap.size u u') :
    Calls Try.prog 36 #[fvB 37 B2 B3, .pointer (some ⟨L, 0, none⟩)] w fun e w' => e = .returned (.int .i64 (Edt.cnt p m : Nat)) ∧ w'.heap[L]? = some (.cells #[.int .i64 ((m - Edt.cnt p m : Nat) : Int)] 3 (0, 0)) ∧ Turns (fun j => j = L) w w' := by
  have his := fun n h1 h2 h3 => Edt.cnt_is (p := p) (m := m) (n := n) h1 h2 h3
  obtain ⟨R, hR⟩ : ∃ R, Edt.cnt p m = R := ⟨_, rfl⟩
  rw [hR] at his ⊢
  have His := Lib.hid his; clear his hR
  have HC := Lib.hid hC; clear hC
  have HL := Lib.hid hL; clear hL
  unfold fvB
  go_enter Try.func36, Try.ntmps36
  go_wp2_with fail
  go_loopw [4] (fun x wr => ∃ k : Nat, k ≤ m ∧ x = .int .i64 (k : Int) ∧ (∀ j, j < k → p j = true) ∧ Below w.heap.size w wr) (fun x _ => m - (intOf x).toNat)
  case atStart => exact ⟨0, Nat.zero_le _, rfl, fun j h => by omega, Below.refl _ _⟩
  case round =>
    obtain ⟨k, hk, rfl, hp, hb⟩ := hrel
    have hrow := Below.row hb HL.out
    have c1 := cell_of_one hrow
    by_cases hlt : k < m
    · have g1 : decide (k < m) = true := decide_eq_true hlt
      have g2 : (k : Int) < (m : Int) := by omega
      have cc := HC.out wr hb k hlt
      obtain ⟨y, hy⟩ : ∃ y, p k = y := ⟨_, rfl⟩
      rw [hy] at cc
      have Cc := Lib.hid cc; clear cc
      have Hb := Lib.hid hb; clear hb
      have Hrow := Lib.hid hrow; clear hrow
      have Hp := Lib.hid hp; clear hp
      have Hy := Lib.hid hy; clear hy
      cases y
      · have hr := His.out k hk Hp.out (fun _ => Hy.out)
        have Hr := Lib.hid hr; clear hr
        go_wp2_with fail
        refine Cc.out.mono ?_; rintro e w2 ⟨rfl, h2⟩
        have hrow2 := Below.row h2 Hrow.out
        have hbe := Hb.out.trans (h2.mono Hb.out.size)
        have c2 := cell_of_one hrow2
        have f2 := row_free hrow2 0
        have hw : IntKind.i64.wrap ((m : Int) - (k : Int)) = ((m - k : Nat) : Int) := by simp only [IntKind.wrap_i64]; omega
        have hl7 : (w2.setCell ⟨L, 0, none⟩ (.int .i64 ((m - k : Nat) : Int))).heap[L]? = some (.cells #[.int .i64 ((m - k : Nat) : Int)] 3 (0, 0)) := by
          rw [heap_setCell_same _ _ 0 _ _ _ hrow2]; rfl
        have ht7 : Turns (fun j => j = L) w (w2.setCell ⟨L, 0, none⟩ (.int .i64 ((m - k : Nat) : Int))) := (Turns.of_new hbe _).set L 0 _ (fun _ => rfl)
        have Hl7 := Lib.hid hl7; clear hl7
        have Ht7 := Lib.hid ht7; clear ht7 hrow2 h2 hbe c1
        go_wp2_with fail
        go_ret
        exact ⟨by rw [Hr.out]; rfl, by rw [Hr.out]; exact Hl7.out, Ht7.out⟩
      · have hp2 : ∀ j, j < k + 1 → p j = true := fun j h => by
          rcases Nat.lt_or_ge j k with q | q
          · exact Hp.out j q
          · rw [show j = k by omega]; exact Hy.out
        have Hp2 := Lib.hid hp2; clear hp2
        go_wp2_with fail
        refine Cc.out.mono ?_; rintro e w2 ⟨rfl, h2⟩
        have hbe := Hb.out.trans (h2.mono Hb.out.size)
        have Hbe := Lib.hid hbe; clear hbe h2
        go_wp2_with fail
        go_roundw
        case rel => exact ⟨k + 1, by omega, by go_num, Hp2.out, Hbe.out⟩
        case measure => simp [intOf]; omega
    · have g1 : decide (k < m) = false := decide_eq_false hlt
      have hkm : k = m := by omega
      subst hkm
      have hr := His.out k (Nat.le_refl _) hp (fun h => by omega)
      have f2 := row_free hrow 0
      have hw : IntKind.i64.wrap ((k : Int) - (k : Int)) = ((k - k : Nat) : Int) := by simp only [IntKind.wrap_i64]; omega
      have hl7 : (wr.setCell ⟨L, 0, none⟩ (.int .i64 ((k - k : Nat) : Int))).heap[L]? = some (.cells #[.int .i64 ((k - k : Nat) : Int)] 3 (0, 0)) := by
        rw [heap_setCell_same _ _ 0 _ _ _ hrow]; rfl
      have ht7 : Turns (fun j => j = L) w (wr.setCell ⟨L, 0, none⟩ (.int .i64 ((k - k : Nat) : Int))) := (Turns.of_new hb _).set L 0 _ (fun _ => rfl)
      have hkk : k - k = 0 := by omega
      rw [hkk] at hl7 ht7
      have Hr := Lib.hid hr; clear hr
      have Hl7 := Lib.hid hl7; clear hl7
      have Ht7 := Lib.hid ht7; clear ht7
      have Hb := Lib.hid hb; clear hb
      have Hrow := Lib.hid hrow; clear hrow
      have Hkk := Lib.hid hkk; clear hkk
      clear hp hw
      go_wp2_with fail
      go_ret
      exact ⟨by rw [Hr.out]; rfl, by rw [Hr.out, Hkk.out]; exact Hl7.out, Ht7.out⟩

set_option maxHeartbeats 1000000 in
theorem count3B_any {L B2 B3 m : Nat} {p : Nat → Bool} {w : World} (hm : m ≤ 1099511627776) (hL : w.heap[L]? = some (.cells #[.int .i64 (m : Int)] 3 (0, 0)))
    (hC : ∀ u, Below w.heap.size w u → ∀ k : Nat, k < m → Calls Try.prog 38 #[.int .i64 (k : Int), .pointer (some ⟨B2, 0, none⟩), .pointer (some ⟨B3, 0, none⟩)] u fun e u' => e = .returned (.bool (p k)) ∧ Below u.heap.size u u') :
    Calls Try.prog 36 #[fvB 38 B2 B3, .pointer (some ⟨L, 0, none⟩)] w fun e w' => e = .returned (.int .i64 (Edt.cnt p m : Nat)) ∧ w'.heap[L]? = some (.cells #[.int .i64 ((m - Edt.cnt p m : Nat) : Int)] 3 (0, 0)) ∧ Turns (fun j => j = L) w w' := by
  have his := fun n h1 h2 h3 => Edt.cnt_is (p := p) (m := m) (n := n) h1 h2 h3
  obtain ⟨R, hR⟩ : ∃ R, Edt.cnt p m = R := ⟨_, rfl⟩
  rw [hR] at his ⊢
  have His := Lib.hid his; clear his hR
  have HC := Lib.hid hC; clear hC
  have HL := Lib.hid hL; clear hL
  unfold fvB
  go_enter Try.func36, Try.ntmps36
  go_wp2_with fail
  go_loopw [4] (fun x wr => ∃ k : Nat, k ≤ m ∧ x = .int .i64 (k : Int) ∧ (∀ j, j < k → p j = true) ∧ Below w.heap.size w wr) (fun x _ => m - (intOf x).toNat)
  case atStart => exact ⟨0, Nat.zero_le _, rfl, fun j h => by omega, Below.refl _ _⟩
  case round =>
    obtain ⟨k, hk, rfl, hp, hb⟩ := hrel
    have hrow := Below.row hb HL.out
    have c1 := cell_of_one hrow
    by_cases hlt : k < m
    · have g1 : decide (k < m) = true := decide_eq_true hlt
      have g2 : (k : Int) < (m : Int) := by omega
      have cc := HC.out wr hb k hlt
      obtain ⟨y, hy⟩ : ∃ y, p k = y := ⟨_, rfl⟩
      rw [hy] at cc
      have Cc := Lib.hid cc; clear cc
      have Hb := Lib.hid hb; clear hb
      have Hrow := Lib.hid hrow; clear hrow
      have Hp := Lib.hid hp; clear hp
      have Hy := Lib.hid hy; clear hy
      cases y
      · have hr := His.out k hk Hp.out (fun _ => Hy.out)
        have Hr := Lib.hid hr; clear hr
        go_wp2_with fail
        refine Cc.out.mono ?_; rintro e w2 ⟨rfl, h2⟩
        have hrow2 := Below.row h2 Hrow.out
        have hbe := Hb.out.trans (h2.mono Hb.out.size)
        have c2 := cell_of_one hrow2
        have f2 := row_free hrow2 0
        have hw : IntKind.i64.wrap ((m : Int) - (k : Int)) = ((m - k : Nat) : Int) := by simp only [IntKind.wrap_i64]; omega
        have hl7 : (w2.setCell ⟨L, 0, none⟩ (.int .i64 ((m - k : Nat) : Int))).heap[L]? = some (.cells #[.int .i64 ((m - k : Nat) : Int)] 3 (0, 0)) := by
          rw [heap_setCell_same _ _ 0 _ _ _ hrow2]; rfl
        have ht7 : Turns (fun j => j = L) w (w2.setCell ⟨L, 0, none⟩ (.int .i64 ((m - k : Nat) : Int))) := (Turns.of_new hbe _).set L 0 _ (fun _ => rfl)
        have Hl7 := Lib.hid hl7; clear hl7
        have Ht7 := Lib.hid ht7; clear ht7 hrow2 h2 hbe c1
        go_wp2_with fail
        go_ret
        exact ⟨by rw [Hr.out]; rfl, by rw [Hr.out]; exact Hl7.out, Ht7.out⟩
      · have hp2 : ∀ j, j < k + 1 → p j = true := fun j h => by
          rcases Nat.lt_or_ge j k with q | q
          · exact Hp.out j q
          · rw [show j = k by omega]; exact Hy.out
        have Hp2 := Lib.hid hp2; clear hp2
        go_wp2_with fail
        refine Cc.out.mono ?_; rintro e w2 ⟨rfl, h2⟩
        have hbe := Hb.out.trans (h2.mono Hb.out.size)
        have Hbe := Lib.hid hbe; clear hbe h2
        go_wp2_with fail
        go_roundw
        case rel => exact ⟨k + 1, by omega, by go_num, Hp2.out, Hbe.out⟩
        case measure => simp [intOf]; omega
    · have g1 : decide (k < m) = false := decide_eq_false hlt
      have hkm : k = m := by omega
      subst hkm
      have hr := His.out k (Nat.le_refl _) hp (fun h => by omega)
      have f2 := row_free hrow 0
      have hw : IntKind.i64.wrap ((k : Int) - (k : Int)) = ((k - k : Nat) : Int) := by simp only [IntKind.wrap_i64]; omega
      have hl7 : (wr.setCell ⟨L, 0, none⟩ (.int .i64 ((k - k : Nat) : Int))).heap[L]? = some (.cells #[.int .i64 ((k - k : Nat) : Int)] 3 (0, 0)) := by
        rw [heap_setCell_same _ _ 0 _ _ _ hrow]; rfl
      have ht7 : Turns (fun j => j = L) w (wr.setCell ⟨L, 0, none⟩ (.int .i64 ((k - k : Nat) : Int))) := (Turns.of_new hb _).set L 0 _ (fun _ => rfl)
      have hkk : k - k = 0 := by omega
      rw [hkk] at hl7 ht7
      have Hr := Lib.hid hr; clear hr
      have Hl7 := Lib.hid hl7; clear hl7
      have Ht7 := Lib.hid ht7; clear ht7
      have Hb := Lib.hid hb; clear hb
      have Hrow := Lib.hid hrow; clear hrow
      have Hkk := Lib.hid hkk; clear hkk
      clear hp hw
      go_wp2_with fail
      go_ret
      exact ⟨by rw [Hr.out]; rfl, by rw [Hr.out, Hkk.out]; exact Hl7.out, Ht7.out⟩

set_option maxHeartbeats 1000000 in
theorem differB_any {va vb : Value} {la lb : List UInt8} {w : World} (ra : BRd va la w) (rb : BRd vb lb w) (hla : la.length ≤ 1099511627776) (hlb : lb.length ≤ 1099511627776) :
    Calls Try.prog 25 #[va, vb] w fun e w' => e = .returned (.tuple #[.int .i64 (Edt.pre 0 la lb : Nat), .int .i64 ((la.length - Edt.suf 0 la lb (Edt.pre 0 la lb) : Nat) : Int), .int .i64 ((lb.length - Edt.suf 0 la lb (Edt.pre 0 la lb) : Nat) : Int)]) ∧ Below w.heap.size w w' := by
  have hpl := Edt.pre_le 0 la lb
  have hsl := Edt.suf_le 0 la lb _ hpl
  have hd1 : Edt.pre 0 la lb = Edt.cnt (Edt.eqL 0 la lb) (min la.length lb.length) := rfl
  have hd2 : Edt.suf 0 la lb (Edt.pre 0 la lb) = Edt.cnt (Edt.eqR 0 la lb) (min la.length lb.length - Edt.pre 0 la lb) := rfl
  obtain ⟨P, hP⟩ : ∃ P, Edt.pre 0 la lb = P := ⟨_, rfl⟩
  rw [hP] at hpl hsl hd1 hd2 ⊢
  obtain ⟨Q, hQ⟩ : ∃ Q, Edt.suf 0 la lb P = Q := ⟨_, rfl⟩
  rw [hQ] at hsl hd2 ⊢
  clear hP hQ
  obtain ⟨n1, hn1⟩ : ∃ n1, n1 = la.length := ⟨_, rfl⟩
  obtain ⟨n2, hn2⟩ : ∃ n2, n2 = lb.length := ⟨_, rfl⟩
  rw [← hn1, ← hn2] at hd1 hd2
  rw [← hn1] at hpl hsl hla ⊢
  rw [← hn2] at hpl hsl hlb ⊢
  obtain ⟨m, hmin⟩ : ∃ m, min n1 n2 = m := ⟨_, rfl⟩
  rw [hmin] at hd1 hd2
  have hm1 : m ≤ n1 := by omega
  have hm2 : m ≤ n2 := by omega
  have hmI : min (n1 : Int) (n2 : Int) = (m : Int) := by omega
  obtain ⟨a1, c1, hva, hc1, hf1⟩ := id ra
  obtain ⟨a2, c2, hvb, hc2, hf2⟩ := id rb
  rw [← hn1] at hva
  rw [← hn2] at hvb
  -- the three boxes
  obtain ⟨u3, hu3⟩ : ∃ u3, ((w.alloc (.cells #[va] 50)).alloc (.cells #[vb] 50)).alloc (.cells #[.int .i64 (m : Int)] 3) = u3 := ⟨_, rfl⟩
  have hb1 : Below w.heap.size w (w.alloc (.cells #[va] 50)) := box_below w _
  have hb2 : Below w.heap.size w ((w.alloc (.cells #[va] 50)).alloc (.cells #[vb] 50)) := hb1.alloc (by simp) _
  have hb3 : Below w.heap.size w u3 := by rw [← hu3]; exact hb2.alloc (by simp; omega) _
  have r2 : u3.heap[w.heap.size]? = some (.cells #[va] 50 (0, 0)) := by rw [← hu3]; exact row_alloc (row_alloc (heap_alloc_new _ _) _) _
  have r3 : u3.heap[w.heap.size + 1]? = some (.cells #[vb] 50 (0, 0)) := by
    rw [← hu3]
    refine row_alloc ?_ _
    have := heap_alloc_new (w.alloc (.cells #[va] 50)) (.cells #[vb] 50)
    simp only [World.size_alloc] at this; exact this
  have r7 : u3.heap[w.heap.size + 2]? = some (.cells #[.int .i64 (m : Int)] 3 (0, 0)) := by
    rw [← hu3]
    have := heap_alloc_new ((w.alloc (.cells #[va] 50)).alloc (.cells #[vb] 50)) (.cells #[.int .i64 (m : Int)] 3)
    simp only [World.size_alloc] at this; exact this
  have k1 := count2B_any (L := w.heap.size + 2) (B2 := w.heap.size) (B3 := w.heap.size + 1) (m := m) (p := Edt.eqL 0 la lb) (w := u3) (by omega) r7
    (fun u hb k hk => pre1B_any (Below.row hb r2) (Below.row hb r3) ((ra.new hb3).new hb) ((rb.new hb3).new hb) k (by omega) (by omega))
  rw [← hd1] at k1
  have k2 : ∀ u, Turns (fun j => j = w.heap.size + 2) u3 u → u.heap[w.heap.size + 2]? = some (.cells #[.int .i64 ((m - P : Nat) : Int)] 3 (0, 0)) → Calls Try.prog 36 #[fvB 38 w.heap.size (w.heap.size + 1), .pointer (some ⟨w.heap.size + 2, 0, none⟩)] u fun e w' => e = .returned (.int .i64 (Q : Int)) ∧ w'.heap[w.heap.size + 2]? = some (.cells #[.int .i64 ((m - P - Q : Nat) : Int)] 3 (0, 0)) ∧ Turns (fun j => j = w.heap.size + 2) u w' := by
    intro u ht hr
    have hbu : Below w.heap.size w u := hb3.trans (ht.below hb3.size (fun j _ e => by omega))
    have k2 := count3B_any (L := w.heap.size + 2) (B2 := w.heap.size) (B3 := w.heap.size + 1) (m := m - P) (p := Edt.eqR 0 la lb) (w := u) (by omega) hr
      (fun z hb k hk => suf1B_any (Below.row hb (ht.same r2 (by omega))) (Below.row hb (ht.same r3 (by omega))) ((ra.new hbu).new hb) ((rb.new hbu).new hb) k (by omega) (by omega) (by omega) (by omega))
    rw [← hd2] at k2
    exact k2
  have K1 := Lib.hid k1; clear k1
  have K2 := Lib.hid k2; clear k2
  have R2 := Lib.hid r2; clear r2
  have R3 := Lib.hid r3; clear r3
  have R7 := Lib.hid r7; clear r7
  have HB3 := Lib.hid hb3; clear hb3 hb1 hb2
  have Hu3 := Lib.hid hu3; clear hu3
  clear hd1 hd2 hf1 hf2 ra rb hn1 hn2 hmin
  subst hva
  subst hvb
  unfold fvB at *
  go_enter Try.func25, Try.ntmps25
  go_wp2_with fail
  rw [Hu3.out]
  clear Hu3
  go_wp2_with fail
  refine K1.out.mono ?_; rintro e w1 ⟨rfl, hr1, ht1⟩
  have Kk := Lib.hid (K2.out w1 ht1 hr1)
  have HT1 := Lib.hid ht1
  have HR2 := Lib.hid (ht1.same R2.out (by omega))
  have HR3 := Lib.hid (ht1.same R3.out (by omega))
  have Hb4 := Lib.hid (HB3.out.trans (ht1.below HB3.out.size (fun j _ e => by omega)))
  clear ht1 hr1 K1 K2
  go_wp2_with fail
  refine Kk.out.mono ?_; rintro e w2 ⟨rfl, hr2, ht2⟩
  have d2 := cell_of_one (ht2.same HR2.out (by omega))
  have d3 := cell_of_one (ht2.same HR3.out (by omega))
  have Hb5 := Lib.hid (Hb4.out.trans (ht2.below Hb4.out.size (fun j _ e => by omega)))
  clear ht2 hr2 Kk HT1 HR2 HR3
  have hw1 : IntKind.i64.wrap ((n1 : Int) - (Q : Int)) = ((n1 - Q : Nat) : Int) := by simp only [IntKind.wrap_i64]; omega
  have hw2 : IntKind.i64.wrap ((n2 : Int) - (Q : Int)) = ((n2 - Q : Nat) : Int) := by simp only [IntKind.wrap_i64]; omega
  go_wp2_with fail
  go_quiet (fail)
  go_wp2_with fail
  go_ret3
  exact ⟨rfl, drewN_below Hb5.out _⟩
end Go.Proofs.Ytcmlcpejlmlcfaa