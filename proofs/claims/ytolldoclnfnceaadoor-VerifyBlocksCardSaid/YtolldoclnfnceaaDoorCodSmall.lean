/-
  Whether an instruction may be: by the program, and by the document.
-/
import Derived.Test.YtolldoclnfnceaaDoorCodMem
set_option linter.unusedVariables false
set_option maxRecDepth 100000
namespace Cod
def hasN (k : Nat) : Bool := k == 1 || k == 2 || k == 3 || k == 17 || k == 18 || k == 22
theorem has_is (op : UInt8) : has op = hasN op.toNat := by
  have h : ∀ k : Nat, k < 256 → has (UInt8.ofNat k) = hasN k := by decide +kernel
  have := h op.toNat op.toNat_lt
  rwa [UInt8.ofNat_toNat] at this
theorem hasN_none {k : Nat} (h1 : ¬ k = 1) (h2 : ¬ k = 2) (h3 : ¬ k = 3) (h4 : ¬ k = 17) (h5 : ¬ k = 18) (h6 : ¬ k = 22) : hasN k = false := by
  simp [hasN, h1, h2, h3, h4, h5, h6]
def insN (a b : Nat) : Bool := decide (1 ≤ a) && (decide (a ≤ 23) && (b == 0 || hasN a))
theorem ins_is (x : In) : ins x = insN x.1.toNat x.2.toNat := by
  unfold ins insN
  rw [has_is]
  congr 3
  rw [Bool.eq_iff_iff, beq_iff_eq, beq_iff_eq]
  exact ⟨fun h => by rw [h]; rfl, fun h => UInt8.toNat_inj.1 h⟩
end Cod
namespace Go.Proofs.YtolldoclnfnceaaDoor
open Go.RowKit

theorem hasArg_any (k : Nat) (w : World) : Calls Tryd.prog 43 #[.int .u8 (k : Int)] w fun e w' => e = .returned (.bool (Cod.hasN k)) ∧ w' = w := by
  by_cases h1 : k = 1
  · subst h1
    go_enter Tryd.func43, Tryd.ntmps43
    go_wp2_with fail
    go_ret
    exact ⟨rfl, rfl⟩
  by_cases h2 : k = 2
  · subst h2
    go_enter Tryd.func43, Tryd.ntmps43
    go_wp2_with fail
    go_ret
    exact ⟨rfl, rfl⟩
  by_cases h3 : k = 3
  · subst h3
    go_enter Tryd.func43, Tryd.ntmps43
    go_wp2_with fail
    go_ret
    exact ⟨rfl, rfl⟩
  by_cases h4 : k = 17
  · subst h4
    go_enter Tryd.func43, Tryd.ntmps43
    go_wp2_with fail
    go_ret
    exact ⟨rfl, rfl⟩
  by_cases h5 : k = 18
  · subst h5
    go_enter Tryd.func43, Tryd.ntmps43
    go_wp2_with fail
    go_ret
    exact ⟨rfl, rfl⟩
  by_cases h6 : k = 22
  · subst h6
    go_enter Tryd.func43, Tryd.ntmps43
    go_wp2_with fail
    go_ret
    exact ⟨rfl, rfl⟩
  rw [Cod.hasN_none h1 h2 h3 h4 h5 h6]
  have d1 : ((k : Int) == 1) = false := beq_eq_false_iff_ne.2 (by omega)
  have d2 : ((k : Int) == 2) = false := beq_eq_false_iff_ne.2 (by omega)
  have d3 : ((k : Int) == 3) = false := beq_eq_false_iff_ne.2 (by omega)
  have d4 : ((k : Int) == 17) = false := beq_eq_false_iff_ne.2 (by omega)
  have d5 : ((k : Int) == 18) = false := beq_eq_false_iff_ne.2 (by omega)
  have d6 : ((k : Int) == 22) = false := beq_eq_false_iff_ne.2 (by omega)
  go_enter Tryd.func43, Tryd.ntmps43
  go_wp2_with fail
  go_ret
  exact ⟨rfl, rfl⟩

theorem refHas12_any (k : Nat) (w : World) : Calls Tryd.prog 41 #[.int .u8 (k : Int)] w fun e w' => e = .returned (.bool (Cod.hasN k)) ∧ w' = w := by
  by_cases h1 : k = 1
  · subst h1
    go_enter Tryd.func41, Tryd.ntmps41
    go_wp2_with fail
    go_ret
    exact ⟨rfl, rfl⟩
  by_cases h2 : k = 2
  · subst h2
    go_enter Tryd.func41, Tryd.ntmps41
    go_wp2_with fail
    go_ret
    exact ⟨rfl, rfl⟩
  by_cases h3 : k = 3
  · subst h3
    go_enter Tryd.func41, Tryd.ntmps41
    go_wp2_with fail
    go_ret
    exact ⟨rfl, rfl⟩
  by_cases h4 : k = 17
  · subst h4
    go_enter Tryd.func41, Tryd.ntmps41
    go_wp2_with fail
    go_ret
    exact ⟨rfl, rfl⟩
  by_cases h5 : k = 18
  · subst h5
    go_enter Tryd.func41, Tryd.ntmps41
    go_wp2_with fail
    go_ret
    exact ⟨rfl, rfl⟩
  by_cases h6 : k = 22
  · subst h6
    go_enter Tryd.func41, Tryd.ntmps41
    go_wp2_with fail
    go_ret
    exact ⟨rfl, rfl⟩
  rw [Cod.hasN_none h1 h2 h3 h4 h5 h6]
  have d1 : ((k : Int) == 1) = false := beq_eq_false_iff_ne.2 (by omega)
  have d2 : ((k : Int) == 2) = false := beq_eq_false_iff_ne.2 (by omega)
  have d3 : ((k : Int) == 3) = false := beq_eq_false_iff_ne.2 (by omega)
  have d4 : ((k : Int) == 17) = false := beq_eq_false_iff_ne.2 (by omega)
  have d5 : ((k : Int) == 18) = false := beq_eq_false_iff_ne.2 (by omega)
  have d6 : ((k : Int) == 22) = false := beq_eq_false_iff_ne.2 (by omega)
  go_enter Tryd.func41, Tryd.ntmps41
  go_wp2_with fail
  go_ret
  exact ⟨rfl, rfl⟩

set_option maxHeartbeats 1000000 in
theorem valid_anyN (a b : Nat) (ha : a < 256) (hb0 : b < 256) (w : World) : Calls Tryd.prog 33 #[.agg #[.int .u8 (a : Int), .int .u8 (b : Int)]] w fun e w' => e = .returned (.bool (Cod.insN a b)) ∧ Below w.heap.size w w' := by
  obtain ⟨R, hR⟩ : ∃ R, R = Cod.insN a b := ⟨_, rfl⟩
  rw [← hR]
  unfold Cod.insN at hR
  have hc := fun u => hasArg_any a u
  obtain ⟨A, hA⟩ : ∃ A : Int, A = (a : Int) := ⟨_, rfl⟩
  obtain ⟨B, hB⟩ : ∃ B : Int, B = (b : Int) := ⟨_, rfl⟩
  rw [← hA, ← hB]
  rw [← hA] at hc
  have hb := obj_below w (.cells #[.int .u8 A, .int .u8 B] 48)
  have Hb := Lib.hid hb; clear hb
  have HC := Lib.hid hc; clear hc
  by_cases g1 : 1 ≤ a
  · have d1 : decide ((1 : Int) ≤ A) = true := decide_eq_true (by omega)
    by_cases g2 : a ≤ 23
    · have d2 : decide (A ≤ (23 : Int)) = true := decide_eq_true (by omega)
      by_cases g3 : b = 0
      · have d3 : (B == 0) = true := beq_iff_eq.2 (by omega)
        have d4 : decide (B = 0) = true := decide_eq_true (by omega)
        simp only [g1, g2, g3, decide_true, beq_self_eq_true, Bool.true_or, Bool.and_true] at hR
        subst hR
        clear hA hB ha hb0 g1 g2 g3
        go_enter Tryd.func33, Tryd.ntmps33
        go_wp2_with fail
        go_ret
        exact ⟨rfl, Hb.out⟩
      · have d3 : (B == 0) = false := beq_eq_false_iff_ne.2 (by omega)
        have d4 : decide (B = 0) = false := decide_eq_false (by omega)
        have e3 : (b == 0) = false := beq_eq_false_iff_ne.2 g3
        simp only [g1, g2, e3, decide_true, Bool.false_or, Bool.true_and] at hR
        subst hR
        clear hA hB ha hb0 g1 g2 g3 e3
        go_enter Tryd.func33, Tryd.ntmps33
        go_wp2_with fail
        refine (HC.out _).mono ?_; rintro e w1 ⟨rfl, rfl⟩
        go_wp2_with fail
        go_ret
        exact ⟨rfl, Hb.out⟩
    · have d2 : decide (A ≤ (23 : Int)) = false := decide_eq_false (by omega)
      have e2 : decide (a ≤ 23) = false := decide_eq_false g2
      simp only [g1, e2, decide_true, Bool.false_and, Bool.and_false] at hR
      subst hR
      clear hA hB ha hb0 g1 g2 e2
      go_enter Tryd.func33, Tryd.ntmps33
      go_wp2_with fail
      go_ret
      exact ⟨rfl, Hb.out⟩
  · have d1 : decide ((1 : Int) ≤ A) = false := decide_eq_false (by omega)
    have e1 : decide (1 ≤ a) = false := decide_eq_false g1
    simp only [e1, Bool.false_and] at hR
    subst hR
    clear hA hB ha hb0 g1 e1
    go_enter Tryd.func33, Tryd.ntmps33
    go_wp2_with fail
    go_ret
    exact ⟨rfl, Hb.out⟩
theorem valid_any (x : Cod.In) (w : World) : Calls Tryd.prog 33 #[insV x] w fun e w' => e = .returned (.bool (Cod.ins x)) ∧ Below w.heap.size w w' := by
  rw [Cod.ins_is]
  exact valid_anyN _ _ x.1.toNat_lt x.2.toNat_lt w

set_option maxHeartbeats 1000000 in
theorem refIns_anyN (a b : Nat) (ha : a < 256) (hb0 : b < 256) (w : World) : Calls Tryd.prog 28 #[.agg #[.int .u8 (a : Int), .int .u8 (b : Int)]] w fun e w' => e = .returned (.bool (Cod.insN a b)) ∧ Below w.heap.size w w' := by
  obtain ⟨R, hR⟩ : ∃ R, R = Cod.insN a b := ⟨_, rfl⟩
  rw [← hR]
  unfold Cod.insN at hR
  have hc := fun u => refHas12_any a u
  obtain ⟨A, hA⟩ : ∃ A : Int, A = (a : Int) := ⟨_, rfl⟩
  obtain ⟨B, hB⟩ : ∃ B : Int, B = (b : Int) := ⟨_, rfl⟩
  rw [← hA, ← hB]
  rw [← hA] at hc
  have hb := obj_below w (.cells #[.int .u8 A, .int .u8 B] 48)
  have Hb := Lib.hid hb; clear hb
  have HC := Lib.hid hc; clear hc
  by_cases g1 : 1 ≤ a
  · have d1 : decide ((1 : Int) ≤ A) = true := decide_eq_true (by omega)
    by_cases g2 : a ≤ 23
    · have d2 : decide (A ≤ (23 : Int)) = true := decide_eq_true (by omega)
      by_cases g3 : b = 0
      · have d3 : (B == 0) = true := beq_iff_eq.2 (by omega)
        have d4 : decide (B = 0) = true := decide_eq_true (by omega)
        simp only [g1, g2, g3, decide_true, beq_self_eq_true, Bool.true_or, Bool.and_true] at hR
        subst hR
        clear hA hB ha hb0 g1 g2 g3
        go_enter Tryd.func28, Tryd.ntmps28
        go_wp2_with fail
        go_ret
        exact ⟨rfl, Hb.out⟩
      · have d3 : (B == 0) = false := beq_eq_false_iff_ne.2 (by omega)
        have d4 : decide (B = 0) = false := decide_eq_false (by omega)
        have e3 : (b == 0) = false := beq_eq_false_iff_ne.2 g3
        simp only [g1, g2, e3, decide_true, Bool.false_or, Bool.true_and] at hR
        subst hR
        clear hA hB ha hb0 g1 g2 g3 e3
        go_enter Tryd.func28, Tryd.ntmps28
        go_wp2_with fail
        refine (HC.out _).mono ?_; rintro e w1 ⟨rfl, rfl⟩
        go_wp2_with fail
        go_ret
        exact ⟨rfl, Hb.out⟩
    · have d2 : decide (A ≤ (23 : Int)) = false := decide_eq_false (by omega)
      have e2 : decide (a ≤ 23) = false := decide_eq_false g2
      simp only [g1, e2, decide_true, Bool.false_and, Bool.and_false] at hR
      subst hR
      clear hA hB ha hb0 g1 g2 e2
      go_enter Tryd.func28, Tryd.ntmps28
      go_wp2_with fail
      go_ret
      exact ⟨rfl, Hb.out⟩
  · have d1 : decide ((1 : Int) ≤ A) = false := decide_eq_false (by omega)
    have e1 : decide (1 ≤ a) = false := decide_eq_false g1
    simp only [e1, Bool.false_and] at hR
    subst hR
    clear hA hB ha hb0 g1 e1
    go_enter Tryd.func28, Tryd.ntmps28
    go_wp2_with fail
    go_ret
    exact ⟨rfl, Hb.out⟩
theorem refIns_any (x : Cod.In) (w : World) : Calls Tryd.prog 28 #[insV x] w fun e w' => e = .returned (.bool (Cod.ins x)) ∧ Below w.heap.size w w' := by
  rw [Cod.ins_is]
  exact refIns_anyN _ _ x.1.toNat_lt x.2.toNat_lt w
end Go.Proofs.YtolldoclnfnceaaDoor
