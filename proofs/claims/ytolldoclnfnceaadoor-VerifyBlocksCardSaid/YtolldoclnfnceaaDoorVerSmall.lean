/-
  Roles; what an instruction may name; whether it may stand among the open blocks; what is wrong at the end.
-/
import Derived.Test.YtolldoclnfnceaaDoorVerMem
set_option linter.unusedVariables false
set_option maxRecDepth 100000
namespace Go.Proofs.YtolldoclnfnceaaDoor
open Go.RowKit

theorem isRole_any (k : Nat) (w : World) : Calls Tryd.prog 25 #[.int .u8 (k : Int)] w fun e w' => e = .returned (.bool (Ver.Role k)) ∧ w' = w := by
  by_cases h1 : k = 1
  · subst h1
    go_enter Tryd.func25, Tryd.ntmps25
    go_wp2_with fail
    go_ret
    exact ⟨rfl, rfl⟩
  by_cases h2 : k = 2
  · subst h2
    go_enter Tryd.func25, Tryd.ntmps25
    go_wp2_with fail
    go_ret
    exact ⟨rfl, rfl⟩
  by_cases h3 : k = 3
  · subst h3
    go_enter Tryd.func25, Tryd.ntmps25
    go_wp2_with fail
    go_ret
    exact ⟨rfl, rfl⟩
  have hr : Ver.Role k = false := by
    unfold Ver.Role
    rw [Bool.and_eq_false_iff, decide_eq_false_iff_not, decide_eq_false_iff_not]
    omega
  rw [hr]
  have d1 : ((k : Int) == 1) = false := beq_eq_false_iff_ne.2 (by omega)
  have d2 : ((k : Int) == 2) = false := beq_eq_false_iff_ne.2 (by omega)
  have d3 : ((k : Int) == 3) = false := beq_eq_false_iff_ne.2 (by omega)
  go_enter Tryd.func25, Tryd.ntmps25
  go_wp2_with fail
  go_ret
  exact ⟨rfl, rfl⟩
theorem inputs_any (k : Nat) (w : World) : Calls Tryd.prog 44 #[.int .u8 (k : Int)] w fun e w' => e = .returned (.int .i64 (Ver.inputs k : Nat)) ∧ w' = w := by
  by_cases h1 : k = 1
  · subst h1
    go_enter Tryd.func44, Tryd.ntmps44
    go_wp2_with fail
    go_ret
    exact ⟨rfl, rfl⟩
  have hr : Ver.inputs k = 2 := if_neg h1
  rw [hr]
  have d1 : ((k : Int) == 1) = false := beq_eq_false_iff_ne.2 (by omega)
  go_enter Tryd.func44, Tryd.ntmps44
  go_wp2_with fail
  go_ret
  exact ⟨rfl, rfl⟩
/-- the kinds that a role leaves -/
def leftK (k : Nat) : List UInt8 := if k = 1 then [] else [84]
theorem left_any (k : Nat) (w : World) : Calls Tryd.prog 40 #[.int .u8 (k : Int)] w fun e w' => e = .returned (.string (Ver.kb (leftK k))) ∧ w' = w := by
  by_cases h1 : k = 1
  · subst h1
    go_enter Tryd.func40, Tryd.ntmps40
    go_wp2_with fail
    go_ret
    exact ⟨rfl, rfl⟩
  have hr : leftK k = [84] := if_neg h1
  rw [hr]
  have d1 : ((k : Int) == 1) = false := beq_eq_false_iff_ne.2 (by omega)
  go_enter Tryd.func40, Tryd.ntmps40
  go_wp2_with fail
  go_ret
  exact ⟨rfl, rfl⟩
theorem top_any (b t cap : Nat) (ht : t ≤ 1000) (w : World) : Calls Tryd.prog 45 #[.slice (some ⟨b, 0, none⟩) (t + 1) cap] w fun e w' => e = .returned (.pointer (some ⟨b, t * 4, none⟩)) ∧ w' = w := by
  have h1 : ((t + 1 : Nat) : Int) - 1 = (t : Int) := by omega
  go_enter Tryd.func45, Tryd.ntmps45
  go_wp2_with fail
  go_ret
  exact ⟨rfl, rfl⟩
end Go.Proofs.YtolldoclnfnceaaDoor
