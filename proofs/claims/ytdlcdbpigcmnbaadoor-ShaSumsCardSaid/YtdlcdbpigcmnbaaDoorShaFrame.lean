/-
  What the laid table gives; the world in which the tables lie as the program's own text lays them.
-/
import Derived.Test.YtdlcdbpigcmnbaaDoorShaAlive
import Derived.Test.YtdlcdbpigcmnbaaDoorGoTable
set_option linter.unusedVariables false
namespace Go.Proofs.YtdlcdbpigcmnbaaDoor
open Go.ChangeShapes Go.WideShapes Go.ChangeAt Go.RowKit

theorem own : ownKnob Tryd.prog.godebug = none := by kernel_rfl
theorem laidOut : laidOutB Tryd.prog = true := by kernel_rfl
abbrev laidList : List (String × DataW Unit) := [("maslin/sha.roundWords", Rows.laid_maslin_sha_roundWords)]
theorem door_met (os : Os) (args : Array Value) : laidMetH Tryd.prog laidList ((World.doorLaid Tryd.prog 400 os).forCall (fun _ _ => 0) ⟨#[], args, []⟩).memory :=
  laidMetH_of_parts3 (fuel := 8) (laidMet_of_run' 8 (by kernel_rfl) (by kernel_rfl)) (by kernel_rfl) (by kernel_rfl)
theorem kw_of_laid {W : World} (h : laidMetH Tryd.prog laidList W) : Kw W := fun j hj => by
  have hl : (Sha.K0.map fun n : Nat => (n : Int)).length = 64 := rfl
  have h1 := table_int (P := Tryd.prog) h (by kernel_rfl) (g := 0) (t := 73) (by kernel_rfl) (by kernel_rfl) Tryd.underlying73 Tryd.underlying51 (by kernel_rfl) (Sha.K0.map fun n : Nat => (n : Int)) (by kernel_rfl) j (by rw [hl]; exact hj)
  rw [h1, List.getElem_map]
  congr 3
  rw [List.getD_eq_getElem?_getD, List.getElem?_eq_getElem (show j < Sha.K0.length from hj)]
  rfl
end Go.Proofs.YtdlcdbpigcmnbaaDoor
