/-
  Operations of a drawn region that a guard leaves out.
-/
import Derived.Test.YtbcncedgfafpiaaRabA
set_option linter.unusedVariables false
namespace Go.Proofs.Ytbcncedgfafpiaa
open Go.RowKit

section
variable {P : Program} {ops : Array Oper} {Q : Exit → Act → World → Prop} {S : World → Prop}
theorem take_skip {L : Act → Prop} {o : Oper} {l : List Oper} {a : Act} (hw : Region.wanted o (yielded ops a.tmps) = false) (hK : wpTake P ops S L l (a.put o.dst undef)) : wpTake P ops S L (o :: l) a := ⟨undef, .inr ⟨hw, rfl⟩, hK⟩
theorem midk_skip {K : Act → World → Prop} {o : Oper} {l : List Oper} {a : Act} {w : World} (hw : Region.wanted o (yielded ops a.tmps) = false) (hS : S w) (hK : wpMidK P ops Q S K l (a.put o.dst undef) w) : wpMidK P ops Q S K (o :: l) a w := by
  unfold wpMidK
  rw [if_neg (by rw [hw]; decide)]
  exact ⟨hS, hK⟩
end
end Go.Proofs.Ytbcncedgfafpiaa
