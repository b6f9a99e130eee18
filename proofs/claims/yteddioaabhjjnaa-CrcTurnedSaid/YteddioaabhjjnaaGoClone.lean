/-
  What strings.Clone returns.
-/
import Derived.Test.YteddioaabhjjnaaGoBase
import Derived.Lib.Strings
import Derived.Test.YteddioaabhjjnaaShelf
import Derived.Test.YteddioaabhjjnaaRows
set_option linter.unusedVariables false
namespace Go.Proofs.Yteddioaabhjjnaa
open Go.RowKit

theorem clone_any (s : ByteArray) (w : World) (hm : s.size ≤ 281474976710656) :
    Calls Try.prog 16 #[.string s] w fun e w' => e = .returned (.string s) ∧ Below w.heap.size w w' := by
  go_enter Try.func16, Try.ntmps16
  go_wp2_with (go_at_call 21; refine (Try.stringslite_Clone s _ hm).mono ?_; rintro e w' ⟨rfl, hb⟩)
  go_ret
  exact ⟨rfl, hb⟩
end Go.Proofs.Yteddioaabhjjnaa
