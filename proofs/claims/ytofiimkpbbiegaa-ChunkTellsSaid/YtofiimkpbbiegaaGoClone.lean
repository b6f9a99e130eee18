/-
  What strings.Clone returns.
-/
import Derived.Test.YtofiimkpbbiegaaGoAll
import Derived.Lib.Strings
import Derived.Test.YtofiimkpbbiegaaShelf
import Derived.Test.YtofiimkpbbiegaaRows
set_option linter.unusedVariables false
namespace Go.Proofs.Ytofiimkpbbiegaa
open Go.RowKit

theorem clone_any (s : ByteArray) (w : World) (hm : s.size ≤ 281474976710656) :
    Calls Try.prog 27 #[.string s] w fun e w' => e = .returned (.string s) ∧ Below w.heap.size w w' := by
  go_enter Try.func27, Try.ntmps27
  go_wp2_with (go_at_call 37; refine (Try.stringslite_Clone s _ hm).mono ?_; rintro e w' ⟨rfl, hb⟩)
  go_ret
  exact ⟨rfl, hb⟩
end Go.Proofs.Ytofiimkpbbiegaa
