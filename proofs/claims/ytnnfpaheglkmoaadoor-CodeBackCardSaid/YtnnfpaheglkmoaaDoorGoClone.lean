/-
  What strings.Clone returns.
-/
import Derived.Test.YtnnfpaheglkmoaaDoorGoAll
import Derived.Lib.Strings
import Derived.Test.YtnnfpaheglkmoaaDoorShelf
import Derived.Test.YtnnfpaheglkmoaaDoorRows
set_option linter.unusedVariables false
namespace Go.Proofs.YtnnfpaheglkmoaaDoor
open Go.RowKit

theorem clone_any (s : ByteArray) (w : World) (hm : s.size ≤ 281474976710656) :
    Calls Tryd.prog 37 #[.string s] w fun e w' => e = .returned (.string s) ∧ Below w.heap.size w w' := by
  go_enter Tryd.func37, Tryd.ntmps37
  go_wp2_with (go_at_call 43; refine (Tryd.stringslite_Clone s _ hm).mono ?_; rintro e w' ⟨rfl, hb⟩)
  go_ret
  exact ⟨rfl, hb⟩
end Go.Proofs.YtnnfpaheglkmoaaDoor
