/-
  No cell of these rows narrows 'for every input' (looked for: loops, veiled, ifaces, maps, wideKeys, modest, calm, conditions, laid).
  DERIVED. THE GIVEN ROWS OF THIS SEAT. 4 by the template 'for every input the law returns true; each argument reads behind the call as it read before'; 0 by the template 'total and deterministic' (their statements: YtbcncedgfafpiaaTotals.lean).
  GIVEN WITH THE SEED: the statements are not yours to turn. If you find one false, say at which input.
  Laid BY PROGRAM, IN A SANDBOX (cutbox-rows.mjs): the forced cells as the released guide's own fill.sh prints them over the translation b366aca59a20bfd7… (all of the seat's roots in one cut). By AI agents, Wed Nov 11 2026. No macro, syntax, notation, axiom, sorry.
-/
import Derived.Test.YtbcncedgfafpiaaChecked
import GoSem.Claim
import GoSem.ClaimJoined
import GoSem.ClaimMapViews
import Derived.JoinedTies
import Derived.KernelRfl
namespace Go.Proofs.Ytbcncedgfafpiaa
/- THE CELL 'sum', in the pinned program and in every row, IS THE sha256 OF THE DUMP (.gsa) THAT YtbcncedgfafpiaaProg.lean LOADS. Nothing in Lean hashes anything: it is a label: what it is worth is what the hold of that sum in a sandbox is worth. -/
noncomputable def Try.pinned : Pinned := { name := "ytbcncedgfafpiaa", sum := "b366aca59a20bfd75fbc0ee5e66306bc25991683b8b0276e8138d9e2ad7cbbaf", checked := Try.checked }
namespace Rows
def none {H : Type} : Left H := { results := [], args := [] }

/-- 'maslinlaw10.LinesTell': WHATEVER THE INPUT: true; the input reads as it did. -/
def linesTellSpec : ChangeSpec := { name := "linesTell", fn := fun _ => fun
  | [d1, d2, d3] => { results := [.lit (.bool true)], args := [d1, d2, d3] }
  | _ => none }
def linesTellRow : OpenClaim := { program := "ytbcncedgfafpiaa", sum := "b366aca59a20bfd75fbc0ee5e66306bc25991683b8b0276e8138d9e2ad7cbbaf", func := "maslin/maslinlaw10.LinesTell", spec := "linesTell", inPlace := ["internal/bytealg.IndexByteString"], unfollowed := true, recurses := true, apart := false }
def LinesTellSaid : Prop := linesTellRow.holds Try.pinned (OpenSpec.ofChange linesTellSpec)

/-- ITS FALSE NEIGHBOUR: 'it returns false'. Refute it at one input. -/
def linesTellWrong : ChangeSpec := { name := "linesTell", fn := fun _ => fun
  | [d1, d2, d3] => { results := [.lit (.bool false)], args := [d1, d2, d3] }
  | _ => none }
def LinesTellWrongFalsely : Prop := linesTellRow.holds Try.pinned (OpenSpec.ofChange linesTellWrong)

/-- 'maslinlaw10.LinesTile': WHATEVER THE INPUT: true; the input reads as it did. -/
def linesTileSpec : ChangeSpec := { name := "linesTile", fn := fun _ => fun
  | [d1, d2] => { results := [.lit (.bool true)], args := [d1, d2] }
  | _ => none }
def linesTileRow : OpenClaim := { program := "ytbcncedgfafpiaa", sum := "b366aca59a20bfd75fbc0ee5e66306bc25991683b8b0276e8138d9e2ad7cbbaf", func := "maslin/maslinlaw10.LinesTile", spec := "linesTile", inPlace := ["internal/bytealg.IndexByteString"], unfollowed := true, recurses := true, apart := false }
def LinesTileSaid : Prop := linesTileRow.holds Try.pinned (OpenSpec.ofChange linesTileSpec)

/-- ITS FALSE NEIGHBOUR: 'it returns false'. Refute it at one input. -/
def linesTileWrong : ChangeSpec := { name := "linesTile", fn := fun _ => fun
  | [d1, d2] => { results := [.lit (.bool false)], args := [d1, d2] }
  | _ => none }
def LinesTileWrongFalsely : Prop := linesTileRow.holds Try.pinned (OpenSpec.ofChange linesTileWrong)

/-- 'maslinlaw10.LinesMeet': WHATEVER THE INPUT: true; the input reads as it did. -/
def linesMeetSpec : ChangeSpec := { name := "linesMeet", fn := fun _ => fun
  | [d1, d2, d3, d4] => { results := [.lit (.bool true)], args := [d1, d2, d3, d4] }
  | _ => none }
def linesMeetRow : OpenClaim := { program := "ytbcncedgfafpiaa", sum := "b366aca59a20bfd75fbc0ee5e66306bc25991683b8b0276e8138d9e2ad7cbbaf", func := "maslin/maslinlaw10.LinesMeet", spec := "linesMeet", inPlace := ["internal/bytealg.IndexByteString"], unfollowed := true, recurses := true, apart := false }
def LinesMeetSaid : Prop := linesMeetRow.holds Try.pinned (OpenSpec.ofChange linesMeetSpec)

/-- ITS FALSE NEIGHBOUR: 'it returns false'. Refute it at one input. -/
def linesMeetWrong : ChangeSpec := { name := "linesMeet", fn := fun _ => fun
  | [d1, d2, d3, d4] => { results := [.lit (.bool false)], args := [d1, d2, d3, d4] }
  | _ => none }
def LinesMeetWrongFalsely : Prop := linesMeetRow.holds Try.pinned (OpenSpec.ofChange linesMeetWrong)

/-- 'maslinlaw10.LinesAlign': WHATEVER THE INPUT: true; the input reads as it did. -/
def linesAlignSpec : ChangeSpec := { name := "linesAlign", fn := fun _ => fun
  | [d1, d2, d3] => { results := [.lit (.bool true)], args := [d1, d2, d3] }
  | _ => none }
def linesAlignRow : OpenClaim := { program := "ytbcncedgfafpiaa", sum := "b366aca59a20bfd75fbc0ee5e66306bc25991683b8b0276e8138d9e2ad7cbbaf", func := "maslin/maslinlaw10.LinesAlign", spec := "linesAlign", inPlace := ["internal/bytealg.IndexByteString"], unfollowed := true, recurses := true, apart := false }
def LinesAlignSaid : Prop := linesAlignRow.holds Try.pinned (OpenSpec.ofChange linesAlignSpec)

/-- ITS FALSE NEIGHBOUR: 'it returns false'. Refute it at one input. -/
def linesAlignWrong : ChangeSpec := { name := "linesAlign", fn := fun _ => fun
  | [d1, d2, d3] => { results := [.lit (.bool false)], args := [d1, d2, d3] }
  | _ => none }
def LinesAlignWrongFalsely : Prop := linesAlignRow.holds Try.pinned (OpenSpec.ofChange linesAlignWrong)

/- THE SECOND FORM. 'bulk': how many values and letters a reading holds, each counted each time it is reached (what is shared counts as often as it is met; a slice's spare places count too). A statement '..UptoSaid' is the law's where the arguments, and the package variables that the reading takes, are together of bulk at most 1048576: NARROWER than '..Said'. Prove '..Said' where nothing that the law and all that it calls make is longer than what came in: it says more and counts as full. Else prove '..UptoSaid'. A law counts once. -/
mutual
def uptoBulk {H : Type} : DataW H → Nat
  | .lit (.string bytes) => bytes.length + 1
  | .lit _ => 1
  | .nil => 1
  | .ptr d => uptoBulk d + 1
  | .slice elems spare => uptoBulkAll elems + uptoBulkAll spare + 1
  | .agg parts => uptoBulkAll parts + 1
  | .iface _ d => uptoBulk d + 1
  | .map entries => uptoBulkEntries entries + 1
  | .held _ => 1
def uptoBulkAll {H : Type} : List (DataW H) → Nat
  | [] => 0
  | d :: r => uptoBulk d + uptoBulkAll r
def uptoBulkEntries {H : Type} : List (Lit × DataW H) → Nat
  | [] => 0
  | x :: r => uptoBulkEntry x + uptoBulkEntries r
def uptoBulkEntry {H : Type} : Lit × DataW H → Nat
  | (.string bytes, d) => bytes.length + uptoBulk d + 1
  | (_, d) => uptoBulk d + 1
 end
def uptoSmall : (H : Type) → List (DataW H) → Bool := fun _ ds => decide (uptoBulkAll ds ≤ 1048576)
def OpenSpec.upto (s : _root_.Go.ChangeSpec) : _root_.Go.OpenSpec := { _root_.Go.OpenSpec.ofChange s with cond := some uptoSmall }

/-- 'maslinlaw10.LinesTell', WHERE WHAT IT READS IS OF BULK AT MOST 1048576: true; the input reads as it did. -/
def linesTellUptoRow : OpenClaim := { program := "ytbcncedgfafpiaa", sum := "b366aca59a20bfd75fbc0ee5e66306bc25991683b8b0276e8138d9e2ad7cbbaf", func := "maslin/maslinlaw10.LinesTell", spec := "linesTell", inPlace := ["internal/bytealg.IndexByteString"], unfollowed := true, recurses := true, apart := false, narrowed := true }
def LinesTellUptoSaid : Prop := linesTellUptoRow.holds Try.pinned (OpenSpec.upto linesTellSpec)

/-- 'maslinlaw10.LinesTile', WHERE WHAT IT READS IS OF BULK AT MOST 1048576: true; the input reads as it did. -/
def linesTileUptoRow : OpenClaim := { program := "ytbcncedgfafpiaa", sum := "b366aca59a20bfd75fbc0ee5e66306bc25991683b8b0276e8138d9e2ad7cbbaf", func := "maslin/maslinlaw10.LinesTile", spec := "linesTile", inPlace := ["internal/bytealg.IndexByteString"], unfollowed := true, recurses := true, apart := false, narrowed := true }
def LinesTileUptoSaid : Prop := linesTileUptoRow.holds Try.pinned (OpenSpec.upto linesTileSpec)

/-- 'maslinlaw10.LinesMeet', WHERE WHAT IT READS IS OF BULK AT MOST 1048576: true; the input reads as it did. -/
def linesMeetUptoRow : OpenClaim := { program := "ytbcncedgfafpiaa", sum := "b366aca59a20bfd75fbc0ee5e66306bc25991683b8b0276e8138d9e2ad7cbbaf", func := "maslin/maslinlaw10.LinesMeet", spec := "linesMeet", inPlace := ["internal/bytealg.IndexByteString"], unfollowed := true, recurses := true, apart := false, narrowed := true }
def LinesMeetUptoSaid : Prop := linesMeetUptoRow.holds Try.pinned (OpenSpec.upto linesMeetSpec)

/-- 'maslinlaw10.LinesAlign', WHERE WHAT IT READS IS OF BULK AT MOST 1048576: true; the input reads as it did. -/
def linesAlignUptoRow : OpenClaim := { program := "ytbcncedgfafpiaa", sum := "b366aca59a20bfd75fbc0ee5e66306bc25991683b8b0276e8138d9e2ad7cbbaf", func := "maslin/maslinlaw10.LinesAlign", spec := "linesAlign", inPlace := ["internal/bytealg.IndexByteString"], unfollowed := true, recurses := true, apart := false, narrowed := true }
def LinesAlignUptoSaid : Prop := linesAlignUptoRow.holds Try.pinned (OpenSpec.upto linesAlignSpec)

end Rows
end Go.Proofs.Ytbcncedgfafpiaa
