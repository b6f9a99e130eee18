/-
  No cell of these rows narrows 'for every input' (looked for: loops, veiled, ifaces, maps, wideKeys, modest, calm, conditions, laid).
  DERIVED. THE GIVEN ROWS OF THIS SEAT. 4 by the template 'for every input the law returns true; each argument reads behind the call as it read before'; 0 by the template 'total and deterministic' (their statements: YtofiimkpbbiegaaTotals.lean).
  GIVEN WITH THE SEED: the statements are not yours to turn. If you find one false, say at which input.
  Laid BY PROGRAM, IN A SANDBOX (cutbox-rows.mjs): the forced cells as the released guide's own fill.sh prints them over the translation bf4d047a3493619e… (all of the seat's roots in one cut). By AI agents, Wed Nov 11 2026. No macro, syntax, notation, axiom, sorry.
-/
import Derived.Test.YtofiimkpbbiegaaChecked
import GoSem.Claim
import GoSem.ClaimJoined
import GoSem.ClaimMapViews
import Derived.JoinedTies
import Derived.KernelRfl
namespace Go.Proofs.Ytofiimkpbbiegaa
/- THE CELL 'sum', in the pinned program and in every row, IS THE sha256 OF THE DUMP (.gsa) THAT YtofiimkpbbiegaaProg.lean LOADS. Nothing in Lean hashes anything: it is a label: what it is worth is what the hold of that sum in a sandbox is worth. -/
noncomputable def Try.pinned : Pinned := { name := "ytofiimkpbbiegaa", sum := "bf4d047a3493619e04b5689c079e24a67d28dae65ff6a7711ea72a0ea3f6da9c", checked := Try.checked }
namespace Rows
def none {H : Type} : Left H := { results := [], args := [] }

/-- 'maslinlaw09.ChunkTells': WHATEVER THE INPUT: true; the input reads as it did. -/
def chunkTellsSpec : ChangeSpec := { name := "chunkTells", fn := fun _ => fun
  | [d1, d2, d3] => { results := [.lit (.bool true)], args := [d1, d2, d3] }
  | _ => none }
def chunkTellsRow : OpenClaim := { program := "ytofiimkpbbiegaa", sum := "bf4d047a3493619e04b5689c079e24a67d28dae65ff6a7711ea72a0ea3f6da9c", func := "maslin/maslinlaw09.ChunkTells", spec := "chunkTells", unfollowed := true, recurses := true, apart := false }
def ChunkTellsSaid : Prop := chunkTellsRow.holds Try.pinned (OpenSpec.ofChange chunkTellsSpec)

/-- ITS FALSE NEIGHBOUR: 'it returns false'. Refute it at one input. -/
def chunkTellsWrong : ChangeSpec := { name := "chunkTells", fn := fun _ => fun
  | [d1, d2, d3] => { results := [.lit (.bool false)], args := [d1, d2, d3] }
  | _ => none }
def ChunkTellsWrongFalsely : Prop := chunkTellsRow.holds Try.pinned (OpenSpec.ofChange chunkTellsWrong)

/-- 'maslinlaw09.ChunkTiles': WHATEVER THE INPUT: true; the input reads as it did. -/
def chunkTilesSpec : ChangeSpec := { name := "chunkTiles", fn := fun _ => fun
  | [d1, d2] => { results := [.lit (.bool true)], args := [d1, d2] }
  | _ => none }
def chunkTilesRow : OpenClaim := { program := "ytofiimkpbbiegaa", sum := "bf4d047a3493619e04b5689c079e24a67d28dae65ff6a7711ea72a0ea3f6da9c", func := "maslin/maslinlaw09.ChunkTiles", spec := "chunkTiles", unfollowed := true, recurses := true, apart := false }
def ChunkTilesSaid : Prop := chunkTilesRow.holds Try.pinned (OpenSpec.ofChange chunkTilesSpec)

/-- ITS FALSE NEIGHBOUR: 'it returns false'. Refute it at one input. -/
def chunkTilesWrong : ChangeSpec := { name := "chunkTiles", fn := fun _ => fun
  | [d1, d2] => { results := [.lit (.bool false)], args := [d1, d2] }
  | _ => none }
def ChunkTilesWrongFalsely : Prop := chunkTilesRow.holds Try.pinned (OpenSpec.ofChange chunkTilesWrong)

/-- 'maslinlaw09.ChunkMeets': WHATEVER THE INPUT: true; the input reads as it did. -/
def chunkMeetsSpec : ChangeSpec := { name := "chunkMeets", fn := fun _ => fun
  | [d1, d2, d3, d4] => { results := [.lit (.bool true)], args := [d1, d2, d3, d4] }
  | _ => none }
def chunkMeetsRow : OpenClaim := { program := "ytofiimkpbbiegaa", sum := "bf4d047a3493619e04b5689c079e24a67d28dae65ff6a7711ea72a0ea3f6da9c", func := "maslin/maslinlaw09.ChunkMeets", spec := "chunkMeets", unfollowed := true, recurses := true, apart := false }
def ChunkMeetsSaid : Prop := chunkMeetsRow.holds Try.pinned (OpenSpec.ofChange chunkMeetsSpec)

/-- ITS FALSE NEIGHBOUR: 'it returns false'. Refute it at one input. -/
def chunkMeetsWrong : ChangeSpec := { name := "chunkMeets", fn := fun _ => fun
  | [d1, d2, d3, d4] => { results := [.lit (.bool false)], args := [d1, d2, d3, d4] }
  | _ => none }
def ChunkMeetsWrongFalsely : Prop := chunkMeetsRow.holds Try.pinned (OpenSpec.ofChange chunkMeetsWrong)

/-- 'maslinlaw09.ChunkBegins': WHATEVER THE INPUT: true; the input reads as it did. -/
def chunkBeginsSpec : ChangeSpec := { name := "chunkBegins", fn := fun _ => fun
  | [d1, d2, d3, d4] => { results := [.lit (.bool true)], args := [d1, d2, d3, d4] }
  | _ => none }
def chunkBeginsRow : OpenClaim := { program := "ytofiimkpbbiegaa", sum := "bf4d047a3493619e04b5689c079e24a67d28dae65ff6a7711ea72a0ea3f6da9c", func := "maslin/maslinlaw09.ChunkBegins", spec := "chunkBegins", unfollowed := true, recurses := true, apart := false }
def ChunkBeginsSaid : Prop := chunkBeginsRow.holds Try.pinned (OpenSpec.ofChange chunkBeginsSpec)

/-- ITS FALSE NEIGHBOUR: 'it returns false'. Refute it at one input. -/
def chunkBeginsWrong : ChangeSpec := { name := "chunkBegins", fn := fun _ => fun
  | [d1, d2, d3, d4] => { results := [.lit (.bool false)], args := [d1, d2, d3, d4] }
  | _ => none }
def ChunkBeginsWrongFalsely : Prop := chunkBeginsRow.holds Try.pinned (OpenSpec.ofChange chunkBeginsWrong)

/- THE SECOND FORM. 'bulk': how many values and letters a reading holds, each counted each time it is reached (what is shared counts as often as it is met; a slice's spare places count too). A statement '..UptoSaid' is the law's where the arguments, and the package variables that the reading takes, are together of bulk at most 1048576: NARROWER than '..Said'. Prove '..Said' where nothing that the law and all that it calls make is longer than what came in: it says more and counts as full. Else prove '..UptoSaid'. A law counts once. -/
mutual
def uptoBulk {H : Type} : DataW H → Nat
  | .lit (.string bytes) => bytes.length + 1
  | .lit _ => 1
  | .nil => 1
  | .ptr d => uptoBulk d + 1
  | .slice elems spare => uptoBulkAll elems + uptoBulkAll spare + 1
  | .agg parts => uptoBulkAll parts + 1
  | .iface _ d => uptoBulk d + 1
  | .map entries => uptoBulkEntries entries + 1
  | .held _ => 1
def uptoBulkAll {H : Type} : List (DataW H) → Nat
  | [] => 0
  | d :: r => uptoBulk d + uptoBulkAll r
def uptoBulkEntries {H : Type} : List (Lit × DataW H) → Nat
  | [] => 0
  | x :: r => uptoBulkEntry x + uptoBulkEntries r
def uptoBulkEntry {H : Type} : Lit × DataW H → Nat
  | (.string bytes, d) => bytes.length + uptoBulk d + 1
  | (_, d) => uptoBulk d + 1
 end
def uptoSmall : (H : Type) → List (DataW H) → Bool := fun _ ds => decide (uptoBulkAll ds ≤ 1048576)
def OpenSpec.upto (s : _root_.Go.ChangeSpec) : _root_.Go.OpenSpec := { _root_.Go.OpenSpec.ofChange s with cond := some uptoSmall }

/-- 'maslinlaw09.ChunkTells', WHERE WHAT IT READS IS OF BULK AT MOST 1048576: true; the input reads as it did. -/
def chunkTellsUptoRow : OpenClaim := { program := "ytofiimkpbbiegaa", sum := "bf4d047a3493619e04b5689c079e24a67d28dae65ff6a7711ea72a0ea3f6da9c", func := "maslin/maslinlaw09.ChunkTells", spec := "chunkTells", unfollowed := true, recurses := true, apart := false, narrowed := true }
def ChunkTellsUptoSaid : Prop := chunkTellsUptoRow.holds Try.pinned (OpenSpec.upto chunkTellsSpec)

/-- 'maslinlaw09.ChunkTiles', WHERE WHAT IT READS IS OF BULK AT MOST 1048576: true; the input reads as it did. -/
def chunkTilesUptoRow : OpenClaim := { program := "ytofiimkpbbiegaa", sum := "bf4d047a3493619e04b5689c079e24a67d28dae65ff6a7711ea72a0ea3f6da9c", func := "maslin/maslinlaw09.ChunkTiles", spec := "chunkTiles", unfollowed := true, recurses := true, apart := false, narrowed := true }
def ChunkTilesUptoSaid : Prop := chunkTilesUptoRow.holds Try.pinned (OpenSpec.upto chunkTilesSpec)

/-- 'maslinlaw09.ChunkMeets', WHERE WHAT IT READS IS OF BULK AT MOST 1048576: true; the input reads as it did. -/
def chunkMeetsUptoRow : OpenClaim := { program := "ytofiimkpbbiegaa", sum := "bf4d047a3493619e04b5689c079e24a67d28dae65ff6a7711ea72a0ea3f6da9c", func := "maslin/maslinlaw09.ChunkMeets", spec := "chunkMeets", unfollowed := true, recurses := true, apart := false, narrowed := true }
def ChunkMeetsUptoSaid : Prop := chunkMeetsUptoRow.holds Try.pinned (OpenSpec.upto chunkMeetsSpec)

/-- 'maslinlaw09.ChunkBegins', WHERE WHAT IT READS IS OF BULK AT MOST 1048576: true; the input reads as it did. -/
def chunkBeginsUptoRow : OpenClaim := { program := "ytofiimkpbbiegaa", sum := "bf4d047a3493619e04b5689c079e24a67d28dae65ff6a7711ea72a0ea3f6da9c", func := "maslin/maslinlaw09.ChunkBegins", spec := "chunkBegins", unfollowed := true, recurses := true, apart := false, narrowed := true }
def ChunkBeginsUptoSaid : Prop := chunkBeginsUptoRow.holds Try.pinned (OpenSpec.upto chunkBeginsSpec)

end Rows
end Go.Proofs.Ytofiimkpbbiegaa
