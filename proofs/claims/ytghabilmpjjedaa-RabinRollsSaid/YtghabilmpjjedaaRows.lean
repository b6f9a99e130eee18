/-
  No cell of these rows narrows 'for every input' (looked for: loops, veiled, ifaces, maps, wideKeys, modest, calm, conditions, laid).
  DERIVED. THE GIVEN ROWS OF THIS SEAT. 4 by the template 'for every input the law returns true; each argument reads behind the call as it read before'; 0 by the template 'total and deterministic' (their statements: YtghabilmpjjedaaTotals.lean).
  GIVEN WITH THE SEED: the statements are not yours to turn. If you find one false, say at which input.
  Laid BY PROGRAM, IN A SANDBOX (cutbox-rows.mjs): the forced cells as the released guide's own fill.sh prints them over the translation 33a36531825a88ae… (all of the seat's roots in one cut). By AI agents, Wed Nov 11 2026. No macro, syntax, notation, axiom, sorry.
-/
import Derived.Test.YtghabilmpjjedaaChecked
import GoSem.Claim
import GoSem.ClaimJoined
import GoSem.ClaimMapViews
import Derived.JoinedTies
import Derived.KernelRfl
namespace Go.Proofs.Ytghabilmpjjedaa
/- THE CELL 'sum', in the pinned program and in every row, IS THE sha256 OF THE DUMP (.gsa) THAT YtghabilmpjjedaaProg.lean LOADS. Nothing in Lean hashes anything: it is a label: what it is worth is what the hold of that sum in a sandbox is worth. -/
noncomputable def Try.pinned : Pinned := { name := "ytghabilmpjjedaa", sum := "33a36531825a88ae330bb53a115ab0e9684f7a39f4988455deebe0917db6cf0b", checked := Try.checked }
namespace Rows
def none {H : Type} : Left H := { results := [], args := [] }

/-- 'maslinlaw08.RabinTells': WHATEVER THE INPUT: true; the input reads as it did. -/
def rabinTellsSpec : ChangeSpec := { name := "rabinTells", fn := fun _ => fun
  | [d1, d2, d3] => { results := [.lit (.bool true)], args := [d1, d2, d3] }
  | _ => none }
def rabinTellsRow : OpenClaim := { program := "ytghabilmpjjedaa", sum := "33a36531825a88ae330bb53a115ab0e9684f7a39f4988455deebe0917db6cf0b", func := "maslin/maslinlaw08.RabinTells", spec := "rabinTells", unfollowed := true, recurses := true, apart := false }
def RabinTellsSaid : Prop := rabinTellsRow.holds Try.pinned (OpenSpec.ofChange rabinTellsSpec)

/-- ITS FALSE NEIGHBOUR: 'it returns false'. Refute it at one input. -/
def rabinTellsWrong : ChangeSpec := { name := "rabinTells", fn := fun _ => fun
  | [d1, d2, d3] => { results := [.lit (.bool false)], args := [d1, d2, d3] }
  | _ => none }
def RabinTellsWrongFalsely : Prop := rabinTellsRow.holds Try.pinned (OpenSpec.ofChange rabinTellsWrong)

/-- 'maslinlaw08.RabinRolls': WHATEVER THE INPUT: true; the input reads as it did. -/
def rabinRollsSpec : ChangeSpec := { name := "rabinRolls", fn := fun _ => fun
  | [d1, d2, d3] => { results := [.lit (.bool true)], args := [d1, d2, d3] }
  | _ => none }
def rabinRollsRow : OpenClaim := { program := "ytghabilmpjjedaa", sum := "33a36531825a88ae330bb53a115ab0e9684f7a39f4988455deebe0917db6cf0b", func := "maslin/maslinlaw08.RabinRolls", spec := "rabinRolls", unfollowed := true, recurses := true, apart := false }
def RabinRollsSaid : Prop := rabinRollsRow.holds Try.pinned (OpenSpec.ofChange rabinRollsSpec)

/-- ITS FALSE NEIGHBOUR: 'it returns false'. Refute it at one input. -/
def rabinRollsWrong : ChangeSpec := { name := "rabinRolls", fn := fun _ => fun
  | [d1, d2, d3] => { results := [.lit (.bool false)], args := [d1, d2, d3] }
  | _ => none }
def RabinRollsWrongFalsely : Prop := rabinRollsRow.holds Try.pinned (OpenSpec.ofChange rabinRollsWrong)

/-- 'maslinlaw08.RabinLocal': WHATEVER THE INPUT: true; the input reads as it did. -/
def rabinLocalSpec : ChangeSpec := { name := "rabinLocal", fn := fun _ => fun
  | [d1, d2, d3, d4, d5, d6] => { results := [.lit (.bool true)], args := [d1, d2, d3, d4, d5, d6] }
  | _ => none }
def rabinLocalRow : OpenClaim := { program := "ytghabilmpjjedaa", sum := "33a36531825a88ae330bb53a115ab0e9684f7a39f4988455deebe0917db6cf0b", func := "maslin/maslinlaw08.RabinLocal", spec := "rabinLocal", unfollowed := true, recurses := true, apart := false }
def RabinLocalSaid : Prop := rabinLocalRow.holds Try.pinned (OpenSpec.ofChange rabinLocalSpec)

/-- ITS FALSE NEIGHBOUR: 'it returns false'. Refute it at one input. -/
def rabinLocalWrong : ChangeSpec := { name := "rabinLocal", fn := fun _ => fun
  | [d1, d2, d3, d4, d5, d6] => { results := [.lit (.bool false)], args := [d1, d2, d3, d4, d5, d6] }
  | _ => none }
def RabinLocalWrongFalsely : Prop := rabinLocalRow.holds Try.pinned (OpenSpec.ofChange rabinLocalWrong)

/-- 'maslinlaw08.RabinSums': WHATEVER THE INPUT: true; the input reads as it did. -/
def rabinSumsSpec : ChangeSpec := { name := "rabinSums", fn := fun _ => fun
  | [d1, d2, d3, d4] => { results := [.lit (.bool true)], args := [d1, d2, d3, d4] }
  | _ => none }
def rabinSumsRow : OpenClaim := { program := "ytghabilmpjjedaa", sum := "33a36531825a88ae330bb53a115ab0e9684f7a39f4988455deebe0917db6cf0b", func := "maslin/maslinlaw08.RabinSums", spec := "rabinSums", unfollowed := true, recurses := true, apart := false }
def RabinSumsSaid : Prop := rabinSumsRow.holds Try.pinned (OpenSpec.ofChange rabinSumsSpec)

/-- ITS FALSE NEIGHBOUR: 'it returns false'. Refute it at one input. -/
def rabinSumsWrong : ChangeSpec := { name := "rabinSums", fn := fun _ => fun
  | [d1, d2, d3, d4] => { results := [.lit (.bool false)], args := [d1, d2, d3, d4] }
  | _ => none }
def RabinSumsWrongFalsely : Prop := rabinSumsRow.holds Try.pinned (OpenSpec.ofChange rabinSumsWrong)

/- THE SECOND FORM. 'bulk': how many values and letters a reading holds, each counted each time it is reached (what is shared counts as often as it is met; a slice's spare places count too). A statement '..UptoSaid' is the law's where the arguments, and the package variables that the reading takes, are together of bulk at most 1048576: NARROWER than '..Said'. Prove '..Said' where nothing that the law and all that it calls make is longer than what came in: it says more and counts as full. Else prove '..UptoSaid'. A law counts once. -/
mutual
def uptoBulk {H : Type} : DataW H → Nat
  | .lit (.string bytes) => bytes.length + 1
  | .lit _ => 1
  | .nil => 1
  | .ptr d => uptoBulk d + 1
  | .slice elems spare => uptoBulkAll elems + uptoBulkAll spare + 1
  | .agg parts => uptoBulkAll parts + 1
  | .iface _ d => uptoBulk d + 1
  | .map entries => uptoBulkEntries entries + 1
  | .held _ => 1
def uptoBulkAll {H : Type} : List (DataW H) → Nat
  | [] => 0
  | d :: r => uptoBulk d + uptoBulkAll r
def uptoBulkEntries {H : Type} : List (Lit × DataW H) → Nat
  | [] => 0
  | x :: r => uptoBulkEntry x + uptoBulkEntries r
def uptoBulkEntry {H : Type} : Lit × DataW H → Nat
  | (.string bytes, d) => bytes.length + uptoBulk d + 1
  | (_, d) => uptoBulk d + 1
 end
def uptoSmall : (H : Type) → List (DataW H) → Bool := fun _ ds => decide (uptoBulkAll ds ≤ 1048576)
def OpenSpec.upto (s : _root_.Go.ChangeSpec) : _root_.Go.OpenSpec := { _root_.Go.OpenSpec.ofChange s with cond := some uptoSmall }

/-- 'maslinlaw08.RabinTells', WHERE WHAT IT READS IS OF BULK AT MOST 1048576: true; the input reads as it did. -/
def rabinTellsUptoRow : OpenClaim := { program := "ytghabilmpjjedaa", sum := "33a36531825a88ae330bb53a115ab0e9684f7a39f4988455deebe0917db6cf0b", func := "maslin/maslinlaw08.RabinTells", spec := "rabinTells", unfollowed := true, recurses := true, apart := false, narrowed := true }
def RabinTellsUptoSaid : Prop := rabinTellsUptoRow.holds Try.pinned (OpenSpec.upto rabinTellsSpec)

/-- 'maslinlaw08.RabinRolls', WHERE WHAT IT READS IS OF BULK AT MOST 1048576: true; the input reads as it did. -/
def rabinRollsUptoRow : OpenClaim := { program := "ytghabilmpjjedaa", sum := "33a36531825a88ae330bb53a115ab0e9684f7a39f4988455deebe0917db6cf0b", func := "maslin/maslinlaw08.RabinRolls", spec := "rabinRolls", unfollowed := true, recurses := true, apart := false, narrowed := true }
def RabinRollsUptoSaid : Prop := rabinRollsUptoRow.holds Try.pinned (OpenSpec.upto rabinRollsSpec)

/-- 'maslinlaw08.RabinLocal', WHERE WHAT IT READS IS OF BULK AT MOST 1048576: true; the input reads as it did. -/
def rabinLocalUptoRow : OpenClaim := { program := "ytghabilmpjjedaa", sum := "33a36531825a88ae330bb53a115ab0e9684f7a39f4988455deebe0917db6cf0b", func := "maslin/maslinlaw08.RabinLocal", spec := "rabinLocal", unfollowed := true, recurses := true, apart := false, narrowed := true }
def RabinLocalUptoSaid : Prop := rabinLocalUptoRow.holds Try.pinned (OpenSpec.upto rabinLocalSpec)

/-- 'maslinlaw08.RabinSums', WHERE WHAT IT READS IS OF BULK AT MOST 1048576: true; the input reads as it did. -/
def rabinSumsUptoRow : OpenClaim := { program := "ytghabilmpjjedaa", sum := "33a36531825a88ae330bb53a115ab0e9684f7a39f4988455deebe0917db6cf0b", func := "maslin/maslinlaw08.RabinSums", spec := "rabinSums", unfollowed := true, recurses := true, apart := false, narrowed := true }
def RabinSumsUptoSaid : Prop := rabinSumsUptoRow.holds Try.pinned (OpenSpec.upto rabinSumsSpec)

end Rows
end Go.Proofs.Ytghabilmpjjedaa
