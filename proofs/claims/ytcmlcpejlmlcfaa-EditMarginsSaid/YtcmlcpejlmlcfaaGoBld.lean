/-
  A strings.Builder of the call's own: what it holds.
-/
import Derived.Test.YtcmlcpejlmlcfaaGoBuilder
import Derived.Test.YtcmlcpejlmlcfaaGoAll
set_option linter.unusedVariables false
namespace Go.Proofs.Ytcmlcpejlmlcfaa
open Go.RowKit
namespace Bld
/-- the builder in block B holds these bytes -/
def Holds (B : Nat) (bs : List UInt8) (w : World) : Prop := Lib.IsBuilder 52 5 B B (Lib.byteCells bs) w
theorem grown_none {w w' : World} (h : Below w.heap.size w w') : w.grownBy w' none := ⟨h.os, h.tape, h.output, h.size, fun k hk _ => h.block k hk⟩
theorem at_keep {T e : TypeId} {B b : Nat} {p : Value} {bs : List Value} {w w' : World} (h : Lib.BuilderAt T e B b p bs w) (hb : Below w.heap.size w w') : Lib.BuilderAt T e B b p bs w' := by
  have hlt := h.lt
  obtain ⟨h1, v, h2, h3, h4⟩ := h
  refine ⟨h1, v, by rw [hb.block b hlt]; exact h2, h3.kept (grown_none hb) ?_, h4⟩
  by_cases e : v.ownBlock = none
  · exact .inl e
  · exact .inr e
theorem Holds.keep {B : Nat} {bs : List UInt8} {w w' : World} (h : Holds B bs w) (hb : Below w.heap.size w w') : Holds B bs w' := by
  rcases h with h | h
  · exact .inl (at_keep h hb)
  · exact .inr (at_keep h hb)
theorem write_any (B : Nat) (bs : List UInt8) (s : ByteArray) (w : World) (h : Holds B bs w) (hlen : bs.length + s.size ≤ 140737488355328) (hB : B ≤ w.heap.size) :
    Calls Try.prog 23 #[.pointer (some ⟨B, 0, none⟩), .string s] w fun e w' => e = .returned (.tuple #[.int .i64 s.size, .nilIface]) ∧ Holds B (bs ++ s.data.toList) w' ∧ Below B w w' := by
  refine (Try.writeString B B (Lib.byteCells bs) s w h (by rw [Lib.byteCells_length]; exact hlen) hB).mono ?_
  rintro e w' ⟨he, h1, h2⟩
  refine ⟨he, .inr ?_, h2⟩
  rw [Lib.byteCells_append, ← Lib.strCells_eq]
  exact h1
theorem grow_any (B n : Nat) (w : World) (hbk : w.heap[B]? = some (.cells #[.pointer none, .slice none 0 0] 52 (0, 0))) (hBw : B ≤ w.heap.size) (hn : n ≤ 281474976710656) :
    Calls Try.prog 22 #[.pointer (some ⟨B, 0, none⟩), .int .i64 n] w fun e w' => e = .returned (.tuple #[]) ∧ Holds B [] w' ∧ Below B w w' := by
  refine (Try.Builder_Grow_fresh B B n w (Nat.le_refl _) hbk hBw hn).mono ?_
  rintro e w' ⟨he, h1, h2⟩
  exact ⟨he, .inr h1, h2⟩
theorem string_any (B : Nat) (bs : List UInt8) (w : World) (h : Holds B bs w) (hB : B ≤ w.heap.size) :
    Calls Try.prog 24 #[.pointer (some ⟨B, 0, none⟩)] w fun e w' => e = .returned (.string ⟨bs.toArray⟩) ∧ Below B w w' :=
  Try.Builder_String_any B B bs w h hB
end Bld
end Go.Proofs.Ytcmlcpejlmlcfaa
