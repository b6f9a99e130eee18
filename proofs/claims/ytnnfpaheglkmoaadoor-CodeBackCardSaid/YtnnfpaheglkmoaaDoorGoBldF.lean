/-
  A strings.Builder of the call's own, read or not: what it holds; other blocks of the call's own stay as they are.
-/
import Derived.Test.YtnnfpaheglkmoaaDoorGoBuilder
import Derived.Test.YtnnfpaheglkmoaaDoorGoWriteByte
import Derived.Test.YtnnfpaheglkmoaaDoorGoAll
import Derived.Shelf.Strings.BuilderK
set_option linter.unusedVariables false
namespace Go.Proofs.YtnnfpaheglkmoaaDoor
open Go.RowKit
namespace BldF
/-- the builder in block B holds these bytes, read or not -/
def Holds (B : Nat) (bs : List UInt8) (w : World) : Prop := Lib.IsBuilderF 52 5 B B (Lib.byteCells bs) w
theorem same {T e : TypeId} {B b : Nat} {p : Value} {bs : List Value} {w w' : World} (h : Lib.BuilderAtF T e B b p bs w) (hk : ∀ (k : Nat) (cs : Array Value) (T : TypeId) (fr : Nat × Nat), w.heap[k]? = some (.cells cs T fr) → w'.heap[k]? = some (.cells cs T fr)) : Lib.BuilderAtF T e B b p bs w' := by
  obtain ⟨h1, v, h2, h3, h4⟩ := h
  refine ⟨h1, v, hk _ _ _ _ h2, ?_, h4⟩
  obtain ⟨a, c⟩ := h3
  refine ⟨a, ?_⟩
  rcases c with c | ⟨g, cap, cur, fz, rfl, hb, hg, hr⟩
  · exact .inl c
  · exact .inr ⟨g, cap, cur, fz, rfl, hb, hk _ _ _ _ hg, hr⟩
theorem Holds.same {B : Nat} {bs : List UInt8} {w w' : World} (h : Holds B bs w) (hk : ∀ (k : Nat) (cs : Array Value) (T : TypeId) (fr : Nat × Nat), w.heap[k]? = some (.cells cs T fr) → w'.heap[k]? = some (.cells cs T fr)) : Holds B bs w' := by
  rcases h with h | h
  · exact .inl (BldF.same h hk)
  · exact .inr (BldF.same h hk)
theorem Holds.keep {B : Nat} {bs : List UInt8} {w w' : World} (h : Holds B bs w) (hb : Below w.heap.size w w') : Holds B bs w' :=
  h.same fun k cs T fr hk => by rw [hb.block k (row_lt hk)]; exact hk
theorem Holds.lt {B : Nat} {bs : List UInt8} {w : World} (h : Holds B bs w) : B < w.heap.size := by
  rcases h with h | h
  · obtain ⟨_, v, hb, _⟩ := h; exact row_lt hb
  · obtain ⟨_, v, hb, _⟩ := h; exact row_lt hb
theorem fresh (w : World) : Holds w.heap.size [] (w.alloc (.cells #[.pointer none, .slice none 0 0] 52)) := Lib.IsBuilderF.of (Lib.fresh_isBuilder _ _ w)
theorem byte_any (B : Nat) (bs : List UInt8) (y : UInt8) (c : Int) (hc : c = (y.toNat : Int)) (w : World) (h : Holds B bs w) (hlen : bs.length + 1 ≤ 140737488355328) :
    Calls Tryd.prog 23 #[.pointer (some ⟨B, 0, none⟩), .int .u8 c] w fun e w' => e = .returned .nilIface ∧ Holds B (bs ++ [y]) w' ∧ Below B w w' ∧ Lib.OthersKept 5 (some B) w w' := by
  refine (Any.Builder_WriteByte_k Tryd.laysB Tryd.extraB B B (Lib.byteCells bs) c w h (by rw [Lib.byteCells_length]; exact hlen) (Nat.le_of_lt h.lt)).mono ?_
  rintro e w' ⟨he, h1, h2, h3⟩
  refine ⟨he, .inr ?_, h2, h3⟩
  rw [Lib.byteCells_append, hc] at *
  exact h1
theorem write_any (B : Nat) (bs : List UInt8) (s : ByteArray) (w : World) (h : Holds B bs w) (hlen : bs.length + s.size ≤ 140737488355328) :
    Calls Tryd.prog 24 #[.pointer (some ⟨B, 0, none⟩), .string s] w fun e w' => e = .returned (.tuple #[.int .i64 s.size, .nilIface]) ∧ Holds B (bs ++ s.data.toList) w' ∧ Below B w w' ∧ Lib.OthersKept 5 (some B) w w' := by
  refine (Any.Builder_WriteString_k Tryd.laysW Tryd.extraW B B (Lib.byteCells bs) s w h (by rw [Lib.byteCells_length]; exact hlen) (Nat.le_of_lt h.lt)).mono ?_
  rintro e w' ⟨he, h1, h2, h3⟩
  refine ⟨he, .inr ?_, h2, h3⟩
  rw [Lib.byteCells_append, ← Lib.strCells_eq]
  exact h1
theorem string_any (B : Nat) (bs : List UInt8) (w : World) (h : Holds B bs w) :
    Calls Tryd.prog 25 #[.pointer (some ⟨B, 0, none⟩)] w fun e w' => e = .returned (.string ⟨bs.toArray⟩) ∧ Below B w w' ∧ Lib.OthersKept 5 (some B) w w' :=
  (Tryd.Builder_String_any_k B B bs w h (Nat.le_of_lt h.lt)).mono fun _ _ h => ⟨h.1, h.2.2⟩
end BldF
end Go.Proofs.YtnnfpaheglkmoaaDoor
