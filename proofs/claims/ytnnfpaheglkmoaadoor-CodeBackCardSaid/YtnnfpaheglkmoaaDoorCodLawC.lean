/-
  What the laws of programs share: what both readers answer, which programs are the same.
-/
import Derived.Test.YtnnfpaheglkmoaaDoorCodAlive
import Derived.Test.YtnnfpaheglkmoaaDoorCodArg
set_option linter.unusedVariables false
set_option maxRecDepth 100000
namespace Go.Proofs.YtnnfpaheglkmoaaDoor
open Go.RowKit

/-- two cells in a box of the call's own -/
structure Two (B : Nat) (x y : Value) (w : World) : Prop where
  c0 : w.cell? ⟨B, 0, none⟩ = some x
  c1 : w.cell? ⟨B, 1, none⟩ = some y
theorem Two.keep {B : Nat} {x y : Value} {w w' : World} (h : Two B x y w) (hb : Below w.heap.size w w') : Two B x y w' := by
  have e : w'.heap[B]? = w.heap[B]? := hb.block B (cell_lt h.c0)
  exact ⟨by rw [World.cell?_of_block e]; exact h.c0, by rw [World.cell?_of_block e]; exact h.c1⟩
theorem Two.new (w : World) (x y : Value) (T : TypeId) : Two w.heap.size x y (w.alloc (.cells #[x, y] T)) :=
  ⟨by rw [cell_of_row _ _ 0 _ _ _ (heap_alloc_new _ _)]; rfl, by rw [cell_of_row _ _ 1 _ _ _ (heap_alloc_new _ _)]; rfl⟩
theorem readR_same {s : ByteArray} {e f : Ending} (h : ReadR s e) (g : ReadR s f) : e = f := by
  rcases h with ⟨x, hx, rfl⟩ | ⟨hn, rfl⟩ <;> rcases g with ⟨y, hy, rfl⟩ | ⟨hm, rfl⟩
  · rw [hx.one hy]
  · exact (hm _ hx).elim
  · exact (hn _ hy).elim
  · rfl
/-- what a reader of the bytes l has got: a program, a number -/
structure Got (l : List UInt8) (y : Pv) (us : List ByteArray) (ds : List Cod.In) (n : Int) (w : World) : Prop where
  p : PrAt y us ds w
  n16 : y.n ≤ 16
  m256 : y.m ≤ 256
  is : (Cod.get l = none ∧ n = 7 ∧ us = [] ∧ ds = []) ∨ (Cod.get l = some (prog us ds) ∧ n = 0)
theorem Got.keep {l : List UInt8} {y : Pv} {us : List ByteArray} {ds : List Cod.In} {n : Int} {w w' : World} (h : Got l y us ds n w) (hb : Below w.heap.size w w') : Got l y us ds n w' := ⟨h.p.keep hb, h.n16, h.m256, h.is⟩
theorem getR_got {l : List UInt8} {e : Ending} {w : World} (h : GetR (Cod.get l) e w) : ∃ (y : Pv) (us : List ByteArray) (ds : List Cod.In) (n : Int), e = .returned (.tuple #[y.v, .int .i64 n]) ∧ Got l y us ds n w := by
  rcases h with ⟨hz, rfl⟩ | ⟨p, x, ts, cs, hz, rfl, ⟨y, rfl, hy⟩, hp⟩
  · exact ⟨Pv.nil, [], [], 7, rfl, PrAt.nil _, Nat.zero_le _, Nat.zero_le _, .inl ⟨hz, rfl, rfl, rfl⟩⟩
  · have hm := (Cod.put_get hz).1
    rw [← hp] at hm
    have h1 := hm.1
    have h2 := hm.2.2.1
    have e1 : (prog ts cs).ts.length = y.n := by rw [← hy.n]; exact lists_length ts
    rw [e1] at h1
    have e2 : (prog ts cs).cs.length = y.m := hy.m
    rw [e2] at h2
    exact ⟨y, ts, cs, 0, rfl, hy, h1, h2, .inr ⟨by rw [hz, hp], rfl⟩⟩
theorem prog_inj {ts us : List ByteArray} {cs ds : List Cod.In} (h : prog ts cs = prog us ds) : ts = us ∧ cs = ds := by
  unfold prog at h
  injection h with h1 h2
  exact ⟨lists_inj h1, h2⟩
theorem Got.same {l : List UInt8} {y z : Pv} {us vs : List ByteArray} {ds es : List Cod.In} {n m : Int} {w w' : World} (h : Got l y us ds n w) (g : Got l z vs es m w') : (us = vs ∧ ds = es) ∧ n = m := by
  rcases h.is with ⟨h1, rfl, rfl, rfl⟩ | ⟨h1, rfl⟩ <;> rcases g.is with ⟨h2, rfl, rfl, rfl⟩ | ⟨h2, rfl⟩
  · exact ⟨⟨rfl, rfl⟩, rfl⟩
  · rw [h1] at h2; cases h2
  · rw [h1] at h2; cases h2
  · rw [h1] at h2
    exact ⟨prog_inj (Option.some.inj h2), rfl⟩
theorem Got.none {l : List UInt8} {y : Pv} {us : List ByteArray} {ds : List Cod.In} {n : Int} {w : World} (h : Got l y us ds n w) (hz : Cod.get l = none) : us = [] ∧ ds = [] ∧ n = 7 := by
  rcases h.is with ⟨_, h1, h2, h3⟩ | ⟨h1, _⟩
  · exact ⟨h2, h3, h1⟩
  · rw [hz] at h1; cases h1
theorem Got.some {l : List UInt8} {y : Pv} {us : List ByteArray} {ds : List Cod.In} {n : Int} {w : World} (h : Got l y us ds n w) {p : Cod.Pr} (hz : Cod.get l = some p) : prog us ds = p ∧ n = 0 := by
  rcases h.is with ⟨h1, _⟩ | ⟨h1, h2⟩
  · rw [hz] at h1; cases h1
  · rw [hz] at h1; exact ⟨(Option.some.inj h1).symm, h2⟩
theorem put_size {p : Cod.Pr} (h : p.May) : (Cod.put p).length ≤ 4096 := by
  have h1 := Cod.tB_length p.ts h.2.1 p.ts.length
  rw [Cod.tB_all] at h1
  have h2 := Cod.putC_length p.cs
  have h3 := h.1
  have h4 := h.2.2.1
  have e : (Cod.put p).length = 1 + ((p.ts.flatMap Cod.putT).length + (2 + (p.cs.flatMap Cod.putC).length)) := by
    unfold Cod.put Cod.putN
    simp only [List.length_cons, List.length_append, List.length_nil]
    omega
  omega
end Go.Proofs.YtnnfpaheglkmoaaDoor
