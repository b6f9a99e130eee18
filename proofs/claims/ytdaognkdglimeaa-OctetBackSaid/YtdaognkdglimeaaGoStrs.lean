/-
  Slices of texts as a walk meets them: which texts they hold.
-/
import Derived.Test.YtdaognkdglimeaaGoBase
set_option linter.unusedVariables false
namespace Go.Proofs.Ytdaognkdglimeaa
open Go.RowKit

/-- the slice's elements are the texts l -/
def Strs (a : Option Addr) (len : Nat) (l : List ByteArray) (w : World) : Prop :=
  l.length = len ∧ ∀ j, j < len → ∃ b off, a = some ⟨b, off, none⟩ ∧ w.cell? ⟨b, off + j, none⟩ = some (.string (l.getD j .empty))

theorem cell_lt {w : World} {b o : Nat} {v : Value} (h : w.cell? ⟨b, o, none⟩ = some v) : b < w.heap.size := by
  rcases Nat.lt_or_ge b w.heap.size with h' | h'
  · exact h'
  · simp [World.cell?, Array.getElem?_eq_none h'] at h

theorem Strs.keep {a : Option Addr} {len : Nat} {l : List ByteArray} {w w' : World} (h : Strs a len l w) (hb : Below w.heap.size w w') : Strs a len l w' := by
  refine ⟨h.1, fun j hj => ?_⟩
  obtain ⟨b, off, rfl, hc⟩ := h.2 j hj
  exact ⟨b, off, rfl, by rw [hb.cell (p := ⟨b, off + j, none⟩) (cell_lt hc)]; exact hc⟩

theorem Strs.nil (a : Option Addr) (w : World) : Strs a 0 [] w := ⟨rfl, fun j hj => by omega⟩

/-- the texts as lists of bytes -/
def lists (l : List ByteArray) : List (List UInt8) := l.map (·.data.toList)

theorem lists_length (l : List ByteArray) : (lists l).length = l.length := by simp [lists]
theorem lists_get (l : List ByteArray) (k : Nat) (h : k < l.length) (h' : k < (lists l).length) : (lists l)[k] = (l.getD k .empty).data.toList := by
  simp [lists, List.getD_eq_getElem?_getD, h]

theorem lists_inj {a b : List ByteArray} (h : lists a = lists b) : a = b := by
  induction a generalizing b with
  | nil => cases b with
    | nil => rfl
    | cons y t => simp [lists] at h
  | cons x r ih =>
    cases b with
    | nil => simp [lists] at h
    | cons y t =>
      simp only [lists, List.map_cons, List.cons.injEq] at h
      rw [ih h.2]
      congr 1
      have := h.1
      rw [← ba_eta x, this, ba_eta]

end Go.Proofs.Ytdaognkdglimeaa
