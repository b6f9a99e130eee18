/-
  []byte(s): the block that it lays, which may be written.
-/
import Derived.Test.YtolldoclnfnceaaDoorRows
import Derived.Test.YtolldoclnfnceaaDoorGoAll
import Derived.Laws.IdiomStrings
set_option linter.unusedVariables false
set_option maxRecDepth 100000
namespace Go.Proofs.YtolldoclnfnceaaDoor
open Go.RowKit
namespace Byw
/-- the bytes of a text, laid as a block of their own -/
def bytesWorld (s : ByteArray) (e : TypeId) (w : World) : World :=
  w.drew.alloc (.cells (bytesRow s (grownCap w s.size 0 e)) e ((bytesRow s (grownCap w s.size 0 e)).size, (bytesRow s (grownCap w s.size 0 e)).size + 1))
theorem bytesWorld_below (s : ByteArray) (e : TypeId) {B : Nat} {w0 w : World} (h : Below B w0 w) (hB : B ≤ w.heap.size) : Below B w0 (bytesWorld s e w) := h.drew.alloc hB _
theorem bytesWorld_size (s : ByteArray) (e : TypeId) (w : World) : (bytesWorld s e w).heap.size = w.heap.size + 1 := by simp [bytesWorld]
theorem bytesRow_size (s : ByteArray) (c : Nat) : s.size ≤ (bytesRow s c).size := by simp [bytesRow]
theorem bytesWorld_arr (s : ByteArray) (e : TypeId) (w : World) : ArrB w.heap.size s.data.toList (bytesWorld s e w) := by
  intro j hj
  have hj2 : j < s.size := by rw [ba_len] at hj; exact hj
  have hz := bytesRow_size s (grownCap w s.size 0 e)
  have hg : (bytesWorld s e w).heap[w.heap.size]? = some (.cells (bytesRow s (grownCap w s.size 0 e)) e ((bytesRow s (grownCap w s.size 0 e)).size, (bytesRow s (grownCap w s.size 0 e)).size + 1)) := by
    show (w.heap.push _)[w.heap.size]? = _
    simp
  have hcell : (bytesRow s (grownCap w s.size 0 e))[j]? = some (.int .u8 ((s.data.toList.getD j 0).toNat : Int)) := by
    have hj3 : j < s.data.size := hj2
    unfold bytesRow
    rw [Array.getElem?_append_left (by simp; exact hj3)]
    rw [List.getD_eq_getElem?_getD, List.getElem?_eq_getElem hj]
    simp [Array.getElem?_eq_getElem hj3]
  generalize bytesRow s (grownCap w s.size 0 e) = cs at *
  refine ⟨by rw [cell_of_row _ _ j cs e _ hg, hcell], ?_⟩
  unfold World.frozen?
  rw [hg]
  simp
  omega
theorem run_bytesWorld {P : Program} (src dst e : TypeId) (hs : P.underlying src = some .string) (hd : P.underlying dst = some (.slice e)) (he : P.underlying e = some (.int .u8)) (s : ByteArray) (w : World) :
    (convert src dst (.string s)).run P w = .ok (.slice (some ⟨w.heap.size, 0, none⟩) s.size (grownCap w s.size 0 e)) (bytesWorld s e w) := run_bytes_of_string w src dst e s hs hd he
end Byw
end Go.Proofs.YtolldoclnfnceaaDoor
