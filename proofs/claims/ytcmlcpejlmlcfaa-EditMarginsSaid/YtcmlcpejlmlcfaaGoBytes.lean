/-
  []byte(s): the block that it lays, read as the text's bytes.
-/
import Derived.Test.YtcmlcpejlmlcfaaEdtDifB
import Derived.Laws.IdiomStrings
set_option linter.unusedVariables false
namespace Go.Proofs.Ytcmlcpejlmlcfaa
open Go.RowKit
namespace Byt
/-- the bytes of a text, laid as a block of their own -/
def laid (s : ByteArray) (e : TypeId) (w : World) : World :=
  w.drew.alloc (.cells (bytesRow s (grownCap w s.size 0 e)) e ((bytesRow s (grownCap w s.size 0 e)).size, (bytesRow s (grownCap w s.size 0 e)).size + 1))
theorem below (s : ByteArray) (e : TypeId) (w : World) : Below w.heap.size w (laid s e w) := (Below.refl w.heap.size w).drew.alloc (Nat.le_refl _) _
theorem size (s : ByteArray) (e : TypeId) (w : World) : (laid s e w).heap.size = w.heap.size + 1 := by simp [laid]
theorem cell (s : ByteArray) (e : TypeId) (w : World) (j : Nat) (hj : j < s.size) : (laid s e w).cell? ⟨w.heap.size, j, none⟩ = some (.int .u8 ((s.data.toList.getD j 0).toNat : Int)) := by
  have hg : (laid s e w).heap[w.heap.size]? = some (.cells (bytesRow s (grownCap w s.size 0 e)) e ((bytesRow s (grownCap w s.size 0 e)).size, (bytesRow s (grownCap w s.size 0 e)).size + 1)) := by
    show (w.heap.push _)[w.heap.size]? = _
    simp
  rw [cell_of_row _ _ j _ e _ hg]
  have hj3 : j < s.data.size := hj
  unfold bytesRow
  rw [Array.getElem?_append_left (by simp; exact hj3)]
  rw [List.getD_eq_getElem?_getD, List.getElem?_eq_getElem (by rw [ba_len]; exact hj)]
  simp [Array.getElem?_eq_getElem hj3]
theorem conv (s : ByteArray) (w : World) : ∃ c w', (convert 9 50 (.string s)).run Try.prog w = .ok (.slice (some ⟨w.heap.size, 0, none⟩) s.size c) w' ∧ BRd (.slice (some ⟨w.heap.size, 0, none⟩) s.size c) s.data.toList w' ∧ Below w.heap.size w w' ∧ w'.heap.size = w.heap.size + 1 := by
  refine ⟨_, _, run_bytes_of_string w 9 50 5 s Try.underlying9 Try.underlying50 Try.underlying5, ?_, below s 5 w, size s 5 w⟩
  refine ⟨_, _, by rw [ba_len], by rw [ba_len]; exact grownCap_ge _ _ _ _, fun j hj => ⟨_, rfl, ?_⟩⟩
  exact cell s 5 w j (by rw [ba_len] at hj; exact hj)
end Byt
end Go.Proofs.Ytcmlcpejlmlcfaa
