/-
  A row of noughts that is made, and the text of it.
-/
import Derived.Test.YtofiimkpbbiegaaRows
import Derived.Test.YtofiimkpbbiegaaGoAll
import Derived.Deep.Slices
set_option linter.unusedVariables false
namespace Go.Proofs.Ytofiimkpbbiegaa
open Go.RowKit

theorem noughts_made (n : Nat) : madeCells (Value.int .u8 0).cells n = u8s (List.replicate n 0) := by
  rw [u8s_zeros]
  apply Array.ext
  · simp [madeCells]
  · intro i h1 h2
    simp [madeCells, Value.cells, Nat.mod_one]
theorem make_noughts (m : Nat) (hm : m ≤ 140737488355328) (u : World) : (Instr.makeSlice 88 (.int .i64 (m : Int)) (.int .i64 (m : Int))).run Try.prog u = .ok (.slice (some ⟨u.heap.size, 0, none⟩) m m) (u.alloc (.cells (u8s (List.replicate m 0)) 5)) := by
  obtain ⟨i, hi, h0, h1, h2⟩ := info_parts (show (Try.prog.info? 5).map (fun i => (i.zero, i.size, i.bytes)) = some (some (.int .u8 0), 1, 1) by kernel_rfl)
  have := run_make (P := Try.prog) u 88 5 i (.int .u8 0) Try.underlying88 hi h0 .i64 .i64 (m : Int) (m : Int) (by omega) (by omega) (by rw [h2]; omega) (by omega)
  rw [this, h1, Int.toNat_natCast, Nat.mul_one, noughts_made]
theorem conv_noughts (n : Nat) (u : World) : (convert 88 9 (.slice (some ⟨u.heap.size, 0, none⟩) n n)).run Try.prog (u.alloc (.cells (u8s (List.replicate n 0)) 5)) = .ok (.string ⟨(List.replicate n 0).toArray⟩) (u.alloc (.cells (u8s (List.replicate n 0)) 5)) := by
  have h := ArrB.start u 5 n
  rw [← u8s_zeros] at h
  have r := h.conv (P := Try.prog) 88 9 5 Try.underlying88 Try.underlying5 Try.underlying9 n n (by simp)
  rw [List.take_of_length_le (by simp)] at r
  exact r
end Go.Proofs.Ytofiimkpbbiegaa
