/-
  Fill: so many sectors of a text, round.
-/
import Derived.Test.YtalklpnekbfehaaGreatDskAll
import Derived.Outline
import Derived.OwnWalk
import Derived.StillTailTactics
import Derived.Deep.DeepCutAuto
set_option linter.unusedVariables false
set_option maxRecDepth 100000
namespace Go.Proofs.YtalklpnekbfehaaGreat
namespace Dsk
/-- that many bytes of a text, round; of an empty one zeros -/
def round (s : List UInt8) (n : Nat) : List UInt8 := (List.range n).map fun i => s.getD (i % s.length) 0
theorem round_length (s : List UInt8) (n : Nat) : (round s n).length = n := by simp [round]
/-- the first k of them laid -/
def part (s : List UInt8) (n k : Nat) : List UInt8 := round s k ++ List.replicate (n - k) 0
theorem part_length (s : List UInt8) (n k : Nat) (h : k ≤ n) : (part s n k).length = n := by simp [part, round_length]; omega
theorem part_zero (s : List UInt8) (n : Nat) : part s n 0 = List.replicate n 0 := by simp [part, round]
theorem part_full (s : List UInt8) (n : Nat) : part s n n = round s n := by simp [part]
theorem round_nil (n : Nat) : round [] n = List.replicate n 0 := by
  apply List.ext_getElem
  · simp [round_length]
  · intro i h1 h2
    simp [round]
theorem part_set (s : List UInt8) (n k : Nat) (h : k < n) : (part s n k).set k (s.getD (k % s.length) 0) = part s n (k + 1) := by
  unfold part
  rw [List.set_append_right _ _ (by rw [round_length]; omega), round_length, Nat.sub_self]
  rw [show n - k = (n - (k + 1)) + 1 by omega, List.replicate_succ, List.set_cons_zero]
  simp [round, List.range_succ, List.map_append]
theorem round_add (s : List UInt8) (m n : Nat) (k : Nat) (hm : m = k * s.length) : round s (m + n) = round s m ++ round s n := by
  subst hm
  rcases Nat.eq_zero_or_pos s.length with h | h
  · have : s = [] := List.eq_nil_of_length_eq_zero h
    subst this
    simp [round_nil]
  · apply List.ext_getElem
    · simp [round_length]
    · intro i h1 h2
      simp only [round, List.getElem_map, List.getElem_range, List.getElem_append, List.length_map, List.length_range]
      split
      · rfl
      · rename_i hlt
        have : (i - k * s.length) % s.length = i % s.length := by
          have h3 : i = (i - k * s.length) + k * s.length := by omega
          conv => rhs; rw [h3]
          rw [Nat.add_mul_mod_self_right]
        rw [this]
end Dsk
open Go.RowKit

theorem made_u8 (n : Nat) : madeCells (Value.int .u8 0).cells n = u8s (List.replicate n 0) := by
  rw [u8s_zeros]
  apply Array.ext
  · simp [madeCells]
  · intro i h1 h2
    simp [madeCells, Value.cells, Nat.mod_one]

theorem make_u8 (m : Nat) (hm : m ≤ 140737488355328) (u : World) : (Instr.makeSlice 62 (.int .i64 (m : Int)) (.int .i64 (m : Int))).run Tryz.prog u = .ok (.slice (some ⟨u.heap.size, 0, none⟩) m m) (u.alloc (.cells (u8s (List.replicate m 0)) 5)) := by
  obtain ⟨i, hi, h0, h1, h2⟩ := info_parts (show (Tryz.prog.info? 5).map (fun i => (i.zero, i.size, i.bytes)) = some (some (.int .u8 0), 1, 1) by kernel_rfl)
  have := run_make (P := Tryz.prog) u 62 5 i (.int .u8 0) Tryz.underlying62 hi h0 .i64 .i64 (m : Int) (m : Int) (by omega) (by omega) (by rw [h2]; omega) (by omega)
  rw [this, h1, Int.toNat_natCast, Nat.mul_one, made_u8]

end Go.Proofs.YtalklpnekbfehaaGreat
