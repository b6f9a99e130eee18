/-
  Fill: so many sectors of a text, round.
-/
import Derived.Test.YtjmpagbjkehebaaDskAll
import Derived.Outline
import Derived.OwnWalk
import Derived.StillTailTactics
import Derived.Deep.DeepCutAuto
set_option linter.unusedVariables false
set_option maxRecDepth 100000
namespace Go.Proofs.Ytjmpagbjkehebaa
namespace Dsk
/-- that many bytes of a text, round; of an empty one zeros -/
def round (s : List UInt8) (n : Nat) : List UInt8 := (List.range n).map fun i => s.getD (i % s.length) 0
theorem round_length (s : List UInt8) (n : Nat) : (round s n).length = n := by simp [round]
/-- the first k of them laid -/
def part (s : List UInt8) (n k : Nat) : List UInt8 := round s k ++ List.replicate (n - k) 0
theorem part_length (s : List UInt8) (n k : Nat) (h : k ≤ n) : (part s n k).length = n := by simp [part, round_length]; omega
theorem part_zero (s : List UInt8) (n : Nat) : part s n 0 = List.replicate n 0 := by simp [part, round]
theorem part_full (s : List UInt8) (n : Nat) : part s n n = round s n := by simp [part]
theorem round_nil (n : Nat) : round [] n = List.replicate n 0 := by
  apply List.ext_getElem
  · simp [round_length]
  · intro i h1 h2
    simp [round]
theorem part_set (s : List UInt8) (n k : Nat) (h : k < n) : (part s n k).set k (s.getD (k % s.length) 0) = part s n (k + 1) := by
  unfold part
  rw [List.set_append_right _ _ (by rw [round_length]; omega), round_length, Nat.sub_self]
  rw [show n - k = (n - (k + 1)) + 1 by omega, List.replicate_succ, List.set_cons_zero]
  simp [round, List.range_succ, List.map_append]
theorem round_add (s : List UInt8) (m n : Nat) (k : Nat) (hm : m = k * s.length) : round s (m + n) = round s m ++ round s n := by
  subst hm
  rcases Nat.eq_zero_or_pos s.length with h | h
  · have : s = [] := List.eq_nil_of_length_eq_zero h
    subst this
    simp [round_nil]
  · apply List.ext_getElem
    · simp [round_length]
    · intro i h1 h2
      simp only [round, List.getElem_map, List.getElem_range, List.getElem_append, List.length_map, List.length_range]
      split
      · rfl
      · rename_i hlt
        have : (i - k * s.length) % s.length = i % s.length := by
          have h3 : i = (i - k * s.length) + k * s.length := by omega
          conv => rhs; rw [h3]
          rw [Nat.add_mul_mod_self_right]
        rw [this]
end Dsk
open Go.RowKit

theorem made_u8 (n : Nat) : madeCells (Value.int .u8 0).cells n = u8s (List.replicate n 0) := by
  rw [u8s_zeros]
  apply Array.ext
  · simp [madeCells]
  · intro i h1 h2
    simp [madeCells, Value.cells, Nat.mod_one]

theorem make_u8 (m : Nat) (hm : m ≤ 140737488355328) (u : World) : (Instr.makeSlice 75 (.int .i64 (m : Int)) (.int .i64 (m : Int))).run Try.prog u = .ok (.slice (some ⟨u.heap.size, 0, none⟩) m m) (u.alloc (.cells (u8s (List.replicate m 0)) 5)) := by
  obtain ⟨i, hi, h0, h1, h2⟩ := info_parts (show (Try.prog.info? 5).map (fun i => (i.zero, i.size, i.bytes)) = some (some (.int .u8 0), 1, 1) by kernel_rfl)
  have := run_make (P := Try.prog) u 75 5 i (.int .u8 0) Try.underlying75 hi h0 .i64 .i64 (m : Int) (m : Int) (by omega) (by omega) (by rw [h2]; omega) (by omega)
  rw [this, h1, Int.toNat_natCast, Nat.mul_one, made_u8]

set_option maxHeartbeats 400000 in
theorem fill_pos (s : ByteArray) (hs : s.size ≤ 1048576) (m : Nat) (hm : m ≤ 16384) (w : World) : Calls Try.prog 18 #[.string s, .int .i64 (m : Int)] w fun e w' => e = .returned (.string ⟨(Dsk.round s.data.toList (64 * m)).toArray⟩) ∧ Below w.heap.size w w' := by
  have hmk := fun u => make_u8 (64 * m) (by omega) u
  rw [show (((64 * m : Nat)) : Int) = (m : Int) * 64 by omega] at hmk
  obtain ⟨N, hN⟩ : ∃ N, N = 64 * m := ⟨_, rfl⟩
  rw [← hN] at hmk ⊢
  have hNm : (N : Int) = (m : Int) * 64 := by omega
  have hNb : N ≤ 1048576 := by omega
  have Hmk := Lib.hid hmk; clear hmk
  have HN := Lib.hid hN; clear hN
  have HNm := Lib.hid hNm; clear hNm
  go_enter Try.func18, Try.ntmps18
  go_wp2
  rw [Hmk.out]
  simp only [Result.andThen]
  rw [Oper.upon_value]
  go_wp2
  go_loopw [6] (fun i wr => ∃ k : Nat, k ≤ N ∧ i = .int .i64 (k : Int) ∧ (s.size = 0 → k = 0) ∧ wr.heap[w.heap.size]? = some (.cells (u8s (Dsk.part s.data.toList N k)) 5 (0, 0)) ∧ Below w.heap.size w wr) (fun i _ => N - (intOf i).toNat)
  case atStart => exact ⟨0, by omega, rfl, fun _ => rfl, by rw [Dsk.part_zero]; exact heap_alloc_new w _, (Below.refl _ w).alloc (Nat.le_refl _) _⟩
  case round =>
    obtain ⟨k, hk, rfl, hz, hrow, hbel⟩ := hrel
    have Hrow := Lib.hid hrow; clear hrow
    have Hbel := Lib.hid hbel; clear hbel
    by_cases hs0 : s.size = 0
    · have hk0 := hz hs0
      subst hk0
      have hl0 : s.data.toList = [] := List.eq_nil_of_length_eq_zero (by rw [ba_len]; exact hs0)
      have hfin : Dsk.part s.data.toList N 0 = Dsk.round s.data.toList N := by rw [hl0, Dsk.part_zero, Dsk.round_nil]
      have hcv : (convert 75 9 (.slice (some ⟨w.heap.size, 0, none⟩) N N)).run Try.prog wr = .ok (.string ⟨(Dsk.round s.data.toList N).toArray⟩) wr := by
        have h := Hrow.out
        rw [hfin] at h
        have hA : ArrB w.heap.size (Dsk.round s.data.toList N) wr := fun j hj => ⟨row_u8 h j hj, row_free h j⟩
        have hc := hA.conv (P := Try.prog) 75 9 5 Try.underlying75 Try.underlying5 Try.underlying9 N N (by rw [Dsk.round_length]; omega)
        rw [List.take_of_length_le (by rw [Dsk.round_length]; omega)] at hc
        exact hc
      have Hs0 := Lib.hid hs0; clear hs0
      have Hl0 := Lib.hid hl0; clear hl0
      have Hfin := Lib.hid hfin; clear hfin
      have d0 : decide (0 < s.size) = false := by rw [decide_eq_false_iff_not]; have := Hs0.out; omega
      clear hz
      by_cases hN0 : 0 < N
      all_goals
        go_wp2
        go_ret
        exact ⟨rfl, Hbel.out⟩
    · have d0 : decide (0 < s.size) = true := by rw [decide_eq_true_iff]; omega
      have d1 : 0 < s.size := by omega
      clear hz
      by_cases hlt : k < N
      · obtain ⟨q, hq⟩ : ∃ q, q = k % s.size := ⟨_, rfl⟩
        have hqi : (k : Int) % (s.size : Int) = (q : Int) := by rw [hq]; omega
        have hqs : q < s.size := by rw [hq]; exact Nat.mod_lt _ d1
        have q0 : (0 : Int) ≤ (q : Int) := by omega
        have q1 : (q : Int) < (s.size : Int) := by omega
        have hpl := Dsk.part_length s.data.toList N k hk
        have c0 := row_u8 Hrow.out k (by omega)
        have f0 := row_free Hrow.out k
        have hset := row_set8 Hrow.out k (s.data.toList.getD (k % s.data.toList.length) 0)
        rw [Dsk.part_set _ _ _ hlt, ba_len, ← hq] at hset
        have hgq : s.data.toList.getD q 0 = s[q] := by
          rw [List.getD_eq_getElem?_getD, List.getElem?_eq_getElem (by rw [ba_len]; exact hqs), Option.getD_some, ba_get s q hqs]
        rw [hgq] at hset
        have Hset := Lib.hid hset; clear hset
        have Hq := Lib.hid hq; clear hq
        have Hgq := Lib.hid hgq; clear hgq
        have Hpl := Lib.hid hpl; clear hpl
        go_wp2
        go_roundw
        case rel => exact ⟨k + 1, by omega, by go_num, fun h => by omega, Hset.out, Hbel.out.setCell (p := ⟨w.heap.size, k, none⟩) (by simp) _⟩
        case measure => simp [intOf]; omega
      · obtain rfl : k = N := by omega
        have hcv : (convert 75 9 (.slice (some ⟨w.heap.size, 0, none⟩) k k)).run Try.prog wr = .ok (.string ⟨(Dsk.round s.data.toList k).toArray⟩) wr := by
          have h := Hrow.out
          rw [Dsk.part_full] at h
          have hA : ArrB w.heap.size (Dsk.round s.data.toList k) wr := fun j hj => ⟨row_u8 h j hj, row_free h j⟩
          have hc := hA.conv (P := Try.prog) 75 9 5 Try.underlying75 Try.underlying5 Try.underlying9 k k (by rw [Dsk.round_length]; omega)
          rw [List.take_of_length_le (by rw [Dsk.round_length]; omega)] at hc
          exact hc
        go_wp2
        go_ret
        exact ⟨rfl, Hbel.out⟩
end Go.Proofs.Ytjmpagbjkehebaa
