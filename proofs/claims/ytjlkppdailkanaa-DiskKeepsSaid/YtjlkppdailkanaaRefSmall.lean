/-
  The document's disk, short ones: May, zero, in, Fuse.
-/
import Derived.Test.YtjlkppdailkanaaRefMem
import Derived.Test.YtjlkppdailkanaaDskFill
set_option linter.unusedVariables false
namespace Go.Proofs.Ytjlkppdailkanaa
open Go.RowKit

theorem may_any (n : Int) (w : World) : Calls Try.prog 10 #[.int .i64 n] w fun e w' => e = .returned (.bool (decide (1 ≤ n ∧ n ≤ 16384))) ∧ w = w' := by
  by_cases h1 : 1 ≤ n
  · have e1 : decide (1 ≤ n) = true := decide_eq_true h1
    have e : decide (1 ≤ n ∧ n ≤ 16384) = decide (n ≤ 16384) := by rw [decide_eq_decide]; omega
    rw [e]
    clear e
    go_enter Try.func10, Try.ntmps10
    go_wp2
    go_ret
    exact ⟨rfl, rfl⟩
  · have e1 : decide (1 ≤ n) = false := decide_eq_false h1
    have e : decide (1 ≤ n ∧ n ≤ 16384) = false := by rw [decide_eq_false_iff_not]; omega
    rw [e]
    clear e
    go_enter Try.func10, Try.ntmps10
    go_wp2
    go_ret
    exact ⟨rfl, rfl⟩

theorem zero_any (w : World) : Calls Try.prog 27 #[] w fun e w' => e = .returned (secv Dsk.zer) ∧ Below w.heap.size w w' := by
  have hmk := fun u => make_u8 64 (by omega) u
  rw [show ((64 : Nat) : Int) = 64 from rfl] at hmk
  have hA : ArrB w.heap.size (List.replicate 64 0) (w.alloc (.cells (u8s (List.replicate 64 0)) 5)) := fun j hj => by
    exact ⟨row_u8 (heap_alloc_new w _) j hj, row_free (heap_alloc_new w _) j⟩
  have hcv := hA.conv (P := Try.prog) 70 9 5 Try.underlying70 Try.underlying5 Try.underlying9 64 64 (by simp)
  rw [List.take_of_length_le (by simp)] at hcv
  have e : (.string ⟨(List.replicate 64 (0 : UInt8)).toArray⟩ : Value) = secv Dsk.zer := rfl
  rw [e] at hcv
  generalize u8s (List.replicate 64 0) = Z at *
  have Hmk := Lib.hid hmk; clear hmk
  have Hcv := Lib.hid hcv; clear hcv
  clear hA e
  go_enter Try.func27, Try.ntmps27
  go_wp2_with (first | (rw [Hmk.out]; simp only [Result.andThen]; rw [Oper.upon_value]) | (rw [Hcv.out]; simp only [Result.andThen]; rw [Oper.upon_value]))
  go_ret
  exact ⟨rfl, (Below.refl _ w).alloc (Nat.le_refl _) _⟩

section
variable {S : Nat → Prop} {q : Nat} {d : Dsk.St} {w : World}
theorem refIn_any (h : RefAt S q d w) (at_ n : Int) (ha : -9223372036854775808 ≤ at_ ∧ at_ ≤ 9223372036854775807) (hn : -9223372036854775808 ≤ n ∧ n ≤ 9223372036854775807) :
    Calls Try.prog 44 #[.pointer (some ⟨q, 0, none⟩), .int .i64 at_, .int .i64 n] w fun e w' => e = .returned (.bool (decide (0 ≤ at_ ∧ 0 ≤ n ∧ at_ + n ≤ (d.n : Int)))) ∧ w = w' := by
  obtain ⟨vB, vL, h⟩ := h
  have c0 := h.c0
  have ok := h.ok
  have h1 := ok.lo
  have h2 := ok.hi
  obtain ⟨g, cap, rfl⟩ := h.formB
  clear h ok
  generalize d.n = m at *
  by_cases a0 : 0 ≤ at_
  · have af : decide (0 ≤ at_) = true := decide_eq_true a0
    by_cases b0 : 0 ≤ n
    · have bf : decide (0 ≤ n) = true := decide_eq_true b0
      by_cases k0 : at_ ≤ (m : Int)
      · have kf : decide (at_ ≤ (m : Int)) = true := decide_eq_true k0
        have e : decide (0 ≤ at_ ∧ 0 ≤ n ∧ at_ + n ≤ (m : Int)) = decide (n ≤ (m : Int) - at_) := by rw [decide_eq_decide]; omega
        rw [e]
        clear e
        go_enter Try.func44, Try.ntmps44
        go_wp2
        go_ret
        exact ⟨rfl, rfl⟩
      · have kf : decide (at_ ≤ (m : Int)) = false := decide_eq_false k0
        have e : decide (0 ≤ at_ ∧ 0 ≤ n ∧ at_ + n ≤ (m : Int)) = false := by rw [decide_eq_false_iff_not]; omega
        rw [e]
        clear e
        go_enter Try.func44, Try.ntmps44
        go_wp2
        go_ret
        exact ⟨rfl, rfl⟩
    · have e : decide (0 ≤ at_ ∧ 0 ≤ n ∧ at_ + n ≤ (m : Int)) = false := by rw [decide_eq_false_iff_not]; omega
      rw [e]
      clear e
      have bf : decide (0 ≤ n) = false := by rw [decide_eq_false_iff_not]; omega
      go_enter Try.func44, Try.ntmps44
      go_wp2
      go_ret
      exact ⟨rfl, rfl⟩
  · have e : decide (0 ≤ at_ ∧ 0 ≤ n ∧ at_ + n ≤ (m : Int)) = false := by rw [decide_eq_false_iff_not]; omega
    rw [e]
    clear e
    have bf : decide (0 ≤ at_) = false := by rw [decide_eq_false_iff_not]; omega
    go_enter Try.func44, Try.ntmps44
    go_wp2
    go_ret
    exact ⟨rfl, rfl⟩

theorem refFuse_any (h : RefAt S q d w) (n : Int) (hn : -9223372036854775808 ≤ n ∧ n ≤ 9223372036854775807) : Calls Try.prog 37 #[.pointer (some ⟨q, 0, none⟩), .int .i64 n] w fun e w' => e = .returned (.tuple #[]) ∧ Turns (fun k => k = q) w w' ∧ RefAt S q { d with fuse := n } w' := by
  obtain ⟨vB, vL, h⟩ := h
  have hr := h.free
  have hk : RefIn S q { d with fuse := n } (w.setCell ⟨q, 2, none⟩ (.int .i64 (max n (-1)))) vB vL := by
    have := h.turn (w' := w.setCell ⟨q, 2, none⟩ (.int .i64 (max n (-1)))) ((Turns.refl _ w).set q 2 _ (fun _ => rfl)) n d.down hn (by
      rw [heap_setCell_same w q 2 _ _ _ h.row]; rfl)
    exact this
  have Hk := Lib.hid hk; clear hk
  have f2 := hr 2
  have c2 := h.c2
  clear h hr
  go_enter Try.func37, Try.ntmps37
  go_wp2
  all_goals
    go_end0
    refine ⟨rfl, (Turns.refl _ w).set q 2 _ (fun _ => rfl), vB, vL, ?_⟩
    have := Hk.out
    first | (rwa [Int.max_eq_left (by omega)] at this) | (rwa [Int.max_eq_right (by omega)] at this)
end
end Go.Proofs.Ytjlkppdailkanaa
