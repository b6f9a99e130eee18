/-
  New: a disk of that many sectors, all 0; or none.
-/
import Derived.Test.YtjlkppdailkanaaDskSmall
import Derived.Carry
set_option linter.unusedVariables false
namespace Go.Proofs.Ytjlkppdailkanaa
open Go.RowKit

theorem new_bad (n : Int) (hn : n < 1 ∨ 16384 < n) (w : World) : Calls Try.prog 9 #[.int .i64 n] w fun e w' => e = .returned (.tuple #[.pointer none, .int .i64 2]) ∧ w = w' := by
  by_cases h1 : n < 1
  · have e1 : decide (n < 1) = true := decide_eq_true h1
    clear hn
    go_enter Try.func9, Try.ntmps9
    go_wp2
    go_ret2
    exact ⟨rfl, rfl⟩
  · have e1 : decide (n < 1) = false := decide_eq_false h1
    have h2 : 16384 < n := by omega
    have e2 : decide (16384 < n) = true := decide_eq_true h2
    clear hn
    go_enter Try.func9, Try.ntmps9
    go_wp2
    go_ret2
    exact ⟨rfl, rfl⟩

/-- the blocks of a disk that was just made -/
def NewS (w : World) : Nat → Prop := fun k => w.heap.size ≤ k ∧ k < w.heap.size + 3
theorem new_any (n : Nat) (h1 : 1 ≤ n) (h2 : n ≤ 16384) (w : World) : Calls Try.prog 9 #[.int .i64 (n : Int)] w fun e w' =>
    e = .returned (.tuple #[.pointer (some ⟨w.heap.size + 2, 0, none⟩), .int .i64 0]) ∧ Below w.heap.size w w' ∧ DiskAt (NewS w) (w.heap.size + 2) (Dsk.new n) w' := by
  have e1 : decide ((n : Int) < 1) = false := by rw [decide_eq_false_iff_not]; omega
  have e2 : decide ((16384 : Int) < (n : Int)) = false := by rw [decide_eq_false_iff_not]; omega
  have hmm := @run_makeMap Try.prog
  have hpost : DiskAt (NewS w) (w.heap.size + 2) (Dsk.new n) (((w.alloc (.map #[] 0)).alloc (.map #[] 0)).alloc (.cells #[.int .i64 (n : Int), .map (some w.heap.size), .slice none 0 0, .map (some (w.heap.size + 1)), .int .i64 (-1), .bool false] 56)) := by
    refine ⟨w.heap.size, w.heap.size + 1, .slice none 0 0, 0, .map [], ⟨by simp [NewS], by simp [NewS], by simp [NewS], fun k hk => by simp [Value.ownBlock] at hk, fun k hk => by simp [NewS] at hk; simp; omega, ?_, by omega, ?_, Dsk.reads_new, ?_, World.ownsRow_nil _ _ _ _, by simp [Dsk.new], Dsk.new_ok h1 h2⟩⟩
    · have := heap_alloc_new ((w.alloc (.map #[] 0)).alloc (.map #[] 0)) (.cells #[.int .i64 (n : Int), .map (some w.heap.size), .slice none 0 0, .map (some (w.heap.size + 1)), .int .i64 (-1), .bool false] 56)
      rw [World.size_alloc, World.size_alloc] at this
      exact this
    · exact ((World.ownsMap_made w _ _ _).alloc _).alloc _
    · have := (World.ownsMap_made (H := Unit) (w.alloc (.map #[] 0)) Try.prog 3 (plainElem Try.prog 3)).alloc (.cells #[.int .i64 (n : Int), .map (some w.heap.size), .slice none 0 0, .map (some (w.heap.size + 1)), .int .i64 (-1), .bool false] 56)
      rw [World.size_alloc] at this
      exact this
  have Hpost := Lib.hid hpost; clear hpost
  go_enter Try.func9, Try.ntmps9
  go_wp2
  go_ret2
  exact ⟨rfl, (((Below.refl _ w).alloc (Nat.le_refl _) _).alloc (by simp) _).alloc (by simp; omega) _, Hpost.out⟩
end Go.Proofs.Ytjlkppdailkanaa
