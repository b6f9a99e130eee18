/-
  The short methods of a disk: New, Sectors, Loose, Down, Fuse, has.
-/
import Derived.Test.YtjlkppdailkanaaDskMem
import Derived.StillTailTactics
import Derived.Outline
import Derived.WalkMore
set_option linter.unusedVariables false
namespace Go.Proofs.Ytjlkppdailkanaa
open Go.RowKit

theorem sectors_nil (w : World) : Calls Try.prog 26 #[.pointer none] w fun e w' => e = .returned (.int .i64 0) ∧ w = w' := by
  go_enter Try.func26, Try.ntmps26
  go_wp2
  go_ret
  exact ⟨rfl, rfl⟩
theorem loose_nil (w : World) : Calls Try.prog 22 #[.pointer none] w fun e w' => e = .returned (.int .i64 0) ∧ w = w' := by
  go_enter Try.func22, Try.ntmps22
  go_wp2
  go_ret
  exact ⟨rfl, rfl⟩
theorem down_nil (w : World) : Calls Try.prog 24 #[.pointer none] w fun e w' => e = .returned (.bool false) ∧ w = w' := by
  go_enter Try.func24, Try.ntmps24
  go_wp2
  go_ret
  exact ⟨rfl, rfl⟩
theorem fuse_nil (n : Int) (w : World) : Calls Try.prog 16 #[.pointer none, .int .i64 n] w fun e w' => e = .returned (.int .i64 1) ∧ w = w' := by
  go_enter Try.func16, Try.ntmps16
  go_wp2
  go_ret
  exact ⟨rfl, rfl⟩
theorem flush_nil (w : World) : Calls Try.prog 15 #[.pointer none] w fun e w' => e = .returned (.int .i64 1) ∧ w = w' := by
  go_enter Try.func15, Try.ntmps15
  go_wp2
  go_ret
  exact ⟨rfl, rfl⟩
theorem crash_nil (s : ByteArray) (w : World) : Calls Try.prog 17 #[.pointer none, .string s] w fun e w' => e = .returned (.int .i64 1) ∧ w = w' := by
  go_enter Try.func17, Try.ntmps17
  go_wp2
  go_ret
  exact ⟨rfl, rfl⟩
theorem copy_nil (w : World) : Calls Try.prog 12 #[.pointer none] w fun e w' => e = .returned (.pointer none) ∧ w = w' := by
  go_enter Try.func12, Try.ntmps12
  go_wp2
  go_ret
  exact ⟨rfl, rfl⟩
theorem read_nil (at_ n : Int) (w : World) : Calls Try.prog 25 #[.pointer none, .int .i64 at_, .int .i64 n] w fun e w' => e = .returned (.tuple #[.string ⟨#[]⟩, .int .i64 1]) ∧ w = w' := by
  go_enter Try.func25, Try.ntmps25
  go_wp2
  go_ret2
  exact ⟨rfl, rfl⟩
theorem write_nil (at_ : Int) (s : ByteArray) (hs : s.size ≤ 9223372036854775807) (w : World) : Calls Try.prog 13 #[.pointer none, .int .i64 at_, .string s] w fun e w' => e = .returned (.int .i64 1) ∧ w = w' := by
  go_enter Try.func13, Try.ntmps13
  go_wp2
  go_step3
  go_wp2
  try rw [Exit.noGoto_ret]
  go_ret
  exact ⟨rfl, rfl⟩

section
variable {S : Nat → Prop} {p : Nat} {d : Dsk.St} {w : World}
theorem sectors_any (h : DiskAt S p d w) : Calls Try.prog 26 #[.pointer (some ⟨p, 0, none⟩)] w fun e w' => e = .returned (.int .i64 (d.n : Int)) ∧ w = w' := by
  obtain ⟨bF, bM, v, nf, DF, h⟩ := h
  have c0 := h.c0
  clear h
  go_enter Try.func26, Try.ntmps26
  go_wp2
  go_ret
  exact ⟨rfl, rfl⟩
theorem loose_any (h : DiskAt S p d w) : Calls Try.prog 22 #[.pointer (some ⟨p, 0, none⟩)] w fun e w' => e = .returned (.int .i64 (d.L.length : Int)) ∧ w = w' := by
  obtain ⟨bF, bM, v, nf, DF, h⟩ := h
  have c2 := h.c2
  rcases h.vlen with ⟨h1, rfl⟩ | ⟨g, cap, rfl, h2⟩
  · rw [h1]
    clear h h1
    go_enter Try.func22, Try.ntmps22
    go_wp2
    go_ret
    exact ⟨rfl, rfl⟩
  · clear h h2
    go_enter Try.func22, Try.ntmps22
    go_wp2
    go_ret
    exact ⟨rfl, rfl⟩
theorem down_any (h : DiskAt S p d w) : Calls Try.prog 24 #[.pointer (some ⟨p, 0, none⟩)] w fun e w' => e = .returned (.bool d.down) ∧ w = w' := by
  obtain ⟨bF, bM, v, nf, DF, h⟩ := h
  have c5 := h.c5
  clear h
  go_enter Try.func24, Try.ntmps24
  go_wp2
  go_ret
  exact ⟨rfl, rfl⟩
theorem fuse_any (h : DiskAt S p d w) (n : Int) (hn : -9223372036854775808 ≤ n ∧ n ≤ 9223372036854775807) : Calls Try.prog 16 #[.pointer (some ⟨p, 0, none⟩), .int .i64 n] w fun e w' => e = .returned (.int .i64 0) ∧ Turns (fun k => k = p) w w' ∧ DiskAt S p { d with fuse := n } w' := by
  obtain ⟨bF, bM, v, nf, DF, h⟩ := h
  have hr := h.free
  have hk : DiskIn S p { d with fuse := n } (w.setCell ⟨p, 4, none⟩ (.int .i64 n)) bF bM v nf DF := by
    have := h.turn (w' := w.setCell ⟨p, 4, none⟩ (.int .i64 n)) ((Turns.refl _ w).set p 4 _ (fun _ => rfl)) n d.down hn (by
      rw [heap_setCell_same w p 4 _ _ _ h.row]; rfl)
    exact this
  have Hk := Lib.hid hk; clear hk
  have f4 := hr 4
  have c4 := h.c4
  clear h hr
  go_enter Try.func16, Try.ntmps16
  go_wp2
  go_ret
  exact ⟨rfl, (Turns.refl _ w).set p 4 _ (fun _ => rfl), bF, bM, v, nf, DF, Hk.out⟩
theorem has_any (h : DiskAt S p d w) (at_ n : Int) (ha : -9223372036854775808 ≤ at_ ∧ at_ ≤ 9223372036854775807) (hn : -9223372036854775808 ≤ n ∧ n ≤ 9223372036854775807) :
    Calls Try.prog 31 #[.pointer (some ⟨p, 0, none⟩), .int .i64 at_, .int .i64 n] w fun e w' => e = .returned (.bool (decide (0 ≤ at_ ∧ 0 ≤ n ∧ at_ + n ≤ (d.n : Int)))) ∧ w = w' := by
  obtain ⟨bF, bM, v, nf, DF, h⟩ := h
  have c0 := h.c0
  have ok := h.ok
  have h1 := ok.lo
  have h2 := ok.hi
  clear h ok
  generalize d.n = m at *
  by_cases a0 : 0 ≤ at_
  · by_cases b0 : 0 ≤ n
    · have e : decide (0 ≤ at_ ∧ 0 ≤ n ∧ at_ + n ≤ (m : Int)) = decide (n ≤ (m : Int) - at_) := by rw [decide_eq_decide]; omega
      rw [e]
      clear e
      go_enter Try.func31, Try.ntmps31
      go_wp2
      go_ret
      exact ⟨rfl, rfl⟩
    · have e : decide (0 ≤ at_ ∧ 0 ≤ n ∧ at_ + n ≤ (m : Int)) = false := by rw [decide_eq_false_iff_not]; omega
      rw [e]
      clear e
      have bf : decide (0 ≤ n) = false := by rw [decide_eq_false_iff_not]; omega
      go_enter Try.func31, Try.ntmps31
      go_wp2
      go_ret
      exact ⟨rfl, rfl⟩
  · have e : decide (0 ≤ at_ ∧ 0 ≤ n ∧ at_ + n ≤ (m : Int)) = false := by rw [decide_eq_false_iff_not]; omega
    rw [e]
    clear e
    have bf : decide (0 ≤ at_) = false := by rw [decide_eq_false_iff_not]; omega
    go_enter Try.func31, Try.ntmps31
    go_wp2
    go_ret
    exact ⟨rfl, rfl⟩
end
end Go.Proofs.Ytjlkppdailkanaa
