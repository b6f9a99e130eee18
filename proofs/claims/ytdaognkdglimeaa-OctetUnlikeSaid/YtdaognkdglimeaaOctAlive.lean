/-
  The chapter's examples hold.
-/
import Derived.Test.YtdaognkdglimeaaOctRow2
import Derived.Test.YtdaognkdglimeaaOctShort
set_option linter.unusedVariables false
namespace Go.Proofs.Ytdaognkdglimeaa
open Go.RowKit

theorem ev_put1 : Oct.put 258 2 = ([2, 1], 0) := by decide
theorem ev_put2 : Oct.put 256 1 = ([], 2) := by decide
theorem ev_text : Oct.text [97, 98] = ([2, 0, 97, 98], 0) := by decide
theorem ev_read : Oct.read [2, 0, 97] = ([], 0, 6) := by decide
theorem ev_row : Oct.row [[97], []] = ([2, 0, 1, 0, 97, 0, 0], 0) := by decide
theorem ev_rs : Oct.rs 0 0 [128, 0] = (0, 0, 7) := by decide
theorem ev_short : Oct.short 300 = [172, 2] := by decide

theorem al_put1 (w : World) : Calls Try.prog 8 #[.int .u64 258, .int .i64 2] w fun e w' => e = .returned (.tuple #[.string ⟨#[2, 1]⟩, .int .i64 0]) ∧ Below w.heap.size w w' := by
  have h := octPut_any 258 2 w (by decide) (by decide) (by decide)
  rw [ev_put1] at h
  exact h
theorem al_put2 (w : World) : Calls Try.prog 8 #[.int .u64 256, .int .i64 1] w fun e w' => e = .returned (.tuple #[.string ⟨#[]⟩, .int .i64 2]) ∧ Below w.heap.size w w' := by
  have h := octPut_any 256 1 w (by decide) (by decide) (by decide)
  rw [ev_put2] at h
  exact h
theorem al_text (w : World) : Calls Try.prog 23 #[.string ⟨#[97, 98]⟩] w fun e w' => e = .returned (.tuple #[.string ⟨#[2, 0, 97, 98]⟩, .int .i64 0]) ∧ Below w.heap.size w w' := by
  have h := octText_any ⟨#[97, 98]⟩ w (by decide)
  rw [show (⟨#[97, 98]⟩ : ByteArray).data.toList = [97, 98] from rfl, ev_text] at h
  exact h
theorem al_read (w : World) : Calls Try.prog 21 #[.string ⟨#[2, 0, 97]⟩] w fun e w' => e = .returned (.tuple #[.string ⟨#[]⟩, .int .i64 0, .int .i64 6]) ∧ Below w.heap.size w w' := by
  have h := octRead_any ⟨#[2, 0, 97]⟩ w (by decide)
  rw [show (⟨#[2, 0, 97]⟩ : ByteArray).data.toList = [2, 0, 97] from rfl, ev_read] at h
  exact h
theorem al_rs (w : World) : Calls Try.prog 12 #[.string ⟨#[128, 0]⟩] w fun e w' => e = .returned (.tuple #[.int .u64 0, .int .i64 0, .int .i64 7]) ∧ w = w' := by
  have h := octReadShort_any ⟨#[128, 0]⟩ w (by decide)
  rw [show (⟨#[128, 0]⟩ : ByteArray).data.toList = [128, 0] from rfl, ev_rs] at h
  exact h
theorem al_short (w : World) : Calls Try.prog 14 #[.int .u64 300] w fun e w' => e = .returned (.string ⟨#[172, 2]⟩) ∧ Below w.heap.size w w' := by
  have h := octShort_any 300 w (by decide)
  rw [ev_short] at h
  exact h
theorem al_row (w u : World) (hu : u = w.alloc (.cells #[.string ⟨#[97]⟩, .string ⟨#[]⟩] 9)) (cap : Nat) :
    Calls Try.prog 17 #[.slice (some ⟨w.heap.size, 0, none⟩) 2 cap] u fun e w' => e = .returned (.tuple #[.string ⟨#[2, 0, 1, 0, 97, 0, 0]⟩, .int .i64 0]) ∧ Below w.heap.size w w' := by
  subst hu
  have h := octRow_any (some ⟨w.heap.size, 0, none⟩) 2 cap [⟨#[97]⟩, ⟨#[]⟩] (w.alloc (.cells #[.string ⟨#[97]⟩, .string ⟨#[]⟩] 9)) ⟨rfl, fun j hj => ⟨_, _, rfl, by
    have : j = 0 ∨ j = 1 := by omega
    rcases this with rfl | rfl <;> (rw [World.cell?_alloc_new]; rfl)⟩⟩ (by decide) (fun j => by
    match j with
    | 0 => decide
    | 1 => decide
    | _ + 2 => exact (show ByteArray.empty.size ≤ 9223372036854700000 by decide))
  rw [show lists [⟨#[97]⟩, ⟨#[]⟩] = [[97], []] from rfl, ev_row] at h
  exact h.mono fun e w' ⟨he, hb⟩ => ⟨he, ((Below.refl _ w).alloc (Nat.le_refl _) _).trans (hb.mono (by simp))⟩

set_option maxHeartbeats 1000000 in
theorem alive_any (w : World) : Calls Try.prog 7 #[] w fun e w' => e = .returned (.bool true) ∧ Below w.heap.size w w' := by
  go_enter Try.func7, Try.ntmps7
  go_wp2_with fail
  refine (al_put1 _).mono ?_; rintro e w1 ⟨rfl, h1⟩
  go_wp2_with fail
  refine (al_put2 _).mono ?_; rintro e w2 ⟨rfl, h2⟩
  go_wp2_with fail
  refine (al_text _).mono ?_; rintro e w3 ⟨rfl, h3⟩
  go_wp2_with fail
  refine (al_read _).mono ?_; rintro e w4 ⟨rfl, h4⟩
  have k4 := ((h1.trans (h2.mono h1.size)).trans (h3.mono (h1.trans (h2.mono h1.size)).size))
  have k5 := k4.trans (h4.mono k4.size)
  clear h1 h2 h3 h4 k4
  go_wp2_with fail
  refine (al_row w4 _ rfl _).mono ?_; rintro e w5 ⟨rfl, h5⟩
  have k6 := k5.trans (h5.mono k5.size)
  clear k5 h5
  go_wp2_with fail
  refine (al_rs _).mono ?_; rintro e w6 ⟨rfl, rfl⟩
  go_wp2_with fail
  refine (al_short _).mono ?_; rintro e w7 ⟨rfl, h7⟩
  go_wp2_with fail
  go_ret
  exact ⟨rfl, k6.trans (h7.mono k6.size)⟩

end Go.Proofs.Ytdaognkdglimeaa
