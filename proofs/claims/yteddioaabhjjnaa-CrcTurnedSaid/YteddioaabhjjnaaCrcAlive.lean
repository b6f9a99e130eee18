/-
  The chapter's examples hold.
-/
import Derived.Test.YteddioaabhjjnaaCrcSeal
set_option linter.unusedVariables false
namespace Go.Proofs.Yteddioaabhjjnaa
open Go.RowKit

theorem ev_nine : Crc.sum [49, 50, 51, 52, 53, 54, 55, 56, 57] = 3421780262 := by decide +kernel
theorem ev_nil : Crc.sum [] = 0 := Crc.sum_nil
theorem ev_abc : opn ⟨#[97, 98, 99]⟩ = (.empty, 6) := if_pos (by decide)
theorem ev_abcd : (opn ⟨#[97, 98, 99, 100]⟩).2 = 7 := by decide +kernel

theorem al_open (w : World) : Calls Try.prog 7 #[.string ⟨#[97, 98, 99]⟩] w fun e w' => e = .returned (.tuple #[.string ⟨#[]⟩, .int .i64 6]) ∧ Below w.heap.size w w' := by
  have h := open_any ⟨#[97, 98, 99]⟩ (by decide) w
  rw [ev_abc] at h
  exact h
theorem al_nine (w : World) : Calls Try.prog 9 #[.string ⟨#[49, 50, 51, 52, 53, 54, 55, 56, 57]⟩] w fun e w' => e = .returned (.int .u32 3421780262) ∧ Below w.heap.size w w' := by
  have h := sum_any ⟨#[49, 50, 51, 52, 53, 54, 55, 56, 57]⟩ (by decide) w
  rw [show (⟨#[49, 50, 51, 52, 53, 54, 55, 56, 57]⟩ : ByteArray).data.toList = [49, 50, 51, 52, 53, 54, 55, 56, 57] from rfl, ev_nine] at h
  exact h
theorem al_nil (w : World) : Calls Try.prog 9 #[.string ⟨#[]⟩] w fun e w' => e = .returned (.int .u32 0) ∧ Below w.heap.size w w' := by
  have h := sum_any ⟨#[]⟩ (by decide) w
  rw [show (⟨#[]⟩ : ByteArray).data.toList = [] from rfl, ev_nil] at h
  exact h
theorem al_seal (w : World) : Calls Try.prog 11 #[.string ⟨#[97]⟩] w fun e w' => e = .returned (.string (sealB ⟨#[97]⟩)) ∧ Below w.heap.size w w' := seal_any ⟨#[97]⟩ (by decide) w
theorem al_ok (w : World) : Calls Try.prog 13 #[.string (sealB ⟨#[97]⟩)] w fun e w' => e = .returned (.bool true) ∧ Below w.heap.size w w' := by
  have h := ok_any (sealB ⟨#[97]⟩) (by rw [sealB_size]; decide) w
  rw [opn_seal] at h
  exact h
theorem al_not (w : World) : Calls Try.prog 13 #[.string ⟨#[97, 98, 99, 100]⟩] w fun e w' => e = .returned (.bool false) ∧ Below w.heap.size w w' := by
  have h := ok_any ⟨#[97, 98, 99, 100]⟩ (by decide) w
  rw [ev_abcd] at h
  exact h

set_option maxHeartbeats 1000000 in
theorem alive_any (w : World) : Calls Try.prog 6 #[] w fun e w' => e = .returned (.bool true) ∧ Below w.heap.size w w' := by
  go_enter Try.func6, Try.ntmps6
  go_wp2_with fail
  refine (al_open _).mono ?_; rintro e w1 ⟨rfl, h1⟩
  go_wp2_with fail
  refine (al_nine _).mono ?_; rintro e w2 ⟨rfl, h2⟩
  go_wp2_with fail
  refine (al_nil _).mono ?_; rintro e w3 ⟨rfl, h3⟩
  go_wp2_with fail
  refine (al_seal _).mono ?_; rintro e w4 ⟨rfl, h4⟩
  go_wp2_with fail
  refine (al_ok _).mono ?_; rintro e w5 ⟨rfl, h5⟩
  go_wp2_with fail
  refine (al_not _).mono ?_; rintro e w6 ⟨rfl, h6⟩
  have k2 := h1.trans (h2.mono h1.size)
  have k3 := k2.trans (h3.mono k2.size)
  have k4 := k3.trans (h4.mono k3.size)
  have k5 := k4.trans (h5.mono k4.size)
  have k6 := k5.trans (h6.mono k5.size)
  clear h1 h2 h3 h4 h5 h6 k2 k3 k4 k5
  go_wp2_with fail
  go_ret
  exact ⟨rfl, k6⟩
end Go.Proofs.Yteddioaabhjjnaa
