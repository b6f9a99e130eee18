/-
  What shifted returns: a number, shifted by the bits of a byte.
-/
import Derived.Test.YteddioaabhjjnaaCrcTabPure
import Derived.Test.YteddioaabhjjnaaRows
set_option linter.unusedVariables false
namespace Go.Proofs.Yteddioaabhjjnaa
open Go.RowKit

theorem shifted_any (c : Nat) (hc : c < 4294967296) (w : World) :
    Calls Try.prog 22 #[.int .u32 c] w fun e w' => e = .returned (.int .u32 (Crc.it 8 c)) ∧ w = w' := by
  go_enter Try.func22, Try.ntmps22
  go_wp2
  go_loop [0, 4] (fun a i => ∃ k : Nat, k ≤ 8 ∧ i = .int .i64 k ∧ a = .int .u32 (Crc.it k c : Nat)) (fun _ i => 8 - (intOf i).toNat)
  case atStart => exact ⟨0, by omega, rfl, rfl⟩
  case round =>
    obtain ⟨k, hk, rfl, rfl⟩ := hrel
    by_cases hlt : k < 8
    · have hs := Crc.it_succ k c
      have hx := Crc.it_lt k c hc
      generalize Crc.it k c = x at *
      have ha := u32_and1 x hx
      have hst : Crc.step x = x / 2 ^^^ (if x % 2 = 1 then Crc.poly else 0) := rfl
      rw [hst] at hs
      by_cases ho : x % 2 = 1
      · have hv : bits .xor .u32 ((x : Int) / 2) 3988292384 = ((Crc.it (k + 1) c : Nat) : Int) := by
          rw [hs, if_pos ho]
          have := u32_xor (x / 2) Crc.poly (by omega) Crc.poly_lt
          exact this
        rw [ho] at ha
        have Hv := Lib.hid hv; clear hv
        have Hs := Lib.hid hs; clear hs hst
        clear ho
        go_wp2
        go_round
        case rel => exact ⟨k + 1, by omega, by go_num, by rw [← Hv.out]⟩
        case measure => simp [intOf]; omega
      · have hv : ((x : Int) / 2) = ((Crc.it (k + 1) c : Nat) : Int) := by
          rw [hs, if_neg ho]; simp
        rw [show x % 2 = 0 by omega] at ha
        have Hv := Lib.hid hv; clear hv
        have Hs := Lib.hid hs; clear hs hst
        clear ho
        go_wp2
        go_round
        case rel => exact ⟨k + 1, by omega, by go_num, by rw [← Hv.out]⟩
        case measure => simp [intOf]; omega
    · obtain rfl : k = 8 := by omega
      rw [show ((8 : Nat) : Int) = 8 from rfl]
      go_wp2
      go_ret
      exact ⟨rfl, rfl⟩
end Go.Proofs.Yteddioaabhjjnaa
