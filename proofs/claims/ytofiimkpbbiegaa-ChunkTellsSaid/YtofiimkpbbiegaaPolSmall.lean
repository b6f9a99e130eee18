/-
  What Deg, remainder, modulus, shifted and product return.
-/
import Derived.Test.YtofiimkpbbiegaaRows
import Derived.Test.YtofiimkpbbiegaaShelf
import Derived.Test.YtofiimkpbbiegaaPolPure2
import Derived.Test.YtofiimkpbbiegaaGoAll
import Derived.WalkKit
import Derived.WalkSpells
import Derived.WalkLawsBesides
import Derived.Below
import Derived.Lib.Hide
import Derived.Lib.BitFns
import Derived.BigQuiet
set_option linter.unusedVariables false
namespace Go.Proofs.Ytofiimkpbbiegaa
open Go.RowKit

theorem bitLenAux_len (f x : Nat) (h : x < 2 ^ f) : Lib.bitLenAux f x = Pol.len x := by
  induction f generalizing x with
  | zero =>
    obtain rfl : x = 0 := by simpa using h
    rfl
  | succ f ih =>
    rw [Lib.bitLenAux]
    by_cases h0 : x = 0
    · subst h0; rfl
    · rw [if_neg h0, ih _ (by rw [Nat.pow_succ] at h; omega), Pol.len_half]
      have := Pol.len_pos h0
      omega
theorem bitLen_len (x : Nat) (h : x < 18446744073709551616) : Lib.bitLen x = Pol.len x := bitLenAux_len 64 x h
theorem len64 {a : Nat} (h : a < 18446744073709551616) : Pol.len a ≤ 64 := (Pol.len_le a 64).2 h
theorem lt64 {a : Nat} (h : Pol.len a ≤ 64) : a < 18446744073709551616 := (Pol.len_le a 64).1 h

theorem deg_any (a : Nat) (ha : a < 18446744073709551616) (w : World) :
    Calls Try.prog 50 #[.int .u64 a] w fun e w' => e = .returned (.int .i64 ((Pol.len a : Int) - 1)) ∧ w = w' := by
  have hl := len64 ha
  have c := fun u => Try.bits_Len64 (a : Int) u (by omega) (by omega)
  rw [Int.toNat_natCast, bitLen_len a ha] at c
  have C := Lib.hid c; clear c
  generalize Pol.len a = n at *
  go_enter Try.func50, Try.ntmps50
  go_wp2_with fail
  refine (C.out _).mono ?_; rintro e w1 ⟨rfl, rfl⟩
  go_wp2_with fail
  go_ret
  exact ⟨rfl, rfl⟩

theorem remainder_any (a p : Nat) (ha : a < 18446744073709551616) (hp : p < 18446744073709551616) (hp0 : p ≠ 0) (w : World) :
    Calls Try.prog 56 #[.int .u64 a, .int .u64 p] w fun e w' => e = .returned (.int .u64 (Pol.rem a p : Nat)) ∧ w = w' := by
  have hlp := len64 hp
  have hpp := Pol.len_pos hp0
  have cp := fun u => deg_any p hp u
  have Cp := Lib.hid cp; clear cp
  obtain ⟨r, hr⟩ : ∃ r, r = Pol.rem a p := ⟨_, rfl⟩
  rw [← hr]
  have Hr := Lib.hid hr; clear hr
  have ca := fun u => deg_any a ha u
  have Ca := Lib.hid ca; clear ca
  have hla := len64 ha
  have Ha := Lib.hid ha; clear ha
  obtain ⟨L, hL⟩ : ∃ L, L = Pol.len p := ⟨_, rfl⟩
  rw [← hL] at Cp hlp hpp
  have HL := Lib.hid hL; clear hL
  have Hp := Lib.hid hp; clear hp
  have Hp0 := Lib.hid hp0; clear hp0
  obtain ⟨la, hl⟩ : ∃ la, la = Pol.len a := ⟨_, rfl⟩
  rw [← hl] at Ca hla
  have Hl := Lib.hid hl; clear hl
  go_enter Try.func56, Try.ntmps56
  go_wp2_with fail
  refine (Ca.out _).mono ?_; rintro e w1 ⟨rfl, rfl⟩
  go_wp2_with fail
  refine (Cp.out _).mono ?_; rintro e w1 ⟨rfl, rfl⟩
  go_wp2_with fail
  go_loop [0, 5] (fun a' d => ∃ x lx : Nat, lx = Pol.len x ∧ lx ≤ 64 ∧ Pol.rem x p = r ∧ a' = .int .u64 (x : Nat) ∧ d = .int .i64 ((lx : Int) - L)) (fun _ d => (intOf d + L + 1).toNat)
  case atStart => exact ⟨a, la, Hl.out, hla, Hr.out.symm, rfl, by go_num⟩
  case round =>
    obtain ⟨x, lx, hx, hlx, hxr, rfl, rfl⟩ := hrel
    by_cases hc : L ≤ lx
    · obtain ⟨k, hk⟩ : ∃ k : Nat, lx = L + k := ⟨lx - L, by omega⟩
      have hd : ((lx : Int) - L) = (k : Int) := by omega
      rw [hd]
      have hst := Pol.step_len Hp0.out (show Pol.len p ≤ Pol.len x by rw [← hx, ← HL.out]; exact hc)
      have hre := Pol.rem_step x Hp0.out (Pol.len x - Pol.len p)
      rw [← hx, ← HL.out, show lx - L = k by omega] at hst hre
      rw [hxr] at hre
      have hp1 := Pol.len_pow_mul p k Hp0.out
      rw [← HL.out] at hp1
      have hx64 : x < 18446744073709551616 := lt64 (by rw [← hx]; exact hlx)
      have hp64 : p * 2 ^ k < 18446744073709551616 := lt64 (by omega)
      have hv := u64_xor_nat x (p * 2 ^ k) hx64 hp64
      have h64' : x ^^^ p * 2 ^ k < 18446744073709551616 := lt64 (by omega)
      have hqe : ((p * 2 ^ k : Nat) : Int) = (p : Int) * 2 ^ k := by rw [Int.natCast_mul, Int.natCast_pow]; rfl
      rw [hqe] at hv
      obtain ⟨x', hx'⟩ : ∃ x', x' = x ^^^ p * 2 ^ k := ⟨_, rfl⟩
      rw [← hx'] at hv hre hst h64'
      have cx := fun u => deg_any x' h64' u
      have Cx := Lib.hid cx; clear cx
      have hw := wrap_u64_in ((p : Int) * 2 ^ k) (by omega) (by omega)
      have hk64 : k ≤ 63 := by omega
      clear hqe
      have hge : decide ((0 : Int) ≤ (k : Int)) = true := decide_eq_true (by omega)
      have Hv := Lib.hid hv; clear hv
      have Hre := Lib.hid hre; clear hre
      have Hst := Lib.hid hst; clear hst
      clear h64' hx64 hp64 hp1 hxr hx' hx hd
      go_wp2_with fail
      rw [Hv.out]
      refine (Cx.out _).mono ?_; rintro e w1 ⟨rfl, rfl⟩
      go_wp2_with fail
      refine (Cp.out _).mono ?_; rintro e w1 ⟨rfl, rfl⟩
      have hst := Hst.out
      go_wp2_with fail
      go_round
      case rel => exact ⟨x', Pol.len x', rfl, by omega, Hre.out, rfl, by go_num⟩
      case measure => simp [intOf]; omega
    · have hge : decide ((0 : Int) ≤ ((lx : Int) - L)) = false := decide_eq_false (by omega)
      have hxs := Pol.rem_small (show Pol.len x < Pol.len p by rw [← hx, ← HL.out]; omega)
      rw [hxr] at hxs
      subst hxs
      go_wp2_with fail
      go_ret
      exact ⟨rfl, rfl⟩

/-- 1 bit to the left -/
theorem shl_one (a : Nat) : a <<< 1 = 2 * a := by rw [Nat.shiftLeft_eq]; omega

theorem modulus_any (p : Nat) (hp : p < 18446744073709551616) (w : World) :
    Calls Try.prog 51 #[.int .u64 p] w fun e w' => e = .returned (.bool (decide (2 ≤ Pol.len p ∧ Pol.len p ≤ 57))) ∧ w = w' := by
  have cp := fun u => deg_any p hp u
  have Cp := Lib.hid cp; clear cp
  have hlp := len64 hp
  have Hp := Lib.hid hp; clear hp
  generalize Pol.len p = L at *
  go_enter Try.func51, Try.ntmps51
  go_wp2_with fail
  refine (Cp.out _).mono ?_; rintro e w1 ⟨rfl, rfl⟩
  by_cases h1 : 2 ≤ L
  · have g1 : decide ((1 : Int) ≤ ((L : Int) - 1)) = true := decide_eq_true (by omega)
    by_cases h2 : L ≤ 57
    · have g2 : decide (((L : Int) - 1) ≤ 56) = true := decide_eq_true (by omega)
      go_wp2_with fail
      go_ret
      exact ⟨by rw [decide_eq_true (⟨h1, h2⟩ : 2 ≤ L ∧ L ≤ 57)]; rfl, rfl⟩
    · have g2 : decide (((L : Int) - 1) ≤ 56) = false := decide_eq_false (by omega)
      go_wp2_with fail
      go_ret
      exact ⟨by rw [decide_eq_false (fun h => h2 h.2 : ¬ (2 ≤ L ∧ L ≤ 57))]; rfl, rfl⟩
  · have g1 : decide ((1 : Int) ≤ ((L : Int) - 1)) = false := decide_eq_false (by omega)
    go_wp2_with fail
    go_ret
    exact ⟨by rw [decide_eq_false (fun h => h1 h.1 : ¬ (2 ≤ L ∧ L ≤ 57))]; rfl, rfl⟩

theorem shifted_any (a p : Nat) (hp : p < 18446744073709551616) (hp0 : p ≠ 0) (ha : 2 * a < 18446744073709551616) (w : World) :
    Calls Try.prog 55 #[.int .u64 a, .int .u64 p] w fun e w' => e = .returned (.int .u64 (Pol.rem (2 * a) p : Nat)) ∧ w = w' := by
  have c := fun u => remainder_any (2 * a) p ha hp hp0 u
  rw [show ((2 * a : Nat) : Int) = (a : Int) * 2 by omega] at c
  have C := Lib.hid c; clear c
  have hwr := wrap_u64_in ((a : Int) * 2) (by omega) (by omega)
  have Hp := Lib.hid hp; clear hp
  have Hp0 := Lib.hid hp0; clear hp0
  have Ha := Lib.hid ha; clear ha
  go_enter Try.func55, Try.ntmps55
  go_wp2_with fail
  refine (C.out _).mono ?_; rintro e w1 ⟨rfl, rfl⟩
  go_wp2_with fail
  go_ret
  exact ⟨rfl, rfl⟩
end Go.Proofs.Ytofiimkpbbiegaa
