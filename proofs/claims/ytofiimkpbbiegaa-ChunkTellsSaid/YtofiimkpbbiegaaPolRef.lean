/-
  What the document's Deg, rest, May, Mod, Mul and Gcd return.
-/
import Derived.Test.YtofiimkpbbiegaaPolProd
set_option linter.unusedVariables false
namespace Go.Proofs.Ytofiimkpbbiegaa
open Go.RowKit

theorem Pol.len_mod (a k : Nat) : (a / 2 ^ k % 2 = 1 → Pol.len (a % 2 ^ (k + 1)) = k + 1) ∧ (¬ a / 2 ^ k % 2 = 1 → Pol.len (a % 2 ^ (k + 1)) = Pol.len (a % 2 ^ k)) := by
  have hp : 0 < 2 ^ k := Nat.pow_pos (by decide)
  have h1 : a % 2 ^ (k + 1) = a % 2 ^ k + 2 ^ k * (a / 2 ^ k % 2) := by rw [Nat.pow_succ, Nat.mod_mul]
  have h2 := Nat.mod_lt a hp
  refine ⟨fun h => ?_, fun h => ?_⟩
  · rw [h, Nat.mul_one] at h1
    rw [h1]
    refine Pol.len_eq (Nat.le_add_left _ _) ?_
    rw [Nat.pow_succ]; omega
  · rw [show a / 2 ^ k % 2 = 0 by omega, Nat.mul_zero] at h1
    rw [h1, Nat.add_zero]
/-- a bit, as the walk writes it -/
theorem bit_tmod (a k : Nat) : ((a : Int) / 2 ^ k).tmod 2 = ((a / 2 ^ k % 2 : Nat) : Int) := by
  have hbe : ((a / 2 ^ k : Nat) : Int) = (a : Int) / 2 ^ k := by rw [Int.natCast_ediv, Int.natCast_pow]; rfl
  rw [← hbe, Int.tmod_eq_emod_of_nonneg (Int.natCast_nonneg _)]
  omega

theorem refDeg_any (a : Nat) (ha : a < 18446744073709551616) (w : World) :
    Calls Try.prog 48 #[.int .u64 a] w fun e w' => e = .returned (.int .i64 ((Pol.len a : Int) - 1)) ∧ w = w' := by
  have hm := fun k => Pol.len_mod a k
  have he : a % 2 ^ 64 = a := Nat.mod_eq_of_lt ha
  have h0 : Pol.len (a % 2 ^ 0) = 0 := by rw [Nat.pow_zero, Nat.mod_one]; rfl
  have Hm := Lib.hid hm; clear hm
  have He := Lib.hid he; clear he
  have H0 := Lib.hid h0; clear h0
  have Ha := Lib.hid ha; clear ha
  obtain ⟨n, hn⟩ : ∃ n, n = Pol.len a := ⟨_, rfl⟩
  rw [← hn]
  have Hn := Lib.hid hn; clear hn
  go_enter Try.func48, Try.ntmps48
  go_wp2_with fail
  go_loop [3, 4] (fun d i => ∃ k : Nat, k ≤ 64 ∧ i = .int .i64 (k : Int) ∧ d = .int .i64 ((Pol.len (a % 2 ^ k) : Int) - 1)) (fun _ i => 64 - (intOf i).toNat)
  case atStart => exact ⟨0, by omega, rfl, by rw [H0.out]; rfl⟩
  case round =>
    obtain ⟨k, hk, rfl, rfl⟩ := hrel
    by_cases hc : k = 64
    · subst hc
      rw [He.out, ← Hn.out]
      rw [show ((64 : Nat) : Int) = 64 from rfl]
      go_wp2_with fail
      go_ret
      exact ⟨rfl, rfl⟩
    · have hge : decide ((k : Int) < 64) = true := decide_eq_true (by omega)
      obtain ⟨h1, h2⟩ := Hm.out k
      have hbi := bit_tmod a k
      by_cases hb1 : a / 2 ^ k % 2 = 1
      · rw [hb1, show ((1 : Nat) : Int) = 1 from rfl] at hbi
        have hz := h1 hb1
        have Hz := Lib.hid hz
        clear h1 h2 hb1 hz
        go_wp2_with fail
        go_round
        case rel => exact ⟨k + 1, by omega, by go_num, by rw [Hz.out]; go_num⟩
        case measure => simp [intOf]; omega
      · rw [show a / 2 ^ k % 2 = 0 by omega, show ((0 : Nat) : Int) = 0 from rfl] at hbi
        have hz := h2 hb1
        have Hz := Lib.hid hz
        clear h1 h2 hb1 hz
        go_wp2_with fail
        go_round
        case rel => exact ⟨k + 1, by omega, by go_num, by rw [Hz.out]⟩
        case measure => simp [intOf]; omega

theorem rest_any (a p : Nat) (ha : a < 18446744073709551616) (hp : p < 18446744073709551616) (hp0 : p ≠ 0) (w : World) :
    Calls Try.prog 58 #[.int .u64 a, .int .u64 p] w fun e w' => e = .returned (.int .u64 (Pol.rem a p : Nat)) ∧ w = w' := by
  have hlp := len64 hp
  have hpp := Pol.len_pos hp0
  have cp := fun u => refDeg_any p hp u
  obtain ⟨d, hd⟩ : ∃ d, Pol.len p = d + 1 := ⟨Pol.len p - 1, by omega⟩
  rw [hd, show ((d + 1 : Nat) : Int) - 1 = (d : Int) by omega] at cp
  have Cp := Lib.hid cp; clear cp
  obtain ⟨r, hr⟩ : ∃ r, r = Pol.rem a p := ⟨_, rfl⟩
  rw [← hr]
  have Hr := Lib.hid hr; clear hr
  have Hla := Lib.hid (len64 ha)
  clear ha
  rw [hd] at hlp
  have Hd := Lib.hid hd; clear hd
  have Hp0 := Lib.hid hp0; clear hp0
  have Hp := Lib.hid hp; clear hp
  clear hpp
  go_enter Try.func58, Try.ntmps58
  go_wp2_with fail
  refine (Cp.out _).mono ?_; rintro e w1 ⟨rfl, rfl⟩
  go_wp2_with fail
  go_loop [0, 6] (fun a' i => ∃ x j : Nat, j ≤ 64 ∧ d ≤ j ∧ Pol.len x ≤ j ∧ Pol.rem x p = r ∧ a' = .int .u64 (x : Nat) ∧ i = .int .i64 ((j : Int) - 1)) (fun _ i => (intOf i + 1).toNat)
  case atStart => exact ⟨a, 64, by omega, by omega, Hla.out, Hr.out.symm, rfl, by go_num⟩
  case round =>
    obtain ⟨x, j, hj, hdj, hx, hxr, rfl, rfl⟩ := hrel
    by_cases hc : j = d
    · subst hc
      have hge : decide ((j : Int) ≤ ((j : Int) - 1)) = false := decide_eq_false (by omega)
      have hxs := Pol.rem_small (show Pol.len x < Pol.len p by rw [Hd.out]; omega)
      rw [hxr] at hxs
      subst hxs
      clear hx
      go_wp2_with fail
      go_ret
      exact ⟨rfl, rfl⟩
    · obtain ⟨i, rfl⟩ : ∃ i, j = i + 1 := ⟨j - 1, by omega⟩
      have hi : (((i + 1 : Nat) : Int) - 1) = (i : Int) := by omega
      rw [hi]
      have hdi : d ≤ i := by omega
      have hge : decide ((d : Int) ≤ (i : Int)) = true := decide_eq_true (by omega)
      have hbi := bit_tmod x i
      have hx64 : x < 18446744073709551616 := lt64 (by omega)
      by_cases hb1 : x / 2 ^ i % 2 = 1
      · rw [hb1, show ((1 : Nat) : Int) = 1 from rfl] at hbi
        have hlx : Pol.len x = i + 1 := by
          by_cases e : Pol.len x ≤ i
          · rw [Nat.div_eq_of_lt ((Pol.len_le x i).1 e)] at hb1; omega
          · omega
        obtain ⟨k, hk⟩ : ∃ k : Nat, i = d + k := ⟨i - d, by omega⟩
        have hst := Pol.step_len Hp0.out (show Pol.len p ≤ Pol.len x by rw [Hd.out, hlx]; omega)
        have hre := Pol.rem_step x Hp0.out (Pol.len x - Pol.len p)
        rw [hlx, Hd.out, show i + 1 - (d + 1) = k by omega] at hst hre
        rw [hxr] at hre
        have hp1 := Pol.len_pow_mul p k Hp0.out
        rw [Hd.out] at hp1
        have hp64 : p * 2 ^ k < 18446744073709551616 := lt64 (by omega)
        have hv := u64_xor_nat x (p * 2 ^ k) hx64 hp64
        have hqe : ((p * 2 ^ k : Nat) : Int) = (p : Int) * 2 ^ k := by rw [Int.natCast_mul, Int.natCast_pow]; rfl
        rw [hqe] at hv
        obtain ⟨x', hx'⟩ : ∃ x', x' = x ^^^ p * 2 ^ k := ⟨_, rfl⟩
        rw [← hx'] at hv hre hst
        have hw := wrap_u64_in ((p : Int) * 2 ^ k) (by omega) (by omega)
        have hdk : ((i : Int) - (d : Int)) = (k : Int) := by omega
        have hdk' : IntKind.i64.wrap ((i : Int) - (d : Int)) = (k : Int) := by rw [hdk]; exact IntWalk.i64_in _ (by omega)
        have hk63 : k ≤ 63 := by omega
        clear hqe hp64 hp1 hx64 hx' hi hlx hb1
        have Hv := Lib.hid hv; clear hv
        have Hre := Lib.hid hre; clear hre
        have Hst := Lib.hid hst; clear hst
        have Hk := Lib.hid hk; clear hk
        clear hxr hx
        go_wp2_with fail
        rw [Hv.out]
        have hst := Hst.out
        go_round
        case rel => exact ⟨x', i, by omega, by omega, by omega, Hre.out, rfl, by go_num⟩
        case measure => simp [intOf]
      · rw [show x / 2 ^ i % 2 = 0 by omega, show ((0 : Nat) : Int) = 0 from rfl] at hbi
        have hlx : Pol.len x ≤ i := by
          by_cases e : Pol.len x = i + 1
          · exfalso
            have h1 : 2 ^ i ≤ x := (Pol.lt_len x i).1 (by omega)
            have h2 : x < 2 ^ (i + 1) := (Pol.len_le x _).1 (by omega)
            rw [Nat.pow_succ] at h2
            have : x / 2 ^ i = 1 := Nat.div_eq_of_lt_le (by omega) (by omega)
            omega
          · omega
        have Hlx := Lib.hid hlx; clear hlx
        have Hxr := Lib.hid hxr; clear hxr
        clear hb1 hx hx64 hi
        go_wp2_with fail
        go_round
        case rel => exact ⟨x, i, by omega, by omega, Hlx.out, Hxr.out, rfl, by go_num⟩
        case measure => simp [intOf]

theorem refMod_any (a p : Nat) (ha : a < 18446744073709551616) (hp : p < 18446744073709551616) (w : World) :
    (p = 0 → Calls Try.prog 49 #[.int .u64 a, .int .u64 p] w fun e w' => e = .returned (.tuple #[.int .u64 0, .int .i64 2]) ∧ w = w') ∧
    (p ≠ 0 → Calls Try.prog 49 #[.int .u64 a, .int .u64 p] w fun e w' => e = .returned (.tuple #[.int .u64 (Pol.rem a p : Nat), .int .i64 0]) ∧ w = w') := by
  refine ⟨fun h => ?_, fun h => ?_⟩
  · subst h
    go_enter Try.func49, Try.ntmps49
    go_wp2_with fail
    go_ret2
    exact ⟨rfl, rfl⟩
  · have c := fun u => rest_any a p ha hp h u
    have C := Lib.hid c; clear c
    have hd : decide (p = 0) = false := decide_eq_false h
    have Ha := Lib.hid ha; clear ha
    have Hp := Lib.hid hp; clear hp
    generalize Pol.rem a p = r at *
    go_enter Try.func49, Try.ntmps49
    go_wp2_with fail
    refine (C.out _).mono ?_; rintro e w1 ⟨rfl, rfl⟩
    go_wp2_with fail
    go_ret2
    exact ⟨rfl, rfl⟩

end Go.Proofs.Ytofiimkpbbiegaa
