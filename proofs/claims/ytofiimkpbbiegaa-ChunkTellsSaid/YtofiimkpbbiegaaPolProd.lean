/-
  What product, Mod, Mul and Gcd return.
-/
import Derived.Test.YtofiimkpbbiegaaPolSmall
set_option linter.unusedVariables false
namespace Go.Proofs.Ytofiimkpbbiegaa
open Go.RowKit

/-- a bit of a number, as the walk writes it -/
theorem and_one (n : Nat) (h : n < 18446744073709551616) : bits .and .u64 (n : Int) 1 = ((n % 2 : Nat) : Int) := by
  have := u64_and_nat n 1 h (by decide)
  rw [show ((1 : Nat) : Int) = 1 from rfl] at this
  rw [this, Nat.and_one_is_mod]

/-- one step of the product, from above -/
theorem Pol.mul_shift (a b k : Nat) : Pol.mul a (b / 2 ^ k) = (if b / 2 ^ k % 2 = 1 then a else 0) ^^^ 2 * Pol.mul a (b / 2 ^ (k + 1)) := by
  rw [Pol.mul_bit a (b / 2 ^ k), Nat.div_div_eq_div_mul, Nat.pow_succ]
theorem Pol.rem_bit {a p : Nat} (hp : p ≠ 0) (ha : Pol.len a < Pol.len p) (b k : Nat) :
    (b / 2 ^ k % 2 = 1 → Pol.rem (Pol.mul a (b / 2 ^ k)) p = Pol.rem (2 * Pol.rem (Pol.mul a (b / 2 ^ (k + 1))) p) p ^^^ a) ∧
    (¬ b / 2 ^ k % 2 = 1 → Pol.rem (Pol.mul a (b / 2 ^ k)) p = Pol.rem (2 * Pol.rem (Pol.mul a (b / 2 ^ (k + 1))) p) p) := by
  rw [Pol.rem_two _ hp, Pol.mul_shift]
  refine ⟨fun h => ?_, fun h => ?_⟩
  · rw [if_pos h, Pol.rem_xor _ _ hp, Pol.rem_small ha, Nat.xor_comm]
  · rw [if_neg h, Nat.zero_xor]
theorem Pol.div_len (b : Nat) : b / 2 ^ Pol.len b = 0 := Nat.div_eq_of_lt ((Pol.len_le b _).1 (Nat.le_refl _))

theorem product_any (a b p : Nat) (hb : b < 18446744073709551616) (hp2 : 2 ≤ Pol.len p) (hp57 : Pol.len p ≤ 57) (ha : Pol.len a < Pol.len p) (w : World) :
    Calls Try.prog 53 #[.int .u64 a, .int .u64 b, .int .u64 p] w fun e w' => e = .returned (.int .u64 (Pol.rem (Pol.mul a b) p : Nat)) ∧ w = w' := by
  have hp0 : p ≠ 0 := fun e => by subst e; rw [Pol.len_zero] at hp2; omega
  have hp : p < 18446744073709551616 := lt64 (by omega)
  obtain ⟨r, hr⟩ : ∃ r, r = Pol.rem (Pol.mul a b) p := ⟨_, rfl⟩
  rw [← hr]
  have Hr := Lib.hid hr; clear hr
  have ha64 : a < 18446744073709551616 := lt64 (by omega)
  have cb := fun u => deg_any b hb u
  have Cb := Lib.hid cb; clear cb
  have hlb := len64 hb
  have hdl := Pol.div_len b
  have hbit := fun k => Pol.rem_bit hp0 ha b k
  have hsl : ∀ k, Pol.len (Pol.rem (Pol.mul a (b / 2 ^ k)) p) < Pol.len p := fun k => Pol.rem_len _ hp0
  have cs : ∀ x, Pol.len x < Pol.len p → ∀ u, _ := fun x hx u => shifted_any x p hp hp0 (lt64 (by
    by_cases h0 : x = 0
    · subst h0; rw [Nat.mul_zero, Pol.len_zero]; omega
    · rw [Pol.len_double x h0]; omega)) u
  have hrl : ∀ x, Pol.rem x p < 18446744073709551616 := fun x => lt64 (by have := Pol.rem_len x hp0; omega)
  have Hrl := Lib.hid hrl; clear hrl
  have Cs := Lib.hid cs; clear cs
  have Hsl := Lib.hid hsl; clear hsl
  have Hbit := Lib.hid hbit; clear hbit
  have Ha := Lib.hid ha; clear ha
  have Ha64 := Lib.hid ha64; clear ha64
  have Hb := Lib.hid hb; clear hb
  obtain ⟨lb, hl⟩ : ∃ lb, lb = Pol.len b := ⟨_, rfl⟩
  rw [← hl] at Cb hlb hdl
  clear hl hp57 hp2 hp hp0
  have h0 : Pol.rem (Pol.mul a 0) p = 0 := Pol.rem_small (by rw [Pol.mul_zero, Pol.len_zero]; have := Hsl.out 0; omega)
  have h1 : Pol.rem (Pol.mul a (b / 2 ^ lb)) p = 0 := by rw [hdl]; exact h0
  have H1 := Lib.hid h1; clear h1 h0 hdl
  go_enter Try.func53, Try.ntmps53
  go_wp2_with fail
  refine (Cb.out _).mono ?_; rintro e w1 ⟨rfl, rfl⟩
  go_wp2_with fail
  go_loop [7, 8] (fun s i => ∃ k : Nat, k ≤ lb ∧ i = .int .i64 ((k : Int) - 1) ∧ s = .int .u64 (Pol.rem (Pol.mul a (b / 2 ^ k)) p : Nat)) (fun _ i => (intOf i + 1).toNat)
  case atStart => exact ⟨lb, Nat.le_refl _, rfl, by rw [H1.out]; rfl⟩
  case round =>
    obtain ⟨k, hk, rfl, rfl⟩ := hrel
    by_cases hc : k = 0
    · subst hc
      have hge : decide ((0 : Int) ≤ (((0 : Nat) : Int) - 1)) = false := by decide
      have e0 : Pol.rem (Pol.mul a (b / 2 ^ 0)) p = r := by rw [Nat.pow_zero, Nat.div_one]; exact Hr.out.symm
      rw [e0]
      clear e0
      go_wp2_with fail
      go_ret
      exact ⟨rfl, rfl⟩
    · obtain ⟨j, rfl⟩ : ∃ j, k = j + 1 := ⟨k - 1, by omega⟩
      have hd : (((j + 1 : Nat) : Int) - 1) = (j : Int) := by omega
      rw [hd]
      have hge : decide ((0 : Int) ≤ (j : Int)) = true := decide_eq_true (by omega)
      have hs := Hsl.out (j + 1)
      obtain ⟨ho, hz⟩ := Hbit.out j
      have hs64 := Hrl.out (2 * Pol.rem (Pol.mul a (b / 2 ^ (j + 1))) p)
      generalize Pol.rem (Pol.mul a (b / 2 ^ (j + 1))) p = s at *
      have cs := Cs.out s hs
      generalize Pol.rem (2 * s) p = s2 at *
      have CS := Lib.hid cs; clear cs
      have hbk : b / 2 ^ j < 18446744073709551616 := Nat.lt_of_le_of_lt (Nat.div_le_self _ _) Hb.out
      have hba := and_one (b / 2 ^ j) hbk
      have hbe : ((b / 2 ^ j : Nat) : Int) = (b : Int) / 2 ^ j := by rw [Int.natCast_ediv, Int.natCast_pow]; rfl
      rw [hbe] at hba
      have hj64 : j ≤ 63 := by omega
      have hx := u64_xor_nat s2 a hs64 Ha64.out
      clear hbk hbe hs64 hs hd
      by_cases hb1 : b / 2 ^ j % 2 = 1
      · rw [hb1] at hba
        have e := ho hb1
        rw [← e] at hx
        have Hx := Lib.hid hx; clear hx
        clear ho hz hb1 e
        go_wp2_with fail
        refine (CS.out _).mono ?_; rintro e w1 ⟨rfl, rfl⟩
        go_wp2_with fail
        rw [Hx.out]
        go_round
        case rel => exact ⟨j, by omega, by go_num, rfl⟩
        case measure => simp [intOf]
      · rw [show b / 2 ^ j % 2 = 0 by omega] at hba
        have e := hz hb1
        have He := Lib.hid e
        clear ho hz hb1 e hx
        go_wp2_with fail
        refine (CS.out _).mono ?_; rintro e w1 ⟨rfl, rfl⟩
        go_wp2_with fail
        go_round
        case rel => exact ⟨j, by omega, by go_num, by rw [He.out]⟩
        case measure => simp [intOf]

theorem mod_any (a p : Nat) (ha : a < 18446744073709551616) (hp : p < 18446744073709551616) (w : World) :
    (p = 0 → Calls Try.prog 57 #[.int .u64 a, .int .u64 p] w fun e w' => e = .returned (.tuple #[.int .u64 0, .int .i64 2]) ∧ w = w') ∧
    (p ≠ 0 → Calls Try.prog 57 #[.int .u64 a, .int .u64 p] w fun e w' => e = .returned (.tuple #[.int .u64 (Pol.rem a p : Nat), .int .i64 0]) ∧ w = w') := by
  refine ⟨fun h => ?_, fun h => ?_⟩
  · subst h
    go_enter Try.func57, Try.ntmps57
    go_wp2_with fail
    go_ret2
    exact ⟨rfl, rfl⟩
  · have c := fun u => remainder_any a p ha hp h u
    have C := Lib.hid c; clear c
    have hd : decide (p = 0) = false := decide_eq_false h
    have Ha := Lib.hid ha; clear ha
    have Hp := Lib.hid hp; clear hp
    generalize Pol.rem a p = r at *
    go_enter Try.func57, Try.ntmps57
    go_wp2_with fail
    refine (C.out _).mono ?_; rintro e w1 ⟨rfl, rfl⟩
    go_wp2_with fail
    go_ret2
    exact ⟨rfl, rfl⟩

/-- may products be taken by it -/
def Pol.may (p : Nat) : Prop := 2 ≤ Pol.len p ∧ Pol.len p ≤ 57
instance (p : Nat) : Decidable (Pol.may p) := by unfold Pol.may; infer_instance
theorem mul_any (a b p : Nat) (ha : a < 18446744073709551616) (hb : b < 18446744073709551616) (hp : p < 18446744073709551616) (w : World) :
    (¬ Pol.may p → Calls Try.prog 44 #[.int .u64 a, .int .u64 b, .int .u64 p] w fun e w' => e = .returned (.tuple #[.int .u64 0, .int .i64 2]) ∧ w = w') ∧
    (Pol.may p → Calls Try.prog 44 #[.int .u64 a, .int .u64 b, .int .u64 p] w fun e w' => e = .returned (.tuple #[.int .u64 (Pol.rem (Pol.mul a b) p : Nat), .int .i64 0]) ∧ w = w') := by
  have cm := fun u => modulus_any p hp u
  refine ⟨fun h => ?_, fun h => ?_⟩
  · rw [decide_eq_false (show ¬ (2 ≤ Pol.len p ∧ Pol.len p ≤ 57) from h)] at cm
    have Cm := Lib.hid cm; clear cm
    clear ha hb hp h
    go_enter Try.func44, Try.ntmps44
    go_wp2_with fail
    refine (Cm.out _).mono ?_; rintro e w1 ⟨rfl, rfl⟩
    go_wp2_with fail
    go_ret2
    exact ⟨rfl, rfl⟩
  · rw [decide_eq_true (show 2 ≤ Pol.len p ∧ Pol.len p ≤ 57 from h)] at cm
    have Cm := Lib.hid cm; clear cm
    have hp0 : p ≠ 0 := fun e => by have := h.1; subst e; rw [Pol.len_zero] at this; omega
    have cr := fun u => remainder_any a p ha hp hp0 u
    have Cr := Lib.hid cr; clear cr
    have cp := fun u => product_any (Pol.rem a p) b p hb h.1 h.2 (Pol.rem_len a hp0) u
    rw [Pol.rem_mul_left a b hp0] at cp
    have Cp := Lib.hid cp; clear cp
    generalize Pol.rem (Pol.mul a b) p = r at *
    generalize Pol.rem a p = q at *
    clear ha hb hp h hp0
    go_enter Try.func44, Try.ntmps44
    go_wp2_with fail
    refine (Cm.out _).mono ?_; rintro e w1 ⟨rfl, rfl⟩
    go_wp2_with fail
    refine (Cr.out _).mono ?_; rintro e w1 ⟨rfl, rfl⟩
    go_wp2_with fail
    refine (Cp.out _).mono ?_; rintro e w1 ⟨rfl, rfl⟩
    go_wp2_with fail
    go_ret2
    exact ⟨rfl, rfl⟩

/-- powers of x, one by one -/
theorem Pol.pow_step (k : Nat) {p : Nat} (hp : p ≠ 0) : Pol.rem (2 * Pol.rem (2 ^ k) p) p = Pol.rem (2 ^ (k + 1)) p := by
  rw [Pol.rem_two _ hp, Nat.pow_succ, Nat.mul_comm]
end Go.Proofs.Ytofiimkpbbiegaa
