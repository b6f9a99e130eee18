/-
  What divides, Check, followed and Of return.
-/
import Derived.Test.YtofiimkpbbiegaaPolUp
import Derived.Test.YtofiimkpbbiegaaRabPure
set_option linter.unusedVariables false
namespace Go.Proofs.Ytofiimkpbbiegaa
open Go.RowKit

theorem divides_any (p : Nat) (hp : p < 18446744073709551616) (w : World) :
    Calls Try.prog 41 #[.int .u64 p] w fun e w' => e = .returned (.bool (decide (9 ≤ Pol.len p ∧ Pol.len p ≤ 57))) ∧ w = w' := by
  have cp := fun u => deg_any p hp u
  have Cp := Lib.hid cp; clear cp
  have hlp := len64 hp
  have Hp := Lib.hid hp; clear hp
  generalize Pol.len p = L at *
  go_enter Try.func41, Try.ntmps41
  go_wp2_with fail
  refine (Cp.out _).mono ?_; rintro e w1 ⟨rfl, rfl⟩
  by_cases h1 : 9 ≤ L
  · have g1 : decide ((8 : Int) ≤ ((L : Int) - 1)) = true := decide_eq_true (by omega)
    by_cases h2 : L ≤ 57
    · have g2 : decide (((L : Int) - 1) ≤ 56) = true := decide_eq_true (by omega)
      go_wp2_with fail
      go_ret
      exact ⟨by rw [decide_eq_true (⟨h1, h2⟩ : 9 ≤ L ∧ L ≤ 57)]; rfl, rfl⟩
    · have g2 : decide (((L : Int) - 1) ≤ 56) = false := decide_eq_false (by omega)
      go_wp2_with fail
      go_ret
      exact ⟨by rw [decide_eq_false (fun h => h2 h.2 : ¬ (9 ≤ L ∧ L ≤ 57))]; rfl, rfl⟩
  · have g1 : decide ((8 : Int) ≤ ((L : Int) - 1)) = false := decide_eq_false (by omega)
    go_wp2_with fail
    go_ret
    exact ⟨by rw [decide_eq_false (fun h => h1 h.1 : ¬ (9 ≤ L ∧ L ≤ 57))]; rfl, rfl⟩

/-- may there be a roller? -/
def rabMay (p : Nat) (n : Int) : Prop := Pol.fine p ∧ 1 ≤ n ∧ n ≤ 64
instance (p : Nat) (n : Int) : Decidable (rabMay p n) := by unfold rabMay Pol.fine; infer_instance

theorem check_any (p : Nat) (n : Int) (hp : p < 18446744073709551616) (w : World) :
    (¬ rabMay p n → Calls Try.prog 31 #[.int .u64 p, .int .i64 n] w fun e w' => e = .returned (.int .i64 2) ∧ w = w') ∧
    (rabMay p n → Calls Try.prog 31 #[.int .u64 p, .int .i64 n] w fun e w' => e = .returned (.int .i64 0) ∧ w = w') := by
  have cd := fun u => divides_any p hp u
  by_cases hf : 9 ≤ Pol.len p ∧ Pol.len p ≤ 57
  · rw [decide_eq_true hf] at cd
    have Cd := Lib.hid cd; clear cd
    by_cases h1 : n < 1
    · refine ⟨fun _ => ?_, fun h => by have := h.2; omega⟩
      have g : decide (n < 1) = true := decide_eq_true h1
      clear hp hf
      go_enter Try.func31, Try.ntmps31
      go_wp2_with fail
      refine (Cd.out _).mono ?_; rintro e w1 ⟨rfl, rfl⟩
      go_wp2_with fail
      go_ret
      exact ⟨rfl, rfl⟩
    · have g : decide (n < 1) = false := decide_eq_false h1
      by_cases h2 : 64 < n
      · refine ⟨fun _ => ?_, fun h => by have := h.2; omega⟩
        have g2 : decide (64 < n) = true := decide_eq_true h2
        clear hp hf
        go_enter Try.func31, Try.ntmps31
        go_wp2_with fail
        refine (Cd.out _).mono ?_; rintro e w1 ⟨rfl, rfl⟩
        go_wp2_with fail
        go_ret
        exact ⟨rfl, rfl⟩
      · refine ⟨fun h => absurd ⟨hf, by omega, by omega⟩ h, fun _ => ?_⟩
        have g2 : decide (64 < n) = false := decide_eq_false h2
        clear hp hf
        go_enter Try.func31, Try.ntmps31
        go_wp2_with fail
        refine (Cd.out _).mono ?_; rintro e w1 ⟨rfl, rfl⟩
        go_wp2_with fail
        go_ret
        exact ⟨rfl, rfl⟩
  · refine ⟨fun _ => ?_, fun h => absurd h.1 hf⟩
    rw [decide_eq_false hf] at cd
    have Cd := Lib.hid cd; clear cd
    clear hp hf
    go_enter Try.func31, Try.ntmps31
    go_wp2_with fail
    refine (Cd.out _).mono ?_; rintro e w1 ⟨rfl, rfl⟩
    go_wp2_with fail
    go_ret
    exact ⟨rfl, rfl⟩

theorem fp_room {p f : Nat} (hp : Pol.fine p) (hf : Pol.len f < Pol.len p) : f < 72057594037927936 :=
  (Pol.len_le f 56).1 (by have := hp.2; omega)

theorem followed_any (f b p : Nat) (hp : Pol.fine p) (hf : Pol.len f < Pol.len p) (hb : b < 256) (w : World) :
    Calls Try.prog 46 #[.int .u64 f, .int .u8 b, .int .u64 p] w fun e w' => e = .returned (.int .u64 (Pol.foll p f b : Nat)) ∧ w = w' := by
  have hr := fp_room hp hf
  have c := fun u => (mod_any (f * 256 + b) p (by omega) (Pol.fine_lt hp) u).2 (Pol.fine_ne hp)
  have ho : bits .or .u64 ((f : Int) * 256) (b : Int) = ((f * 256 + b : Nat) : Int) := by
    have h1 := Nat.two_pow_add_eq_or_of_lt (i := 8) (show b < 2 ^ 8 by omega) f
    rw [show (2 : Nat) ^ 8 = 256 from rfl, Nat.mul_comm] at h1
    rw [show (f : Int) * 256 = ((f * 256 : Nat) : Int) by omega, u64_or_nat _ _ (by omega) (by omega), ← h1]
  have w1 := wrap_u64_in ((f : Int) * 256) (by omega) (by omega)
  have w2 := wrap_u64_in (b : Int) (by omega) (by omega)
  rw [show Pol.rem (f * 256 + b) p = Pol.foll p f b from rfl] at c
  generalize Pol.foll p f b = r at *
  have C := Lib.hid c; clear c
  have Ho := Lib.hid ho; clear ho
  clear hr hp hf hb
  go_enter Try.func46, Try.ntmps46
  go_wp2_with fail
  rw [Ho.out]
  refine (C.out _).mono ?_; rintro e w1 ⟨rfl, rfl⟩
  go_wp2_with fail
  go_ret
  exact ⟨rfl, rfl⟩

end Go.Proofs.Ytofiimkpbbiegaa
