/-
  Plain mathematics: polynomials over the field of two elements, as natural numbers: sums are exclusive ors; products, and what they keep.
-/
set_option linter.unusedVariables false
namespace Pol

/-- how many bits -/
def len (a : Nat) : Nat := if a = 0 then 0 else a.log2 + 1

theorem len_le (a n : Nat) : len a ≤ n ↔ a < 2 ^ n := by
  unfold len
  by_cases h : a = 0
  · subst h; simp [Nat.pow_pos]
  · rw [if_neg h, Nat.succ_le_iff, Nat.log2_lt h]
theorem lt_len (a n : Nat) : n < len a ↔ 2 ^ n ≤ a := by
  have := len_le a n
  omega
theorem len_zero : len 0 = 0 := rfl
theorem len_one : len 1 = 1 := by decide
theorem len_pos {a : Nat} (h : a ≠ 0) : 0 < len a := by unfold len; rw [if_neg h]; omega
theorem len_eq_zero {a : Nat} (h : len a = 0) : a = 0 := by
  by_cases e : a = 0
  · exact e
  · have := len_pos e; omega
theorem len_eq {a n : Nat} (h1 : 2 ^ n ≤ a) (h2 : a < 2 ^ (n + 1)) : len a = n + 1 := by
  have := (len_le a (n + 1)).2 h2
  have := (lt_len a n).2 h1
  omega
theorem len_xor_le {a b n : Nat} (ha : len a ≤ n) (hb : len b ≤ n) : len (a ^^^ b) ≤ n :=
  (len_le _ _).2 (Nat.xor_lt_two_pow ((len_le _ _).1 ha) ((len_le _ _).1 hb))
theorem xor_back (a b : Nat) : (a ^^^ b) ^^^ b = a := by rw [Nat.xor_assoc, Nat.xor_self, Nat.xor_zero]
theorem xor_back' (a b : Nat) : a ^^^ (a ^^^ b) = b := by rw [← Nat.xor_assoc, Nat.xor_self, Nat.zero_xor]
theorem eq_of_xor {a b : Nat} (h : a ^^^ b = 0) : a = b := by
  have := xor_back a b
  rw [h, Nat.zero_xor] at this
  exact this.symm
theorem len_xor_top {a b : Nat} (h : len b < len a) : len (a ^^^ b) = len a := by
  have h1 : len (a ^^^ b) ≤ len a := len_xor_le (by omega) (by omega)
  by_cases e : len (a ^^^ b) = len a
  · exact e
  · exfalso
    have h2 : len ((a ^^^ b) ^^^ b) ≤ len a - 1 := len_xor_le (by omega) (by omega)
    rw [xor_back] at h2
    omega
theorem top_bit {a n : Nat} (h : len a = n + 1) : a.testBit n = true := by
  have h1 : 2 ^ n ≤ a := (lt_len a n).1 (by omega)
  have h2 : a < 2 ^ (n + 1) := (len_le a _).1 (by omega)
  rw [Nat.testBit_eq_decide_div_mod_eq]
  have : a / 2 ^ n = 1 := by
    rw [Nat.pow_succ] at h2
    exact Nat.div_eq_of_lt_le (by omega) (by omega)
  rw [this]; rfl
theorem len_xor_low {a b : Nat} (h : len b = len a) (h0 : a ≠ 0) : len (a ^^^ b) < len a := by
  have hp := len_pos h0
  obtain ⟨n, hn⟩ : ∃ n, len a = n + 1 := ⟨len a - 1, by omega⟩
  rw [hn, Nat.lt_succ_iff, len_le]
  apply Nat.lt_pow_two_of_testBit
  intro i hi
  rw [Nat.testBit_xor]
  by_cases e : i = n
  · subst e
    rw [top_bit hn, top_bit (h.trans hn)]; rfl
  · have ha : a < 2 ^ i := Nat.lt_of_lt_of_le ((len_le a (n + 1)).1 (by omega)) (Nat.pow_le_pow_right (by decide) (by omega))
    have hb : b < 2 ^ i := Nat.lt_of_lt_of_le ((len_le b (n + 1)).1 (by omega)) (Nat.pow_le_pow_right (by decide) (by omega))
    rw [Nat.testBit_lt_two_pow ha, Nat.testBit_lt_two_pow hb]; rfl
theorem len_pow_mul (a k : Nat) (h : a ≠ 0) : len (a * 2 ^ k) = len a + k := by
  have hp := len_pos h
  obtain ⟨n, hn⟩ : ∃ n, len a = n + 1 := ⟨len a - 1, by omega⟩
  have h1 : 2 ^ n ≤ a := (lt_len a n).1 (by omega)
  have h2 : a < 2 ^ (n + 1) := (len_le a _).1 (by omega)
  rw [hn, show n + 1 + k = (n + k) + 1 by omega]
  refine len_eq ?_ ?_
  · rw [Nat.pow_add]; exact Nat.mul_le_mul_right _ h1
  · rw [show n + k + 1 = (n + 1) + k by omega, Nat.pow_add]; exact Nat.mul_lt_mul_of_pos_right h2 (Nat.pow_pos (by decide))
theorem len_double (a : Nat) (h : a ≠ 0) : len (2 * a) = len a + 1 := by
  have := len_pow_mul a 1 h
  rw [Nat.pow_one, Nat.mul_comm] at this
  exact this
theorem len_half (a : Nat) : len (a / 2) = len a - 1 := by
  by_cases h : a = 0
  · subst h; rfl
  · have hp := len_pos h
    obtain ⟨n, hn⟩ : ∃ n, len a = n + 1 := ⟨len a - 1, by omega⟩
    have h1 : 2 ^ n ≤ a := (lt_len a n).1 (by omega)
    have h2 : a < 2 ^ (n + 1) := (len_le a _).1 (by omega)
    rw [hn, Nat.add_sub_cancel]
    cases n with
    | zero => rw [Nat.pow_zero] at h1; rw [Nat.zero_add, Nat.pow_one] at h2; obtain rfl : a = 1 := by omega
              rfl
    | succ m =>
      refine len_eq ?_ ?_
      · rw [Nat.pow_succ] at h1; omega
      · rw [Nat.pow_succ] at h2; omega

theorem two_xor (a b : Nat) : 2 * (a ^^^ b) = 2 * a ^^^ 2 * b := by
  have := Nat.shiftLeft_xor_distrib (a := a) (b := b) (i := 1)
  simp only [Nat.shiftLeft_eq, Nat.pow_one] at this
  rw [Nat.mul_comm, this, Nat.mul_comm, Nat.mul_comm b]
theorem bit_eq (b : Nat) : (b % 2) ^^^ 2 * (b / 2) = b := by
  apply Nat.eq_of_testBit_eq
  intro i
  rw [Nat.testBit_xor]
  cases i with
  | zero => simp [Nat.testBit_zero]
  | succ i =>
    rw [Nat.testBit_succ, Nat.testBit_succ, Nat.testBit_succ]
    have e1 : b % 2 / 2 = 0 := by omega
    have e2 : 2 * (b / 2) / 2 = b / 2 := by omega
    rw [e1, e2]; simp

/-- the product -/
def mulF : Nat → Nat → Nat → Nat
  | 0, _, _ => 0
  | f + 1, a, b => (if b % 2 = 1 then a else 0) ^^^ 2 * mulF f a (b / 2)
def mul (a b : Nat) : Nat := mulF (len b) a b

theorem mulF_zero (f a : Nat) : mulF f a 0 = 0 := by
  induction f with
  | zero => rfl
  | succ f ih => rw [mulF, Nat.zero_div, ih]; simp
theorem mulF_fuel (f g a b : Nat) (hf : len b ≤ f) (hg : len b ≤ g) : mulF f a b = mulF g a b := by
  induction f generalizing b g with
  | zero =>
    obtain rfl := len_eq_zero (show len b = 0 by omega)
    rw [mulF_zero, mulF_zero]
  | succ f ih =>
    cases g with
    | zero =>
      obtain rfl := len_eq_zero (show len b = 0 by omega)
      rw [mulF_zero, mulF_zero]
    | succ g =>
      have := len_half b
      rw [mulF, mulF, ih g (b / 2) (by omega) (by omega)]
theorem mul_zero (a : Nat) : mul a 0 = 0 := rfl
theorem mul_bit (a b : Nat) : mul a b = (if b % 2 = 1 then a else 0) ^^^ 2 * mul a (b / 2) := by
  by_cases h : b = 0
  · subst h; simp [mul_zero]
  · have hp := len_pos h
    obtain ⟨n, hn⟩ : ∃ n, len b = n + 1 := ⟨len b - 1, by omega⟩
    unfold mul
    rw [hn, mulF, len_half, hn, Nat.add_sub_cancel]
theorem zero_mul (b : Nat) : mul 0 b = 0 := by
  induction b using Nat.div2Induction with
  | ind b ih =>
    by_cases h : b = 0
    · subst h; rfl
    · rw [mul_bit, ih (by omega)]; simp
theorem mul_one (a : Nat) : mul a 1 = a := by rw [mul_bit]; simp [mul_zero]
theorem mul_xor_left (a b c : Nat) : mul (a ^^^ b) c = mul a c ^^^ mul b c := by
  induction c using Nat.div2Induction with
  | ind c ih =>
    by_cases h : c = 0
    · subst h; rw [mul_zero, mul_zero, mul_zero]; rfl
    · rw [mul_bit (a ^^^ b), mul_bit a, mul_bit b, ih (by omega), two_xor]
      generalize 2 * mul a (c / 2) = x
      generalize 2 * mul b (c / 2) = y
      by_cases o : c % 2 = 1
      · rw [if_pos o, if_pos o, if_pos o]; ac_rfl
      · rw [if_neg o, if_neg o, if_neg o, Nat.zero_xor, Nat.zero_xor, Nat.zero_xor]
theorem two_mul_left (a c : Nat) : mul (2 * a) c = 2 * mul a c := by
  induction c using Nat.div2Induction with
  | ind c ih =>
    by_cases h : c = 0
    · subst h; rfl
    · rw [mul_bit (2 * a), mul_bit a, ih (by omega), two_xor]
      by_cases o : c % 2 = 1
      · rw [if_pos o, if_pos o]
      · rw [if_neg o, if_neg o]
theorem one_mul (b : Nat) : mul 1 b = b := by
  induction b using Nat.div2Induction with
  | ind b ih =>
    by_cases h : b = 0
    · subst h; rfl
    · rw [mul_bit, ih (by omega)]
      have := bit_eq b
      by_cases o : b % 2 = 1
      · rw [if_pos o]; rw [o] at this; exact this
      · rw [if_neg o]; rw [show b % 2 = 0 by omega] at this; exact this
theorem mul_comm (a b : Nat) : mul a b = mul b a := by
  induction b using Nat.div2Induction with
  | ind b ih =>
    by_cases h : b = 0
    · subst h; rw [mul_zero, zero_mul]
    · rw [mul_bit a b, ih (by omega)]
      have e := congrArg (fun z => mul z a) (bit_eq b)
      simp only [mul_xor_left, two_mul_left] at e
      rw [← e]
      by_cases o : b % 2 = 1
      · rw [if_pos o, o, one_mul]
      · rw [if_neg o, show b % 2 = 0 by omega, zero_mul]
theorem mul_xor (a b c : Nat) : mul a (b ^^^ c) = mul a b ^^^ mul a c := by
  rw [mul_comm a, mul_xor_left, mul_comm b, mul_comm c]
theorem two_mul (a c : Nat) : mul a (2 * c) = 2 * mul a c := by rw [mul_comm, two_mul_left, mul_comm]
theorem mul_assoc (a b c : Nat) : mul (mul a b) c = mul a (mul b c) := by
  induction c using Nat.div2Induction with
  | ind c ih =>
    by_cases h : c = 0
    · subst h; rfl
    · rw [mul_bit (mul a b) c, ih (by omega), mul_bit b c, mul_xor, two_mul]
      by_cases o : c % 2 = 1
      · rw [if_pos o, if_pos o]
      · rw [if_neg o, if_neg o, mul_zero]
theorem mul_left_comm (a b c : Nat) : mul a (mul b c) = mul b (mul a c) := by
  rw [← mul_assoc, mul_comm a b, mul_assoc]
theorem mul_pow (a k : Nat) : mul a (2 ^ k) = a * 2 ^ k := by
  induction k with
  | zero => rw [Nat.pow_zero, mul_one, Nat.mul_one]
  | succ k ih => rw [Nat.pow_succ, Nat.mul_comm (2 ^ k), two_mul, ih, ← Nat.mul_assoc, ← Nat.mul_assoc, Nat.mul_comm 2]
theorem len_mul {a b : Nat} (ha : a ≠ 0) (hb : b ≠ 0) : mul a b ≠ 0 ∧ len (mul a b) + 1 = len a + len b := by
  induction b using Nat.div2Induction with
  | ind b ih =>
    have hpa := len_pos ha
    have hpb := len_pos hb
    by_cases h : b / 2 = 0
    · obtain rfl : b = 1 := by omega
      rw [mul_one]; exact ⟨ha, rfl⟩
    · obtain ⟨h1, h2⟩ := ih (by omega) h
      have hl := len_half b
      have hp2 := len_pos h
      have h3 := len_double _ h1
      rw [mul_bit]
      have h4 : len (2 * mul a (b / 2) ^^^ (if b % 2 = 1 then a else 0)) = len (2 * mul a (b / 2)) := by
        apply len_xor_top
        split
        · omega
        · rw [len_zero]; omega
      rw [Nat.xor_comm]
      refine ⟨?_, by omega⟩
      intro e
      rw [e, len_zero] at h4
      omega
theorem mul_eq_zero {a b : Nat} (h : mul a b = 0) : a = 0 ∨ b = 0 := by
  by_cases ha : a = 0
  · exact .inl ha
  · by_cases hb : b = 0
    · exact .inr hb
    · exact absurd h (len_mul ha hb).1

/-- what is a multiple -/
def dv (p a : Nat) : Prop := ∃ q, mul p q = a
theorem dv_zero (p : Nat) : dv p 0 := ⟨0, rfl⟩
theorem dv_self (p : Nat) : dv p p := ⟨1, mul_one p⟩
theorem one_dv (a : Nat) : dv 1 a := ⟨a, one_mul a⟩
theorem dv_mul (p a : Nat) : dv p (mul p a) := ⟨a, rfl⟩
theorem dv_mul' (p a : Nat) : dv p (mul a p) := ⟨a, mul_comm p a⟩
theorem dv_xor {p a b : Nat} (ha : dv p a) (hb : dv p b) : dv p (a ^^^ b) := by
  obtain ⟨x, rfl⟩ := ha
  obtain ⟨y, rfl⟩ := hb
  exact ⟨x ^^^ y, mul_xor p x y⟩
theorem dv_times {p a : Nat} (ha : dv p a) (c : Nat) : dv p (mul a c) := by
  obtain ⟨x, rfl⟩ := ha
  exact ⟨mul x c, (mul_assoc p x c).symm⟩
theorem dv_times' {p a : Nat} (ha : dv p a) (c : Nat) : dv p (mul c a) := by rw [mul_comm]; exact dv_times ha c
theorem dv_trans {p a b : Nat} (h1 : dv p a) (h2 : dv a b) : dv p b := by
  obtain ⟨y, rfl⟩ := h2
  exact dv_times h1 y
theorem dv_len {p a : Nat} (h : dv p a) (h0 : a ≠ 0) : len p ≤ len a := by
  obtain ⟨x, rfl⟩ := h
  have hp : p ≠ 0 := fun e => h0 (by rw [e, zero_mul])
  have hx : x ≠ 0 := fun e => h0 (by rw [e, mul_zero])
  have := (len_mul hp hx).2
  have := len_pos hx
  omega
theorem dv_small {p a : Nat} (h : dv p a) (hl : len a < len p) : a = 0 := by
  by_cases e : a = 0
  · exact e
  · have := dv_len h e; omega

/-- what is the same but for a multiple -/
def cg (p a b : Nat) : Prop := dv p (a ^^^ b)
theorem cg_refl (p a : Nat) : cg p a a := by unfold cg; rw [Nat.xor_self]; exact dv_zero p
theorem cg_symm {p a b : Nat} (h : cg p a b) : cg p b a := by unfold cg at *; rw [Nat.xor_comm]; exact h
theorem cg_trans {p a b c : Nat} (h1 : cg p a b) (h2 : cg p b c) : cg p a c := by
  have := dv_xor h1 h2
  rw [Nat.xor_assoc, xor_back'] at this
  exact this
theorem cg_xor {p a b c d : Nat} (h1 : cg p a b) (h2 : cg p c d) : cg p (a ^^^ c) (b ^^^ d) := by
  have := dv_xor h1 h2
  unfold cg
  rw [show (a ^^^ c) ^^^ (b ^^^ d) = (a ^^^ b) ^^^ (c ^^^ d) by ac_rfl]
  exact this
theorem cg_mul {p a b c d : Nat} (h1 : cg p a b) (h2 : cg p c d) : cg p (mul a c) (mul b d) := by
  have e1 : cg p (mul a c) (mul b c) := by
    unfold cg
    rw [← mul_xor_left]
    exact dv_times h1 c
  have e2 : cg p (mul b c) (mul b d) := by
    unfold cg
    rw [← mul_xor]
    exact dv_times' h2 b
  exact cg_trans e1 e2
theorem cg_two {p a b : Nat} (h : cg p a b) : cg p (2 * a) (2 * b) := by
  have := dv_times' h 2
  unfold cg
  rw [← two_xor]
  have e := two_mul_left 1 (a ^^^ b)
  rw [Nat.mul_one, one_mul] at e
  rw [← e]; exact this
theorem cg_dv {p a b : Nat} (h : cg p a b) (hb : dv p b) : dv p a := by
  have := dv_xor h hb
  rw [xor_back] at this
  exact this
theorem cg_of_dv {q p a b : Nat} (hq : dv q p) (h : cg p a b) : cg q a b := dv_trans hq h

/-- the remainder -/
def remF : Nat → Nat → Nat → Nat
  | 0, a, _ => a
  | f + 1, a, p => if len a < len p then a else remF f (a ^^^ p * 2 ^ (len a - len p)) p
def rem (a p : Nat) : Nat := remF (len a) a p

theorem step_len {a p : Nat} (hp : p ≠ 0) (h : len p ≤ len a) : len (a ^^^ p * 2 ^ (len a - len p)) < len a := by
  have h1 := len_pow_mul p (len a - len p) hp
  have hpp := len_pos hp
  exact len_xor_low (by omega) (fun e => by subst e; rw [len_zero] at h; omega)
theorem step_cg (a p k : Nat) : cg p a (a ^^^ p * 2 ^ k) := by
  unfold cg
  rw [xor_back', ← mul_pow]
  exact dv_mul _ _
theorem remF_spec (f a p : Nat) (hp : p ≠ 0) (h : len a ≤ f) : len (remF f a p) < len p ∧ cg p a (remF f a p) := by
  induction f generalizing a with
  | zero =>
    rw [remF]
    exact ⟨by have := len_pos hp; omega, cg_refl p a⟩
  | succ f ih =>
    rw [remF]
    by_cases hl : len a < len p
    · rw [if_pos hl]; exact ⟨hl, cg_refl p a⟩
    · rw [if_neg hl]
      have h1 := step_len hp (show len p ≤ len a by omega)
      obtain ⟨h2, h3⟩ := ih (a ^^^ p * 2 ^ (len a - len p)) (by omega)
      exact ⟨h2, cg_trans (step_cg a p _) h3⟩
theorem rem_len (a : Nat) {p : Nat} (hp : p ≠ 0) : len (rem a p) < len p := (remF_spec _ a p hp (Nat.le_refl _)).1
theorem rem_cg (a : Nat) {p : Nat} (hp : p ≠ 0) : cg p a (rem a p) := (remF_spec _ a p hp (Nat.le_refl _)).2
theorem rem_unique {a p r : Nat} (hl : len r < len p) (h : cg p a r) : rem a p = r := by
  have hp : p ≠ 0 := fun e => by subst e; rw [len_zero] at hl; omega
  have h1 := rem_len a hp
  have h2 : cg p (rem a p) r := cg_trans (cg_symm (rem_cg a hp)) h
  exact eq_of_xor (dv_small h2 (by
    have := @len_xor_le (rem a p) r (len p - 1) (by omega) (by omega)
    omega))
theorem rem_congr {a b p : Nat} (hp : p ≠ 0) (h : cg p a b) : rem a p = rem b p :=
  rem_unique (rem_len b hp) (cg_trans h (rem_cg b hp))
theorem rem_small {a p : Nat} (h : len a < len p) : rem a p = a := rem_unique h (cg_refl p a)
theorem rem_rem (a : Nat) {p : Nat} (hp : p ≠ 0) : rem (rem a p) p = rem a p := rem_small (rem_len a hp)
theorem rem_xor (a b : Nat) {p : Nat} (hp : p ≠ 0) : rem (a ^^^ b) p = rem a p ^^^ rem b p := by
  have ha := rem_len a hp
  have hb := rem_len b hp
  refine rem_unique ?_ (cg_xor (rem_cg a hp) (rem_cg b hp))
  have := @len_xor_le (rem a p) (rem b p) (len p - 1) (by omega) (by omega)
  omega
theorem rem_mul_left (a b : Nat) {p : Nat} (hp : p ≠ 0) : rem (mul (rem a p) b) p = rem (mul a b) p :=
  rem_congr hp (cg_mul (cg_symm (rem_cg a hp)) (cg_refl p b))
theorem rem_mul_right (a b : Nat) {p : Nat} (hp : p ≠ 0) : rem (mul a (rem b p)) p = rem (mul a b) p :=
  rem_congr hp (cg_mul (cg_refl p a) (cg_symm (rem_cg b hp)))
theorem rem_two (a : Nat) {p : Nat} (hp : p ≠ 0) : rem (2 * rem a p) p = rem (2 * a) p :=
  rem_congr hp (cg_two (cg_symm (rem_cg a hp)))
theorem rem_eq_zero {a p : Nat} (hp : p ≠ 0) : rem a p = 0 ↔ dv p a := by
  constructor
  · intro h
    have := rem_cg a hp
    rw [h] at this
    unfold cg at this
    rw [Nat.xor_zero] at this
    exact this
  · intro h
    refine rem_unique (by rw [len_zero]; exact len_pos hp) ?_
    unfold cg
    rw [Nat.xor_zero]; exact h
theorem rem_step (a : Nat) {p : Nat} (hp : p ≠ 0) (k : Nat) : rem (a ^^^ p * 2 ^ k) p = rem a p := (rem_congr hp (step_cg a p k)).symm
theorem rem_lt {a n p : Nat} (hp : p ≠ 0) (h : len p ≤ n) : rem a p < 2 ^ n := (len_le _ _).1 (by have := rem_len a hp; omega)

/-- the greatest that two are multiples of -/
def gcdF : Nat → Nat → Nat → Nat
  | 0, a, _ => a
  | f + 1, a, b => if b = 0 then a else gcdF f b (rem a b)
def gcd (a b : Nat) : Nat := gcdF (len b) a b
theorem gcdF_zero (f a : Nat) : gcdF f a 0 = a := by cases f <;> rfl
theorem gcdF_fuel (f g a b : Nat) (hf : len b ≤ f) (hg : len b ≤ g) : gcdF f a b = gcdF g a b := by
  induction f generalizing a b g with
  | zero =>
    obtain rfl := len_eq_zero (show len b = 0 by omega)
    rw [gcdF_zero, gcdF_zero]
  | succ f ih =>
    by_cases h : b = 0
    · subst h; rw [gcdF_zero, gcdF_zero]
    · have hp := len_pos h
      have hr := rem_len a h
      cases g with
      | zero => omega
      | succ g => rw [gcdF, gcdF, if_neg h, if_neg h, ih g b (rem a b) (by omega) (by omega)]
theorem gcd_zero (a : Nat) : gcd a 0 = a := rfl
theorem gcd_step (a : Nat) {b : Nat} (h : b ≠ 0) : gcd a b = gcd b (rem a b) := by
  have hp := len_pos h
  have hr := rem_len a h
  unfold gcd
  rw [gcdF_fuel (len b) (len b + 1) a b (by omega) (by omega), gcdF, if_neg h]
  exact gcdF_fuel _ _ _ _ (by omega) (by omega)
theorem gcd_ind {M : Nat → Nat → Prop} (h0 : ∀ a, M a 0) (h1 : ∀ a b, b ≠ 0 → M b (rem a b) → M a b) : ∀ (n a b : Nat), len b ≤ n → M a b
  | 0, a, b, h => by obtain rfl := len_eq_zero (show len b = 0 by omega); exact h0 a
  | n + 1, a, b, h => by
    by_cases e : b = 0
    · subst e; exact h0 a
    · have hr := rem_len a e
      exact h1 a b e (gcd_ind h0 h1 n b (rem a b) (by omega))
theorem gcd_dv (a b : Nat) : dv (gcd a b) a ∧ dv (gcd a b) b := by
  refine gcd_ind (M := fun a b => dv (gcd a b) a ∧ dv (gcd a b) b) ?_ ?_ _ a b (Nat.le_refl _)
  · intro a; exact ⟨by rw [gcd_zero]; exact dv_self a, dv_zero _⟩
  · intro a b h ⟨h1, h2⟩
    rw [gcd_step a h]
    exact ⟨cg_dv (cg_of_dv h1 (rem_cg a h)) h2, h1⟩
theorem bezout (a b : Nat) : ∃ u v, gcd a b = mul u a ^^^ mul v b := by
  refine gcd_ind (M := fun a b => ∃ u v, gcd a b = mul u a ^^^ mul v b) ?_ ?_ _ a b (Nat.le_refl _)
  · intro a; exact ⟨1, 0, by rw [gcd_zero, one_mul, mul_zero, Nat.xor_zero]⟩
  · intro a b h ⟨u, v, e⟩
    obtain ⟨c, hc⟩ := rem_cg a h
    rw [gcd_step a h, e]
    refine ⟨v, u ^^^ mul v c, ?_⟩
    have e2 : rem a b = a ^^^ mul b c := by rw [hc, xor_back']
    rw [e2, mul_xor, mul_xor_left, mul_assoc, mul_comm c b]
    ac_rfl
theorem gcd_of_dv {c a b : Nat} (h1 : dv c a) (h2 : dv c b) : dv c (gcd a b) := by
  obtain ⟨u, v, e⟩ := bezout a b
  rw [e]
  exact dv_xor (dv_times' h1 u) (dv_times' h2 v)
end Pol
