/-
  Plain mathematics: CRC-32, its linearity; a table of 256 numbers; bursts of up to 32 bits are found out.
-/
set_option linter.unusedVariables false
namespace Crc

def poly : Nat := 3988292384
/-- one bit -/
def step (c : Nat) : Nat := c / 2 ^^^ (if c % 2 = 1 then poly else 0)
def it : Nat → Nat → Nat
  | 0, c => c
  | k + 1, c => it k (step c)
def byte (c : Nat) (b : UInt8) : Nat := it 8 (c ^^^ b.toNat)
def crc (c : Nat) (l : List UInt8) : Nat := l.foldl byte c
def ones : Nat := 4294967295
def sum (l : List UInt8) : Nat := ones ^^^ crc ones l
def more (c : Nat) (l : List UInt8) : Nat := ones ^^^ crc (ones ^^^ c) l
def le4 (n : Nat) : List UInt8 := [UInt8.ofNat n, UInt8.ofNat (n / 256), UInt8.ofNat (n / 65536), UInt8.ofNat (n / 16777216)]
def sealT (l : List UInt8) : List UInt8 := l ++ le4 (sum l)

theorem xor_div2 (a b : Nat) : (a ^^^ b) / 2 = a / 2 ^^^ b / 2 := by
  have := Nat.xor_div_two (a := a) (b := b)
  exact this
theorem xor_mod2 (a b : Nat) : (a ^^^ b) % 2 = (a + b) % 2 := by
  have h := Nat.xor_mod_two_pow (a := a) (b := b) (n := 1)
  rw [Nat.pow_one] at h
  rw [h]
  have ha : a % 2 = 0 ∨ a % 2 = 1 := by omega
  have hb : b % 2 = 0 ∨ b % 2 = 1 := by omega
  rcases ha with ha | ha <;> rcases hb with hb | hb <;> rw [ha, hb] <;> simp <;> omega
theorem step_xor (a b : Nat) : step (a ^^^ b) = step a ^^^ step b := by
  unfold step
  rw [xor_div2, xor_mod2]
  by_cases ha : a % 2 = 1
  · by_cases hb : b % 2 = 1
    · rw [if_neg (by omega), if_pos ha, if_pos hb, Nat.xor_zero, Nat.xor_assoc, ← Nat.xor_assoc poly, Nat.xor_comm poly (b / 2), Nat.xor_assoc, Nat.xor_self, Nat.xor_zero]
    · rw [if_pos (by omega), if_pos ha, if_neg hb, Nat.xor_zero, Nat.xor_assoc, Nat.xor_assoc, Nat.xor_comm (b / 2)]
  · by_cases hb : b % 2 = 1
    · rw [if_pos (by omega), if_neg ha, if_pos hb, Nat.xor_zero, Nat.xor_assoc]
    · rw [if_neg (by omega), if_neg ha, if_neg hb]; simp
theorem it_xor (k a b : Nat) : it k (a ^^^ b) = it k a ^^^ it k b := by
  induction k generalizing a b with
  | zero => rfl
  | succ k ih => rw [it, step_xor, ih]; rfl
theorem it_add (j k c : Nat) : it (j + k) c = it k (it j c) := by
  induction j generalizing c with
  | zero => rw [Nat.zero_add]; rfl
  | succ j ih => rw [Nat.succ_add, it, ih, it]
theorem step_double (m : Nat) : step (m * 2) = m := by
  unfold step
  rw [if_neg (by omega), Nat.mul_div_cancel _ (by decide), Nat.xor_zero]
theorem it_shift (k m : Nat) : it k (m * 2 ^ k) = m := by
  induction k generalizing m with
  | zero => simp [it]
  | succ k ih => rw [it, Nat.pow_succ, ← Nat.mul_assoc, step_double, ih]
theorem poly_lt : poly < 2 ^ 32 := by decide
theorem step_lt (c : Nat) (h : c < 2 ^ 32) : step c < 2 ^ 32 := by
  unfold step
  refine Nat.xor_lt_two_pow (by omega) ?_
  split <;> decide
theorem it_lt (k c : Nat) (h : c < 2 ^ 32) : it k c < 2 ^ 32 := by
  induction k generalizing c with
  | zero => exact h
  | succ k ih => exact ih _ (step_lt c h)
theorem step_ne (c : Nat) (h : c < 2 ^ 32) (h0 : c ≠ 0) : step c ≠ 0 := by
  unfold step
  split
  · intro e
    have h1 : c / 2 = poly := by
      have := congrArg (· ^^^ poly) e
      simpa [Nat.xor_assoc] using this
    unfold poly at h1
    omega
  · rw [Nat.xor_zero]; omega
theorem it_ne (k c : Nat) (h : c < 2 ^ 32) (h0 : c ≠ 0) : it k c ≠ 0 := by
  induction k generalizing c with
  | zero => exact h0
  | succ k ih => exact ih _ (step_lt c h) (step_ne c h h0)

theorem add_xor (a m : Nat) (h : a < 256) : a ^^^ (m * 256) = a + m * 256 := by
  have h1 := Nat.xor_mod_two_pow (a := a) (b := m * 256) (n := 8)
  have h2 := Nat.xor_div_two_pow (a := a) (b := m * 256) (n := 8)
  rw [show (2 : Nat) ^ 8 = 256 from rfl] at h1 h2
  rw [Nat.mod_eq_of_lt h, Nat.mul_mod_left, Nat.xor_zero] at h1
  rw [Nat.div_eq_of_lt h, Nat.mul_div_cancel _ (by decide), Nat.zero_xor] at h2
  omega
/-- a text as a number, its first byte lowest -/
def val : List UInt8 → Nat
  | [] => 0
  | b :: r => b.toNat ^^^ (val r * 256)
theorem mul_xor (a b k : Nat) : (a ^^^ b) * 2 ^ k = a * 2 ^ k ^^^ b * 2 ^ k := by
  have := Nat.shiftLeft_xor_distrib (a := a) (b := b) (i := k)
  simpa [Nat.shiftLeft_eq] using this
theorem it8 (m : Nat) : it 8 (m * 256) = m := it_shift 8 m
theorem crc_val (l : List UInt8) (c : Nat) : crc c l = it (8 * l.length) (c ^^^ val l) := by
  induction l generalizing c with
  | nil => simp [crc, val, it]
  | cons b r ih =>
    show crc (byte c b) r = _
    rw [ih, List.length_cons, Nat.mul_succ, Nat.add_comm, it_add]
    congr 1
    rw [val, ← Nat.xor_assoc, it_xor, it8]
    rfl
theorem crc_lt (l : List UInt8) (c : Nat) (h : c < 2 ^ 32) : crc c l < 2 ^ 32 := by
  induction l generalizing c with
  | nil => exact h
  | cons b r ih =>
    refine ih _ (it_lt 8 _ (Nat.xor_lt_two_pow h ?_))
    have := b.toNat_lt
    omega
theorem ones_lt : ones < 2 ^ 32 := by decide
theorem sum_lt (l : List UInt8) : sum l < 2 ^ 32 := Nat.xor_lt_two_pow ones_lt (crc_lt l _ ones_lt)
theorem ones_twice (c : Nat) : ones ^^^ (ones ^^^ c) = c := by rw [← Nat.xor_assoc, Nat.xor_self, Nat.zero_xor]

/-- piece by piece -/
theorem sum_nil : sum [] = 0 := by simp [sum, crc]
theorem more_sum (a b : List UInt8) : more (sum a) b = sum (a ++ b) := by
  unfold more sum
  rw [ones_twice]
  unfold crc
  rw [List.foldl_append]

/-- by a table -/
theorem byte_table (c : Nat) (b : UInt8) : byte c b = it 8 ((c ^^^ b.toNat) % 256) ^^^ c / 256 := by
  unfold byte
  have hb := b.toNat_lt
  have h1 : (c ^^^ b.toNat) / 256 = c / 256 := by
    have := Nat.xor_div_two_pow (a := c) (b := b.toNat) (n := 8)
    rw [show (2 : Nat) ^ 8 = 256 from rfl] at this
    rw [this, Nat.div_eq_of_lt (by omega : b.toNat < 256), Nat.xor_zero]
  generalize hx : c ^^^ b.toNat = x at *
  have h2 : x = x % 256 ^^^ (x / 256 * 256) := by
    rw [add_xor _ _ (by omega)]
    omega
  have h3 : it 8 x = it 8 (x % 256) ^^^ x / 256 := by
    conv => lhs; rw [h2]
    rw [it_xor, it8]
  rw [h3, h1]

theorem val_append (a b : List UInt8) : val (a ++ b) = val a ^^^ (val b * 2 ^ (8 * a.length)) := by
  induction a with
  | nil => simp [val]
  | cons x r ih =>
    rw [List.cons_append, val, val, ih, List.length_cons, show 8 * (r.length + 1) = 8 * r.length + 8 by omega, Nat.pow_add (2 : Nat) (8 * r.length) 8, ← Nat.mul_assoc, show (2 : Nat) ^ 8 = 256 from rfl]
    have h := mul_xor (val r) (val b * 2 ^ (8 * r.length)) 8
    rw [show (2 : Nat) ^ 8 = 256 from rfl] at h
    rw [h, Nat.xor_assoc]
theorem val_le4 (n : Nat) (h : n < 2 ^ 32) : val (le4 n) = n := by
  have e : val (le4 n) = n % 256 ^^^ ((n / 256 % 256 ^^^ ((n / 65536 % 256 ^^^ ((n / 16777216 % 256 ^^^ (0 * 256)) * 256)) * 256)) * 256) := by
    simp [val, le4]
  rw [e, add_xor _ _ (by omega), add_xor _ _ (by omega), add_xor _ _ (by omega), add_xor _ _ (by omega)]
  omega
/-- whoever goes over a sealed text, and its four bytes, comes to a constant -/
theorem crc_sealed (l e : List UInt8) (he : e.length = 4) : crc ones (l ++ e) = it 32 (crc ones l ^^^ val e) := by
  rw [crc_val, crc_val, val_append, List.length_append, he, Nat.mul_add, it_add, ← Nat.xor_assoc, it_xor (8 * l.length), it_shift]
theorem crc_seal (l : List UInt8) : crc ones (sealT l) = it 32 ones := by
  unfold sealT
  rw [crc_sealed _ _ rfl, val_le4 _ (sum_lt l)]
  congr 1
  unfold sum
  rw [Nat.xor_comm ones, ← Nat.xor_assoc, Nat.xor_self, Nat.zero_xor]

/-- one bit turned -/
theorem val_set (l : List UInt8) (j t : Nat) (hj : j < l.length) (ht : t < 8) : val (l.set j (UInt8.ofNat ((l.getD j 0).toNat ^^^ 2 ^ t))) = val l ^^^ 2 ^ (8 * j + t) := by
  induction l generalizing j with
  | nil => simp at hj
  | cons b r ih =>
    cases j with
    | zero =>
      have hb := b.toNat_lt
      have h2 : 2 ^ t < 2 ^ 8 := Nat.pow_lt_pow_of_lt (by decide) ht
      have h3 : b.toNat ^^^ 2 ^ t < 2 ^ 8 := Nat.xor_lt_two_pow hb h2
      simp only [List.set_cons_zero, val, List.getD_cons_zero, UInt8.toNat_ofNat', Nat.mod_eq_of_lt h3, Nat.mul_zero, Nat.zero_add]
      rw [Nat.xor_assoc, Nat.xor_comm (2 ^ t), ← Nat.xor_assoc]
    | succ j =>
      simp only [List.set_cons_succ, val, List.getD_cons_succ]
      rw [ih j (by simpa using hj), show (256 : Nat) = 2 ^ 8 from rfl, mul_xor, ← Nat.pow_add, ← Nat.xor_assoc, show 8 * (j + 1) + t = 8 * j + t + 8 by omega]

/-- a text whose bits are turned within 32 in a row is no sealed one -/
theorem turned (l m : List UInt8) (n from_ turns : Nat) (h0 : turns ≠ 0) (h32 : turns < 2 ^ 32) (hm : m.length = (sealT l).length) (hf : from_ + 32 ≤ 8 * m.length)
    (hv : val m = val (sealT l) ^^^ (turns * 2 ^ from_)) (y : List UInt8) : m ≠ sealT y := by
  intro e
  have h1 := crc_seal l
  have h2 := crc_seal y
  rw [← e, crc_val, hv, ← Nat.xor_assoc, it_xor, hm, ← crc_val, h1] at h2
  have h3 : it (8 * (sealT l).length) (turns * 2 ^ from_) = 0 := by
    have := congrArg (it 32 ones ^^^ ·) h2
    simpa [← Nat.xor_assoc] using this
  rw [show 8 * (sealT l).length = from_ + (8 * (sealT l).length - from_) by omega, it_add, it_shift] at h3
  exact it_ne _ _ h32 h0 h3
end Crc
