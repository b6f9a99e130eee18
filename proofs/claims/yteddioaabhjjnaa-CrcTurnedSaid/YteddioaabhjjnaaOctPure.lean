/-
  The plain mathematics of package octet: numbers as bytes, the lowest one first; short numbers. Nothing of Go in it.
-/
set_option linter.unusedVariables false
namespace Go.Proofs.Yteddioaabhjjnaa.Oct

/-- n bytes of v, the lowest one first -/
def le : Nat → Nat → List UInt8
  | 0, _ => []
  | n + 1, v => UInt8.ofNat v :: le n (v / 256)

/-- the number of bytes, the lowest one first -/
def un : List UInt8 → Nat
  | [] => 0
  | b :: r => b.toNat + 256 * un r

theorem le_length (n v : Nat) : (le n v).length = n := by
  induction n generalizing v with
  | zero => rfl
  | succ n ih => simp [le, ih]

theorem un_lt (l : List UInt8) : un l < 256 ^ l.length := by
  induction l with
  | nil => simp [un]
  | cons b r ih =>
    have hb : b.toNat < 256 := b.toNat_lt
    simp only [un, List.length_cons, Nat.pow_succ]
    omega

theorem un_le (n v : Nat) (h : v < 256 ^ n) : un (le n v) = v := by
  induction n generalizing v with
  | zero => simp [le, un] at *; omega
  | succ n ih =>
    have h1 : v / 256 < 256 ^ n := by
      rw [Nat.pow_succ] at h
      exact Nat.div_lt_of_lt_mul (by omega)
    simp only [le, un, ih _ h1]
    simp
    omega

theorem le_un (l : List UInt8) : le l.length (un l) = l := by
  induction l with
  | nil => rfl
  | cons b r ih =>
    have hb : b.toNat < 256 := b.toNat_lt
    simp only [un, List.length_cons, le]
    have h1 : (b.toNat + 256 * un r) / 256 = un r := by omega
    rw [h1, ih]
    congr 1
    apply UInt8.toNat_inj.1
    simp

theorem un_append (l r : List UInt8) : un (l ++ r) = un l + 256 ^ l.length * un r := by
  induction l with
  | nil => simp [un]
  | cons b t ih =>
    simp only [List.cons_append, un, ih, List.length_cons, Nat.pow_succ]
    rw [Nat.mul_add, Nat.add_assoc]
    rw [← Nat.mul_assoc, Nat.mul_comm 256 (256 ^ t.length)]

theorem le_snoc (n v : Nat) : le (n + 1) v = le n v ++ [UInt8.ofNat (v / 256 ^ n)] := by
  induction n generalizing v with
  | zero => simp [le]
  | succ n ih =>
    rw [le, ih, le]
    simp [Nat.div_div_eq_div_mul, Nat.pow_succ, Nat.mul_comm]

/-- short: seven bits a byte, the lowest ones first; f: how many bytes at the most -/
def shortF : Nat → Nat → List UInt8
  | 0, _ => []
  | f + 1, v => if v < 128 then [UInt8.ofNat v] else UInt8.ofNat (v % 128 + 128) :: shortF f (v / 128)

theorem shortF_succ (f v : Nat) : shortF (f + 1) v = if v < 128 then [UInt8.ofNat v] else UInt8.ofNat (v % 128 + 128) :: shortF f (v / 128) := rfl

/-- the short encoding of a number below 2^70 -/
def short (v : Nat) : List UInt8 := shortF 10 v

theorem shortF_mono (f g v : Nat) (h : v < 128 ^ (f + 1)) (hf : f ≤ g) : shortF (g + 1) v = shortF (f + 1) v := by
  induction f generalizing g v with
  | zero =>
    have hv : v < 128 := by simpa using h
    simp [shortF, hv]
  | succ f ih =>
    obtain ⟨g, rfl⟩ : ∃ k, g = k + 1 := ⟨g - 1, by omega⟩
    rw [shortF_succ (g + 1), shortF_succ (f + 1)]
    by_cases hv : v < 128
    · simp [hv]
    · have : v / 128 < 128 ^ (f + 1) := by
        rw [Nat.pow_succ] at h
        exact Nat.div_lt_of_lt_mul (by omega)
      rw [if_neg hv, if_neg hv, ih g _ this (by omega)]

theorem shortF_length (f v : Nat) : (shortF f v).length ≤ f := by
  induction f generalizing v with
  | zero => simp [shortF]
  | succ f ih =>
    simp only [shortF]
    split
    · simp
    · simp; exact ih _

/-- reading a short number, byte by byte: i bytes were read, they come to v; the number, how many bytes, an error's number -/
def rs : Nat → Nat → List UInt8 → Nat × Nat × Nat
  | _, _, [] => (0, 0, 6)
  | i, v, c :: r =>
    if i = 9 ∧ 1 < c.toNat then (0, 0, 7)
    else if 128 ≤ c.toNat then rs (i + 1) (v + c.toNat % 128 * 128 ^ i) r
    else if c.toNat = 0 ∧ 0 < i then (0, 0, 7)
    else (v + c.toNat * 128 ^ i, i + 1, 0)

end Go.Proofs.Yteddioaabhjjnaa.Oct
