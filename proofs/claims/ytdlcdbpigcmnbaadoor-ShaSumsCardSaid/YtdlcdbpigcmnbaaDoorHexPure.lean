/-
  Plain mathematics: hexadecimal digits.
-/
set_option linter.unusedVariables false
namespace Hex

def dig (n : Nat) : UInt8 := UInt8.ofNat (if n < 10 then 48 + n else 87 + n)
def two (c : UInt8) : List UInt8 := [dig (c.toNat / 16), dig (c.toNat % 16)]
def hex (l : List UInt8) : List UInt8 := l.flatMap two

/-- what a digit counts -/
def isDig (c : Nat) : Bool := (decide (48 ≤ c) && decide (c ≤ 57)) || (decide (97 ≤ c) && decide (c ≤ 102))
def val (c : Nat) : Nat := if 48 ≤ c ∧ c ≤ 57 then c - 48 else if 97 ≤ c ∧ c ≤ 102 then c - 87 else 0

def unF : List UInt8 → Option (List UInt8)
  | [] => some []
  | [_] => none
  | a :: b :: r => if isDig a.toNat = true ∧ isDig b.toNat = true then (unF r).map (UInt8.ofNat (16 * val a.toNat + val b.toNat) :: ·) else none
def un (l : List UInt8) : List UInt8 × Nat := match unF l with | some x => (x, 0) | none => ([], 7)

theorem hex_append (a b : List UInt8) : hex (a ++ b) = hex a ++ hex b := by simp [hex]
theorem hex_length (l : List UInt8) : (hex l).length = 2 * l.length := by
  induction l with
  | nil => rfl
  | cons c l ih => rw [show c :: l = [c] ++ l from rfl, hex_append, List.length_append, ih]; simp [hex, two]; omega
theorem hex_take_succ (l : List UInt8) (k : Nat) (h : k < l.length) : hex (l.take (k + 1)) = hex (l.take k) ++ two (l[k]) := by
  rw [List.take_succ_eq_append_getElem h, hex_append]; simp [hex]

theorem dig_toNat (n : Nat) (h : n < 16) : (dig n).toNat = if n < 10 then 48 + n else 87 + n := by
  rw [dig, UInt8.toNat_ofNat']; split <;> omega
theorem dig_is (n : Nat) (h : n < 16) : isDig (dig n).toNat = true ∧ val (dig n).toNat = n := by
  rw [dig_toNat n h]
  have : n = 0 ∨ n = 1 ∨ n = 2 ∨ n = 3 ∨ n = 4 ∨ n = 5 ∨ n = 6 ∨ n = 7 ∨ n = 8 ∨ n = 9 ∨ n = 10 ∨ n = 11 ∨ n = 12 ∨ n = 13 ∨ n = 14 ∨ n = 15 := by omega
  rcases this with rfl | rfl | rfl | rfl | rfl | rfl | rfl | rfl | rfl | rfl | rfl | rfl | rfl | rfl | rfl | rfl <;> exact ⟨rfl, rfl⟩

theorem unF_append (r : List UInt8) : ∀ (n : Nat) (p acc : List UInt8), p.length ≤ n → unF p = some acc → unF (p ++ r) = (unF r).map (acc ++ ·)
  | _, [], acc, _, h => by
    simp only [unF, Option.some.injEq] at h
    subst h
    simp
  | _, [_], acc, _, h => by simp [unF] at h
  | 0, a :: b :: p, acc, hn, h => by simp at hn
  | n + 1, a :: b :: p, acc, hn, h => by
    simp only [unF] at h
    split at h
    · rename_i hc
      cases hp : unF p with
      | none => rw [hp] at h; simp at h
      | some q =>
        rw [hp] at h
        simp only [Option.map_some, Option.some.injEq] at h
        subst h
        have ih := unF_append r n p q (by simp at hn; omega) hp
        simp only [List.cons_append, unF, if_pos hc, ih, Option.map_map]
        rfl
    · cases h
theorem unF_odd : ∀ (n : Nat) (l : List UInt8), l.length ≤ n → l.length % 2 = 1 → unF l = none
  | _, [], _, h => by simp at h
  | _, [_], _, _ => rfl
  | 0, _ :: _ :: _, hn, _ => by simp at hn
  | n + 1, a :: b :: l, hn, h => by
    simp only [unF, unF_odd n l (by simp at hn; omega) (by simp at h; omega), Option.map_none, ite_self]
theorem unF_length : ∀ (n : Nat) (l acc : List UInt8), l.length ≤ n → unF l = some acc → l.length = 2 * acc.length
  | _, [], acc, _, h => by simp only [unF, Option.some.injEq] at h; subst h; rfl
  | _, [_], acc, _, h => by simp [unF] at h
  | 0, _ :: _ :: _, _, hn, _ => by simp at hn
  | n + 1, a :: b :: l, acc, hn, h => by
    simp only [unF] at h
    split at h
    · cases hl : unF l with
      | none => rw [hl] at h; simp at h
      | some q =>
        rw [hl] at h
        simp only [Option.map_some, Option.some.injEq] at h
        subst h
        have := unF_length n l q (by simp at hn; omega) hl
        simp; omega
    · cases h
/-- one pair more -/
theorem unF_step (p acc : List UInt8) (a b : UInt8) (h : unF p = some acc) (ha : isDig a.toNat = true) (hb : isDig b.toNat = true) : unF (p ++ [a, b]) = some (acc ++ [UInt8.ofNat (16 * val a.toNat + val b.toNat)]) := by
  rw [unF_append [a, b] p.length p acc (Nat.le_refl _) h]
  simp [unF, ha, hb]
theorem unF_bad (p acc : List UInt8) (a b : UInt8) (r : List UInt8) (h : unF p = some acc) (hc : ¬ (isDig a.toNat = true ∧ isDig b.toNat = true)) : unF (p ++ a :: b :: r) = none := by
  rw [unF_append _ p.length p acc (Nat.le_refl _) h]
  simp only [unF, if_neg hc, Option.map_none]

theorem two_un (c : UInt8) (r : List UInt8) : unF (two c ++ r) = (unF r).map (c :: ·) := by
  have h1 := dig_is (c.toNat / 16) (by have := c.toNat_lt; omega)
  have h2 := dig_is (c.toNat % 16) (by omega)
  simp only [two, List.cons_append, List.nil_append, unF, h1.1, h2.1, h1.2, h2.2]
  have : UInt8.ofNat (16 * (c.toNat / 16) + c.toNat % 16) = c := by
    rw [show 16 * (c.toNat / 16) + c.toNat % 16 = c.toNat by omega]
    simp
  simp [this]
theorem un_hex (l : List UInt8) : unF (hex l) = some l := by
  induction l with
  | nil => rfl
  | cons c l ih =>
    rw [show hex (c :: l) = two c ++ hex l from by simp [hex], two_un, ih]
    rfl
theorem val_lt (c : Nat) (h : isDig c = true) : val c < 16 := by
  unfold isDig at h; unfold val
  simp at h
  split
  · omega
  · split <;> omega
theorem dig_val (c : UInt8) (h : isDig c.toNat = true) : dig (val c.toNat) = c := by
  apply UInt8.toNat_inj.1
  rw [dig_toNat _ (val_lt _ h)]
  unfold isDig at h; unfold val
  simp at h
  split
  · split <;> omega
  · split
    · split <;> omega
    · omega
theorem two_of (a b : UInt8) (ha : isDig a.toNat = true) (hb : isDig b.toNat = true) : two (UInt8.ofNat (16 * val a.toNat + val b.toNat)) = [a, b] := by
  have h1 := val_lt _ ha
  have h2 := val_lt _ hb
  have e : (UInt8.ofNat (16 * val a.toNat + val b.toNat)).toNat = 16 * val a.toNat + val b.toNat := by
    rw [UInt8.toNat_ofNat']; omega
  unfold two
  rw [e, show (16 * val a.toNat + val b.toNat) / 16 = val a.toNat by omega, show (16 * val a.toNat + val b.toNat) % 16 = val b.toNat by omega, dig_val a ha, dig_val b hb]
theorem hex_un : ∀ (n : Nat) (l acc : List UInt8), l.length ≤ n → unF l = some acc → hex acc = l
  | _, [], acc, _, h => by simp only [unF, Option.some.injEq] at h; subst h; rfl
  | _, [_], acc, _, h => by simp [unF] at h
  | 0, _ :: _ :: _, _, hn, _ => by simp at hn
  | n + 1, a :: b :: l, acc, hn, h => by
    simp only [unF] at h
    split at h
    · rename_i hc
      cases hl : unF l with
      | none => rw [hl] at h; simp at h
      | some q =>
        rw [hl] at h
        simp only [Option.map_some, Option.some.injEq] at h
        subst h
        rw [show hex (UInt8.ofNat (16 * val a.toNat + val b.toNat) :: q) = two (UInt8.ofNat (16 * val a.toNat + val b.toNat)) ++ hex q from by simp [hex], two_of a b hc.1 hc.2, hex_un n l q (by simp at hn; omega) hl]
        rfl
    · cases h
end Hex
