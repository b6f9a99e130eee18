/-
  Plain mathematics: fingerprints of texts, as remainders; what a window has, and what it comes to when a byte is pushed into it.
-/
import Derived.Test.YtcmlcpejlmlcfaaPolAll
set_option linter.unusedVariables false
namespace Pol

@[elab_as_elim] theorem snocInd {α : Type} {P : List α → Prop} (nil : P []) (snoc : ∀ l a, P l → P (l ++ [a])) (l : List α) : P l := by
  have h : ∀ r : List α, P r.reverse := fun r => by
    induction r with
    | nil => exact nil
    | cons a r ih => rw [List.reverse_cons]; exact snoc _ _ ih
  have := h l.reverse
  rwa [List.reverse_reverse] at this

/-- may fingerprints be taken by it? -/
def fine (p : Nat) : Prop := 9 ≤ len p ∧ len p ≤ 57
theorem fine_ne {p : Nat} (h : fine p) : p ≠ 0 := fun e => by subst e; have := h.1; rw [len_zero] at this; omega
theorem fine_lt {p : Nat} (h : fine p) : p < 18446744073709551616 := by
  have := (len_le p 64).1 (by have := h.2; omega)
  exact this

theorem add_xor (f b : Nat) (h : b < 256) : f * 256 + b = f * 256 ^^^ b := by
  apply Nat.eq_of_testBit_eq
  intro i
  rw [Nat.mul_comm, Nat.testBit_xor, show (256 : Nat) = 2 ^ 8 from rfl, Nat.testBit_two_pow_mul_add f (by simpa using h), Nat.testBit_two_pow_mul]
  by_cases hi : i < 8
  · have h8 : ¬ 8 ≤ i := by omega
    simp [hi, h8]
  · have h2 : b.testBit i = false := Nat.testBit_lt_two_pow (Nat.lt_of_lt_of_le h (Nat.pow_le_pow_right (n := 2) (by decide) (show 8 ≤ i by omega)))
    have h8 : 8 ≤ i := by omega
    simp [hi, h8, h2]

/-- a fingerprint, and one byte behind it -/
def foll (p f b : Nat) : Nat := rem (f * 256 + b) p
def fp (p : Nat) (l : List UInt8) : Nat := l.foldl (fun f b => foll p f b.toNat) 0
theorem fp_nil (p : Nat) : fp p [] = 0 := rfl
theorem fp_snoc (p : Nat) (l : List UInt8) (b : UInt8) : fp p (l ++ [b]) = foll p (fp p l) b.toNat := by
  unfold fp; rw [List.foldl_append]; rfl
theorem foll_len {p : Nat} (h : p ≠ 0) (f b : Nat) : len (foll p f b) < len p := rem_len _ h
theorem fp_len {p : Nat} (h : p ≠ 0) (l : List UInt8) : len (fp p l) < len p := by
  induction l using snocInd with
  | nil => rw [fp_nil, len_zero]; exact len_pos h
  | snoc l b _ => rw [fp_snoc]; exact foll_len h _ _

/-- the number that the bytes are -/
def num (l : List UInt8) : Nat := l.foldl (fun n b => n * 256 + b.toNat) 0
theorem num_snoc (l : List UInt8) (b : UInt8) : num (l ++ [b]) = num l * 256 + b.toNat := by
  unfold num; rw [List.foldl_append]; rfl
theorem xor_mul256 (a b : Nat) : (a ^^^ b) * 256 = a * 256 ^^^ b * 256 := by
  have := Nat.shiftLeft_xor_distrib (a := a) (b := b) (i := 8)
  simpa [Nat.shiftLeft_eq] using this
theorem cg_256 {p a b : Nat} (h : cg p a b) : cg p (a * 256) (b * 256) := by
  have := cg_mul h (cg_refl p (2 ^ 8))
  rw [mul_pow, mul_pow] at this
  exact this
theorem cg_foll {p a b : Nat} (h : cg p a b) (x : Nat) (hx : x < 256) : cg p (a * 256 + x) (b * 256 + x) := by
  rw [add_xor a x hx, add_xor b x hx]
  exact cg_xor (cg_256 h) (cg_refl p x)
theorem fp_num {p : Nat} (h : p ≠ 0) (l : List UInt8) : fp p l = rem (num l) p := by
  induction l using snocInd with
  | nil => show 0 = rem 0 p; exact (rem_small (by rw [len_zero]; exact len_pos h)).symm
  | snoc l b ih =>
    rw [fp_snoc, num_snoc, foll, ih]
    exact rem_congr h (cg_foll (cg_symm (rem_cg _ h)) _ b.toNat_lt)
theorem num_cons (b : UInt8) (l : List UInt8) : num (b :: l) = b.toNat * 2 ^ (8 * l.length) + num l := by
  induction l using snocInd with
  | nil => simp [num]
  | snoc l x ih =>
    rw [← List.cons_append, num_snoc, num_snoc, ih, List.length_append, List.length_singleton, Nat.mul_add, Nat.pow_add, Nat.add_mul, Nat.mul_assoc, show (2 : Nat) ^ (8 * 1) = 256 from rfl]
    omega
theorem num_lt (l : List UInt8) : num l < 2 ^ (8 * l.length) := by
  induction l using snocInd with
  | nil => simp [num]
  | snoc l x ih =>
    rw [num_snoc, List.length_append, List.length_singleton, Nat.mul_add, Nat.pow_add, show (2 : Nat) ^ (8 * 1) = 256 from rfl]
    have := x.toNat_lt
    omega
theorem num_cons_xor (b : UInt8) (l : List UInt8) : num (b :: l) = b.toNat * 2 ^ (8 * l.length) ^^^ num l := by
  rw [num_cons]
  apply Nat.eq_of_testBit_eq
  intro i
  have hl := num_lt l
  generalize 8 * l.length = k at *
  rw [Nat.mul_comm, Nat.testBit_xor, Nat.testBit_two_pow_mul_add _ hl, Nat.testBit_two_pow_mul]
  by_cases hi : i < k
  · have h8 : ¬ k ≤ i := by omega
    simp [hi, h8]
  · have h2 : (num l).testBit i = false := Nat.testBit_lt_two_pow (Nat.lt_of_lt_of_le hl (Nat.pow_le_pow_right (n := 2) (by decide) (show k ≤ i by omega)))
    have h8 : k ≤ i := by omega
    simp [hi, h8, h2]
/-- what a byte still counts, n bytes behind it -/
def gone (p n v : Nat) : Nat := rem (mul (rem (2 ^ (8 * n)) p) v) p
theorem gone_is {p : Nat} (h : p ≠ 0) (n v : Nat) : gone p n v = rem (v * 2 ^ (8 * n)) p := by
  rw [gone, rem_mul_left _ _ h, mul_comm, mul_pow]
/-- what goes out of the window is taken off by its own remainder -/
theorem fp_slide {p : Nat} (h : p ≠ 0) (a b : UInt8) (l : List UInt8) : fp p (l ++ [b]) = foll p (fp p (a :: l)) b.toNat ^^^ gone p (l.length + 1) a.toNat := by
  have e : foll p (fp p (a :: l)) b.toNat = fp p (a :: (l ++ [b])) := by rw [← List.cons_append, fp_snoc]
  rw [e, fp_num h, fp_num h, num_cons_xor, rem_xor _ _ h, gone_is h, List.length_append, List.length_singleton]
  rw [show rem (a.toNat * 2 ^ (8 * (l.length + 1))) p ^^^ rem (num (l ++ [b])) p ^^^ rem (a.toNat * 2 ^ (8 * (l.length + 1))) p = rem (num (l ++ [b])) p ^^^ (rem (a.toNat * 2 ^ (8 * (l.length + 1))) p ^^^ rem (a.toNat * 2 ^ (8 * (l.length + 1))) p) by ac_rfl, Nat.xor_self, Nat.xor_zero]

/-- bit by bit -/
theorem bits_step {p : Nat} (h : p ≠ 0) (f b k : Nat) : rem (2 * rem (f * 2 ^ k + b / 2 ^ (8 - k)) p + b / 2 ^ (8 - (k + 1)) % 2) p = rem (f * 2 ^ (k + 1) + b / 2 ^ (8 - (k + 1))) p ∨ 8 ≤ k := by
  by_cases hk : 8 ≤ k
  · exact .inr hk
  · left
    obtain ⟨m, hm⟩ : ∃ m, 8 - k = m + 1 := ⟨7 - k, by omega⟩
    rw [hm, show 8 - (k + 1) = m by omega]
    have e : f * 2 ^ (k + 1) + b / 2 ^ m = 2 * (f * 2 ^ k + b / 2 ^ (m + 1)) + b / 2 ^ m % 2 := by
      rw [Nat.pow_succ 2 m, ← Nat.div_div_eq_div_mul, Nat.pow_succ, ← Nat.mul_assoc]
      omega
    rw [e]
    generalize f * 2 ^ k + b / 2 ^ (m + 1) = X
    have hx : ∀ Y y, y < 2 → 2 * Y + y = 2 * Y ^^^ y := fun Y y hy => by
      apply Nat.eq_of_testBit_eq
      intro i
      rw [Nat.testBit_xor]
      have := Nat.testBit_two_pow_mul_add Y (b := y) (i := 1) (by simpa using hy) i
      rw [Nat.pow_one] at this
      rw [this]
      cases i with
      | zero => simp [Nat.testBit_zero]
      | succ i =>
        have e1 : y / 2 = 0 := by omega
        simp [Nat.testBit_succ, e1]
    have hy : b / 2 ^ m % 2 < 2 := Nat.mod_lt _ (by decide)
    rw [hx _ _ hy, hx _ _ hy]
    exact rem_congr h (cg_xor (cg_two (cg_symm (rem_cg X h))) (cg_refl p _))

/-- by exclusive or -/
theorem foll_xor {p : Nat} (h : p ≠ 0) (f g : Nat) (a b : UInt8) : foll p (f ^^^ g) (a ^^^ b).toNat = foll p f a.toNat ^^^ foll p g b.toNat := by
  unfold foll
  rw [add_xor _ _ (a ^^^ b).toNat_lt, add_xor _ _ a.toNat_lt, add_xor _ _ b.toNat_lt, ← rem_xor _ _ h, UInt8.toNat_xor, xor_mul256]
  congr 1
  ac_rfl
theorem fp_xor {p : Nat} (h : p ≠ 0) : ∀ (a b : List UInt8) (f g : Nat), a.length = b.length → (List.zipWith (fun x y : UInt8 => x ^^^ y) a b).foldl (fun f b => foll p f b.toNat) (f ^^^ g) = a.foldl (fun f b => foll p f b.toNat) f ^^^ b.foldl (fun f b => foll p f b.toNat) g
  | [], [], f, g, _ => rfl
  | [], _ :: _, _, _, hl => by simp at hl
  | _ :: _, [], _, _, hl => by simp at hl
  | x :: a, y :: b, f, g, hl => by
    simp only [List.zipWith_cons_cons, List.foldl_cons]
    rw [foll_xor h]
    exact fp_xor h a b _ _ (by simpa using hl)
theorem fp_zip {p : Nat} (h : p ≠ 0) (a b : List UInt8) (hl : a.length = b.length) : fp p (List.zipWith (fun x y : UInt8 => x ^^^ y) a b) = fp p a ^^^ fp p b := by
  have := fp_xor h a b 0 0 hl
  rw [Nat.xor_self] at this
  exact this
theorem fp_noughts {p : Nat} (h : p ≠ 0) (n : Nat) (a : List UInt8) : fp p (List.replicate n 0 ++ a) = fp p a := by
  have h0 : foll p 0 0 = 0 := rem_small (by rw [show 0 * 256 + 0 = 0 from rfl, len_zero]; exact len_pos h)
  induction n with
  | zero => rfl
  | succ n ih =>
    rw [List.replicate_succ, List.cons_append]
    unfold fp at *
    rw [List.foldl_cons, show (0 : UInt8).toNat = 0 from rfl, h0]
    exact ih

/-- the last n bytes that were given, noughts ahead of them -/
def last (n : Nat) (l : List UInt8) : List UInt8 := (List.replicate n 0 ++ l).drop l.length
theorem last_length (n : Nat) (l : List UInt8) : (last n l).length = n := by simp [last]
theorem last_nil (n : Nat) : last n [] = List.replicate n 0 := by simp [last]
theorem last_append (n : Nat) (l s : List UInt8) : last n (l ++ s) = (last n l ++ s).drop s.length := by
  unfold last
  rw [← List.append_assoc, List.length_append, ← List.drop_drop, List.drop_append_of_le_length (by simp)]
theorem last_full (n : Nat) (l : List UInt8) (h : n ≤ l.length) : last n l = l.drop (l.length - n) := by
  unfold last
  rw [List.drop_append, List.length_replicate, List.drop_eq_nil_of_le (by simpa using h), List.nil_append]
theorem last_same (n : Nat) (a b s : List UInt8) (h : n ≤ s.length) : last n (a ++ s) = last n (b ++ s) := by
  rw [last_append, last_append, List.drop_append, List.drop_append, last_length, last_length, @List.drop_eq_nil_of_le _ (last n a) _ (by rw [last_length]; exact h), @List.drop_eq_nil_of_le _ (last n b) _ (by rw [last_length]; exact h)]
theorem last_cut (n : Nat) (l s : List UInt8) : last n (l ++ s) = (last n l ++ s.drop (s.length - n)).drop (s.drop (s.length - n)).length := by
  rw [last_append, List.length_drop]
  by_cases h : n ≤ s.length
  · rw [List.drop_append, List.drop_append, last_length, @List.drop_eq_nil_of_le _ (last n l) _ (by rw [last_length]; exact h), @List.drop_eq_nil_of_le _ (last n l) _ (by rw [last_length]; omega), List.drop_drop]
    congr 2; omega
  · rw [show s.length - n = 0 by omega, List.drop_zero, Nat.sub_zero]

/-- the window of a ring of n bytes whose oldest one is at o -/
def wind (bs : List UInt8) (n o : Nat) : List UInt8 := (bs.take n).drop o ++ bs.take o
theorem wind_length {bs : List UInt8} {n o : Nat} (hn : n ≤ bs.length) (ho : o < n) : (wind bs n o).length = n := by
  simp [wind]; omega
theorem wind_cons {bs : List UInt8} {n o : Nat} (hn : n ≤ bs.length) (ho : o < n) : wind bs n o = bs.getD o 0 :: ((bs.take n).drop (o + 1) ++ bs.take o) := by
  unfold wind
  rw [List.drop_eq_getElem_cons (by simp; omega), List.getElem_take, List.cons_append]
  congr 1
  rw [List.getD_eq_getElem?_getD, List.getElem?_eq_getElem (by omega)]; rfl
theorem wind_push {bs : List UInt8} {n o : Nat} (hn : n ≤ bs.length) (ho : o < n) (b : UInt8) : wind (bs.set o b) n ((o + 1) % n) = ((bs.take n).drop (o + 1) ++ bs.take o) ++ [b] := by
  have ht : ∀ k, o < k → k ≤ bs.length → (bs.set o b).take k = bs.take o ++ b :: (bs.take k).drop (o + 1) := fun k h1 h2 => by
    rw [List.set_eq_take_append_cons_drop, if_pos (by omega), List.take_append, List.length_take, Nat.min_eq_left (by omega), List.take_of_length_le (by simp; omega)]
    congr 1
    obtain ⟨m, hm⟩ : ∃ m, k - o = m + 1 := ⟨k - o - 1, by omega⟩
    rw [hm, List.take_succ_cons, List.drop_take]
    congr 2
    omega
  by_cases h : o + 1 = n
  · subst h
    rw [Nat.mod_self, wind, List.drop_zero, List.take_zero, List.append_nil, ht _ ho hn, List.drop_eq_nil_of_le (by simp; omega), List.nil_append]
  · rw [Nat.mod_eq_of_lt (by omega), wind, ht n ho hn, ht (o + 1) (by omega) (by omega), @List.drop_eq_nil_of_le _ (bs.take (o + 1)) _ (by simp; omega), ← List.append_assoc]
    congr 2
    rw [List.drop_append, List.length_take, Nat.min_eq_left (by omega), List.drop_eq_nil_of_le (by simp; omega), List.nil_append, show o + 1 - o = 1 by omega, List.drop_succ_cons, List.drop_zero]
theorem wind_blank (n o : Nat) (hn : n ≤ 64) (ho : o < n) : wind (List.replicate 64 0) n o = List.replicate n 0 := by
  unfold wind
  rw [List.take_replicate, List.take_replicate, List.drop_replicate, List.replicate_append_replicate]
  congr 1; omega
end Pol
