/- Put together of: OctPure OctPure2 OctPure3 OctPure4 OctPure5 OctPure6 OctNum OctShort OctText GoBuilder OctRow OctRow2 OctReadRow OctReadRow2 OctSame -/
import Derived.Test.YtalklpnekbfehaaGreatRows
import Derived.Test.YtalklpnekbfehaaGreatGoAll
import Derived.Deep.QuietTactic
import Derived.BigQuiet
import Derived.Lib.Strings
import Derived.Test.YtalklpnekbfehaaGreatShelf
import Derived.Shelf.Strings.Builder1
import Derived.KernelRfl
import Derived.Deep.RegionWith
import Derived.Deep.DeepCutAuto
import Derived.OneCell
import Derived.Deep.Onto
set_option maxRecDepth 100000
/-
  The plain mathematics of package octet: numbers as bytes, the lowest one first; short numbers. Nothing of Go in it.
-/
set_option linter.unusedVariables false
namespace Go.Proofs.YtalklpnekbfehaaGreat.Oct

/-- n bytes of v, the lowest one first -/
def le : Nat → Nat → List UInt8
  | 0, _ => []
  | n + 1, v => UInt8.ofNat v :: le n (v / 256)

/-- the number of bytes, the lowest one first -/
def un : List UInt8 → Nat
  | [] => 0
  | b :: r => b.toNat + 256 * un r

theorem le_length (n v : Nat) : (le n v).length = n := by
  induction n generalizing v with
  | zero => rfl
  | succ n ih => simp [le, ih]

theorem un_lt (l : List UInt8) : un l < 256 ^ l.length := by
  induction l with
  | nil => simp [un]
  | cons b r ih =>
    have hb : b.toNat < 256 := b.toNat_lt
    simp only [un, List.length_cons, Nat.pow_succ]
    omega

theorem un_le (n v : Nat) (h : v < 256 ^ n) : un (le n v) = v := by
  induction n generalizing v with
  | zero => simp [le, un] at *; omega
  | succ n ih =>
    have h1 : v / 256 < 256 ^ n := by
      rw [Nat.pow_succ] at h
      exact Nat.div_lt_of_lt_mul (by omega)
    simp only [le, un, ih _ h1]
    simp
    omega

theorem le_un (l : List UInt8) : le l.length (un l) = l := by
  induction l with
  | nil => rfl
  | cons b r ih =>
    have hb : b.toNat < 256 := b.toNat_lt
    simp only [un, List.length_cons, le]
    have h1 : (b.toNat + 256 * un r) / 256 = un r := by omega
    rw [h1, ih]
    congr 1
    apply UInt8.toNat_inj.1
    simp

theorem un_append (l r : List UInt8) : un (l ++ r) = un l + 256 ^ l.length * un r := by
  induction l with
  | nil => simp [un]
  | cons b t ih =>
    simp only [List.cons_append, un, ih, List.length_cons, Nat.pow_succ]
    rw [Nat.mul_add, Nat.add_assoc]
    rw [← Nat.mul_assoc, Nat.mul_comm 256 (256 ^ t.length)]

theorem le_snoc (n v : Nat) : le (n + 1) v = le n v ++ [UInt8.ofNat (v / 256 ^ n)] := by
  induction n generalizing v with
  | zero => simp [le]
  | succ n ih =>
    rw [le, ih, le]
    simp [Nat.div_div_eq_div_mul, Nat.pow_succ, Nat.mul_comm]

/-- short: seven bits a byte, the lowest ones first; f: how many bytes at the most -/
def shortF : Nat → Nat → List UInt8
  | 0, _ => []
  | f + 1, v => if v < 128 then [UInt8.ofNat v] else UInt8.ofNat (v % 128 + 128) :: shortF f (v / 128)

theorem shortF_succ (f v : Nat) : shortF (f + 1) v = if v < 128 then [UInt8.ofNat v] else UInt8.ofNat (v % 128 + 128) :: shortF f (v / 128) := rfl

/-- the short encoding of a number below 2^70 -/
def short (v : Nat) : List UInt8 := shortF 10 v

theorem shortF_mono (f g v : Nat) (h : v < 128 ^ (f + 1)) (hf : f ≤ g) : shortF (g + 1) v = shortF (f + 1) v := by
  induction f generalizing g v with
  | zero =>
    have hv : v < 128 := by simpa using h
    simp [shortF, hv]
  | succ f ih =>
    obtain ⟨g, rfl⟩ : ∃ k, g = k + 1 := ⟨g - 1, by omega⟩
    rw [shortF_succ (g + 1), shortF_succ (f + 1)]
    by_cases hv : v < 128
    · simp [hv]
    · have : v / 128 < 128 ^ (f + 1) := by
        rw [Nat.pow_succ] at h
        exact Nat.div_lt_of_lt_mul (by omega)
      rw [if_neg hv, if_neg hv, ih g _ this (by omega)]

theorem shortF_length (f v : Nat) : (shortF f v).length ≤ f := by
  induction f generalizing v with
  | zero => simp [shortF]
  | succ f ih =>
    simp only [shortF]
    split
    · simp
    · simp; exact ih _

/-- reading a short number, byte by byte: i bytes were read, they come to v; the number, how many bytes, an error's number -/
def rs : Nat → Nat → List UInt8 → Nat × Nat × Nat
  | _, _, [] => (0, 0, 6)
  | i, v, c :: r =>
    if i = 9 ∧ 1 < c.toNat then (0, 0, 7)
    else if 128 ≤ c.toNat then rs (i + 1) (v + c.toNat % 128 * 128 ^ i) r
    else if c.toNat = 0 ∧ 0 < i then (0, 0, 7)
    else (v + c.toNat * 128 ^ i, i + 1, 0)

end Go.Proofs.YtalklpnekbfehaaGreat.Oct

/-
  The plain mathematics of package octet, second part: what is put is got; short numbers.
-/
set_option linter.unusedVariables false
namespace Go.Proofs.YtalklpnekbfehaaGreat.Oct

/-- Put: its bytes, and an error's number -/
def put (v : Nat) (n : Int) : List UInt8 × Int := if 1 ≤ n ∧ n ≤ 8 ∧ v < 256 ^ n.toNat then (le n.toNat v, 0) else ([], 2)
/-- Get -/
def get (l : List UInt8) : Nat × Int := if 1 ≤ l.length ∧ l.length ≤ 8 then (un l, 0) else (0, 2)

theorem un_take_succ (l : List UInt8) (k : Nat) (h : k < l.length) : un (l.take (k + 1)) = un (l.take k) + l[k].toNat * 2 ^ (8 * k) := by
  rw [List.take_succ_eq_append_getElem h, un_append]
  have e : (l.take k).length = k := by simp; omega
  rw [e]
  have e2 : (256 : Nat) ^ k = 2 ^ (8 * k) := by rw [Nat.pow_mul]
  rw [e2]
  simp [un, Nat.mul_comm]

theorem un_take_lt (l : List UInt8) (k : Nat) (h : k ≤ l.length) : un (l.take k) < 2 ^ (8 * k) := by
  have := un_lt (l.take k)
  have e : (l.take k).length = k := by simp; omega
  rw [e] at this
  have e2 : (256 : Nat) ^ k = 2 ^ (8 * k) := by rw [Nat.pow_mul]
  omega

theorem un_drop (l : List UInt8) (k : Nat) (h : k < l.length) : un (l.drop k) = l[k].toNat + 256 * un (l.drop (k + 1)) := by
  rw [List.drop_eq_getElem_cons h]; rfl

theorem un_small (l : List UInt8) (h : l.length ≤ 8) : un l < 18446744073709551616 := by
  have h1 := un_lt l
  have h2 : (256 : Nat) ^ l.length ≤ 256 ^ 8 := Nat.pow_le_pow_right (by decide) h
  have h3 : (256 : Nat) ^ 8 = 18446744073709551616 := by decide
  omega

theorem get_put (v : Nat) (n : Int) (h : (put v n).2 = 0) : get (put v n).1 = (v, 0) ∧ ((put v n).1.length : Int) = n := by
  unfold put at *
  split at h
  · rename_i hc
    rw [if_pos hc]
    obtain ⟨h1, h2, h3⟩ := hc
    refine ⟨?_, by simp [le_length]; omega⟩
    simp only [get, le_length]
    rw [if_pos ⟨by omega, by omega⟩, un_le _ _ h3]
  · simp at h

theorem put_get (l : List UInt8) (h : (get l).2 = 0) : put (get l).1 l.length = (l, 0) := by
  unfold get at *
  split at h
  · rename_i hc
    rw [if_pos hc]
    simp only [put]
    rw [if_pos ⟨by omega, by omega, by simpa using un_lt l⟩]
    simp [le_un]
  · simp at h

end Go.Proofs.YtalklpnekbfehaaGreat.Oct

/-
  The plain mathematics of package octet, third part: short numbers, step by step.
-/
set_option linter.unusedVariables false
namespace Go.Proofs.YtalklpnekbfehaaGreat.Oct

/-- how far Short has come: acc was written, q is left -/
def ShortAt (v q : Nat) (acc : List UInt8) : Prop := acc.length ≤ 9 ∧ q < 128 ^ (10 - acc.length) ∧ (acc.length = 9 → q < 128) ∧ acc ++ shortF (10 - acc.length) q = short v

theorem ShortAt.start (v : Nat) (h : v < 18446744073709551616) : ShortAt v v [] := ⟨by simp, by simp; omega, by simp, by simp [short]⟩

theorem ShortAt.len9 {v q : Nat} {acc : List UInt8} (h : ShortAt v q acc) : acc.length ≤ 9 := h.1

theorem ShortAt.next {v q : Nat} {acc : List UInt8} (h : ShortAt v q acc) (hq : 128 ≤ q) : ShortAt v (q / 128) (acc ++ [UInt8.ofNat (q % 128 + 128)]) := by
  obtain ⟨h1, h2, h3, h4⟩ := h
  have hl : acc.length < 9 := by omega
  have e : 10 - acc.length = (9 - acc.length) + 1 := by omega
  have e' : 10 - (acc ++ [UInt8.ofNat (q % 128 + 128)]).length = 9 - acc.length := by rw [List.length_append]; simp only [List.length_cons, List.length_nil]; omega
  rw [e, Nat.pow_succ] at h2
  refine ⟨by simp; omega, ?_, ?_, ?_⟩
  · rw [e']; exact Nat.div_lt_of_lt_mul (by omega)
  · intro h9
    have : acc.length = 8 := by simpa using h9
    rw [this] at h2
    omega
  · rw [e', ← h4, e, shortF_succ, if_neg (by omega)]
    simp

theorem ShortAt.len {v q : Nat} {acc : List UInt8} (h : ShortAt v q acc) (hq : 128 ≤ q) : (acc ++ [UInt8.ofNat (q % 128 + 128)]).length ≤ 10 := by
  have := (h.next hq).1
  omega

theorem ShortAt.next9 {v q : Nat} {acc : List UInt8} (h : ShortAt v q acc) (hq : 128 ≤ q) : acc.length ≤ 8 := by
  have := (h.next hq).1
  rw [List.length_append] at this
  simp only [List.length_cons, List.length_nil] at this
  omega

theorem ShortAt.last {v q : Nat} {acc : List UInt8} (h : ShortAt v q acc) (hq : q < 128) : acc ++ [UInt8.ofNat q] = short v := by
  obtain ⟨h1, h2, h3, h4⟩ := h
  have e : 10 - acc.length = (9 - acc.length) + 1 := by omega
  rw [← h4, e, shortF_succ, if_pos hq]

/-! ### reading a short number -/
def RsAt (l : List UInt8) (k v : Nat) : Prop := k ≤ 9 ∧ v < 128 ^ k ∧ rs 0 0 l = rs k v (l.drop k)

theorem RsAt.start (l : List UInt8) : RsAt l 0 0 := ⟨by omega, by simp, by simp⟩

theorem pow7 (k : Nat) : (128 : Nat) ^ k = 2 ^ (7 * k) := by rw [Nat.pow_mul]

theorem RsAt.fits {l : List UInt8} {k v : Nat} (h : RsAt l k v) (c : Nat) (hc : c < 128) (h9 : k = 9 → c ≤ 1) : v + c * 2 ^ (7 * k) < 18446744073709551616 := by
  obtain ⟨hk, hv, _⟩ := h
  rw [pow7] at hv
  by_cases e : k = 9
  · subst e
    have := h9 rfl
    have e2 : (2 : Nat) ^ (7 * 9) = 9223372036854775808 := by decide
    rw [e2] at *
    have : c = 0 ∨ c = 1 := by omega
    rcases this with rfl | rfl <;> omega
  · have h1 : c * 2 ^ (7 * k) ≤ 127 * 2 ^ (7 * k) := Nat.mul_le_mul_right _ (by omega)
    have h2 : (2 : Nat) ^ (7 * k) ≤ 2 ^ 56 := Nat.pow_le_pow_right (by decide) (by omega)
    have e2 : (2 : Nat) ^ 56 = 72057594037927936 := by decide
    omega

theorem RsAt.small {l : List UInt8} {k v : Nat} (h : RsAt l k v) : v < 2 ^ (7 * k) := by
  rw [← pow7]; exact h.2.1

theorem rs_cons (k v : Nat) (c : UInt8) (r : List UInt8) : rs k v (c :: r) =
    if k = 9 ∧ 1 < c.toNat then (0, 0, 7)
    else if 128 ≤ c.toNat then rs (k + 1) (v + c.toNat % 128 * 128 ^ k) r
    else if c.toNat = 0 ∧ 0 < k then (0, 0, 7)
    else (v + c.toNat * 128 ^ k, k + 1, 0) := rfl

theorem RsAt.over {l : List UInt8} {k v : Nat} (h : RsAt l k v) (hk : k < l.length) (h9 : k = 9) (hc : 1 < l[k].toNat) : rs 0 0 l = (0, 0, 7) := by
  rw [h.2.2, List.drop_eq_getElem_cons hk, rs_cons, if_pos ⟨h9, hc⟩]

theorem RsAt.next {l : List UInt8} {k v : Nat} (h : RsAt l k v) (hk : k < l.length) (h9 : ¬ (k = 9 ∧ 1 < l[k].toNat)) (hc : 128 ≤ l[k].toNat) : RsAt l (k + 1) (v + l[k].toNat % 128 * 2 ^ (7 * k)) := by
  obtain ⟨h1, h2, h3⟩ := h
  refine ⟨by omega, ?_, ?_⟩
  · rw [Nat.pow_succ, ← pow7]
    have : l[k].toNat % 128 * 128 ^ k ≤ 127 * 128 ^ k := Nat.mul_le_mul_right _ (by omega)
    omega
  · rw [h3, List.drop_eq_getElem_cons hk, rs_cons, if_neg h9, if_pos hc, pow7]

theorem RsAt.nought {l : List UInt8} {k v : Nat} (h : RsAt l k v) (hk : k < l.length) (hc : l[k].toNat = 0) (h0 : 0 < k) : rs 0 0 l = (0, 0, 7) := by
  rw [h.2.2, List.drop_eq_getElem_cons hk, rs_cons, if_neg (by omega), if_neg (by omega), if_pos ⟨hc, h0⟩]

theorem RsAt.last {l : List UInt8} {k v : Nat} (h : RsAt l k v) (hk : k < l.length) (h9 : ¬ (k = 9 ∧ 1 < l[k].toNat)) (hc : l[k].toNat < 128) (h0 : ¬ (l[k].toNat = 0 ∧ 0 < k)) :
    rs 0 0 l = (v + l[k].toNat * 2 ^ (7 * k), k + 1, 0) := by
  rw [h.2.2, List.drop_eq_getElem_cons hk, rs_cons, if_neg h9, if_neg (by omega), if_neg h0, pow7]

theorem RsAt.stop {l : List UInt8} {k v : Nat} (h : RsAt l k v) (hk : l.length ≤ k) : rs 0 0 l = (0, 0, 6) := by
  rw [h.2.2, List.drop_of_length_le hk]; rfl

/-! ### the document's way to read a short number -/
/-- seven bits a byte -/
def dec : List UInt8 → Nat
  | [] => 0
  | b :: r => b.toNat % 128 + 128 * dec r

theorem dec_drop (l : List UInt8) (k : Nat) (h : k < l.length) : dec (l.drop k) = l[k].toNat % 128 + 128 * dec (l.drop (k + 1)) := by
  rw [List.drop_eq_getElem_cons h]; rfl

theorem dec_append (l r : List UInt8) : dec (l ++ r) = dec l + 128 ^ l.length * dec r := by
  induction l with
  | nil => simp [dec]
  | cons b t ih =>
    simp only [List.cons_append, dec, ih, List.length_cons, Nat.pow_succ]
    rw [Nat.mul_add, Nat.add_assoc, ← Nat.mul_assoc, Nat.mul_comm 128 (128 ^ t.length)]

theorem dec_take_succ (l : List UInt8) (k : Nat) (h : k < l.length) : dec (l.take (k + 1)) = dec (l.take k) + l[k].toNat % 128 * 2 ^ (7 * k) := by
  rw [List.take_succ_eq_append_getElem h, dec_append]
  have e : (l.take k).length = k := by simp; omega
  rw [e, pow7]
  simp [dec, Nat.mul_comm]

theorem dec_short (f v : Nat) (h : v < 128 ^ f) : dec (shortF f v) = v := by
  induction f generalizing v with
  | zero => simp [shortF, dec] at *; omega
  | succ f ih =>
    rw [shortF_succ]
    split
    · rename_i hv
      simp [dec]
      omega
    · rename_i hv
      have h1 : v / 128 < 128 ^ f := by
        rw [Nat.pow_succ] at h
        exact Nat.div_lt_of_lt_mul (by omega)
      rw [dec, ih _ h1]
      simp
      omega

/-- the first k bytes have another one behind them -/
def Run (l : List UInt8) (k : Nat) : Prop := ∀ j (h : j < l.length), j < k → 128 ≤ l[j].toNat

theorem Run.start (l : List UInt8) : Run l 0 := fun _ _ h => by omega
theorem Run.next {l : List UInt8} {k : Nat} (h : Run l k) (hk : k < l.length) (hc : 128 ≤ l[k].toNat) : Run l (k + 1) := by
  intro j hj hjk
  by_cases e : j = k
  · subst e; exact hc
  · exact h j hj (by omega)

theorem Run.at {l : List UInt8} {k : Nat} (h : Run l k) (hk : k ≤ l.length) (h9 : k ≤ 9) : RsAt l k (dec (l.take k)) := by
  induction k with
  | zero => simpa [dec] using RsAt.start l
  | succ k ih =>
    have hk' : k < l.length := by omega
    have hr := ih (fun j hj hjk => h j hj (by omega)) (by omega) (by omega)
    have hn := hr.next hk' (by omega) (h k hk' (by omega))
    rw [dec_take_succ l k hk']
    exact hn

theorem Run.stop {l : List UInt8} {k : Nat} (h : Run l k) (hk : k = l.length) (h9 : k ≤ 9) : rs 0 0 l = (0, 0, 6) := (h.at (by omega) h9).stop (by omega)

theorem Run.over {l : List UInt8} (h : Run l 10) (hk : 10 ≤ l.length) : rs 0 0 l = (0, 0, 7) := by
  have h9 : Run l 9 := fun j hj hjk => h j hj (by omega)
  have := h 9 (by omega) (by omega)
  exact (h9.at (by omega) (by omega)).over (by omega) rfl (by omega)

/-- short, of what the bytes come to -/
theorem shortF_dec (f : Nat) (l : List UInt8) (b : UInt8) (hl : ∀ x ∈ l, 128 ≤ x.toNat) (hb : b.toNat < 128) (h0 : l = [] ∨ b.toNat ≠ 0) (hf : l.length < f) :
    shortF f (dec (l ++ [b])) = l ++ [b] ∧ (l ≠ [] → 128 ≤ dec (l ++ [b])) ∧ (b.toNat ≠ 0 → dec (l ++ [b]) ≠ 0) := by
  induction l generalizing f with
  | nil =>
    obtain ⟨g, rfl⟩ : ∃ g, f = g + 1 := ⟨f - 1, by simp at hf; omega⟩
    have e : dec ([] ++ [b]) = b.toNat := by simp [dec]; omega
    rw [e]
    refine ⟨?_, by simp, fun h => h⟩
    rw [shortF_succ, if_pos hb]
    simp
  | cons x t ih =>
    obtain ⟨g, rfl⟩ : ∃ g, f = g + 1 := ⟨f - 1, by simp at hf; omega⟩
    have hb0 : b.toNat ≠ 0 := h0.resolve_left (by simp)
    obtain ⟨h1, h2, h3⟩ := ih g (fun y hy => hl y (List.mem_cons_of_mem _ hy)) (.inr hb0) (by simp at hf; omega)
    have hx := hl x (List.mem_cons_self ..)
    have hx2 := x.toNat_lt
    have h3' := h3 hb0
    have e : dec (x :: t ++ [b]) = x.toNat % 128 + 128 * dec (t ++ [b]) := rfl
    have hge : 128 ≤ dec (x :: t ++ [b]) := by rw [e]; omega
    refine ⟨?_, fun _ => hge, fun _ => by omega⟩
    rw [shortF_succ, if_neg (by omega), e]
    have e1 : (x.toNat % 128 + 128 * dec (t ++ [b])) / 128 = dec (t ++ [b]) := by omega
    have e2 : (x.toNat % 128 + 128 * dec (t ++ [b])) % 128 + 128 = x.toNat := by omega
    rw [e1, e2, h1]
    simp

/-- what Short gives ends in a byte that is not 0, unless it has one alone -/
theorem shortF_last (f v : Nat) (l : List UInt8) (b : UInt8) (hv : v < 128 ^ f) (h : shortF f v = l ++ [b]) (hl : l ≠ []) : b.toNat ≠ 0 := by
  induction f generalizing v l with
  | zero => simp [shortF] at h
  | succ f ih =>
    rw [shortF_succ] at h
    split at h
    · rename_i hv
      cases l with
      | nil => exact absurd rfl hl
      | cons x t => simp at h
    · rename_i hv'
      have h1 : v / 128 < 128 ^ f := by
        rw [Nat.pow_succ] at hv
        exact Nat.div_lt_of_lt_mul (by omega)
      cases l with
      | nil => exact absurd rfl hl
      | cons x t =>
        simp only [List.cons_append, List.cons.injEq] at h
        by_cases ht : t = []
        · subst ht
          intro hb
          have hd := dec_short f (v / 128) h1
          rw [h.2] at hd
          simp [dec, hb] at hd
          omega
        · exact ih _ t h1 h.2 ht

theorem Run.answer {l : List UInt8} {k : Nat} (h : Run l k) (hk : k < l.length) (h9 : k ≤ 9) (hc : l[k].toNat < 128) :
    rs 0 0 l = if short (dec (l.take (k + 1)) % 18446744073709551616) = l.take (k + 1) then (dec (l.take (k + 1)) % 18446744073709551616, k + 1, 0) else (0, 0, 7) := by
  have hr := h.at (by omega) h9
  have et : l.take (k + 1) = l.take k ++ [l[k]] := List.take_succ_eq_append_getElem hk
  have ed := dec_take_succ l k hk
  rw [Nat.mod_eq_of_lt hc] at ed
  have hall : ∀ x ∈ l.take k, 128 ≤ x.toNat := by
    intro x hx
    obtain ⟨j, hj, rfl⟩ := List.getElem_of_mem hx
    rw [List.getElem_take]
    have : j < k := by simp at hj; omega
    exact h j (by omega) this
  have hlen : (l.take k).length = k := by simp; omega
  generalize hH : dec (l.take (k + 1)) = H at *
  have e64 : (128 : Nat) ^ 10 = 1180591620717411303424 := by decide
  have hmod : H % 18446744073709551616 < 18446744073709551616 := Nat.mod_lt _ (by decide)
  by_cases hov : k = 9 ∧ 1 < l[k].toNat
  · rw [hr.over hk hov.1 hov.2, if_neg]
    intro hs
    have hd := dec_short 10 (H % 18446744073709551616) (by omega)
    rw [show shortF 10 (H % 18446744073709551616) = short (H % 18446744073709551616) from rfl, hs, hH] at hd
    obtain ⟨rfl, h1⟩ := hov
    have e2 : (2 : Nat) ^ (7 * 9) = 9223372036854775808 := by decide
    rw [e2] at ed
    omega
  · have hfit := hr.fits l[k].toNat hc (by omega)
    rw [← ed] at hfit
    rw [Nat.mod_eq_of_lt hfit]
    by_cases hz : l[k].toNat = 0 ∧ 0 < k
    · rw [hr.nought hk hz.1 hz.2, if_neg]
      intro hs
      rw [et] at hs
      exact shortF_last 10 H _ _ (by omega) hs (by intro e; rw [e] at hlen; simp at hlen; omega) hz.1
    · rw [hr.last hk hov hc hz, ← ed, if_pos]
      have := (shortF_dec 10 (l.take k) l[k] hall hc (by
        by_cases e : k = 0
        · left; subst e; simp
        · right; omega) (by omega)).1
      rw [← et, hH] at this
      exact this

end Go.Proofs.YtalklpnekbfehaaGreat.Oct

/-
  The plain mathematics of package octet, fourth part: texts and rows.
-/
set_option linter.unusedVariables false
namespace Go.Proofs.YtalklpnekbfehaaGreat.Oct

/-- Text -/
def text (l : List UInt8) : List UInt8 × Int := if l.length ≤ 65535 then (le 2 l.length ++ l, 0) else ([], 5)

/-- how many bytes the text that l begins with has -/
def hd (l : List UInt8) : Nat := un (l.take 2)

/-- Read -/
def read (l : List UInt8) : List UInt8 × Nat × Int :=
  if 2 ≤ l.length ∧ 2 + hd l ≤ l.length then ((l.drop 2).take (hd l), 2 + hd l, 0) else ([], 0, 6)

theorem hd_lt (l : List UInt8) : hd l < 65536 := by
  have h1 := un_lt (l.take 2)
  have h2 : (256 : Nat) ^ (l.take 2).length ≤ 256 ^ 2 := Nat.pow_le_pow_right (by decide) (by simp; omega)
  have h3 : (256 : Nat) ^ 2 = 65536 := by decide
  unfold hd
  omega

theorem hd_le (n : Nat) (r : List UInt8) (h : n ≤ 65535) : hd (le 2 n ++ r) = n := by
  unfold hd
  rw [List.take_left' (le_length 2 n), un_le _ _ (by omega)]

theorem hd_cons (a b : UInt8) (r : List UInt8) : hd (a :: b :: r) = a.toNat + 256 * b.toNat := by
  simp [hd, un]

theorem hd_get (l : List UInt8) (h : 1 < l.length) : hd l = (l[0]'(by omega)).toNat + 256 * l[1].toNat := by
  match l, h with
  | a :: b :: r, _ => rw [hd_cons]; rfl

end Go.Proofs.YtalklpnekbfehaaGreat.Oct

/-
  The plain mathematics of package octet, fifth part: rows of texts.
-/
set_option linter.unusedVariables false
namespace Go.Proofs.YtalklpnekbfehaaGreat.Oct

/-- the texts of a row, each behind its length -/
def body : List (List UInt8) → List UInt8
  | [] => []
  | t :: r => le 2 t.length ++ (t ++ body r)

/-- Row -/
def row (l : List (List UInt8)) : List UInt8 × Int :=
  if l.length ≤ 65535 ∧ ∀ t ∈ l, t.length ≤ 65535 then (le 2 l.length ++ body l, 0) else ([], 5)

/-- n texts are read, and nothing is left -/
def readN : Nat → List UInt8 → Option (List (List UInt8))
  | 0, r => if r = [] then some [] else none
  | n + 1, r => if (read r).2.2 = 0 then (readN n (r.drop (read r).2.1)).map ((read r).1 :: ·) else none

/-- ReadRow: none is ErrForm -/
def readRow (l : List UInt8) : Option (List (List UInt8)) := if 2 ≤ l.length then readN (hd l) (l.drop 2) else none

theorem body_append (l r : List (List UInt8)) : body (l ++ r) = body l ++ body r := by
  induction l with
  | nil => rfl
  | cons t l ih => simp [body, ih]

theorem body_take_succ (l : List (List UInt8)) (k : Nat) (h : k < l.length) : body (l.take (k + 1)) = body (l.take k) ++ (le 2 l[k].length ++ l[k]) := by
  rw [List.take_succ_eq_append_getElem h, body_append]
  simp [body]

theorem body_length (l : List (List UInt8)) (h : ∀ t ∈ l, t.length ≤ 65535) : (body l).length ≤ 65537 * l.length := by
  induction l with
  | nil => simp [body]
  | cons t l ih =>
    have h1 := ih (fun x hx => h x (List.mem_cons_of_mem _ hx))
    have h2 := h t (List.mem_cons_self ..)
    simp only [body, List.length_append, le_length, List.length_cons]
    omega

theorem read_text (t r : List UInt8) (h : t.length ≤ 65535) : read (le 2 t.length ++ (t ++ r)) = (t, 2 + t.length, 0) := by
  have hh := hd_le t.length (t ++ r) h
  unfold read
  rw [hh, if_pos ⟨by simp [le_length], by simp [le_length]⟩]
  rw [List.drop_left' (le_length 2 _)]
  simp

theorem readN_body (l : List (List UInt8)) (h : ∀ t ∈ l, t.length ≤ 65535) : readN l.length (body l) = some l := by
  induction l with
  | nil => rfl
  | cons t l ih =>
    have h1 := ih (fun x hx => h x (List.mem_cons_of_mem _ hx))
    have h2 := h t (List.mem_cons_self ..)
    simp only [List.length_cons, body, readN]
    rw [read_text t _ h2]
    simp only [if_true]
    have e : (le 2 t.length ++ (t ++ body l)).drop (2 + t.length) = body l := by
      rw [← List.append_assoc, List.drop_left' (by simp [le_length])]
    rw [e, h1]
    rfl

theorem readRow_row (l : List (List UInt8)) (h : (row l).2 = 0) : readRow (row l).1 = some l := by
  unfold row at *
  split at h
  · rename_i hc
    rw [if_pos hc]
    simp only [readRow]
    rw [if_pos (by simp [le_length]), hd_le _ _ hc.1, List.drop_left' (le_length 2 _)]
    exact readN_body l hc.2
  · simp at h

theorem le_hd (l : List UInt8) (h : 2 ≤ l.length) : le 2 (hd l) = l.take 2 := by
  have := le_un (l.take 2)
  rw [show (l.take 2).length = 2 by simp; omega] at this
  exact this

theorem readN_back (n : Nat) (r : List UInt8) (l : List (List UInt8)) (h : readN n r = some l) : l.length = n ∧ (∀ t ∈ l, t.length ≤ 65535) ∧ body l = r := by
  induction n generalizing r l with
  | zero =>
    simp only [readN] at h
    split at h
    · rename_i hr
      simp at h
      subst h; subst hr
      simp [body]
    · simp at h
  | succ n ih =>
    simp only [readN] at h
    split at h
    · rename_i hz
      obtain ⟨l', hl', rfl⟩ := Option.map_eq_some_iff.1 h
      obtain ⟨h1, h2, h3⟩ := ih _ _ hl'
      unfold read at hz hl' h3 ⊢
      split at hz
      · rename_i hc
        rw [if_pos hc] at h3 ⊢
        have hhd := hd_lt r
        have hlen : ((r.drop 2).take (hd r)).length = hd r := by simp; omega
        refine ⟨by simp [h1], ?_, ?_⟩
        · intro t ht
          rcases List.mem_cons.1 ht with rfl | ht
          · rw [hlen]; omega
          · exact h2 t ht
        · simp only [body]
          rw [hlen, le_hd r hc.1, h3]
          have e : r.drop (2 + hd r) = (r.drop 2).drop (hd r) := by rw [List.drop_drop]
          rw [e, List.take_append_drop, List.take_append_drop]
      · simp at hz
    · simp at h

theorem row_readRow (s : List UInt8) (l : List (List UInt8)) (h : readRow s = some l) : row l = (s, 0) := by
  unfold readRow at h
  split at h
  · rename_i h2
    obtain ⟨h1, h3, h4⟩ := readN_back _ _ _ h
    have hhd := hd_lt s
    unfold row
    rw [if_pos ⟨by omega, h3⟩, h1, h4, le_hd s h2, List.take_append_drop]
  · simp at h

theorem row_inj (a b : List (List UInt8)) (ha : (row a).2 = 0) (hb : (row b).2 = 0) : (row a).1 = (row b).1 ↔ a = b := by
  constructor
  · intro h
    have h1 := readRow_row a ha
    have h2 := readRow_row b hb
    rw [h, h2] at h1
    exact (Option.some.inj h1).symm
  · rintro rfl; rfl

end Go.Proofs.YtalklpnekbfehaaGreat.Oct

/-
  The plain mathematics of package octet, sixth part: what was put short is read, and what is read is put as it stood; texts likewise.
-/
set_option linter.unusedVariables false
namespace Go.Proofs.YtalklpnekbfehaaGreat.Oct

theorem put_cases (v : Nat) (n : Int) : (put v n).2 = 0 ∨ (put v n).2 = 2 := by
  unfold put; split <;> simp

theorem get_cases (l : List UInt8) : (get l).2 = 0 ∨ (get l).2 = 2 := by
  unfold get; split <;> simp

theorem get_bound (l : List UInt8) : (get l).1 < 18446744073709551616 := by
  unfold get; split
  · rename_i h; exact un_small l h.2
  · simp

/-- reading what Short gave, whatever stands behind it -/
theorem rs_shortF (f k a v : Nat) (r : List UInt8) (hf : k + f = 10) (hv : v < 128 ^ f) (h9 : v * 128 ^ k < 18446744073709551616) (h0 : 0 < k → v ≠ 0) (hf1 : 1 ≤ f) :
    rs k a (shortF f v ++ r) = (a + v * 128 ^ k, k + (shortF f v).length, 0) := by
  induction f generalizing k a v with
  | zero => omega
  | succ f ih =>
    rw [shortF_succ]
    by_cases hlt : v < 128
    · rw [if_pos hlt]
      have e : (UInt8.ofNat v).toNat = v := by simp; omega
      simp only [List.cons_append, List.nil_append, rs_cons, e]
      have h91 : ¬ (k = 9 ∧ 1 < v) := by
        rintro ⟨rfl, h1⟩
        have e2 : (128 : Nat) ^ 9 = 9223372036854775808 := by decide
        rw [e2] at h9
        omega
      rw [if_neg h91, if_neg (by omega), if_neg (by intro c; exact h0 c.2 c.1)]
      simp
    · rw [if_neg hlt]
      have e : (UInt8.ofNat (v % 128 + 128)).toNat = v % 128 + 128 := by simp; omega
      simp only [List.cons_append, rs_cons, e]
      have hk : k ≠ 9 := by
        rintro rfl
        have : f = 0 := by omega
        subst this
        simp at hv
        omega
      rw [if_neg (fun c => hk c.1), if_pos (by omega)]
      have hv2 : v / 128 < 128 ^ f := by
        rw [Nat.pow_succ] at hv
        exact Nat.div_lt_of_lt_mul (by omega)
      have h92 : v / 128 * 128 ^ (k + 1) ≤ v * 128 ^ k := by
        rw [Nat.pow_succ, Nat.mul_comm (128 ^ k) 128, ← Nat.mul_assoc]
        exact Nat.mul_le_mul_right _ (Nat.div_mul_le_self v 128)
      rw [ih (k + 1) _ (v / 128) (by omega) hv2 (by omega) (fun _ => by omega) (by omega)]
      have e3 : a + (v % 128 + 128) % 128 * 128 ^ k + v / 128 * 128 ^ (k + 1) = a + v * 128 ^ k := by
        rw [Nat.pow_succ, Nat.mul_comm (128 ^ k) 128, ← Nat.mul_assoc, Nat.add_assoc, ← Nat.add_mul]
        congr 2
        omega
      rw [e3]
      simp only [List.length_cons]
      congr 2
      omega

theorem rs_short (v : Nat) (r : List UInt8) (hv : v < 18446744073709551616) : rs 0 0 (short v ++ r) = (v, (short v).length, 0) := by
  have e64 : (128 : Nat) ^ 10 = 1180591620717411303424 := by decide
  have := rs_shortF 10 0 0 v r rfl (by omega) (by simpa using hv) (fun h => by omega) (by omega)
  simpa [short] using this

/-- short numbers that were read -/
theorem short_rs (l : List UInt8) : ∀ (k v : Nat), Run l k → k ≤ 9 → k ≤ l.length → v = dec (l.take k) → (rs k v (l.drop k)).2.2 = 0 →
    1 ≤ (rs k v (l.drop k)).2.1 ∧ (rs k v (l.drop k)).2.1 ≤ l.length ∧ short (rs k v (l.drop k)).1 = l.take (rs k v (l.drop k)).2.1 ∧ (rs k v (l.drop k)).1 < 18446744073709551616 := by
  intro k v hr h9 hk hv
  generalize hn : l.length - k = n
  induction n generalizing k v with
  | zero =>
    intro h
    rw [List.drop_of_length_le (by omega)] at h
    simp [rs] at h
  | succ n ih =>
    have hlt : k < l.length := by omega
    intro h
    have hat := hr.at hk h9
    rw [← hv] at hat
    by_cases hc : 128 ≤ l[k].toNat
    · by_cases hk9 : k = 9
      · subst hk9
        rw [List.drop_eq_getElem_cons hlt, rs_cons, if_pos ⟨rfl, by omega⟩] at h
        simp at h
      · have e : rs k v (l.drop k) = rs (k + 1) (v + l[k].toNat % 128 * 128 ^ k) (l.drop (k + 1)) := by
          rw [List.drop_eq_getElem_cons hlt, rs_cons, if_neg (fun c => hk9 c.1), if_pos hc]
        rw [e] at h ⊢
        exact ih (k + 1) _ (hr.next hlt hc) (by omega) (by omega) (by rw [dec_take_succ l k hlt, hv, pow7]) (by omega) h
    · have ha := hr.answer hlt h9 (by omega)
      rw [← hat.2.2]  at h ⊢
      rw [ha] at h ⊢
      split at h
      · rename_i hs
        rw [if_pos hs]
        refine ⟨by simp, by simp; omega, hs, Nat.mod_lt _ (by decide)⟩
      · simp at h

theorem short_read (l : List UInt8) (h : (rs 0 0 l).2.2 = 0) : 1 ≤ (rs 0 0 l).2.1 ∧ (rs 0 0 l).2.1 ≤ l.length ∧ short (rs 0 0 l).1 = l.take (rs 0 0 l).2.1 ∧ (rs 0 0 l).1 < 18446744073709551616 := by
  have := short_rs l 0 0 (Run.start l) (by omega) (by omega) (by simp [dec]) (by simpa using h)
  simpa using this

theorem read_text' (t r : List UInt8) (h : (text t).2 = 0) : read ((text t).1 ++ r) = (t, (text t).1.length, 0) := by
  unfold text at *
  split at h
  · rename_i hc
    rw [if_pos hc]
    rw [List.append_assoc, read_text t r hc]
    simp [le_length]
  · simp at h

theorem text_cases (t : List UInt8) : (text t).2 = 0 ∨ ((text t).2 = 5 ∧ 65535 < t.length) := by
  unfold text; split
  · left; rfl
  · right; exact ⟨rfl, by omega⟩

theorem text_length (t : List UInt8) : (text t).1.length ≤ 2 + t.length := by
  unfold text; split <;> simp [le_length]

end Go.Proofs.YtalklpnekbfehaaGreat.Oct

/-
  What Put, Get and the document's answers for them return: numbers as bytes.
-/
set_option linter.unusedVariables false
namespace Go.Proofs.YtalklpnekbfehaaGreat
open Go.RowKit

set_option maxHeartbeats 400000 in
theorem octGet_any (s : ByteArray) (w : World) :
    Calls Tryz.prog 68 #[.string s] w fun e w' => e = .returned (.tuple #[.int .u64 (Oct.get s.data.toList).1, .int .i64 (Oct.get s.data.toList).2]) ∧ w = w' := by
  have hl1 : s.data.toList.length ≤ s.size := Nat.le_of_eq (ba_len s)
  have hl2 : s.size ≤ s.data.toList.length := Nat.le_of_eq (ba_len s).symm
  unfold Oct.get
  rw [ba_len]
  by_cases hc : 1 ≤ s.size ∧ s.size ≤ 8
  · rw [if_pos hc]
    obtain ⟨h0, h8⟩ := hc
    go_enter Tryz.func68, Tryz.ntmps68
    go_wp2
    go_loop [4, 5, 16] (fun a j i => ∃ k : Nat, k ≤ s.size ∧ i = .int .i64 k ∧ a = .int .u64 (Oct.un (s.data.toList.take k))) (fun _ _ i => s.size - (intOf i).toNat)
    case atStart => exact ⟨0, by omega, rfl, by simp [Oct.un]⟩
    case round =>
      obtain ⟨k, hk, rfl, rfl⟩ := hrel
      by_cases hlt : k < s.size
      · have hd := Oct.un_take_succ s.data.toList k (by omega)
        have hql := Oct.un_take_lt s.data.toList k (by omega)
        have hpl := Oct.un_take_lt s.data.toList (k + 1) (by omega)
        have hps : 2 ^ (8 * (k + 1)) ≤ 2 ^ 64 := Nat.pow_le_pow_right (by decide) (by omega)
        rw [ba_get s k (by omega)] at hd
        have hbt : s[k].toNat < 256 := s[k].toNat_lt
        generalize hp : Oct.un (s.data.toList.take (k + 1)) = p at *
        generalize hq : Oct.un (s.data.toList.take k) = q at *
        have hor : bits .or .u64 (q : Int) (IntKind.u64.wrap ((s[k].toNat : Int) * 2 ^ (8 * k))) = (p : Int) := by
          have h2 : s[k].toNat * 2 ^ (8 * k) < 18446744073709551616 := by omega
          have e : ((s[k].toNat : Int) * 2 ^ (8 * k)) = ((s[k].toNat * 2 ^ (8 * k) : Nat) : Int) := by simp
          rw [e, wrap_u64_in _ (by omega) (by omega), or_add q _ _ hql (by omega), hd]
        clear hps hpl hql
        have Hor := Lib.hid hor; clear hor
        have Hp := Lib.hid hp; clear hp
        have Hq := Lib.hid hq; clear hq
        have Hd := Lib.hid hd; clear hd
        go_wp2
        go_round
        case rel => exact ⟨k + 1, by omega, by go_num, by rw [Hor.out, Hp.out]⟩
        case measure => simp [intOf]; omega
      · obtain rfl : k = s.size := by omega
        have he : s.data.toList.take s.size = s.data.toList := List.take_of_length_le (by omega)
        rw [he]
        have He := Lib.hid he; clear he
        go_wp2
        go_ret2
        exact ⟨rfl, rfl⟩
  · rw [if_neg hc]
    by_cases h0 : s.size < 1
    all_goals
      go_enter Tryz.func68, Tryz.ntmps68
      go_wp2
      go_ret2
      exact ⟨rfl, rfl⟩

set_option maxHeartbeats 400000 in
theorem octPut_any (v : Nat) (n : Int) (w : World) (h1 : v < 18446744073709551616) (hn0 : -9223372036854775808 ≤ n) (hn1 : n ≤ 9223372036854775807) :
    Calls Tryz.prog 115 #[.int .u64 v, .int .i64 n] w fun e w' => e = .returned (.tuple #[.string ⟨(Oct.put v n).1.toArray⟩, .int .i64 (Oct.put v n).2]) ∧ Below w.heap.size w w' := by
  by_cases hlo : n < 1
  · have hp : Oct.put v n = ([], 2) := if_neg (by omega)
    rw [hp]
    have Hp := Lib.hid hp; clear hp
    go_enter Tryz.func115, Tryz.ntmps115
    go_wp2
    go_ret2
    exact ⟨rfl, Below.refl _ _⟩
  by_cases hhi : 8 < n
  · have hp : Oct.put v n = ([], 2) := if_neg (by omega)
    rw [hp]
    have Hp := Lib.hid hp; clear hp
    go_enter Tryz.func115, Tryz.ntmps115
    go_wp2
    go_ret2
    exact ⟨rfl, Below.refl _ _⟩
  obtain ⟨m, rfl⟩ := Int.eq_ofNat_of_zero_le (show 0 ≤ n by omega)
  go_enter Tryz.func115, Tryz.ntmps115
  go_wp2
  have hst := ArrB.start w 188 8
  go_loopw [0, 7, 15] (fun a i j wr => ∃ (k : Nat) (bs : List UInt8), k ≤ m ∧ j = .int .i64 k ∧ a = .int .u64 ((v / 256 ^ k : Nat) : Int) ∧ bs.length = 8 ∧ bs.take k = Oct.le k v ∧ ArrB w.heap.size bs wr ∧ Below w.heap.size w wr) (fun _ _ j _ => m - (intOf j).toNat)
  case atStart => exact ⟨0, _, by omega, rfl, by simp, List.length_replicate, rfl, hst, (Below.refl _ _).alloc (Nat.le_refl _) _⟩
  case round =>
    obtain ⟨k, bs, hk, rfl, rfl, hbl, hbt, ha, hb⟩ := hrel
    clear hst
    by_cases hlt : k < m
    · have hcell := ha.cell (k := k) (by omega)
      have hfree := ha.free (k := k) (by omega)
      have hnew := ha.store (k := k) (by omega) (UInt8.ofNat (v / 256 ^ k)) (((v / 256 ^ k : Nat) : Int) % 256) (by simp)
      have hq' : v / 256 ^ (k + 1) = v / 256 ^ k / 256 := by rw [Nat.pow_succ, Nat.div_div_eq_div_mul]
      have hle : Oct.le (k + 1) v = Oct.le k v ++ [UInt8.ofNat (v / 256 ^ k)] := Oct.le_snoc k v
      have htk : (bs.set k (UInt8.ofNat (v / 256 ^ k))).take (k + 1) = Oct.le (k + 1) v := by
        rw [hle, ← hbt, List.take_succ_eq_append_getElem (by simp; omega)]
        simp [List.take_set_of_le]
      have hqs : v / 256 ^ k ≤ v := Nat.div_le_self _ _
      generalize v / 256 ^ k = q at *
      have Hq' := Lib.hid hq'; clear hq'
      have Hle := Lib.hid hle; clear hle
      have Htk := Lib.hid htk; clear htk
      have Hbl := Lib.hid hbl; clear hbl
      have Hbt := Lib.hid hbt; clear hbt
      have Ha := Lib.hid ha; clear ha
      have Hnew := Lib.hid hnew; clear hnew
      go_wp2
      go_roundw
      case rel => exact ⟨k + 1, bs.set k (UInt8.ofNat q), by omega, by go_num, by rw [Hq'.out]; go_num, by rw [List.length_set]; exact Hbl.out, Htk.out, Hnew.out, hb.setCell (Nat.le_refl _) _⟩
      case measure => simp [intOf]; omega
    · obtain rfl : k = m := by omega
      have hcv := ha.conv (P := Tryz.prog) 62 9 5 Tryz.underlying62 Tryz.underlying5 Tryz.underlying9 k 8 (by omega)
      rw [hbt] at hcv
      by_cases hz : v < 256 ^ k
      · have hp : Oct.put v (k : Int) = (Oct.le k v, 0) := if_pos ⟨by omega, by omega, by simpa using hz⟩
        rw [Nat.div_eq_of_lt hz]
        have Hp := Lib.hid hp; clear hp
        have Hbl := Lib.hid hbl; clear hbl
        have Hbt := Lib.hid hbt; clear hbt
        have Ha := Lib.hid ha; clear ha
        go_wp2
        go_ret2
        exact ⟨by rw [Hp.out]; rfl, hb⟩
      · have hp : Oct.put v (k : Int) = ([], 2) := if_neg (by simpa using fun _ _ => hz)
        have hq1 : 1 ≤ v / 256 ^ k := (Nat.one_le_div_iff (Nat.pow_pos (by decide))).2 (Nat.le_of_not_lt hz)
        have hqs : v / 256 ^ k ≤ v := Nat.div_le_self _ _
        generalize v / 256 ^ k = q at *
        have hne : ((q : Int) != 0) = true := by rw [bne_iff_ne]; omega
        have Hp := Lib.hid hp; clear hp
        have Hbl := Lib.hid hbl; clear hbl
        have Hbt := Lib.hid hbt; clear hbt
        have Ha := Lib.hid ha; clear ha
        go_wp2
        go_ret2
        exact ⟨by rw [Hp.out]; rfl, hb⟩

end Go.Proofs.YtalklpnekbfehaaGreat

/-
  What Short, ReadShort and the document's answers for them return.
-/
set_option linter.unusedVariables false
namespace Go.Proofs.YtalklpnekbfehaaGreat
open Go.RowKit

end Go.Proofs.YtalklpnekbfehaaGreat

/-
  What Text, Read and the document's answers for them return.
-/
set_option linter.unusedVariables false
namespace Go.Proofs.YtalklpnekbfehaaGreat
open Go.RowKit

set_option maxHeartbeats 400000 in
theorem head_any (n : Nat) (w : World) (h : n ≤ 65535) :
    Calls Tryz.prog 130 #[.int .i64 n] w fun e w' => e = .returned (.string ⟨(Oct.le 2 n).toArray⟩) ∧ Below w.heap.size w w' := by
  have hcv := conv_two (P := Tryz.prog) 62 9 5 Tryz.underlying62 Tryz.underlying5 Tryz.underlying9 w 195 (UInt8.ofNat n) (UInt8.ofNat (n / 256)) ((n : Int) % 256) ((n : Int) / 256) (by simp) (by simp; omega)
  have hle : (Oct.le 2 n).toArray = #[UInt8.ofNat n, UInt8.ofNat (n / 256)] := by simp [Oct.le]
  have Hle := Lib.hid hle; clear hle
  generalize UInt8.ofNat n = y at *
  generalize UInt8.ofNat (n / 256) = z at *
  go_enter Tryz.func130, Tryz.ntmps130
  go_wp2
  go_ret
  exact ⟨by rw [Hle.out]; rfl, (Below.refl _ _).alloc (Nat.le_refl _) _⟩

set_option maxHeartbeats 400000 in
theorem readHead_any (s : ByteArray) (w : World) (h : 2 ≤ s.size) :
    Calls Tryz.prog 166 #[.string s] w fun e w' => e = .returned (.int .i64 (Oct.hd s.data.toList)) ∧ ∃ n, w' = w.drewN n := by
  have hl : 1 < s.data.toList.length := by rw [ba_len]; omega
  have hh := Oct.hd_get s.data.toList hl
  rw [ba_get s 0 (by omega), ba_get s 1 (by omega)] at hh
  have b0 : s[0].toNat < 256 := s[0].toNat_lt
  have b1 : s[1].toNat < 256 := s[1].toNat_lt
  have e := two_bytes s[0].toNat s[1].toNat b0 b1
  have e1 : wrap64 (s[0].toNat : Int) = (s[0].toNat : Int) := IntWalk.wrap64_in _ ⟨by omega, by omega⟩
  have e2 : wrap64 (s[1].toNat : Int) = (s[1].toNat : Int) := IntWalk.wrap64_in _ ⟨by omega, by omega⟩
  have e3 : wrap64 ((s[1].toNat : Int) * 256) = (s[1].toNat : Int) * 256 := IntWalk.wrap64_in _ ⟨by omega, by omega⟩
  have Hh := Lib.hid hh; clear hh
  have E := Lib.hid e; clear e
  have E1 := Lib.hid e1; clear e1
  have E2 := Lib.hid e2; clear e2
  have E3 := Lib.hid e3; clear e3
  clear b0 b1
  go_enter Tryz.func166, Tryz.ntmps166
  go_wp2
  have h0 : (0 : Int) < (s.size : Int) := by omega
  have h1 : (1 : Int) < (s.size : Int) := by omega
  have h0' : 0 < s.size := by omega
  have h1' : 1 < s.size := by omega
  go_quiet (fail)
  go_wp2
  go_ret
  exact ⟨ret_int (by rw [E1.out, E2.out, E3.out, E.out, Hh.out]), _, rfl⟩

theorem clone_any (s : ByteArray) (w : World) (hm : s.size ≤ 281474976710656) :
    Calls Tryz.prog 38 #[.string s] w fun e w' => e = .returned (.string s) ∧ Below w.heap.size w w' := by
  go_enter Tryz.func38, Tryz.ntmps38
  go_wp2_with (go_at_call 65; refine (Tryz.stringslite_Clone s _ hm).mono ?_; rintro e w' ⟨rfl, hb⟩)
  go_ret
  exact ⟨rfl, hb⟩

set_option maxHeartbeats 400000 in
theorem octRead_any (s : ByteArray) (w : World) (hm : s.size ≤ 281474976710656) :
    Calls Tryz.prog 168 #[.string s] w fun e w' => e = .returned (.tuple #[.string ⟨(Oct.read s.data.toList).1.toArray⟩, .int .i64 (Oct.read s.data.toList).2.1, .int .i64 (Oct.read s.data.toList).2.2]) ∧ Below w.heap.size w w' := by
  by_cases h2 : 2 ≤ s.size
  · have hh := Oct.hd_lt s.data.toList
    have hrh := fun u => readHead_any s u h2
    by_cases hn : 2 + Oct.hd s.data.toList ≤ s.size
    · have hp : Oct.read s.data.toList = ((s.data.toList.drop 2).take (Oct.hd s.data.toList), 2 + Oct.hd s.data.toList, 0) := by
        unfold Oct.read; rw [ba_len, if_pos ⟨h2, hn⟩]
      have hex : s.extract 2 (2 + Oct.hd s.data.toList) = ⟨((s.data.toList.drop 2).take (Oct.hd s.data.toList)).toArray⟩ := by
        rw [Lib.extract_eq]; simp
      generalize Oct.hd s.data.toList = n at *
      have Hrh := Lib.hid hrh; clear hrh
      have Hp := Lib.hid hp; clear hp
      have Hex := Lib.hid hex; clear hex
      have hxs : (s.extract 2 (2 + n)).size ≤ 281474976710656 := by rw [ByteArray.size_extract]; omega
      have hsl : ∀ u : World, (Instr.slice 9 (.string s) (some (.int .i64 2)) (some (.int .i64 (2 + (n : Int)))) none).run Tryz.prog u = .ok (.string (s.extract 2 (2 + n))) u := fun u => by
        rw [run_slice_string (P := Tryz.prog) u 9 s .i64 .i64 2 (2 + (n : Int)) Tryz.underlying9 (by omega) (by omega) (by omega)]
        rw [show (2 + (n : Int)).toNat = 2 + n by omega]; rfl
      go_enter Tryz.func168, Tryz.ntmps168
      go_wp2_with (first | (go_at_call 166; refine (Hrh.out _).mono ?_; rintro e w' ⟨rfl, q, rfl⟩) | (go_at_call 38; refine (clone_any (s.extract 2 (2 + n)) _ hxs).mono ?_; rintro e w' ⟨rfl, hb⟩))
      go_ret3
      exact ⟨by rw [Hp.out, ← Hex.out]; go_num, (Below.refl _ w).trans (below_drewN_left hb)⟩
    · have hp : Oct.read s.data.toList = ([], 0, 6) := by unfold Oct.read; rw [ba_len, if_neg (by omega)]
      generalize Oct.hd s.data.toList = n at *
      have Hrh := Lib.hid hrh; clear hrh
      have Hp := Lib.hid hp; clear hp
      go_enter Tryz.func168, Tryz.ntmps168
      go_wp2_with (go_at_call 166; refine (Hrh.out _).mono ?_; rintro e w' ⟨rfl, q, rfl⟩)
      go_ret3
      exact ⟨by rw [Hp.out]; rfl, below_drewN_left (Below.refl _ _)⟩
  · have hp : Oct.read s.data.toList = ([], 0, 6) := by unfold Oct.read; rw [ba_len, if_neg (by omega)]
    have Hp := Lib.hid hp; clear hp
    go_enter Tryz.func168, Tryz.ntmps168
    go_wp2
    go_ret3
    exact ⟨by rw [Hp.out]; rfl, Below.refl _ _⟩

end Go.Proofs.YtalklpnekbfehaaGreat

/-
  The library's contract for (*strings.Builder).WriteString laid over this program: the kit's command leaves it out here, since a type that it asks for stands in no body.
-/
namespace Go.Proofs
open Go.Shelf Go.RowKit
def Tryz.renW : Go.Shelf.Ren := ⟨fun | 166 => 129 | 240 => 138 | 276 => 160 | n => n, fun | 0 => 0 | 3 => 3 | 4 => 4 | 5 => 5 | 9 => 9 | 20 => 20 | 37 => 62 | 70 => 153 | 72 => 155 | 75 => 159 | 80 => 125 | 164 => 205 | n => n, fun | n => n⟩
theorem Tryz.laysW : Go.Proofs.Lays.n166 Tryz.prog Tryz.renW := {
  mixed := by kernel_rfl
  f166 := Tryz.func129.trans (congrArg some (by kernel_rfl))
  f240 := Tryz.func138.trans (congrArg some (by kernel_rfl))
  f276 := Tryz.func160.trans (congrArg some (by kernel_rfl))
  t0 := Tryz.underlying0
  a0 := Tryz.isAgg0
  z0 := Tryz.sizeOf0
  v0 := Tryz.zeroValue0
  t3 := Tryz.underlying3
  a3 := Tryz.isAgg3
  z3 := Tryz.sizeOf3
  v3 := Tryz.zeroValue3
  t4 := Tryz.underlying4
  a4 := Tryz.isAgg4
  z4 := Tryz.sizeOf4
  v4 := Tryz.zeroValue4
  t9 := Tryz.underlying9
  a9 := Tryz.isAgg9
  z9 := Tryz.sizeOf9
  v9 := Tryz.zeroValue9
  t20 := Tryz.underlying20
  a20 := Tryz.isAgg20
  z20 := Tryz.sizeOf20
  v20 := Tryz.zeroValue20
  t37 := Tryz.underlying62
  a37 := Tryz.isAgg62
  z37 := Tryz.sizeOf62
  v37 := Tryz.zeroValue62
  t70 := Tryz.underlying153
  a70 := Tryz.isAgg153
  z70 := Tryz.sizeOf153
  v70 := Tryz.zeroValue153
  t72 := Tryz.underlying155
  a72 := Tryz.isAgg155
  z72 := Tryz.sizeOf155
  v72 := Tryz.zeroValue155
  t75 := Tryz.underlying159
  a75 := Tryz.isAgg159
  z75 := Tryz.sizeOf159
  v75 := Tryz.zeroValue159
  t164 := Tryz.underlying205
  a164 := Tryz.isAgg205
  z164 := Tryz.sizeOf205
  v164 := Tryz.zeroValue205 }
theorem Tryz.extraW : Builder.Extra Tryz.prog Tryz.renW := {
  sizeBuilder := by kernel_rfl
  liesBuilder := by kernel_rfl
  t5 := Tryz.underlying5
  a5 := Tryz.isAgg5
  z5 := Tryz.sizeOf5
  v5 := Tryz.zeroValue5
  infoByte := by kernel_rfl
  cellsByte := by kernel_rfl
  sizeByte := by kernel_rfl
  neB5 := by decide }
/-- WriteString -/
theorem Tryz.writeString (B b : Nat) (bs : List Value) (s : ByteArray) (w : World) (h : Lib.IsBuilder 155 5 B b bs w) (hlen : bs.length + s.size ≤ 140737488355328) (hBw : B ≤ w.heap.size) :
    Calls Tryz.prog 129 #[.pointer (some ⟨b, 0, none⟩), .string s] w fun e w' => e = .returned (.tuple #[.int .i64 s.size, .nilIface]) ∧ (Lib.BuilderAt 155 5 B b (.pointer (some ⟨b, 0, none⟩)) (bs ++ Lib.strCells s) w' ∧ Below B w w') :=
  Any.Builder_WriteString Tryz.laysW Tryz.extraW B b bs s w h hlen hBw
end Go.Proofs

/-
  What Row and the document's answer for it return.
-/
set_option linter.unusedVariables false
namespace Go.Proofs.YtalklpnekbfehaaGreat
open Go.RowKit

theorem row_long (l : List (List UInt8)) (h : ¬ l.length ≤ 65535) : Oct.row l = ([], 5) := if_neg (fun c => h c.1)
theorem row_over (l : List (List UInt8)) (k : Nat) (hk : k < l.length) (h : ¬ l[k].length ≤ 65535) : Oct.row l = ([], 5) := if_neg (fun c => h (c.2 _ (List.getElem_mem hk)))
theorem row_fits (l : List (List UInt8)) (h : l.length ≤ 65535) (h2 : ∀ j (hj : j < l.length), l[j].length ≤ 65535) : Oct.row l = (Oct.le 2 l.length ++ Oct.body l, 0) :=
  if_pos ⟨h, fun t ht => by obtain ⟨j, hj, rfl⟩ := List.getElem_of_mem ht; exact h2 j hj⟩

/-- the first k texts fit -/
def Fit (L : List (List UInt8)) (k : Nat) : Prop := ∀ j (h : j < L.length), j < k → L[j].length ≤ 65535

theorem Fit.next {L : List (List UInt8)} {k : Nat} (h : Fit L k) (hk : k < L.length) (hc : L[k].length ≤ 65535) : Fit L (k + 1) := by
  intro j hj hjk
  by_cases e : j = k
  · subst e; exact hc
  · exact h j hj (by omega)

theorem Fit.body {L : List (List UInt8)} {k : Nat} (h : Fit L k) (hk : k ≤ 65535) : (Oct.body (L.take k)).length ≤ 4295032832 := by
  have h1 := Oct.body_length (L.take k) (fun t ht => by
    obtain ⟨j, hj, rfl⟩ := List.getElem_of_mem ht
    rw [List.getElem_take]
    have : j < min k L.length := by simpa using hj
    exact h j (by omega) (by omega))
  have h2 : (L.take k).length ≤ k := List.length_take_le _ _
  omega

end Go.Proofs.YtalklpnekbfehaaGreat

/-
  What Row returns.
-/
set_option linter.unusedVariables false
namespace Go.Proofs.YtalklpnekbfehaaGreat
open Go.RowKit

/-- the builder in block B holds these bytes -/
def Holds (B : Nat) (bs : List UInt8) (w : World) : Prop := Lib.IsBuilder 155 5 B B (Lib.byteCells bs) w

theorem grown_none {w w' : World} (h : Below w.heap.size w w') : w.grownBy w' none := ⟨h.os, h.tape, h.output, h.size, fun k hk _ => h.block k hk⟩

theorem builderAt_keep {T e : TypeId} {B b : Nat} {p : Value} {bs : List Value} {w w' : World} (h : Lib.BuilderAt T e B b p bs w) (hb : Below w.heap.size w w') : Lib.BuilderAt T e B b p bs w' := by
  have hlt := h.lt
  obtain ⟨h1, v, h2, h3, h4⟩ := h
  refine ⟨h1, v, by rw [hb.block b hlt]; exact h2, h3.kept (grown_none hb) ?_, h4⟩
  by_cases e : v.ownBlock = none
  · exact .inl e
  · exact .inr e

theorem Holds.keep {B : Nat} {bs : List UInt8} {w w' : World} (h : Holds B bs w) (hb : Below w.heap.size w w') : Holds B bs w' := by
  rcases h with h | h
  · exact .inl (builderAt_keep h hb)
  · exact .inr (builderAt_keep h hb)

theorem write_any (B : Nat) (bs : List UInt8) (s : ByteArray) (w : World) (h : Holds B bs w) (hlen : bs.length + s.size ≤ 140737488355328) (hB : B ≤ w.heap.size) :
    Calls Tryz.prog 129 #[.pointer (some ⟨B, 0, none⟩), .string s] w fun e w' => e = .returned (.tuple #[.int .i64 s.size, .nilIface]) ∧ Holds B (bs ++ s.data.toList) w' ∧ Below B w w' := by
  refine (Tryz.writeString B B (Lib.byteCells bs) s w h (by rw [Lib.byteCells_length]; exact hlen) hB).mono ?_
  rintro e w' ⟨he, h1, h2⟩
  refine ⟨he, .inr ?_, h2⟩
  rw [Lib.byteCells_append, ← Lib.strCells_eq]
  exact h1

theorem grow_any (B n : Nat) (w : World) (hbk : w.heap[B]? = some (.cells #[.pointer none, .slice none 0 0] 155 (0, 0))) (hBw : B ≤ w.heap.size) (hn : n ≤ 281474976710656) :
    Calls Tryz.prog 110 #[.pointer (some ⟨B, 0, none⟩), .int .i64 n] w fun e w' => e = .returned (.tuple #[]) ∧ Holds B [] w' ∧ Below B w w' := by
  refine (Tryz.Builder_Grow_fresh B B n w (Nat.le_refl _) hbk hBw hn).mono ?_
  rintro e w' ⟨he, h1, h2⟩
  exact ⟨he, .inr h1, h2⟩

theorem string_any (B : Nat) (bs : List UInt8) (w : World) (h : Holds B bs w) (hB : B ≤ w.heap.size) :
    Calls Tryz.prog 113 #[.pointer (some ⟨B, 0, none⟩)] w fun e w' => e = .returned (.string ⟨bs.toArray⟩) ∧ Below B w w' :=
  Tryz.Builder_String_any B B bs w h hB

set_option maxHeartbeats 400000 in
theorem octRow_any (a : Option Addr) (len cap : Nat) (l : List ByteArray) (w : World) (hs : Strs a len l w) (hm : len ≤ 140737488355328) (hz : ∀ j, (l.getD j .empty).size ≤ 9223372036854700000) :
    Calls Tryz.prog 85 #[.slice a len cap] w fun e w' => e = .returned (.tuple #[.string ⟨(Oct.row (lists l)).1.toArray⟩, .int .i64 (Oct.row (lists l)).2]) ∧ Below w.heap.size w w' := by
  have hll : (lists l).length = len := by rw [lists_length]; exact hs.1
  by_cases hlen : len ≤ 65535
  · have hle : (Oct.le 2 len).length ≤ 2 := Nat.le_of_eq (Oct.le_length _ _)
    have hl0 : (lists l).length ≤ len := Nat.le_of_eq hll
    have hl1 : len ≤ (lists l).length := Nat.le_of_eq hll.symm
    have Hll := Lib.hid hll; clear hll
    have Hs := Lib.hid hs; clear hs
    have Hz := Lib.hid hz; clear hz
    go_enter Tryz.func85, Tryz.ntmps85
    go_wp2
    go_loop [4, 15] (fun s i => ∃ k : Nat, k ≤ len ∧ i = .int .i64 k ∧ s = .int .i64 ((2 + (Oct.body ((lists l).take k)).length : Nat) : Int) ∧ Fit (lists l) k) (fun _ i => len - (intOf i).toNat)
    case atStart => exact ⟨0, by omega, rfl, by simp [Oct.body], fun j h hj => by omega⟩
    case round =>
      obtain ⟨k, hk, rfl, rfl, hf⟩ := hrel
      have hfb := hf.body (by omega)
      by_cases hlt : k < len
      · obtain ⟨b, off, rfl, hc⟩ := Hs.out.2 k hlt
        have hg := lists_get l k (by rw [← lists_length]; omega) (by omega)
        have hbs := Oct.body_take_succ (lists l) k (by omega)
        have hover := row_over (lists l) k (by omega)
        have hnext := hf.next (show k < (lists l).length by omega)
        rw [hg, ba_len] at hover hnext
        rw [hg, ba_len] at hbs
        have hzk := Hz.out k
        generalize l.getD k .empty = x at *
        by_cases h6 : x.size ≤ 65535
        · have hn := hnext h6
          have hl2 : (Oct.body ((lists l).take (k + 1))).length = (Oct.body ((lists l).take k)).length + (2 + x.size) := by
            rw [hbs, List.length_append, List.length_append, Oct.le_length, ba_len]
          generalize (Oct.body ((lists l).take k)).length = q at *
          have Hl2 := Lib.hid hl2; clear hl2
          have Hf := Lib.hid hf; clear hf
          have Hn := Lib.hid hn; clear hn
          have Hg := Lib.hid hg; clear hg
          clear hbs hover hnext
          go_wp2
          go_round
          case rel => exact ⟨k + 1, by omega, by go_num, by rw [Hl2.out]; go_num, Hn.out⟩
          case measure => simp [intOf]; omega
        · have hr := hover h6
          have Hf := Lib.hid hf; clear hf
          have Hr := Lib.hid hr; clear hr
          have Hg := Lib.hid hg; clear hg
          clear hbs hover hnext
          go_wp2
          go_ret2
          exact ⟨by rw [Hr.out]; rfl, Below.refl _ _⟩
      · obtain rfl : k = len := by omega
        have hr := row_fits (lists l) (by omega) (fun j hj => hf j hj (by omega))
        have he : (lists l).take k = lists l := List.take_of_length_le hl0
        have hszb : 2 + (Oct.body ((lists l).take k)).length ≤ 281474976710656 := by omega
        generalize hq : (Oct.body ((lists l).take k)).length = q at *
        rw [Hll.out] at hr
        have Hr := Lib.hid hr; clear hr
        have He := Lib.hid he; clear he
        have Hf := Lib.hid hf; clear hf
        have Hq := Lib.hid hq; clear hq
        have hbk : (w.alloc (.cells #[.pointer none, .slice none 0 0] 155)).heap[w.heap.size]? = some (.cells #[.pointer none, .slice none 0 0] 155 (0, 0)) := by
          show (w.heap.push _)[w.heap.size]? = _
          simp
        have Hbk := Lib.hid hbk; clear hbk
        have hB0 : Below w.heap.size w (w.alloc (.cells #[.pointer none, .slice none 0 0] 155)) := (Below.refl _ _).alloc (Nat.le_refl _) _
        have HB0 := Lib.hid hB0; clear hB0
        have hgw : ∀ u, u = w.alloc (.cells #[.pointer none, .slice none 0 0] 155) → Calls Tryz.prog 110 #[.pointer (some ⟨w.heap.size, 0, none⟩), .int .i64 (2 + (q : Int))] u fun e w' => e = .returned (.tuple #[]) ∧ Holds w.heap.size [] w' ∧ Below w.heap.size u w' := by
          rintro u rfl
          have := grow_any w.heap.size (2 + q) _ Hbk.out (Below.size HB0.out) hszb
          rwa [show ((2 + q : Nat) : Int) = 2 + (q : Int) by omega] at this
        have Hgw := Lib.hid hgw; clear hgw
        go_wp2_with fail
        refine (Hgw.out _ rfl).mono ?_
        rintro e w1 ⟨rfl, h1, hb1⟩
        have hb1' := HB0.out.trans hb1
        have H1 := Lib.hid h1; clear h1
        go_wp2_with (go_at_call 130; refine (head_any k _ (by omega)).mono ?_; rintro e w2 ⟨rfl, hb2⟩)
        have h2 := H1.out.keep hb2
        have hb2' := hb1'.trans (hb2.mono (Below.size hb1'))
        have H2 := Lib.hid h2; clear h2 H1
        have hsz : (⟨(Oct.le 2 k).toArray⟩ : ByteArray).size ≤ 2 := by rw [Lib.size_eq]; simpa using hle
        go_wp2_with fail
        refine (write_any w.heap.size [] ⟨(Oct.le 2 k).toArray⟩ _ H2.out (by simp only [List.length_nil]; omega) (Below.size hb2')).mono ?_
        rintro e w3 ⟨rfl, h3, hb3⟩
        have hb3' := hb2'.trans hb3
        rw [List.nil_append] at h3
        have H3 := Lib.hid h3; clear h3 H2
        clear hb1 hb2 hb3 hb1' hb2' HB0 Hbk Hgw
        go_wp2_with fail
        go_loopw [36] (fun i wr => ∃ m : Nat, m ≤ k ∧ i = .int .i64 m ∧ Holds w.heap.size (Oct.le 2 k ++ Oct.body ((lists l).take m)) wr ∧ Below w.heap.size w wr) (fun i _ => k - (intOf i).toNat)
        case atStart => exact ⟨0, by omega, rfl, by simpa [Oct.body] using H3.out, hb3'⟩
        case round =>
          obtain ⟨m, hmk, rfl, hh, hb⟩ := hrel
          clear hb3' H3
          by_cases hmlt : m < k
          · obtain ⟨b, off, rfl, hc⟩ := (Hs.out.keep hb).2 m hmlt
            have hg := lists_get l m (by rw [← lists_length]; omega) (by omega)
            have hbs := Oct.body_take_succ (lists l) m (by omega)
            have h6 := Hf.out m (by omega) (by omega)
            rw [hg, ba_len] at hbs h6
            have hfm : Fit (lists l) m := fun j hj hjm => Hf.out j hj (by omega)
            have hfb2 := hfm.body (by omega)
            generalize l.getD m .empty = x at *
            have hA : (Oct.le 2 k ++ Oct.body ((lists l).take m)).length ≤ 4295032840 := by rw [List.length_append]; omega
            have hrel2 : Oct.le 2 k ++ Oct.body ((lists l).take (m + 1)) = (Oct.le 2 k ++ Oct.body ((lists l).take m)) ++ Oct.le 2 x.size ++ x.data.toList := by rw [hbs]; simp
            generalize Oct.le 2 k ++ Oct.body ((lists l).take m) = A at *
            have hxl : (Oct.le 2 x.size).length ≤ 2 := Nat.le_of_eq (Oct.le_length _ _)
            have hxs : (⟨(Oct.le 2 x.size).toArray⟩ : ByteArray).size ≤ 2 := by rw [Lib.size_eq]; simpa using hxl
            have Hrel2 := Lib.hid hrel2; clear hrel2
            have Hh := Lib.hid hh; clear hh
            have Hg := Lib.hid hg; clear hg
            clear hbs hfm hfb2
            go_wp2_with (go_at_call 130; refine (head_any x.size _ h6).mono ?_; rintro e w4 ⟨rfl, hb4⟩)
            have h4 := Hh.out.keep hb4
            have hb4' := hb.trans (hb4.mono (Below.size hb))
            have H4 := Lib.hid h4; clear h4 Hh
            go_wp2_with fail
            refine (write_any w.heap.size A ⟨(Oct.le 2 x.size).toArray⟩ _ H4.out (by omega) (Below.size hb4')).mono ?_
            rintro e w5 ⟨rfl, h5, hb5⟩
            have hb5' := hb4'.trans hb5
            have H5 := Lib.hid h5; clear h5 H4
            go_wp2_with fail
            refine (write_any w.heap.size (A ++ Oct.le 2 x.size) x _ H5.out (by rw [List.length_append]; omega) (Below.size hb5')).mono ?_
            rintro e w6 ⟨rfl, h7, hb6⟩
            have hb6' := hb5'.trans hb6
            have H7 := Lib.hid h7; clear h7 H5
            clear hb4 hb5 hb6 hb4' hb5'
            go_wp2_with fail
            go_roundw
            case rel => exact ⟨m + 1, by omega, by go_num, by rw [Hrel2.out]; exact H7.out, hb6'⟩
            case measure => simp [intOf]; omega
          · obtain rfl : m = k := by omega
            have hh2 := hh
            rw [He.out] at hh2
            have Hh := Lib.hid hh; clear hh
            have Hh2 := Lib.hid hh2; clear hh2
            go_wp2_with fail
            refine (string_any w.heap.size _ _ Hh2.out (Below.size hb)).mono ?_
            rintro e w7 ⟨rfl, hb7⟩
            go_wp2_with fail
            go_ret2
            exact ⟨by rw [Hr.out]; rfl, hb.trans hb7⟩
  · have hr := row_long (lists l) (by omega)
    have Hr := Lib.hid hr; clear hr
    have Hll := Lib.hid hll; clear hll
    have Hs := Lib.hid hs; clear hs
    have Hz := Lib.hid hz; clear hz
    go_enter Tryz.func85, Tryz.ntmps85
    go_wp2
    go_ret2
    exact ⟨by rw [Hr.out]; rfl, Below.refl _ _⟩

end Go.Proofs.YtalklpnekbfehaaGreat

/-
  What ReadRow and the document's answer for it return.
-/
set_option linter.unusedVariables false
set_option maxRecDepth 100000
namespace Go.Proofs.YtalklpnekbfehaaGreat
open Go.RowKit

theorem infoStr : (Tryz.prog.info? 9).map (fun i => (i.zero, i.size, i.bytes)) = some (some (.string ⟨#[]⟩), 1, 16) := by kernel_rfl

/-- a slice of the call's own that holds these texts -/
def Own (B : Nat) (v : Value) (l : List ByteArray) (w : World) : Prop := w.ownsRow B 9 1 v l.length (l.map Value.string)

theorem Own.strs {B : Nat} {v : Value} {l : List ByteArray} {w : World} (h : Own B v l w) : ∃ a cap, v = .slice a l.length cap ∧ Strs a l.length l w ∧ (l = [] → v = .slice none 0 0 ∨ ∃ a cap, v = .slice a 0 cap) := by
  obtain ⟨_, h | ⟨g, cap, cur, hv, hg, hb, hn, hc, hs, ht⟩⟩ := h
  · obtain ⟨hv, h0⟩ := h
    refine ⟨none, 0, by rw [hv, h0], ⟨rfl, fun j hj => by omega⟩, fun _ => .inl hv⟩
  · refine ⟨some ⟨g, 0, none⟩, cap, hv, ⟨rfl, fun j hj => ⟨g, 0, rfl, ?_⟩⟩, fun e => .inr ⟨some ⟨g, 0, none⟩, cap, by rw [hv, e]; rfl⟩⟩
    rw [Lib.cell_of_heap hb]
    have e1 : (cur.toList.take (l.length * 1))[j]? = cur[0 + j]? := by
      rw [List.getElem?_take_of_lt (by omega), Nat.zero_add]; simp
    rw [← e1, ht]
    simp [List.getD_eq_getElem?_getD, hj]

/-- how far the reading of a row has come -/
def RowAt (cnt : Nat) (r0 : List UInt8) (k : Nat) (acc : List (List UInt8)) (rest : List UInt8) : Prop :=
  k ≤ cnt ∧ Oct.readN cnt r0 = (Oct.readN (cnt - k) rest).map (acc ++ ·)

theorem RowAt.start (cnt : Nat) (r0 : List UInt8) : RowAt cnt r0 0 [] r0 := ⟨by omega, by simp⟩

theorem RowAt.next {cnt k : Nat} {r0 rest : List UInt8} {acc : List (List UInt8)} (h : RowAt cnt r0 k acc rest) (hk : k < cnt) (hz : (Oct.read rest).2.2 = 0) :
    RowAt cnt r0 (k + 1) (acc ++ [(Oct.read rest).1]) (rest.drop (Oct.read rest).2.1) := by
  refine ⟨by omega, ?_⟩
  rw [h.2, show cnt - k = (cnt - (k + 1)) + 1 by omega, Oct.readN, if_pos hz, Option.map_map]
  congr 1
  funext x
  simp

theorem RowAt.fail {cnt k : Nat} {r0 rest : List UInt8} {acc : List (List UInt8)} (h : RowAt cnt r0 k acc rest) (hk : k < cnt) (hz : (Oct.read rest).2.2 ≠ 0) : Oct.readN cnt r0 = none := by
  rw [h.2, show cnt - k = (cnt - (k + 1)) + 1 by omega, Oct.readN, if_neg hz]; rfl

theorem RowAt.done {cnt : Nat} {r0 : List UInt8} {acc : List (List UInt8)} (h : RowAt cnt r0 cnt acc []) : Oct.readN cnt r0 = some acc := by
  rw [h.2, Nat.sub_self, Oct.readN, if_pos rfl]; simp

theorem RowAt.more {cnt : Nat} {r0 rest : List UInt8} {acc : List (List UInt8)} (h : RowAt cnt r0 cnt acc rest) (hr : rest ≠ []) : Oct.readN cnt r0 = none := by
  rw [h.2, Nat.sub_self, Oct.readN, if_neg hr]; rfl

/-- what ReadRow hands back -/
def Got (r : Option (List (List UInt8))) (w : World) (e : Ending) (w' : World) : Prop :=
  Below w.heap.size w w' ∧
  ((r = none ∧ e = .returned (.tuple #[.slice none 0 0, .int .i64 7])) ∨
   ∃ (l : List ByteArray) (a : Option Addr) (cap : Nat), r = some (lists l) ∧ e = .returned (.tuple #[.slice a l.length cap, .int .i64 0]) ∧ Strs a l.length l w')
/-- the same, and the row is new -/
def GotN (r : Option (List (List UInt8))) (w : World) (e : Ending) (w' : World) : Prop :=
  Below w.heap.size w w' ∧
  ((r = none ∧ e = .returned (.tuple #[.slice none 0 0, .int .i64 7])) ∨
   ∃ (l : List ByteArray) (v : Value), r = some (lists l) ∧ e = .returned (.tuple #[v, .int .i64 0]) ∧ Own w.heap.size v l w')
theorem GotN.got {r : Option (List (List UInt8))} {w : World} {e : Ending} {w' : World} (h : GotN r w e w') : Got r w e w' := by
  obtain ⟨h1, h2 | ⟨l, v, h2, h3, h4⟩⟩ := h
  · exact ⟨h1, .inl h2⟩
  · obtain ⟨a, cap, hv, hst, _⟩ := h4.strs
    exact ⟨h1, .inr ⟨l, a, cap, h2, by rw [h3, hv], hst⟩⟩

theorem read_cases (l : List UInt8) : (Oct.read l).2.2 = 0 ∨ (Oct.read l).2.2 = 6 := by
  unfold Oct.read; split <;> simp

theorem read_le (l : List UInt8) : (Oct.read l).2.1 ≤ l.length := by
  unfold Oct.read; split
  · rename_i h; exact h.2
  · simp

end Go.Proofs.YtalklpnekbfehaaGreat

/-
  What ReadRow returns.
-/
set_option linter.unusedVariables false
set_option maxRecDepth 100000
namespace Go.Proofs.YtalklpnekbfehaaGreat
open Go.RowKit

/-- block b is one variable that holds the text r -/
def Var (b : Nat) (r : List UInt8) (w : World) : Prop := w.heap[b]? = some (.cells #[.string ⟨r.toArray⟩] 9 (0, 0))

theorem Var.cell {b : Nat} {r : List UInt8} {w : World} (h : Var b r w) : w.cell? ⟨b, 0, none⟩ = some (.string ⟨r.toArray⟩) := by rw [Lib.cell_of_heap h]; rfl
theorem Var.free {b : Nat} {r : List UInt8} {w : World} (h : Var b r w) : w.frozen? ⟨b, 0, none⟩ = false := Lib.frozen_of_heap h 0
theorem Var.lt {b : Nat} {r : List UInt8} {w : World} (h : Var b r w) : b < w.heap.size := cell_lt h.cell
theorem Var.set {b : Nat} {r : List UInt8} {w : World} (h : Var b r w) (q : List UInt8) : Var b q (w.setCell ⟨b, 0, none⟩ (.string ⟨q.toArray⟩)) := by
  unfold Var at *
  simp [World.setCell, Array.getElem?_modify, h]
theorem Var.keep {b : Nat} {r : List UInt8} {w w' : World} (h : Var b r w) (hb : Below w.heap.size w w') : Var b r w' := by
  unfold Var at *
  rw [hb.block b (Var.lt h)]
  exact h

set_option maxHeartbeats 400000 in
theorem next_any (b : Nat) (rest : List UInt8) (w : World) (hv : Var b rest w) (hrl : rest.length ≤ 281474976710656) :
    Calls Tryz.prog 167 #[.pointer (some ⟨b, 0, none⟩)] w fun e w' => e = .returned (.tuple #[.string ⟨(Oct.read rest).1.toArray⟩, .int .i64 (Oct.read rest).2.2]) ∧
      ∃ w1, Below w.heap.size w w1 ∧ w' = w1.setCell ⟨b, 0, none⟩ (.string ⟨(rest.drop (Oct.read rest).2.1).toArray⟩) := by
  have crd := fun u => octRead_any ⟨rest.toArray⟩ u (by rw [Lib.size_eq]; exact hrl)
  simp only [] at crd
  have hle := read_le rest
  have hsd : ∀ u : World, (Instr.slice 9 (.string ⟨rest.toArray⟩) (some (.int .i64 (Oct.read rest).2.1)) none none).run Tryz.prog u = .ok (.string ⟨(rest.drop (Oct.read rest).2.1).toArray⟩) u := fun u => by
    rw [run_slice_string_from_if (P := Tryz.prog) u 9 _ .i64 _ Tryz.underlying9, if_pos ⟨by omega, by rw [Lib.size_eq]; simp only []; omega⟩, Lib.extract_eq]
    rw [Int.toNat_natCast, Lib.size_eq]
    simp only []
    rw [List.take_of_length_le (by rw [List.length_drop]; omega)]
  generalize (Oct.read rest).1 = t at *
  generalize (Oct.read rest).2.2 = er at *
  generalize (Oct.read rest).2.1 = m at *
  generalize rest.drop m = rest2 at *
  have Crd := Lib.hid crd; clear crd
  have h1 := hv.cell
  have Hv := Lib.hid hv; clear hv
  go_enter Tryz.func167, Tryz.ntmps167
  go_wp2_with fail
  refine (Crd.out _).mono ?_; rintro e w1 ⟨rfl, hb⟩
  have hv1 := Hv.out.keep hb
  have h2 := hv1.cell
  have h3 := hv1.free
  have Hv1 := Lib.hid hv1; clear hv1
  go_wp2_with fail
  go_ret2
  exact ⟨rfl, w1, hb, rfl⟩

theorem below_new {w : World} (u : World) (o : Obj) (v : Value) (n m : Nat) (hu : u = ((w.drewN n).alloc o).drewN m) : Below w.heap.size w (u.setCell ⟨w.heap.size, 0, none⟩ v) := by
  subst hu
  have h0 : Below w.heap.size w (w.drewN n) := ⟨rfl, rfl, rfl, Nat.le_refl _, fun _ _ => rfl⟩
  have h1 := h0.alloc (Nat.le_refl _) o
  have h2 : Below w.heap.size w (((w.drewN n).alloc o).drewN m) := ⟨h1.os, h1.tape, h1.output, h1.size, h1.block⟩
  exact h2.setCell (p := ⟨w.heap.size, 0, none⟩) (Nat.le_refl _) v

set_option maxHeartbeats 1000000 in
theorem octReadRow_new (s : ByteArray) (w : World) (hm : s.size ≤ 281474976710656) :
    Calls Tryz.prog 145 #[.string s] w (GotN (Oct.readRow s.data.toList) w) := by
  obtain ⟨i0, hi, hz0, hz1, hz2⟩ := info_parts infoStr
  by_cases h2 : 2 ≤ s.size
  · have hh := Oct.hd_lt s.data.toList
    have hrow : Oct.readRow s.data.toList = Oct.readN (Oct.hd s.data.toList) (s.data.toList.drop 2) := by unfold Oct.readRow; rw [ba_len, if_pos h2]
    have hrh := fun u => readHead_any s u h2
    have hs2 : ∀ u : World, (Instr.slice 9 (.string s) (some (.int .i64 2)) none none).run Tryz.prog u = .ok (.string ⟨(s.data.toList.drop 2).toArray⟩) u := fun u => by
      rw [run_slice_string_from_if (P := Tryz.prog) u 9 s .i64 2 Tryz.underlying9, if_pos ⟨by omega, by omega⟩, Lib.extract_eq]
      have : (s.data.toList.drop 2).take (s.size - 2) = s.data.toList.drop 2 := List.take_of_length_le (by rw [List.length_drop, ba_len]; omega)
      rw [show (2 : Int).toNat = 2 from rfl, this]
    have hr0 : (s.data.toList.drop 2).length ≤ 281474976710656 := by rw [List.length_drop, ba_len]; omega
    generalize Oct.hd s.data.toList = cnt at *
    generalize s.data.toList.drop 2 = r0 at *
    rw [hrow]
    have Hrow := Lib.hid hrow; clear hrow
    have Hrh := Lib.hid hrh; clear hrh
    go_enter Tryz.func145, Tryz.ntmps145
    go_upto_region 3 with fail
    go_cut [4, 5] (fun c p wx => c = .int .i64 cnt ∧ ∃ b, p = .pointer (some ⟨b, 0, none⟩) ∧ w.heap.size ≤ b ∧ Var b r0 wx ∧ Below w.heap.size w wx)
    case first =>
      have hc1 : ∀ q, ((w.drew.drewN q).alloc (.cells #[.string ⟨#[]⟩] 9)).cell? ⟨w.heap.size, 0, none⟩ = some (.string ⟨#[]⟩) := fun q => World.cell?_alloc_new (w.drew.drewN q) _ _ 0
      have hc2 : ∀ q, ((w.drew.drewN q).alloc (.cells #[.string ⟨#[]⟩] 9)).frozen? ⟨w.heap.size, 0, none⟩ = false := fun q => World.frozen?_alloc_new (w.drew.drewN q) _ _ 0
      have hc3 : ∀ q, ((w.drewN q).alloc (.cells #[.string ⟨#[]⟩] 9)).cell? ⟨w.heap.size, 0, none⟩ = some (.string ⟨#[]⟩) := fun q => World.cell?_alloc_new (w.drewN q) _ _ 0
      have hc4 : ∀ q, ((w.drewN q).alloc (.cells #[.string ⟨#[]⟩] 9)).frozen? ⟨w.heap.size, 0, none⟩ = false := fun q => World.frozen?_alloc_new (w.drewN q) _ _ 0
      go_region_with (go_at_call 166; refine (Hrh.out _).mono ?_; rintro e w' ⟨rfl, q, rfl⟩)
      all_goals
        go_wp2_with fail
        go_meet
        refine ⟨rfl, w.heap.size, rfl, Nat.le_refl _, ?_, ?_⟩
        · first
            | exact Var.set (b := w.heap.size) (r := []) (by show (w.heap.push _)[w.heap.size]? = _; simp) r0
            | (show (w.heap.push _)[w.heap.size]? = _; simp)
        · exact below_new _ _ _ _ 0 rfl
    case rest =>
      obtain ⟨rfl, b, rfl, hwb, hv, hb⟩ := hcut
      have hc1 := hv.cell
      have Hv := Lib.hid hv; clear hv
      clear hs2
      have hbw : b < wc.heap.size := Hv.out.lt
      go_wp2_with (at_make; refine wpList_make_own _ rfl _ _ 29 rfl wc.heap.size 9 i0 (.string ⟨#[]⟩) 1 Tryz.underlying29 hi hz0 hz1 .i64 .i64 _ (min cnt (r0.length / 2)) rfl rfl ?m1 ?m2 ?m3 (Nat.le_refl _) ?_)
      case m1 => omega
      case m2 => rw [hz2]; omega
      case m3 => unfold maxLen; omega
      intro w0 hown0 hgrow0
      have hw0 : Below wc.heap.size wc w0 := (Below.refl _ wc).grown hgrow0 (Nat.le_refl _) (fun k hk => by simp at hk)
      have hv0 := Hv.out.keep hw0
      have hb0 : Below w.heap.size w w0 := hb.trans (hw0.mono hb.size)
      have hown1 : Own wc.heap.size (.slice (some ⟨wc.heap.size, 0, none⟩) 0 (min cnt (r0.length / 2))) [] w0 := hown0
      have hs0 := hw0.size
      have Hv0 := Lib.hid hv0; clear hv0
      have Hown1 := Lib.hid hown1; clear hown1 hown0 hgrow0 hw0 hc1
      generalize wc.heap.size = B at *
      generalize (Value.slice (some ⟨B, 0, none⟩) 0 (min cnt (r0.length / 2))) = v0 at *
      go_wp2_with fail
      go_loopw [7, 25] (fun v i wr => ∃ (k : Nat) (acc : List ByteArray) (rest : List UInt8), acc.length = k ∧ k ≤ cnt ∧ i = .int .i64 k ∧ rest.length ≤ 281474976710656 ∧ Own B v acc wr ∧ Var b rest wr ∧ RowAt cnt r0 k (lists acc) rest ∧ Below w.heap.size w wr ∧ B ≤ wr.heap.size) (fun _ i _ => cnt - (intOf i).toNat)
      case atStart => exact ⟨0, [], r0, rfl, by omega, rfl, hr0, Hown1.out, Hv0.out, RowAt.start _ _, hb0, hs0⟩
      case round =>
        clear hb0 hs0 Hv0 Hown1 Hv
        obtain ⟨k, acc, rest, hacc, hk, rfl, hrl, hown, hvr, hat, hbr, hBr⟩ := hrel
        by_cases hlt : k < cnt
        · have cn := next_any b rest wr hvr hrl
          have hld : (rest.drop (Oct.read rest).2.1).length ≤ 281474976710656 := by rw [List.length_drop]; omega
          rcases read_cases rest with e0 | e6
          · have hn := hat.next hlt e0
            rw [e0] at cn
            generalize (Oct.read rest).1 = t at *
            generalize rest.drop (Oct.read rest).2.1 = rest2 at *
            have E0 := Lib.hid e0; clear e0
            have Cn := Lib.hid cn; clear cn
            have Hn := Lib.hid hn; clear hn
            have Hat := Lib.hid hat; clear hat
            have Hacc := Lib.hid hacc; clear hacc
            have Hown := Lib.hid hown; clear hown
            have Hvr := Lib.hid hvr; clear hvr
            go_wp2_with fail
            refine Cn.out.mono ?_; rintro e w2 ⟨rfl, w1, hb1, rfl⟩
            have hv2 := (Hvr.out.keep hb1).set rest2
            have hown2 : Own B u7 acc (w1.setCell ⟨b, 0, none⟩ (.string ⟨rest2.toArray⟩)) := by
              refine ownsRow_setCell_below (Hown.out.kept (grown_none hb1) ?_) hbw _
              by_cases e : u7.ownBlock = none
              · exact .inl e
              · exact .inr e
            have hb2 : Below w.heap.size w (w1.setCell ⟨b, 0, none⟩ (.string ⟨rest2.toArray⟩)) := (hbr.trans (hb1.mono hbr.size)).setCell (p := ⟨b, 0, none⟩) hwb _
            have hB2 : B ≤ (w1.setCell ⟨b, 0, none⟩ (.string ⟨rest2.toArray⟩)).heap.size := by have := hb1.size; simp [World.setCell]; omega
            generalize w1.setCell ⟨b, 0, none⟩ (.string ⟨rest2.toArray⟩) = w3 at *
            have Hv2 := Lib.hid hv2; clear hv2
            have Hown2 := Lib.hid hown2
            have hown3 : w3.ownsRow B 9 1 u7 acc.length (acc.map Value.string) := hown2
            clear hown2 Hown Hvr hb1
            go_wp2_with (at_builtin; refine wpList_append_own _ rfl _ _ 29 rfl B 9 i0 (.string ⟨#[]⟩) 1 16 Tryz.underlying29 hi hz0 hz1 hz2 rfl (by decide) _ _ _ rfl (hown3.alloc _) ⟨w3.heap.size, 0, none⟩ 1 1 [.string ⟨t.toArray⟩] rfl rfl ?c1 ?c2 ?c3 ?c4 ?c5 ?_)
            case c1 => exact cell_one_new _ _ _
            case c2 => intro u hu; simp at hu; subst hu; rfl
            case c3 => have := Hacc.out; unfold maxLen; omega
            case c4 => have := Hacc.out; omega
            case c5 => simp; omega
            intro v' w4 hown4 hgrow _
            have hown5 : Own B v' (acc ++ [⟨t.toArray⟩]) w4 := by
              unfold Own
              rw [List.length_append, List.map_append]
              exact hown4
            have hb4 : Below w.heap.size w w4 := (hb2.alloc hb2.size _).grown hgrow (by have := hb2.size; simp; omega) (fun b' h => by have := (hown3.lt b' h).1; have := hb.size; omega)
            have hv4 : Var b rest2 w4 := by
              have h1 : Below B w3 w4 := ((Below.refl B w3).alloc hB2 _).grown hgrow (by simp; omega) (fun b' h => (hown3.lt b' h).1)
              unfold Var
              rw [h1.block b hbw]
              exact Hv2.out
            have hB4 : B ≤ w4.heap.size := by have := hgrow.size; simp at this; omega
            have Hv4 := Lib.hid hv4; clear hv4
            have Hown5 := Lib.hid hown5; clear hown5
            clear hown4 hgrow hown3
            go_wp2_with fail
            go_roundw
            case rel => exact ⟨k + 1, acc ++ [⟨t.toArray⟩], rest2, by rw [List.length_append, Hacc.out]; rfl, by omega, by go_num, hld, Hown5.out, Hv4.out, by rw [show lists (acc ++ [(⟨t.toArray⟩ : ByteArray)]) = lists acc ++ [t] by simp [lists]]; exact Hn.out, hb4, hB4⟩
            case measure => simp [intOf]; omega
          · have hf := hat.fail hlt (by omega)
            rw [e6] at cn
            have E6 := Lib.hid e6; clear e6
            have Cn := Lib.hid cn; clear cn
            have Hf := Lib.hid hf; clear hf
            have Hat := Lib.hid hat; clear hat
            have Hacc := Lib.hid hacc; clear hacc
            have Hown := Lib.hid hown; clear hown
            have Hvr := Lib.hid hvr; clear hvr
            go_wp2_with fail
            refine Cn.out.mono ?_; rintro e w2 ⟨rfl, w1, hb1, rfl⟩
            have hb2 := (hbr.trans (hb1.mono hbr.size)).setCell (p := ⟨b, 0, none⟩) hwb (.string ⟨(rest.drop (Oct.read rest).2.1).toArray⟩)
            generalize w1.setCell ⟨b, 0, none⟩ (.string ⟨(rest.drop (Oct.read rest).2.1).toArray⟩) = w3 at *
            go_wp2_with fail
            go_ret2
            exact ⟨hb2, .inl ⟨Hf.out, rfl⟩⟩
        · obtain rfl : k = cnt := by omega
          have hc2 := hvr.cell
          have Hvr := Lib.hid hvr; clear hvr
          have Hown := Lib.hid hown; clear hown
          by_cases hr : rest = []
          · subst hr
            have hd := hat.done
            have Hd := Lib.hid hd; clear hd
            have Hat := Lib.hid hat; clear hat
            have Hacc := Lib.hid hacc; clear hacc
            go_wp2_with fail
            go_ret2
            exact ⟨hbr, .inr ⟨acc, _, Hd.out, rfl, World.ownsRow.mono Hown.out (by omega)⟩⟩
          · have hd := hat.more hr
            have hne : rest.isEmpty = false := by simpa using hr
            have Hd := Lib.hid hd; clear hd
            have Hat := Lib.hid hat; clear hat
            have Hacc := Lib.hid hacc; clear hacc
            go_wp2_with fail
            go_ret2
            exact ⟨hbr, .inl ⟨Hd.out, rfl⟩⟩
  · have hn : Oct.readRow s.data.toList = none := by unfold Oct.readRow; rw [ba_len, if_neg h2]
    rw [hn]
    have Hn := Lib.hid hn; clear hn
    go_enter Tryz.func145, Tryz.ntmps145
    go_wp2
    go_ret2
    exact ⟨Below.refl _ _, .inl ⟨rfl, rfl⟩⟩

theorem octReadRow_any (s : ByteArray) (w : World) (hm : s.size ≤ 281474976710656) :
    Calls Tryz.prog 145 #[.string s] w (Got (Oct.readRow s.data.toList) w) := (octReadRow_new s w hm).mono fun _ _ h => h.got

end Go.Proofs.YtalklpnekbfehaaGreat

/-
  What Same and Long return.
-/
set_option linter.unusedVariables false
namespace Go.Proofs.YtalklpnekbfehaaGreat
open Go.RowKit

/-- the first k texts are the same -/
def Alike (a b : List ByteArray) (k : Nat) : Prop := ∀ j, j < k → a.getD j .empty = b.getD j .empty

theorem Alike.all {a b : List ByteArray} (h : Alike a b a.length) (hl : a.length = b.length) : a = b := by
  apply List.ext_getElem hl
  intro i h1 h2
  have := h i h1
  simpa [List.getD_eq_getElem?_getD, h1, h2] using this

theorem Alike.next {a b : List ByteArray} {k : Nat} (h : Alike a b k) (hk : a.getD k .empty = b.getD k .empty) : Alike a b (k + 1) := by
  intro j hj
  by_cases e : j = k
  · subst e; exact hk
  · exact h j (by omega)

def sameB (a b : List ByteArray) : Bool := decide (a = b)

theorem Below.draws {B : Nat} {w w' : World} (h : Below B w w') (n : Nat) : Below B w (w'.drewN n) := ⟨h.os, h.tape, h.output, h.size, h.block⟩

set_option maxHeartbeats 400000 in
theorem same_any (a1 a2 : Option Addr) (n1 n2 c1 c2 : Nat) (l1 l2 : List ByteArray) (w : World) (h1 : Strs a1 n1 l1 w) (h2 : Strs a2 n2 l2 w) (hm : n1 ≤ 8796093022208) (hm2 : n2 ≤ 8796093022208) :
    Calls Tryz.prog 27 #[.slice a1 n1 c1, .slice a2 n2 c2] w fun e w' => e = .returned (.bool (sameB l1 l2)) ∧ Below w.heap.size w w' := by
  by_cases hn : n1 = n2
  · subst hn
    have H1 := Lib.hid h1; clear h1
    have H2 := Lib.hid h2; clear h2
    go_enter Tryz.func27, Tryz.ntmps27
    go_wp2
    go_loopw [5] (fun i wr => ∃ k : Nat, k ≤ n1 ∧ i = .int .i64 k ∧ Alike l1 l2 k ∧ Below w.heap.size w wr) (fun i _ => n1 - (intOf i).toNat)
    case atStart => exact ⟨0, by omega, rfl, fun j hj => by omega, Below.refl _ _⟩
    case round =>
      obtain ⟨k, hk, rfl, hal, hb⟩ := hrel
      by_cases hlt : k < n1
      · obtain ⟨b1, o1, rfl, hc1⟩ := (H1.out.keep hb).2 k hlt
        obtain ⟨b2, o2, rfl, hc2⟩ := (H2.out.keep hb).2 k hlt
        by_cases he : l1.getD k .empty = l2.getD k .empty
        · have hn := hal.next he
          rw [← he] at hc2
          generalize l1.getD k .empty = x at *
          have Hn := Lib.hid hn; clear hn
          have Ha := Lib.hid hal; clear hal
          have He := Lib.hid he; clear he
          have hlt2 : (k : Int) < (n1 : Int) := by omega
          go_wp2
          go_quiet (fail)
          go_wp2
          go_roundw
          case rel => exact ⟨k + 1, by omega, by go_num, Hn.out, Below.draws hb _⟩
          case measure => simp [intOf]; omega
        · have hne : sameB l1 l2 = false := decide_eq_false (fun c => he (by rw [c]))
          have hx : ((l1.getD k .empty).toList == (l2.getD k .empty).toList) = false := by
            rw [beq_eq_false_iff_ne]
            intro c
            rw [Lib.toList_data, Lib.toList_data] at c
            exact he (by rw [← ba_eta (l1.getD k .empty), c, ba_eta])
          generalize l1.getD k .empty = x at *
          generalize l2.getD k .empty = y at *
          have Hne := Lib.hid hne; clear hne
          have Ha := Lib.hid hal; clear hal
          have He := Lib.hid he; clear he
          have hlt2 : (k : Int) < (n1 : Int) := by omega
          go_wp2
          go_quiet (fail)
          go_wp2
          go_ret
          exact ⟨by rw [Hne.out]; rfl, Below.draws hb _⟩
      · obtain rfl : k = n1 := by omega
        have hs : sameB l1 l2 = true := decide_eq_true (by
          refine Alike.all ?_ (by rw [H1.out.1, H2.out.1])
          rw [H1.out.1]; exact hal)
        have Hs := Lib.hid hs; clear hs
        have Ha := Lib.hid hal; clear hal
        go_wp2
        go_ret
        exact ⟨by rw [Hs.out]; rfl, hb⟩
  · have hs : sameB l1 l2 = false := decide_eq_false (fun c => hn (by rw [← h1.1, ← h2.1, c]))
    have hne : ((n1 : Int) != (n2 : Int)) = true := by rw [bne_iff_ne]; omega
    have Hs := Lib.hid hs; clear hs
    have Hn := Lib.hid hn; clear hn
    have H1 := Lib.hid h1; clear h1
    have H2 := Lib.hid h2; clear h2
    go_enter Tryz.func27, Tryz.ntmps27
    go_wp2
    go_ret
    exact ⟨by rw [Hs.out]; rfl, Below.refl _ _⟩

/-- Long, as it should be -/
def longB (l : List ByteArray) : Bool := decide (300 < l.length) || decide (262144 < tot l (min l.length 400))

end Go.Proofs.YtalklpnekbfehaaGreat
