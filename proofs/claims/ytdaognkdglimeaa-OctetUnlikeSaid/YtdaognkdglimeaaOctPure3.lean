/-
  The plain mathematics of package octet, third part: short numbers, step by step.
-/
import Derived.Test.YtdaognkdglimeaaOctPure2
set_option linter.unusedVariables false
namespace Go.Proofs.Ytdaognkdglimeaa.Oct

/-- how far Short has come: acc was written, q is left -/
def ShortAt (v q : Nat) (acc : List UInt8) : Prop := acc.length ≤ 9 ∧ q < 128 ^ (10 - acc.length) ∧ (acc.length = 9 → q < 128) ∧ acc ++ shortF (10 - acc.length) q = short v

theorem ShortAt.start (v : Nat) (h : v < 18446744073709551616) : ShortAt v v [] := ⟨by simp, by simp; omega, by simp, by simp [short]⟩

theorem ShortAt.len9 {v q : Nat} {acc : List UInt8} (h : ShortAt v q acc) : acc.length ≤ 9 := h.1

theorem ShortAt.next {v q : Nat} {acc : List UInt8} (h : ShortAt v q acc) (hq : 128 ≤ q) : ShortAt v (q / 128) (acc ++ [UInt8.ofNat (q % 128 + 128)]) := by
  obtain ⟨h1, h2, h3, h4⟩ := h
  have hl : acc.length < 9 := by omega
  have e : 10 - acc.length = (9 - acc.length) + 1 := by omega
  have e' : 10 - (acc ++ [UInt8.ofNat (q % 128 + 128)]).length = 9 - acc.length := by rw [List.length_append]; simp only [List.length_cons, List.length_nil]; omega
  rw [e, Nat.pow_succ] at h2
  refine ⟨by simp; omega, ?_, ?_, ?_⟩
  · rw [e']; exact Nat.div_lt_of_lt_mul (by omega)
  · intro h9
    have : acc.length = 8 := by simpa using h9
    rw [this] at h2
    omega
  · rw [e', ← h4, e, shortF_succ, if_neg (by omega)]
    simp

theorem ShortAt.len {v q : Nat} {acc : List UInt8} (h : ShortAt v q acc) (hq : 128 ≤ q) : (acc ++ [UInt8.ofNat (q % 128 + 128)]).length ≤ 10 := by
  have := (h.next hq).1
  omega

theorem ShortAt.next9 {v q : Nat} {acc : List UInt8} (h : ShortAt v q acc) (hq : 128 ≤ q) : acc.length ≤ 8 := by
  have := (h.next hq).1
  rw [List.length_append] at this
  simp only [List.length_cons, List.length_nil] at this
  omega

theorem ShortAt.last {v q : Nat} {acc : List UInt8} (h : ShortAt v q acc) (hq : q < 128) : acc ++ [UInt8.ofNat q] = short v := by
  obtain ⟨h1, h2, h3, h4⟩ := h
  have e : 10 - acc.length = (9 - acc.length) + 1 := by omega
  rw [← h4, e, shortF_succ, if_pos hq]

/-! ### reading a short number -/
def RsAt (l : List UInt8) (k v : Nat) : Prop := k ≤ 9 ∧ v < 128 ^ k ∧ rs 0 0 l = rs k v (l.drop k)

theorem RsAt.start (l : List UInt8) : RsAt l 0 0 := ⟨by omega, by simp, by simp⟩

theorem pow7 (k : Nat) : (128 : Nat) ^ k = 2 ^ (7 * k) := by rw [Nat.pow_mul]

theorem RsAt.fits {l : List UInt8} {k v : Nat} (h : RsAt l k v) (c : Nat) (hc : c < 128) (h9 : k = 9 → c ≤ 1) : v + c * 2 ^ (7 * k) < 18446744073709551616 := by
  obtain ⟨hk, hv, _⟩ := h
  rw [pow7] at hv
  by_cases e : k = 9
  · subst e
    have := h9 rfl
    have e2 : (2 : Nat) ^ (7 * 9) = 9223372036854775808 := by decide
    rw [e2] at *
    have : c = 0 ∨ c = 1 := by omega
    rcases this with rfl | rfl <;> omega
  · have h1 : c * 2 ^ (7 * k) ≤ 127 * 2 ^ (7 * k) := Nat.mul_le_mul_right _ (by omega)
    have h2 : (2 : Nat) ^ (7 * k) ≤ 2 ^ 56 := Nat.pow_le_pow_right (by decide) (by omega)
    have e2 : (2 : Nat) ^ 56 = 72057594037927936 := by decide
    omega

theorem RsAt.small {l : List UInt8} {k v : Nat} (h : RsAt l k v) : v < 2 ^ (7 * k) := by
  rw [← pow7]; exact h.2.1

theorem rs_cons (k v : Nat) (c : UInt8) (r : List UInt8) : rs k v (c :: r) =
    if k = 9 ∧ 1 < c.toNat then (0, 0, 7)
    else if 128 ≤ c.toNat then rs (k + 1) (v + c.toNat % 128 * 128 ^ k) r
    else if c.toNat = 0 ∧ 0 < k then (0, 0, 7)
    else (v + c.toNat * 128 ^ k, k + 1, 0) := rfl

theorem RsAt.over {l : List UInt8} {k v : Nat} (h : RsAt l k v) (hk : k < l.length) (h9 : k = 9) (hc : 1 < l[k].toNat) : rs 0 0 l = (0, 0, 7) := by
  rw [h.2.2, List.drop_eq_getElem_cons hk, rs_cons, if_pos ⟨h9, hc⟩]

theorem RsAt.next {l : List UInt8} {k v : Nat} (h : RsAt l k v) (hk : k < l.length) (h9 : ¬ (k = 9 ∧ 1 < l[k].toNat)) (hc : 128 ≤ l[k].toNat) : RsAt l (k + 1) (v + l[k].toNat % 128 * 2 ^ (7 * k)) := by
  obtain ⟨h1, h2, h3⟩ := h
  refine ⟨by omega, ?_, ?_⟩
  · rw [Nat.pow_succ, ← pow7]
    have : l[k].toNat % 128 * 128 ^ k ≤ 127 * 128 ^ k := Nat.mul_le_mul_right _ (by omega)
    omega
  · rw [h3, List.drop_eq_getElem_cons hk, rs_cons, if_neg h9, if_pos hc, pow7]

theorem RsAt.nought {l : List UInt8} {k v : Nat} (h : RsAt l k v) (hk : k < l.length) (hc : l[k].toNat = 0) (h0 : 0 < k) : rs 0 0 l = (0, 0, 7) := by
  rw [h.2.2, List.drop_eq_getElem_cons hk, rs_cons, if_neg (by omega), if_neg (by omega), if_pos ⟨hc, h0⟩]

theorem RsAt.last {l : List UInt8} {k v : Nat} (h : RsAt l k v) (hk : k < l.length) (h9 : ¬ (k = 9 ∧ 1 < l[k].toNat)) (hc : l[k].toNat < 128) (h0 : ¬ (l[k].toNat = 0 ∧ 0 < k)) :
    rs 0 0 l = (v + l[k].toNat * 2 ^ (7 * k), k + 1, 0) := by
  rw [h.2.2, List.drop_eq_getElem_cons hk, rs_cons, if_neg h9, if_neg (by omega), if_neg h0, pow7]

theorem RsAt.stop {l : List UInt8} {k v : Nat} (h : RsAt l k v) (hk : l.length ≤ k) : rs 0 0 l = (0, 0, 6) := by
  rw [h.2.2, List.drop_of_length_le hk]; rfl

/-! ### the document's way to read a short number -/
/-- seven bits a byte -/
def dec : List UInt8 → Nat
  | [] => 0
  | b :: r => b.toNat % 128 + 128 * dec r

theorem dec_drop (l : List UInt8) (k : Nat) (h : k < l.length) : dec (l.drop k) = l[k].toNat % 128 + 128 * dec (l.drop (k + 1)) := by
  rw [List.drop_eq_getElem_cons h]; rfl

theorem dec_append (l r : List UInt8) : dec (l ++ r) = dec l + 128 ^ l.length * dec r := by
  induction l with
  | nil => simp [dec]
  | cons b t ih =>
    simp only [List.cons_append, dec, ih, List.length_cons, Nat.pow_succ]
    rw [Nat.mul_add, Nat.add_assoc, ← Nat.mul_assoc, Nat.mul_comm 128 (128 ^ t.length)]

theorem dec_take_succ (l : List UInt8) (k : Nat) (h : k < l.length) : dec (l.take (k + 1)) = dec (l.take k) + l[k].toNat % 128 * 2 ^ (7 * k) := by
  rw [List.take_succ_eq_append_getElem h, dec_append]
  have e : (l.take k).length = k := by simp; omega
  rw [e, pow7]
  simp [dec, Nat.mul_comm]

theorem dec_short (f v : Nat) (h : v < 128 ^ f) : dec (shortF f v) = v := by
  induction f generalizing v with
  | zero => simp [shortF, dec] at *; omega
  | succ f ih =>
    rw [shortF_succ]
    split
    · rename_i hv
      simp [dec]
      omega
    · rename_i hv
      have h1 : v / 128 < 128 ^ f := by
        rw [Nat.pow_succ] at h
        exact Nat.div_lt_of_lt_mul (by omega)
      rw [dec, ih _ h1]
      simp
      omega

/-- the first k bytes have another one behind them -/
def Run (l : List UInt8) (k : Nat) : Prop := ∀ j (h : j < l.length), j < k → 128 ≤ l[j].toNat

theorem Run.start (l : List UInt8) : Run l 0 := fun _ _ h => by omega
theorem Run.next {l : List UInt8} {k : Nat} (h : Run l k) (hk : k < l.length) (hc : 128 ≤ l[k].toNat) : Run l (k + 1) := by
  intro j hj hjk
  by_cases e : j = k
  · subst e; exact hc
  · exact h j hj (by omega)

theorem Run.at {l : List UInt8} {k : Nat} (h : Run l k) (hk : k ≤ l.length) (h9 : k ≤ 9) : RsAt l k (dec (l.take k)) := by
  induction k with
  | zero => simpa [dec] using RsAt.start l
  | succ k ih =>
    have hk' : k < l.length := by omega
    have hr := ih (fun j hj hjk => h j hj (by omega)) (by omega) (by omega)
    have hn := hr.next hk' (by omega) (h k hk' (by omega))
    rw [dec_take_succ l k hk']
    exact hn

theorem Run.stop {l : List UInt8} {k : Nat} (h : Run l k) (hk : k = l.length) (h9 : k ≤ 9) : rs 0 0 l = (0, 0, 6) := (h.at (by omega) h9).stop (by omega)

theorem Run.over {l : List UInt8} (h : Run l 10) (hk : 10 ≤ l.length) : rs 0 0 l = (0, 0, 7) := by
  have h9 : Run l 9 := fun j hj hjk => h j hj (by omega)
  have := h 9 (by omega) (by omega)
  exact (h9.at (by omega) (by omega)).over (by omega) rfl (by omega)

/-- short, of what the bytes come to -/
theorem shortF_dec (f : Nat) (l : List UInt8) (b : UInt8) (hl : ∀ x ∈ l, 128 ≤ x.toNat) (hb : b.toNat < 128) (h0 : l = [] ∨ b.toNat ≠ 0) (hf : l.length < f) :
    shortF f (dec (l ++ [b])) = l ++ [b] ∧ (l ≠ [] → 128 ≤ dec (l ++ [b])) ∧ (b.toNat ≠ 0 → dec (l ++ [b]) ≠ 0) := by
  induction l generalizing f with
  | nil =>
    obtain ⟨g, rfl⟩ : ∃ g, f = g + 1 := ⟨f - 1, by simp at hf; omega⟩
    have e : dec ([] ++ [b]) = b.toNat := by simp [dec]; omega
    rw [e]
    refine ⟨?_, by simp, fun h => h⟩
    rw [shortF_succ, if_pos hb]
    simp
  | cons x t ih =>
    obtain ⟨g, rfl⟩ : ∃ g, f = g + 1 := ⟨f - 1, by simp at hf; omega⟩
    have hb0 : b.toNat ≠ 0 := h0.resolve_left (by simp)
    obtain ⟨h1, h2, h3⟩ := ih g (fun y hy => hl y (List.mem_cons_of_mem _ hy)) (.inr hb0) (by simp at hf; omega)
    have hx := hl x (List.mem_cons_self ..)
    have hx2 := x.toNat_lt
    have h3' := h3 hb0
    have e : dec (x :: t ++ [b]) = x.toNat % 128 + 128 * dec (t ++ [b]) := rfl
    have hge : 128 ≤ dec (x :: t ++ [b]) := by rw [e]; omega
    refine ⟨?_, fun _ => hge, fun _ => by omega⟩
    rw [shortF_succ, if_neg (by omega), e]
    have e1 : (x.toNat % 128 + 128 * dec (t ++ [b])) / 128 = dec (t ++ [b]) := by omega
    have e2 : (x.toNat % 128 + 128 * dec (t ++ [b])) % 128 + 128 = x.toNat := by omega
    rw [e1, e2, h1]
    simp

/-- what Short gives ends in a byte that is not 0, unless it has one alone -/
theorem shortF_last (f v : Nat) (l : List UInt8) (b : UInt8) (hv : v < 128 ^ f) (h : shortF f v = l ++ [b]) (hl : l ≠ []) : b.toNat ≠ 0 := by
  induction f generalizing v l with
  | zero => simp [shortF] at h
  | succ f ih =>
    rw [shortF_succ] at h
    split at h
    · rename_i hv
      cases l with
      | nil => exact absurd rfl hl
      | cons x t => simp at h
    · rename_i hv'
      have h1 : v / 128 < 128 ^ f := by
        rw [Nat.pow_succ] at hv
        exact Nat.div_lt_of_lt_mul (by omega)
      cases l with
      | nil => exact absurd rfl hl
      | cons x t =>
        simp only [List.cons_append, List.cons.injEq] at h
        by_cases ht : t = []
        · subst ht
          intro hb
          have hd := dec_short f (v / 128) h1
          rw [h.2] at hd
          simp [dec, hb] at hd
          omega
        · exact ih _ t h1 h.2 ht

theorem Run.answer {l : List UInt8} {k : Nat} (h : Run l k) (hk : k < l.length) (h9 : k ≤ 9) (hc : l[k].toNat < 128) :
    rs 0 0 l = if short (dec (l.take (k + 1)) % 18446744073709551616) = l.take (k + 1) then (dec (l.take (k + 1)) % 18446744073709551616, k + 1, 0) else (0, 0, 7) := by
  have hr := h.at (by omega) h9
  have et : l.take (k + 1) = l.take k ++ [l[k]] := List.take_succ_eq_append_getElem hk
  have ed := dec_take_succ l k hk
  rw [Nat.mod_eq_of_lt hc] at ed
  have hall : ∀ x ∈ l.take k, 128 ≤ x.toNat := by
    intro x hx
    obtain ⟨j, hj, rfl⟩ := List.getElem_of_mem hx
    rw [List.getElem_take]
    have : j < k := by simp at hj; omega
    exact h j (by omega) this
  have hlen : (l.take k).length = k := by simp; omega
  generalize hH : dec (l.take (k + 1)) = H at *
  have e64 : (128 : Nat) ^ 10 = 1180591620717411303424 := by decide
  have hmod : H % 18446744073709551616 < 18446744073709551616 := Nat.mod_lt _ (by decide)
  by_cases hov : k = 9 ∧ 1 < l[k].toNat
  · rw [hr.over hk hov.1 hov.2, if_neg]
    intro hs
    have hd := dec_short 10 (H % 18446744073709551616) (by omega)
    rw [show shortF 10 (H % 18446744073709551616) = short (H % 18446744073709551616) from rfl, hs, hH] at hd
    obtain ⟨rfl, h1⟩ := hov
    have e2 : (2 : Nat) ^ (7 * 9) = 9223372036854775808 := by decide
    rw [e2] at ed
    omega
  · have hfit := hr.fits l[k].toNat hc (by omega)
    rw [← ed] at hfit
    rw [Nat.mod_eq_of_lt hfit]
    by_cases hz : l[k].toNat = 0 ∧ 0 < k
    · rw [hr.nought hk hz.1 hz.2, if_neg]
      intro hs
      rw [et] at hs
      exact shortF_last 10 H _ _ (by omega) hs (by intro e; rw [e] at hlen; simp at hlen; omega) hz.1
    · rw [hr.last hk hov hc hz, ← ed, if_pos]
      have := (shortF_dec 10 (l.take k) l[k] hall hc (by
        by_cases e : k = 0
        · left; subst e; simp
        · right; omega) (by omega)).1
      rw [← et, hH] at this
      exact this

end Go.Proofs.Ytdaognkdglimeaa.Oct
