/-
  The plain mathematics of package octet, sixth part: what was put short is read, and what is read is put as it stood; texts likewise.
-/
import Derived.Test.YtdaognkdglimeaaOctPure5
set_option linter.unusedVariables false
namespace Go.Proofs.Ytdaognkdglimeaa.Oct

theorem put_cases (v : Nat) (n : Int) : (put v n).2 = 0 ∨ (put v n).2 = 2 := by
  unfold put; split <;> simp

theorem get_cases (l : List UInt8) : (get l).2 = 0 ∨ (get l).2 = 2 := by
  unfold get; split <;> simp

theorem get_bound (l : List UInt8) : (get l).1 < 18446744073709551616 := by
  unfold get; split
  · rename_i h; exact un_small l h.2
  · simp

/-- reading what Short gave, whatever stands behind it -/
theorem rs_shortF (f k a v : Nat) (r : List UInt8) (hf : k + f = 10) (hv : v < 128 ^ f) (h9 : v * 128 ^ k < 18446744073709551616) (h0 : 0 < k → v ≠ 0) (hf1 : 1 ≤ f) :
    rs k a (shortF f v ++ r) = (a + v * 128 ^ k, k + (shortF f v).length, 0) := by
  induction f generalizing k a v with
  | zero => omega
  | succ f ih =>
    rw [shortF_succ]
    by_cases hlt : v < 128
    · rw [if_pos hlt]
      have e : (UInt8.ofNat v).toNat = v := by simp; omega
      simp only [List.cons_append, List.nil_append, rs_cons, e]
      have h91 : ¬ (k = 9 ∧ 1 < v) := by
        rintro ⟨rfl, h1⟩
        have e2 : (128 : Nat) ^ 9 = 9223372036854775808 := by decide
        rw [e2] at h9
        omega
      rw [if_neg h91, if_neg (by omega), if_neg (by intro c; exact h0 c.2 c.1)]
      simp
    · rw [if_neg hlt]
      have e : (UInt8.ofNat (v % 128 + 128)).toNat = v % 128 + 128 := by simp; omega
      simp only [List.cons_append, rs_cons, e]
      have hk : k ≠ 9 := by
        rintro rfl
        have : f = 0 := by omega
        subst this
        simp at hv
        omega
      rw [if_neg (fun c => hk c.1), if_pos (by omega)]
      have hv2 : v / 128 < 128 ^ f := by
        rw [Nat.pow_succ] at hv
        exact Nat.div_lt_of_lt_mul (by omega)
      have h92 : v / 128 * 128 ^ (k + 1) ≤ v * 128 ^ k := by
        rw [Nat.pow_succ, Nat.mul_comm (128 ^ k) 128, ← Nat.mul_assoc]
        exact Nat.mul_le_mul_right _ (Nat.div_mul_le_self v 128)
      rw [ih (k + 1) _ (v / 128) (by omega) hv2 (by omega) (fun _ => by omega) (by omega)]
      have e3 : a + (v % 128 + 128) % 128 * 128 ^ k + v / 128 * 128 ^ (k + 1) = a + v * 128 ^ k := by
        rw [Nat.pow_succ, Nat.mul_comm (128 ^ k) 128, ← Nat.mul_assoc, Nat.add_assoc, ← Nat.add_mul]
        congr 2
        omega
      rw [e3]
      simp only [List.length_cons]
      congr 2
      omega

theorem rs_short (v : Nat) (r : List UInt8) (hv : v < 18446744073709551616) : rs 0 0 (short v ++ r) = (v, (short v).length, 0) := by
  have e64 : (128 : Nat) ^ 10 = 1180591620717411303424 := by decide
  have := rs_shortF 10 0 0 v r rfl (by omega) (by simpa using hv) (fun h => by omega) (by omega)
  simpa [short] using this

/-- short numbers that were read -/
theorem short_rs (l : List UInt8) : ∀ (k v : Nat), Run l k → k ≤ 9 → k ≤ l.length → v = dec (l.take k) → (rs k v (l.drop k)).2.2 = 0 →
    1 ≤ (rs k v (l.drop k)).2.1 ∧ (rs k v (l.drop k)).2.1 ≤ l.length ∧ short (rs k v (l.drop k)).1 = l.take (rs k v (l.drop k)).2.1 ∧ (rs k v (l.drop k)).1 < 18446744073709551616 := by
  intro k v hr h9 hk hv
  generalize hn : l.length - k = n
  induction n generalizing k v with
  | zero =>
    intro h
    rw [List.drop_of_length_le (by omega)] at h
    simp [rs] at h
  | succ n ih =>
    have hlt : k < l.length := by omega
    intro h
    have hat := hr.at hk h9
    rw [← hv] at hat
    by_cases hc : 128 ≤ l[k].toNat
    · by_cases hk9 : k = 9
      · subst hk9
        rw [List.drop_eq_getElem_cons hlt, rs_cons, if_pos ⟨rfl, by omega⟩] at h
        simp at h
      · have e : rs k v (l.drop k) = rs (k + 1) (v + l[k].toNat % 128 * 128 ^ k) (l.drop (k + 1)) := by
          rw [List.drop_eq_getElem_cons hlt, rs_cons, if_neg (fun c => hk9 c.1), if_pos hc]
        rw [e] at h ⊢
        exact ih (k + 1) _ (hr.next hlt hc) (by omega) (by omega) (by rw [dec_take_succ l k hlt, hv, pow7]) (by omega) h
    · have ha := hr.answer hlt h9 (by omega)
      rw [← hat.2.2]  at h ⊢
      rw [ha] at h ⊢
      split at h
      · rename_i hs
        rw [if_pos hs]
        refine ⟨by simp, by simp; omega, hs, Nat.mod_lt _ (by decide)⟩
      · simp at h

theorem short_read (l : List UInt8) (h : (rs 0 0 l).2.2 = 0) : 1 ≤ (rs 0 0 l).2.1 ∧ (rs 0 0 l).2.1 ≤ l.length ∧ short (rs 0 0 l).1 = l.take (rs 0 0 l).2.1 ∧ (rs 0 0 l).1 < 18446744073709551616 := by
  have := short_rs l 0 0 (Run.start l) (by omega) (by omega) (by simp [dec]) (by simpa using h)
  simpa using this

theorem read_text' (t r : List UInt8) (h : (text t).2 = 0) : read ((text t).1 ++ r) = (t, (text t).1.length, 0) := by
  unfold text at *
  split at h
  · rename_i hc
    rw [if_pos hc]
    rw [List.append_assoc, read_text t r hc]
    simp [le_length]
  · simp at h

theorem text_cases (t : List UInt8) : (text t).2 = 0 ∨ ((text t).2 = 5 ∧ 65535 < t.length) := by
  unfold text; split
  · left; rfl
  · right; exact ⟨rfl, by omega⟩

theorem text_length (t : List UInt8) : (text t).1.length ≤ 2 + t.length := by
  unfold text; split <;> simp [le_length]

end Go.Proofs.Ytdaognkdglimeaa.Oct
