/-
  Plain mathematics of layer 10: behind a common cut of layer 9 all aligned cuts are the same.
-/
import Derived.Test.YtcmlcpejlmlcfaaLinTil
set_option linter.unusedVariables false
namespace Go.Proofs.Ytcmlcpejlmlcfaa
open Go.RowKit

theorem al_append (a e : List UInt8) (y : Nat) (h1 : 1 ≤ y) (h2 : y ≤ e.length) : Lin.al (a ++ e) (a.length + y) = a.length + Lin.al e y := by
  obtain ⟨g1, g2, g3, g4⟩ := Lin.al_range (l := e) (a := y) (by omega)
  have hE : ∀ j, 1 ≤ j → j ≤ e.length → Lin.isE (a ++ e) (a.length + j) = Lin.isE e j := fun j q1 q2 => by
    unfold Lin.isE
    have e1 : (a ++ e).getD (a.length + j - 1) 0 = e.getD (j - 1) 0 := by
      rw [List.getD_eq_getElem?_getD, List.getElem?_append_right (by omega), show a.length + j - 1 - a.length = j - 1 by omega, List.getD_eq_getElem?_getD]
    have e2 : (a.length + j == (a ++ e).length) = (j == e.length) := by
      rw [List.length_append, Bool.eq_iff_iff, beq_iff_eq, beq_iff_eq]; omega
    rw [e1, e2]
  refine Lin.al_eq (by omega) (by rw [List.length_append]; omega) (by rw [hE _ (by omega) g2]; exact g3) (fun j q1 q2 => ?_)
  have := g4 (j - a.length) (by omega) (by omega)
  rw [← hE _ (by omega) (by omega), show a.length + (j - a.length) = j by omega] at this
  exact this
theorem drop_shift10 {c : Ctr} (h : c.May) (a e : List UInt8) (i j : Nat) (hi : i < (c.ends (a ++ e)).length) (hj : (c.ends (a ++ e)).getD i 0 = a.length + j) :
    (c.ends (a ++ e)).drop (i + 1) = (Chu.all (c.isMk e) c.mn.toNat c.mx.toNat e.length j).map (a.length + ·) := by
  simp only [Ctr.ends_all] at hi hj ⊢
  rw [List.length_append] at hi hj ⊢
  rw [Chu.all_drop h.nat.1 h.nat.2.1 i 0 hi, hj]
  refine Chu.all_shift h.nat.1 h.nat.2.1 j (fun x h1 h2 => ?_)
  have hw := h.nat.2.2.1
  exact Chu.mark_shift c.p c.n.toNat c.b.toNat a e x (by omega) h2
/-- the cuts from a cut on -/
theorem ends_from {c : Ctr} (h : c.May) (a e : List UInt8) (j : Nat) (hj : a.length + j ∈ c.ends (a ++ e)) (x : Nat) : (x ∈ c.ends (a ++ e) ∧ a.length + j ≤ x) ↔ ∃ y, (y = j ∨ y ∈ Chu.all (c.isMk e) c.mn.toNat c.mx.toNat e.length j) ∧ x = a.length + y := by
  obtain ⟨i, hi, hij⟩ := List.getElem_of_mem hj
  have hg : (c.ends (a ++ e)).getD i 0 = a.length + j := by rw [List.getD_eq_getElem?_getD, List.getElem?_eq_getElem hi]; exact hij
  have hd := drop_shift10 h a e i j hi hg
  have hpw := Ctr.ends_pwl h (a ++ e)
  have hgt : ∀ y ∈ Chu.all (c.isMk e) c.mn.toNat c.mx.toNat e.length j, j < y := fun y hy => (Chu.ends_range h.nat.1 h.nat.2.1 _ _ y hy).1
  constructor
  · rintro ⟨hx, hle⟩
    rw [← List.take_append_drop (i + 1) (c.ends (a ++ e)), List.mem_append] at hx
    rcases hx with hx | hx
    · obtain ⟨k, hk, e1⟩ := List.getElem_of_mem hx
      rw [List.getElem_take] at e1
      rw [List.length_take] at hk
      have : x ≤ a.length + j := by
        rw [← e1, ← hij]
        rcases Nat.lt_or_ge k i with q | q
        · exact List.pairwise_iff_getElem.1 hpw k i (by omega) hi q
        · have : k = i := by omega
          subst this; exact Nat.le_refl _
      exact ⟨j, .inl rfl, by omega⟩
    · rw [hd] at hx
      obtain ⟨y, hy, rfl⟩ := List.mem_map.1 hx
      exact ⟨y, .inr hy, rfl⟩
  · rintro ⟨y, hy | hy, rfl⟩
    · subst hy; exact ⟨hj, Nat.le_refl _⟩
    · refine ⟨?_, by have := hgt y hy; omega⟩
      rw [← List.take_append_drop (i + 1) (c.ends (a ++ e)), List.mem_append]
      exact .inr (by rw [hd]; exact List.mem_map.2 ⟨y, hy, rfl⟩)
/-- the aligned cuts from a cut on, told from there: by the common end alone -/
theorem aends_from {c : Ctr} (h : c.May) (a e : List UInt8) (j : Nat) (hj1 : 1 ≤ j) (hj : a.length + j ∈ c.ends (a ++ e)) (x : Nat) :
    x ∈ ((c.aends (a ++ e)).filter fun z => decide (a.length + j ≤ z)).map (· - (a.length + j)) ↔ ∃ y, (y = j ∨ y ∈ Chu.all (c.isMk e) c.mn.toNat c.mx.toNat e.length j) ∧ Lin.al e y = j + x := by
  have hfr := ends_from h a e j hj
  have hr := Ctr.ends_range h (a ++ e)
  have hrng : ∀ y, (y = j ∨ y ∈ Chu.all (c.isMk e) c.mn.toNat c.mx.toNat e.length j) → 1 ≤ y ∧ y ≤ e.length := fun y hy => by
    have h1 := hr _ ((hfr (a.length + y)).2 ⟨y, hy, rfl⟩).1
    rw [List.length_append] at h1
    have h2 : j ≤ y := by
      rcases hy with rfl | hy
      · exact Nat.le_refl _
      · exact Nat.le_of_lt (Chu.ends_range h.nat.1 h.nat.2.1 _ _ y hy).1
    omega
  rw [List.mem_map]
  constructor
  · rintro ⟨z, hz, rfl⟩
    rw [List.mem_filter, Ctr.aends_mem h] at hz
    obtain ⟨⟨hz0, k, hk, rfl⟩, hz1⟩ := hz
    have hz1 : a.length + j ≤ Lin.al (a ++ e) k := of_decide_eq_true hz1
    have hkr := hr k hk
    rcases Nat.lt_or_ge k (a.length + j) with q | q
    · have hjr := hrng j (.inl rfl)
      have e1 : Lin.al (a ++ e) k = Lin.al (a ++ e) (a.length + j) := by
        have m1 := Lin.al_mono (l := a ++ e) (show k ≤ a.length + j by omega)
        have r1 := Lin.al_range (l := a ++ e) (a := k) (by omega)
        have m2 := Lin.al_end (l := a ++ e) (c := a.length + j) (by omega) hz1 r1.2.1 r1.2.2.1
        omega
      refine ⟨j, .inl rfl, ?_⟩
      rw [e1, al_append a e j hj1 hjr.2] at hz1 ⊢
      omega
    · obtain ⟨y, hy, rfl⟩ := (hfr k).1 ⟨hk, q⟩
      have hyr := hrng y hy
      refine ⟨y, hy, ?_⟩
      rw [al_append a e y hyr.1 hyr.2] at hz1 ⊢
      omega
  · rintro ⟨y, hy, e1⟩
    have hyr := hrng y hy
    refine ⟨a.length + (j + x), ?_, by omega⟩
    rw [List.mem_filter, Ctr.aends_mem h]
    exact ⟨⟨by omega, a.length + y, ((hfr _).2 ⟨y, hy, rfl⟩).1, by rw [al_append a e y hyr.1 hyr.2, e1]⟩, decide_eq_true (by omega)⟩
theorem filt_pw {l : List Nat} (f : Nat) (h : l.Pairwise (· < ·)) : ((l.filter fun z => decide (f ≤ z)).map (· - f)).Pairwise (· < ·) := by
  rw [List.pairwise_map]
  refine (h.filter _).imp_of_mem ?_
  intro x y hx hy hxy
  have := of_decide_eq_true (List.mem_filter.1 hx).2
  omega
theorem meet10 {c : Ctr} (h : c.May) (a b e : List UInt8) (j : Nat) (hj1 : 1 ≤ j) (ha : a.length + j ∈ c.ends (a ++ e)) (hb : b.length + j ∈ c.ends (b ++ e)) :
    ((c.aends (a ++ e)).filter fun z => decide (a.length + j ≤ z)).map (· - (a.length + j)) = ((c.aends (b ++ e)).filter fun z => decide (b.length + j ≤ z)).map (· - (b.length + j)) :=
  asc_ext _ _ (filt_pw _ (List.pairwise_cons.1 (Ctr.aends_pw h _)).2) (filt_pw _ (List.pairwise_cons.1 (Ctr.aends_pw h _)).2) (fun x => by rw [aends_from h a e j hj1 ha, aends_from h b e j hj1 hb])

theorem Ctr.texts_len {c : Ctr} (h : c.May) (s : ByteArray) : (c.texts s).length ≤ s.size := by
  unfold Ctr.texts; rw [pcTexts_length, ← ba_len]; exact Ctr.cut_len h _
theorem Ctr.atexts_len {c : Ctr} (h : c.May) (s : ByteArray) : (c.atexts s).length ≤ s.size := by
  unfold Ctr.atexts; rw [pcTexts_length, ← ba_len]; exact Ctr.acut_len h _
theorem Ctr.aendsT_is {c : Ctr} (h : c.May) (s : ByteArray) : endsT (c.atexts s) (c.atexts s).length = c.aends s.data.toList := by
  have : (c.atexts s).length = (c.aends s.data.toList).length := by
    unfold Ctr.atexts Ctr.acut
    rw [pcTexts_length, Chu.pcs_length]
  rw [this]
  exact endsT_pcs s _ (fun x hx => by rw [← ba_len]; exact Ctr.aends_le h _ x hx) (pw_le (Ctr.aends_pw h _))
theorem Ctr.atot_le {c : Ctr} (h : c.May) (s : ByteArray) (k : Nat) (hk : k ≤ (c.atexts s).length) : tot (c.atexts s) k ≤ s.size := by
  cases k with
  | zero => simp [tot]
  | succ j =>
    have h1 : tot (c.atexts s) (j + 1) ∈ endsT (c.atexts s) (c.atexts s).length := List.mem_map.2 ⟨j, List.mem_range.2 hk, rfl⟩
    rw [Ctr.aendsT_is h] at h1
    have := Ctr.aends_le h _ _ h1
    rwa [ba_len] at this
theorem Ctr.endsF_is {c : Ctr} (h : c.May) (s : ByteArray) (f : Nat) : endsF (c.texts s) f (c.texts s).length = ((c.ends s.data.toList).filter fun z => decide (f ≤ z)).map (· - f) := by unfold endsF; rw [Ctr.endsT_is h]
theorem Ctr.aendsF_is {c : Ctr} (h : c.May) (s : ByteArray) (f : Nat) : endsF (c.atexts s) f (c.atexts s).length = ((c.aends s.data.toList).filter fun z => decide (f ≤ z)).map (· - f) := by unfold endsF; rw [Ctr.aendsT_is h]
theorem endsF_mem {l : List Nat} {f x : Nat} (h : x ∈ (l.filter fun z => decide (f ≤ z)).map (· - f)) : f + x ∈ l := by
  obtain ⟨z, hz, rfl⟩ := List.mem_map.1 h
  have h1 := List.mem_filter.1 hz
  have := of_decide_eq_true h1.2
  rw [show f + (z - f) = z by omega]
  exact h1.1
/-- what LinesMeet asks -/
theorem meet_is10 {c : Ctr} (h : c.May) (s1 s2 s3 : ByteArray) (m : Nat) (hm : 0 < m) (hx : m ∈ endsF (c.texts (s1 ++ s3)) s1.size (c.texts (s1 ++ s3)).length) (hy : m ∈ endsF (c.texts (s2 ++ s3)) s2.size (c.texts (s2 ++ s3)).length) :
    endsF (c.atexts (s1 ++ s3)) (s1.size + m) (c.atexts (s1 ++ s3)).length = endsF (c.atexts (s2 ++ s3)) (s2.size + m) (c.atexts (s2 ++ s3)).length := by
  rw [Ctr.endsF_is h] at hx hy
  rw [Ctr.aendsF_is h, Ctr.aendsF_is h]
  have e1 : (s1 ++ s3).data.toList = s1.data.toList ++ s3.data.toList := Go.Joins.data_append s1 s3
  have e2 : (s2 ++ s3).data.toList = s2.data.toList ++ s3.data.toList := Go.Joins.data_append s2 s3
  have hx := endsF_mem hx
  have hy := endsF_mem hy
  rw [e1, ← ba_len s1] at hx
  rw [e2, ← ba_len s2] at hy
  rw [e1, e2, ← ba_len s1, ← ba_len s2]
  exact meet10 h _ _ _ m hm hx hy
theorem endsF_le {c : Ctr} (h : c.May) (s : ByteArray) (f x : Nat) (hx : x ∈ endsF (c.texts s) f (c.texts s).length) : f + x ≤ s.size := by
  rw [Ctr.endsF_is h] at hx
  have := (Ctr.ends_range h _ _ (endsF_mem hx)).2
  rwa [ba_len] at this
theorem aendsF_le {c : Ctr} (h : c.May) (s : ByteArray) (f x : Nat) (hx : x ∈ endsF (c.atexts s) f (c.atexts s).length) : f + x ≤ s.size := by
  rw [Ctr.aendsF_is h] at hx
  have := Ctr.aends_le h _ _ (endsF_mem hx)
  rwa [ba_len] at this
end Go.Proofs.Ytcmlcpejlmlcfaa
