/-
  Plain mathematics of layer 11's laws: what is said of a margin.
-/
import Derived.Test.YtcmlcpejlmlcfaaEdtStayP
set_option linter.unusedVariables false
namespace Go.Proofs.Ytcmlcpejlmlcfaa
open Go.RowKit
namespace Edt
theorem pcs_get : ∀ (E : List Nat) (a j : Nat), j < E.length → (Chu.pcs a E).getD j (0, 0) = ((a :: E).getD j 0, E.getD j 0 - (a :: E).getD j 0)
  | [], a, j, h => by simp at h
  | e :: r, a, 0, h => by simp [Chu.pcs]
  | e :: r, a, j + 1, h => by
    rw [Chu.pcs, List.getD_cons_succ, List.getD_cons_succ, List.getD_cons_succ]
    exact pcs_get r e j (by simpa using h)
theorem texts_get (s : ByteArray) (P : List Pc) (j : Nat) (h : j < P.length) : (pcTexts s P).getD j .empty = s.extract (P.getD j (0, 0)).1 ((P.getD j (0, 0)).1 + (P.getD j (0, 0)).2) := by
  unfold pcTexts
  simp [List.getD_eq_getElem?_getD, h]
theorem begin_part {s t : ByteArray} {p : Nat} (h : s.data.toList.take p = t.data.toList.take p) (u v : Nat) (hv : v ≤ p) : s.extract u v = t.extract u v := by
  refine ba_ext ?_
  rw [ba_part, ba_part, ← List.drop_take, ← List.drop_take]
  have e : ∀ l : List UInt8, l.take v = (l.take p).take v := fun l => by rw [List.take_take, Nat.min_eq_left hv]
  rw [e s.data.toList, e t.data.toList, h]
theorem aends_tot {c : Ctr} (hm : c.May) (s : ByteArray) (k : Nat) (hk : k < (c.aends s.data.toList).length) : (c.aends s.data.toList).getD k 0 = tot (c.atexts s) (k + 1) := by
  have hl : (c.atexts s).length = (c.aends s.data.toList).length := by unfold Ctr.atexts Ctr.acut; rw [pcTexts_length, Chu.pcs_length]
  rw [← Ctr.aendsT_is hm s]
  simp only [endsT]
  rw [List.getD_eq_getElem?_getD, List.getElem?_eq_getElem (by simp; omega)]
  simp
theorem mg1_keeps {c : Ctr} (hm : c.May) {s t : ByteArray} {p : Nat} (hs : p ≤ s.size) (ht : p ≤ t.size) (heq : s.data.toList.take p = t.data.toList.take p) (k : Nat) (hk : k + 1 < (c.atexts s).length) (h1 : tot (c.atexts s) (k + 1) ≤ p) : k < mg1 c s t := by
  have hl : ∀ z : ByteArray, (c.atexts z).length = (c.aends z.data.toList).length := fun z => by unfold Ctr.atexts Ctr.acut; rw [pcTexts_length, Chu.pcs_length]
  have hE := aends_tot hm s k (by rw [← hl]; omega)
  have hpw := (List.pairwise_cons.1 (Ctr.aends_pw hm s.data.toList)).2
  have hle := Ctr.aends_le hm s.data.toList
  have hlt : (c.aends s.data.toList).getD k 0 < s.data.toList.length := by
    rw [hl] at hk
    have h3 := List.pairwise_iff_getElem.1 hpw k (k + 1) (by omega) (by omega) (by omega)
    have h4 := hle _ (List.getElem_mem hk)
    rw [List.getD_eq_getElem?_getD, List.getElem?_eq_getElem (by omega)]
    simp only [Option.getD_some]
    omega
  have e1 : s.data.toList = s.data.toList.take p ++ s.data.toList.drop p := (List.take_append_drop _ _).symm
  have e2 : t.data.toList = s.data.toList.take p ++ t.data.toList.drop p := by rw [heq]; exact (List.take_append_drop _ _).symm
  have hal : (s.data.toList.take p).length = p := by rw [List.length_take, ba_len]; omega
  have hst := stays hm (s.data.toList.take p) (s.data.toList.drop p) (t.data.toList.drop p) k (by rw [← e1, ← hl]; omega) (by rw [← e1, hE, hal]; exact h1) (by rw [← e1]; exact hlt)
  rw [← e1, ← e2] at hst
  obtain ⟨hkt, hsame⟩ := hst
  -- the texts are alike up to k
  have htx : ∀ j, j ≤ k → (c.atexts s).getD j .empty = (c.atexts t).getD j .empty := fun j hj => by
    unfold Ctr.atexts Ctr.acut
    have hjs : j < (c.aends s.data.toList).length := by rw [← hl]; omega
    rw [texts_get _ _ _ (by rw [Chu.pcs_length]; exact hjs), texts_get _ _ _ (by rw [Chu.pcs_length]; omega), pcs_get _ _ _ hjs, pcs_get _ _ _ (by omega)]
    simp only
    have h0 : ((0 : Nat) :: c.aends t.data.toList).getD j 0 = ((0 : Nat) :: c.aends s.data.toList).getD j 0 := by
      cases j with
      | zero => rfl
      | succ j => rw [List.getD_cons_succ, List.getD_cons_succ]; exact hsame j (by omega)
    rw [h0, hsame j hj]
    refine begin_part heq _ _ ?_
    have hjk : (c.aends s.data.toList).getD j 0 ≤ (c.aends s.data.toList).getD k 0 := by
      rcases Nat.eq_or_lt_of_le hj with q | q
      · rw [q]; exact Nat.le_refl _
      · have := List.pairwise_iff_getElem.1 hpw j k hjs (by rw [← hl]; omega) q
        rw [List.getD_eq_getElem?_getD, List.getD_eq_getElem?_getD, List.getElem?_eq_getElem hjs, List.getElem?_eq_getElem (by rw [← hl]; omega)]
        simp only [Option.getD_some]
        omega
    have hbj : ((0 : Nat) :: c.aends s.data.toList).getD j 0 ≤ (c.aends s.data.toList).getD j 0 := by
      cases j with
      | zero => simp
      | succ j =>
        rw [List.getD_cons_succ]
        have := List.pairwise_iff_getElem.1 hpw j (j + 1) (by omega) hjs (by omega)
        rw [List.getD_eq_getElem?_getD, List.getD_eq_getElem?_getD, List.getElem?_eq_getElem hjs, List.getElem?_eq_getElem (by omega)]
        simp only [Option.getD_some]
        omega
    omega
  unfold mg1
  rcases Nat.lt_or_ge k (pre ByteArray.empty (c.atexts s) (c.atexts t)) with q | q
  · exact q
  · exact absurd (htx _ q) (pre_stop (by omega) (by rw [hl]; omega))
/-- what a margin says of the pieces outside of it -/
structure MgF (A B : List ByteArray) (P L : Nat) : Prop where
  le : P ≤ L ∧ L ≤ B.length
  head : ∀ k, k < P → k < A.length ∧ A.getD k .empty = B.getD k .empty
  tail : ∀ k, L ≤ k → k < B.length → B.length - k ≤ A.length ∧ A.getD (A.length - (B.length - k)) .empty = B.getD k .empty
theorem mgF (c : Ctr) (s t : ByteArray) : MgF (c.atexts s) (c.atexts t) (mg1 c s t) (mg2 c s t) := by
  have hp := pre_le ByteArray.empty (c.atexts s) (c.atexts t)
  have hs := suf_le ByteArray.empty (c.atexts s) (c.atexts t) _ hp
  refine ⟨?_, fun k hk => ?_, fun k h1 h2 => ?_⟩
  · unfold mg2 mg1; omega
  · unfold mg1 at hk
    exact ⟨by omega, pre_at hk⟩
  · unfold mg2 mg1 at h1
    have hj : (c.atexts t).length - 1 - k < suf ByteArray.empty (c.atexts s) (c.atexts t) (pre ByteArray.empty (c.atexts s) (c.atexts t)) := by omega
    have := suf_at hj
    refine ⟨by omega, ?_⟩
    rw [show (c.atexts s).length - ((c.atexts t).length - k) = (c.atexts s).length - 1 - ((c.atexts t).length - 1 - k) by omega, this, show (c.atexts t).length - 1 - ((c.atexts t).length - 1 - k) = k by omega]
theorem on_begin {e : Ed} {s : ByteArray} (h : e.May s.size) : e.a.toNat ≤ s.size ∧ e.a.toNat ≤ (e.on s).size ∧ s.data.toList.take e.a.toNat = (e.on s).data.toList.take e.a.toNat := by
  have hz := Ed.on_size h
  obtain ⟨h1, h2, h3⟩ := h
  refine ⟨by omega, by omega, ?_⟩
  unfold Ed.on app
  simp only
  rw [List.append_assoc, List.take_append_of_le_length (by rw [List.length_take, ba_len]; omega), List.take_take, Nat.min_self]
end Edt
end Go.Proofs.Ytcmlcpejlmlcfaa
