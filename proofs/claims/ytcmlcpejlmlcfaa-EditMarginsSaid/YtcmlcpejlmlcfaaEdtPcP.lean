/-
  Plain mathematics of layer 11's laws: pieces of two texts, held against each other from the beginning, and from the end.
-/
import Derived.Test.YtcmlcpejlmlcfaaEdtMgP
set_option linter.unusedVariables false
namespace Go.Proofs.Ytcmlcpejlmlcfaa
open Go.RowKit
namespace Edt
/-- the pieces of a text and their texts -/
structure PcF (s : ByteArray) (P : List Pc) (A : List ByteArray) : Prop where
  len : A.length = P.length
  at_ : ∀ k, k < P.length → (P.getD k (0, 0)).1 = tot A k
  sz : ∀ k, k < P.length → (P.getD k (0, 0)).2 = (A.getD k .empty).size
  tx : ∀ k, k < P.length → s.extract (P.getD k (0, 0)).1 ((P.getD k (0, 0)).1 + (P.getD k (0, 0)).2) = A.getD k .empty
  bd : ∀ k, k < P.length → (P.getD k (0, 0)).1 + (P.getD k (0, 0)).2 ≤ s.size
  all : tot A A.length = s.size
theorem pcF {c : Ctr} (hm : c.May) (s : ByteArray) : PcF s (c.acut s.data.toList) (c.atexts s) := by
  have hl : (c.acut s.data.toList).length = (c.aends s.data.toList).length := by unfold Ctr.acut; rw [Chu.pcs_length]
  have htl : (c.atexts s).length = (c.acut s.data.toList).length := by unfold Ctr.atexts; rw [pcTexts_length]
  have hbd : ∀ k, k < (c.acut s.data.toList).length → ((c.acut s.data.toList).getD k (0, 0)).1 + ((c.acut s.data.toList).getD k (0, 0)).2 ≤ s.size := fun k hk => by
    have := (Ctr.acut_ok hm s.data.toList _ (List.getElem_mem hk)).2
    rw [ba_len] at this
    rw [List.getD_eq_getElem?_getD, List.getElem?_eq_getElem hk]
    exact this
  have htx : ∀ k, k < (c.acut s.data.toList).length → s.extract ((c.acut s.data.toList).getD k (0, 0)).1 (((c.acut s.data.toList).getD k (0, 0)).1 + ((c.acut s.data.toList).getD k (0, 0)).2) = (c.atexts s).getD k .empty := fun k hk => (texts_get s _ k hk).symm
  refine ⟨htl, fun k hk => ?_, fun k hk => ?_, htx, hbd, ?_⟩
  · unfold Ctr.acut
    rw [pcs_get _ _ _ (by omega)]
    cases k with
    | zero => rw [tot_zero]; rfl
    | succ k => simp only; rw [List.getD_cons_succ, aends_tot hm s k (by omega)]
  · rw [← htx k hk, ByteArray.size_extract]
    have := hbd k hk
    omega
  · rcases Nat.eq_zero_or_pos s.size with h0 | h0
    · have h1 : (c.atexts s).length = 0 := by have := atexts_le hm s; omega
      rw [h1, tot_zero]; exact h0.symm
    · have hlast := Ctr.aends_last hm s.data.toList (by rw [ba_len]; exact h0)
      obtain ⟨j, hj, e⟩ := List.getElem_of_mem hlast
      have hle := Ctr.aends_le hm s.data.toList
      have hpw := (List.pairwise_cons.1 (Ctr.aends_pw hm s.data.toList)).2
      have hj1 : j + 1 = (c.aends s.data.toList).length := by
        rcases Nat.lt_or_ge (j + 1) (c.aends s.data.toList).length with g | g
        · have h1 := List.pairwise_iff_getElem.1 hpw j (j + 1) hj g (by omega)
          have h2 := hle _ (List.getElem_mem g)
          omega
        · omega
      have := aends_tot hm s j hj
      rw [List.getD_eq_getElem?_getD, List.getElem?_eq_getElem hj, Option.getD_some, e, hj1, ← hl, ← htl, ba_len] at this
      exact this.symm
theorem tot_same {A B : List ByteArray} : ∀ (k : Nat), k ≤ A.length → k ≤ B.length → (∀ j, j < k → A.getD j .empty = B.getD j .empty) → tot A k = tot B k
  | 0, _, _, _ => by rw [tot_zero, tot_zero]
  | k + 1, h1, h2, h => by
    rw [tot_succ A k (by omega), tot_succ B k (by omega), tot_same k (by omega) (by omega) (fun j hj => h j (by omega)), h k (by omega)]
theorem tot_tail {A B : List ByteArray} : ∀ (j : Nat), j ≤ A.length → j ≤ B.length → (∀ i, i < j → A.getD (A.length - 1 - i) .empty = B.getD (B.length - 1 - i) .empty) → tot A A.length + tot B (B.length - j) = tot B B.length + tot A (A.length - j)
  | 0, _, _, _ => by simp only [Nat.sub_zero]; omega
  | j + 1, h1, h2, h => by
    have ih := tot_tail j (by omega) (by omega) (fun i hi => h i (by omega))
    have ha := tot_succ A (A.length - (j + 1)) (by omega)
    have hb := tot_succ B (B.length - (j + 1)) (by omega)
    rw [show A.length - (j + 1) + 1 = A.length - j by omega] at ha
    rw [show B.length - (j + 1) + 1 = B.length - j by omega] at hb
    have he := h j (by omega)
    rw [show A.length - 1 - j = A.length - (j + 1) by omega, show B.length - 1 - j = B.length - (j + 1) by omega] at he
    rw [he] at ha
    omega
section
variable {s t : ByteArray} {PA PB : List Pc} {A B : List ByteArray}
theorem PcF.same (ha : PcF s PA A) (hb : PcF t PB B) {k : Nat} (h1 : k < PA.length) (h2 : k < PB.length) (h : ∀ j, j < k → eqL ByteArray.empty A B j = true) : (PB.getD k (0, 0)).1 = (PA.getD k (0, 0)).1 := by
  rw [ha.at_ k h1, hb.at_ k h2]
  exact (tot_same k (by rw [ha.len]; omega) (by rw [hb.len]; omega) (fun j hj => of_decide_eq_true (h j hj))).symm
theorem PcF.tail (ha : PcF s PA A) (hb : PcF t PB B) {j : Nat} (h1 : j < PA.length) (h2 : j < PB.length) (h : ∀ i, i < j → eqR ByteArray.empty A B i = true) :
    s.size + ((PB.getD (PB.length - 1 - j) (0, 0)).1 + (PB.getD (PB.length - 1 - j) (0, 0)).2) = t.size + ((PA.getD (PA.length - 1 - j) (0, 0)).1 + (PA.getD (PA.length - 1 - j) (0, 0)).2) := by
  have hl1 := ha.len
  have hl2 := hb.len
  have hk := tot_tail j (by omega) (by omega) (fun i hi => of_decide_eq_true (h i hi))
  rw [ha.all, hb.all] at hk
  rw [ha.at_ _ (by omega), hb.at_ _ (by omega), ha.sz _ (by omega), hb.sz _ (by omega)]
  have sa := tot_succ A (PA.length - 1 - j) (by omega)
  have sb := tot_succ B (PB.length - 1 - j) (by omega)
  rw [show PA.length - 1 - j + 1 = A.length - j by omega] at sa
  rw [show PB.length - 1 - j + 1 = B.length - j by omega] at sb
  omega
end
end Edt
end Go.Proofs.Ytcmlcpejlmlcfaa
