/-
  Plain mathematics of layer 9: the pieces are the text, none is too long, none but the last one too short, each cut that is less than Max behind the one ahead is a mark.
-/
import Derived.Test.YtofiimkpbbiegaaChuAlive
import Derived.Test.YtofiimkpbbiegaaChuLawP
import Derived.Lib.SmallJoins
import Derived.Lib.Explode
set_option linter.unusedVariables false
namespace Go.Proofs.Ytofiimkpbbiegaa
open Go.RowKit
namespace Chu
theorem pcs_get : ∀ (a : Nat) (l : List Nat) (i : Nat), i < l.length → (pcs a l).getD i (0, 0) = ((a :: l).getD i 0, l.getD i 0 - (a :: l).getD i 0)
  | a, [], i, h => by simp at h
  | a, e :: r, 0, h => rfl
  | a, e :: r, i + 1, h => by
    rw [pcs, List.getD_cons_succ, List.getD_cons_succ, List.getD_cons_succ]
    exact pcs_get e r i (by simpa using h)
theorem mks_mem (mk : Nat → Bool) (f i x : Nat) : x ∈ mks mk f i ↔ (f ≤ x ∧ x < i) ∧ mk x = true := by
  unfold mks
  rw [List.mem_filter, List.mem_range'_1]
  constructor
  · rintro ⟨⟨a, b⟩, c⟩; exact ⟨⟨a, by omega⟩, c⟩
  · rintro ⟨⟨a, b⟩, c⟩; exact ⟨⟨a, by omega⟩, c⟩
theorem mks_pw (mk : Nat → Bool) (f i : Nat) : (mks mk f i).Pairwise (· < ·) := by
  unfold mks
  exact List.Pairwise.filter _ List.pairwise_lt_range'
end Chu
theorem nothingT (s : ByteArray) (h : s.size = 0) : s = ⟨#[]⟩ := by
  obtain ⟨a⟩ := s
  rw [Array.eq_empty_of_size_eq_zero (show a.size = 0 from h)]
structure Til (s : ByteArray) (M : List Nat) (mn mx n nm : Nat) (T : Nat → Nat) (D P : Nat → ByteArray) : Prop where
  d1 : ∀ i, i < n → 1 ≤ (D i).size ∧ (D i).size ≤ mx ∧ T (i + 1) = T i + (D i).size ∧ T (i + 1) ≤ s.size
  d2 : ∀ i, i + 1 < n → mn ≤ (D i).size
  d3 : ∀ i, i + 1 < n → (D i).size < mx → ∀ k, k ≤ nm → (∀ j, j < k → M.getD j 0 < T (i + 1)) → (k < nm → T (i + 1) ≤ M.getD k 0) → k < nm ∧ M.getD k 0 = T (i + 1)
  p0 : P 0 = ⟨#[]⟩
  ps : ∀ i, i < n → P i ++ D i = P (i + 1)
  pz : ∀ i, i ≤ n → (P i).size = T i
  pn : P n = s
theorem extract_cat (s : ByteArray) (i j : Nat) (h : i ≤ j) (hj : j ≤ s.size) : s.extract 0 i ++ s.extract i j = s.extract 0 j := by
  have h1 := text_take s i
  have h2 := text_take s j
  have h3 : (s.extract i j).data.toList = (s.data.toList.take j).drop i := by
    rw [Lib.extract_eq]
    simp only []
    rw [← List.drop_take]
  have h4 : (s.extract 0 i ++ s.extract i j).data.toList = (s.extract 0 j).data.toList := by
    rw [show (s.extract 0 i ++ s.extract i j).data.toList = (s.extract 0 i).data.toList ++ (s.extract i j).data.toList from Go.Joins.data_append _ _, h1, h2, h3]
    have := List.take_append_drop i (s.data.toList.take j)
    rw [List.take_take, Nat.min_eq_left h] at this
    exact this
  rw [← ba_eta (s.extract 0 i ++ s.extract i j), h4, ba_eta]
theorem til_is {c : Ctr} (h : c.May) (s : ByteArray) : Til s (c.marks s.data.toList) c.mn.toNat c.mx.toNat (c.texts s).length (c.marks s.data.toList).length (tot (c.texts s)) (fun i => (c.texts s).getD i .empty) (fun i => s.extract 0 (tot (c.texts s) i)) := by
  obtain ⟨h1, h2, _, _, _⟩ := h.nat
  have hl : (c.texts s).length = (c.ends s.data.toList).length := by
    unfold Ctr.texts Ctr.cut
    rw [pcTexts_length, Chu.pcs_length]
  have hE := Ctr.endsT_is h s
  have hT : ∀ i, i < (c.texts s).length → tot (c.texts s) (i + 1) = (c.ends s.data.toList).getD i 0 := fun i hi => by
    rw [← hE]; simp [endsT, List.getD_eq_getElem?_getD, hi]
  have hT0 : ∀ i, i ≤ (c.texts s).length → tot (c.texts s) i = (0 :: c.ends s.data.toList).getD i 0 := fun i hi => by
    cases i with
    | zero => rw [tot_zero]; rfl
    | succ i => rw [hT i (by omega), List.getD_cons_succ]
  have hall : c.ends s.data.toList = Chu.all (c.isMk s.data.toList) c.mn.toNat c.mx.toNat s.size 0 := by rw [Ctr.ends_all, ba_len]
  have hnx : ∀ i, i < (c.texts s).length → tot (c.texts s) (i + 1) = Chu.nxt (c.isMk s.data.toList) c.mn.toNat c.mx.toNat s.size (tot (c.texts s) i) ∧ tot (c.texts s) i < s.size := fun i hi => by
    have := Chu.all_get (mk := c.isMk s.data.toList) (len := s.size) h1 h2 i 0 (by rw [← hall, ← hl]; exact hi)
    rw [← hall] at this
    rw [hT i hi, hT0 i (by omega)]
    exact this
  have hrg : ∀ i, i < (c.texts s).length → tot (c.texts s) i < tot (c.texts s) (i + 1) ∧ tot (c.texts s) (i + 1) ≤ tot (c.texts s) i + c.mx.toNat ∧ tot (c.texts s) (i + 1) ≤ s.size := fun i hi => by
    obtain ⟨e, hlt⟩ := hnx i hi
    rw [e]
    exact Chu.nxt_range h1 h2 hlt
  have hlast : ∀ i, i < (c.texts s).length → (i + 1 = (c.texts s).length ↔ tot (c.texts s) (i + 1) = s.size) := fun i hi => by
    have := Chu.all_last (mk := c.isMk s.data.toList) (len := s.size) h1 h2 (i := i) (a := 0) (by rw [← hall, ← hl]; exact hi)
    rw [← hall, ← hl] at this
    rw [hT i hi]; exact this
  have hD : ∀ i, i < (c.texts s).length → (c.texts s).getD i .empty = s.extract (tot (c.texts s) i) (tot (c.texts s) (i + 1)) := fun i hi => by
    have hp := Chu.pcs_get 0 (c.ends s.data.toList) i (by rw [← hl]; exact hi)
    rw [← hT0 i (by omega), ← hT i hi] at hp
    have e : (c.texts s).getD i .empty = s.extract ((c.cut s.data.toList).getD i (0, 0)).1 (((c.cut s.data.toList).getD i (0, 0)).1 + ((c.cut s.data.toList).getD i (0, 0)).2) := by
      have hi' : i < (c.cut s.data.toList).length := by unfold Ctr.cut; rw [Chu.pcs_length, ← hl]; exact hi
      unfold Ctr.texts pcTexts
      simp [List.getD_eq_getElem?_getD, hi']
    rw [e]
    unfold Ctr.cut
    rw [hp]
    have := hrg i hi
    simp only
    rw [show tot (c.texts s) i + (tot (c.texts s) (i + 1) - tot (c.texts s) i) = tot (c.texts s) (i + 1) by omega]
  have hDz : ∀ i, i < (c.texts s).length → ((c.texts s).getD i .empty).size = tot (c.texts s) (i + 1) - tot (c.texts s) i := fun i hi => by
    have := hrg i hi
    rw [hD i hi, ByteArray.size_extract]
    omega
  have hTle := Ctr.tot_le h s
  refine ⟨fun i hi => ?_, fun i hi => ?_, fun i hi hd k hk hb hg => ?_, ?_, fun i hi => ?_, fun i hi => ?_, ?_⟩
  · have := hrg i hi
    rw [hDz i hi]
    omega
  · have a := hnx i (by omega)
    have b := hlast i (by omega)
    rw [hDz i (by omega)]
    rcases Chu.nxt_lo (mk := c.isMk s.data.toList) (mn := c.mn.toNat) (mx := c.mx.toNat) (len := s.size) (at_ := tot (c.texts s) i) h2 with e | e
    · rw [← a.1] at e
      have := b.2 e
      omega
    · rw [← a.1] at e
      omega
  · show k < _ ∧ _
    have a := hnx i (by omega)
    have b := hlast i (by omega)
    have r := hrg i (by omega)
    rw [hDz i (by omega)] at hd
    have hm : c.isMk s.data.toList (tot (c.texts s) (i + 1)) = true := by
      have e1 : tot (c.texts s) (i + 1) ≠ s.size := fun e => by have := b.2 e; omega
      rw [a.1] at hd r e1 ⊢
      exact Chu.nxt_mark (by omega) (by omega)
    have hmem : tot (c.texts s) (i + 1) ∈ c.marks s.data.toList := by
      rw [show c.marks s.data.toList = Chu.mks (c.isMk s.data.toList) 1 (s.size + 1) by unfold Ctr.marks; rw [ba_len], Chu.mks_mem]
      exact ⟨⟨by omega, by omega⟩, hm⟩
    have hpw : (c.marks s.data.toList).Pairwise (· < ·) := Chu.mks_pw _ _ _
    generalize c.marks s.data.toList = M at *
    generalize tot (c.texts s) (i + 1) = x at *
    obtain ⟨j, hj, rfl⟩ := List.getElem_of_mem hmem
    have hkj : k ≤ j := by
      rcases Nat.lt_or_ge j k with q | q
      · have := hb j q
        rw [List.getD_eq_getElem?_getD, List.getElem?_eq_getElem hj] at this
        simp at this
      · exact q
    refine ⟨by omega, ?_⟩
    have hk' : k < M.length := by omega
    have h5 := hg hk'
    rw [List.getD_eq_getElem?_getD, List.getElem?_eq_getElem hk'] at h5 ⊢
    simp only [Option.getD_some] at h5 ⊢
    rcases Nat.lt_or_ge k j with q | q
    · have := List.pairwise_iff_getElem.1 hpw k j hk' hj q
      omega
    · have : k = j := by omega
      subst this
      rfl
  · simp only [tot_zero]
    exact nothingT _ (by rw [ByteArray.size_extract]; omega)
  · have r := hrg i hi
    show s.extract 0 (tot (c.texts s) i) ++ (c.texts s).getD i .empty = s.extract 0 (tot (c.texts s) (i + 1))
    rw [hD i hi]
    exact extract_cat s _ _ (by omega) r.2.2
  · have := hTle i hi
    show (s.extract 0 (tot (c.texts s) i)).size = _
    rw [ByteArray.size_extract]
    omega
  · show s.extract 0 (tot (c.texts s) (c.texts s).length) = s
    have hn : tot (c.texts s) (c.texts s).length = s.size := by
      rcases Nat.eq_zero_or_pos (c.texts s).length with e | e
      · rw [e, tot_zero]
        have e2 : (Chu.all (c.isMk s.data.toList) c.mn.toNat c.mx.toNat s.size 0).length = 0 := by rw [← hall, ← hl, e]
        rcases Nat.eq_zero_or_pos s.size with q | q
        · exact q.symm
        · rw [Chu.all_cons h1 h2 q] at e2; simp at e2
      · have := (hlast ((c.texts s).length - 1) (by omega)).1 (by omega)
        rw [show (c.texts s).length - 1 + 1 = (c.texts s).length by omega] at this
        exact this
    rw [hn]
    exact Go.Lib.whole_piece s
end Go.Proofs.Ytofiimkpbbiegaa
