/-
  Plain mathematics of layer 10: the aligned pieces are the text, each whole records, none too long; their records are the text's.
-/
import Derived.Test.YtcmlcpejlmlcfaaLinB
set_option linter.unusedVariables false
namespace Go.Proofs.Ytcmlcpejlmlcfaa
open Go.RowKit
namespace Lin
theorem al_mono {l : List UInt8} {a b : Nat} (h : a ≤ b) : al l a ≤ al l b := by
  rcases Nat.lt_or_ge l.length (max b 1) with hb | hb
  · rw [Lin.al_big hb]; exact Lin.al_le _ _
  · obtain ⟨h1, h2, h3, h4⟩ := Lin.al_range hb
    obtain ⟨g1, g2, g3, g4⟩ := Lin.al_range (l := l) (a := a) (by omega)
    rcases Nat.lt_or_ge (al l b) (al l a) with q | q
    · rw [g4 _ (by omega) q] at h3; cases h3
    · exact q
theorem al_end {l : List UInt8} {c a : Nat} (h1 : 1 ≤ c) (h2 : c ≤ a) (h3 : a ≤ l.length) (h4 : isE l a = true) : al l c ≤ a := by
  obtain ⟨g1, g2, g3, g4⟩ := Lin.al_range (l := l) (a := c) (by omega)
  rcases Nat.lt_or_ge a (al l c) with q | q
  · rw [g4 a (by omega) q] at h4; cases h4
  · exact q
theorem acut_mem {l : List UInt8} : ∀ (cs : List Nat) (a : Nat), (∀ x ∈ cs, 1 ≤ x ∧ x ≤ l.length) → cs.Pairwise (· ≤ ·) → (a = 0 ∨ (isE l a = true ∧ a ≤ l.length)) → ∀ x, x ∈ acut l a cs ↔ a < x ∧ ∃ c ∈ cs, al l c = x
  | [], a, _, _, _, x => by simp [acut]
  | c :: r, a, h1, h2, h3, x => by
    have hc := h1 c (by simp)
    have hr := Lin.al_range (l := l) (a := c) (by omega)
    have h2' := List.pairwise_cons.1 h2
    unfold acut
    by_cases h : a < c
    · rw [if_pos h, List.mem_cons, acut_mem r (al l c) (fun y hy => h1 y (by simp [hy])) h2'.2 (.inr ⟨hr.2.2.1, hr.2.1⟩)]
      constructor
      · rintro (e | ⟨e, c', hc', e'⟩)
        · exact ⟨by omega, c, by simp, e.symm⟩
        · exact ⟨by omega, c', by simp [hc'], e'⟩
      · rintro ⟨e, c', hc', e'⟩
        rcases List.mem_cons.1 hc' with rfl | hc'
        · exact .inl e'.symm
        · have := al_mono (l := l) (h2'.1 c' hc')
          rcases Nat.lt_or_ge (al l c) x with q | q
          · exact .inr ⟨q, c', hc', e'⟩
          · exact .inl (by omega)
    · rw [if_neg h, acut_mem r a (fun y hy => h1 y (by simp [hy])) h2'.2 h3]
      constructor
      · rintro ⟨e, c', hc', e'⟩
        exact ⟨e, c', by simp [hc'], e'⟩
      · rintro ⟨e, c', hc', e'⟩
        rcases List.mem_cons.1 hc' with rfl | hc'
        · rcases h3 with h3 | h3
          · omega
          · have := al_end hc.1 (by omega) h3.2 h3.1; omega
        · exact ⟨e, c', hc', e'⟩
end Lin
/-- a cut not far behind any place -/
theorem Chu.cut_near {mk : Nat → Bool} {mn mx len : Nat} (h1 : 1 ≤ mn) (h2 : mn ≤ mx) : ∀ (f i a : Nat), a - i ≤ f → i ≤ a → a < len → ∃ c ∈ Chu.all mk mn mx len i, a < c ∧ c ≤ a + mx
  | f, i, a, hf, hi, ha => by
    have hr := Chu.nxt_range (mk := mk) h1 h2 (show i < len by omega)
    rw [Chu.all_cons h1 h2 (by omega)]
    rcases Nat.lt_or_ge a (Chu.nxt mk mn mx len i) with q | q
    · exact ⟨_, by simp, q, by omega⟩
    · cases f with
      | zero => omega
      | succ f =>
        obtain ⟨c, hc, e⟩ := Chu.cut_near (mk := mk) h1 h2 f (Chu.nxt mk mn mx len i) a (by omega) q ha
        exact ⟨c, by simp [hc], e⟩
theorem Ctr.ends_pwl {c : Ctr} (h : c.May) (l : List UInt8) : (c.ends l).Pairwise (· ≤ ·) := (List.pairwise_cons.1 (ends_pw (mk := c.isMk l) (len := l.length) h.nat.1 h.nat.2.1 l.length 0)).2
theorem Ctr.aends_mem {c : Ctr} (h : c.May) (l : List UInt8) (x : Nat) : x ∈ c.aends l ↔ 0 < x ∧ ∃ e ∈ c.ends l, Lin.al l e = x :=
  Lin.acut_mem _ 0 (fun x hx => by have := Ctr.ends_range h l x hx; omega) (Ctr.ends_pwl h l) (.inl rfl) x
theorem Ctr.aends_isE {c : Ctr} (h : c.May) (l : List UInt8) : ∀ x ∈ c.aends l, Lin.isE l x = true := fun x hx => by
  obtain ⟨_, e, he, rfl⟩ := (Ctr.aends_mem h l x).1 hx
  have := Ctr.ends_range h l e he
  exact (Lin.al_range (l := l) (a := e) (by omega)).2.2.1
theorem Ctr.aends_last {c : Ctr} (h : c.May) (l : List UInt8) (h0 : 0 < l.length) : l.length ∈ c.aends l := by
  obtain ⟨e, he, h1, h2⟩ := Chu.cut_near (mk := c.isMk l) (len := l.length) h.nat.1 h.nat.2.1 l.length 0 (l.length - 1) (by omega) (by omega) (by omega)
  have hr := Ctr.ends_range h l e he
  exact (Ctr.aends_mem h l _).2 ⟨h0, e, he, Lin.al_eq (by omega) (Nat.le_refl _) (Lin.isE_len l) (fun j a b => by omega)⟩
/-- the longest record is not shorter than the one around any place -/
theorem lg_ge (s : ByteArray) (c : Nat) (hc : 1 ≤ c) (hcs : c ≤ s.size) : ∀ (f i : Nat), c - i ≤ f → i < c → Lin.al s.data.toList c + 1 ≤ lg (recsF s i) + c
  | 0, i, hf, hi => by omega
  | f + 1, i, hf, hi => by
    have hl := ba_len s
    obtain ⟨g1, g2, g3, g4⟩ := Lin.al_range (l := s.data.toList) (a := i + 1) (by omega)
    rw [recsF_next (by omega), lg, ByteArray.size_extract]
    rcases Nat.lt_or_ge (Lin.al s.data.toList (i + 1)) c with q | q
    · have := lg_ge s c hc hcs f (Lin.al s.data.toList (i + 1)) (by omega) q
      omega
    · have h1 := Lin.al_end (l := s.data.toList) hc q (by omega) g3
      omega
theorem ends_get {E : List Nat} (h : (0 :: E).Pairwise (· < ·)) {i : Nat} (hi : i < E.length) : (0 :: E).getD i 0 < (0 :: E).getD (i + 1) 0 ∧ ∀ x ∈ E, (0 :: E).getD i 0 < x → (0 :: E).getD (i + 1) 0 ≤ x := by
  have hlt : ∀ j k (hj : j < (0 :: E).length) (hk : k < (0 :: E).length), j < k → (0 :: E)[j] < (0 :: E)[k] := fun j k hj hk q => List.pairwise_iff_getElem.1 h j k hj hk q
  have e1 : (0 :: E).getD i 0 = (0 :: E)[i]'(by simp; omega) := by rw [List.getD_eq_getElem?_getD, List.getElem?_eq_getElem (by simp; omega)]; rfl
  have e2 : (0 :: E).getD (i + 1) 0 = (0 :: E)[i + 1]'(by simp; omega) := by rw [List.getD_eq_getElem?_getD, List.getElem?_eq_getElem (by simp; omega)]; rfl
  refine ⟨by rw [e1, e2]; exact hlt _ _ _ _ (by omega), fun x hx hq => ?_⟩
  obtain ⟨j, hj, rfl⟩ := List.getElem_of_mem (List.mem_cons_of_mem 0 hx)
  rw [e1] at hq
  rw [e2]
  rcases Nat.lt_or_ge j (i + 1) with q | q
  · rcases Nat.lt_or_ge i j with q2 | q2
    · omega
    · rcases Nat.lt_or_ge j i with q3 | q3
      · have := hlt j i hj (by simp; omega) q3; omega
      · have : j = i := by omega
        subst this; omega
  · rcases Nat.lt_or_ge (i + 1) j with q2 | q2
    · have := hlt (i + 1) j (by simp; omega) hj q2; omega
    · have : j = i + 1 := by omega
      subst this; exact Nat.le_refl _
/-- the records of a part that ends where a record does -/
theorem recs_part (s : ByteArray) (a b : Nat) (hb : b ≤ s.size) (hE : Lin.isE s.data.toList b = true) : ∀ (f i : Nat), b - (a + i) ≤ f → a + i ≤ b → recsF (s.extract a b) i ++ recsF s b = recsF s (a + i)
  | f, i, hf, hi => by
    have hl := ba_len s
    have hz : (s.extract a b).size = b - a := by rw [ByteArray.size_extract]; omega
    have hl' := ba_len (s.extract a b)
    rcases Nat.lt_or_ge (a + i) b with q | q
    · have hget : ∀ j, j < b - a → (s.extract a b).data.toList.getD j 0 = s.data.toList.getD (a + j) 0 := fun j hj => by
        rw [Lib.extract_eq]
        simp only [List.getD_eq_getElem?_getD]
        rw [List.getElem?_take, if_pos (by omega), List.getElem?_drop]
      have hisE : ∀ j, 1 ≤ j → j ≤ b - a → Lin.isE (s.extract a b).data.toList j = Lin.isE s.data.toList (a + j) := fun j h1 h2 => by
        rcases Nat.lt_or_ge j (b - a) with q1 | q1
        · unfold Lin.isE
          rw [hget (j - 1) (by omega), show a + (j - 1) = a + j - 1 by omega]
          have e1 : (j == (s.extract a b).data.toList.length) = false := by simp only [beq_eq_false_iff_ne]; omega
          have e2 : (a + j == s.data.toList.length) = false := by simp only [beq_eq_false_iff_ne]; omega
          rw [e1, e2]
        · have e : j = b - a := by omega
          rw [e, show a + (b - a) = b by omega, hE]
          have := Lin.isE_len (s.extract a b).data.toList
          rw [hl', hz] at this; exact this
      obtain ⟨g1, g2, g3, g4⟩ := Lin.al_range (l := (s.extract a b).data.toList) (a := i + 1) (by omega)
      have hal : Lin.al s.data.toList (a + i + 1) = a + Lin.al (s.extract a b).data.toList (i + 1) := by
        refine Lin.al_eq (by omega) (by omega) (by rw [← hisE _ (by omega) (by omega)]; exact g3) (fun j h1 h2 => ?_)
        have := g4 (j - a) (by omega) (by omega)
        rw [hisE _ (by omega) (by omega), show a + (j - a) = j by omega] at this
        exact this
      rw [recsF_next (s := s) (i := a + i) (by omega), recsF_next (s := s.extract a b) (i := i) (by omega), hal]
      generalize Lin.al (s.extract a b).data.toList (i + 1) = r at *
      cases f with
      | zero => omega
      | succ f =>
        rw [List.cons_append, recs_part s a b hb hE f r (by omega) (by omega), ByteArray.extract_extract, show min (a + r) b = a + r by omega]
    · rw [recsF_nil (by omega), show b = a + i by omega]; rfl
theorem recs_pcs (s : ByteArray) : ∀ (a : Nat) (E : List Nat), (a :: E).Pairwise (· < ·) → (∀ x ∈ E, x ≤ s.size ∧ Lin.isE s.data.toList x = true) → recsF s a = (pcTexts s (Chu.pcs a E)).flatMap recs ++ recsF s ((a :: E).getD E.length 0)
  | a, [], _, _ => by simp [Chu.pcs, pcTexts]
  | a, e :: r, h1, h2 => by
    have h1' := List.pairwise_cons.1 h1
    have hae := h1'.1 e (by simp)
    have ih := recs_pcs s e r h1'.2 (fun x hx => h2 x (by simp [hx]))
    have he := h2 e (by simp)
    have hp := recs_part s a e he.1 he.2 (e - a) 0 (by omega) (by omega)
    have e1 : pcTexts s (Chu.pcs a (e :: r)) = s.extract a (a + (e - a)) :: pcTexts s (Chu.pcs e r) := rfl
    rw [e1, List.flatMap_cons, List.append_assoc, List.length_cons, List.getD_cons_succ, ← ih, show a + (e - a) = e by omega]
    exact hp.symm
/-- what LinesTile asks of the pieces -/
structure Til10 (s : ByteArray) (mx G n : Nat) (T : Nat → Nat) (D P : Nat → ByteArray) (RS : Nat → List ByteArray) : Prop where
  d1 : ∀ i, i < n → 1 ≤ (D i).size ∧ (D i).size < mx + G ∧ T (i + 1) = T i + (D i).size ∧ T (i + 1) ≤ s.size
  d2 : ∀ i, i + 1 < n → ((D i).data.toList.getD ((D i).size - 1) 0).toNat = 10
  p0 : P 0 = ⟨#[]⟩
  ps : ∀ i, i < n → P i ++ D i = P (i + 1)
  pz : ∀ i, i ≤ n → (P i).size = T i
  pn : P n = s
  r0 : RS 0 = []
  rs : ∀ i, i < n → RS (i + 1) = RS i ++ recs (D i)
  rl : ∀ i, i ≤ n → (RS i).length ≤ s.size
  rn : RS n = recs s
theorem til10_is {c : Ctr} (h : c.May) (s : ByteArray) : Til10 s c.mx.toNat (lg (recs s)) (c.atexts s).length (fun i => (0 :: c.aends s.data.toList).getD i 0) (fun i => (c.atexts s).getD i .empty) (fun i => s.extract 0 ((0 :: c.aends s.data.toList).getD i 0)) (fun i => ((c.atexts s).take i).flatMap recs) := by
  have hl := ba_len s
  obtain ⟨h1, h2, _, _, _⟩ := h.nat
  have hn : (c.atexts s).length = (c.aends s.data.toList).length := by
    unfold Ctr.atexts Ctr.acut
    rw [pcTexts_length, Chu.pcs_length]
  have hpw := Ctr.aends_pw h s.data.toList
  have hle := Ctr.aends_le h s.data.toList
  have hisE := Ctr.aends_isE h s.data.toList
  have hmem := Ctr.aends_mem h s.data.toList
  have hD : ∀ i, i < (c.atexts s).length → (c.atexts s).getD i .empty = s.extract ((0 :: c.aends s.data.toList).getD i 0) ((0 :: c.aends s.data.toList).getD (i + 1) 0) := fun i hi => by
    have hp := Chu.pcs_get 0 (c.aends s.data.toList) i (by rw [← hn]; exact hi)
    have hg := (ends_get hpw (i := i) (by rw [← hn]; exact hi)).1
    have e : (c.atexts s).getD i .empty = s.extract ((c.acut s.data.toList).getD i (0, 0)).1 (((c.acut s.data.toList).getD i (0, 0)).1 + ((c.acut s.data.toList).getD i (0, 0)).2) := by
      have hi' : i < (c.acut s.data.toList).length := by unfold Ctr.acut; rw [Chu.pcs_length, ← hn]; exact hi
      unfold Ctr.atexts pcTexts
      simp [List.getD_eq_getElem?_getD, hi']
    rw [e]
    unfold Ctr.acut
    rw [hp]
    simp only
    rw [List.getD_cons_succ] at hg ⊢
    rw [show (0 :: c.aends s.data.toList).getD i 0 + ((c.aends s.data.toList).getD i 0 - (0 :: c.aends s.data.toList).getD i 0) = (c.aends s.data.toList).getD i 0 by omega]
  have hTm : ∀ i, i < (c.aends s.data.toList).length → (0 :: c.aends s.data.toList).getD (i + 1) 0 ∈ c.aends s.data.toList := fun i hi => by
    rw [List.getD_cons_succ, List.getD_eq_getElem?_getD, List.getElem?_eq_getElem hi]; exact List.getElem_mem hi
  have hlast : (0 :: c.aends s.data.toList).getD (c.aends s.data.toList).length 0 = s.size := by
    rcases Nat.eq_zero_or_pos s.size with q | q
    · have : c.aends s.data.toList = [] := by
        apply List.eq_nil_of_length_eq_zero
        have := Ctr.aends_len h s.data.toList
        omega
      rw [this]; simp [q]
    · have hm := Ctr.aends_last h s.data.toList (by omega)
      rw [hl] at hm
      obtain ⟨m, hm2⟩ : ∃ m, (c.aends s.data.toList).length = m + 1 := ⟨(c.aends s.data.toList).length - 1, by have := List.length_pos_of_mem hm; omega⟩
      have hT := hTm m (by omega)
      have hT2 := hle _ hT
      rw [hm2]
      rcases Nat.lt_or_ge ((0 :: c.aends s.data.toList).getD (m + 1) 0) s.size with g | g
      · obtain ⟨j, hj, e⟩ := List.getElem_of_mem hm
        have hj2 : (0 :: c.aends s.data.toList)[j + 1]'(by simp; omega) = s.size := by simpa using e
        have hm3 : (0 :: c.aends s.data.toList).getD (m + 1) 0 = (0 :: c.aends s.data.toList)[m + 1]'(by simp; omega) := by rw [List.getD_eq_getElem?_getD, List.getElem?_eq_getElem (by simp; omega)]; rfl
        rcases Nat.lt_or_ge j m with q2 | q2
        · have := List.pairwise_iff_getElem.1 hpw (j + 1) (m + 1) (by simp; omega) (by simp; omega) (by omega)
          omega
        · have : j = m := by omega
          subst this
          omega
      · omega
  have hstep : ∀ i, i < (c.atexts s).length → (0 :: c.aends s.data.toList).getD i 0 < (0 :: c.aends s.data.toList).getD (i + 1) 0 ∧ (0 :: c.aends s.data.toList).getD (i + 1) 0 ≤ s.size := fun i hi => by
    refine ⟨(ends_get hpw (by rw [← hn]; exact hi)).1, ?_⟩
    have := hle _ (hTm i (by rw [← hn]; exact hi))
    omega
  have hDz : ∀ i, i < (c.atexts s).length → ((c.atexts s).getD i .empty).size = (0 :: c.aends s.data.toList).getD (i + 1) 0 - (0 :: c.aends s.data.toList).getD i 0 := fun i hi => by
    have := hstep i hi
    rw [hD i hi, ByteArray.size_extract]
    omega
  have hTle : ∀ i, i ≤ (c.atexts s).length → (0 :: c.aends s.data.toList).getD i 0 ≤ s.size := fun i hi => by
    cases i with
    | zero => simp
    | succ i => exact (hstep i (by omega)).2
  have hflat : recs s = (c.atexts s).flatMap recs := by
    have := recs_pcs s 0 (c.aends s.data.toList) hpw (fun x hx => ⟨by rw [← hl]; exact hle x hx, hisE x hx⟩)
    rw [hlast, recsF_nil (Nat.le_refl _), List.append_nil] at this
    exact this
  refine ⟨fun i hi => ?_, fun i hi => ?_, ?_, fun i hi => ?_, fun i hi => ?_, ?_, rfl, fun i hi => ?_, fun i hi => ?_, ?_⟩
  · have hs := hstep i hi
    have hz := hDz i hi
    refine ⟨by omega, ?_, by omega, hs.2⟩
    obtain ⟨e, he, q1, q2⟩ := Chu.cut_near (mk := c.isMk s.data.toList) (len := s.data.toList.length) h1 h2 s.data.toList.length 0 ((0 :: c.aends s.data.toList).getD i 0) (by have := hs.2; omega) (by omega) (by have := hs.2; omega)
    have her := Ctr.ends_range h s.data.toList e he
    have hal := Lin.al_range (l := s.data.toList) (a := e) (by omega)
    have hnx := (ends_get hpw (i := i) (by rw [← hn]; exact hi)).2 _ ((hmem _).2 ⟨by omega, e, he, rfl⟩) (by omega)
    have hg := lg_ge s e her.1 (by omega) e 0 (by omega) her.1
    rw [show recsF s 0 = recs s from rfl] at hg
    simp only [hz]
    omega
  · have hs := hstep i (by omega)
    have hs2 := hstep (i + 1) hi
    have hz := hDz i (by omega)
    have hT := hTm i (by omega)
    have hE := hisE _ hT
    unfold Lin.isE at hE
    have hne : ((0 :: c.aends s.data.toList).getD (i + 1) 0 == s.data.toList.length) = false := by simp only [beq_eq_false_iff_ne]; omega
    rw [hne, Bool.false_or, beq_iff_eq] at hE
    simp only [hz]
    rw [hD i (by omega), Lib.extract_eq]
    simp only [List.getD_eq_getElem?_getD] at hE hs hs2 ⊢
    rw [List.getElem?_take, if_pos (by omega), List.getElem?_drop]
    rw [show (0 :: c.aends s.data.toList)[i]?.getD 0 + ((0 :: c.aends s.data.toList)[i + 1]?.getD 0 - (0 :: c.aends s.data.toList)[i]?.getD 0 - 1) = (0 :: c.aends s.data.toList)[i + 1]?.getD 0 - 1 by omega, hE]
    rfl
  · exact nothingT _ (by rw [ByteArray.size_extract]; simp)
  · have hs := hstep i hi
    show s.extract 0 _ ++ (c.atexts s).getD i .empty = s.extract 0 _
    rw [hD i hi]
    exact extract_cat s _ _ (by omega) hs.2
  · have := hTle i hi
    show (s.extract 0 _).size = _
    rw [ByteArray.size_extract]
    omega
  · show s.extract 0 _ = s
    rw [hn, hlast]
    exact Go.Lib.whole_piece s
  · show ((c.atexts s).take (i + 1)).flatMap recs = _
    rw [List.take_succ_eq_append_getElem hi, List.flatMap_append]
    simp [List.getD_eq_getElem?_getD, hi]
  · show (((c.atexts s).take i).flatMap recs).length ≤ s.size
    have hrl : (recs s).length ≤ s.size := recsF_len s 0
    rw [hflat] at hrl
    have := List.take_append_drop i (c.atexts s)
    have e : ((c.atexts s).flatMap recs).length = (((c.atexts s).take i).flatMap recs).length + (((c.atexts s).drop i).flatMap recs).length := by
      rw [← List.length_append, ← List.flatMap_append, this]
    omega
  · show ((c.atexts s).take (c.atexts s).length).flatMap recs = recs s
    rw [List.take_length, hflat]
end Go.Proofs.Ytcmlcpejlmlcfaa
