/-
  Programs that are let be, as plain mathematics: each block has its end behind it, blocks lie within each other, and the kinds at an end are those at which its block was opened.
-/
import Derived.Test.YtolldoclnfnceaaDoorVerPure
set_option linter.unusedVariables false
namespace Go.Proofs.YtolldoclnfnceaaDoor
namespace Ver

def codeOp (cs : List Cod.In) (j : Nat) : Nat := (cs.getD j (0, 0)).1.toNat
def opens (op : Nat) : Bool := decide (op = 19) || (decide (op = 22) || decide (op = 20))
theorem getD_set {l : List Nat} {i j v d : Nat} (hi : i < l.length) : (l.set i v).getD j d = if i = j then v else l.getD j d := by
  rw [List.getD_eq_getElem?_getD, List.getElem?_set]
  by_cases e : i = j
  · rw [if_pos e, if_pos e, if_pos hi]; rfl
  · rw [if_neg e, if_neg e, List.getD_eq_getElem?_getD]
theorem getD_snoc_lt {α : Type} {l : List α} {x d : α} {j : Nat} (h : j < l.length) : (l ++ [x]).getD j d = l.getD j d := by
  rw [List.getD_eq_getElem?_getD, List.getElem?_append_left h, ← List.getD_eq_getElem?_getD]
theorem getD_snoc_eq {α : Type} {l : List α} {x d : α} {j : Nat} (h : j = l.length) : (l ++ [x]).getD j d = x := by
  rw [List.getD_eq_getElem?_getD, List.getElem?_append_right (by omega), h, Nat.sub_self]; rfl

/-- an open block, ahead of instruction i -/
structure BOk (cs : List Cod.In) (seen : List (List UInt8)) (i : Nat) (b : Blk) : Prop where
  lt : b.at_ < i
  n : b.at_ < cs.length
  len : b.opn.length ≤ 16
  did : b.did = true → codeOp cs b.at_ = 20 ∧ seen.getD b.at_ [] = b.kept
  op : b.did = false → codeOp cs b.at_ = b.op
  not : b.did = false → (codeOp cs b.at_ = 19 ∨ codeOp cs b.at_ = 22) ∧ b.opn = (seen.getD b.at_ []).take ((seen.getD b.at_ []).length - 1)
structure Inv (cs : List Cod.In) (i : Nat) (s : St) : Prop where
  seen : s.seen.length = i
  ends : s.ends.length = cs.length
  k : s.k.length ≤ 16
  deep : s.deep ≤ 16
  ks : ∀ j, j < i → (s.seen.getD j []).length ≤ 16
  bl : ∀ b ∈ s.bl, BOk cs s.seen i b
  pw : s.bl.Pairwise fun b c => c.at_ < b.at_
  later : ∀ j, i ≤ j → s.ends.getD j 0 = 0
  done : ∀ j, j < i → (∀ b ∈ s.bl, b.at_ ≠ j) → (opens (codeOp cs j) = true → j < s.ends.getD j 0 ∧ s.ends.getD j 0 < i) ∧ (opens (codeOp cs j) = false → s.ends.getD j 0 = 0)
theorem Inv.init (cs : List Cod.In) : Inv cs 0 (St.init cs.length) := by
  refine ⟨rfl, by simp [St.init], Nat.zero_le _, Nat.zero_le _, fun j hj => by omega, fun b hb => by simp [St.init] at hb, List.Pairwise.nil, fun j _ => ?_, fun j hj => by omega⟩
  simp only [St.init, List.getD_eq_getElem?_getD, List.getElem?_replicate]
  split <;> rfl
theorem BOk.next {cs : List Cod.In} {seen : List (List UInt8)} {i : Nat} {b : Blk} {x : List UInt8} (h : BOk cs seen i b) (hs : seen.length = i) : BOk cs (seen ++ [x]) (i + 1) b := by
  have e : (seen ++ [x]).getD b.at_ [] = seen.getD b.at_ [] := getD_snoc_lt (by rw [hs]; exact h.lt)
  exact ⟨Nat.lt_succ_of_lt h.lt, h.n, h.len, by rw [e]; exact h.did, h.op, by rw [e]; exact h.not⟩

/-- what an instruction that is not wrong leaves -/
theorem step_parts {nt role i op a : Nat} {s t : St} (h : step nt role i op a s = .ok t) :
    ahead nt role s.bl op a = 0 ∧ wrong s.k op a = 0 ∧ ∃ u, turn i op { s with k := left_ s.k op a, seen := s.seen ++ [s.k] } = .ok u ∧ t = { u with deep := max u.deep u.k.length } := by
  unfold step at h
  by_cases h1 : ahead nt role s.bl op a ≠ 0
  · rw [if_pos h1] at h; cases h
  · rw [if_neg h1] at h
    by_cases h2 : wrong s.k op a ≠ 0
    · rw [if_pos h2] at h; cases h
    · rw [if_neg h2] at h
      split at h
      · cases h
      · rename_i u hu
        cases h
        exact ⟨Decidable.of_not_not h1, Decidable.of_not_not h2, u, hu, rfl⟩
theorem wrong_len {k : List UInt8} {op a : Nat} (h : wrong k op a = 0) : (left_ k op a).length + more op ≤ 16 ∧ (takes op a).length ≤ k.length := by
  unfold wrong at h
  by_cases h1 : k.length < (takes op a).length
  · rw [if_pos h1] at h; cases h
  · rw [if_neg h1] at h
    by_cases h2 : fits (takes op a) (k.drop (k.length - (takes op a).length)) = false
    · rw [if_pos h2] at h; cases h
    · rw [if_neg h2] at h
      by_cases h3 : 16 < (left_ k op a).length + more op
      · rw [if_pos h3] at h; cases h
      · omega
theorem left_if (k : List UInt8) (a : Nat) : left_ k 19 a = k.take (k.length - 1) := by
  show k.take (k.length - 1) ++ [] = _
  rw [List.append_nil]
theorem left_each (k : List UInt8) (a : Nat) : left_ k 22 a = k.take (k.length - 1) := by
  show k.take (k.length - 1) ++ [] = _
  rw [List.append_nil]
theorem left_else (k : List UInt8) (a : Nat) : left_ k 20 a = k := by
  show k.take (k.length - 0) ++ [] = _
  rw [List.append_nil, Nat.sub_zero, List.take_length]
theorem left_end (k : List UInt8) (a : Nat) : left_ k 21 a = k := by
  show k.take (k.length - 0) ++ [] = _
  rw [List.append_nil, Nat.sub_zero, List.take_length]
theorem ahead_else {nt role a : Nat} {b : Blk} {r : List Blk} (h : ahead nt role (b :: r) 20 a = 0) : b.op = 19 ∧ b.did = false := by
  have h' : (if b.op = 19 ∧ b.did = false then 0 else 132) = 0 := h
  by_cases c : b.op = 19 ∧ b.did = false
  · exact c
  · rw [if_neg c] at h'; cases h'

/-- how the open blocks' places go on -/
def nextO (op i : Nat) (o : List Nat) : List Nat :=
  if op = 20 then i :: o.tail else if op = 21 then o.tail else if op = 19 ∨ op = 22 then i :: o else o
structure Went (cs : List Cod.In) (i : Nat) (s t : St) : Prop where
  inv : Inv cs (i + 1) t
  o : t.bl.map (·.at_) = nextO (codeOp cs i) i (s.bl.map (·.at_))
  seen : t.seen = s.seen ++ [s.k]
  keep : ∀ j, j < i → (∀ b ∈ s.bl, b.at_ ≠ j) → t.ends.getD j 0 = s.ends.getD j 0
  cut : codeOp cs i = 20 ∨ codeOp cs i = 21 → ∃ b r, s.bl = b :: r ∧ t.ends.getD b.at_ 0 = i ∧ (codeOp cs i = 21 → codeOp cs b.at_ ≠ 20 → s.k = (s.seen.getD b.at_ []).take ((s.seen.getD b.at_ []).length - 1)) ∧ (codeOp cs i = 21 → codeOp cs b.at_ = 20 → s.k = s.seen.getD b.at_ [])
/-- the kinds behind an instruction -/
structure Kn' (nt role : Nat) (cs : List Cod.In) (i a : Nat) (s t : St) : Prop where
  ah : ahead nt role s.bl (codeOp cs i) a = 0
  wr : wrong s.k (codeOp cs i) a = 0
  k : codeOp cs i ≠ 20 → codeOp cs i ≠ 22 → t.k = left_ s.k (codeOp cs i) a
  k22 : codeOp cs i = 22 → t.k = left_ s.k 22 a ++ [84]
  k20 : codeOp cs i = 20 → ∃ b r, s.bl = b :: r ∧ codeOp cs b.at_ = 19 ∧ t.k = (s.seen.getD b.at_ []).take ((s.seen.getD b.at_ []).length - 1)
theorem step_kinds {nt role i a : Nat} {cs : List Cod.In} {s t : St} (h : Inv cs i s) (h0 : step nt role i (codeOp cs i) a s = .ok t) : Kn' nt role cs i a s t := by
  obtain ⟨ha, hw, u, hu, rfl⟩ := step_parts h0
  refine ⟨ha, hw, fun n20 n22 => ?_, fun e => ?_, fun e => ?_⟩
  · by_cases e1 : codeOp cs i = 19
    · rw [e1] at hu ⊢
      rw [turn_19] at hu
      cases hu; rfl
    · by_cases e3 : codeOp cs i = 21
      · rw [e3] at hu ⊢
        cases hs : s.bl with
        | nil => rw [turn_21n i { s with k := left_ s.k 21 a, seen := s.seen ++ [s.k] } hs] at hu; cases hu
        | cons b r =>
          by_cases hk : (left_ s.k 21 a) = (if b.did then b.kept else b.opn)
          · rw [turn_21 i { s with k := left_ s.k 21 a, seen := s.seen ++ [s.k] } b r hs hk] at hu
            cases hu; rfl
          · rw [turn_21e i { s with k := left_ s.k 21 a, seen := s.seen ++ [s.k] } b r hs hk] at hu; cases hu
      · rw [turn_no _ _ _ e1 n22 n20 e3] at hu
        cases hu; rfl
  · rw [e] at hu
    rw [turn_22] at hu
    cases hu; rfl
  · rw [e] at hu ha
    cases hs : s.bl with
    | nil => rw [turn_20n i { s with k := left_ s.k 20 a, seen := s.seen ++ [s.k] } hs] at hu; cases hu
    | cons b r =>
      rw [turn_20 i { s with k := left_ s.k 20 a, seen := s.seen ++ [s.k] } b r hs] at hu
      rw [hs] at ha
      obtain ⟨hb19, hbd⟩ := ahead_else ha
      have hbo := h.bl b (by rw [hs]; exact List.mem_cons_self ..)
      cases hu
      exact ⟨b, r, rfl, by rw [hbo.op hbd, hb19], (hbo.not hbd).2⟩
theorem step_went {nt role i : Nat} {cs : List Cod.In} {s t : St} (hi : i < cs.length) (h : Inv cs i s) (h0 : step nt role i (codeOp cs i) (cs.getD i (0, 0)).2.toNat s = .ok t) : Went cs i s t := by
  obtain ⟨ha, hw, u, hu, rfl⟩ := step_parts h0
  obtain ⟨hlen, htk⟩ := wrong_len hw
  have hks : ∀ j, j < i + 1 → ((s.seen ++ [s.k]).getD j []).length ≤ 16 := fun j hj => by
    by_cases e : j < i
    · rw [getD_snoc_lt (by rw [h.seen]; exact e)]; exact h.ks j e
    · rw [getD_snoc_eq (by rw [h.seen]; omega)]; exact h.k
  have hse : (s.seen ++ [s.k]).length = i + 1 := by rw [List.length_append, h.seen]; rfl
  have hself : (s.seen ++ [s.k]).getD i [] = s.k := getD_snoc_eq h.seen.symm
  have hbl : ∀ b ∈ s.bl, BOk cs (s.seen ++ [s.k]) (i + 1) b := fun b hb => (h.bl b hb).next h.seen
  have hz := h.later i (Nat.le_refl _)
  generalize hop : codeOp cs i = op at *
  generalize (cs.getD i (0, 0)).2.toNat = a at *
  by_cases e1 : op = 19 ∨ op = 22
  · -- opens
    have hno : ∀ j, j < i → (∀ b ∈ s.bl, b.at_ ≠ j) → (opens (codeOp cs j) = true → j < s.ends.getD j 0 ∧ s.ends.getD j 0 < i + 1) ∧ (opens (codeOp cs j) = false → s.ends.getD j 0 = 0) := fun j hj hb =>
      ⟨fun ho => ⟨((h.done j hj hb).1 ho).1, Nat.lt_succ_of_lt ((h.done j hj hb).1 ho).2⟩, (h.done j hj hb).2⟩
    have hpw : ∀ b ∈ s.bl, b.at_ < i := fun b hb => (h.bl b hb).lt
    have hne : opens op = true := by rcases e1 with e | e <;> rw [e] <;> rfl
    have hn20 : op ≠ 20 := by rcases e1 with e | e <;> rw [e] <;> decide
    have hn21 : op ≠ 21 := by rcases e1 with e | e <;> rw [e] <;> decide
    have hl1 : left_ s.k op a = s.k.take (s.k.length - 1) := by rcases e1 with e | e <;> rw [e]; exact left_if _ _; exact left_each _ _
    have hb1 : (s.k.take (s.k.length - 1)).length ≤ 16 := by have := h.k; rw [List.length_take]; omega
    have huB : u.bl = ⟨op, left_ s.k op a, [], false, i⟩ :: s.bl ∧ u.seen = s.seen ++ [s.k] ∧ u.ends = s.ends ∧ u.deep = s.deep ∧ u.k.length ≤ 16 := by
      rcases e1 with e | e
      · subst e
        rw [turn_19] at hu
        cases hu
        exact ⟨rfl, rfl, rfl, rfl, by simp only; rw [hl1]; exact hb1⟩
      · subst e
        rw [turn_22] at hu
        cases hu
        refine ⟨rfl, rfl, rfl, rfl, ?_⟩
        simp only [List.length_append, List.length_singleton]
        have : more 22 = 1 := rfl
        omega
    obtain ⟨hub, hus, hue, hud, huk⟩ := huB
    refine ⟨⟨by simp only; rw [hus]; exact hse, by simp only; rw [hue]; exact h.ends, huk, by simp only; rw [hud]; have := h.deep; omega, by simp only; rw [hus]; exact hks, fun b hb => ?_, ?_, fun j hj => by simp only; rw [hue]; exact h.later j (by omega), fun j hj hb => ?_⟩, ?_, hus, fun j hj hb => by simp only; rw [hue], fun hc => by omega⟩
    · simp only [hub, hus, List.mem_cons] at hb ⊢
      rcases hb with rfl | hb
      · refine ⟨Nat.lt_succ_self _, hi, by simp only; rw [hl1]; exact hb1, fun hd => (by cases hd), fun _ => hop, fun _ => ⟨by simp only; rw [hop]; exact e1, ?_⟩⟩
        simp only
        rw [hself, hl1]
      · exact hbl b hb
    · simp only [hub]
      exact List.pairwise_cons.2 ⟨fun c hc => hpw c hc, h.pw⟩
    · simp only [hub, hue, List.mem_cons] at hb ⊢
      have hji : j ≠ i := fun e => hb _ (.inl rfl) e.symm
      exact hno j (by omega) (fun b hb' => hb b (.inr hb'))
    · simp only [hub, List.map_cons]
      unfold nextO
      rw [hop, if_neg hn20, if_neg hn21, if_pos e1]
  by_cases e2 : op = 20
  · subst e2
    cases hs : s.bl with
    | nil => rw [turn_20n i { s with k := left_ s.k 20 a, seen := s.seen ++ [s.k] } hs] at hu; cases hu
    | cons b r =>
      rw [turn_20 i { s with k := left_ s.k 20 a, seen := s.seen ++ [s.k] } b r hs] at hu
      rw [hs] at ha
      obtain ⟨hb19, hbd⟩ := ahead_else ha
      have hbo := h.bl b (by rw [hs]; exact List.mem_cons_self ..)
      have hpw := h.pw
      rw [hs, List.pairwise_cons] at hpw
      have hbe : b.at_ < s.ends.length := by rw [h.ends]; exact hbo.n
      cases hu
      have hle : left_ s.k 20 a = s.k := left_else _ _
      refine ⟨⟨hse, by simp only [List.length_set]; exact h.ends, hbo.len, by simp only; have := h.deep; have := hbo.len; omega, hks, fun c hc => ?_, ?_, fun j hj => ?_, fun j hj hc => ?_⟩, ?_, rfl, fun j hj hc => ?_, fun _ => ⟨b, r, hs, ?_, fun hc => by omega, fun hc => by omega⟩⟩
      · simp only [List.mem_cons] at hc
        rcases hc with rfl | hc
        · refine ⟨Nat.lt_succ_self _, hi, hbo.len, fun _ => ⟨hop, ?_⟩, fun hd => (by cases hd), fun hd => (by cases hd)⟩
          simp only
          rw [hself, hle]
        · exact hbl c (by rw [hs]; exact List.mem_cons_of_mem _ hc)
      · exact List.pairwise_cons.2 ⟨fun c hc => Nat.lt_trans (hpw.1 c hc) hbo.lt, hpw.2⟩
      · simp only
        rw [getD_set hbe, if_neg (by have := hbo.lt; omega)]
        exact h.later j (by omega)
      · simp only [List.mem_cons] at hc ⊢
        rw [getD_set hbe]
        by_cases e : b.at_ = j
        · rw [if_pos e]
          have := hbo.lt
          refine ⟨fun _ => by omega, fun ho => ?_⟩
          have := (hbo.not hbd).1
          rw [e] at this
          rw [show opens (codeOp cs j) = true by rcases this with g | g <;> rw [g] <;> rfl] at ho
          cases ho
        · rw [if_neg e]
          have hji : j ≠ i := fun e => hc _ (.inl rfl) e.symm
          have := h.done j (by omega) (fun c hc' => by
            rw [hs] at hc'
            rcases List.mem_cons.1 hc' with rfl | hc'
            · exact e
            · exact hc c (.inr hc'))
          exact ⟨fun ho => ⟨(this.1 ho).1, Nat.lt_succ_of_lt (this.1 ho).2⟩, this.2⟩
      · simp only [hop, hs, List.map_cons]
        rfl
      · simp only
        rw [getD_set hbe, if_neg (fun e => hc b (by rw [hs]; exact List.mem_cons_self ..) e)]
      · simp only
        rw [getD_set hbe, if_pos rfl]
  by_cases e3 : op = 21
  · subst e3
    cases hs : s.bl with
    | nil => rw [turn_21n i { s with k := left_ s.k 21 a, seen := s.seen ++ [s.k] } hs] at hu; cases hu
    | cons b r =>
      by_cases hk : (left_ s.k 21 a) = (if b.did then b.kept else b.opn)
      · rw [turn_21 i { s with k := left_ s.k 21 a, seen := s.seen ++ [s.k] } b r hs hk] at hu
        have hbo := h.bl b (by rw [hs]; exact List.mem_cons_self ..)
        have hpw := h.pw
        rw [hs, List.pairwise_cons] at hpw
        have hbe : b.at_ < s.ends.length := by rw [h.ends]; exact hbo.n
        have hle : left_ s.k 21 a = s.k := left_end _ _
        rw [hle] at hk
        cases hu
        refine ⟨⟨hse, by simp only [List.length_set]; exact h.ends, by simp only; rw [hle]; exact h.k, by simp only; rw [hle]; have := h.deep; have := h.k; omega, hks, fun c hc => hbl c (by rw [hs]; exact List.mem_cons_of_mem _ hc), hpw.2, fun j hj => ?_, fun j hj hc => ?_⟩, ?_, rfl, fun j hj hc => ?_, fun _ => ⟨b, r, hs, ?_, fun _ hn => ?_, fun _ hn => ?_⟩⟩
        · simp only
          rw [getD_set hbe, if_neg (by have := hbo.lt; omega)]
          exact h.later j (by omega)
        · simp only at hc ⊢
          rw [getD_set hbe]
          by_cases e : b.at_ = j
          · rw [if_pos e]
            have := hbo.lt
            refine ⟨fun _ => by omega, fun ho => ?_⟩
            have h3 : opens (codeOp cs j) = true := by
              cases hd : b.did with
              | true => rw [← e, (hbo.did hd).1]; rfl
              | false => rw [← e]; rcases (hbo.not hd).1 with g | g <;> rw [g] <;> rfl
            rw [h3] at ho
            cases ho
          · rw [if_neg e]
            by_cases hji : j = i
            · subst hji
              rw [hop]
              exact ⟨fun ho => (by cases ho), fun _ => hz⟩
            · have := h.done j (by omega) (fun c hc' => by
                rw [hs] at hc'
                rcases List.mem_cons.1 hc' with rfl | hc'
                · exact e
                · exact hc c hc')
              exact ⟨fun ho => ⟨(this.1 ho).1, Nat.lt_succ_of_lt (this.1 ho).2⟩, this.2⟩
        · simp only [hop, hs, List.map_cons]
          rfl
        · simp only
          rw [getD_set hbe, if_neg (fun e => hc b (by rw [hs]; exact List.mem_cons_self ..) e)]
        · simp only
          rw [getD_set hbe, if_pos rfl]
        · cases hd : b.did with
          | true => exact absurd (hbo.did hd).1 hn
          | false => rw [hd] at hk; rw [hk]; exact (hbo.not hd).2
        · cases hd : b.did with
          | true => rw [hd] at hk; rw [hk]; exact (hbo.did hd).2.symm
          | false => rcases (hbo.not hd).1 with g | g <;> rw [g] at hn <;> cases hn
      · rw [turn_21e i { s with k := left_ s.k 21 a, seen := s.seen ++ [s.k] } b r hs hk] at hu; cases hu
  · have h19 : op ≠ 19 := fun e => e1 (.inl e)
    have h22 : op ≠ 22 := fun e => e1 (.inr e)
    rw [turn_no _ _ _ h19 h22 e2 e3] at hu
    cases hu
    have hno : opens op = false := by
      unfold opens
      rw [decide_eq_false h19, decide_eq_false h22, decide_eq_false e2]; rfl
    refine ⟨⟨hse, h.ends, by simp only; omega, by simp only; have := h.deep; omega, hks, hbl, h.pw, fun j hj => h.later j (by omega), fun j hj hb => ?_⟩, ?_, rfl, fun _ _ _ => rfl, fun hc => by omega⟩
    · simp only at hb ⊢
      by_cases hji : j = i
      · subst hji
        rw [hop, hno]
        exact ⟨fun ho => (by cases ho), fun _ => hz⟩
      · have := h.done j (by omega) hb
        exact ⟨fun ho => ⟨(this.1 ho).1, Nat.lt_succ_of_lt (this.1 ho).2⟩, this.2⟩
    · simp only [hop]
      unfold nextO
      rw [if_neg e2, if_neg e3, if_neg e1]

theorem go_split {nt role : Nat} : ∀ (cs ds : List Cod.In) (i : Nat) (s f : St), go nt role (cs ++ ds) i s = .ok f → ∃ t, go nt role cs i s = .ok t ∧ go nt role ds (i + cs.length) t = .ok f
  | [], ds, i, s, f, h => ⟨s, rfl, h⟩
  | x :: r, ds, i, s, f, h => by
    simp only [go, List.cons_append] at h ⊢
    split at h
    · cases h
    · rename_i u hu
      obtain ⟨t, h1, h2⟩ := go_split r ds (i + 1) u f h
      refine ⟨t, h1, ?_⟩
      rw [List.length_cons, show i + (r.length + 1) = i + 1 + r.length by omega]
      exact h2
/-- the state ahead of instruction i -/
theorem go_at {nt role : Nat} {cs : List Cod.In} {f : St} (h : go nt role cs 0 (St.init cs.length) = .ok f) (i : Nat) (hi : i ≤ cs.length) : ∃ s, go nt role (cs.take i) 0 (St.init cs.length) = .ok s ∧ go nt role (cs.drop i) i s = .ok f := by
  have h' : go nt role (cs.take i ++ cs.drop i) 0 (St.init cs.length) = .ok f := by rw [List.take_append_drop]; exact h
  obtain ⟨t, h1, h2⟩ := go_split _ _ _ _ _ h'
  refine ⟨t, h1, ?_⟩
  rw [show 0 + (cs.take i).length = i by rw [List.length_take]; omega] at h2
  exact h2
theorem go_next {nt role : Nat} {cs : List Cod.In} {i : Nat} {s f : St} (hi : i < cs.length) (h : go nt role (cs.drop i) i s = .ok f) : ∃ t, step nt role i (codeOp cs i) (cs.getD i (0, 0)).2.toNat s = .ok t ∧ go nt role (cs.drop (i + 1)) (i + 1) t = .ok f := by
  have e : cs.getD i (0, 0) = cs[i] := by rw [List.getD_eq_getElem?_getD, List.getElem?_eq_getElem hi]; rfl
  rw [List.drop_eq_getElem_cons hi] at h
  simp only [go] at h
  unfold codeOp
  rw [e]
  split at h
  · cases h
  · rename_i u hu
    exact ⟨u, hu, h⟩
/-- all states of a run -/
theorem go_trace {nt role : Nat} {cs : List Cod.In} : ∀ (m i : Nat) (s f : St), i + m = cs.length → Inv cs i s → go nt role (cs.drop i) i s = .ok f →
    ∃ S : Nat → St, S i = s ∧ S cs.length = f ∧ (∀ j, i ≤ j → j ≤ cs.length → Inv cs j (S j)) ∧ ∀ j, i ≤ j → j < cs.length → Went cs j (S j) (S (j + 1)) ∧ Kn' nt role cs j (cs.getD j (0, 0)).2.toNat (S j) (S (j + 1))
  | 0, i, s, f, hm, hi, h => by
    have e : i = cs.length := by omega
    subst e
    rw [List.drop_length] at h
    cases h
    exact ⟨fun _ => s, rfl, rfl, fun j h1 h2 => (by have e : j = cs.length := by omega
                                                    rw [e]; exact hi), fun j h1 h2 => by omega⟩
  | m + 1, i, s, f, hm, hi, h => by
    obtain ⟨t, ht, hr⟩ := go_next (by omega) h
    have hw := step_went (by omega) hi ht
    have hq := step_kinds hi ht
    obtain ⟨S, h1, h2, h3, h4⟩ := go_trace m (i + 1) t f (by omega) hw.inv hr
    refine ⟨fun j => if j = i then s else S j, if_pos rfl, ?_, fun j g1 g2 => ?_, fun j g1 g2 => ?_⟩
    · simp only
      rw [if_neg (by omega)]; exact h2
    · simp only
      by_cases e : j = i
      · rw [if_pos e, e]; exact hi
      · rw [if_neg e]; exact h3 j (by omega) g2
    · simp only
      by_cases e : j = i
      · subst e
        rw [if_pos rfl, if_neg (by omega), h1]; exact ⟨hw, hq⟩
      · rw [if_neg e, if_neg (by omega)]; exact h4 j (by omega) g2
/-- what is said of each instruction of a program that is let be: kinds K ahead of it, E where it ends, O the open blocks ahead of it (the innermost first) -/
structure BlkF (cs : List Cod.In) (K : List (List UInt8)) (E : List Nat) (O : Nat → List Nat) (i : Nat) : Prop where
  yes : opens (codeOp cs i) = true → i < E.getD i 0 ∧ E.getD i 0 < cs.length
  no : opens (codeOp cs i) = false → E.getD i 0 = 0
  k : (K.getD i []).length ≤ 16
  cut : codeOp cs i = 20 ∨ codeOp cs i = 21 → ∃ b r, O i = b :: r ∧ b < i ∧ E.getD b 0 = i ∧ (codeOp cs i = 21 → codeOp cs b ≠ 20 → K.getD i [] = (K.getD b []).take ((K.getD b []).length - 1)) ∧ (codeOp cs i = 21 → codeOp cs b = 20 → K.getD i [] = K.getD b [])
  next : O (i + 1) = nextO (codeOp cs i) i (O i)
  len : ∀ b ∈ O i, b < i
/-- what is said of each instruction's kinds: K ahead of it, and at the end -/
structure KndF (nt role : Nat) (cs : List Cod.In) (K : Nat → List UInt8) (O : Nat → List Nat) (i a : Nat) : Prop where
  one : codeOp cs i = 1 → a < nt
  inp : codeOp cs i = 3 → a < inputs role
  reg : codeOp cs i = 17 ∨ codeOp cs i = 18 → a < 8
  emit : codeOp cs i = 23 → role = 1
  wr : wrong (K i) (codeOp cs i) a = 0
  k : codeOp cs i ≠ 20 → codeOp cs i ≠ 22 → K (i + 1) = left_ (K i) (codeOp cs i) a
  k22 : codeOp cs i = 22 → K (i + 1) = left_ (K i) 22 a ++ [84]
  k20 : codeOp cs i = 20 → ∃ b r, O i = b :: r ∧ codeOp cs b = 19 ∧ K (i + 1) = (K b).take ((K b).length - 1)
theorem ahead_args {nt role op a : Nat} {bl : List Blk} (h : ahead nt role bl op a = 0) : (op = 1 → a < nt) ∧ (op = 3 → a < inputs role) ∧ (op = 17 ∨ op = 18 → a < 8) ∧ (op = 23 → role = 1) := by
  have lim : ∀ p q : Nat, (if p ≤ q then 3 else 0) = 0 → q < p := fun p q hh => by
    by_cases c : p ≤ q
    · rw [if_pos c] at hh; cases hh
    · omega
  refine ⟨fun e => ?_, fun e => ?_, fun e => ?_, fun e => ?_⟩
  · subst e; exact lim _ _ h
  · subst e; exact lim _ _ h
  · rcases e with e | e
    · subst e; exact lim _ _ h
    · subst e; exact lim _ _ h
  · subst e
    have hh : (if role = 1 then 0 else 133) = 0 := h
    by_cases c : role = 1
    · exact c
    · rw [if_neg c] at hh; cases hh
theorem all_kinds {nt role : Nat} {cs : List Cod.In} {f : St} (h : all nt role cs = .ok f) : f.seen.length = cs.length ∧ f.ends.length = cs.length ∧ f.deep ≤ 16 ∧ ∃ O : Nat → List Nat, O 0 = [] ∧ O cs.length = [] ∧ (∀ i, i < cs.length → BlkF cs f.seen f.ends O i) ∧
    ∃ K : Nat → List UInt8, K 0 = [] ∧ K cs.length = f.k ∧ (∀ i, i < cs.length → f.seen.getD i [] = K i) ∧ ∀ i, i < cs.length → KndF nt role cs K O i (cs.getD i (0, 0)).2.toNat := by
  obtain ⟨hg, ho⟩ := all_ok h
  have hbl : f.bl = [] := by
    unfold over at ho
    by_cases hb : f.bl.length > 0
    · rw [if_pos hb] at ho; cases ho
    · exact List.eq_nil_of_length_eq_zero (by omega)
  obtain ⟨S, h1, h2, h3, h4⟩ := go_trace cs.length 0 _ f (by omega) (Inv.init cs) hg
  have hf : Inv cs cs.length f := by rw [← h2]; exact h3 _ (Nat.zero_le _) (Nat.le_refl _)
  -- what was seen stays
  have hseen : ∀ m i, i + m = cs.length → ∃ l, f.seen = (S i).seen ++ l := by
    intro m
    induction m with
    | zero => intro i e; exact ⟨[], by rw [List.append_nil, ← h2, show i = cs.length by omega]⟩
    | succ m ih =>
      intro i e
      obtain ⟨l, hl⟩ := ih (i + 1) (by omega)
      refine ⟨[(S i).k] ++ l, ?_⟩
      rw [hl, (h4 i (Nat.zero_le _) (by omega)).1.seen, List.append_assoc]
  have hat : ∀ i, i < cs.length → f.seen.getD i [] = (S i).k ∧ ∀ j, j < i → f.seen.getD j [] = (S i).seen.getD j [] := fun i hi => by
    obtain ⟨l, hl⟩ := hseen (cs.length - (i + 1)) (i + 1) (by omega)
    have hs := (h4 i (Nat.zero_le _) hi).1.seen
    have hn := (h3 i (Nat.zero_le _) (by omega)).seen
    rw [hl, hs]
    constructor
    · rw [List.append_assoc, List.getD_eq_getElem?_getD, List.getElem?_append_right (by omega), hn, Nat.sub_self]; rfl
    · intro j hj
      rw [List.append_assoc, List.getD_eq_getElem?_getD, List.getElem?_append_left (by omega), ← List.getD_eq_getElem?_getD]
  -- where closed blocks end stays
  have hend : ∀ m i, i + m = cs.length → ∀ j, j < i → (∀ b ∈ (S i).bl, b.at_ ≠ j) → f.ends.getD j 0 = (S i).ends.getD j 0 := by
    intro m
    induction m with
    | zero => intro i e j hj hb; rw [← h2, show i = cs.length by omega]
    | succ m ih =>
      intro i e j hj hb
      have hw := (h4 i (Nat.zero_le _) (by omega)).1
      rw [ih (i + 1) (by omega) j (by omega) (fun b hb' ej => ?_), hw.keep j hj hb]
      -- the places behind are those ahead, or i
      have hm : b.at_ ∈ (S (i + 1)).bl.map (·.at_) := List.mem_map.2 ⟨b, hb', rfl⟩
      rw [hw.o] at hm
      have hall : ∀ y ∈ (S i).bl.map (·.at_), y ≠ j := fun y hy => by
        obtain ⟨c, hc, rfl⟩ := List.mem_map.1 hy
        exact hb c hc
      have htl : ∀ y ∈ ((S i).bl.map (·.at_)).tail, y ≠ j := fun y hy => hall y (List.mem_of_mem_tail hy)
      unfold nextO at hm
      split at hm
      · rcases List.mem_cons.1 hm with e' | hm
        · omega
        · exact htl _ hm ej
      · split at hm
        · exact htl _ hm ej
        · split at hm
          · rcases List.mem_cons.1 hm with e' | hm
            · omega
            · exact hall _ hm ej
          · exact hall _ hm ej
  refine ⟨hf.seen, hf.ends, hf.deep, fun i => (S i).bl.map (·.at_), by simp only; rw [h1]; rfl, by simp only; rw [h2, hbl]; rfl, fun i hi => ?_, fun i => (S i).k, by simp only; rw [h1]; rfl, by simp only; rw [h2], fun i hi => (hat i hi).1, fun i hi => ?_⟩
  rotate_left
  · obtain ⟨hw, hq⟩ := h4 i (Nat.zero_le _) hi
    obtain ⟨g1, g2, g3, g4⟩ := ahead_args hq.ah
    refine ⟨g1, g2, g3, g4, hq.wr, hq.k, hq.k22, fun e => ?_⟩
    obtain ⟨b, r, hb, h19, hk⟩ := hq.k20 e
    have hv := h3 i (Nat.zero_le _) (by omega)
    have hlt := (hv.bl b (by rw [hb]; exact List.mem_cons_self ..)).lt
    refine ⟨b.at_, r.map (·.at_), by rw [hb]; rfl, h19, ?_⟩
    have e1 : (S b.at_).k = (S i).seen.getD b.at_ [] := by rw [← (hat b.at_ (by omega)).1, (hat i hi).2 _ hlt]
    rw [hk, e1]
  have hw := (h4 i (Nat.zero_le _) hi).1
  have hq := (h4 i (Nat.zero_le _) hi).2
  have hv := h3 i (Nat.zero_le _) (by omega)
  have hd := hf.done i hi (by rw [hbl]; intro b hb; cases hb)
  refine ⟨hd.1, hd.2, hf.ks i hi, fun hc => ?_, hw.o, fun b hb => ?_⟩
  · obtain ⟨b, r, hb, he, k1, k2⟩ := hw.cut hc
    have hbo := hv.bl b (by rw [hb]; exact List.mem_cons_self ..)
    have hpw := hv.pw
    rw [hb, List.pairwise_cons] at hpw
    refine ⟨b.at_, r.map (·.at_), by rw [hb]; rfl, hbo.lt, ?_, fun e1 e2 => ?_, fun e1 e2 => ?_⟩
    · rw [hend (cs.length - (i + 1)) (i + 1) (by omega) b.at_ (by have := hbo.lt; omega) (fun c hc' ec => ?_), he]
      have hm : c.at_ ∈ (S (i + 1)).bl.map (·.at_) := List.mem_map.2 ⟨c, hc', rfl⟩
      rw [hw.o, hb, List.map_cons] at hm
      have hr : ∀ y ∈ r.map (·.at_), y ≠ b.at_ := fun y hy => by
        obtain ⟨z, hz, rfl⟩ := List.mem_map.1 hy
        exact Nat.ne_of_lt (hpw.1 z hz)
      unfold nextO at hm
      rcases hc with e | e
      · rw [if_pos e] at hm
        rcases List.mem_cons.1 hm with e' | hm
        · have := hbo.lt; omega
        · exact hr _ hm ec
      · rw [if_neg (by rw [e]; decide), if_pos e] at hm
        exact hr _ hm ec
    · rw [(hat i hi).1, (hat i hi).2 _ hbo.lt]; exact k1 e1 e2
    · rw [(hat i hi).1, (hat i hi).2 _ hbo.lt]; exact k2 e1 e2
  · obtain ⟨c, hc, rfl⟩ := List.mem_map.1 hb
    exact (hv.bl c hc).lt
theorem all_blocks {nt role : Nat} {cs : List Cod.In} {f : St} (h : all nt role cs = .ok f) : f.seen.length = cs.length ∧ f.ends.length = cs.length ∧ f.deep ≤ 16 ∧ ∃ O : Nat → List Nat, O 0 = [] ∧ O cs.length = [] ∧ ∀ i, i < cs.length → BlkF cs f.seen f.ends O i := by
  obtain ⟨h1, h2, h3, O, h4, h5, h6, _⟩ := all_kinds h
  exact ⟨h1, h2, h3, O, h4, h5, h6⟩

end Ver
end Go.Proofs.YtolldoclnfnceaaDoor

