/-
  A region that draws its order, walked in stages: what its operations yield in a later one may hang on what a call of an earlier one left. All operations of a later stage wait, one by way of the other, for those of an earlier one.
-/
import Derived.Test.YtolldoclnfnceaaDoorGoPhase
set_option linter.unusedVariables false
namespace Go.Proofs.YtolldoclnfnceaaDoor
open Go.RowKit

section
variable {P : Program} {ops : Array Oper} {Q : Exit → Act → World → Prop} {md : Region.Mode} {S : World → Prop}

/-- those that wait for i, one by way of the other -/
def depsOf (md : Region.Mode) (ops : Array Oper) (i : Nat) : List Nat :=
  (List.range ops.size).foldl (fun D t => if ((ops[t]?).map fun o => o.after.any fun e => Region.binds md e && (e.on == i || D.contains e.on)).getD false then t :: D else D) []
def depsOk (md : Region.Mode) (ops : Array Oper) (i : Nat) (D : List Nat) : Bool :=
  D.all fun t => ((ops[t]?).map fun o => o.after.any fun e => Region.binds md e && (e.on == i || D.contains e.on)).getD true
def waitB (md : Region.Mode) (ops : Array Oper) (Y : List Nat) (i : Nat) (listed : Array Bool) : Bool :=
  depsOk md ops i (depsOf md ops i) && ((Y.all fun t => (depsOf md ops i).contains t) && (depsOf md ops i).all fun t => !(listed.getD t true))
theorem depsOk_spec {i : Nat} {D : List Nat} (h : depsOk md ops i D = true) : ∀ t ∈ D, ∀ o, ops[t]? = some o → ∃ e ∈ o.after, Region.binds md e = true ∧ (e.on = i ∨ e.on ∈ D) := by
  intro t ht o ho
  have h1 := List.all_eq_true.1 h t ht
  simp only [ho, Option.map_some, Option.getD_some] at h1
  obtain ⟨e, he, h2⟩ := Array.any_eq_true'.1 h1
  simp only [Bool.and_eq_true, Bool.or_eq_true, beq_iff_eq, List.contains_iff_mem] at h2
  exact ⟨e, he, h2.1, h2.2⟩

theorem wpV_firstD {keep : Nat → Bool} {i : Nat} {oi : Oper} {v : Value} (D : List Nat) (hD : ∀ t ∈ D, ∀ o, ops[t]? = some o → ∃ e ∈ o.after, Region.binds md e = true ∧ (e.on = i ∨ e.on ∈ D)) (hk : ∀ t, keep t = false → t ∈ D) (hki : keep i = true)
    (hi : ops[i]? = some oi) (hsel : ∀ (j : Nat) (o : Oper) cs b, ops[j]? = some o → o.op ≠ .select cs b) (hQ : ∀ c a w, Q (.panic c) (a.put oi.dst v) w → Q (.panic c) a w) (f : Nat) :
    ∀ (listed : Array Bool) (a : Act) (w : World), (∀ j oj, ops[j]? = some oj → j ≠ i → listed.getD j true = false → (∀ e ∈ oj.after, Region.binds md e = true → e.on ≠ i) → oi.apart ops oj = true) → (∀ t ∈ D, listed.getD t true = false) →
      i ∈ Region.ready md ops listed → YieldsIf P ops S oi v a → S w → wpV P md ops Q S keep f (listed.setIfInBounds i true) (a.put oi.dst v) w → wpV P md ops Q S keep (f + 1) listed a w := by
  induction f with
  | zero =>
    intro listed a w hfree hun hr hy hS H
    refine ⟨fun e => by rw [e] at hr; exact absurd hr List.not_mem_nil, fun j hj => ?_⟩
    by_cases e : j = i
    · rw [e]; exact hy.wpOp hi hS ⟨fun _ => hS, H⟩
    · have hx := ready_mono hj e
      rw [H.1] at hx
      exact absurd hx List.not_mem_nil
  | succ f ih =>
    intro listed a w hfree hun hr hy hS H
    refine ⟨fun e => by rw [e] at hr; exact absurd hr List.not_mem_nil, fun j hj => ?_⟩
    by_cases e : j = i
    · rw [e]; exact hy.wpOp hi hS ⟨fun _ => hS, H⟩
    obtain ⟨hjl, oj, hoj, hja⟩ := mem_ready.1 hj
    have hil := (mem_ready.1 hr).1
    have hno : ∀ x ∈ oj.after, Region.binds md x = true → x.on ≠ i := fun x hx hb hxi => by
      have h1 := hja x hx hb
      rw [hxi, getD_both hil] at h1
      exact Bool.noConfusion h1
    have hjD : j ∉ D := fun hjD => by
      obtain ⟨x, hx, hb, hxi | hxD⟩ := hD j hjD oj hoj
      · exact hno x hx hb hxi
      · have h1 := hja x hx hb
        rw [getD_both (hun _ hxD)] at h1
        exact Bool.noConfusion h1
    have hjm : keep j = true := by
      cases h : keep j with
      | true => rfl
      | false => exact absurd (hk j h) hjD
    have hap := hfree j oj hoj e hjl hno
    have key := wpOp_putIf hoj hap (fun cs b => hsel i oi cs b hi) (fun cs b => hsel j oj cs b hoj) hQ hy (H.2 j (ready_mono hj e))
    refine wpOp_mono (fun a' w' ⟨y', s', u'⟩ => ⟨s', ?_⟩) key
    refine ih (listed.setIfInBounds j true) a' w' (fun k ok hk hki hkl hkn => ?_) (fun t ht => ?_) (ready_mono hr (Ne.symm e)) y' (s' hjm) ?_
    · refine hfree k ok hk hki ?_ hkn
      by_cases ejk : j = k
      · rw [← ejk]; exact hjl
      · rw [getD_set_ne true ejk] at hkl; exact hkl
    · have ejt : j ≠ t := fun e2 => hjD (by rw [e2]; exact ht)
      rw [getD_set_ne true ejt]; exact hun t ht
    · rw [Array.setIfInBounds_comm _ _ e]
      exact u'

def takeY (md : Region.Mode) (ops : Array Oper) (Y : List Nat) (C : Array Bool → Bool) : List Nat → Array Bool → Bool
  | [], listed => C listed
  | i :: l, listed => !Y.contains i && (waitB md ops Y i listed && ((Region.ready md ops listed).contains i && (Region.free md ops listed i && takeY md ops Y C l (listed.setIfInBounds i true))))
def phasesY (md : Region.Mode) (ops : Array Oper) (Y : List Nat) (C : Array Bool → Bool) : List (List Nat × List Nat) → Array Bool → Bool
  | [], listed => C listed
  | x :: l, listed => takeY md ops Y (chainC md ops (phasesY md ops Y C l) x.2) x.1 listed
def wpPhasesK (P : Program) (ops : Array Oper) (Q : Exit → Act → World → Prop) (S : World → Prop) (K : Act → World → Prop) : List (List Nat × List Nat) → Act → World → Prop
  | [], a, w => K a w
  | x :: l, a, w => wpTake P ops S (fun a' => wpMidK P ops Q S (wpPhasesK P ops Q S K l) (pick ops x.2) a' w) (pick ops x.1) a

theorem wpV_takeY {Y : List Nat} {w : World} {L : Act → Prop} {C : Array Bool → Bool} {n : Nat} (hs : Region.noSelect ops = true) (hS : S w) (hQ : ∀ o v c a w, Q (.panic c) (a.put o v) w → Q (.panic c) a w)
    (hL : ∀ listed a, C listed = true → L a → wpV P md ops Q S (fun t => !Y.contains t) n listed a w) :
    ∀ (l : List Nat) (listed : Array Bool) (a : Act), takeY md ops Y C l listed = true → wpTake P ops S L (pick ops l) a → wpV P md ops Q S (fun t => !Y.contains t) (l.length + n) listed a w
  | [], listed, a, hB, h => by
    simp only [List.length_nil, Nat.zero_add]
    exact hL listed a hB h
  | k :: l, listed, a, hB, h => by
    simp only [takeY, waitB, Bool.and_eq_true] at hB
    obtain ⟨hkY, ⟨hd1, hd2, hd3⟩, hr, hf, hB'⟩ := hB
    have hr' : k ∈ Region.ready md ops listed := by simpa using hr
    obtain ⟨_, o, h0, _⟩ := mem_ready.1 hr'
    have hp : pick ops (k :: l) = o :: pick ops l := by unfold pick; rw [List.filterMap_cons, h0]
    rw [hp] at h
    obtain ⟨v, hy, h'⟩ := h
    have hn : (k :: l).length + n = (l.length + n) + 1 := by simp; omega
    rw [hn]
    refine wpV_firstD (depsOf md ops k) (depsOk_spec hd1) (fun t ht => ?_) hkY h0 (Region.noSelect_spec hs) (fun c a w => hQ _ _ c a w) _ listed a w (Region.free_spec h0 hf) (fun t ht => ?_) hr' hy hS
      (wpV_takeY hs hS hQ hL l _ _ hB' h')
    · have ht2 : t ∈ Y := by simpa using ht
      simpa using List.all_eq_true.1 hd2 t ht2
    · have := List.all_eq_true.1 hd3 t ht
      revert this
      cases listed.getD t true <;> simp

theorem wpV_chainY {keep : Nat → Bool} {K : Act → World → Prop} {C : Array Bool → Bool} {n : Nat} (hL : ∀ listed a w, C listed = true → S w → K a w → wpV P md ops Q S keep n listed a w) :
    ∀ (l : List Nat) (listed : Array Bool) (a : Act) (w : World), chainC md ops C l listed = true → S w → wpMidK P ops Q S K (pick ops l) a w → wpV P md ops Q S keep (l.length + n) listed a w
  | [], listed, a, w, hB, hS, h => by
    simp only [List.length_nil, Nat.zero_add]
    exact hL listed a w hB hS h
  | k :: l, listed, a, w, hB, hS, h => by
    simp only [chainC, Bool.and_eq_true, decide_eq_true_eq] at hB
    obtain ⟨hB1, hlt, hB2⟩ := hB
    have h0 : ops[k]? = some ops[k] := Array.getElem?_eq_getElem hlt
    have hp : pick ops (k :: l) = ops[k] :: pick ops l := by unfold pick; rw [List.filterMap_cons, h0]
    rw [hp] at h
    have hn : (k :: l).length + n = (l.length + n) + 1 := by simp; omega
    rw [hn]
    refine ⟨fun e => by rw [hB1] at e; exact absurd e (List.cons_ne_nil _ _), fun i hi => ?_⟩
    rw [hB1] at hi
    obtain rfl : i = k := by simpa using hi
    have hw : wpOp P ops Q i (fun a' w' => S w' ∧ wpMidK P ops Q S K (pick ops l) a' w') a w := by
      unfold wpOp
      simp only [h0]
      unfold wpMidK at h
      split
      · rename_i hwd; rw [if_pos hwd] at h; exact .inl h
      · rename_i hwd; rw [if_neg hwd] at h; exact h
    exact wpOp_mono (fun a' w' x => ⟨fun _ => x.1, wpV_chainY hL l _ a' w' hB2 x.1 x.2⟩) hw

theorem wpV_phasesY {Y : List Nat} {K : Act → World → Prop} {C : Array Bool → Bool} {n : Nat} (hs : Region.noSelect ops = true) (hQ : ∀ o v c a w, Q (.panic c) (a.put o v) w → Q (.panic c) a w)
    (hL : ∀ listed a w, C listed = true → S w → K a w → wpV P md ops Q S (fun t => !Y.contains t) n listed a w) :
    ∀ (l : List (List Nat × List Nat)) (listed : Array Bool) (a : Act) (w : World), phasesY md ops Y C l listed = true → S w → wpPhasesK P ops Q S K l a w → wpV P md ops Q S (fun t => !Y.contains t) (phasesN l + n) listed a w
  | [], listed, a, w, hB, hS, h => by
    simp only [phasesN, Nat.zero_add]
    exact hL listed a w hB hS h
  | x :: l, listed, a, w, hB, hS, h => by
    have hn : phasesN (x :: l) + n = x.1.length + (x.2.length + (phasesN l + n)) := by simp only [phasesN]; omega
    rw [hn]
    exact wpV_takeY hs hS hQ (fun listed a hC hK => wpV_chainY (C := phasesY md ops Y C l) (n := phasesN l + n) (fun listed a w hC hS hK => wpV_phasesY hs hQ hL l listed a w hC hS hK) x.2 listed a w hC hS hK) x.1 listed a hB h

theorem wpV_of_any {keep : Nat → Bool} : ∀ {f : Nat} {listed : Array Bool} {a : Act} {w : World}, (∀ t, keep t = true → listed.getD t true = true) → wpAny P md ops Q f listed a w → wpV P md ops Q S keep f listed a w
  | 0, _, _, _, _, h => h
  | f + 1, listed, a, w, hk, h => ⟨h.1, fun i hi => wpOp_mono (fun a' w' x => ⟨fun hki => by
      have h1 := (mem_ready.1 hi).1
      rw [hk i hki] at h1
      exact Bool.noConfusion h1, wpV_of_any (fun t ht => by
      by_cases e : i = t
      · subst e
        have h1 := (mem_ready.1 hi).1
        rw [hk i ht] at h1
        exact Bool.noConfusion h1
      · rw [getD_set_ne true e]; exact hk t ht) x⟩) (h.2 i hi)⟩

/-- the stages: of each its phases; all operations of those behind it -/
def stagesN : List (List (List Nat × List Nat)) → Nat
  | [] => 0
  | x :: l => phasesN x + stagesN l
def stagesI (l : List (List (List Nat × List Nat))) : List Nat := l.flatMap fun x => x.flatMap fun p => p.1 ++ p.2
def stagesC (md : Region.Mode) (ops : Array Oper) : List (List (List Nat × List Nat)) → Array Bool → Bool
  | [], listed => (Region.ready md ops listed).isEmpty
  | x :: l, listed => phasesY md ops (stagesI l) (fun li => (List.range li.size).all (fun t => (stagesI l).contains t || li.getD t true) && stagesC md ops l li) x listed
def wpStages (P : Program) (ops : Array Oper) (Q : Exit → Act → World → Prop) : List (List (List Nat × List Nat)) → Act → World → Prop
  | [], a, w => Q .normal a w
  | x :: l, a, w => ∃ S : World → Prop, S w ∧ wpPhasesK P ops Q S (wpStages P ops Q l) x a w

theorem wpAny_stages (hs : Region.noSelect ops = true) (hQ : ∀ o v c a w, Q (.panic c) (a.put o v) w → Q (.panic c) a w) :
    ∀ (l : List (List (List Nat × List Nat))) (listed : Array Bool) (a : Act) (w : World), stagesC md ops l listed = true → wpStages P ops Q l a w → wpAny P md ops Q (stagesN l) listed a w
  | [], listed, a, w, hB, h => ⟨by simpa [stagesC] using hB, h⟩
  | x :: l, listed, a, w, hB, ⟨S, hS, h⟩ => by
    refine wpV.any (S := S) (keep := fun t => !(stagesI l).contains t) ?_
    refine wpV_phasesY hs hQ (fun li a w hC hS hK => ?_) x listed a w hB hS h
    simp only [Bool.and_eq_true] at hC
    refine wpV_of_any (fun t ht => ?_) (wpAny_stages hs hQ l li a w hC.2 hK)
    by_cases hlt : t < li.size
    · have := List.all_eq_true.1 hC.1 t (List.mem_range.2 hlt)
      simp only [Bool.or_eq_true] at this
      rcases this with h1 | h1
      · rw [h1] at ht; exact Bool.noConfusion ht
      · exact h1
    · simp [Array.getD, hlt]

def stagesB (ops : Array Oper) (l : List (List (List Nat × List Nat))) : Bool :=
  Region.noSelect ops && (decide (stagesN l = ops.size) && stagesC .any ops l (Array.replicate ops.size false))

theorem wp_region_stages {id : Nat} {a : Act} {w : World} (l : List (List (List Nat × List Nat))) (hm : P.follows .mixedOrders = true) (hB : stagesB ops l = true) (h : wpStages P ops (NoPanic Q) l a w.drew) : (Code.region id ops true).wp P Q a w := by
  simp only [stagesB, Bool.and_eq_true, decide_eq_true_eq] at hB
  refine wp_region_noPanic (wp_region_any hm ?_)
  have key := wpAny_stages (md := .any) (Q := NoPanic Q) hB.1 frameless_np l (Array.replicate ops.size false) a w.drew hB.2.2 h
  rw [hB.2.1] at key
  exact key
theorem stage_end {a : Act} {w : World} (h : Q .normal a w) : wpMidK P ops (NoPanic Q) S (wpPhasesK P ops (NoPanic Q) S (wpStages P ops (NoPanic Q) []) []) [] a w := NoPanic.normal h
theorem stage_first {a : Act} {w : World} {x : List (List Nat × List Nat)} {l : List (List (List Nat × List Nat))} (S2 : World → Prop) (hS : S2 w) (h : wpPhasesK P ops Q S2 (wpStages P ops Q l) x a w) : wpStages P ops Q (x :: l) a w := ⟨S2, hS, h⟩
theorem stage_next {a : Act} {w : World} {x : List (List Nat × List Nat)} {l : List (List (List Nat × List Nat))} (S2 : World → Prop) (hS : S2 w) (h : wpPhasesK P ops Q S2 (wpStages P ops Q l) x a w) : wpMidK P ops Q S (wpPhasesK P ops Q S (wpStages P ops Q (x :: l)) []) [] a w := ⟨S2, hS, h⟩
end
end Go.Proofs.YtolldoclnfnceaaDoor
