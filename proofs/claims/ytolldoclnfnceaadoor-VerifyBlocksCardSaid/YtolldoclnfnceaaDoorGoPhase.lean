/-
  A region that draws its order, walked in phases: each has operations that yield under S whatever was done ahead of them (taken anywhere in the text), then ones that are forced, one behind the other; all keep S.
-/
import Derived.Test.YtolldoclnfnceaaDoorGoAll
set_option linter.unusedVariables false
namespace Go.Proofs.YtolldoclnfnceaaDoor
open Go.RowKit

section
variable {P : Program} {ops : Array Oper} {Q : Exit → Act → World → Prop} {md : Region.Mode} {S : World → Prop}

def takeC (md : Region.Mode) (ops : Array Oper) (C : Array Bool → Bool) : List Nat → Array Bool → Bool
  | [], listed => C listed
  | i :: l, listed => (Region.ready md ops listed).contains i && (Region.free md ops listed i && takeC md ops C l (listed.setIfInBounds i true))
def chainC (md : Region.Mode) (ops : Array Oper) (C : Array Bool → Bool) : List Nat → Array Bool → Bool
  | [], listed => C listed
  | k :: l, listed => decide (Region.ready md ops listed = [k]) && (decide (k < ops.size) && chainC md ops C l (listed.setIfInBounds k true))
def phasesC (md : Region.Mode) (ops : Array Oper) : List (List Nat × List Nat) → Array Bool → Bool
  | [], listed => (Region.ready md ops listed).isEmpty
  | x :: l, listed => takeC md ops (chainC md ops (phasesC md ops l) x.2) x.1 listed
def phasesN : List (List Nat × List Nat) → Nat
  | [] => 0
  | x :: l => x.1.length + (x.2.length + phasesN l)

/-- forced ones that keep S; then K -/
def wpMidK (P : Program) (ops : Array Oper) (Q : Exit → Act → World → Prop) (S : World → Prop) (K : Act → World → Prop) : List Oper → Act → World → Prop
  | [], a, w => K a w
  | o :: l, a, w => if Region.wanted o (yielded ops a.tmps) = true then o.wp P a w (fun a' w' => S w' ∧ wpMidK P ops Q S K l a' w') Q else S w ∧ wpMidK P ops Q S K l (a.put o.dst undef) w
def wpPhases (P : Program) (ops : Array Oper) (Q : Exit → Act → World → Prop) (S : World → Prop) : List (List Nat × List Nat) → Act → World → Prop
  | [], a, w => Q .normal a w
  | x :: l, a, w => wpTake P ops S (fun a' => wpMidK P ops Q S (wpPhases P ops Q S l) (pick ops x.2) a' w) (pick ops x.1) a

theorem wpV_takeC {w : World} {L : Act → Prop} {C : Array Bool → Bool} {n : Nat} (hs : Region.noSelect ops = true) (hS : S w) (hQ : ∀ o v c a w, Q (.panic c) (a.put o v) w → Q (.panic c) a w)
    (hL : ∀ listed a, C listed = true → L a → wpV P md ops Q S (fun _ => true) n listed a w) :
    ∀ (l : List Nat) (listed : Array Bool) (a : Act), takeC md ops C l listed = true → wpTake P ops S L (pick ops l) a → wpV P md ops Q S (fun _ => true) (l.length + n) listed a w
  | [], listed, a, hB, h => by
    simp only [List.length_nil, Nat.zero_add]
    exact hL listed a hB h
  | k :: l, listed, a, hB, h => by
    simp only [takeC, Bool.and_eq_true] at hB
    obtain ⟨hr, hf, hB'⟩ := hB
    have hr' : k ∈ Region.ready md ops listed := by simpa using hr
    obtain ⟨_, o, h0, _⟩ := mem_ready.1 hr'
    have hp : pick ops (k :: l) = o :: pick ops l := by unfold pick; rw [List.filterMap_cons, h0]
    rw [hp] at h
    obtain ⟨v, hy, h'⟩ := h
    have hn : (k :: l).length + n = (l.length + n) + 1 := by simp; omega
    rw [hn]
    exact wpV_first h0 (Region.noSelect_spec hs) (fun c a w => hQ _ _ c a w) (fun t ot ht => absurd ht (by simp)) rfl _ listed a w (Region.free_spec h0 hf) hr' hy hS
      (wpV_takeC hs hS hQ hL l _ _ hB' h')

theorem wpV_chainC {K : Act → World → Prop} {C : Array Bool → Bool} {n : Nat} (hL : ∀ listed a w, C listed = true → S w → K a w → wpV P md ops Q S (fun _ => true) n listed a w) :
    ∀ (l : List Nat) (listed : Array Bool) (a : Act) (w : World), chainC md ops C l listed = true → S w → wpMidK P ops Q S K (pick ops l) a w → wpV P md ops Q S (fun _ => true) (l.length + n) listed a w
  | [], listed, a, w, hB, hS, h => by
    simp only [List.length_nil, Nat.zero_add]
    exact hL listed a w hB hS h
  | k :: l, listed, a, w, hB, hS, h => by
    simp only [chainC, Bool.and_eq_true, decide_eq_true_eq] at hB
    obtain ⟨hB1, hlt, hB2⟩ := hB
    have h0 : ops[k]? = some ops[k] := Array.getElem?_eq_getElem hlt
    have hp : pick ops (k :: l) = ops[k] :: pick ops l := by unfold pick; rw [List.filterMap_cons, h0]
    rw [hp] at h
    have hn : (k :: l).length + n = (l.length + n) + 1 := by simp; omega
    rw [hn]
    refine ⟨fun e => by rw [hB1] at e; exact absurd e (List.cons_ne_nil _ _), fun i hi => ?_⟩
    rw [hB1] at hi
    obtain rfl : i = k := by simpa using hi
    have hw : wpOp P ops Q i (fun a' w' => S w' ∧ wpMidK P ops Q S K (pick ops l) a' w') a w := by
      unfold wpOp
      simp only [h0]
      unfold wpMidK at h
      split
      · rename_i hwd; rw [if_pos hwd] at h; exact .inl h
      · rename_i hwd; rw [if_neg hwd] at h; exact h
    exact wpOp_mono (fun a' w' x => ⟨fun _ => x.1, wpV_chainC hL l _ a' w' hB2 x.1 x.2⟩) hw

theorem wpV_phases (hs : Region.noSelect ops = true) (hQ : ∀ o v c a w, Q (.panic c) (a.put o v) w → Q (.panic c) a w) :
    ∀ (l : List (List Nat × List Nat)) (listed : Array Bool) (a : Act) (w : World), phasesC md ops l listed = true → S w → wpPhases P ops Q S l a w → wpV P md ops Q S (fun _ => true) (phasesN l) listed a w
  | [], listed, a, w, hB, _, h => ⟨by simpa [phasesC] using hB, h⟩
  | x :: l, listed, a, w, hB, hS, h =>
    wpV_takeC (n := x.2.length + phasesN l) hs hS hQ (fun listed a hC hL => wpV_chainC (fun listed a w hC hS hK => wpV_phases hs hQ l listed a w hC hS hK) x.2 listed a w hC hS hL) x.1 listed a hB h

def phasesB (ops : Array Oper) (l : List (List Nat × List Nat)) : Bool :=
  Region.noSelect ops && (decide (phasesN l = ops.size) && phasesC .any ops l (Array.replicate ops.size false))

theorem wp_region_phases {id : Nat} {a : Act} {w : World} (l : List (List Nat × List Nat)) (hm : P.follows .mixedOrders = true) (hB : phasesB ops l = true) (S : World → Prop) (hS : S w.drew)
    (h : wpPhases P ops (NoPanic Q) S l a w.drew) : (Code.region id ops true).wp P Q a w := by
  simp only [phasesB, Bool.and_eq_true, decide_eq_true_eq] at hB
  refine wp_region_noPanic (wp_region_any hm ?_)
  have key := wpV_phases (md := .any) (Q := NoPanic Q) hB.1 frameless_np l (Array.replicate ops.size false) a w.drew hB.2.2 hS h
  rw [hB.2.1] at key
  exact key.any

theorem midk_wp {K : Act → World → Prop} {o : Oper} {l : List Oper} {a : Act} {w : World} (hw : Region.wanted o (yielded ops a.tmps) = true) (h : o.wp P a w (fun a' w' => S w' ∧ wpMidK P ops Q S K l a' w') Q) : wpMidK P ops Q S K (o :: l) a w := by
  unfold wpMidK
  rw [if_pos hw]
  exact h
theorem midk_one {K : Act → World → Prop} {o : Oper} {l : List Oper} {a : Act} {w w' : World} (v : Value) (hw : Region.wanted o (yielded ops a.tmps) = true) (h : (execOp a.eval o).run P w = .ok (.value v) w') (hS : S w') (hK : wpMidK P ops Q S K l (a.put o.dst v) w') : wpMidK P ops Q S K (o :: l) a w :=
  midk_wp hw (run_wp h ⟨hS, hK⟩)
theorem midk_done {K : Act → World → Prop} {a : Act} {w : World} (h : K a w) : wpMidK P ops Q S K [] a w := h
theorem midk_end {a : Act} {w : World} (h : Q .normal a w) : wpMidK P ops (NoPanic Q) S (wpPhases P ops (NoPanic Q) S []) [] a w := NoPanic.normal h
end
end Go.Proofs.YtolldoclnfnceaaDoor
