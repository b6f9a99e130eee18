/-
  A region that draws its order, of which two operations may come up one ahead of the other, or the other ahead of the one: first the operations T, then these two in both orders, then the others, forced.
-/
import Derived.Test.YtjlkppdailkanaaGoAny
set_option linter.unusedVariables false
namespace Go.Proofs.Ytjlkppdailkanaa
open Go.RowKit

section
variable {P : Program} {ops : Array Oper} {Q : Exit → Act → World → Prop} {md : Region.Mode} {S : World → Prop} {keep : Nat → Bool}

def twoOk (md : Region.Mode) (ops : Array Oper) (k1 k2 : Nat) (R : List Nat) (listed : Array Bool) : Bool :=
  decide (Region.ready md ops listed = [k1, k2]) && (decide (k1 < ops.size) && (decide (k2 < ops.size) && (chainOk md ops (k2 :: R) (listed.setIfInBounds k1 true) && chainOk md ops (k1 :: R) (listed.setIfInBounds k2 true))))
def takeOkF (md : Region.Mode) (ops : Array Oper) (fin : Array Bool → Bool) : List Nat → Array Bool → Bool
  | [], listed => fin listed
  | i :: l, listed => (Region.ready md ops listed).contains i && (Region.free md ops listed i && takeOkF md ops fin l (listed.setIfInBounds i true))

theorem wpMid_op {R2 l : List Nat} {k : Nat} (hlt : k < ops.size) {a : Act} {w : World} (h : wpMid P ops Q S (pick ops R2) (pick ops (k :: l)) a w) : wpOp P ops Q k (fun a' w' => S w' ∧ wpMid P ops Q S (pick ops R2) (pick ops l) a' w') a w := by
  have h0 : ops[k]? = some ops[k] := Array.getElem?_eq_getElem hlt
  have hp : pick ops (k :: l) = ops[k] :: pick ops l := by unfold pick; rw [List.filterMap_cons, h0]
  rw [hp] at h
  unfold wpOp
  simp only [h0]
  unfold wpMid at h
  split
  · rename_i hwd; rw [if_pos hwd] at h; exact .inl h
  · rename_i hwd; rw [if_neg hwd] at h; exact h

theorem wpV_of_two {k1 k2 : Nat} {l R2 : List Nat} (h2 : ∀ k ∈ R2, keep k = false) {listed : Array Bool} {a : Act} {w : World} (hB : twoOk md ops k1 k2 (l ++ R2) listed = true)
    (ha : wpMid P ops Q S (pick ops R2) (pick ops (k1 :: k2 :: l)) a w) (hb : wpMid P ops Q S (pick ops R2) (pick ops (k2 :: k1 :: l)) a w) : wpV P md ops Q S keep (k1 :: k2 :: l ++ R2).length listed a w := by
  simp only [twoOk, Bool.and_eq_true, decide_eq_true_eq] at hB
  obtain ⟨hr, hk1, hk2, hc1, hc2⟩ := hB
  refine ⟨fun e => by rw [hr] at e; exact absurd e (List.cons_ne_nil _ _), fun i hi => ?_⟩
  rw [hr] at hi
  rcases (by simpa using hi : i = k1 ∨ i = k2) with rfl | rfl
  · exact wpOp_mono (fun a' w' x => ⟨fun _ => x.1, wpV_of_mid R2 h2 (k2 :: l) _ a' w' hc1 x.2⟩) (wpMid_op hk1 ha)
  · exact wpOp_mono (fun a' w' x => ⟨fun _ => x.1, wpV_of_mid R2 h2 (k1 :: l) _ a' w' hc2 x.2⟩) (wpMid_op hk2 hb)

theorem wpV_of_takeF {w : World} {L : Act → Prop} {fin : Array Bool → Bool} {n : Nat} (hs : Region.noSelect ops = true) (hS : S w) (hQ : ∀ o v c a w, Q (.panic c) (a.put o v) w → Q (.panic c) a w)
    (hL : ∀ listed a, fin listed = true → L a → wpV P md ops Q S keep n listed a w) :
    ∀ (l : List Nat) (listed : Array Bool) (a : Act), (∀ i ∈ l, keep i = true ∧ ∀ t ot, keep t = false → ops[t]? = some ot → ∃ e ∈ ot.after, Region.binds md e = true ∧ e.on = i) → takeOkF md ops fin l listed = true →
      wpTake P ops S L (pick ops l) a → wpV P md ops Q S keep (l.length + n) listed a w
  | [], listed, a, _, hB, h => by
    simp only [List.length_nil, Nat.zero_add]
    exact hL listed a hB h
  | k :: l, listed, a, hw, hB, h => by
    simp only [takeOkF, Bool.and_eq_true] at hB
    obtain ⟨hr, hf, hB'⟩ := hB
    have hr' : k ∈ Region.ready md ops listed := by simpa using hr
    obtain ⟨_, o, h0, _⟩ := mem_ready.1 hr'
    have hp : pick ops (k :: l) = o :: pick ops l := by unfold pick; rw [List.filterMap_cons, h0]
    rw [hp] at h
    obtain ⟨v, hy, h'⟩ := h
    have hn : (k :: l).length + n = (l.length + n) + 1 := by simp; omega
    rw [hn]
    exact wpV_first h0 (Region.noSelect_spec hs) (fun c a w => hQ _ _ c a w) (hw k List.mem_cons_self).2 (hw k List.mem_cons_self).1 _ listed a w (Region.free_spec h0 hf) hr' hy hS
      (wpV_of_takeF hs hS hQ hL l _ _ (fun i hi => hw i (List.mem_cons_of_mem _ hi)) hB' h')

def twoB (ops : Array Oper) (T : List Nat) (k1 k2 : Nat) (l R2 : List Nat) : Bool :=
  Region.noSelect ops && (takeOkF .any ops (twoOk .any ops k1 k2 (l ++ R2)) T (Array.replicate ops.size false) && (decide (T.length + (k1 :: k2 :: l ++ R2).length = ops.size) &&
    ((T.all fun i => !R2.contains i) && R2.all fun t => T.all fun i => Region.waitsFor .any ops t i)))

theorem wpAny_of_two {a : Act} {w : World} (T : List Nat) (k1 k2 : Nat) (l R2 : List Nat) (hB : twoB ops T k1 k2 l R2 = true) (hQ : Frameless Q) (S : World → Prop) (hS : S w)
    (h : wpTake P ops S (fun a' => wpMid P ops Q S (pick ops R2) (pick ops (k1 :: k2 :: l)) a' w ∧ wpMid P ops Q S (pick ops R2) (pick ops (k2 :: k1 :: l)) a' w) (pick ops T) a) : wpAny P .any ops Q ops.size (Array.replicate ops.size false) a w := by
  simp only [twoB, Bool.and_eq_true, decide_eq_true_eq] at hB
  obtain ⟨h1, h2, h3, h4, h6⟩ := hB
  refine wpV.any (S := S) (keep := fun i => !R2.contains i) ?_
  have key := wpV_of_takeF (md := .any) (keep := fun i => !R2.contains i) (n := (k1 :: k2 :: l ++ R2).length) (S := S) (Q := Q) (P := P) (ops := ops) (w := w) h1 hS hQ (fun listed a' hb hL => wpV_of_two (fun k hk => by simp [hk]) hb hL.1 hL.2)
    T (Array.replicate ops.size false) a (fun i hi => ⟨List.all_eq_true.1 h4 i hi, fun t ot ht hot => by
      have ht2 : t ∈ R2 := by simpa using ht
      obtain ⟨oj, hoj, x, hx⟩ := Region.waitsFor_spec (List.all_eq_true.1 (List.all_eq_true.1 h6 t ht2) i hi)
      have : oj = ot := Option.some.inj (hoj.symm.trans hot)
      subst this
      exact ⟨x, hx⟩⟩) h2 h
  rw [h3] at key
  exact key

theorem wp_region_two {id : Nat} {a : Act} {w : World} (T : List Nat) (k1 k2 : Nat) (l R2 : List Nat) (hm : P.follows .mixedOrders = true) (hB : twoB ops T k1 k2 l R2 = true) (S : World → Prop) (hS : S w.drew)
    (h : wpTake P ops S (fun a' => wpMid P ops (NoPanic Q) S (pick ops R2) (pick ops (k1 :: k2 :: l)) a' w.drew ∧ wpMid P ops (NoPanic Q) S (pick ops R2) (pick ops (k2 :: k1 :: l)) a' w.drew) (pick ops T) a) : (Code.region id ops true).wp P Q a w :=
  wp_region_noPanic (wp_region_any hm (wpAny_of_two T k1 k2 l R2 hB frameless_np S hS h))
end
end Go.Proofs.Ytjlkppdailkanaa
