/-
  A region that draws its order: first the operations T, taken anywhere; then a chain l, beside which one operation f may come up anywhere; then phases.
-/
import Derived.Test.YtcmlcpejlmlcfaaRabA
set_option linter.unusedVariables false
namespace Go.Proofs.Ytcmlcpejlmlcfaa
open Go.RowKit

section
variable {P : Program} {ops : Array Oper} {Q : Exit → Act → World → Prop} {md : Region.Mode} {S : World → Prop}

def floatC (md : Region.Mode) (ops : Array Oper) (C : Array Bool → Bool) (f : Nat) : List Nat → Array Bool → Bool
  | [], listed => chainC md ops C [f] listed
  | k :: l, listed => (Region.ready md ops listed).all (fun i => i == k || i == f) && (!(Region.ready md ops listed).isEmpty && (decide (k < ops.size) && (decide (f < ops.size) &&
      (floatC md ops C f l (listed.setIfInBounds k true) && chainC md ops C (k :: l) (listed.setIfInBounds f true)))))

/-- the chain, and f at whatever place; then K -/
def wpFloat (P : Program) (ops : Array Oper) (Q : Exit → Act → World → Prop) (S : World → Prop) (K : Act → World → Prop) (f : Nat) : List Nat → Act → World → Prop
  | [], a, w => wpMidK P ops Q S K (pick ops [f]) a w
  | k :: l, a, w => wpMidK P ops Q S (wpFloat P ops Q S K f l) (pick ops [k]) a w ∧ wpMidK P ops Q S K (pick ops (f :: k :: l)) a w

theorem midK_op {k : Nat} {l : List Nat} {K : Act → World → Prop} (hlt : k < ops.size) {a : Act} {w : World} (h : wpMidK P ops Q S K (pick ops (k :: l)) a w) : wpOp P ops Q k (fun a' w' => S w' ∧ wpMidK P ops Q S K (pick ops l) a' w') a w := by
  have h0 : ops[k]? = some ops[k] := Array.getElem?_eq_getElem hlt
  have hp : pick ops (k :: l) = ops[k] :: pick ops l := by unfold pick; rw [List.filterMap_cons, h0]
  rw [hp] at h
  unfold wpOp
  simp only [h0]
  unfold wpMidK at h
  split
  · rename_i hwd; rw [if_pos hwd] at h; exact .inl h
  · rename_i hwd; rw [if_neg hwd] at h; exact h

theorem wpV_floatC {K : Act → World → Prop} {C : Array Bool → Bool} {n f : Nat} (hL : ∀ listed a w, C listed = true → S w → K a w → wpV P md ops Q S (fun _ => true) n listed a w) :
    ∀ (l : List Nat) (listed : Array Bool) (a : Act) (w : World), floatC md ops C f l listed = true → S w → wpFloat P ops Q S K f l a w → wpV P md ops Q S (fun _ => true) (l.length + 1 + n) listed a w
  | [], listed, a, w, hB, hS, h => by
    have := wpV_chainC (n := n) hL [f] listed a w hB hS h
    simpa using this
  | k :: l, listed, a, w, hB, hS, h => by
    simp only [floatC, Bool.and_eq_true, decide_eq_true_eq, List.all_eq_true, Bool.not_eq_true'] at hB
    obtain ⟨hr, hne, hk, hf, hc1, hc2⟩ := hB
    have hn : (k :: l).length + 1 + n = (l.length + 1 + n) + 1 := by simp; omega
    rw [hn]
    refine ⟨fun e => by rw [e] at hne; simp at hne, fun i hi => ?_⟩
    have hx := hr i hi
    simp only [Bool.or_eq_true, beq_iff_eq] at hx
    rcases hx with rfl | rfl
    · refine wpOp_mono (fun a' w' x => ⟨fun _ => x.1, ?_⟩) (midK_op hk h.1)
      exact wpV_floatC hL l _ a' w' hc1 x.1 (by simpa [pick, wpMidK] using x.2)
    · refine wpOp_mono (fun a' w' x => ⟨fun _ => x.1, ?_⟩) (midK_op hf h.2)
      have := wpV_chainC (n := n) hL (k :: l) _ a' w' hc2 x.1 x.2
      rw [show l.length + 1 + n = (k :: l).length + n by simp]
      exact this

def floatB (ops : Array Oper) (T l : List Nat) (f : Nat) (ph : List (List Nat × List Nat)) : Bool :=
  Region.noSelect ops && (decide (T.length + (l.length + 1 + phasesN ph) = ops.size) && takeC .any ops (floatC .any ops (phasesC .any ops ph) f l) T (Array.replicate ops.size false))

theorem wp_region_float {id : Nat} {a : Act} {w : World} (T l : List Nat) (f : Nat) (ph : List (List Nat × List Nat)) (hm : P.follows .mixedOrders = true) (hB : floatB ops T l f ph = true) (S : World → Prop) (hS : S w.drew)
    (h : wpTake P ops S (fun a' => wpFloat P ops (NoPanic Q) S (wpPhases P ops (NoPanic Q) S ph) f l a' w.drew) (pick ops T) a) : (Code.region id ops true).wp P Q a w := by
  simp only [floatB, Bool.and_eq_true, decide_eq_true_eq] at hB
  refine wp_region_noPanic (wp_region_any hm ?_)
  have key := wpV_takeC (md := .any) (Q := NoPanic Q) (n := l.length + 1 + phasesN ph) hB.1 hS frameless_np (fun listed a hC hL => wpV_floatC (fun listed a w hC hS hK => wpV_phases hB.1 frameless_np ph listed a w hC hS hK) l listed a w.drew hC hS hL)
    T (Array.replicate ops.size false) a hB.2.2 h
  rw [hB.2.1] at key
  exact key.any
theorem wpMidK_to {K K' : Act → World → Prop} (hK : ∀ a w, K' a w → K a w) : ∀ (l : List Oper) (a : Act) (w : World), wpMidK P ops Q S K' l a w → wpMidK P ops Q S K l a w
  | [], a, w, h => hK a w h
  | o :: l, a, w, h => by
    unfold wpMidK at h ⊢
    split
    · rename_i hw
      rw [if_pos hw] at h
      exact Oper.wp_mono (fun a2 w2 x => ⟨x.1, wpMidK_to hK l a2 w2 x.2⟩) h
    · rename_i hw
      rw [if_neg hw] at h
      exact ⟨h.1, wpMidK_to hK l _ w h.2⟩
theorem wpFloat_mono {K K' : Act → World → Prop} {f : Nat} (hK : ∀ a w, K' a w → K a w) : ∀ (l : List Nat) (a : Act) (w : World), wpFloat P ops Q S K' f l a w → wpFloat P ops Q S K f l a w
  | [], a, w, h => wpMidK_to hK _ a w h
  | k :: l, a, w, h => ⟨wpMidK_to (fun a w x => wpFloat_mono hK l a w x) _ a w h.1, wpMidK_to hK _ a w h.2⟩
/-- all orders come to one frame, one world -/
theorem wpFloat_to {K : Act → World → Prop} {f : Nat} {l : List Nat} {a : Act} {w : World} (aF : Act) (wF : World) (h : wpFloat P ops Q S (fun a w => a = aF ∧ w = wF) f l a w) (hK : K aF wF) : wpFloat P ops Q S K f l a w :=
  wpFloat_mono (fun a w x => by obtain ⟨rfl, rfl⟩ := x; exact hK) l a w h
end
end Go.Proofs.Ytcmlcpejlmlcfaa
