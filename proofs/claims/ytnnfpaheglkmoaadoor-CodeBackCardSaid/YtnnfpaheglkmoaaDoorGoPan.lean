/-
  A region that draws its order and may panic, in a function that defers nothing: walked in phases.
-/
import Derived.Test.YtnnfpaheglkmoaaDoorGoPhase
set_option linter.unusedVariables false
namespace Go.Proofs.YtnnfpaheglkmoaaDoor
open Go.RowKit

/-- what a panic leaves, wherever in the region it comes -/
def MayPan (R : List PanicEntry → World → Prop) (Q : Exit → Act → World → Prop) : Exit → Act → World → Prop
  | .panic c, a, w => a.defers = [] ∧ R c w
  | e, a, w => Q e a w
section
variable {P : Program} {ops : Array Oper} {Q : Exit → Act → World → Prop} {S : World → Prop} {R : List PanicEntry → World → Prop}
theorem put_defers (a : Act) (o : Option Tmp) (v : Value) : (a.put o v).defers = a.defers := by cases o <;> rfl
theorem frameless_mp : Frameless (MayPan R Q) := fun o v c a w h => ⟨by rw [← put_defers a o v]; exact h.1, h.2⟩
theorem MayPan.imp (hR : ∀ c a w, a.defers = [] → R c w → Q (.panic c) a w) : ∀ (e : Exit) (a : Act) (w : World), MayPan R Q e a w → Q e a w := fun e a w h => by
  cases e <;> first | exact h | exact hR _ _ _ h.1 h.2
theorem wp_region_phases_mp {id : Nat} {a : Act} {w : World} (l : List (List Nat × List Nat)) (hm : P.follows .mixedOrders = true) (hB : phasesB ops l = true) (S : World → Prop) (hS : S w.drew)
    (R : List PanicEntry → World → Prop) (hR : ∀ c a w, a.defers = [] → R c w → Q (.panic c) a w)
    (h : wpPhases P ops (MayPan R Q) S l a w.drew) : (Code.region id ops true).wp P Q a w := by
  simp only [phasesB, Bool.and_eq_true, decide_eq_true_eq] at hB
  refine Code.wp_mono (MayPan.imp hR) (wp_region_any hm ?_)
  have key := wpV_phases (md := .any) (Q := MayPan R Q) hB.1 frameless_mp l (Array.replicate ops.size false) a w.drew hB.2.2 hS h
  rw [hB.2.1] at key
  exact key.any
theorem wp_region_text_mp {id : Nat} {a : Act} {w : World} (T R1 R2 : List Nat) (hm : P.follows .mixedOrders = true) (hB : anyB ops T R1 R2 = true) (S : World → Prop) (hS : S w.drew)
    (R : List PanicEntry → World → Prop) (hR : ∀ c a w, a.defers = [] → R c w → Q (.panic c) a w)
    (h : wpTake P ops S (fun a' => wpMid P ops (MayPan R Q) S (pick ops R2) (pick ops R1) a' w.drew) (pick ops T) a) : (Code.region id ops true).wp P Q a w :=
  Code.wp_mono (MayPan.imp hR) (wp_region_any hm (wpAny_of_any T R1 R2 hB frameless_mp S hS h))
theorem MayPan.normal {a : Act} {w : World} (h : Q .normal a w) : MayPan R Q .normal a w := h
theorem midk_end_mp {a : Act} {w : World} (h : Q .normal a w) : wpMidK P ops (MayPan R Q) S (wpPhases P ops (MayPan R Q) S []) [] a w := h
/-- a call that may panic -/
theorem call_wp_mp {o : Oper} {a : Act} {w : World} {K : Act → World → Prop} (f : FuncId) (xs : List Operand) (ts : Array TypeId) (args : Array Value) (ho : o.op = .call { callee := .value (.func f), args := xs.toArray, argTypes := ts }) (hx : (xs.map a.eval).toArray = args)
    (he : (callFunc f args).run P w = .ok (.enter f args) w) (h : Calls P f args w fun e w' => (∃ v, e = .returned v ∧ K (a.put o.dst v) w') ∨ (∃ c, e = .panicked c ∧ Q (.panic c) a w')) : o.wp P a w K Q := by
  unfold Oper.wp execOp
  simp only [ho, resolve, List.map_toArray, hx]
  simp [invoke, go_sem, he, Act.eval]
  refine h.mono fun e w' hh => ?_
  rcases hh with ⟨v, hv, hk⟩ | ⟨c, hv, hk⟩
  · subst hv
    exact hk
  · subst hv
    exact hk
end
end Go.Proofs.YtnnfpaheglkmoaaDoor
