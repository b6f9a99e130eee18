/-
  GoMid's region within a round of a range over a function.
-/
import Derived.Test.YtjlkppdailkanaaGoMid
import Derived.OrdersIn
import Derived.ControlIn
import Derived.RangeFuncCalls
set_option linter.unusedVariables false
namespace Go.Proofs.Ytjlkppdailkanaa
open Go.RowKit

section
variable {P : Program} {ops : Array Oper} {Q : Exit → Act → World → Prop} {md : Region.Mode} {S : World → Prop} {l n : Nat}

/-- the end alone -/
def onlyEnd (Qn : Act → World → Prop) : Exit → Act → World → Prop
  | .normal, a, w => Qn a w
  | _, _, _ => False

theorem op_in {o : Oper} {a : Act} {w : World} {K : Act → World → Prop} {Qn : Act → World → Prop} (hd : ∀ c, o.op ≠ .defer c) (h : o.wp P a w K (onlyEnd Qn)) : o.wpIn (Fence.wide.inRound l) n P a w K Q := by
  refine ⟨fun _ _ => trivial, ?_⟩
  rw [Oper.semAt_eq _ _ _ hd]
  unfold Oper.wp at h
  generalize (execOp a.eval o).run P w = r at *
  cases r with
  | ok x w' =>
    cases x <;> simp only [Oper.upon, Oper.uponIn] at h ⊢
    case value => exact h
    case skip => exact h
    case defer => exact h
    case enter f args =>
      refine ⟨fun e => by simp [Fence.wide] at e, CallsIn.inRound l (callsIn_wide.2 (h.mono fun e w'' he => ?_))⟩
      cases e with
      | returned v => exact he
      | panicked c => exact (he : False).elim
      | outgrown => obtain ⟨_, _, hx⟩ := (he : LetsOut (onlyEnd Qn)); exact (hx : False).elim
    case row row args =>
      refine ⟨fun e => by simp [Fence.wide] at e, fun c cs _ => ?_⟩
      obtain ⟨v, w2, r, s⟩ := h c cs
      exact ⟨v, w2, r, stepsIn_wide.2 s⟩
  | halt x w' =>
    cases x <;> simp only [Oper.upon, Oper.uponIn] at h ⊢
    case panic v => exact (h : False).elim

theorem noRoom {o : Oper} {a : Act} {w : World} {Qn : Act → World → Prop} (h : o.asks P a w ∧ LetsOut (onlyEnd Qn)) : False := by
  obtain ⟨_, _, _, hx⟩ := h
  exact hx

theorem wpAny_in {Qn : Act → World → Prop} (hd : ∀ (i : Nat) (o : Oper), ops[i]? = some o → ∀ c, o.op ≠ .defer c) (hQ : ∀ a w, Qn a w → Q .normal a w) (hab : ∀ (i : Nat) (o : Oper) (a : Act) (w : World) (f : FuncId), ops[i]? = some o → o.about P w a.eval = some f → (Fence.wide.inRound l).fn f) :
    ∀ (fuel : Nat) (listed : Array Bool) (a : Act) (w : World), wpAny P md ops (onlyEnd Qn) fuel listed a w → wpAnyIn (Fence.wide.inRound l) n P md ops Q fuel listed a w
  | 0, listed, a, w, h => ⟨h.1, hQ _ _ h.2⟩
  | fuel + 1, listed, a, w, h => by
    refine ⟨fun e => hQ _ _ (h.1 e), fun i hi => ?_⟩
    have h1 := h.2 i hi
    unfold wpOp at h1
    unfold wpOpIn
    cases ho : ops[i]? with
    | none =>
      simp only [ho] at h1 ⊢
      exact wpAny_in hd hQ hab fuel _ _ _ h1
    | some o =>
      simp only [ho] at h1 ⊢
      split
      · rename_i hw
        rw [if_pos hw] at h1
        rcases h1 with h1 | h1
        · exact Oper.wpIn_mono (fun a w => wpAny_in hd hQ hab fuel _ a w) (op_in (hd i o ho) h1)
        · exact (noRoom h1).elim
      · rename_i hw
        rw [if_neg hw] at h1
        exact ⟨fun f hf => hab i o a w f ho hf, wpAny_in hd hQ hab fuel _ _ _ h1⟩

theorem wp_region_mid_in {id : Nat} {a : Act} {w : World} (n1 m : Nat) (hm : P.follows .mixedOrders = true) (hB : midB ops n1 m = true) (hdf : (ops.all fun o => match o.op with | .defer _ => false | _ => true) = true) (S : World → Prop) (hS : S w.drew)
    (h : wpTake P ops S (fun a' => wpMid P ops (onlyEnd (Q .normal)) S (ops.toList.drop m) ((ops.toList.drop n1).take (m - n1)) a' w.drew) (ops.toList.take n1) a) : (Code.region id ops true).wpIn (Fence.wide.inRound l) n P Q a w := by
  refine wpIn_region_any hm ?_
  have hd : ∀ (i : Nat) (o : Oper), ops[i]? = some o → ∀ c, o.op ≠ .defer c := fun i o ho c e => by
    have := Array.all_eq_true'.1 hdf o (Array.mem_of_getElem? ho)
    rw [e] at this
    exact Bool.noConfusion this
  refine wpAny_in (Qn := Q .normal) hd (fun _ _ h => h) (fun _ _ _ _ _ _ _ => trivial) _ _ _ _ ?_
  exact wpAny_of_mid n1 m hB (fun _ _ _ _ _ h => (h : False).elim) S hS h
end
end Go.Proofs.Ytjlkppdailkanaa
