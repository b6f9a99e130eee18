/-
  More steps of a region that is walked in phases: a load and a store of a plain cell.
-/
import Derived.Test.YtolldoclnfnceaaDoorRows
import Derived.Test.YtolldoclnfnceaaDoorGoAll
import Derived.Test.YtolldoclnfnceaaDoorGoPhase
set_option linter.unusedVariables false
namespace Go.Proofs.YtolldoclnfnceaaDoor
open Go.RowKit

section
variable {P : Program} {ops : Array Oper} {Q : Exit → Act → World → Prop} {S : World → Prop}
theorem midk_put {K : Act → World → Prop} {o : Oper} {l : List Oper} {a : Act} {w w' : World} (ty : TypeId) (x y : Operand) (pv vv : Value) (hw : Region.wanted o (yielded ops a.tmps) = true) (ho : o.op = .store ty x y) (hx : a.eval x = pv) (hy : a.eval y = vv)
    (h : (Instr.storeAt ty pv vv).run P w = .ok () w') (hS : S w') (hK : wpMidK P ops Q S K l (a.put o.dst undef) w') : wpMidK P ops Q S K (o :: l) a w := by
  refine midk_wp hw ?_
  unfold Oper.wp execOp
  simp only [ho, hx, hy, h, Sem.run_bind, Sem.run_pure, Result.andThen_ok]
  exact ⟨hS, hK⟩
theorem mid_pure {rest : List Oper} {o : Oper} {l : List Oper} {a : Act} {w : World} (v : Value) (hw : Region.wanted o (yielded ops a.tmps) = true) (h : ∀ w, (execOp a.eval o).run P w = .ok (.value v) w) (hS : S w) (hK : wpMid P ops Q S rest l (a.put o.dst v) w) : wpMid P ops Q S rest (o :: l) a w := mid_one v hw (h w) hS hK
theorem midk_pure {K : Act → World → Prop} {o : Oper} {l : List Oper} {a : Act} {w : World} (v : Value) (hw : Region.wanted o (yielded ops a.tmps) = true) (h : ∀ w, (execOp a.eval o).run P w = .ok (.value v) w) (hS : S w) (hK : wpMidK P ops Q S K l (a.put o.dst v) w) : wpMidK P ops Q S K (o :: l) a w := midk_one v hw (h w) hS hK
theorem midk_load {K : Act → World → Prop} {o : Oper} {l : List Oper} {a : Act} {w : World} (ty : TypeId) (x : Operand) (p : Addr) (v : Value) (hw : Region.wanted o (yielded ops a.tmps) = true) (ho : o.op = .load ty x) (hx : a.eval x = .pointer (some p)) (hr : (Instr.loadAt ty (.pointer (some p))).run P w = .ok v w) (hS : S w) (hK : wpMidK P ops Q S K l (a.put o.dst v) w) : wpMidK P ops Q S K (o :: l) a w :=
  midk_one v hw (by unfold execOp; rw [ho]; simp only [hx, hr, Sem.run_bind, Sem.run_pure, Result.andThen_ok]) hS hK
theorem midk_box {K : Act → World → Prop} {o : Oper} {l : List Oper} {a : Act} {w : World} (ty : TypeId) (x : Operand) (cs : Array Value) (hw : Region.wanted o (yielded ops a.tmps) = true) (ho : o.op = .box ty x) (hx : a.eval x = .agg cs) (hS : S (w.alloc (.cells cs ty))) (hK : wpMidK P ops Q S K l (a.put o.dst (.pointer (some ⟨w.heap.size, 0, none⟩))) (w.alloc (.cells cs ty))) : wpMidK P ops Q S K (o :: l) a w :=
  midk_one (.pointer (some ⟨w.heap.size, 0, none⟩)) hw (by unfold execOp; rw [ho]; simp only [hx]; simp [Instr.box, newVar, go_sem, Value.cells]) hS hK
/-- a call of a closure without parameters of its own -/
theorem call_fn_wp {o : Oper} {a : Act} {w : World} {K : Act → World → Prop} (f : FuncId) (t : Tmp) (caps : Array Value) (ho : o.op = .call { callee := .value (.tmp t), args := #[], argTypes := #[] }) (ht : a.eval (.tmp t) = .func (.func f) #[] caps)
    (he : (callFunc f caps).run P w = .ok (.enter f caps) w) (h : Calls P f caps w fun e w' => ∃ v, e = .returned v ∧ K (a.put o.dst v) w') : o.wp P a w K Q := by
  unfold Oper.wp execOp
  simp only [ho, resolve, ht]
  simp [invoke, go_sem, he]
  refine h.mono fun e w' ⟨v, hv, hk⟩ => ?_
  subst hv
  exact hk
theorem run_build_at {o : Oper} {a : Act} {w : World} {v : Value} (t : TypeId) (parts : List (Nat × Operand)) (ho : o.op = .build t parts.toArray) (h : (Instr.build t (parts.map fun (i, x) => (i, a.eval x)).toArray).run P w = .ok v w) : (execOp a.eval o).run P w = .ok (.value v) w := by
  unfold execOp
  rw [ho]
  simp only [List.map_toArray, h, Sem.run_bind, Sem.run_pure, Result.andThen_ok]
theorem run_make_at {o : Oper} {a : Act} {w w' : World} {v xv yv : Value} (t : TypeId) (x y : Operand) (ho : o.op = .makeSlice t x y) (hx : a.eval x = xv) (hy : a.eval y = yv) (h : (Instr.makeSlice t xv yv).run P w = .ok v w') : (execOp a.eval o).run P w = .ok (.value v) w' := by
  unfold execOp
  rw [ho]
  simp only [hx, hy, h, Sem.run_bind, Sem.run_pure, Result.andThen_ok]
theorem run_conv_at {o : Oper} {a : Act} {w w' : World} {v xv : Value} (s d : TypeId) (x : Operand) (ho : o.op = .convert s d x) (hx : a.eval x = xv) (h : (convert s d xv).run P w = .ok v w') : (execOp a.eval o).run P w = .ok (.value v) w' := by
  unfold execOp
  rw [ho]
  simp only [hx, h, Sem.run_bind, Sem.run_pure, Result.andThen_ok]
end
theorem load_at {w : World} {t : TypeId} {b o : Nat} {x : Value} {D : TypeDesc} (hu : Tryd.prog.underlying t = some D) (ha : ∀ w, (isAgg t).run Tryd.prog w = .ok false w) (h : w.cell? ⟨b, o, none⟩ = some x) :
    (Instr.loadAt t (.pointer (some ⟨b, o, none⟩))).run Tryd.prog w = .ok x w := by
  simp [Instr.loadAt, go_sem, ha, h]
theorem store_num {w : World} {t : TypeId} {b o : Nat} {x' : Value} {k : IntKind} {x : Int} (hz : ∀ w, (sizeOf t).run Tryd.prog w = .ok 1 w) (h0 : w.cell? ⟨b, o, none⟩ = some x') (f0 : w.frozen? ⟨b, o, none⟩ = false) :
    (Instr.storeAt t (.pointer (some ⟨b, o, none⟩)) (.int k x)).run Tryd.prog w = .ok () (w.setCell ⟨b, o, none⟩ (.int k x)) := by
  simp [Instr.storeAt, go_sem, hz, h0, f0]
end Go.Proofs.YtolldoclnfnceaaDoor
