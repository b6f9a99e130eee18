/-
  The iterator over the marks of a text, from one place to another one: whatever its caller does with each, and whether it goes on or not.
-/
import Derived.Test.YtofiimkpbbiegaaChuFind
import Derived.Test.YtofiimkpbbiegaaGoRangeStop
import Derived.Test.YtofiimkpbbiegaaGoPhase
import Derived.Test.YtofiimkpbbiegaaGoPh2
import Derived.OwnWalkIn
import Derived.TacticsInMore
import Derived.LoopNIn
import Derived.LoopIn
set_option linter.unusedVariables false
set_option maxRecDepth 100000
namespace Go.Proofs.Ytofiimkpbbiegaa
open Go.RowKit
attribute [local go_sem] Oper.semAt_some

section
variable {b k B : Nat} {s : ByteArray} {f t : Int} {w w' : World}
theorem MkBox.d0 (h : MkBox b k s f t B w) : w.cell? ⟨B, 0, none⟩ = some (.pointer (some ⟨b, 0, none⟩)) := cell_of_row _ _ 0 _ _ _ h.fi
theorem MkBox.d01 (h : MkBox b k s f t B w) : w.cell? ⟨B, 1, none⟩ = some (.int .u64 ((2 ^ k - 1 : Nat) : Int)) := cell_of_row _ _ 1 _ _ _ h.fi
theorem MkBox.d1 (h : MkBox b k s f t B w) : w.cell? ⟨B + 1, 0, none⟩ = some (.string s) := cell_of_row _ _ 0 _ _ _ h.st
theorem MkBox.d2 (h : MkBox b k s f t B w) : w.cell? ⟨B + 2, 0, none⟩ = some (.int .i64 f) := cell_of_row _ _ 0 _ _ _ h.lo
theorem MkBox.d3 (h : MkBox b k s f t B w) : w.cell? ⟨B + 3, 0, none⟩ = some (.int .i64 t) := cell_of_row _ _ 0 _ _ _ h.hi
theorem Turns.drewD {T : Nat → Prop} (h : Turns T w.drew w') : Turns T w w' := ⟨h.os, h.tape, h.output, h.size, h.block⟩
theorem RolG.others {p n : Nat} {G : List UInt8} (h : RolG b p n G w) (ht : Turns (fun j => j = b) w w') : KeepsOthers w w' := by
  obtain ⟨r, hr, _⟩ := h
  refine ⟨ht.size, fun j o hj ho => ?_⟩
  refine (ht.block j (row_lt hj) (fun e => ?_)).trans hj
  subst e
  rw [show w.heap[j]? = _ from hr] at hj
  cases hj
  simp [Obj.isCells] at ho
end
theorem run_sub_hi {P : Program} {o : Oper} {a : Act} {u : World} (t : TypeId) (x h : Operand) (ho : o.op = .slice t x none (some h) none) (xv hv v : Value) (hx : a.eval x = xv) (hh : a.eval h = hv) (hr : (Instr.sliceAt t xv none (some hv) none).run P u = .ok v u) : (execOp a.eval o).run P u = .ok (.value v) u := by
  unfold execOp
  simp only [ho, Option.map_some, Option.map_none, hx, hh, Sem.run_bind, hr, Result.andThen_ok, Sem.run_pure]
theorem run_sub_both {P : Program} {o : Oper} {a : Act} {u : World} (t : TypeId) (x l h : Operand) (ho : o.op = .slice t x (some l) (some h) none) (xv lv hv v : Value) (hx : a.eval x = xv) (hl : a.eval l = lv) (hh : a.eval h = hv) (hr : (Instr.sliceAt t xv (some lv) (some hv) none).run P u = .ok v u) : (execOp a.eval o).run P u = .ok (.value v) u := by
  unfold execOp
  simp only [ho, Option.map_some, Option.map_none, hx, hl, hh, Sem.run_bind, hr, Result.andThen_ok, Sem.run_pure]
theorem text_part (s : ByteArray) (i j : Nat) (h1 : i ≤ j) (h2 : j ≤ s.size) (u : World) : (Instr.sliceAt 9 (.string s) (some (.int .i64 (i : Int))) (some (.int .i64 (j : Int))) none).run Try.prog u = .ok (.string (s.extract i j)) u := by
  have g1 : ¬ (i : Int) < 0 := by omega
  have g2 : ¬ (s.size : Int) < (j : Int) := by omega
  have g3 : ¬ (j : Int) < (i : Int) := by omega
  simp [Instr.sliceAt, Instr.slice, Instr.sliceBounds, Instr.sliceBound, asIntOf, run_underlying Try.underlying9, h1, h2]
  trace_state
theorem text_head (s : ByteArray) (j : Nat) (h2 : j ≤ s.size) (u : World) : (Instr.sliceAt 9 (.string s) none (some (.int .i64 (j : Int))) none).run Try.prog u = .ok (.string (s.extract 0 j)) u := by
  simp [Instr.sliceAt, Instr.slice, Instr.sliceBounds, Instr.sliceBound, asIntOf, run_underlying Try.underlying9]
  omega
theorem slice_begin (s : ByteArray) (m : Nat) (h1 : 1 ≤ m) (h2 : m - 1 ≤ s.size) (u : World) : (Instr.sliceAt 9 (.string s) none (some (.int .i64 ((m : Int) - 1))) none).run Try.prog u = .ok (.string (s.extract 0 (m - 1))) u := by
  rw [show (m : Int) - 1 = ((m - 1 : Nat) : Int) by omega]
  exact text_head s _ h2 u
theorem slice_byte (s : ByteArray) (m : Nat) (h1 : 1 ≤ m) (h2 : m ≤ s.size) (u : World) : (Instr.sliceAt 9 (.string s) (some (.int .i64 ((m : Int) - 1))) (some (.int .i64 (m : Int))) none).run Try.prog u = .ok (.string (s.extract (m - 1) m)) u := by
  rw [show (m : Int) - 1 = ((m - 1 : Nat) : Int) by omega]
  exact text_part s _ _ (by omega) h2 u
theorem text_take (s : ByteArray) (i : Nat) : (s.extract 0 i).data.toList = s.data.toList.take i := by
  rw [Lib.extract_eq]
  simp
theorem text_step (s : ByteArray) (i : Nat) (h1 : 1 ≤ i) (h2 : i ≤ s.size) : s.data.toList.take (i - 1) ++ (s.extract (i - 1) i).data.toList = s.data.toList.take i := by
  rw [Lib.extract_eq]
  simp only []
  have h := List.take_append_drop (i - 1) (s.data.toList.take i)
  rw [List.take_take, Nat.min_eq_left (by omega)] at h
  rw [← List.drop_take]
  exact h
theorem Chu.mark_is (p n k : Nat) (l : List UInt8) (i : Nat) : Chu.mark p n k l i = (Pol.fp p (Pol.last n (l.take i)) &&& (2 ^ k - 1) == 2 ^ k - 1) := rfl
/-- an own roller, whatever it was given, and the four boxes -/
def MkAny (b p n k : Nat) (s : ByteArray) (f t : Int) (B : Nat) (w : World) : Prop := (∃ G, RolG b p n G w) ∧ MkBox b k s f t B w
/-- .. that was given the first i bytes -/
def MkOwn (b p n k : Nat) (s : ByteArray) (f t : Int) (B i : Nat) (w : World) : Prop := RolG b p n (s.data.toList.take i) w ∧ MkBox b k s f t B w

set_option maxHeartbeats 1000000 in
theorem mkIter_any {b p n k B f t : Nat} {s : ByteArray} (hf : 1 ≤ f) (ht : t ≤ s.size) (hk : k ≤ 16) (hp : Pol.fine p) (hsz : s.size ≤ 140737488351232) (hB : b < B) {C CS : Nat → World → Prop} {W1 : World}
    (hC : ∀ i W W', C i W → Turns (fun j => j = b) W W' → C i W') (hskip : ∀ i W, f ≤ i → i ≤ t → Chu.mark p n k s.data.toList i = false → C i W → C (i + 1) W)
    (hown : MkAny b p n k s f t B W1) (h0 : C f W1)
    (ly : Nat) (Book BookS : World → Prop) (hBook : ∀ A A', KeepsOthers A A' → Book A → Book A') (hb1 : Book W1)
    (hY : ∀ i W, f ≤ i → i ≤ t → Chu.mark p n k s.data.toList i = true → Book W → MkOwn b p n k s f t B i W → C i W → YieldAt Fence.wide 3 Try.prog ly #[.int .i64 (i : Int)] W fun e W' => (e = .returned (.bool true) ∧ Book W' ∧ MkOwn b p n k s f t B i W' ∧ C (i + 1) W') ∨ (e = .returned (.bool false) ∧ BookS W' ∧ CS i W')) :
    CallsIn Fence.wide 4 Try.prog 34 (#[.func (.yield ly) #[] #[]] ++ #[.pointer (some ⟨B + 2, 0, none⟩), .pointer (some ⟨B + 3, 0, none⟩), .pointer (some ⟨B, 0, none⟩), .pointer (some ⟨B + 1, 0, none⟩)]) W1
      fun e W' => (∃ v, e = .returned v) ∧ ((Book W' ∧ MkAny b p n k s f t B W' ∧ C (max f (t + 1)) W') ∨ (∃ i, f ≤ i ∧ i ≤ t ∧ BookS W' ∧ CS i W')) := by
  obtain ⟨⟨G, hg⟩, hbx⟩ := hown
  refine callsIn_of_wp Try.func34 rfl trivial ?_ rfl
  simp only [Try.ntmps34, List.size_toArray, List.length_cons, List.length_nil, Nat.reduceAdd, Nat.reduceSub, Array.replicate_succ, Array.replicate_zero, List.push_toArray, List.append_toArray, List.nil_append, List.cons_append]
  have HY := Lib.hid hY; clear hY
  have HBk := Lib.hid hBook; clear hBook
  have HC := Lib.hid hC; clear hC
  have HS := Lib.hid hskip; clear hskip
  have HB := Lib.hid hB; clear hB
  have d0 := hbx.d0
  have d01 := hbx.d01
  have d1 := hbx.d1
  have d2 := hbx.d2
  have d3 := hbx.d3
  by_cases hft : t < f
  · have g : decide (t < f) = true := decide_eq_true hft
    have hmx : max f (t + 1) = f := by omega
    rw [hmx]
    have Hb1 := Lib.hid hb1; clear hb1
    have Hg := Lib.hid hg; clear hg
    have Hbx := Lib.hid hbx; clear hbx
    have H0 := Lib.hid h0; clear h0
    clear hf ht hk hp hsz hft hmx
    gi_wp2_with fail
    refine bodyPost_ret (v := .tuple #[]) (results_none rfl _ _ _) rfl ?_
    exact ⟨⟨_, rfl⟩, .inl ⟨Hb1.out, ⟨⟨G, Hg.out⟩, Hbx.out⟩, H0.out⟩⟩
  · have g : decide (t < f) = false := decide_eq_false hft
    have hmx : max f (t + 1) = t + 1 := by omega
    rw [hmx]
    have Hb1 := Lib.hid hb1; clear hb1
    have Hbx := Lib.hid hbx; clear hbx
    have H0 := Lib.hid h0; clear h0
    have cr := callsIn_wide (n := 3).2 (resetG_any hg)
    have Hg := Lib.hid hg; clear hg
    have Cr := Lib.hid cr; clear cr
    have hsl0 := slice_begin s f hf (by omega)
    have Hsl0 := Lib.hid hsl0; clear hsl0
    have Hp := Lib.hid hp; clear hp hmx
    gi_wp2_with fail
    refine ⟨trivial, Cr.out.mono ?_⟩; rintro e W2 ⟨rfl, hg2, t2⟩
    have hbx2 := Hbx.out.keeps t2 (fun j h1 h2 => by have := HB.out; omega)
    have hc2 := HC.out _ _ _ H0.out t2
    have hk2 := HBk.out _ _ (Hg.out.others t2) Hb1.out
    clear d0 d01 d1 d2 d3
    have d0 := hbx2.d0
    have d1 := hbx2.d1
    have d2 := hbx2.d2
    have Hg2 := Lib.hid hg2; clear hg2
    have Hbx2 := Lib.hid hbx2; clear hbx2
    have Hc2 := Lib.hid hc2; clear hc2
    have Hk2 := Lib.hid hk2; clear hk2 t2 Hg Hbx H0 Hb1 Cr
    have hw0 : IntKind.i64.wrap ((f : Int) - 1) = (f : Int) - 1 := by simp only [IntKind.wrap_i64]; omega
    have hz0 : (s.extract 0 (f - 1)).size ≤ 140737488351232 := by rw [ByteArray.size_extract]; omega
    have Hw0 := Lib.hid hw0; clear hw0
    gi_wp2_with fail
    refine wpIn_wide.2 ?_
    refine wp_region_phases [([0, 1, 2, 3, 4, 5], [6])] (by kernel_rfl) (by kernel_rfl) (fun z => z.cell? ⟨B, 0, none⟩ = some (.pointer (some ⟨b, 0, none⟩)) ∧ z.cell? ⟨B + 1, 0, none⟩ = some (.string s) ∧ z.cell? ⟨B + 2, 0, none⟩ = some (.int .i64 (f : Int))) ⟨d0, d1, d2⟩ ?_
    simp only [wpPhases, pick, List.filterMap_cons, List.filterMap_nil, List.getElem?_toArray, List.getElem?_cons_zero, List.getElem?_cons_succ]
    refine take_one (.pointer (some ⟨B, 0, none⟩)) rfl (fun u _ => by go_simp) ?_
    simp only [Act.put, List.setIfInBounds_toArray, List.set_cons_zero, List.set_cons_succ]
    refine take_load 52 (.tmp 15) ⟨B, 0, none⟩ (.pointer (some ⟨b, 0, none⟩)) rfl rfl rfl (fun u hu => load_at Try.underlying52 Try.isAgg52 hu.1) ?_
    simp only [Act.put, List.setIfInBounds_toArray, List.set_cons_zero, List.set_cons_succ]
    refine take_load 9 (.tmp 4) ⟨B + 1, 0, none⟩ (.string s) rfl rfl rfl (fun u hu => load_at Try.underlying9 Try.isAgg9 hu.2.1) ?_
    simp only [Act.put, List.setIfInBounds_toArray, List.set_cons_zero, List.set_cons_succ]
    refine take_load 3 (.tmp 1) ⟨B + 2, 0, none⟩ (.int .i64 (f : Int)) rfl rfl rfl (fun u hu => load_at Try.underlying3 Try.isAgg3 hu.2.2) ?_
    simp only [Act.put, List.setIfInBounds_toArray, List.set_cons_zero, List.set_cons_succ]
    refine take_one (.int .i64 ((f : Int) - 1)) rfl (fun u hu => by go_simp; exact Hw0.out) ?_
    simp only [Act.put, List.setIfInBounds_toArray, List.set_cons_zero, List.set_cons_succ]
    refine take_one (.string (s.extract 0 (f - 1))) rfl (fun u hu => run_sub_hi 9 (.tmp 17) (.tmp 19) rfl _ _ _ rfl rfl (Hsl0.out u)) ?_
    simp only [Act.put, List.setIfInBounds_toArray, List.set_cons_zero, List.set_cons_succ]
    refine take_done ?_
    refine midk_wp rfl (call_wp 36 [.tmp 16, .tmp 20] #[52, 9] #[.pointer (some ⟨b, 0, none⟩), .string (s.extract 0 (f - 1))] rfl rfl rfl ?_)
    refine (rollG_any (w := W2.drew) (s := s.extract 0 (f - 1)) Hg2.out hz0).mono ?_
    rintro e w3 ⟨he, hg3, t3⟩
    obtain ⟨y0, hy0⟩ : ∃ y0, Pol.fp p (Pol.last n ([] ++ (s.extract 0 (f - 1)).data.toList)) = y0 := ⟨_, rfl⟩
    rw [hy0] at he
    subst he
    clear hy0
    have hbx3 := Hbx2.out.keeps t3.drewD (fun j h1 h2 => by have := HB.out; omega)
    refine ⟨_, rfl, ⟨hbx3.d0, hbx3.d1, hbx3.d2⟩, ?_⟩
    simp only [Act.put, List.setIfInBounds_toArray, List.set_cons_zero, List.set_cons_succ]
    refine midk_end ?_
    have hc3 := HC.out _ _ _ Hc2.out t3.drewD
    have hk3 := HBk.out _ _ ((KeepsOthers.drew W2).trans (RolG.others (w := W2.drew) Hg2.out t3)) Hk2.out
    rw [List.nil_append, text_take] at hg3
    have Hg3 := Lib.hid hg3; clear hg3
    have Hbx3 := Lib.hid hbx3; clear hbx3
    have Hc3 := Lib.hid hc3; clear hc3
    have Hk3 := Lib.hid hk3; clear hk3 t3 Hk2 Hc2 Hbx2 Hg2 Hsl0 Hw0 hz0
    have e2 := Hbx3.out.d2
    clear d0 d1 d2
    gi_wp2_with fail
    gi_loopw [6] (fun c wr => ∃ i : Nat, f ≤ i ∧ i ≤ t + 1 ∧ c = .int .i64 (i : Int) ∧ Book wr ∧ RolG b p n (s.data.toList.take (i - 1)) wr ∧ MkBox b k s f t B wr ∧ C i wr) (fun c _ => t + 1 - (intOf c).toNat)
    case atStart => exact ⟨f, Nat.le_refl _, by omega, rfl, Hk3.out, Hg3.out, Hbx3.out, Hc3.out⟩
    case round =>
      clear Hg3 Hbx3 Hc3 Hk3 e2
      obtain ⟨i, hi1, hi2, rfl, hbk, hgr, hbxr, hcr⟩ := hrel
      have d0 := hbxr.d0
      have d1 := hbxr.d1
      have d3 := hbxr.d3
      have Hgr := Lib.hid hgr; clear hgr
      have Hbxr := Lib.hid hbxr; clear hbxr
      have Hcr := Lib.hid hcr; clear hcr
      have Hbk := Lib.hid hbk; clear hbk
      by_cases hit : i = t + 1
      · subst hit
        have g2 : decide (t + 1 ≤ t) = false := decide_eq_false (by omega)
        have g3 : decide (((t + 1 : Nat) : Int) ≤ (t : Int)) = false := decide_eq_false (by omega)
        gi_wp2_with fail
        refine bodyPost_end (v := .tuple #[]) (results_none rfl _ _ _) rfl ?_
        exact ⟨⟨_, rfl⟩, .inl ⟨Hbk.out, ⟨⟨_, Hgr.out⟩, Hbxr.out⟩, Hcr.out⟩⟩
      · have hle : i ≤ t := by omega
        have g2 : decide (i ≤ t) = true := decide_eq_true hle
        have hsl1 := slice_byte s i (by omega) (by omega)
        have Hsl1 := Lib.hid hsl1; clear hsl1
        have hw1 : IntKind.i64.wrap ((i : Int) - 1) = (i : Int) - 1 := by simp only [IntKind.wrap_i64]; omega
        have Hw1 := Lib.hid hw1; clear hw1
        have hz1 : (s.extract (i - 1) i).size ≤ 140737488351232 := by rw [ByteArray.size_extract]; omega
        have hG := text_step s i (by omega) (by omega)
        have HG := Lib.hid hG; clear hG
        have hym := Chu.mark_is p n k s.data.toList i
        have hy64 := fp_room Hp.out (Pol.fp_len (Pol.fine_ne Hp.out) (Pol.last n (s.data.toList.take i)))
        obtain ⟨y, hy1⟩ : ∃ y, Pol.fp p (Pol.last n (s.data.toList.take i)) = y := ⟨_, rfl⟩
        rw [hy1] at hym hy64
        have HY1 := Lib.hid hy1; clear hy1
        have Hym := Lib.hid hym; clear hym
        gi_wp2_with fail
        refine wpIn_wide.2 ?_
        refine wp_region_phases [([0, 1, 2, 3, 4, 5, 6], [7, 8]), ([9, 10], [11, 12])] (by kernel_rfl) (by kernel_rfl) (fun z => z.cell? ⟨B, 0, none⟩ = some (.pointer (some ⟨b, 0, none⟩)) ∧ z.cell? ⟨B + 1, 0, none⟩ = some (.string s)) ⟨d0, d1⟩ ?_
        simp only [wpPhases, pick, List.filterMap_cons, List.filterMap_nil, List.getElem?_toArray, List.getElem?_cons_zero, List.getElem?_cons_succ]
        refine take_one (.pointer (some ⟨B, 0, none⟩)) rfl (fun u _ => by go_simp) ?_
        simp only [Act.put, List.setIfInBounds_toArray, List.set_cons_zero, List.set_cons_succ]
        refine take_load 52 (.tmp 29) ⟨B, 0, none⟩ (.pointer (some ⟨b, 0, none⟩)) rfl rfl rfl (fun u hu => load_at Try.underlying52 Try.isAgg52 hu.1) ?_
        simp only [Act.put, List.setIfInBounds_toArray, List.set_cons_zero, List.set_cons_succ]
        refine take_load 9 (.tmp 4) ⟨B + 1, 0, none⟩ (.string s) rfl rfl rfl (fun u hu => load_at Try.underlying9 Try.isAgg9 hu.2) ?_
        simp only [Act.put, List.setIfInBounds_toArray, List.set_cons_zero, List.set_cons_succ]
        refine take_move (.tmp 6) (.int .i64 (i : Int)) rfl rfl rfl ?_
        simp only [Act.put, List.setIfInBounds_toArray, List.set_cons_zero, List.set_cons_succ]
        refine take_one (.int .i64 ((i : Int) - 1)) rfl (fun u hu => by go_simp; exact Hw1.out) ?_
        simp only [Act.put, List.setIfInBounds_toArray, List.set_cons_zero, List.set_cons_succ]
        refine take_move (.tmp 6) (.int .i64 (i : Int)) rfl rfl rfl ?_
        simp only [Act.put, List.setIfInBounds_toArray, List.set_cons_zero, List.set_cons_succ]
        refine take_one (.string (s.extract (i - 1) i)) rfl (fun u hu => run_sub_both 9 (.tmp 31) (.tmp 33) (.tmp 34) rfl _ _ _ _ rfl rfl rfl (Hsl1.out u)) ?_
        simp only [Act.put, List.setIfInBounds_toArray, List.set_cons_zero, List.set_cons_succ]
        refine take_done ?_
        refine midk_wp rfl (call_wp 36 [.tmp 30, .tmp 35] #[52, 9] #[.pointer (some ⟨b, 0, none⟩), .string (s.extract (i - 1) i)] rfl rfl rfl ?_)
        refine (rollG_any (w := wr.drew) (s := s.extract (i - 1) i) Hgr.out hz1).mono ?_
        rintro e w3 ⟨he, hg3, t3⟩
        rw [HG.out] at hg3 he
        rw [HY1.out] at he
        subst he
        have hbx3 := Hbxr.out.keeps t3.drewD (fun j h1 h2 => by have := HB.out; omega)
        refine ⟨_, rfl, ⟨hbx3.d0, hbx3.d1⟩, ?_⟩
        simp only [Act.put, List.setIfInBounds_toArray, List.set_cons_zero, List.set_cons_succ]
        refine midk_one (.tuple #[.int .u64 (y : Int), .int .i64 0]) rfl rfl ⟨hbx3.d0, hbx3.d1⟩ ?_
        simp only [Act.put, List.setIfInBounds_toArray, List.set_cons_zero, List.set_cons_succ]
        refine take_one (.int .u64 (y : Int)) rfl (fun u hu => by go_simp) ?_
        simp only [Act.put, List.setIfInBounds_toArray, List.set_cons_zero, List.set_cons_succ]
        refine take_one (.int .i64 0) rfl (fun u hu => by go_simp) ?_
        simp only [Act.put, List.setIfInBounds_toArray, List.set_cons_zero, List.set_cons_succ]
        refine take_done ?_
        refine midk_one (.int .u64 (y : Int)) rfl (by go_simp) ⟨hbx3.d0, hbx3.d1⟩ ?_
        simp only [Act.put, List.setIfInBounds_toArray, List.set_cons_zero, List.set_cons_succ]
        refine midk_one (.int .i64 0) rfl (by go_simp) ⟨hbx3.d0, hbx3.d1⟩ ?_
        simp only [Act.put, List.setIfInBounds_toArray, List.set_cons_zero, List.set_cons_succ]
        refine midk_end ?_
        have hc3 := HC.out _ _ _ Hcr.out t3.drewD
        have hk3 := HBk.out _ _ ((KeepsOthers.drew wr).trans (RolG.others (w := wr.drew) Hgr.out t3)) Hbk.out
        have e0 := hbx3.d0
        have e01 := hbx3.d01
        have hq64 : 2 ^ k ≤ 2 ^ 16 := Nat.pow_le_pow_right (by omega) hk
        obtain ⟨q, hq⟩ : ∃ q, q = 2 ^ k - 1 := ⟨_, rfl⟩
        have hand := u64_and_nat y q (by omega) (by omega)
        have hym := Hym.out
        rw [← hq] at e01 hym
        have Hg3 := Lib.hid hg3; clear hg3
        have Hbx3 := Lib.hid hbx3; clear hbx3
        have Hc3 := Lib.hid hc3; clear hc3
        have Hk3 := Lib.hid hk3; clear hk3
        clear d0 d1 d3 t3 Hym hy64 hq64 hq g2
        by_cases hm : Chu.mark p n k s.data.toList i = true
        · rw [hm] at hym
          have hyq : y &&& q = q := by simpa using hym.symm
          rw [hyq] at hand
          have hyl := HY.out i w3 hi1 hle hm Hk3.out ⟨Hg3.out, Hbx3.out⟩ Hc3.out
          obtain ⟨fn, tmps, assign, body, hy, hR⟩ := hyl
          have HR := Lib.hid hR; clear hR
          clear hm hym hyq
          gi_wp2_with fail
          refine HR.out.mono ?_
          rintro e W7 (⟨rfl, hbk7, hown7, hc7⟩ | ⟨rfl, hbk7, hc7⟩)
          · have Hbk7 := Lib.hid hbk7; clear hbk7
            have Hown7 := Lib.hid hown7; clear hown7
            have Hc7 := Lib.hid hc7; clear hc7
            clear hy hand e0 e01
            gi_wp2_with fail
            go_roundw
            case rel => exact ⟨i + 1, by omega, by omega, by go_num, Hbk7.out, Hown7.out.1, Hown7.out.2, Hc7.out⟩
            case measure => simp [intOf]; omega
          · have Hbk7 := Lib.hid hbk7; clear hbk7
            have Hc7 := Lib.hid hc7; clear hc7
            clear hy hand e0 e01
            gi_wp2_with fail
            refine bodyPost_ret (v := .tuple #[]) (results_none rfl _ _ _) rfl ?_
            exact ⟨⟨_, rfl⟩, .inr ⟨i, hi1, hle, Hbk7.out, Hc7.out⟩⟩
        · have hm' : Chu.mark p n k s.data.toList i = false := by simpa using hm
          have hc4 := HS.out i w3 hi1 hle hm' Hc3.out
          have Hc4 := Lib.hid hc4; clear hc4
          rw [hm'] at hym
          have hyq : ¬ (y &&& q) = q := by simpa using hym.symm
          generalize (y &&& q) = r at *
          have g3 : ((r : Int) == (q : Int)) = false := by simp; omega
          have g4 : decide (r = q) = false := decide_eq_false hyq
          clear hm hm' hym
          gi_wp2_with fail
          refine ⟨fun f hf => (by cases hf), ?_⟩
          gi_wp2_with fail
          go_roundw
          case rel => exact ⟨i + 1, by omega, by omega, by go_num, Hk3.out, Hg3.out, Hbx3.out, Hc4.out⟩
          case measure => simp [intOf]; omega
end Go.Proofs.Ytofiimkpbbiegaa
