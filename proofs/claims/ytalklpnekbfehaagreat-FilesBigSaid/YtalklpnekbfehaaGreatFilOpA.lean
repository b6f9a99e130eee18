/- Put together of: FilOpn FilOpnP FilOpnF FilOpnG FilOpnM -/
import Derived.Test.YtalklpnekbfehaaGreatFilRep
set_option maxRecDepth 100000
/-
  Open's first three steps.
-/
set_option linter.unusedVariables false
set_option maxRecDepth 100000
namespace Go.Proofs.YtalklpnekbfehaaGreat
open Go.RowKit
def boxD (q : Nat) : Obj := .cells #[.pointer (some ⟨q, 0, none⟩)] 34 (0, 0)
def objP (q n : Nat) : Obj := .cells #[.pointer (some ⟨q, 0, none⟩), .int .i64 1, .int .i64 (n : Int)] 68 (0, 0)
section
variable {w W : World} {F D P p q n : Nat} {cs : Array Value} {X : Value → World → Prop}

theorem files_mark (hp : W.heap[p]? = some (objF cs)) {x0 x1 x2 : Value} (e0 : cs[0]? = some x0) (e1 : cs[1]? = some x1) (e2 : cs[2]? = some x2) (nm : Bool) (a g : Nat) :
    (Instr.storeAt 66 (.pointer (some ⟨p, 0, none⟩)) (.agg #[.bool nm, .int .i64 (a : Int), .int .u64 (g : Int)])).run Tryz.prog W = .ok () (((W.setCell ⟨p, 0, none⟩ (.bool nm)).setCell ⟨p, 1, none⟩ (.int .i64 (a : Int))).setCell ⟨p, 2, none⟩ (.int .u64 (g : Int))) ∧
    Turns (fun j => j = p) W (((W.setCell ⟨p, 0, none⟩ (.bool nm)).setCell ⟨p, 1, none⟩ (.int .i64 (a : Int))).setCell ⟨p, 2, none⟩ (.int .u64 (g : Int))) ∧
    (((W.setCell ⟨p, 0, none⟩ (.bool nm)).setCell ⟨p, 1, none⟩ (.int .i64 (a : Int))).setCell ⟨p, 2, none⟩ (.int .u64 (g : Int))).heap[p]? = some (objF (setM cs nm a g)) := by
  have hrp : W.heap[p]? = some (.cells cs 76 (0, 0)) := hp
  have p0 : W.cell? ⟨p, 0, none⟩ = some x0 := by rw [cell_of_row _ _ 0 _ _ _ hrp]; exact e0
  have p1 : W.cell? ⟨p, 1, none⟩ = some x1 := by rw [cell_of_row _ _ 1 _ _ _ hrp]; exact e1
  have p2 : W.cell? ⟨p, 2, none⟩ = some x2 := by rw [cell_of_row _ _ 2 _ _ _ hrp]; exact e2
  have f0 := row_free hrp 0
  have f1 := row_free hrp 1
  have f2 := row_free hrp 2
  have q1 := heap_setCell_same W p 0 cs _ (.bool nm) hrp
  have q2 := heap_setCell_same _ p 1 _ _ (.int .i64 (a : Int)) q1
  refine ⟨?_, (((Turns.refl (fun j => j = p) W).set p 0 _ (fun _ => rfl)).set p 1 _ (fun _ => rfl)).set p 2 _ (fun _ => rfl), heap_setCell_same _ p 2 _ _ (.int .u64 (g : Int)) q2⟩
  clear q1 q2 hrp hp
  go_simp
theorem files_one (T : TypeId) (hT : ∀ w, (sizeOf T).run Tryz.prog w = .ok 1 w) (i : Nat) (hp : W.heap[p]? = some (objF cs)) {x : Value} (e : cs[i]? = some x) (v : Value) (hv : (∃ a, v = .pointer a) ∨ (∃ a, v = .map a)) :
    (Instr.storeAt T (.pointer (some ⟨p, i, none⟩)) v).run Tryz.prog W = .ok () (W.setCell ⟨p, i, none⟩ v) ∧ Turns (fun j => j = p) W (W.setCell ⟨p, i, none⟩ v) ∧ (W.setCell ⟨p, i, none⟩ v).heap[p]? = some (objF (cs.setIfInBounds i v)) := by
  have hrp : W.heap[p]? = some (.cells cs 76 (0, 0)) := hp
  have p0 : W.cell? ⟨p, i, none⟩ = some x := by rw [cell_of_row _ _ i _ _ _ hrp]; exact e
  have f0 := row_free hrp i
  refine ⟨?_, (Turns.refl (fun j => j = p) W).set p i _ (fun _ => rfl), heap_setCell_same W p i cs _ v hrp⟩
  clear hrp hp e
  rcases hv with ⟨a, rfl⟩ | ⟨a, rfl⟩
  · go_simp
  · go_simp

theorem fopen1_any {nm : Bool} {a g : Nat} {E : Int} (hh : W.heap[F]? = some (boxF p) ∧ W.heap[D]? = some (boxD q)) (hp : W.heap[p]? = some (objF cs)) (hFp : F ≠ p) (hDp : D ≠ p) {x0 x1 x2 : Value} (e0 : cs[0]? = some x0) (e1 : cs[1]? = some x1) (e2 : cs[2]? = some x2)
    (hrd : Calls Tryz.prog 43 #[.pointer (some ⟨q, 0, none⟩)] W.drew fun e w' => e = .returned (.tuple #[.agg #[.bool nm, .int .i64 (a : Int), .int .u64 (g : Int)], .int .i64 E]) ∧ Below W.heap.size W.drew w') :
    Calls Tryz.prog 42 #[.pointer (some ⟨D, 0, none⟩), .pointer (some ⟨F, 0, none⟩)] W fun e W' => e = .returned (.int .i64 E) ∧ ∃ W1, Below W.heap.size W W1 ∧ Turns (fun j => j = p) W1 W' ∧ W'.heap[p]? = some (objF (setM cs nm a g)) := by
  have Hh := Lib.hid hh; clear hh
  have Hp := Lib.hid hp; clear hp
  have HFp := Lib.hid hFp; clear hFp
  have HDp := Lib.hid hDp; clear hDp
  have E0 := Lib.hid e0; clear e0
  have E1 := Lib.hid e1; clear e1
  have E2 := Lib.hid e2; clear e2
  have Hrd := Lib.hid hrd; clear hrd
  go_enter Tryz.func42, Tryz.ntmps42
  go_wp2_with fail
  refine wp_region_phases [([0, 1], [2, 3]), ([4, 5, 6, 7], [8, 9])] (by kernel_rfl) (by kernel_rfl) (fun z => z.heap[F]? = some (boxF p) ∧ z.heap[D]? = some (boxD q)) ⟨Hh.out.1, Hh.out.2⟩ ?_
  simp only [wpPhases, pick, List.filterMap_cons, List.filterMap_nil, List.getElem?_toArray, List.getElem?_cons_zero, List.getElem?_cons_succ]
  refine take_load 26 (.tmp 1) ⟨F, 0, none⟩ (.pointer (some ⟨p, 0, none⟩)) rfl rfl rfl (fun u hu => load_any Tryz.underlying26 Tryz.isAgg26 (by rw [cell_of_row u F 0 _ _ _ hu.1]; rfl)) ?_
  simp only [Act.put, List.setIfInBounds_toArray, List.set_cons_zero, List.set_cons_succ]
  refine take_load 34 (.tmp 0) ⟨D, 0, none⟩ (.pointer (some ⟨q, 0, none⟩)) rfl rfl rfl (fun u hu => load_any Tryz.underlying34 Tryz.isAgg34 (by rw [cell_of_row u D 0 _ _ _ hu.2]; rfl)) ?_
  simp only [Act.put, List.setIfInBounds_toArray, List.set_cons_zero, List.set_cons_succ]
  refine take_done ?_
  refine midk_wp rfl (call_wp 43 [.tmp 5] #[34] #[.pointer (some ⟨q, 0, none⟩)] rfl rfl rfl ?_)
  refine Hrd.out.mono ?_
  rintro e w1 ⟨rfl, hb1⟩
  have hF1 : w1.heap[F]? = some (boxF p) := by rw [hb1.block _ (row_lt Hh.out.1)]; exact Hh.out.1
  have hD1 : w1.heap[D]? = some (boxD q) := by rw [hb1.block _ (row_lt Hh.out.2)]; exact Hh.out.2
  have hp1 : w1.heap[p]? = some (objF cs) := by rw [hb1.block _ (row_lt Hp.out)]; exact Hp.out
  refine ⟨_, rfl, ⟨hF1, hD1⟩, ?_⟩
  simp only [Act.put, List.setIfInBounds_toArray, List.set_cons_zero, List.set_cons_succ]
  refine midk_one (.tuple #[.agg #[.bool nm, .int .i64 (a : Int), .int .u64 (g : Int)], .int .i64 E]) rfl rfl ⟨hF1, hD1⟩ ?_
  simp only [Act.put, List.setIfInBounds_toArray, List.set_cons_zero, List.set_cons_succ]
  refine take_one (.agg #[.bool nm, .int .i64 (a : Int), .int .u64 (g : Int)]) rfl (fun u hu => by go_simp) ?_
  simp only [Act.put, List.setIfInBounds_toArray, List.set_cons_zero, List.set_cons_succ]
  refine take_one (.int .i64 E) rfl (fun u hu => by go_simp) ?_
  simp only [Act.put, List.setIfInBounds_toArray, List.set_cons_zero, List.set_cons_succ]
  refine take_nil (.tmp 4) ⟨p, 0, none⟩ rfl rfl rfl ?_
  simp only [Act.put, List.setIfInBounds_toArray, List.set_cons_zero, List.set_cons_succ]
  refine take_one (.pointer (some ⟨p, 0, none⟩)) rfl (fun u _ => by go_simp) ?_
  simp only [Act.put, List.setIfInBounds_toArray, List.set_cons_zero, List.set_cons_succ]
  refine take_done ?_
  obtain ⟨hst, ht, ho⟩ := files_mark hp1 E0.out E1.out E2.out nm a g
  have hFp : F ≠ p := HFp.out
  refine midk_store 66 (.tmp 10) (.tmp 7) _ _ rfl rfl rfl rfl hst ⟨ht.same hF1 hFp, ht.same hD1 HDp.out⟩ ?_
  simp only [Act.put]
  refine midk_one (.int .i64 E) rfl rfl ⟨ht.same hF1 hFp, ht.same hD1 HDp.out⟩ ?_
  simp only [Act.put, List.setIfInBounds_toArray, List.set_cons_zero, List.set_cons_succ]
  refine midk_end ?_
  have hfin : ∃ W1, Below W.heap.size W W1 ∧ Turns (fun j => j = p) W1 (((w1.setCell ⟨p, 0, none⟩ (.bool nm)).setCell ⟨p, 1, none⟩ (.int .i64 (a : Int))).setCell ⟨p, 2, none⟩ (.int .u64 (g : Int))) ∧ (((w1.setCell ⟨p, 0, none⟩ (.bool nm)).setCell ⟨p, 1, none⟩ (.int .i64 (a : Int))).setCell ⟨p, 2, none⟩ (.int .u64 (g : Int))).heap[p]? = some (objF (setM cs nm a g)) := ⟨w1, ((Below.refl _ W).drew).trans hb1, ht, ho⟩
  have Hfin := Lib.hid hfin; clear hfin hst ht ho hp1 hF1 hD1 hb1
  go_wp2_with fail
  go_ret
  exact ⟨rfl, Hfin.out⟩

theorem fopen2_any {E : Int} (hh : W.heap[F]? = some (boxF p)) (hp : W.heap[p]? = some (objF cs)) (hFp : F ≠ p) {x : Value} (e11 : cs[11]? = some x)
    (hrd : Calls Tryz.prog 45 #[.pointer (some ⟨p, 0, none⟩)] W.drew fun e w' => ∃ mv, e = .returned (.tuple #[mv, .int .i64 E]) ∧ (∃ a, mv = .map a) ∧ Below W.heap.size W.drew w' ∧ X mv w') :
    Calls Tryz.prog 44 #[.pointer (some ⟨F, 0, none⟩)] W fun e W' => e = .returned (.int .i64 E) ∧ ∃ mv W1, (∃ a, mv = .map a) ∧ (Below W.heap.size W W1 ∧ X mv W1) ∧ Turns (fun j => j = p) W1 W' ∧ W'.heap[p]? = some (objF (cs.setIfInBounds 11 mv)) := by
  have Hh := Lib.hid hh; clear hh
  have Hp := Lib.hid hp; clear hp
  have HFp := Lib.hid hFp; clear hFp
  have E11 := Lib.hid e11; clear e11
  have Hrd := Lib.hid hrd; clear hrd
  go_enter Tryz.func44, Tryz.ntmps44
  go_wp2_with fail
  refine wp_region_phases [([0, 1], [2, 3]), ([4, 5, 6, 7], [8, 9])] (by kernel_rfl) (by kernel_rfl) (fun z => z.heap[F]? = some (boxF p)) Hh.out ?_
  simp only [wpPhases, pick, List.filterMap_cons, List.filterMap_nil, List.getElem?_toArray, List.getElem?_cons_zero, List.getElem?_cons_succ]
  refine take_load 26 (.tmp 0) ⟨F, 0, none⟩ (.pointer (some ⟨p, 0, none⟩)) rfl rfl rfl (fun u hu => load_any Tryz.underlying26 Tryz.isAgg26 (by rw [cell_of_row u F 0 _ _ _ hu]; rfl)) ?_
  simp only [Act.put, List.setIfInBounds_toArray, List.set_cons_zero, List.set_cons_succ]
  refine take_load 26 (.tmp 0) ⟨F, 0, none⟩ (.pointer (some ⟨p, 0, none⟩)) rfl rfl rfl (fun u hu => load_any Tryz.underlying26 Tryz.isAgg26 (by rw [cell_of_row u F 0 _ _ _ hu]; rfl)) ?_
  simp only [Act.put, List.setIfInBounds_toArray, List.set_cons_zero, List.set_cons_succ]
  refine take_done ?_
  refine midk_wp rfl (call_wp 45 [.tmp 4] #[26] #[.pointer (some ⟨p, 0, none⟩)] rfl rfl rfl ?_)
  refine Hrd.out.mono ?_
  rintro e w1 ⟨mv, rfl, hmv, hb1⟩
  have hF1 : w1.heap[F]? = some (boxF p) := by rw [hb1.1.block _ (row_lt Hh.out)]; exact Hh.out
  have hp1 : w1.heap[p]? = some (objF cs) := by rw [hb1.1.block _ (row_lt Hp.out)]; exact Hp.out
  refine ⟨_, rfl, hF1, ?_⟩
  simp only [Act.put, List.setIfInBounds_toArray, List.set_cons_zero, List.set_cons_succ]
  refine midk_one (.tuple #[mv, .int .i64 E]) rfl rfl hF1 ?_
  simp only [Act.put, List.setIfInBounds_toArray, List.set_cons_zero, List.set_cons_succ]
  refine take_one mv rfl (fun u hu => by go_simp) ?_
  simp only [Act.put, List.setIfInBounds_toArray, List.set_cons_zero, List.set_cons_succ]
  refine take_one (.int .i64 E) rfl (fun u hu => by go_simp) ?_
  simp only [Act.put, List.setIfInBounds_toArray, List.set_cons_zero, List.set_cons_succ]
  refine take_nil (.tmp 3) ⟨p, 0, none⟩ rfl rfl rfl ?_
  simp only [Act.put, List.setIfInBounds_toArray, List.set_cons_zero, List.set_cons_succ]
  refine take_one (.pointer (some ⟨p, 11, none⟩)) rfl (fun u _ => by go_simp) ?_
  simp only [Act.put, List.setIfInBounds_toArray, List.set_cons_zero, List.set_cons_succ]
  refine take_done ?_
  obtain ⟨hst, ht, ho⟩ := files_one 74 (fun _ => by kernel_rfl) 11 hp1 E11.out mv (.inr hmv)
  refine midk_store 74 (.tmp 9) (.tmp 6) _ _ rfl rfl rfl rfl hst (ht.same hF1 HFp.out) ?_
  simp only [Act.put]
  refine midk_one (.int .i64 E) rfl rfl (ht.same hF1 HFp.out) ?_
  simp only [Act.put, List.setIfInBounds_toArray, List.set_cons_zero, List.set_cons_succ]
  refine midk_end ?_
  have hfin : ∃ m2 W1, (∃ a, m2 = .map a) ∧ (Below W.heap.size W W1 ∧ X m2 W1) ∧ Turns (fun j => j = p) W1 (w1.setCell ⟨p, 11, none⟩ mv) ∧ (w1.setCell ⟨p, 11, none⟩ mv).heap[p]? = some (objF (cs.setIfInBounds 11 m2)) := ⟨mv, w1, hmv, ⟨((Below.refl _ W).drew).trans hb1.1, hb1.2⟩, ht, ho⟩
  have Hfin := Lib.hid hfin; clear hfin hst ht ho hp1 hF1 hb1
  go_wp2_with fail
  go_ret
  exact ⟨rfl, Hfin.out⟩

theorem fopen3_any {E : Int} (hh : W.heap[F]? = some (boxF p) ∧ W.heap[D]? = some (boxD q) ∧ W.heap[P]? = some (objP q n)) (hp : W.heap[p]? = some (objF cs)) (hFp : F ≠ p) (hDp : D ≠ p) (hPp : P ≠ p) {x : Value} (e10 : cs[10]? = some x)
    (hrd : Calls Tryz.prog 47 #[.pointer (some ⟨q, 0, none⟩), .int .i64 1, .int .i64 (n : Int)] W.drew fun e w' => ∃ pv, e = .returned (.tuple #[pv, .int .i64 E]) ∧ (∃ a, pv = .pointer a) ∧ Below W.heap.size W.drew w' ∧ X pv w') :
    Calls Tryz.prog 46 #[.pointer (some ⟨D, 0, none⟩), .pointer (some ⟨P, 0, none⟩), .pointer (some ⟨F, 0, none⟩)] W fun e W' => e = .returned (.int .i64 E) ∧ ∃ pv W1, (∃ a, pv = .pointer a) ∧ (Below W.heap.size W W1 ∧ X pv W1) ∧ Turns (fun j => j = p) W1 W' ∧ W'.heap[p]? = some (objF (cs.setIfInBounds 10 pv)) := by
  have Hh := Lib.hid hh; clear hh
  have Hp := Lib.hid hp; clear hp
  have HFp := Lib.hid hFp; clear hFp
  have HDp := Lib.hid hDp; clear hDp
  have HPp := Lib.hid hPp; clear hPp
  have E10 := Lib.hid e10; clear e10
  have Hrd := Lib.hid hrd; clear hrd
  go_enter Tryz.func46, Tryz.ntmps46
  go_wp2_with fail
  refine wp_region_phases [([0, 1, 2, 3, 4, 5], [6, 7]), ([8, 9, 10, 11], [12, 13])] (by kernel_rfl) (by kernel_rfl) (fun z => z.heap[F]? = some (boxF p) ∧ z.heap[D]? = some (boxD q) ∧ z.heap[P]? = some (objP q n)) Hh.out ?_
  simp only [wpPhases, pick, List.filterMap_cons, List.filterMap_nil, List.getElem?_toArray, List.getElem?_cons_zero, List.getElem?_cons_succ]
  refine take_load 26 (.tmp 2) ⟨F, 0, none⟩ (.pointer (some ⟨p, 0, none⟩)) rfl rfl rfl (fun u hu => load_any Tryz.underlying26 Tryz.isAgg26 (by rw [cell_of_row u F 0 _ _ _ hu.1]; rfl)) ?_
  simp only [Act.put, List.setIfInBounds_toArray, List.set_cons_zero, List.set_cons_succ]
  refine take_load 34 (.tmp 0) ⟨D, 0, none⟩ (.pointer (some ⟨q, 0, none⟩)) rfl rfl rfl (fun u hu => load_any Tryz.underlying34 Tryz.isAgg34 (by rw [cell_of_row u D 0 _ _ _ hu.2.1]; rfl)) ?_
  simp only [Act.put, List.setIfInBounds_toArray, List.set_cons_zero, List.set_cons_succ]
  refine take_one (.pointer (some ⟨P, 1, none⟩)) rfl (fun u _ => by go_simp) ?_
  simp only [Act.put, List.setIfInBounds_toArray, List.set_cons_zero, List.set_cons_succ]
  refine take_load 3 (.tmp 7) ⟨P, 1, none⟩ (.int .i64 1) rfl rfl rfl (fun u hu => load_any Tryz.underlying3 Tryz.isAgg3 (by rw [cell_of_row u P 1 _ _ _ hu.2.2]; rfl)) ?_
  simp only [Act.put, List.setIfInBounds_toArray, List.set_cons_zero, List.set_cons_succ]
  refine take_one (.pointer (some ⟨P, 2, none⟩)) rfl (fun u _ => by go_simp) ?_
  simp only [Act.put, List.setIfInBounds_toArray, List.set_cons_zero, List.set_cons_succ]
  refine take_load 3 (.tmp 9) ⟨P, 2, none⟩ (.int .i64 (n : Int)) rfl rfl rfl (fun u hu => load_any Tryz.underlying3 Tryz.isAgg3 (by rw [cell_of_row u P 2 _ _ _ hu.2.2]; rfl)) ?_
  simp only [Act.put, List.setIfInBounds_toArray, List.set_cons_zero, List.set_cons_succ]
  refine take_done ?_
  refine midk_wp rfl (call_wp 47 [.tmp 6, .tmp 8, .tmp 10] #[34, 3, 3] #[.pointer (some ⟨q, 0, none⟩), .int .i64 1, .int .i64 (n : Int)] rfl rfl rfl ?_)
  refine Hrd.out.mono ?_
  rintro e w1 ⟨pv, rfl, hpv, hb1⟩
  have hF1 : w1.heap[F]? = some (boxF p) := by rw [hb1.1.block _ (row_lt Hh.out.1)]; exact Hh.out.1
  have hD1 : w1.heap[D]? = some (boxD q) := by rw [hb1.1.block _ (row_lt Hh.out.2.1)]; exact Hh.out.2.1
  have hP1 : w1.heap[P]? = some (objP q n) := by rw [hb1.1.block _ (row_lt Hh.out.2.2)]; exact Hh.out.2.2
  have hp1 : w1.heap[p]? = some (objF cs) := by rw [hb1.1.block _ (row_lt Hp.out)]; exact Hp.out
  refine ⟨_, rfl, ⟨hF1, hD1, hP1⟩, ?_⟩
  simp only [Act.put, List.setIfInBounds_toArray, List.set_cons_zero, List.set_cons_succ]
  refine midk_one (.tuple #[pv, .int .i64 E]) rfl rfl ⟨hF1, hD1, hP1⟩ ?_
  simp only [Act.put, List.setIfInBounds_toArray, List.set_cons_zero, List.set_cons_succ]
  refine take_one pv rfl (fun u hu => by go_simp) ?_
  simp only [Act.put, List.setIfInBounds_toArray, List.set_cons_zero, List.set_cons_succ]
  refine take_one (.int .i64 E) rfl (fun u hu => by go_simp) ?_
  simp only [Act.put, List.setIfInBounds_toArray, List.set_cons_zero, List.set_cons_succ]
  refine take_nil (.tmp 5) ⟨p, 0, none⟩ rfl rfl rfl ?_
  simp only [Act.put, List.setIfInBounds_toArray, List.set_cons_zero, List.set_cons_succ]
  refine take_one (.pointer (some ⟨p, 10, none⟩)) rfl (fun u _ => by go_simp) ?_
  simp only [Act.put, List.setIfInBounds_toArray, List.set_cons_zero, List.set_cons_succ]
  refine take_done ?_
  obtain ⟨hst, ht, ho⟩ := files_one 72 (fun _ => by kernel_rfl) 10 hp1 E10.out pv (.inl hpv)
  refine midk_store 72 (.tmp 15) (.tmp 12) _ _ rfl rfl rfl rfl hst ⟨ht.same hF1 HFp.out, ht.same hD1 HDp.out, ht.same hP1 HPp.out⟩ ?_
  simp only [Act.put]
  refine midk_one (.int .i64 E) rfl rfl ⟨ht.same hF1 HFp.out, ht.same hD1 HDp.out, ht.same hP1 HPp.out⟩ ?_
  simp only [Act.put, List.setIfInBounds_toArray, List.set_cons_zero, List.set_cons_succ]
  refine midk_end ?_
  have hfin : ∃ m2 W1, (∃ a, m2 = .pointer a) ∧ (Below W.heap.size W W1 ∧ X m2 W1) ∧ Turns (fun j => j = p) W1 (w1.setCell ⟨p, 10, none⟩ pv) ∧ (w1.setCell ⟨p, 10, none⟩ pv).heap[p]? = some (objF (cs.setIfInBounds 10 m2)) := ⟨pv, w1, hpv, ⟨((Below.refl _ W).drew).trans hb1.1, hb1.2⟩, ht, ho⟩
  have Hfin := Lib.hid hfin; clear hfin hst ht ho hp1 hF1 hD1 hP1 hb1
  go_wp2_with fail
  go_ret
  exact ⟨rfl, Hfin.out⟩
end
end Go.Proofs.YtalklpnekbfehaaGreat

/-
  What Open does; the header and the area that it names, as Open reads them.
-/
set_option linter.unusedVariables false
set_option maxRecDepth 100000
namespace Go.Proofs.YtalklpnekbfehaaGreat
open Go.RowKit

namespace Fil
/-- what the header names: an area, its sequence number -/
def mkO (d : Dsk.St) : Option (Nat × Nat) := if d.down = true then none else (readMark (Dsk.rd d 0 1)).getD none
def mkE (d : Dsk.St) : Int := if d.down = true then 40 else fmarkE (readMark (Dsk.rd d 0 1))
def aOf (o : Option (Nat × Nat)) : Nat := (o.getD (0, 0)).1
def gOf (o : Option (Nat × Nat)) : Nat := (o.getD (0, 0)).2
def areaOf (d : Dsk.St) : Option (Nat × Nat) → Option Row
  | none => some []
  | some x => aread (Dsk.rd d (arAt d.n + x.1 * arN d.n) (arN d.n))
def arE (o : Option Row) : Int := if o.isSome then 0 else 50
theorem arE_some (r : Row) : arE (some r) = 0 := rfl
theorem arE_none : arE none = 50 := rfl
def opn (d : Dsk.St) : Dsk.St × Option (Wal.St × St) × Int :=
  if mkE d ≠ 0 then (d, none, mkE d)
  else match areaOf d (mkO d) with
    | none => (d, none, 50)
    | some r => match Wal.open_ d 1 (logN d.n : Nat) with
      | (none, e) => (d, none, e)
      | (some s, _) => if (replay d s (gOf (mkO d)) r).2.2.2 = 0 then ((replay d s (gOf (mkO d)) r).1, some ((replay d s (gOf (mkO d)) r).2.1, ⟨(mkO d).isSome, aOf (mkO d), gOf (mkO d), d.n, (replay d s (gOf (mkO d)) r).2.2.1, 0⟩), 0)
        else ((replay d s (gOf (mkO d)) r).1, none, (replay d s (gOf (mkO d)) r).2.2.2)
theorem mkO_lt (d : Dsk.St) : aOf (mkO d) < 2 ∧ gOf (mkO d) < 18446744073709551616 := by
  unfold mkO
  by_cases hd : d.down = true
  · rw [if_pos hd]; exact ⟨by decide, by decide⟩
  · rw [if_neg hd]
    cases h : readMark (Dsk.rd d 0 1) with
    | none => exact ⟨by decide, by decide⟩
    | some o =>
      cases o with
      | none => exact ⟨by decide, by decide⟩
      | some x =>
        obtain ⟨a, q⟩ := x
        have := readMark_le h
        exact ⟨this.1, this.2.1⟩
theorem ar_fit {n : Nat} (h : 8 ≤ n) : arAt n + arN n + arN n ≤ n ∧ 1 + logN n ≤ n ∧ 2 ≤ logN n := by
  unfold arAt arN arAt logN
  by_cases h2 : n / 8 ≤ 2
  · rw [Nat.max_eq_left h2]; omega
  · rw [Nat.max_eq_right (by omega)]; omega
end Fil
theorem read_up {d : Dsk.St} (hd : d.down = false) {f n : Nat} (h : f + n ≤ d.n) : Dsk.read d (f : Int) (n : Int) = (Dsk.rd d f n, 0) := by
  unfold Dsk.read
  rw [if_neg (by simp [hd]), if_pos ⟨by omega, by omega, by omega⟩]
  simp
/-- the cells of files under way of being opened -/
def ocells (nm : Bool) (a g q n : Nat) (pv mv : Value) : Array Value :=
  #[.bool nm, .int .i64 (a : Int), .int .u64 (g : Int), .pointer (some ⟨q, 0, none⟩),
    .pointer (some ⟨q, 0, none⟩), .int .i64 (Fil.arAt n : Int), .int .i64 (Fil.arN n : Int), .pointer (some ⟨q, 0, none⟩), .int .i64 ((Fil.arAt n + Fil.arN n : Nat) : Int), .int .i64 (Fil.arN n : Int),
    pv, mv, .int .i64 0]
/-- what readArea leaves -/
def ArR (o : Option Fil.Row) (B : Nat) (mv : Value) (w : World) : Prop := ∀ r, o = some r → ∃ b n, mv = .map (some b) ∧ B ≤ b ∧ n ≤ r.length ∧ ContAt b n r w

section
variable {S : Nat → Prop} {p q : Nat} {d : Dsk.St} {w : World}
theorem readArea_mk {cs : Array Value} (hrow : w.heap[p]? = some (objF cs)) (h0 : cs[0]? = some (.bool false)) :
    Calls Tryz.prog 45 #[.pointer (some ⟨p, 0, none⟩)] w fun e w' => e = .returned (.tuple #[.map (some w.heap.size), .int .i64 0]) ∧ ContAt w.heap.size 0 [] w' ∧ Below w.heap.size w w' := by
  have c0 : w.cell? ⟨p, 0, none⟩ = some (.bool false) := by rw [cell_of_row _ _ 0 _ _ _ hrow]; exact h0
  have hmm := @run_makeMap Tryz.prog
  have hbA : Below w.heap.size w (w.alloc (.map #[] 0)) := (Below.refl _ w).alloc (Nat.le_refl _) _
  have hmA : ContAt w.heap.size 0 [] (w.alloc (.map #[] 0)) := World.ownsMap_made (H := Unit) w Tryz.prog 9 fileElem
  clear hrow h0
  have Hb := Lib.hid hbA; clear hbA
  have Hm := Lib.hid hmA; clear hmA
  go_enter Tryz.func45, Tryz.ntmps45
  go_wp2_with fail
  go_ret2
  exact ⟨rfl, Hm.out, Hb.out⟩

theorem AreadR.arr {o : Option Fil.Row} {x : List UInt8} {e : Ending} {w' : World} (h : AreadR 0 x w e w') (hx : Fil.aread x = o) : ∃ mv, e = .returned (.tuple #[mv, .int .i64 (Fil.arE o)]) ∧ (∃ a, mv = .map a) ∧ Below w.heap.size w w' ∧ ArR o w.heap.size mv w' := by
  have h2 := h.good rfl
  rw [hx] at h2
  cases o with
  | none => exact ⟨_, h2.2, ⟨_, rfl⟩, h2.1, fun r hr => by cases hr⟩
  | some r =>
    obtain ⟨b, n, h3, h4, h5, h6⟩ := h2.2
    exact ⟨_, h5, ⟨_, rfl⟩, h2.1, fun r' hr => by cases hr; exact ⟨b, n, rfl, h3, h4, h6⟩⟩
theorem readArea_all (h : DiskAt S q d w) (hn : 8 ≤ d.n) (hd : d.down = false) (o : Option (Nat × Nat)) (ho : Fil.aOf o < 2) {pv mv0 : Value} (hrow : w.heap[p]? = some (objF (ocells o.isSome (Fil.aOf o) (Fil.gOf o) q d.n pv mv0))) :
    Calls Tryz.prog 45 #[.pointer (some ⟨p, 0, none⟩)] w fun e w' => ∃ mv, e = .returned (.tuple #[mv, .int .i64 (Fil.arE (Fil.areaOf d o))]) ∧ (∃ a, mv = .map a) ∧ Below w.heap.size w w' ∧ ArR (Fil.areaOf d o) w.heap.size mv w' := by
  have hok := h.ok
  have hhi := hok.hi
  have hf := Fil.ar_fit hn
  cases o with
  | none =>
    refine (readArea_mk hrow rfl).mono ?_
    rintro e w' ⟨rfl, hm, hb⟩
    exact ⟨_, rfl, ⟨_, rfl⟩, hb, fun r hr => by cases hr; exact ⟨_, 0, rfl, Nat.le_refl _, by simp, hm⟩⟩
  | some x =>
    obtain ⟨a, g⟩ := x
    have ha : a < 2 := ho
    have hl : ∀ f, (Dsk.rd d f (Fil.arN d.n)).length ≤ 1099511627 := fun f => by rw [Dsk.rd_length hok]; omega
    rcases (show a = 0 ∨ a = 1 by omega) with rfl | rfl
    · have hr := read_up (f := Fil.arAt d.n) (n := Fil.arN d.n) hd (by omega)
      have hA := readArea_0 h (Fil.arAt d.n) (Fil.arN d.n) (by omega) (by omega) (by rw [hr]; exact hl _) hrow rfl rfl (fun j v hv => by
        match j, hv with
        | 0, hv => exact hv
        | 1, hv => exact hv
        | 2, hv => exact hv
        | _ + 3, hv => simp at hv)
      rw [hr] at hA
      refine hA.mono fun e w' h' => h'.arr ?_
      show Fil.aread _ = Fil.aread _
      rw [Nat.zero_mul, Nat.add_zero]
    · have hr := read_up (f := Fil.arAt d.n + Fil.arN d.n) (n := Fil.arN d.n) hd (by omega)
      have hA := readArea_1 h (Fil.arAt d.n + Fil.arN d.n) (Fil.arN d.n) (by omega) (by omega) (by rw [hr]; exact hl _) hrow rfl rfl (fun j v hv => by
        match j, hv with
        | 0, hv => exact hv
        | 1, hv => exact hv
        | 2, hv => exact hv
        | _ + 3, hv => simp at hv)
      rw [hr] at hA
      refine hA.mono fun e w' h' => h'.arr ?_
      show Fil.aread _ = Fil.aread _
      rw [Nat.one_mul]
theorem mark_all (h : DiskAt S q d w) (hn : 8 ≤ d.n) : Calls Tryz.prog 43 #[.pointer (some ⟨q, 0, none⟩)] w fun e w' => e = .returned (.tuple #[.agg #[.bool (Fil.mkO d).isSome, .int .i64 (Fil.aOf (Fil.mkO d) : Int), .int .u64 (Fil.gOf (Fil.mkO d) : Int)], .int .i64 (Fil.mkE d)]) ∧ Below w.heap.size w w' := by
  have hrd := fun u (hu : Below w.heap.size w u) => read_all (h.new hu) 0 1 ⟨by omega, by omega⟩ ⟨by omega, by omega⟩
  unfold Fil.mkO Fil.mkE
  by_cases hd : d.down = true
  · have hr : Dsk.read d 0 1 = ([], 40) := by unfold Dsk.read; rw [if_pos hd]
    rw [hr] at hrd
    rw [if_pos hd, if_pos hd]
    exact freadMark_bad _ 40 rfl hrd
  · have hd' : d.down = false := by simpa using hd
    have hr : Dsk.read d 0 1 = (Dsk.rd d 0 1, 0) := read_up (f := 0) (n := 1) hd' (by omega)
    rw [hr] at hrd
    rw [if_neg hd, if_neg hd]
    have hl := Dsk.rd_length h.ok 0 1
    refine (freadMark_good ⟨(Dsk.rd d 0 1).toArray⟩ (by show (Dsk.rd d 0 1).toArray.size = 64; simp [hl]) hrd).mono ?_
    rintro e w' ⟨rfl, hb⟩
    refine ⟨?_, hb⟩
    show fmarkR (Fil.readMark (Dsk.rd d 0 1)) = _
    cases Fil.readMark (Dsk.rd d 0 1) with
    | none => rfl
    | some o => cases o <;> rfl
end
end Go.Proofs.YtalklpnekbfehaaGreat

/-
  Open's four steps, one after another.
-/
set_option linter.unusedVariables false
set_option maxRecDepth 100000
namespace Go.Proofs.YtalklpnekbfehaaGreat
open Go.RowKit

namespace Fil
theorem aread_good {x : Txt} {r : Row} (h : aread x = some r) : Sorted r ∧ Fine r ∧ r.length ≤ x.length := by
  unfold aread at h
  split at h
  · cases h
  rename_i c b hc
  obtain ⟨h1, h2, h3⟩ := dec_good h
  obtain ⟨h4, _⟩ := cut_is hc
  refine ⟨h1, h2, ?_⟩
  have h5 := enc_length r
  have h6 := len_used r
  rw [← h3] at h5
  rw [h4]
  simp only [List.length_append]
  unfold used at h5
  omega
theorem areaOf_good {d : Dsk.St} (hd : d.Ok) (o : Option (Nat × Nat)) {r : Row} (h : areaOf d o = some r) : Sorted r ∧ Fine r ∧ r.length ≤ 64 * arN d.n := by
  cases o with
  | none => cases h; exact ⟨by simp [Sorted], by intro x hx; simp at hx, by simp⟩
  | some x =>
    have := aread_good h
    rw [Dsk.rd_length hd] at this
    exact this
end Fil
theorem open_none {d : Dsk.St} {a b : Int} (h : (Wal.open_ d a b).1 = none) : (Wal.open_ d a b).2 ≠ 0 := by
  unfold Wal.open_ at h ⊢
  split
  · decide
  rename_i h1
  rw [if_neg h1] at h
  split
  · decide
  rename_i h2
  rw [if_neg h2] at h
  split
  · decide
  rename_i g u h3
  rw [h3] at h
  simp only at h
  split
  · decide
  rename_i L h4
  rw [h4] at h
  cases h
theorem open_some {d : Dsk.St} {a b : Int} {s : Wal.St} (h : (Wal.open_ d a b).1 = some s) : Wal.open_ d a b = (some s, 0) := by
  unfold Wal.open_ at h ⊢
  split
  · rename_i h1; rw [if_pos h1] at h; cases h
  rename_i h1
  rw [if_neg h1] at h
  split
  · rename_i h2; rw [if_pos h2] at h; cases h
  rename_i h2
  rw [if_neg h2] at h
  split
  · rename_i h3; rw [h3] at h; cases h
  rename_i g u h3
  rw [h3] at h
  simp only at h
  split
  · rename_i h4; rw [h4] at h; cases h
  rename_i L h4
  rw [h4] at h
  rw [← h]

def foG : Nat → Nat
  | 0 => 42
  | 1 => 44
  | 2 => 46
  | _ => 48
def foL (D P F : Nat) : Nat → Array Value
  | 0 => #[.pointer (some ⟨D, 0, none⟩), .pointer (some ⟨F, 0, none⟩)]
  | 1 => #[.pointer (some ⟨F, 0, none⟩)]
  | 2 => #[.pointer (some ⟨D, 0, none⟩), .pointer (some ⟨P, 0, none⟩), .pointer (some ⟨F, 0, none⟩)]
  | _ => #[.pointer (some ⟨F, 0, none⟩)]
def foObj (D P F : Nat) : Obj := .cells #[fnv (foG 0, foL D P F 0), fnv (foG 1, foL D P F 1), fnv (foG 2, foL D P F 2), fnv (foG 3, foL D P F 3)] 33 (0, 0)
theorem fo_eg (i : Nat) (args : Array Value) (w : World) : (callFunc (foG i) args).run Tryz.prog w = .ok (.enter (foG i) args) w := by
  match i with
  | 0 => exact enters_of Tryz.func42 (by kernel_rfl) rfl args w
  | 1 => exact enters_of Tryz.func44 (by kernel_rfl) rfl args w
  | 2 => exact enters_of Tryz.func46 (by kernel_rfl) rfl args w
  | k + 3 => exact enters_of Tryz.func48 (by kernel_rfl) rfl args w
theorem slice_fn4 (x y z x2 : Nat × Array Value) (w : World) : (Instr.buildSlice 111 4 #[(0, fnv x), (1, fnv y), (2, fnv z), (3, fnv x2)]).run Tryz.prog w = .ok (.slice (some ⟨w.heap.size, 0, none⟩) 4 4) (w.alloc (.cells #[fnv x, fnv y, fnv z, fnv x2] 33)) := by
  obtain ⟨i, hi, h0, h1, h2⟩ := info_parts fn_info
  have hf := Great.fill_whole (s := 1) (by omega) [fnv x, fnv y, fnv z, fnv x2] ((Array.range (4 * 1)).map (Value.nilFunc.cells[· % Value.nilFunc.cells.size]!)) (fun v hv => by simp at hv; rcases hv with rfl | rfl | rfl | rfl <;> rfl) (by simp)
  refine run_buildSlice w 111 33 4 _ #[fnv x, fnv y, fnv z, fnv x2] i _ fn_u hi h0 (by rw [h1]; decide) (by rw [h1]; decide) ?_
  rw [h1]
  have e : ([fnv x, fnv y, fnv z, fnv x2].flatMap fun v => v.cells.toList).toArray = #[fnv x, fnv y, fnv z, fnv x2] := by simp [Value.cells, fnv]
  rw [e] at hf
  exact hf

/-- the log, as it was opened -/
def LgR (d : Dsk.St) (q B : Nat) (mv pv : Value) (V : World) : Prop := ∀ s, (Wal.open_ d 1 (Fil.logN d.n : Nat)).1 = some s → ∃ R pw, pv = .pointer (some ⟨pw, 0, none⟩) ∧ WalAt R pw q s V ∧ (∀ j, R j → B ≤ j) ∧ ∀ bm, mv = .map (some bm) → ¬ R bm
/-- what is there behind Open -/
def FoDone (w : World) (S : Nat → Prop) (kept : List (Nat × Obj)) (p q : Nat) (d : Dsk.St) (V : World) : Prop :=
  match Fil.opn d with
  | (d', none, _) => ∃ S', DiskAt S' q d' V ∧ (∀ j, S' j → S j ∨ w.heap.size ≤ j) ∧ Turns S w V
  | (d', some (s, t), _) => ∃ S' R' pw bm, Apn w S S ((p, objF (fcells t q pw bm)) :: kept) S' R' pw q d' s V ∧ (∃ nn, nn ≤ 21000000000 ∧ ContAt bm nn t.r V) ∧ ¬ S' bm ∧ ¬ R' bm ∧ bm ≠ p ∧ w.heap.size ≤ bm
def foE (d : Dsk.St) : Nat → Int
  | 0 => Fil.mkE d
  | 1 => Fil.arE (Fil.areaOf d (Fil.mkO d))
  | 2 => (Wal.open_ d 1 (Fil.logN d.n : Nat)).2
  | _ => (Fil.opn d).2.2

section
variable {w : World} {T : Nat → Prop} {kept : List (Nat × Obj)} {S R : Nat → Prop} {D P F fb p q pw bm : Nat} {d : Dsk.St} {s : Wal.St} {t : Fil.St} {W W' : World}
theorem fopen4_any {m : Nat} (h : Apn w T T ((p, objF (fcells t q pw bm)) :: kept) S R pw q d s W) (hF : (F, boxF p) ∈ kept) (hs : s.Ok m) (hq : t.q < 18446744073709551616) (hops : d.ops ≤ 999000000) (hsl : ∀ l ∈ s.L, Slim l)
    {nn : Nat} (hmp : ContAt bm nn t.r W) (hnn : nn ≤ 1000000000) (hbm : ¬ S bm ∧ ¬ R bm ∧ bm ≠ p ∧ w.heap.size ≤ bm) (hk : ∀ y ∈ kept, y.1 ≠ bm) :
    Calls Tryz.prog 48 #[.pointer (some ⟨F, 0, none⟩)] W fun e W' => e = .returned (.int .i64 (Fil.replay d s t.q t.r).2.2.2) ∧ ∃ S' R', Apn w T T ((p, objF (fcells t q pw bm)) :: kept) S' R' pw q (Fil.replay d s t.q t.r).1 (Fil.replay d s t.q t.r).2.1 W' ∧ (∃ nn', nn' ≤ nn + 20000000000 ∧ ContAt bm nn' (Fil.replay d s t.q t.r).2.2.1 W') ∧ ¬ S' bm ∧ ¬ R' bm := by
  have hr := replay_any h hs hq hops hsl hmp hnn hbm hk
  have cF : W.cell? ⟨F, 0, none⟩ = some (.pointer (some ⟨p, 0, none⟩)) := by rw [cell_of_row _ _ 0 _ _ _ (h.row (List.mem_cons_of_mem _ hF))]; rfl
  generalize Fil.replay d s t.q t.r = Y at *
  have Hr := Lib.hid hr; clear hr h hs hq hops hsl hmp hnn hbm hk hF
  go_enter Tryz.func48, Tryz.ntmps48
  go_wp2_with fail
  refine Hr.out.mono ?_; rintro e w1 ⟨rfl, hx⟩
  have Hx := Lib.hid hx; clear hx
  go_wp2_with fail
  go_ret
  exact ⟨rfl, Hx.out⟩

/-- under way -/
structure FoSt (p q : Nat) (d : Dsk.St) (W : World) (nm : Bool) (a g : Nat) (pv mv : Value) (V : World) : Prop where
  turns : Turns (fun j => j = p) W V
  row : V.heap[p]? = some (objF (ocells nm a g q d.n pv mv))
theorem FoSt.step {nm nm' : Bool} {a a' g g' : Nat} {pv mv pv' mv' : Value} {V V1 V' : World} (h : FoSt p q d W nm a g pv mv V) (hb : Below V.heap.size V V1) (ht : Turns (fun j => j = p) V1 V') (hr : V'.heap[p]? = some (objF (ocells nm' a' g' q d.n pv' mv'))) : FoSt p q d W nm' a' g' pv' mv' V' :=
  ⟨(h.turns.trans (Turns.of_new hb (fun _ => False)) (fun _ _ e => e.elim)).trans ht (fun _ _ e => e), hr⟩
theorem ContAt.turn {n : Nat} {r : Fil.Row} (h : ContAt bm n r W) (ht : Turns (fun j => j = p) W W') (hn : bm ≠ p) : ContAt bm n r W' := h.turns ht hn

def FoI (w : World) (S : Nat → Prop) (kept : List (Nat × Obj)) (p q : Nat) (d : Dsk.St) (W : World) : Nat → World → Prop
  | 0, V => FoSt p q d W false 0 0 (.pointer none) (.map none) V
  | 1, V => FoSt p q d W (Fil.mkO d).isSome (Fil.aOf (Fil.mkO d)) (Fil.gOf (Fil.mkO d)) (.pointer none) (.map none) V
  | 2, V => ∃ mv, FoSt p q d W (Fil.mkO d).isSome (Fil.aOf (Fil.mkO d)) (Fil.gOf (Fil.mkO d)) (.pointer none) mv V ∧ ArR (Fil.areaOf d (Fil.mkO d)) W.heap.size mv V
  | 3, V => ∃ mv pv, FoSt p q d W (Fil.mkO d).isSome (Fil.aOf (Fil.mkO d)) (Fil.gOf (Fil.mkO d)) pv mv V ∧ ArR (Fil.areaOf d (Fil.mkO d)) W.heap.size mv V ∧ LgR d q W.heap.size mv pv V
  | _, V => FoDone w S kept p q d V ∧ ∀ x ∈ kept, V.heap[x.1]? = some x.2
end
end Go.Proofs.YtalklpnekbfehaaGreat

/-
  Open's four steps together.
-/
set_option linter.unusedVariables false
set_option maxRecDepth 100000
namespace Go.Proofs.YtalklpnekbfehaaGreat
open Go.RowKit

section
variable {w : World} {T : Nat → Prop} {S R : Nat → Prop} {D P F fb p q : Nat} {d : Dsk.St} {s : Wal.St} {t : Fil.St} {W W' : World}
/-- the blocks that Open keeps -/
def foK (D P F fb p q n : Nat) : List (Nat × Obj) := [(D, boxD q), (P, objP q n), (F, boxF p), (fb, foObj D P F)]
theorem fo_done1 (h : Fil.mkE d ≠ 0) : Fil.opn d = (d, none, Fil.mkE d) := by unfold Fil.opn; rw [if_pos h]
theorem fo_done2 (h : Fil.mkE d = 0) (h2 : Fil.areaOf d (Fil.mkO d) = none) : Fil.opn d = (d, none, 50) := by
  unfold Fil.opn; rw [if_neg (fun e => e h), h2]
theorem fo_done3 (h : Fil.mkE d = 0) {r : Fil.Row} (h2 : Fil.areaOf d (Fil.mkO d) = some r) (h3 : (Wal.open_ d 1 (Fil.logN d.n : Nat)).1 = none) : Fil.opn d = (d, none, (Wal.open_ d 1 (Fil.logN d.n : Nat)).2) := by
  unfold Fil.opn; rw [if_neg (fun e => e h), h2]
  simp only
  generalize Wal.open_ d 1 (Fil.logN d.n : Nat) = X at *
  obtain ⟨o, e⟩ := X
  simp only at h3
  subst h3
  rfl
theorem fo_done4 (h : Fil.mkE d = 0) {r : Fil.Row} (h2 : Fil.areaOf d (Fil.mkO d) = some r) (h3 : (Wal.open_ d 1 (Fil.logN d.n : Nat)).1 = some s) :
    Fil.opn d = if (Fil.replay d s (Fil.gOf (Fil.mkO d)) r).2.2.2 = 0 then ((Fil.replay d s (Fil.gOf (Fil.mkO d)) r).1, some ((Fil.replay d s (Fil.gOf (Fil.mkO d)) r).2.1, ⟨(Fil.mkO d).isSome, Fil.aOf (Fil.mkO d), Fil.gOf (Fil.mkO d), d.n, (Fil.replay d s (Fil.gOf (Fil.mkO d)) r).2.2.1, 0⟩), 0)
        else ((Fil.replay d s (Fil.gOf (Fil.mkO d)) r).1, none, (Fil.replay d s (Fil.gOf (Fil.mkO d)) r).2.2.2) := by
  unfold Fil.opn; rw [if_neg (fun e => e h), h2, open_some h3]
theorem fo_bad {kept : List (Nat × Obj)} {d' : Dsk.St} {E : Int} {V : World} (h : Fil.opn d = (d', none, E)) (h1 : ∃ S', DiskAt S' q d' V ∧ (∀ j, S' j → S j ∨ w.heap.size ≤ j) ∧ Turns S w V) : FoDone w S kept p q d V := by
  unfold FoDone; rw [h]; exact h1
theorem fo_good {kept : List (Nat × Obj)} {d' : Dsk.St} {E : Int} {V : World} (h : Fil.opn d = (d', some (s, t), E)) (h1 : ∃ S' R' pw bm, Apn w S S ((p, objF (fcells t q pw bm)) :: kept) S' R' pw q d' s V ∧ (∃ nn, nn ≤ 21000000000 ∧ ContAt bm nn t.r V) ∧ ¬ S' bm ∧ ¬ R' bm ∧ bm ≠ p ∧ w.heap.size ≤ bm) : FoDone w S kept p q d V := by
  unfold FoDone; rw [h]; exact h1

set_option maxHeartbeats 1000000 in
theorem fo_follow {m : Nat} (hd0 : DiskAt S q d w) (hn : 8 ≤ d.n) (hops : d.ops ≤ 999000000) (hlog : ∀ s, (Wal.open_ d 1 (Fil.logN d.n : Nat)).1 = some s → s.Ok m ∧ ∀ l ∈ s.L, Slim l)
    (hb : Below w.heap.size w W) (hK : ∀ x ∈ foK D P F fb p q (Fil.logN d.n), W.heap[x.1]? = some x.2 ∧ w.heap.size ≤ x.1 ∧ x.1 ≠ p) (hpw : w.heap.size ≤ p)
    (hp : W.heap[p]? = some (objF (ocells false 0 0 q d.n (.pointer none) (.map none)))) :
    Calls Tryz.prog 33 #[.slice (some ⟨fb, 0, none⟩) 4 4] W fun e V => e = .returned (.int .i64 (Fil.opn d).2.2) ∧ FoDone w S (foK D P F fb p q (Fil.logN d.n)) p q d V ∧ ((Fil.opn d).2.1 ≠ none → ∀ x ∈ foK D P F fb p q (Fil.logN d.n), V.heap[x.1]? = some x.2) := by
  have hSp : ¬ S p := fun e => by have := hd0.lt _ e; omega
  have hdW := hd0.new hb
  have hdV : ∀ V, Turns (fun j => j = p) W V → DiskAt S q d V := fun V ht => hdW.keeps ht (fun k hk e => by subst e; exact hSp hk)
  have htV : ∀ V, Turns (fun j => j = p) W V → Turns S w V := fun V ht => (Turns.of_new hb S).trans (ht.mono (T := fun j => j = p) (fun _ _ e => e)) (fun j hj e => by omega)
  have hKV : ∀ V, Turns (fun j => j = p) W V → ∀ x ∈ foK D P F fb p q (Fil.logN d.n), V.heap[x.1]? = some x.2 := fun V ht x hx => ht.same (hK x hx).1 (hK x hx).2.2
  have hbad : ∀ V, Turns (fun j => j = p) W V → ∃ S', DiskAt S' q d V ∧ (∀ j, S' j → S j ∨ w.heap.size ≤ j) ∧ Turns S w V := fun V ht => ⟨S, hdV V ht, fun j e => .inl e, htV V ht⟩
  have hDn : D ≠ p := (hK (D, boxD q) (by simp [foK])).2.2
  have hPn : P ≠ p := (hK (P, objP q (Fil.logN d.n)) (by simp [foK])).2.2
  have hFn : F ≠ p := (hK (F, boxF p) (by simp [foK])).2.2
  have hrD : ∀ V, Turns (fun j => j = p) W V → V.heap[D]? = some (boxD q) := fun V ht => hKV V ht (D, boxD q) (by simp [foK])
  have hrP : ∀ V, Turns (fun j => j = p) W V → V.heap[P]? = some (objP q (Fil.logN d.n)) := fun V ht => hKV V ht (P, objP q (Fil.logN d.n)) (by simp [foK])
  have hrF : ∀ V, Turns (fun j => j = p) W V → V.heap[F]? = some (boxF p) := fun V ht => hKV V ht (F, boxF p) (by simp [foK])
  have hfit := Fil.ar_fit hn
  have hhi := hd0.ok.hi
  have hmk := Fil.mkO_lt d
  have hrow : ∀ k V, FoI w S (foK D P F fb p q (Fil.logN d.n)) p q d W k V → k < 4 → Turns (fun j => j = p) W V := fun k V h hk => by
    match k, hk, h with
    | 0, _, h => exact FoSt.turns h
    | 1, _, h => exact FoSt.turns h
    | 2, _, h => obtain ⟨mv, h, _⟩ := h; exact h.turns
    | 3, _, h => obtain ⟨mv, pv, h, _⟩ := h; exact h.turns
    | (k + 4), h, _ => exact absurd h (by omega)
  refine (follow_any fb 4 foG (foL D P F) (fun i _ => fo_eg i) (foE d) (FoI w S (foK D P F fb p q (Fil.logN d.n)) p q d W) (by omega) W ?_ ?_ ⟨Turns.refl _ _, hp⟩).mono ?_
  · intro k V hI i hi
    have hfb : V.heap[fb]? = some (foObj D P F) := by
      by_cases hk : k < 4
      · exact hKV V (hrow k V hI hk) (fb, foObj D P F) (by simp [foK])
      · match k, hk, hI with
        | (k + 4), _, hI => exact hI.2 (fb, foObj D P F) (by simp [foK])
    rw [cell_of_row _ _ i _ _ _ hfb]
    match i, hi with
    | 0, _ => rfl
    | 1, _ => rfl
    | 2, _ => rfl
    | 3, _ => rfl
    | (m + 4), h => exact absurd h (by omega)
  · intro k V hk hz hI
    have hV := hrow k V hI hk
    have hVs := hV.size
    match k, hk, hz, hI with
    | 0, _, hz, hI =>
      have hI : FoSt p q d W false 0 0 (.pointer none) (.map none) V := hI
      refine (fopen1_any ⟨hrF V hV, hrD V hV⟩ hI.row hFn hDn rfl rfl rfl (mark_all ((hdV V hV).new ((Below.refl _ V).drew)) hn)).mono ?_
      rintro e V' ⟨rfl, V1, h1, h2, h3⟩
      exact ⟨rfl, hI.step h1 h2 h3⟩
    | 1, _, hz, hI =>
      have hI : FoSt p q d W (Fil.mkO d).isSome (Fil.aOf (Fil.mkO d)) (Fil.gOf (Fil.mkO d)) (.pointer none) (.map none) V := hI
      have hdn : d.down = false := by
        have := hz 0 (by omega)
        have h0 : Fil.mkE d = 0 := this
        unfold Fil.mkE at h0
        by_cases hd : d.down = true
        · rw [if_pos hd] at h0; cases h0
        · simpa using hd
      refine (fopen2_any (X := fun mv V1 => ArR (Fil.areaOf d (Fil.mkO d)) V.heap.size mv V1) (hrF V hV) hI.row hFn rfl (readArea_all ((hdV V hV).new ((Below.refl _ V).drew)) hn hdn (Fil.mkO d) hmk.1 hI.row)).mono ?_
      rintro e V' ⟨rfl, mv, V1, hmv, ⟨h1, h4⟩, h2, h3⟩
      refine ⟨rfl, mv, hI.step h1 h2 h3, fun r hr => ?_⟩
      obtain ⟨b, n, g1, g2, g3, g4⟩ := h4 r hr
      have hpl := row_lt hI.row
      exact ⟨b, n, g1, by omega, g3, g4.turn h2 (by omega)⟩
    | 2, _, hz, hI =>
      obtain ⟨mv, hI, hA⟩ := hI
      have hop : Calls Tryz.prog 47 #[.pointer (some ⟨q, 0, none⟩), .int .i64 1, .int .i64 (Fil.logN d.n : Int)] V.drew (OpenR (Wal.open_ d 1 (Fil.logN d.n : Nat)) q V.drew) := open_any ((hdV V hV).new ((Below.refl _ V).drew)) 1 (Fil.logN d.n) hfit.2.2 hfit.2.1
      obtain ⟨r, hr⟩ : ∃ r, Fil.areaOf d (Fil.mkO d) = some r := by
        have h1 : Fil.arE (Fil.areaOf d (Fil.mkO d)) = 0 := hz 1 (by omega)
        cases ha : Fil.areaOf d (Fil.mkO d) with
        | none => rw [ha] at h1; cases h1
        | some r => exact ⟨r, rfl⟩
      refine (fopen3_any (E := (Wal.open_ d 1 (Fil.logN d.n : Nat)).2) (X := fun pv V1 => ∀ s, (Wal.open_ d 1 (Fil.logN d.n : Nat)).1 = some s → ∃ R pw, pv = .pointer (some ⟨pw, 0, none⟩) ∧ WalAt R pw q s V1 ∧ ∀ j, R j → V.heap.size ≤ j) ⟨hrF V hV, hrD V hV, hrP V hV⟩ hI.row hFn hDn hPn rfl (hop.mono ?_)).mono ?_
      · rintro e V1 ⟨hb1, hc⟩
        rcases hc with ⟨c1, c2, c3⟩ | ⟨s, R, pw, c1, c2, c3, c4, c5⟩
        · exact ⟨_, c3, ⟨_, rfl⟩, hb1, fun s hs => by rw [c1] at hs; cases hs⟩
        · refine ⟨.pointer (some ⟨pw, 0, none⟩), ?_, ⟨_, rfl⟩, hb1, fun s' hs => ?_⟩
          · rw [c3, c2]
          · have : s = s' := by
              have h9 := c1.symm.trans hs
              simpa using h9
            subst this
            exact ⟨R, pw, rfl, c4, c5⟩
      · rintro e V' ⟨rfl, pv, V1, hpv, ⟨h1, h4⟩, h2, h3⟩
        have hpl := row_lt hI.row
        refine ⟨rfl, mv, pv, hI.step h1 h2 h3, fun r hr => ?_, fun s hs => ?_⟩
        · obtain ⟨b, n, g1, g2, g3, g4⟩ := hA r hr
          have hbp : b ≠ p := fun e => by
            subst e
            obtain ⟨es, ck, hes⟩ := ownsMap_obj g4
            rw [hI.row] at hes; cases hes
          exact ⟨b, n, g1, g2, g3, (g4.new h1).turn h2 hbp⟩
        · obtain ⟨R, pw, g1, g2, g3⟩ := h4 s hs
          refine ⟨R, pw, g1, g2.keeps h2 (fun k hk e => by have := g3 k hk; omega), fun j hj => by have := g3 j hj; omega, fun bm hbm hR => ?_⟩
          obtain ⟨b, n, e1, _, _, e4⟩ := hA r hr
          rw [e1] at hbm
          obtain rfl : b = bm := by simpa using hbm
          have := g3 b hR
          have := e4.lt
          omega
    | 3, _, hz, hI =>
      obtain ⟨mv, pv, hI, hA, hL⟩ := hI
      have h0 : Fil.mkE d = 0 := hz 0 (by omega)
      have h1 : Fil.arE (Fil.areaOf d (Fil.mkO d)) = 0 := hz 1 (by omega)
      have h2 : (Wal.open_ d 1 (Fil.logN d.n : Nat)).2 = 0 := hz 2 (by omega)
      obtain ⟨r, hr⟩ : ∃ r, Fil.areaOf d (Fil.mkO d) = some r := by
        cases ha : Fil.areaOf d (Fil.mkO d) with
        | none => rw [ha] at h1; cases h1
        | some r => exact ⟨r, rfl⟩
      obtain ⟨s, hs⟩ : ∃ s, (Wal.open_ d 1 (Fil.logN d.n : Nat)).1 = some s := by
        cases ha : (Wal.open_ d 1 (Fil.logN d.n : Nat)).1 with
        | none => exact absurd h2 (open_none ha)
        | some s => exact ⟨s, rfl⟩
      obtain ⟨bm, nn, rfl, b2, b3, b4⟩ := hA r hr
      obtain ⟨R, pw, rfl, l2, l3, l4⟩ := hL s hs
      obtain ⟨g1, g2, g3⟩ := Fil.areaOf_good hd0.ok (Fil.mkO d) hr
      have hopn := fo_done4 h0 hr hs
      have hbs := hb.size
      have hRm : ¬ R bm := l4 bm rfl
      have hbp : bm ≠ p := fun e => by
        subst e
        obtain ⟨es, ck, hes⟩ := ownsMap_obj b4
        rw [hI.row] at hes; cases hes
      have hAp : Apn w S S ((p, objF (fcells ⟨(Fil.mkO d).isSome, Fil.aOf (Fil.mkO d), Fil.gOf (Fil.mkO d), d.n, r, 0⟩ q pw bm)) :: foK D P F fb p q (Fil.logN d.n)) S R pw q d s V := by
        refine ⟨hdV V hV, l2, fun j hj hr => ?_, fun x hx => ?_, fun j hj => .inl hj, fun j hj => .inr (by have := l3 j hj; omega), (htV V hV).mono (fun _ _ e => .inl e)⟩
        · have := hd0.lt j hj; have := l3 j hr; omega
        · rcases List.mem_cons.1 hx with rfl | hx
          · refine ⟨hI.row, hSp, fun e => ?_⟩
            have := l3 p e
            have := row_lt hp
            omega
          · have := hK x hx
            refine ⟨hKV V hV x hx, fun e => ?_, fun e => ?_⟩
            · have := hd0.lt _ e; omega
            · have := l3 _ e
              have := row_lt (hK x hx).1
              omega
      have hkm : ∀ y ∈ foK D P F fb p q (Fil.logN d.n), y.1 ≠ bm := fun y hy e => by
        have h9 := row_lt (hK y hy).1
        omega
      refine (fopen4_any hAp (by simp [foK]) (hlog s hs).1 hmk.2 hops (hlog s hs).2 b4 (by omega) ⟨fun e => by have := hd0.lt _ e; omega, hRm, hbp, by omega⟩ hkm).mono ?_
      rintro e V' ⟨rfl, S', R', hx, ⟨nn', hn1, hn2⟩, hx2, hx3⟩
      simp only at hx hn2
      have hE : foE d 3 = (Fil.replay d s (Fil.gOf (Fil.mkO d)) r).2.2.2 := by
        show (Fil.opn d).2.2 = _
        rw [hopn]
        split
        · rename_i h; exact h.symm
        · rfl
      refine ⟨by rw [hE], ?_, fun x hx' => hx.row (List.mem_cons_of_mem _ hx')⟩
      by_cases he : (Fil.replay d s (Fil.gOf (Fil.mkO d)) r).2.2.2 = 0
      · rw [if_pos he] at hopn
        refine fo_good hopn ⟨S', R', pw, bm, ?_, ⟨nn', by omega, hn2⟩, hx2, hx3, hbp, by omega⟩
        exact hx
      · rw [if_neg he] at hopn
        exact fo_bad hopn ⟨S', hx.disk, fun j hj => hx.loS j hj, hx.turns.mono (fun _ _ e => e.elim id id)⟩
    | (k + 4), h, _, _ => exact absurd h (by omega)
  · rintro e V ⟨k, hk1, hz, hcase⟩
    rcases hcase with ⟨rfl, rfl, hI⟩ | ⟨hk, hne, rfl, hI⟩
    · have h3 : (Fil.opn d).2.2 = 0 := hz 3 (by omega)
      exact ⟨by rw [h3], hI.1, fun _ => hI.2⟩
    · match k, hk, hz, hne, hI with
      | 0, _, _, hne, hI =>
        have ho := fo_done1 (show Fil.mkE d ≠ 0 from hne)
        exact ⟨by rw [ho]; rfl, fo_bad ho (hbad V (FoSt.turns hI)), fun e => by rw [ho] at e; exact absurd rfl e⟩
      | 1, _, hz, hne, hI =>
        obtain ⟨mv, hI, hA⟩ := hI
        have hne : Fil.arE (Fil.areaOf d (Fil.mkO d)) ≠ 0 := hne
        have ha : Fil.areaOf d (Fil.mkO d) = none := by
          cases ha : Fil.areaOf d (Fil.mkO d) with
          | none => rfl
          | some r => rw [ha] at hne; exact absurd rfl hne
        have ho := fo_done2 (show Fil.mkE d = 0 from hz 0 (by omega)) ha
        refine ⟨?_, fo_bad ho (hbad V hI.turns), fun e => by rw [ho] at e; exact absurd rfl e⟩
        rw [ho]
        show _ = Ending.returned (.int .i64 50)
        show Ending.returned (.int .i64 (Fil.arE (Fil.areaOf d (Fil.mkO d)))) = _
        rw [ha]; rfl
      | 2, _, hz, hne, hI =>
        obtain ⟨mv, pv, hI, hA, hL⟩ := hI
        have hne : (Wal.open_ d 1 (Fil.logN d.n : Nat)).2 ≠ 0 := hne
        have h1 : Fil.arE (Fil.areaOf d (Fil.mkO d)) = 0 := hz 1 (by omega)
        obtain ⟨r, hr⟩ : ∃ r, Fil.areaOf d (Fil.mkO d) = some r := by
          cases ha : Fil.areaOf d (Fil.mkO d) with
          | none => rw [ha] at h1; cases h1
          | some r => exact ⟨r, rfl⟩
        have ha : (Wal.open_ d 1 (Fil.logN d.n : Nat)).1 = none := by
          cases ha : (Wal.open_ d 1 (Fil.logN d.n : Nat)).1 with
          | none => rfl
          | some s => exact absurd (by rw [open_some ha]) hne
        have ho := fo_done3 (show Fil.mkE d = 0 from hz 0 (by omega)) hr ha
        refine ⟨?_, fo_bad ho (hbad V hI.turns), fun e => by rw [ho] at e; exact absurd rfl e⟩
        rw [ho]; rfl
      | 3, _, hz, hne, hI => exact ⟨rfl, hI.1, fun _ => hI.2⟩
      | (k + 4), h, _, _, _ => exact absurd h (by omega)
end
end Go.Proofs.YtalklpnekbfehaaGreat

/-
  Open.
-/
set_option linter.unusedVariables false
set_option maxRecDepth 100000
namespace Go.Proofs.YtalklpnekbfehaaGreat
open Go.RowKit

section
variable {w : World} {S : Nat → Prop} {q : Nat} {d : Dsk.St}
theorem fopen_nil (w : World) : Calls Tryz.prog 18 #[.pointer none] w fun e w' => e = .returned (.tuple #[.pointer none, .int .i64 1]) ∧ Below w.heap.size w w' := by
  go_enter Tryz.func18, Tryz.ntmps18
  go_wp2_with fail
  go_ret2
  exact ⟨rfl, (Below.refl _ w).alloc (Nat.le_refl _) _⟩
theorem fopen_arg (h : DiskAt S q d w) (hn : d.n < 8) : Calls Tryz.prog 18 #[.pointer (some ⟨q, 0, none⟩)] w fun e w' => e = .returned (.tuple #[.pointer none, .int .i64 2]) ∧ Below w.heap.size w w' := by
  have hb : Below w.heap.size w (w.alloc (.cells #[.pointer (some ⟨q, 0, none⟩)] 34)) := (Below.refl _ w).alloc (Nat.le_refl _) _
  have hc := sectors_any (h.new hb)
  have hx : decide ((d.n : Int) < 8) = true := decide_eq_true (by omega)
  have Hb := Lib.hid hb; clear hb
  have Hc := Lib.hid hc; clear hc h
  go_enter Tryz.func18, Tryz.ntmps18
  go_wp2_with fail
  refine Hc.out.mono ?_; rintro e w1 ⟨rfl, rfl⟩
  go_wp2_with fail
  go_ret2
  exact ⟨rfl, Hb.out⟩
theorem built_files (q : Nat) (i1 i2 i3 i4 : Int) (w : World) : (Instr.build 76 #[(1, .pointer (some ⟨q, 0, none⟩)), (2, .agg #[.pointer (some ⟨q, 0, none⟩), .int .i64 i1, .int .i64 i2, .pointer (some ⟨q, 0, none⟩), .int .i64 i3, .int .i64 i4])]).run Tryz.prog w = .ok (.agg #[.bool false, .int .i64 0, .int .u64 0, .pointer (some ⟨q, 0, none⟩),
    .pointer (some ⟨q, 0, none⟩), .int .i64 i1, .int .i64 i2, .pointer (some ⟨q, 0, none⟩), .int .i64 i3, .int .i64 i4, .pointer none, .map none, .int .i64 0]) w := by
  exact run_build w _ _ _ (by kernel_rfl)
theorem opn_iff (d : Dsk.St) : ((Fil.opn d).2.1 = none ∧ (Fil.opn d).2.2 ≠ 0) ∨ (∃ x, (Fil.opn d).2.1 = some x ∧ (Fil.opn d).2.2 = 0) := by
  by_cases h : Fil.mkE d = 0
  · cases ha : Fil.areaOf d (Fil.mkO d) with
    | none => rw [fo_done2 h ha]; exact .inl ⟨rfl, by show (50 : Int) ≠ 0; decide⟩
    | some r =>
      cases hs : (Wal.open_ d 1 (Fil.logN d.n : Nat)).1 with
      | none => rw [fo_done3 h ha hs]; exact .inl ⟨rfl, open_none hs⟩
      | some s =>
        rw [fo_done4 h ha hs]
        split
        · exact .inr ⟨_, rfl, rfl⟩
        · rename_i hn; exact .inl ⟨rfl, hn⟩
  · rw [fo_done1 h]; exact .inl ⟨rfl, h⟩
/-- the disk's and the log's blocks, and the files -/
def FoR (w : World) (S : Nat → Prop) (q : Nat) (d : Dsk.St) (e : Ending) (V : World) : Prop :=
  match Fil.opn d with
  | (d', none, E) => e = .returned (.tuple #[.pointer none, .int .i64 E]) ∧ ∃ S', DiskAt S' q d' V ∧ (∀ j, S' j → S j ∨ w.heap.size ≤ j) ∧ Turns S w V
  | (d', some (s, t), _) => ∃ p S' R' pw bm, e = .returned (.tuple #[.pointer (some ⟨p, 0, none⟩), .int .i64 0]) ∧ w.heap.size ≤ p ∧ Apn w S S [(p, objF (fcells t q pw bm))] S' R' pw q d' s V ∧ (∃ nn, nn ≤ 21000000000 ∧ ContAt bm nn t.r V) ∧ ¬ S' bm ∧ ¬ R' bm ∧ bm ≠ p

/-- and the files' map is new -/
def FoR2 (w : World) (S : Nat → Prop) (q : Nat) (d : Dsk.St) (e : Ending) (V : World) : Prop :=
  match Fil.opn d with
  | (d', none, E) => e = .returned (.tuple #[.pointer none, .int .i64 E]) ∧ ∃ S', DiskAt S' q d' V ∧ (∀ j, S' j → S j ∨ w.heap.size ≤ j) ∧ Turns S w V
  | (d', some (s, t), _) => ∃ p S' R' pw bm, e = .returned (.tuple #[.pointer (some ⟨p, 0, none⟩), .int .i64 0]) ∧ w.heap.size ≤ p ∧ Apn w S S [(p, objF (fcells t q pw bm))] S' R' pw q d' s V ∧ (∃ nn, nn ≤ 21000000000 ∧ ContAt bm nn t.r V) ∧ ¬ S' bm ∧ ¬ R' bm ∧ bm ≠ p ∧ w.heap.size ≤ bm
set_option maxHeartbeats 1000000 in
theorem fopen_bm {m : Nat} (h : DiskAt S q d w) (hn : 8 ≤ d.n) (hops : d.ops ≤ 999000000) (hlog : ∀ s, (Wal.open_ d 1 (Fil.logN d.n : Nat)).1 = some s → s.Ok m ∧ ∀ l ∈ s.L, Slim l) :
    Calls Tryz.prog 18 #[.pointer (some ⟨q, 0, none⟩)] w (FoR2 w S q d) := by
  have hb : Below w.heap.size w (w.alloc (boxD q)) := (Below.refl _ w).alloc (Nat.le_refl _) _
  have hc := sectors_any (h.new hb)
  have hl := layout_any (h.new hb) hn
  unfold areaV laysV at hl
  have hrD := heap_alloc_new w (boxD q)
  have hx : decide ((d.n : Int) < 8) = false := decide_eq_false (by omega)
  obtain ⟨WA, hWA⟩ : ∃ WA, WA = w.alloc (boxD q) := ⟨_, rfl⟩
  rw [← hWA] at hb hc hl hrD
  have hsA : WA.heap.size = w.heap.size + 1 := by rw [hWA]; simp
  have hWAr : w.alloc (.cells #[.pointer (some ⟨q, 0, none⟩)] 34) = WA := hWA.symm
  have cD : WA.cell? ⟨w.heap.size, 0, none⟩ = some (.pointer (some ⟨q, 0, none⟩)) := by rw [cell_of_row _ _ 0 _ _ _ hrD]; rfl
  have Hb := Lib.hid hb; clear hb
  have Hc := Lib.hid hc; clear hc
  have Hl := Lib.hid hl; clear hl
  have H := Lib.hid h; clear h
  have Hlog := Lib.hid hlog; clear hlog
  have HrD := Lib.hid hrD; clear hrD
  have HsA := Lib.hid hsA; clear hsA
  have HW := Lib.hid hWA; clear hWA
  go_enter Tryz.func18, Tryz.ntmps18
  go_wp2_with fail
  refine Hc.out.mono ?_; rintro e w1 ⟨rfl, rfl⟩
  go_wp2_with fail
  refine Hl.out.mono ?_; rintro e W3 ⟨rfl, hb3⟩
  have hrD3 : W3.heap[w.heap.size]? = some (boxD q) := by rw [hb3.block _ (row_lt HrD.out)]; exact HrD.out
  have cD3 : W3.cell? ⟨w.heap.size, 0, none⟩ = some (.pointer (some ⟨q, 0, none⟩)) := by rw [cell_of_row _ _ 0 _ _ _ hrD3]; rfl
  have Hb3 := Lib.hid hb3; clear hb3
  have HrD3 := Lib.hid hrD3; clear hrD3
  clear cD
  have hbu := built_files q
  have cDB : ∀ x y : Obj, ((W3.alloc x).alloc y).cell? ⟨w.heap.size, 0, none⟩ = some (.pointer (some ⟨q, 0, none⟩)) := fun x y => by
    rw [cell_of_row _ _ 0 _ _ _ (row_alloc (row_alloc HrD3.out x) y)]; rfl
  go_wp2_with fail
  have hD := H.out
  have hbA := Hb.out
  have hb3 := Hb3.out
  have hsA := HsA.out
  have hs3 := hb3.size
  obtain ⟨n, hnn⟩ : ∃ n, n = W3.heap.size := ⟨_, rfl⟩
  have hw3 : Below w.heap.size w W3 := hbA.trans (hb3.mono (by omega))
  obtain ⟨WF, hWF⟩ : ∃ WF, WF = ((((W3.alloc (objP q (Fil.logN d.n))).alloc (.cells #[.pointer (some ⟨q, 0, none⟩), .int .i64 (Fil.arAt d.n : Int), .int .i64 (Fil.arN d.n : Int), .pointer (some ⟨q, 0, none⟩), .int .i64 ((Fil.arAt d.n + Fil.arN d.n : Nat) : Int), .int .i64 (Fil.arN d.n : Int)] 71)).alloc
    (objF (ocells false 0 0 q d.n (.pointer none) (.map none)))).alloc (boxF (W3.heap.size + 1 + 1))).alloc (foObj w.heap.size W3.heap.size (W3.heap.size + 1 + 1 + 1)) := ⟨_, rfl⟩
  have hbF : Below w.heap.size w WF := by
    rw [hWF]
    exact ((((hw3.alloc (by omega) _).alloc (by simp; omega) _).alloc (by simp; omega) _).alloc (by simp; omega) _).alloc (by simp; omega) _
  have r0 : WF.heap[w.heap.size]? = some (boxD q) := by rw [hWF]; exact row_alloc (row_alloc (row_alloc (row_alloc (row_alloc HrD3.out _) _) _) _) _
  have r1 : WF.heap[W3.heap.size]? = some (objP q (Fil.logN d.n)) := by rw [hWF]; exact row_alloc (row_alloc (row_alloc (row_alloc (heap_alloc_new _ _) _) _) _) _
  have r2 : WF.heap[W3.heap.size + 1 + 1]? = some (objF (ocells false 0 0 q d.n (.pointer none) (.map none))) := by rw [hWF]; exact row_alloc (row_alloc (alloc_at _ _ _ (by simp)) _) _
  have r3 : WF.heap[W3.heap.size + 1 + 1 + 1]? = some (boxF (W3.heap.size + 1 + 1)) := by rw [hWF]; exact row_alloc (alloc_at _ _ _ (by simp)) _
  have r4 : WF.heap[W3.heap.size + 1 + 1 + 1 + 1]? = some (foObj w.heap.size W3.heap.size (W3.heap.size + 1 + 1 + 1)) := by rw [hWF]; exact alloc_at _ _ _ (by simp)
  have hfo := fo_follow (w := w) (W := WF) (fb := W3.heap.size + 1 + 1 + 1 + 1) (D := w.heap.size) (P := W3.heap.size) (F := W3.heap.size + 1 + 1 + 1) (p := W3.heap.size + 1 + 1) hD hn hops Hlog.out hbF (fun x hx => by
    simp only [foK, List.mem_cons, List.not_mem_nil, or_false] at hx
    rcases hx with rfl | rfl | rfl | rfl
    · exact ⟨r0, Nat.le_refl _, by dsimp only; omega⟩
    · exact ⟨r1, by dsimp only; omega, by dsimp only; omega⟩
    · exact ⟨r3, by dsimp only; omega, by dsimp only; omega⟩
    · exact ⟨r4, by dsimp only; omega, by dsimp only; omega⟩) (by omega) r2
  rw [hWF] at hfo
  refine Calls.mono hfo ?_
  rintro e V ⟨rfl, hdo, hke⟩
  unfold FoDone at hdo
  rcases opn_iff d with ⟨o1, o2⟩ | ⟨⟨s, t⟩, o1, o2⟩
  · obtain ⟨⟨d', E0, E⟩, hX⟩ : ∃ X, X = Fil.opn d := ⟨_, rfl⟩
    rw [← hX] at hdo o1 o2 ⊢
    simp only at o1 o2
    subst o1
    simp only at hdo ⊢
    have hE : (E != 0) = true := by simpa using o2
    have HX := Lib.hid hX; clear hX
    have Hdo := Lib.hid hdo; clear hdo
    clear hke r0 r1 r2 r3 r4 hbF hWF hfo hw3 hs3 hb3 hbA hD o2 cDB hbu
    go_wp2_with fail
    go_ret2
    unfold FoR2
    rw [← HX.out]
    exact ⟨rfl, Hdo.out⟩
  · have hk2 := hke (by rw [o1]; exact fun e => by cases e) (W3.heap.size + 1 + 1 + 1, boxF (W3.heap.size + 1 + 1)) (by simp [foK])
    obtain ⟨⟨d', E0, E⟩, hX⟩ : ∃ X, X = Fil.opn d := ⟨_, rfl⟩
    rw [← hX] at hdo o1 o2 ⊢
    simp only at o1 o2
    subst o1
    simp only at hdo ⊢
    subst o2
    have cF : V.cell? ⟨W3.heap.size + 1 + 1 + 1, 0, none⟩ = some (.pointer (some ⟨W3.heap.size + 1 + 1, 0, none⟩)) := by rw [cell_of_row _ _ 0 _ _ _ hk2]; rfl
    have HX := Lib.hid hX; clear hX
    have Hdo := Lib.hid hdo; clear hdo
    have Hp := Lib.hid (show w.heap.size ≤ W3.heap.size + 1 + 1 by omega)
    clear hke r0 r1 r2 r3 r4 hbF hWF hfo hw3 hs3 hb3 hbA hD cDB hbu hk2
    go_wp2_with fail
    go_ret2
    unfold FoR2
    rw [← HX.out]
    obtain ⟨S', R', pw, bm, h1, h2, h3, h4, h5⟩ := Hdo.out
    exact ⟨W3.heap.size + 1 + 1, S', R', pw, bm, rfl, Hp.out, h1.sub (fun x hx => by simp at hx; subst hx; exact List.mem_cons_self), h2, h3, h4, h5⟩
theorem fopen_any {m : Nat} (h : DiskAt S q d w) (hn : 8 ≤ d.n) (hops : d.ops ≤ 999000000) (hlog : ∀ s, (Wal.open_ d 1 (Fil.logN d.n : Nat)).1 = some s → s.Ok m ∧ ∀ l ∈ s.L, Slim l) :
    Calls Tryz.prog 18 #[.pointer (some ⟨q, 0, none⟩)] w (FoR w S q d) :=
  (fopen_bm h hn hops hlog).mono fun e V hF => by
    unfold FoR2 at hF
    unfold FoR
    split at hF
    · exact hF
    · obtain ⟨p, S', R', pw, bm, h1, h2, h3, h4, h5, h6, h7, _⟩ := hF
      exact ⟨p, S', R', pw, bm, h1, h2, h3, h4, h5, h6, h7⟩
end
end Go.Proofs.YtalklpnekbfehaaGreat
