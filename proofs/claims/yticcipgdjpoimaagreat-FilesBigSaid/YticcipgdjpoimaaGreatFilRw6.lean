/-
  The last step of rewrite.
-/
import Derived.Test.YticcipgdjpoimaaGreatFilRw
set_option linter.unusedVariables false
set_option maxRecDepth 100000
namespace Go.Proofs.YticcipgdjpoimaaGreat
open Go.RowKit
section
variable {w : World} {S0 R0 : Nat → Prop} {kept : List (Nat × Obj)} {S R : Nat → Prop} {p q pw B Bm Bx bn : Nat} {d : Dsk.St} {s : Wal.St} {W W' : World} {cs : Array Value}
/-- a block that lay there, and that the caller may turn -/
theorem Apn.turnOwn {o o' : Obj} (h : Apn w S0 R0 ((p, o) :: kept) S R pw q d s W) (ht : Turns (fun j => j = p) W W') (ho : W'.heap[p]? = some o') (hk : ∀ y ∈ kept, y.1 ≠ p) (h0 : p < w.heap.size → S0 p ∨ R0 p) : Apn w S0 R0 ((p, o') :: kept) S R pw q d s W' := by
  obtain ⟨hrow, hS, hR⟩ := h.rows (p, o) (by simp)
  refine ⟨h.disk.keeps ht (fun j hj e => hS (by rw [← e]; exact hj)), h.wal.keeps ht (fun j hj e => hR (by rw [← e]; exact hj)), h.apart, fun x hx => ?_, h.loS, h.loR, h.turns.trans ht (fun j hj e => by subst e; exact h0 hj)⟩
  rcases List.mem_cons.1 hx with rfl | hx
  · exact ⟨ho, hS, hR⟩
  · obtain ⟨h1, h2, h3⟩ := h.rows x (by simp [hx])
    exact ⟨ht.same h1 (fun e => hk x hx e), h2, h3⟩
theorem Apn.widen {S0' R0' : Nat → Prop} (h : Apn w S0 R0 kept S R pw q d s W) (hS : ∀ j, S0 j → S0' j) (hR : ∀ j, R0 j → R0' j) : Apn w S0' R0' kept S R pw q d s W :=
  ⟨h.disk, h.wal, h.apart, h.rows, fun j hj => (h.loS j hj).imp (hS j) id, fun j hj => (h.loR j hj).imp (hR j) id, h.turns.mono (fun j _ e => e.imp (hS j) (hR j))⟩
/-- .. with this mark -/
def setM (cs : Array Value) (nm : Bool) (a g : Nat) : Array Value := ((cs.setIfInBounds 0 (.bool nm)).setIfInBounds 1 (.int .i64 (a : Int))).setIfInBounds 2 (.int .u64 (g : Int))
theorem rw6_any (h : Apn w S0 R0 ((p, objF cs) :: kept) S R pw q d s W) (hB : (B, boxF p) ∈ kept) {nm : Bool} {a g : Nat} (hm : (Bm, objM nm a g) ∈ kept) (hk : ∀ y ∈ kept, y.1 ≠ p) (h0 : p < w.heap.size → S0 p ∨ R0 p) {x0 x1 x2 : Value} (e0 : cs[0]? = some x0) (e1 : cs[1]? = some x1) (e2 : cs[2]? = some x2) :
    Calls Tryz.prog 105 #[.pointer (some ⟨Bm, 0, none⟩), .pointer (some ⟨B, 0, none⟩)] W fun e W' => e = .returned (.int .i64 0) ∧ Apn w S0 R0 ((p, objF (setM cs nm a g)) :: kept) S R pw q d s W' := by
  have cB := h.cBox (p := p) (List.mem_cons_of_mem _ hB)
  have hrm := h.row (List.mem_cons_of_mem (p, objF cs) hm)
  have m0 : W.cell? ⟨Bm, 0, none⟩ = some (.bool nm) := by rw [cell_of_row _ _ 0 _ _ _ hrm]; rfl
  have m1 : W.cell? ⟨Bm, 1, none⟩ = some (.int .i64 (a : Int)) := by rw [cell_of_row _ _ 1 _ _ _ hrm]; rfl
  have m2 : W.cell? ⟨Bm, 2, none⟩ = some (.int .u64 (g : Int)) := by rw [cell_of_row _ _ 2 _ _ _ hrm]; rfl
  have hrp : W.heap[p]? = some (.cells cs 76 (0, 0)) := h.row (o := objF cs) List.mem_cons_self
  have p0 : W.cell? ⟨p, 0, none⟩ = some x0 := by rw [cell_of_row _ _ 0 _ _ _ hrp]; exact e0
  have p1 : W.cell? ⟨p, 1, none⟩ = some x1 := by rw [cell_of_row _ _ 1 _ _ _ hrp]; exact e1
  have p2 : W.cell? ⟨p, 2, none⟩ = some x2 := by rw [cell_of_row _ _ 2 _ _ _ hrp]; exact e2
  have f0 := row_free hrp 0
  have f1 := row_free hrp 1
  have f2 := row_free hrp 2
  have q1 := heap_setCell_same W p 0 cs _ (.bool nm) hrp
  have q2 := heap_setCell_same _ p 1 _ _ (.int .i64 (a : Int)) q1
  have ho : (((W.setCell ⟨p, 0, none⟩ (.bool nm)).setCell ⟨p, 1, none⟩ (.int .i64 (a : Int))).setCell ⟨p, 2, none⟩ (.int .u64 (g : Int))).heap[p]? = some (objF (setM cs nm a g)) := heap_setCell_same _ p 2 _ _ (.int .u64 (g : Int)) q2
  have ht : Turns (fun j => j = p) W (((W.setCell ⟨p, 0, none⟩ (.bool nm)).setCell ⟨p, 1, none⟩ (.int .i64 (a : Int))).setCell ⟨p, 2, none⟩ (.int .u64 (g : Int))) :=
    (((Turns.refl (fun j => j = p) W).set p 0 _ (fun _ => rfl)).set p 1 _ (fun _ => rfl)).set p 2 _ (fun _ => rfl)
  have h2 := h.turnOwn ht ho hk h0
  have H2 := Lib.hid h2; clear h2 h ht ho
  clear q1 q2
  clear hB hm hk h0 e0 e1 e2 hrp hrm
  go_enter Tryz.func105, Tryz.ntmps105
  go_wp2
  go_ret
  exact ⟨rfl, H2.out⟩
end
end Go.Proofs.YticcipgdjpoimaaGreat
