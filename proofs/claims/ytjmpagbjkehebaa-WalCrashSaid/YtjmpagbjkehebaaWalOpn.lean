/-
  What lies in memory while a log is opened.
-/
import Derived.Test.YtjmpagbjkehebaaWalCopy
import Derived.Test.YtjmpagbjkehebaaWalSmall
import Derived.Test.YtjmpagbjkehebaaWalFollow
import Derived.Test.YtjmpagbjkehebaaGoPhase
set_option linter.unusedVariables false
set_option maxRecDepth 100000
namespace Go.Proofs.Ytjmpagbjkehebaa
open Go.RowKit

section
variable {P : Program} {ops : Array Oper} {Q : Exit → Act → World → Prop} {S : World → Prop}
theorem midk_store {K : Act → World → Prop} {o : Oper} {l : List Oper} {a : Act} {w w' : World} (ty : TypeId) (x y : Operand) (pv vv : Value) (hw : Region.wanted o (yielded ops a.tmps) = true) (ho : o.op = .store ty x y) (hx : a.eval x = pv) (hy : a.eval y = vv)
    (h : (Instr.storeAt ty pv vv).run P w = .ok () w') (hS : S w') (hK : wpMidK P ops Q S K l (a.put o.dst undef) w') : wpMidK P ops Q S K (o :: l) a w := by
  refine midk_wp hw ?_
  unfold Oper.wp execOp
  simp only [ho, hx, hy, h, Sem.run_bind, Sem.run_pure, Result.andThen_ok]
  exact ⟨hS, hK⟩
end

theorem store_mark {w : World} {b : Nat} {x' y' : Value} (x y : Int) (h0 : w.cell? ⟨b, 0, none⟩ = some x') (h1 : w.cell? ⟨b, 1, none⟩ = some y') (f0 : w.frozen? ⟨b, 0, none⟩ = false) (f1 : w.frozen? ⟨b, 1, none⟩ = false) :
    (Instr.storeAt 55 (.pointer (some ⟨b, 0, none⟩)) (.agg #[.int .u64 x, .int .i64 y])).run Try.prog w = .ok () ((w.setCell ⟨b, 0, none⟩ (.int .u64 x)).setCell ⟨b, 1, none⟩ (.int .i64 y)) := by
  have hz := Try.sizeOf55
  simp [Instr.storeAt, go_sem, hz, h0, h1, f0, f1]
theorem store_str {w : World} {b o : Nat} {x' : Value} {x : ByteArray} (h0 : w.cell? ⟨b, o, none⟩ = some x') (f0 : w.frozen? ⟨b, o, none⟩ = false) :
    (Instr.storeAt 9 (.pointer (some ⟨b, o, none⟩)) (.string x)).run Try.prog w = .ok () (w.setCell ⟨b, o, none⟩ (.string x)) := by
  have hz := Try.sizeOf9
  simp [Instr.storeAt, go_sem, hz, h0, f0]
theorem store_grps {w : World} {b o : Nat} {x' : Value} {a : Option Addr} {n c : Nat} (h0 : w.cell? ⟨b, o, none⟩ = some x') (f0 : w.frozen? ⟨b, o, none⟩ = false) :
    (Instr.storeAt 32 (.pointer (some ⟨b, o, none⟩)) (.slice a n c)).run Try.prog w = .ok () (w.setCell ⟨b, o, none⟩ (.slice a n c)) := by
  have hz := Try.sizeOf32
  simp [Instr.storeAt, go_sem, hz, h0, f0]

def opcells (p k n g u : Nat) (v : Value) : Array Value := #[.int .u64 (g : Int), .int .i64 (u : Int), .pointer (some ⟨p, 0, none⟩), .int .i64 (k : Int), .int .i64 (n : Int), v, .int .i64 0]
/-- while a log is opened: the blocks from B on -/
structure Opn (S : Nat → Prop) (p : Nat) (d : Dsk.St) (B k n g u : Nat) (v : Value) (hd bd : ByteArray) (W : World) : Prop where
  disk : DiskAt S p d W
  lo : ∀ j, S j → j < B
  b0 : W.heap[B]? = some (.cells #[.pointer (some ⟨p, 0, none⟩)] 25 (0, 0))
  b1 : W.heap[B + 1]? = some (.cells #[.int .i64 (k : Int)] 3 (0, 0))
  b2 : W.heap[B + 2]? = some (.cells #[.int .i64 (n : Int)] 3 (0, 0))
  b3 : W.heap[B + 3]? = some (.cells (opcells p k n g u v) 57 (0, 0))
  b4 : W.heap[B + 4]? = some (.cells #[.pointer (some ⟨B + 3, 0, none⟩)] 29 (0, 0))
  b5 : W.heap[B + 5]? = some (.cells #[.string hd] 9 (0, 0))
  b6 : W.heap[B + 6]? = some (.cells #[.string bd] 9 (0, 0))
section
variable {S : Nat → Prop} {p : Nat} {d : Dsk.St} {B k n g u : Nat} {v : Value} {hd bd : ByteArray} {W W' : World}
theorem Opn.new (h : Opn S p d B k n g u v hd bd W) (hb : Below W.heap.size W W') : Opn S p d B k n g u v hd bd W' :=
  ⟨h.disk.new hb, h.lo, by rw [hb.block _ (row_lt h.b0)]; exact h.b0, by rw [hb.block _ (row_lt h.b1)]; exact h.b1, by rw [hb.block _ (row_lt h.b2)]; exact h.b2, by rw [hb.block _ (row_lt h.b3)]; exact h.b3,
    by rw [hb.block _ (row_lt h.b4)]; exact h.b4, by rw [hb.block _ (row_lt h.b5)]; exact h.b5, by rw [hb.block _ (row_lt h.b6)]; exact h.b6⟩
theorem Opn.turnDisk (h : Opn S p d B k n g u v hd bd W) {c j : Nat} (hc : B ≤ c) (x : Value) : DiskAt S p d (W.setCell ⟨c, j, none⟩ x) :=
  h.disk.keeps (T := fun i => i = c) ((Turns.refl _ W).set c j x (fun _ => rfl)) (fun i hi e => by have := h.lo i hi; omega)
theorem other_row {b c j : Nat} {o : Obj} {x : Value} (h : W.heap[b]? = some o) (hne : b ≠ c) : (W.setCell ⟨c, j, none⟩ x).heap[b]? = some o := by
  rw [heap_setCell_other W ⟨c, j, none⟩ b x hne]; exact h
theorem Opn.put5 (h : Opn S p d B k n g u v hd bd W) (x : ByteArray) : Opn S p d B k n g u v x bd (W.setCell ⟨B + 5, 0, none⟩ (.string x)) :=
  ⟨h.turnDisk (by omega) _, h.lo, other_row h.b0 (by omega), other_row h.b1 (by omega), other_row h.b2 (by omega), other_row h.b3 (by omega), other_row h.b4 (by omega), by rw [heap_setCell_same W _ 0 _ _ _ h.b5]; rfl, other_row h.b6 (by omega)⟩
theorem Opn.put6 (h : Opn S p d B k n g u v hd bd W) (x : ByteArray) : Opn S p d B k n g u v hd x (W.setCell ⟨B + 6, 0, none⟩ (.string x)) :=
  ⟨h.turnDisk (by omega) _, h.lo, other_row h.b0 (by omega), other_row h.b1 (by omega), other_row h.b2 (by omega), other_row h.b3 (by omega), other_row h.b4 (by omega), other_row h.b5 (by omega), by rw [heap_setCell_same W _ 0 _ _ _ h.b6]; rfl⟩
theorem Opn.putG (h : Opn S p d B k n g u v hd bd W) (x : Nat) : Opn S p d B k n x u v hd bd (W.setCell ⟨B + 3, 0, none⟩ (.int .u64 (x : Int))) :=
  ⟨h.turnDisk (by omega) _, h.lo, other_row h.b0 (by omega), other_row h.b1 (by omega), other_row h.b2 (by omega), by rw [heap_setCell_same W _ 0 _ _ _ h.b3]; rfl, other_row h.b4 (by omega), other_row h.b5 (by omega), other_row h.b6 (by omega)⟩
theorem Opn.putU (h : Opn S p d B k n g u v hd bd W) (x : Nat) : Opn S p d B k n g x v hd bd (W.setCell ⟨B + 3, 1, none⟩ (.int .i64 (x : Int))) :=
  ⟨h.turnDisk (by omega) _, h.lo, other_row h.b0 (by omega), other_row h.b1 (by omega), other_row h.b2 (by omega), by rw [heap_setCell_same W _ 1 _ _ _ h.b3]; rfl, other_row h.b4 (by omega), other_row h.b5 (by omega), other_row h.b6 (by omega)⟩
theorem Opn.putV (h : Opn S p d B k n g u v hd bd W) (x : Value) : Opn S p d B k n g u x hd bd (W.setCell ⟨B + 3, 5, none⟩ x) :=
  ⟨h.turnDisk (by omega) _, h.lo, other_row h.b0 (by omega), other_row h.b1 (by omega), other_row h.b2 (by omega), by rw [heap_setCell_same W _ 5 _ _ _ h.b3]; rfl, other_row h.b4 (by omega), other_row h.b5 (by omega), other_row h.b6 (by omega)⟩
theorem Opn.c0 (h : Opn S p d B k n g u v hd bd W) : W.cell? ⟨B, 0, none⟩ = some (.pointer (some ⟨p, 0, none⟩)) := by rw [cell_of_row _ _ 0 _ _ _ h.b0]; rfl
theorem Opn.c1 (h : Opn S p d B k n g u v hd bd W) : W.cell? ⟨B + 1, 0, none⟩ = some (.int .i64 (k : Int)) := by rw [cell_of_row _ _ 0 _ _ _ h.b1]; rfl
theorem Opn.c2 (h : Opn S p d B k n g u v hd bd W) : W.cell? ⟨B + 2, 0, none⟩ = some (.int .i64 (n : Int)) := by rw [cell_of_row _ _ 0 _ _ _ h.b2]; rfl
theorem Opn.c3 (h : Opn S p d B k n g u v hd bd W) (j : Nat) : W.cell? ⟨B + 3, j, none⟩ = (opcells p k n g u v)[j]? := by rw [cell_of_row _ _ j _ _ _ h.b3]
theorem Opn.c4 (h : Opn S p d B k n g u v hd bd W) : W.cell? ⟨B + 4, 0, none⟩ = some (.pointer (some ⟨B + 3, 0, none⟩)) := by rw [cell_of_row _ _ 0 _ _ _ h.b4]; rfl
theorem Opn.c5 (h : Opn S p d B k n g u v hd bd W) : W.cell? ⟨B + 5, 0, none⟩ = some (.string hd) := by rw [cell_of_row _ _ 0 _ _ _ h.b5]; rfl
theorem Opn.c6 (h : Opn S p d B k n g u v hd bd W) : W.cell? ⟨B + 6, 0, none⟩ = some (.string bd) := by rw [cell_of_row _ _ 0 _ _ _ h.b6]; rfl
end
end Go.Proofs.Ytjmpagbjkehebaa
