/-
  Whole blocks of numbers: what a cell of one holds, what the block is behind a store; a world that has grown and whose one block was turned.
-/
import Derived.Test.YtjlkppdailkanaaGoBase
import Derived.Laws.Rows
import Derived.Laws.OwnMore
import Derived.OneCell
import Derived.Maps.AppendAt
set_option linter.unusedVariables false
namespace Go.Proofs.Ytjlkppdailkanaa
open Go.RowKit

def u32s (ns : List Nat) : Array Value := (ns.map fun (n : Nat) => Value.int .u32 (n : Int)).toArray
def u8s (bs : List UInt8) : Array Value := (bs.map fun (b : UInt8) => Value.int .u8 (b.toNat : Int)).toArray

@[simp] theorem u32s_size (ns : List Nat) : (u32s ns).size = ns.length := by simp [u32s]
@[simp] theorem u8s_size (bs : List UInt8) : (u8s bs).size = bs.length := by simp [u8s]
theorem u32s_get (ns : List Nat) (j : Nat) (h : j < ns.length) : (u32s ns)[j]? = some (.int .u32 (ns.getD j 0 : Nat)) := by
  simp [u32s, List.getD_eq_getElem?_getD, h]
theorem u8s_get (bs : List UInt8) (j : Nat) (h : j < bs.length) : (u8s bs)[j]? = some (.int .u8 ((bs.getD j 0).toNat : Nat)) := by
  simp [u8s, List.getD_eq_getElem?_getD, h]
theorem u32s_one (ns : List Nat) : (u32s ns).all (·.oneCell') = true := by
  rw [Array.all_eq_true_iff_forall_mem]
  intro v hv
  simp [u32s] at hv
  obtain ⟨n, _, rfl⟩ := hv
  rfl
theorem u8s_one (bs : List UInt8) : (u8s bs).all (·.oneCell') = true := by
  rw [Array.all_eq_true_iff_forall_mem]
  intro v hv
  simp [u8s] at hv
  obtain ⟨n, _, rfl⟩ := hv
  rfl
theorem u32s_set (ns : List Nat) (j x : Nat) : (u32s ns).setIfInBounds j (.int .u32 (x : Int)) = u32s (ns.set j x) := by
  apply Array.ext'
  simp [u32s, List.map_set]
theorem u8s_set (bs : List UInt8) (j : Nat) (x : UInt8) : (u8s bs).setIfInBounds j (.int .u8 (x.toNat : Int)) = u8s (bs.set j x) := by
  apply Array.ext'
  simp [u8s, List.map_set]
def nils (n : Nat) : List Nat := List.replicate n 0
def nils8 (n : Nat) : List UInt8 := List.replicate n 0
@[simp] theorem nils_length (n : Nat) : (nils n).length = n := List.length_replicate
@[simp] theorem nils8_length (n : Nat) : (nils8 n).length = n := List.length_replicate
theorem u32s_zeros (n : Nat) : u32s (List.replicate n 0) = Array.replicate n (.int .u32 0) := by
  apply Array.ext'
  simp [u32s]
theorem u8s_zeros (n : Nat) : u8s (List.replicate n 0) = Array.replicate n (.int .u8 0) := by
  apply Array.ext'
  simp [u8s]

variable {w : World} {b : Nat} {T : TypeId}
theorem row_u32 {ns : List Nat} {fr : Nat × Nat} (h : w.heap[b]? = some (.cells (u32s ns) T fr)) (j : Nat) (hj : j < ns.length) : w.cell? ⟨b, j, none⟩ = some (.int .u32 (ns.getD j 0 : Nat)) := by
  rw [cell_of_row w b j _ T fr h, u32s_get ns j hj]
theorem row_u8 {bs : List UInt8} {fr : Nat × Nat} (h : w.heap[b]? = some (.cells (u8s bs) T fr)) (j : Nat) (hj : j < bs.length) : w.cell? ⟨b, j, none⟩ = some (.int .u8 ((bs.getD j 0).toNat : Nat)) := by
  rw [cell_of_row w b j _ T fr h, u8s_get bs j hj]
theorem row_free {cs : Array Value} (h : w.heap[b]? = some (.cells cs T (0, 0))) (j : Nat) : w.frozen? ⟨b, j, none⟩ = false := frozen_of_row w b j cs T h
theorem row_set32 {ns : List Nat} (h : w.heap[b]? = some (.cells (u32s ns) T (0, 0))) (j x : Nat) : (w.setCell ⟨b, j, none⟩ (.int .u32 (x : Int))).heap[b]? = some (.cells (u32s (ns.set j x)) T (0, 0)) := by
  rw [heap_setCell_same w b j _ T _ h, u32s_set]
theorem row_set8 {bs : List UInt8} (h : w.heap[b]? = some (.cells (u8s bs) T (0, 0))) (j : Nat) (x : UInt8) : (w.setCell ⟨b, j, none⟩ (.int .u8 (x.toNat : Int))).heap[b]? = some (.cells (u8s (bs.set j x)) T (0, 0)) := by
  rw [heap_setCell_same w b j _ T _ h, u8s_set]
theorem row_u32_app {ns : List Nat} {tl : Array Value} {fr : Nat × Nat} (h : w.heap[b]? = some (.cells (u32s ns ++ tl) T fr)) (j : Nat) (hj : j < ns.length) : w.cell? ⟨b, j, none⟩ = some (.int .u32 (ns.getD j 0 : Nat)) := by
  rw [cell_of_row w b j _ T fr h, Array.getElem?_append_left (by rw [u32s_size]; exact hj), u32s_get ns j hj]
theorem row_set32_app {ns : List Nat} {tl : Array Value} (h : w.heap[b]? = some (.cells (u32s ns ++ tl) T (0, 0))) (j x : Nat) (hj : j < ns.length) :
    (w.setCell ⟨b, j, none⟩ (.int .u32 (x : Int))).heap[b]? = some (.cells (u32s (ns.set j x) ++ tl) T (0, 0)) := by
  rw [heap_setCell_same w b j _ T _ h, ← u32s_set]
  congr 2
  apply Array.ext'
  simp [u32s, hj]
theorem row_lt {o : Obj} (h : w.heap[b]? = some o) : b < w.heap.size := (Array.getElem?_eq_some_iff.1 h).1
theorem row_alloc {o : Obj} (h : w.heap[b]? = some o) (o' : Obj) : (w.alloc o').heap[b]? = some o := by
  rw [Below.heap_alloc w o' b (row_lt h)]; exact h
theorem row_below {w' : World} {B : Nat} {o : Obj} (h : w.heap[b]? = some o) (hb : Below B w w') (hB : b < B) : w'.heap[b]? = some o := by
  rw [hb.block b hB]; exact h

theorem load_row {P : Program} (w : World) (g : Nat) (t ty : TypeId) (cs : Array Value) (fr : Nat × Nat) (d : TypeDesc) (hg : w.heap[g]? = some (.cells cs t fr))
    (hu : P.underlying ty = some d) (hd : (match d with | .struct _ | .array _ _ => true | _ => false) = true) (hi : (P.info? ty).map (·.size) = some cs.size) :
    (Instr.loadAt ty (.pointer (some ⟨g, 0, none⟩))).run P w = .ok (.agg cs) w := by
  simp only [Instr.loadAt, Instr.sureAddr, Sem.run_bind, Sem.run_pure, Result.andThen_ok, run_loadVar_row w g t ty cs fr d hg hu hd hi]
theorem store_row {P : Program} (w : World) (g : Nat) (t ty : TypeId) (old cs : Array Value) (hg : w.heap[g]? = some (.cells old t (0, 0))) (hi : (P.info? ty).map (·.size) = some cs.size)
    (ho : old.size = cs.size) (h1 : cs.all (·.oneCell') = true) :
    (Instr.storeAt ty (.pointer (some ⟨g, 0, none⟩)) (.agg cs)).run P w = .ok () (w.setRow g cs) := by
  simp only [Instr.storeAt, Instr.sureAddr, Sem.run_bind, Sem.run_pure, Result.andThen_ok, run_storeVar_row w g t ty old cs hg hi ho h1]
theorem wpList_store_whole {P : Program} {ops : Array Oper} {rest : List Oper} {o : Oper} {a : Act} {w : World} {Q : Exit → Act → World → Prop} (hgd : o.guard = none) (ty : TypeId) (x y : Operand) (ho : o.op = .store ty x y)
    (g : Nat) (cs : Array Value) (hx : a.eval x = .pointer (some ⟨g, 0, none⟩)) (hy : a.eval y = .agg cs)
    (t : TypeId) (old : Array Value) (hg : w.heap[g]? = some (.cells old t (0, 0))) (hi : (P.info? ty).map (·.size) = some cs.size) (hold : old.size = cs.size) (h1 : cs.all (·.oneCell') = true)
    (h : wpList P ops Q rest (a.put o.dst undef) (w.setRow g cs)) : wpList P ops Q (o :: rest) a w :=
  wpList_plain hgd fun _ hK => wp_store_row ty x y ho g cs hx hy t old hg hi hold h1 (hK _ _ h)
theorem below_setRow {B g : Nat} {a w : World} (h : Below B a w) (hB : B ≤ g) (cs : Array Value) : Below B a (w.setRow g cs) :=
  h.trans ⟨rfl, rfl, rfl, by simp, fun k hk => setRow_other w g k cs (by omega)⟩

theorem drewN_below {B : Nat} {a w : World} (h : Below B a w) (n : Nat) : Below B a (w.drewN n) := ⟨h.os, h.tape, h.output, h.size, h.block⟩

/-- the world has grown, and of what was there block b alone was turned -/
theorem grown_of_below {w w' : World} (h : Below w.heap.size w w') (row : Option Nat) : w.grownBy w' row := ⟨h.os, h.tape, h.output, h.size, fun k hk _ => h.block k hk⟩
theorem below_of_grown {w w' : World} {row : Option Nat} (h : w.grownBy w' row) (hr : ∀ k, row = some k → w.heap.size ≤ k) : Below w.heap.size w w' := ⟨h.os, h.tape, h.output, h.size, fun k hk => h.block k hk (fun e => by have := hr k e.symm; omega)⟩
theorem grown_trans {a b c : World} {row : Option Nat} (h : a.grownBy b row) (k : b.grownBy c row) : a.grownBy c row :=
  ⟨k.os.trans h.os, k.tape.trans h.tape, k.output.trans h.output, Nat.le_trans h.size k.size, fun j hj hne => (k.block j (Nat.lt_of_lt_of_le hj h.size) hne).trans (h.block j hj hne)⟩
theorem grown_set (w : World) (b j : Nat) (v : Value) : w.grownBy (w.setCell ⟨b, j, none⟩ v) (some b) :=
  ⟨rfl, rfl, rfl, by simp [World.setCell], fun k _ hk => Below.heap_setCell _ _ _ _ (fun e => hk (by simp [e]))⟩
theorem grown_row {w w' : World} {b c : Nat} {o : Obj} (h : w.heap[c]? = some o) (hg : w.grownBy w' (some b)) (hne : c ≠ b) : w'.heap[c]? = some o := by
  rw [hg.block c (row_lt h) (fun e => hne (by simpa using e))]; exact h
theorem below_grown {B b : Nat} {a w w' : World} (h : Below B a w) (hg : w.grownBy w' (some b)) (hB : B ≤ w.heap.size) (hb : B ≤ b) : Below B a w' := h.grown hg hB (fun k e => by cases e; exact hb)
end Go.Proofs.Ytjlkppdailkanaa
