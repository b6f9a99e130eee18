/-
  How a roller lies in memory: 64 bytes, how many of them are its window's, the oldest one's place, its polynomial, what each byte still counts, its fingerprint.
-/
import Derived.Test.YtofiimkpbbiegaaRabPure
import Derived.Test.YtofiimkpbbiegaaRabSmall
import Derived.Test.YtofiimkpbbiegaaGoAll
import Derived.Deep.MidRow
set_option linter.unusedVariables false
namespace Go.Proofs.Ytofiimkpbbiegaa
open Go.RowKit

structure Rol where
  bs : List UInt8
  n : Nat
  o : Nat
  p : Nat
  g : List Nat
  f : Nat
def u64l (l : List Nat) : List Value := l.map fun (n : Nat) => Value.int .u64 (n : Int)
def Rol.list (r : Rol) : List Value := (u8s r.bs).toList ++ (.int .i64 (r.n : Int) :: .int .i64 (r.o : Int) :: .int .u64 (r.p : Int) :: (u64l r.g ++ [.int .u64 (r.f : Int)]))
def Rol.cells (r : Rol) : Array Value := r.list.toArray
/-- of whatever window, of whatever table: the sizes are right -/
structure Rol.Fit (r : Rol) : Prop where
  bs : r.bs.length = 64
  g : r.g.length = 256
  n1 : 1 ≤ r.n
  n2 : r.n ≤ 64
  o : r.o < r.n
/-- the window's bytes are W -/
structure Rol.Ok (r : Rol) (W : List UInt8) : Prop where
  fit : r.Fit
  p : Pol.fine r.p
  g : ∀ v, v < 256 → r.g.getD v 0 = Pol.gone r.p r.n v
  w : Pol.wind r.bs r.n r.o = W
  f : r.f = Pol.fp r.p W

theorem u8s_list (bs : List UInt8) : (u8s bs).toList = bs.map fun (b : UInt8) => Value.int .u8 (b.toNat : Int) := by simp [u8s]
theorem Rol.list_length {r : Rol} (h : r.Fit) : r.list.length = 324 := by simp [Rol.list, u8s_list, u64l, h.bs, h.g]
theorem Rol.size {r : Rol} (h : r.Fit) : r.cells.size = 324 := by simp [Rol.cells, Rol.list_length h]
theorem Rol.byte {r : Rol} (h : r.Fit) (j : Nat) (hj : j < 64) : r.cells[j]? = some (.int .u8 ((r.bs.getD j 0).toNat : Int)) := by
  have hb := h.bs
  rw [Rol.cells, List.getElem?_toArray, Rol.list, List.getElem?_append_left (by rw [u8s_list]; simp; omega), u8s_list, List.getElem?_map, List.getD_eq_getElem?_getD, List.getElem?_eq_getElem (by omega)]
  rfl
theorem Rol.mid {r : Rol} (h : r.Fit) (j : Nat) : r.cells[64 + j]? = (Value.int .i64 (r.n : Int) :: .int .i64 (r.o : Int) :: .int .u64 (r.p : Int) :: (u64l r.g ++ [.int .u64 (r.f : Int)]))[j]? := by
  have hb := h.bs
  rw [Rol.cells, List.getElem?_toArray, Rol.list, List.getElem?_append_right (by rw [u8s_list]; simp; omega)]
  congr 1
  rw [u8s_list]; simp; omega
theorem Rol.c64 {r : Rol} (h : r.Fit) : r.cells[64]? = some (.int .i64 (r.n : Int)) := Rol.mid h 0
theorem Rol.c65 {r : Rol} (h : r.Fit) : r.cells[65]? = some (.int .i64 (r.o : Int)) := Rol.mid h 1
theorem Rol.c66 {r : Rol} (h : r.Fit) : r.cells[66]? = some (.int .u64 (r.p : Int)) := Rol.mid h 2
theorem Rol.tab {r : Rol} (h : r.Fit) (v : Nat) (hv : v < 256) : r.cells[67 + v]? = some (.int .u64 (r.g.getD v 0 : Nat)) := by
  have hg := h.g
  rw [show 67 + v = 64 + (v + 3) by omega, Rol.mid h]
  show (u64l r.g ++ [.int .u64 (r.f : Int)])[v]? = _
  rw [List.getElem?_append_left (by simp [u64l]; omega), u64l, List.getElem?_map, List.getD_eq_getElem?_getD, List.getElem?_eq_getElem (by omega)]
  rfl
theorem Rol.c323 {r : Rol} (h : r.Fit) : r.cells[323]? = some (.int .u64 (r.f : Int)) := by
  have hg := h.g
  rw [show 323 = 64 + (256 + 3) by omega, Rol.mid h]
  show (u64l r.g ++ [.int .u64 (r.f : Int)])[256]? = _
  rw [List.getElem?_append_right (by simp [u64l]; omega)]
  simp [u64l, hg]
theorem Rol.one (r : Rol) : r.cells.all (·.oneCell') = true := by
  rw [Array.all_eq_true_iff_forall_mem]
  intro v hv
  simp only [Rol.cells, Rol.list, u8s_list, u64l, List.mem_toArray, List.mem_append, List.mem_cons, List.mem_map, List.not_mem_nil, or_false] at hv
  rcases hv with ⟨_, _, rfl⟩ | rfl | rfl | rfl | ⟨_, _, rfl⟩ | rfl <;> rfl

theorem Rol.set_byte {r : Rol} (h : r.Fit) (j : Nat) (hj : j < 64) (b : UInt8) : r.cells.setIfInBounds j (.int .u8 (b.toNat : Int)) = Rol.cells { r with bs := r.bs.set j b } := by
  have hb := h.bs
  apply Array.ext'
  simp only [Rol.cells, Rol.list, Array.toList_setIfInBounds, u8s_list]
  rw [List.set_append_left _ _ (by simp; omega), List.map_set]
theorem Rol.set_mid {r : Rol} (h : r.Fit) (j : Nat) (v : Value) : r.cells.setIfInBounds (64 + j) v = ((u8s r.bs).toList ++ (Value.int .i64 (r.n : Int) :: .int .i64 (r.o : Int) :: .int .u64 (r.p : Int) :: (u64l r.g ++ [.int .u64 (r.f : Int)])).set j v).toArray := by
  have hb := h.bs
  apply Array.ext'
  simp only [Rol.cells, Rol.list, Array.toList_setIfInBounds]
  rw [List.set_append_right _ _ (by rw [u8s_list]; simp; omega)]
  congr 2
  rw [u8s_list]; simp; omega
theorem Rol.set_o {r : Rol} (h : r.Fit) (o : Nat) : r.cells.setIfInBounds 65 (.int .i64 (o : Int)) = Rol.cells { r with o := o } := Rol.set_mid h 1 _
theorem Rol.set_f {r : Rol} (h : r.Fit) (f : Nat) : r.cells.setIfInBounds 323 (.int .u64 (f : Int)) = Rol.cells { r with f := f } := by
  have hg := h.g
  rw [show 323 = 64 + (256 + 3) by omega, Rol.set_mid h]
  show ((u8s r.bs).toList ++ (Value.int .i64 (r.n : Int) :: .int .i64 (r.o : Int) :: .int .u64 (r.p : Int) :: (u64l r.g ++ [Value.int .u64 (r.f : Int)]).set 256 _)).toArray = _
  rw [List.set_append_right _ _ (by simp [u64l]; omega)]
  simp [Rol.cells, Rol.list, u64l, hg]

/-- block b is the roller r -/
def RolAt (b : Nat) (r : Rol) (w : World) : Prop := w.heap[b]? = some (.cells r.cells 85 (0, 0))
section
variable {b : Nat} {r : Rol} {w w' : World}
theorem RolAt.cell (h : RolAt b r w) {j : Nat} {v : Value} (hv : r.cells[j]? = some v) : w.cell? ⟨b, j, none⟩ = some v := by rw [cell_of_row w b j _ _ _ h]; exact hv
theorem RolAt.free (h : RolAt b r w) (j : Nat) : w.frozen? ⟨b, j, none⟩ = false := row_free h j
theorem RolAt.lt (h : RolAt b r w) : b < w.heap.size := row_lt h
theorem RolAt.set (h : RolAt b r w) (j : Nat) (v : Value) {r' : Rol} (hr : r.cells.setIfInBounds j v = r'.cells) : RolAt b r' (w.setCell ⟨b, j, none⟩ v) := by
  unfold RolAt; rw [heap_setCell_same w b j _ _ _ h, hr]
theorem RolAt.same (h : RolAt b r w) (e : w'.heap[b]? = w.heap[b]?) : RolAt b r w' := by unfold RolAt; rw [e]; exact h
theorem RolAt.new (h : RolAt b r w) (hb : Below w.heap.size w w') : RolAt b r w' := h.same (hb.block b h.lt)
theorem RolAt.keeps {T : Nat → Prop} (h : RolAt b r w) (ht : Turns T w w') (hT : ¬ T b) : RolAt b r w' := h.same (ht.block b h.lt hT)
theorem RolAt.drew (h : RolAt b r w) (n : Nat) : RolAt b r (w.drewN n) := h
end
/-- a byte is pushed into the window -/
def Rol.push (r : Rol) (x : UInt8) : Rol := { r with bs := r.bs.set r.o x, o := (r.o + 1) % r.n }
theorem Rol.push_fit {r : Rol} (h : r.Fit) (x : UInt8) : (r.push x).Fit :=
  ⟨by simp [Rol.push, h.bs], h.g, h.n1, h.n2, Nat.mod_lt _ h.n1⟩
def Rol.step (r : Rol) (x : UInt8) : Rol := { r.push x with f := Pol.foll r.p r.f x.toNat ^^^ r.g.getD (r.bs.getD r.o 0).toNat 0 }
theorem Rol.step_fit {r : Rol} (h : r.Fit) (x : UInt8) : (r.step x).Fit := ⟨(Rol.push_fit h x).bs, h.g, h.n1, h.n2, (Rol.push_fit h x).o⟩
theorem Rol.step_ok {r : Rol} {W : List UInt8} (h : r.Ok W) (x : UInt8) : (r.step x).Ok (W.drop 1 ++ [x]) := by
  have hf := h.fit
  have hn : r.n ≤ r.bs.length := by rw [hf.bs]; exact hf.n2
  have hc := Pol.wind_cons hn hf.o
  have hp := Pol.wind_push hn hf.o x
  have hl : ((r.bs.take r.n).drop (r.o + 1) ++ r.bs.take r.o).length + 1 = r.n := by
    have := Pol.wind_length hn hf.o
    rw [hc] at this
    simpa using this
  refine ⟨Rol.step_fit hf x, h.p, h.g, ?_, ?_⟩
  · rw [← h.w, hc, List.drop_succ_cons, List.drop_zero]; exact hp
  · show _ = Pol.fp r.p _
    rw [← h.w, hc, List.drop_succ_cons, List.drop_zero, Pol.fp_slide (Pol.fine_ne h.p) (r.bs.getD r.o 0) x, ← hc, hl, h.w, ← h.f, ← h.g _ (r.bs.getD r.o 0).toNat_lt]
    rfl
def Rol.steps (r : Rol) (l : List UInt8) : Rol := l.foldl Rol.step r
theorem Rol.steps_ok {r : Rol} : ∀ (l W : List UInt8), r.Ok W → l.length ≤ W.length → (r.steps l).Ok ((W ++ l).drop l.length) := by
  intro l
  induction l using Pol.snocInd with
  | nil => intro W h _; simpa [Rol.steps] using h
  | snoc l x ih =>
    intro W h hl
    rw [List.length_append, List.length_singleton] at hl
    have h1 := ih W h (by omega)
    have h2 := Rol.step_ok h1 x
    have e : (r.steps (l ++ [x])) = (r.steps l).step x := by simp [Rol.steps]
    rw [e]
    have e2 : (W ++ (l ++ [x])).drop (l ++ [x]).length = ((W ++ l).drop l.length).drop 1 ++ [x] := by
      rw [List.drop_drop, ← List.append_assoc, List.length_append, List.length_singleton, List.drop_append_of_le_length (by simp; omega)]
    rw [e2]; exact h2
theorem Rol.steps_fit {r : Rol} (h : r.Fit) (l : List UInt8) : (r.steps l).Fit ∧ (r.steps l).n = r.n ∧ (r.steps l).p = r.p ∧ (r.steps l).g = r.g := by
  induction l using Pol.snocInd with
  | nil => exact ⟨h, rfl, rfl, rfl⟩
  | snoc l x ih =>
    have e : (r.steps (l ++ [x])) = (r.steps l).step x := by simp [Rol.steps]
    rw [e]
    obtain ⟨h1, h2, h3, h4⟩ := ih
    exact ⟨⟨(Rol.push_fit h1 x).bs, h1.g, h1.n1, h1.n2, (Rol.push_fit h1 x).o⟩, h2, h3, h4⟩
theorem Rol.roll_ok {r : Rol} {G : List UInt8} (h : r.Ok (Pol.last r.n G)) (s : List UInt8) : (r.steps (s.drop (s.length - r.n))).Ok (Pol.last r.n (G ++ s)) := by
  rw [Pol.last_cut]
  exact Rol.steps_ok _ _ h (by rw [Pol.last_length, List.length_drop]; omega)
end Go.Proofs.Ytofiimkpbbiegaa
