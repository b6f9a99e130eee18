/-
  Programs in memory: a row of texts and a row of instructions, by value.
-/
import Derived.Test.YtolldoclnfnceaaDoorRows
import Derived.WalkKit
import Derived.WalkLawsBesides
import Derived.WalkSpells
import Derived.Lib.Hide
import Derived.BigQuiet
import Derived.Outline
import Derived.Test.YtolldoclnfnceaaDoorCodPure
import Derived.Test.YtolldoclnfnceaaDoorGoAll
set_option linter.unusedVariables false
namespace Go.Proofs.YtolldoclnfnceaaDoor
open Go.RowKit

/-- an instruction's value -/
def insV (x : Cod.In) : Value := .agg #[.int .u8 (x.1.toNat : Int), .int .u8 (x.2.toNat : Int)]
/-- a program's value -/
structure Pv where
  a : Option Addr
  n : Nat
  c : Nat
  b : Option Addr
  m : Nat
  d : Nat
def Pv.v (x : Pv) : Value := .agg #[.slice x.a x.n x.c, .slice x.b x.m x.d]
def Pv.nil : Pv := ⟨none, 0, 0, none, 0, 0⟩
/-- a row of instructions in a slice -/
def InsAt (b : Option Addr) (m : Nat) (l : List Cod.In) (w : World) : Prop := l.length = m ∧ ∀ j, j < m → ∃ B off, b = some ⟨B, off, none⟩ ∧ w.cell? ⟨B, off + j * 2, none⟩ = some (.int .u8 ((l.getD j (0, 0)).1.toNat : Int)) ∧ w.cell? ⟨B, off + j * 2 + 1, none⟩ = some (.int .u8 ((l.getD j (0, 0)).2.toNat : Int))
theorem InsAt.keep {a : Option Addr} {len : Nat} {l : List Cod.In} {w w' : World} (h : InsAt a len l w) (hb : Below w.heap.size w w') : InsAt a len l w' :=
  ⟨h.1, fun j hj => by
    obtain ⟨b, off, h1, h2, h3⟩ := h.2 j hj
    have hlt : b < w.heap.size := cell_lt h2
    have e : w'.heap[b]? = w.heap[b]? := hb.block b hlt
    exact ⟨b, off, h1, by rw [World.cell?_of_block e]; exact h2, by rw [World.cell?_of_block e]; exact h3⟩⟩
theorem InsAt.nil (a : Option Addr) (w : World) : InsAt a 0 [] w := ⟨rfl, fun j hj => by omega⟩
/-- the program of a value: its texts, its instructions -/
structure PrAt (x : Pv) (ts : List ByteArray) (cs : List Cod.In) (w : World) : Prop where
  t : Strs x.a x.n ts w
  i : InsAt x.b x.m cs w
  zt : x.a = none → x.c = 0
  zi : x.b = none → x.d = 0
theorem PrAt.keep {x : Pv} {ts : List ByteArray} {cs : List Cod.In} {w w' : World} (h : PrAt x ts cs w) (hb : Below w.heap.size w w') : PrAt x ts cs w' := ⟨h.t.keep hb, h.i.keep hb, h.zt, h.zi⟩
theorem PrAt.nil (w : World) : PrAt .nil [] [] w := ⟨Strs.nil _ _, InsAt.nil _ _, fun _ => rfl, fun _ => rfl⟩
/-- as plain mathematics has it -/
def prog (ts : List ByteArray) (cs : List Cod.In) : Cod.Pr := ⟨lists ts, cs⟩
theorem PrAt.n {x : Pv} {ts : List ByteArray} {cs : List Cod.In} {w : World} (h : PrAt x ts cs w) : ts.length = x.n := h.t.1
theorem PrAt.m {x : Pv} {ts : List ByteArray} {cs : List Cod.In} {w : World} (h : PrAt x ts cs w) : cs.length = x.m := h.i.1
/-- blocks are turned that hold neither texts nor bytes -/
theorem PrAt.past {x : Pv} {ts : List ByteArray} {cs : List Cod.In} {w w' : World} (h : PrAt x ts cs w) (S : Nat → Prop) (hk : ∀ b, b < w.heap.size → ¬ S b → w'.heap[b]? = w.heap[b]?)
    (hS : ∀ b, S b → ∀ o, (∀ s, w.cell? ⟨b, o, none⟩ ≠ some (.string s)) ∧ ∀ n, w.cell? ⟨b, o, none⟩ ≠ some (.int .u8 n)) : PrAt x ts cs w' := by
  refine ⟨⟨h.t.1, fun j hj => ?_⟩, ⟨h.i.1, fun j hj => ?_⟩, h.zt, h.zi⟩
  · obtain ⟨b, off, e, hc⟩ := h.t.2 j hj
    have hb := hk b (cell_lt hc) (fun c => (hS b c _).1 _ hc)
    exact ⟨b, off, e, by rw [World.cell?_of_block hb]; exact hc⟩
  · obtain ⟨b, off, e, h1, h2⟩ := h.i.2 j hj
    have hb := hk b (cell_lt h1) (fun c => (hS b c _).2 _ h1)
    exact ⟨b, off, e, by rw [World.cell?_of_block hb]; exact h1, by rw [World.cell?_of_block hb]; exact h2⟩
theorem obj_below (w : World) (b : Obj) : Below w.heap.size w (w.alloc b) := (Below.refl w.heap.size w).alloc (Nat.le_refl _) b
theorem set_two {w : World} {b : Nat} {x y x' y' : Value} {T : TypeId} (h : w.heap[b]? = some (.cells #[x, y] T (0, 0))) : ((w.setCell ⟨b, 0, none⟩ x').setCell ⟨b, 1, none⟩ y').heap[b]? = some (.cells #[x', y'] T (0, 0)) := by
  rw [heap_setCell_same _ b 1 _ _ y' (heap_setCell_same w b 0 _ _ x' h)]
  rfl
theorem slices_only {w : World} {b : Nat} {x y : Value} {T : TypeId} (h : w.heap[b]? = some (.cells #[x, y] T (0, 0))) (hx : ∃ a n c, x = .slice a n c) (hy : ∃ a n c, y = .slice a n c) (o : Nat) :
    (∀ s, w.cell? ⟨b, o, none⟩ ≠ some (.string s)) ∧ ∀ n, w.cell? ⟨b, o, none⟩ ≠ some (.int .u8 n) := by
  obtain ⟨a1, n1, c1, rfl⟩ := hx
  obtain ⟨a2, n2, c2, rfl⟩ := hy
  rw [cell_of_row _ _ o _ _ _ h]
  match o with
  | 0 => exact ⟨fun s e => by simp at e, fun n e => by simp at e⟩
  | 1 => exact ⟨fun s e => by simp at e, fun n e => by simp at e⟩
  | o + 2 => exact ⟨fun s e => by simp at e, fun n e => by simp at e⟩
theorem errno_only {w : World} {b : Nat} {n : Int} {T : TypeId} (h : w.heap[b]? = some (.cells #[.int .i64 n] T (0, 0))) (o : Nat) :
    (∀ s, w.cell? ⟨b, o, none⟩ ≠ some (.string s)) ∧ ∀ n, w.cell? ⟨b, o, none⟩ ≠ some (.int .u8 n) := by
  rw [cell_of_row _ _ o _ _ _ h]
  match o with
  | 0 => exact ⟨fun s e => by simp at e, fun n e => by simp at e⟩
  | o + 1 => exact ⟨fun s e => by simp at e, fun n e => by simp at e⟩
theorem set_other {w : World} {b c o : Nat} {v : Value} {X : Obj} (h : w.heap[c]? = some X) (hne : c ≠ b) : (w.setCell ⟨b, o, none⟩ v).heap[c]? = some X := grown_row h (grown_set w b o v) hne
theorem set_self {w : World} {b : Nat} {x x' : Value} {T : TypeId} (h : w.heap[b]? = some (.cells #[x] T (0, 0))) : (w.setCell ⟨b, 0, none⟩ x').heap[b]? = some (.cells #[x'] T (0, 0)) := by
  rw [heap_setCell_same w b 0 _ _ x' h]; rfl
end Go.Proofs.YtolldoclnfnceaaDoor
