/-
  The document's log in memory, and its Room.
-/
import Derived.Test.YtjmpagbjkehebaaGreatWalMem
set_option linter.unusedVariables false
namespace Go.Proofs.YtjmpagbjkehebaaGreat
open Go.RowKit

def rlcells (s : Wal.St) (q : Nat) (v : Value) : Array Value := #[.pointer (some ⟨q, 0, none⟩), .int .i64 (s.from_ : Int), .int .i64 (s.n : Int), .int .u64 (s.gen : Int), v, .int .i64 (s.used : Int), .int .i64 s.err]
/-- block p, and the other blocks of R, are the document's log, on the document's disk at q -/
structure RwIn (R : Nat → Prop) (p q : Nat) (s : Wal.St) (w : World) (v : Value) : Prop where
  hp : R p
  row : w.heap[p]? = some (.cells (rlcells s q v) 120 (0, 0))
  rows : GRows R v s.L w
def RwAt (R : Nat → Prop) (p q : Nat) (s : Wal.St) (w : World) : Prop := ∃ v, RwIn R p q s w v
theorem RwIn.keeps {R T : Nat → Prop} {p q : Nat} {s : Wal.St} {w w' : World} {v : Value} (h : RwIn R p q s w v) (ht : Turns T w w') (hn : ∀ k, R k → ¬ T k) : RwIn R p q s w' v :=
  ⟨h.hp, ht.same h.row (hn _ h.hp), h.rows.keeps ht hn⟩
theorem RwAt.keeps {R T : Nat → Prop} {p q : Nat} {s : Wal.St} {w w' : World} (h : RwAt R p q s w) (ht : Turns T w w') (hn : ∀ k, R k → ¬ T k) : RwAt R p q s w' := by
  obtain ⟨v, h⟩ := h; exact ⟨v, h.keeps ht hn⟩
theorem RwAt.new {R : Nat → Prop} {p q : Nat} {s : Wal.St} {w w' : World} (h : RwAt R p q s w) (hb : Below w.heap.size w w') : RwAt R p q s w' :=
  h.keeps (Turns.of_new hb (fun _ => False)) (fun _ _ => id)
theorem RwAt.lt {R : Nat → Prop} {p q : Nat} {s : Wal.St} {w : World} (h : RwAt R p q s w) : ∀ k, R k → k < w.heap.size := by
  obtain ⟨v, h⟩ := h; exact h.rows.1
theorem RwAt.hp {R : Nat → Prop} {p q : Nat} {s : Wal.St} {w : World} (h : RwAt R p q s w) : R p := by obtain ⟨v, h⟩ := h; exact h.hp

variable {R : Nat → Prop} {p q : Nat} {s : Wal.St} {w : World} {v : Value}
theorem RwIn.c0 (h : RwIn R p q s w v) : w.cell? ⟨p, 0, none⟩ = some (.pointer (some ⟨q, 0, none⟩)) := by rw [cell_of_row w p 0 _ _ _ h.row]; rfl
theorem RwIn.c1 (h : RwIn R p q s w v) : w.cell? ⟨p, 1, none⟩ = some (.int .i64 (s.from_ : Int)) := by rw [cell_of_row w p 1 _ _ _ h.row]; rfl
theorem RwIn.c2 (h : RwIn R p q s w v) : w.cell? ⟨p, 2, none⟩ = some (.int .i64 (s.n : Int)) := by rw [cell_of_row w p 2 _ _ _ h.row]; rfl
theorem RwIn.c3 (h : RwIn R p q s w v) : w.cell? ⟨p, 3, none⟩ = some (.int .u64 (s.gen : Int)) := by rw [cell_of_row w p 3 _ _ _ h.row]; rfl
theorem RwIn.c4 (h : RwIn R p q s w v) : w.cell? ⟨p, 4, none⟩ = some v := by rw [cell_of_row w p 4 _ _ _ h.row]; rfl
theorem RwIn.c5 (h : RwIn R p q s w v) : w.cell? ⟨p, 5, none⟩ = some (.int .i64 (s.used : Int)) := by rw [cell_of_row w p 5 _ _ _ h.row]; rfl
theorem RwIn.c6 (h : RwIn R p q s w v) : w.cell? ⟨p, 6, none⟩ = some (.int .i64 s.err) := by rw [cell_of_row w p 6 _ _ _ h.row]; rfl
theorem RwIn.free (h : RwIn R p q s w v) (j : Nat) : w.frozen? ⟨p, j, none⟩ = false := row_free h.row j

theorem refRoom_any (h : RwAt R p q s w) {m : Nat} (hs : s.Ok m) : Calls Tryz.prog 75 #[.pointer (some ⟨p, 0, none⟩)] w fun e w' => e = .returned (.int .i64 ((s.n - 1 - s.used : Nat) : Int)) ∧ ∃ k, w' = w.drewN k := by
  obtain ⟨v, h⟩ := h
  have c1 := h.c2
  have c4 := h.c5
  have h1 := hs.used
  have h2 := hs.lo
  have h3 := hs.hi
  have h4 := hs.m
  have hr : ((s.n - 1 - s.used : Nat) : Int) = (s.n : Int) - 1 - (s.used : Int) := by omega
  rw [hr]
  clear h hs
  generalize s.n = n at *
  generalize s.used = u at *
  go_enter Tryz.func75, Tryz.ntmps75
  go_wp2
  go_quiet (fail)
  go_wp2
  go_ret
  exact ⟨rfl, _, rfl⟩
end Go.Proofs.YtjmpagbjkehebaaGreat
