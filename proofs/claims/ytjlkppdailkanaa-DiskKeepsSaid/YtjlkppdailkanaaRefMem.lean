/-
  How the document's disk lies in memory: its own cells, the row of its sectors, the row of its loose writes.
-/
import Derived.Test.YtjlkppdailkanaaDskMem
import Derived.Test.YtjlkppdailkanaaDskWrite
import Derived.Laws.OwnMore
set_option linter.unusedVariables false
namespace Go.Proofs.Ytjlkppdailkanaa
open Go.RowKit

def secv (s : List UInt8) : Value := .string ⟨s.toArray⟩
def secs (f : Nat → Dsk.Sec) (n : Nat) : List Value := (List.range n).map fun k => secv (f k)
def pcells (x : Nat × List UInt8) : List Value := [.int .i64 (x.1 : Int), secv x.2]
def puts (L : List (Nat × List UInt8)) : List Value := L.flatMap pcells
theorem secs_length (f : Nat → Dsk.Sec) (n : Nat) : (secs f n).length = n := by simp [secs]
theorem secs_get (f : Nat → Dsk.Sec) {n k : Nat} (h : k < n) : (secs f n)[k]? = some (secv (f k)) := by simp [secs, h]
theorem secs_snoc (f : Nat → Dsk.Sec) (n : Nat) : secs f (n + 1) = secs f n ++ [secv (f n)] := by simp [secs, List.range_succ]
theorem secs_set (f : Nat → Dsk.Sec) (n k : Nat) (s : Dsk.Sec) : (secs f n).set k (secv s) = secs (Dsk.upd f k s) n := by
  apply List.ext_getElem?
  intro j
  rw [List.getElem?_set]
  by_cases hj : j < n
  · rw [secs_get _ hj, secs_get _ hj]
    by_cases e : k = j
    · subst e; rw [if_pos rfl, secs_length, if_pos hj, Dsk.upd_same]
    · rw [if_neg e, Dsk.upd_other (fun h => e h.symm)]
  · rw [List.getElem?_eq_none (by rw [secs_length]; omega), List.getElem?_eq_none (by rw [secs_length]; omega)]
    split
    · split
      · rename_i h; rw [secs_length] at h; omega
      · rfl
    · rfl
theorem secs_one (f : Nat → Dsk.Sec) (n : Nat) : ∀ u ∈ secs f n, u.oneCell' = true := by
  intro u hu
  obtain ⟨k, _, rfl⟩ := List.mem_map.1 hu
  rfl
theorem puts_length (L : List (Nat × List UInt8)) : (puts L).length = L.length * 2 := by
  induction L with
  | nil => rfl
  | cons x r ih =>
    have : puts (x :: r) = pcells x ++ puts r := by simp [puts]
    rw [this, List.length_append, ih]; simp [pcells]; omega
theorem puts_snoc (L : List (Nat × List UInt8)) (x : Nat × List UInt8) : puts (L ++ [x]) = puts L ++ pcells x := by simp [puts]
theorem puts_one (L : List (Nat × List UInt8)) : ∀ u ∈ puts L, u.oneCell' = true := by
  intro u hu
  obtain ⟨x, _, hx⟩ := List.mem_flatMap.1 hu
  simp only [pcells, List.mem_cons, List.not_mem_nil, or_false] at hx
  rcases hx with rfl | rfl <;> rfl
theorem puts_get {L : List (Nat × List UInt8)} {i : Nat} {x : Nat × List UInt8} (h : L[i]? = some x) : (puts L)[2 * i]? = some (.int .i64 (x.1 : Int)) ∧ (puts L)[2 * i + 1]? = some (secv x.2) := by
  induction L generalizing i with
  | nil => simp at h
  | cons y r ih =>
    have e : puts (y :: r) = pcells y ++ puts r := by simp [puts]
    rw [e]
    cases i with
    | zero => simp at h; subst h; exact ⟨rfl, rfl⟩
    | succ i =>
      have := ih (i := i) (by simpa using h)
      rw [show 2 * (i + 1) = 2 * i + 2 by omega]
      simpa [pcells] using this

def rcells (d : Dsk.St) (vB vL : Value) : Array Value := #[vB, vL, .int .i64 (max d.fuse (-1)), .bool d.down]

/-- block q, and the other blocks of S, are the document's disk -/
structure RefIn (S : Nat → Prop) (q : Nat) (d : Dsk.St) (w : World) (vB vL : Value) : Prop where
  hq : S q
  hB : ∀ k, vB.ownBlock = some k → S k
  hL : ∀ k, vL.ownBlock = some k → S k
  lt : ∀ k, S k → k < w.heap.size
  row : w.heap[q]? = some (.cells (rcells d vB vL) 59 (0, 0))
  rB : w.ownsRow 0 9 1 vB d.n (secs d.fl d.n)
  rL : w.ownsRow 0 73 2 vL d.L.length (puts d.L)
  cnt : d.L.length ≤ d.ops
  ok : d.Ok

def RefAt (S : Nat → Prop) (q : Nat) (d : Dsk.St) (w : World) : Prop := ∃ vB vL, RefIn S q d w vB vL

theorem RefIn.keeps {S T : Nat → Prop} {q : Nat} {d : Dsk.St} {w w' : World} {vB vL : Value} (h : RefIn S q d w vB vL) (ht : Turns T w w') (hST : ∀ k, S k → ¬ T k) : RefIn S q d w' vB vL :=
  { h with
    lt := fun k hk => Nat.lt_of_lt_of_le (h.lt k hk) ht.size
    row := ht.same h.row (hST _ h.hq)
    rB := ownsRow_same h.rB (fun g hg => ht.block _ (h.lt _ (h.hB g hg)) (hST _ (h.hB g hg)))
    rL := ownsRow_same h.rL (fun g hg => ht.block _ (h.lt _ (h.hL g hg)) (hST _ (h.hL g hg))) }
theorem RefAt.keeps {S T : Nat → Prop} {q : Nat} {d : Dsk.St} {w w' : World} (h : RefAt S q d w) (ht : Turns T w w') (hST : ∀ k, S k → ¬ T k) : RefAt S q d w' := by
  obtain ⟨vB, vL, h⟩ := h
  exact ⟨vB, vL, h.keeps ht hST⟩
theorem RefAt.new {S : Nat → Prop} {q : Nat} {d : Dsk.St} {w w' : World} (h : RefAt S q d w) (hb : Below w.heap.size w w') : RefAt S q d w' :=
  h.keeps (Turns.of_new hb (fun _ => False)) (fun _ _ => id)
theorem RefIn.new {S : Nat → Prop} {q : Nat} {d : Dsk.St} {w w' : World} {vB vL : Value} (h : RefIn S q d w vB vL) (hb : Below w.heap.size w w') : RefIn S q d w' vB vL :=
  h.keeps (Turns.of_new hb (fun _ => False)) (fun _ _ => id)
theorem RefAt.lt {S : Nat → Prop} {q : Nat} {d : Dsk.St} {w : World} (h : RefAt S q d w) : ∀ k, S k → k < w.heap.size := by
  obtain ⟨vB, vL, h⟩ := h; exact h.lt
theorem RefAt.ok {S : Nat → Prop} {q : Nat} {d : Dsk.St} {w : World} (h : RefAt S q d w) : d.Ok := by
  obtain ⟨vB, vL, h⟩ := h; exact h.ok
theorem RefAt.hq {S : Nat → Prop} {q : Nat} {d : Dsk.St} {w : World} (h : RefAt S q d w) : S q := by
  obtain ⟨vB, vL, h⟩ := h; exact h.hq
theorem RefAt.cnt {S : Nat → Prop} {q : Nat} {d : Dsk.St} {w : World} (h : RefAt S q d w) : d.L.length ≤ d.ops := by
  obtain ⟨vB, vL, h⟩ := h; exact h.cnt

variable {S : Nat → Prop} {q : Nat} {d : Dsk.St} {w : World} {vB vL : Value}
theorem RefIn.qB (h : RefIn S q d w vB vL) : vB.ownBlock ≠ some q := fun e => by
  obtain ⟨cur, hb⟩ := ownsRow_block h.rB e
  have := h.row; rw [hb] at this; cases this
theorem RefIn.qL (h : RefIn S q d w vB vL) : vL.ownBlock ≠ some q := fun e => by
  obtain ⟨cur, hb⟩ := ownsRow_block h.rL e
  have := h.row; rw [hb] at this; cases this
theorem RefIn.bl (h : RefIn S q d w vB vL) : ∀ g, vB.ownBlock = some g → vL.ownBlock ≠ some g := fun g e e2 => by
  obtain ⟨cur, hb⟩ := ownsRow_block h.rL e2
  obtain ⟨cur2, hb2⟩ := ownsRow_block h.rB e
  rw [hb] at hb2; cases hb2
theorem RefIn.c0 (h : RefIn S q d w vB vL) : w.cell? ⟨q, 0, none⟩ = some vB := by rw [cell_of_row w q 0 _ _ _ h.row]; rfl
theorem RefIn.c1 (h : RefIn S q d w vB vL) : w.cell? ⟨q, 1, none⟩ = some vL := by rw [cell_of_row w q 1 _ _ _ h.row]; rfl
theorem RefIn.c2 (h : RefIn S q d w vB vL) : w.cell? ⟨q, 2, none⟩ = some (.int .i64 (max d.fuse (-1))) := by rw [cell_of_row w q 2 _ _ _ h.row]; rfl
theorem RefIn.c3 (h : RefIn S q d w vB vL) : w.cell? ⟨q, 3, none⟩ = some (.bool d.down) := by rw [cell_of_row w q 3 _ _ _ h.row]; rfl
theorem RefIn.free (h : RefIn S q d w vB vL) (j : Nat) : w.frozen? ⟨q, j, none⟩ = false := row_free h.row j
theorem RefIn.formB (h : RefIn S q d w vB vL) : ∃ g cap, vB = .slice (some ⟨g, 0, none⟩) d.n cap := by
  obtain ⟨h1, h2⟩ := h.rB
  have := h.ok.lo
  rcases h2 with ⟨rfl, h0⟩ | ⟨g, cap, cur, rfl, _⟩
  · omega
  · exact ⟨g, cap, rfl⟩
theorem RefIn.formL (h : RefIn S q d w vB vL) : (d.L = [] ∧ vL = .slice none 0 0) ∨ ∃ g cap, vL = .slice (some ⟨g, 0, none⟩) d.L.length cap ∧ d.L.length ≤ cap := by
  obtain ⟨h1, h2⟩ := h.rL
  rcases h2 with ⟨rfl, h0⟩ | ⟨g, cap, cur, rfl, hb, hg, hn, hm, hc, ht⟩
  · exact .inl ⟨List.eq_nil_of_length_eq_zero h0, rfl⟩
  · exact .inr ⟨g, cap, rfl, hn⟩
theorem add_at (g j : Nat) : (⟨g, 0, none⟩ : Addr).add j = ⟨g, j, none⟩ := by unfold Addr.add; split <;> simp_all
theorem ownsRow_cell {e : TypeId} {size n g cap base : Nat} {xs : List Value} (h : w.ownsRow base e size (.slice (some ⟨g, 0, none⟩) n cap) n xs) {j : Nat} {u : Value} (hu : xs[j]? = some u) : w.cell? ⟨g, j, none⟩ = some u := by
  have := World.ownsRow.cells h rfl j u hu
  rwa [add_at] at this
/-- two cells have turned: how much of the fuse is left, whether it stands still -/
theorem RefIn.turn (h : RefIn S q d w vB vL) {w' : World} (ht : Turns (fun k => k = q) w w') (f : Int) (b : Bool) (hf : -9223372036854775808 ≤ f ∧ f ≤ 9223372036854775807)
    (hr : w'.heap[q]? = some (.cells (rcells { d with fuse := f, down := b } vB vL) 59 (0, 0))) : RefIn S q { d with fuse := f, down := b } w' vB vL :=
  { hq := h.hq, hB := h.hB, hL := h.hL, cnt := h.cnt
    ok := ⟨h.ok.lo, h.ok.hi, h.ok.fl, h.ok.at_, h.ok.sz, hf⟩
    lt := fun k hk => Nat.lt_of_lt_of_le (h.lt k hk) ht.size
    row := hr
    rB := ownsRow_same h.rB (fun g hg => ht.block _ (h.lt _ (h.hB g hg)) (fun e => h.qB (by rw [hg, e])))
    rL := ownsRow_same h.rL (fun g hg => ht.block _ (h.lt _ (h.hL g hg)) (fun e => h.qL (by rw [hg, e]))) }
end Go.Proofs.Ytjlkppdailkanaa
