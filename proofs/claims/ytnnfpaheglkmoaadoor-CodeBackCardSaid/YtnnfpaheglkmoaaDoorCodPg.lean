/-
  The reader's prog: what lies in memory while it reads.
-/
import Derived.Test.YtnnfpaheglkmoaaDoorCodTake
import Derived.Test.YtnnfpaheglkmoaaDoorCodRow
import Derived.Test.YtnnfpaheglkmoaaDoorCodMay
import Derived.Test.YtnnfpaheglkmoaaDoorGoPan
import Derived.Test.YtnnfpaheglkmoaaDoorGoPh2
import Derived.Test.YtnnfpaheglkmoaaDoorGoClone
set_option linter.unusedVariables false
set_option maxRecDepth 100000
namespace Go.Proofs.YtnnfpaheglkmoaaDoor
open Go.RowKit

def one (b : UInt8) : ByteArray := ⟨[b].toArray⟩
def two (a b : UInt8) : ByteArray := ⟨[a, b].toArray⟩
theorem one_ix (b : UInt8) (u : World) : (Instr.index 9 (.string (one b)) (.int .i64 0)).run Tryd.prog u = .ok (.int .u8 (b.toNat : Int)) u := by
  have := text_index (one b) 0 (by simp [one, ByteArray.size]) u
  simpa [one] using this
theorem two_ix0 (a b : UInt8) (u : World) : (Instr.index 9 (.string (two a b)) (.int .i64 0)).run Tryd.prog u = .ok (.int .u8 (a.toNat : Int)) u := by
  have := text_index (two a b) 0 (by simp [two, ByteArray.size]) u
  simpa [two] using this
theorem two_ix1 (a b : UInt8) (u : World) : (Instr.index 9 (.string (two a b)) (.int .i64 1)).run Tryd.prog u = .ok (.int .u8 (b.toNat : Int)) u := by
  have := text_index (two a b) 1 (by simp [two, ByteArray.size]) u
  simpa [two] using this
theorem take_one1 {R : Nat} {b : UInt8} {l : List UInt8} {w : World} (h : RdAt R (b :: l) w) (hl : (b :: l).length ≤ 1099511627776) :
    Calls Tryd.prog 36 #[.pointer (some ⟨R, 0, none⟩), .int .i64 1] w fun e w' => e = .returned (.string (one b)) ∧ w' = w.setCell ⟨R, 0, none⟩ (.string ⟨l.toArray⟩) :=
  take_ok (k := 1) h (by simp) hl
theorem take_two {R : Nat} {a b : UInt8} {l : List UInt8} {w : World} (h : RdAt R (a :: b :: l) w) (hl : (a :: b :: l).length ≤ 1099511627776) :
    Calls Tryd.prog 36 #[.pointer (some ⟨R, 0, none⟩), .int .i64 2] w fun e w' => e = .returned (.string (two a b)) ∧ w' = w.setCell ⟨R, 0, none⟩ (.string ⟨l.toArray⟩) :=
  take_ok (k := 2) h (by simp) hl

structure PgI (w : World) (R : Nat) (rest : List UInt8) (v : Value) (ts : List ByteArray) (u : Value) (cs : List Cod.In) (W : World) : Prop where
  lt : R < w.heap.size
  rd : RdAt R rest W
  b : Below R w W
  a : W.heap[w.heap.size]? = some (.cells #[.slice none 0 0, .slice none 0 0] 25 (0, 0))
  p : W.heap[w.heap.size + 1]? = some (.cells #[v, u] 25 (0, 0))
  t : TOwn (w.heap.size + 2) v ts W
  c : XOwn (w.heap.size + 2) u cs W
  sz : w.heap.size + 2 ≤ W.heap.size
section
variable {w W : World} {R : Nat} {rest : List UInt8} {v u : Value} {ts : List ByteArray} {cs : List Cod.In}
theorem PgI.new {W' : World} (h : PgI w R rest v ts u cs W) (hb : Below W.heap.size W W') : PgI w R rest v ts u cs W' :=
  ⟨h.lt, h.rd.new hb, h.b.trans (hb.mono (by have := h.lt; have := h.sz; omega)), by rw [hb.block _ (row_lt h.a)]; exact h.a, by rw [hb.block _ (row_lt h.p)]; exact h.p, h.t.new hb, h.c.new hb, Nat.le_trans h.sz hb.size⟩
theorem PgI.take (h : PgI w R rest v ts u cs W) (m : List UInt8) : PgI w R m v ts u cs (W.setCell ⟨R, 0, none⟩ (.string ⟨m.toArray⟩)) := by
  have hg := grown_set W R 0 (.string ⟨m.toArray⟩)
  have hlt := h.lt
  refine ⟨hlt, h.rd.set m, below_grown h.b hg (by have := h.sz; omega) (Nat.le_refl _), grown_row h.a hg (by omega), grown_row h.p hg (by omega), h.t.turned hg (fun e => ?_), h.c.turned hg (fun e => ?_), by simpa [World.setCell] using h.sz⟩
  · have := (World.ownsRow.lt h.t R e).1; omega
  · have := (World.ownsRow.lt h.c R e).1; omega
theorem PgI.drew (h : PgI w R rest v ts u cs W) : PgI w R rest v ts u cs W.drew := h.new ((Below.refl _ _).drew)
theorem PgI.c0 (h : PgI w R rest v ts u cs W) : W.cell? ⟨w.heap.size + 1, 0, none⟩ = some v := by rw [cell_of_row _ _ 0 _ _ _ h.p]; rfl
theorem PgI.c1 (h : PgI w R rest v ts u cs W) : W.cell? ⟨w.heap.size + 1, 1, none⟩ = some u := by rw [cell_of_row _ _ 1 _ _ _ h.p]; rfl
theorem PgI.vp (h : PgI w R rest v ts u cs W) : v.ownBlock ≠ some (w.heap.size + 1) := fun e => by have := (World.ownsRow.lt h.t _ e).1; omega
theorem PgI.up (h : PgI w R rest v ts u cs W) : u.ownBlock ≠ some (w.heap.size + 1) := fun e => by have := (World.ownsRow.lt h.c _ e).1; omega
/-- behind an append of texts -/
theorem PgI.appT {W' : World} {v' : Value} {y : ByteArray} (h : PgI w R rest v ts u cs W) (ho : W'.ownsRow (w.heap.size + 2) 9 1 v' (ts.length + 1) (ts.map Value.string ++ [.string y])) (hg : W.grownBy W' v.ownBlock) :
    W'.heap[w.heap.size + 1]? = some (.cells #[v, u] 25 (0, 0)) ∧ PgI w R rest v' (ts ++ [y]) u cs (W'.setCell ⟨w.heap.size + 1, 0, none⟩ v') := by
  have hlt := h.lt
  have hne : ∀ k, k < w.heap.size + 2 → v.ownBlock ≠ some k := fun k hk e => by have := (World.ownsRow.lt h.t k e).1; omega
  have hb : ∀ k o, W.heap[k]? = some o → v.ownBlock ≠ some k → W'.heap[k]? = some o := fun k o hk hn => by rw [hg.block k (row_lt hk) (fun e => hn e.symm)]; exact hk
  have hp := hb _ _ h.p (hne _ (by omega))
  have ha := hb _ _ h.a (hne _ (by omega))
  have hr : RdAt R rest W' := hb _ _ h.rd (hne _ (by omega))
  have hc : XOwn (w.heap.size + 2) u cs W' := ownsRow_same h.c fun g hg' => by
    obtain ⟨cur, hcur⟩ := ownsRow_block h.c hg'
    rw [hcur]
    exact hb _ _ hcur (TOwn.off h.t (by decide) hcur)
  have hB : Below R w W' := h.b.trans ⟨hg.os, hg.tape, hg.output, hg.size, fun k hk => hg.block k (by have := h.sz; omega) (fun e => by have := (World.ownsRow.lt h.t k e.symm).1; omega)⟩
  have hs := grown_set W' (w.heap.size + 1) 0 v'
  have hT : TOwn (w.heap.size + 2) v' (ts ++ [y]) W' := by
    unfold TOwn
    rw [List.length_append, List.map_append]
    exact ho
  have hsz := Nat.le_trans h.sz hg.size
  refine ⟨hp, hlt, grown_row hr hs (by omega), below_grown hB hs (by omega) (by omega), grown_row ha hs (by omega), ?_, hT.turned hs (fun e => ?_), hc.turned hs (fun e => ?_), by simpa [World.setCell] using hsz⟩
  · rw [heap_setCell_same W' _ 0 _ _ _ hp]; rfl
  · have := (World.ownsRow.lt hT _ e).1; omega
  · have := (World.ownsRow.lt hc _ e).1; omega
/-- behind an append of instructions -/
theorem PgI.appC {W' : World} {u' : Value} {y : Cod.In} (h : PgI w R rest v ts u cs W) (ho : W'.ownsRow (w.heap.size + 2) 39 2 u' (cs.length + 1) (cs.flatMap insCells ++ insCells y)) (hg : W.grownBy W' u.ownBlock) :
    W'.heap[w.heap.size + 1]? = some (.cells #[v, u] 25 (0, 0)) ∧ PgI w R rest v ts u' (cs ++ [y]) (W'.setCell ⟨w.heap.size + 1, 1, none⟩ u') := by
  have hlt := h.lt
  have hne : ∀ k, k < w.heap.size + 2 → u.ownBlock ≠ some k := fun k hk e => by have := (World.ownsRow.lt h.c k e).1; omega
  have hb : ∀ k o, W.heap[k]? = some o → u.ownBlock ≠ some k → W'.heap[k]? = some o := fun k o hk hn => by rw [hg.block k (row_lt hk) (fun e => hn e.symm)]; exact hk
  have hp := hb _ _ h.p (hne _ (by omega))
  have ha := hb _ _ h.a (hne _ (by omega))
  have hr : RdAt R rest W' := hb _ _ h.rd (hne _ (by omega))
  have ht : TOwn (w.heap.size + 2) v ts W' := ownsRow_same h.t fun g hg' => by
    obtain ⟨cur, hcur⟩ := ownsRow_block h.t hg'
    rw [hcur]
    exact hb _ _ hcur (XOwn.off h.c (by decide) hcur)
  have hB : Below R w W' := h.b.trans ⟨hg.os, hg.tape, hg.output, hg.size, fun k hk => hg.block k (by have := h.sz; omega) (fun e => by have := (World.ownsRow.lt h.c k e.symm).1; omega)⟩
  have hs := grown_set W' (w.heap.size + 1) 1 u'
  have hC : XOwn (w.heap.size + 2) u' (cs ++ [y]) W' := by
    unfold XOwn
    rw [List.length_append, List.flatMap_append, List.flatMap_singleton]
    exact ho
  have hsz := Nat.le_trans h.sz hg.size
  refine ⟨hp, hlt, grown_row hr hs (by omega), below_grown hB hs (by omega) (by omega), grown_row ha hs (by omega), ?_, ht.turned hs (fun e => ?_), hC.turned hs (fun e => ?_), by simpa [World.setCell] using hsz⟩
  · rw [heap_setCell_same W' _ 1 _ _ _ hp]; rfl
  · have := (World.ownsRow.lt ht _ e).1; omega
  · have := (World.ownsRow.lt hC _ e).1; omega
/-- behind the store of the result -/
theorem PgI.res (h : PgI w R rest v ts u cs W) (x y : Value) :
    ((W.setCell ⟨w.heap.size, 0, none⟩ x).setCell ⟨w.heap.size, 1, none⟩ y).heap[w.heap.size]? = some (.cells #[x, y] 25 (0, 0)) ∧ RdAt R rest ((W.setCell ⟨w.heap.size, 0, none⟩ x).setCell ⟨w.heap.size, 1, none⟩ y) ∧
    TOwn (w.heap.size + 2) v ts ((W.setCell ⟨w.heap.size, 0, none⟩ x).setCell ⟨w.heap.size, 1, none⟩ y) ∧ XOwn (w.heap.size + 2) u cs ((W.setCell ⟨w.heap.size, 0, none⟩ x).setCell ⟨w.heap.size, 1, none⟩ y) ∧ Below R w ((W.setCell ⟨w.heap.size, 0, none⟩ x).setCell ⟨w.heap.size, 1, none⟩ y) := by
  have hlt := h.lt
  have hsz := h.sz
  have g1 := grown_set W w.heap.size 0 x
  have g2 := grown_set (W.setCell ⟨w.heap.size, 0, none⟩ x) w.heap.size 1 y
  have hg := grown_trans g1 g2
  have r1 := heap_setCell_same W w.heap.size 0 _ _ x h.a
  have hv : v.ownBlock ≠ some w.heap.size := fun e => by have := (World.ownsRow.lt h.t _ e).1; omega
  have hu : u.ownBlock ≠ some w.heap.size := fun e => by have := (World.ownsRow.lt h.c _ e).1; omega
  refine ⟨?_, grown_row h.rd hg (by omega), h.t.turned hg hv, h.c.turned hg hu, below_grown h.b hg (by omega) (by omega)⟩
  rw [heap_setCell_same _ w.heap.size 1 _ _ y r1]
  rfl
end
theorem store_slice {w : World} {t : TypeId} {b o : Nat} {x' : Value} {a : Option Addr} {n c : Nat} (hz : ∀ w, (sizeOf t).run Tryd.prog w = .ok 1 w) (h0 : w.cell? ⟨b, o, none⟩ = some x') (f0 : w.frozen? ⟨b, o, none⟩ = false) :
    (Instr.storeAt t (.pointer (some ⟨b, o, none⟩)) (.slice a n c)).run Tryd.prog w = .ok () (w.setCell ⟨b, o, none⟩ (.slice a n c)) := by
  simp [Instr.storeAt, go_sem, hz, h0, f0]
/-- what prog answers: a program, and what is left; or it gives up -/
def RdR (z : Option (Cod.Pr × List UInt8)) (R : Nat) (e : Ending) (w' : World) : Prop :=
  (z = none ∧ e = .panicked rdPanic) ∨ ∃ p rest x ts cs, z = some (p, rest) ∧ e = .returned x ∧ (∃ y : Pv, x = y.v ∧ PrAt y ts cs w') ∧ prog ts cs = p ∧ RdAt R rest w'
end Go.Proofs.YtnnfpaheglkmoaaDoor
