/-
  How a log lies in memory: its own cells, the row of its groups, each group's texts.
-/
import Derived.Test.YtjmpagbjkehebaaWalPure
import Derived.Test.YtjmpagbjkehebaaOctAll
import Derived.Test.YtjmpagbjkehebaaGoAll
import Derived.Deep.Onto
set_option linter.unusedVariables false
set_option maxRecDepth 100000
namespace Go.Proofs.Ytjmpagbjkehebaa
open Go.RowKit

/-- lists of bytes as texts -/
def bas (l : List (List UInt8)) : List ByteArray := l.map fun b => ⟨b.toArray⟩
theorem lists_bas (l : List (List UInt8)) : lists (bas l) = l := by simp [lists, bas, Function.comp_def]
theorem bas_lists (l : List ByteArray) : bas (lists l) = l := lists_inj (lists_bas _)
theorem bas_length (l : List (List UInt8)) : (bas l).length = l.length := by simp [bas]

theorem Own.new {B : Nat} {v : Value} {l : List ByteArray} {w w' : World} (h : Own B v l w) (hb : Below w.heap.size w w') : Own B v l w' :=
  ownsRow_same h fun g hg => hb.block g (h.lt g hg).2
theorem Own.low {B C : Nat} {v : Value} {l : List ByteArray} {w : World} (h : Own B v l w) (hc : C ≤ B) : Own C v l w := World.ownsRow.mono h hc

/-- the texts of a group lie at u, in R -/
def GrpAt (R : Nat → Prop) (u : Value) (l : Wal.Grp) (w : World) : Prop := Own 0 u (bas l) w ∧ ∀ k, u.ownBlock = some k → R k
theorem GrpAt.keeps {R T : Nat → Prop} {u : Value} {l : Wal.Grp} {w w' : World} (h : GrpAt R u l w) (ht : Turns T w w') (hn : ∀ k, R k → ¬ T k) : GrpAt R u l w' :=
  ⟨ownsRow_same h.1 fun g hg => ht.block g (h.1.lt g hg).2 (hn g (h.2 g hg)), h.2⟩
theorem GrpAt.mono {R T : Nat → Prop} {u : Value} {l : Wal.Grp} {w : World} (h : GrpAt R u l w) (hn : ∀ k, R k → T k) : GrpAt T u l w := ⟨h.1, fun k hk => hn k (h.2 k hk)⟩
theorem GrpAt.strs {R : Nat → Prop} {u : Value} {l : Wal.Grp} {w : World} (h : GrpAt R u l w) : ∃ a cap, u = .slice a l.length cap ∧ Strs a l.length (bas l) w ∧ l.length ≤ cap ∧ cap ≤ maxLen := by
  rcases h.1.2 with ⟨hv, h0⟩ | ⟨g, cap, cur, hv, _, _, h1, h2, _⟩
  · obtain ⟨a, cap, hu, hs, _⟩ := h.1.strs
    rw [bas_length] at hu hs h0
    rw [hv] at hu
    injection hu with e1 e2 e3
    exact ⟨none, 0, by rw [hv, h0], by rw [h0] at hs ⊢; exact ⟨by rw [bas_length, h0], fun j hj => by omega⟩, by omega, by unfold maxLen; omega⟩
  · obtain ⟨a, cap', hu, hs, _⟩ := h.1.strs
    rw [bas_length] at hu hs h1 hv
    rw [hv] at hu
    injection hu with e1 e2 e3
    exact ⟨_, cap, hv, by rw [e1]; exact hs, h1, h2⟩

/-- the groups L lie at the values vs, in R -/
def Grps (R : Nat → Prop) (vs : List Value) (L : List Wal.Grp) (w : World) : Prop := vs.length = L.length ∧ ∀ (i : Nat) (l : Wal.Grp), L[i]? = some l → ∃ u, vs[i]? = some u ∧ GrpAt R u l w
theorem Grps.nil (R : Nat → Prop) (w : World) : Grps R [] [] w := ⟨rfl, fun i l h => by simp at h⟩
theorem Grps.keeps {R T : Nat → Prop} {vs : List Value} {L : List Wal.Grp} {w w' : World} (h : Grps R vs L w) (ht : Turns T w w') (hn : ∀ k, R k → ¬ T k) : Grps R vs L w' :=
  ⟨h.1, fun i l hl => by obtain ⟨u, h1, h2⟩ := h.2 i l hl; exact ⟨u, h1, h2.keeps ht hn⟩⟩
theorem Grps.mono {R T : Nat → Prop} {vs : List Value} {L : List Wal.Grp} {w : World} (h : Grps R vs L w) (hn : ∀ k, R k → T k) : Grps T vs L w :=
  ⟨h.1, fun i l hl => by obtain ⟨u, h1, h2⟩ := h.2 i l hl; exact ⟨u, h1, h2.mono hn⟩⟩
theorem Grps.snoc {R : Nat → Prop} {vs : List Value} {L : List Wal.Grp} {w : World} (h : Grps R vs L w) {u : Value} {l : Wal.Grp} (hu : GrpAt R u l w) : Grps R (vs ++ [u]) (L ++ [l]) w :=
  ⟨by simp [h.1], fun i x hx => by
    rcases Nat.lt_trichotomy i L.length with hi | rfl | hi
    · rw [List.getElem?_append_left hi] at hx
      obtain ⟨v, h1, h2⟩ := h.2 i x hx
      exact ⟨v, by rw [List.getElem?_append_left (by rw [h.1]; exact hi)]; exact h1, h2⟩
    · simp at hx; subst hx
      exact ⟨u, by rw [← h.1]; simp, hu⟩
    · rw [List.getElem?_eq_none (by simp; omega)] at hx; cases hx⟩

/-- a row of groups of the call's own: the row v, and its texts, lie in R -/
def GRows (R : Nat → Prop) (v : Value) (L : List Wal.Grp) (w : World) : Prop := (∀ k, R k → k < w.heap.size) ∧ ∃ vs, w.ownsRow 0 34 1 v L.length vs ∧ (∀ k, v.ownBlock = some k → R k) ∧ Grps R vs L w
theorem GRows.keeps {R T : Nat → Prop} {v : Value} {L : List Wal.Grp} {w w' : World} (h : GRows R v L w) (ht : Turns T w w') (hn : ∀ k, R k → ¬ T k) : GRows R v L w' := by
  obtain ⟨h0, vs, h1, h2, h3⟩ := h
  exact ⟨fun k hk => Nat.lt_of_lt_of_le (h0 k hk) ht.size, vs, ownsRow_same h1 fun g hg => ht.block g (h1.lt g hg).2 (hn g (h2 g hg)), h2, h3.keeps ht hn⟩
theorem GRows.new {R : Nat → Prop} {v : Value} {L : List Wal.Grp} {w w' : World} (h : GRows R v L w) (hb : Below w.heap.size w w') : GRows R v L w' :=
  h.keeps (Turns.of_new hb (fun _ => False)) (fun _ _ => id)
theorem GRows.grow {R T : Nat → Prop} {v : Value} {L : List Wal.Grp} {w : World} (h : GRows R v L w) (hT : ∀ k, R k → T k) (hl : ∀ k, T k → k < w.heap.size) : GRows T v L w := by
  obtain ⟨h0, vs, h1, h2, h3⟩ := h
  exact ⟨hl, vs, h1, fun k hk => hT k (h2 k hk), h3.mono hT⟩
theorem GRows.nil (R : Nat → Prop) (w : World) (h : ∀ k, R k → k < w.heap.size) : GRows R (.slice none 0 0) [] w :=
  ⟨h, [], World.ownsRow_nil _ _ _ _, fun k hk => by simp [Value.ownBlock] at hk, Grps.nil _ _⟩
theorem GRows.form {R : Nat → Prop} {v : Value} {L : List Wal.Grp} {w : World} (h : GRows R v L w) : ∃ a cap, v = .slice a L.length cap ∧ L.length ≤ cap ∧ cap ≤ maxLen ∧
    ∀ i l, L[i]? = some l → ∃ b u, a = some ⟨b, 0, none⟩ ∧ w.cell? ⟨b, i, none⟩ = some u ∧ GrpAt R u l w := by
  obtain ⟨h0, vs, h1, h2, h3⟩ := h
  rcases h1.2 with ⟨hv, hn⟩ | ⟨g, cap, cur, hv, _, hc, hl1, hl2, hs, ht⟩
  · exact ⟨none, 0, by rw [hv, hn], by omega, by unfold maxLen; omega, fun i l hl => by have := (List.getElem?_eq_some_iff.1 hl).1; omega⟩
  · refine ⟨some ⟨g, 0, none⟩, cap, hv, hl1, hl2, fun i l hl => ?_⟩
    obtain ⟨u, hu, hg⟩ := h3.2 i l hl
    refine ⟨g, u, rfl, ?_, hg⟩
    have := h1.cells (by rw [hv]; rfl) i u hu
    rwa [add_at] at this

def wlcells (s : Wal.St) (q : Nat) (v : Value) : Array Value := #[.int .u64 (s.gen : Int), .int .i64 (s.used : Int), .pointer (some ⟨q, 0, none⟩), .int .i64 (s.from_ : Int), .int .i64 (s.n : Int), v, .int .i64 s.err]
/-- block p, and the other blocks of R, are a log, on the disk at q -/
structure WalIn (R : Nat → Prop) (p q : Nat) (s : Wal.St) (w : World) (v : Value) : Prop where
  hp : R p
  row : w.heap[p]? = some (.cells (wlcells s q v) 57 (0, 0))
  rows : GRows R v s.L w
def WalAt (R : Nat → Prop) (p q : Nat) (s : Wal.St) (w : World) : Prop := ∃ v, WalIn R p q s w v
theorem WalIn.keeps {R T : Nat → Prop} {p q : Nat} {s : Wal.St} {w w' : World} {v : Value} (h : WalIn R p q s w v) (ht : Turns T w w') (hn : ∀ k, R k → ¬ T k) : WalIn R p q s w' v :=
  ⟨h.hp, ht.same h.row (hn _ h.hp), h.rows.keeps ht hn⟩
theorem WalAt.keeps {R T : Nat → Prop} {p q : Nat} {s : Wal.St} {w w' : World} (h : WalAt R p q s w) (ht : Turns T w w') (hn : ∀ k, R k → ¬ T k) : WalAt R p q s w' := by
  obtain ⟨v, h⟩ := h; exact ⟨v, h.keeps ht hn⟩
theorem WalAt.new {R : Nat → Prop} {p q : Nat} {s : Wal.St} {w w' : World} (h : WalAt R p q s w) (hb : Below w.heap.size w w') : WalAt R p q s w' :=
  h.keeps (Turns.of_new hb (fun _ => False)) (fun _ _ => id)
theorem WalAt.lt {R : Nat → Prop} {p q : Nat} {s : Wal.St} {w : World} (h : WalAt R p q s w) : ∀ k, R k → k < w.heap.size := by
  obtain ⟨v, h⟩ := h; exact h.rows.1
theorem WalAt.hp {R : Nat → Prop} {p q : Nat} {s : Wal.St} {w : World} (h : WalAt R p q s w) : R p := by obtain ⟨v, h⟩ := h; exact h.hp
theorem GRows.vp {R : Nat → Prop} {v : Value} {L : List Wal.Grp} {w : World} (h : GRows R v L w) {p : Nat} {cs : Array Value} {t : TypeId} (hr : w.heap[p]? = some (.cells cs t (0, 0))) (ht : t ≠ 34) : v.ownBlock ≠ some p := fun e => by
  obtain ⟨h0, vs, h1, h2, h3⟩ := h
  obtain ⟨cur, hb⟩ := ownsRow_block h1 e
  rw [hr] at hb
  simp only [Option.some.injEq, Obj.cells.injEq] at hb
  exact ht hb.2.1
theorem GrpAt.up {R : Nat → Prop} {u : Value} {l : Wal.Grp} {w : World} (h : GrpAt R u l w) {p : Nat} {cs : Array Value} {t : TypeId} (hr : w.heap[p]? = some (.cells cs t (0, 0))) (ht : t ≠ 9) : u.ownBlock ≠ some p := fun e => by
  obtain ⟨cur, hb⟩ := ownsRow_block h.1 e
  rw [hr] at hb
  simp only [Option.some.injEq, Obj.cells.injEq] at hb
  exact ht hb.2.1
/-- a block of another type has been turned -/
theorem GRows.beside {R : Nat → Prop} {v : Value} {L : List Wal.Grp} {w w' : World} (h : GRows R v L w) {p : Nat} {cs : Array Value} {t : TypeId} (hr : w.heap[p]? = some (.cells cs t (0, 0))) (ht : t ≠ 34) (ht2 : t ≠ 9) (hw : Turns (fun k => k = p) w w') : GRows R v L w' := by
  have hv := h.vp hr ht
  obtain ⟨h0, vs, h1, h2, h3⟩ := h
  refine ⟨fun k hk => Nat.lt_of_lt_of_le (h0 k hk) hw.size, vs, ownsRow_same h1 fun g hg => hw.block g (h1.lt g hg).2 (fun e => hv (by rw [hg, e])), h2, h3.1, fun i l hl => ?_⟩
  obtain ⟨u, hu, hg⟩ := h3.2 i l hl
  exact ⟨u, hu, ownsRow_same hg.1 fun g he => hw.block g (hg.1.lt g he).2 (fun e => hg.up hr ht2 (by rw [he, e])), hg.2⟩

variable {R : Nat → Prop} {p q : Nat} {s : Wal.St} {w : World} {v : Value}
theorem WalIn.c0 (h : WalIn R p q s w v) : w.cell? ⟨p, 0, none⟩ = some (.int .u64 (s.gen : Int)) := by rw [cell_of_row w p 0 _ _ _ h.row]; rfl
theorem WalIn.c1 (h : WalIn R p q s w v) : w.cell? ⟨p, 1, none⟩ = some (.int .i64 (s.used : Int)) := by rw [cell_of_row w p 1 _ _ _ h.row]; rfl
theorem WalIn.c2 (h : WalIn R p q s w v) : w.cell? ⟨p, 2, none⟩ = some (.pointer (some ⟨q, 0, none⟩)) := by rw [cell_of_row w p 2 _ _ _ h.row]; rfl
theorem WalIn.c3 (h : WalIn R p q s w v) : w.cell? ⟨p, 3, none⟩ = some (.int .i64 (s.from_ : Int)) := by rw [cell_of_row w p 3 _ _ _ h.row]; rfl
theorem WalIn.c4 (h : WalIn R p q s w v) : w.cell? ⟨p, 4, none⟩ = some (.int .i64 (s.n : Int)) := by rw [cell_of_row w p 4 _ _ _ h.row]; rfl
theorem WalIn.c5 (h : WalIn R p q s w v) : w.cell? ⟨p, 5, none⟩ = some v := by rw [cell_of_row w p 5 _ _ _ h.row]; rfl
theorem WalIn.c6 (h : WalIn R p q s w v) : w.cell? ⟨p, 6, none⟩ = some (.int .i64 s.err) := by rw [cell_of_row w p 6 _ _ _ h.row]; rfl
theorem WalIn.free (h : WalIn R p q s w v) (j : Nat) : w.frozen? ⟨p, j, none⟩ = false := row_free h.row j
end Go.Proofs.Ytjmpagbjkehebaa
