/-
  The state of a program that is verified, in memory: what was found, the kinds, a stack of blocks.
-/
import Derived.Test.YtolldoclnfnceaaDoorVerPush
import Derived.Test.YtolldoclnfnceaaDoorGoNew
import Derived.Test.YtolldoclnfnceaaDoorCodRow
import Derived.WalkSmall
set_option linter.unusedVariables false
set_option maxRecDepth 100000
namespace Go.Proofs.YtolldoclnfnceaaDoor
open Go.RowKit

-- rows of structs of some cells each
section
variable {α : Type} {c : Nat} {f : α → List Value}
theorem flat_len (hf : ∀ x, (f x).length = c) : ∀ l : List α, (l.flatMap f).length = l.length * c
  | [] => by simp
  | x :: l => by rw [List.flatMap_cons, List.length_append, hf, flat_len hf l, List.length_cons, Nat.succ_mul, Nat.add_comm]
theorem flat_last (hf : ∀ x, (f x).length = c) (l : List α) (x : α) (i : Nat) : ((l ++ [x]).flatMap f)[l.length * c + i]? = (f x)[i]? := by
  rw [List.flatMap_append, List.getElem?_append_right (by rw [flat_len hf]; omega), flat_len hf, show l.length * c + i - l.length * c = i by omega]
  simp
theorem flat_set (hf : ∀ x, (f x).length = c) (l : List α) (x y : α) (i : Nat) (u : Value) (hy : (f x).set i u = f y) : ((l ++ [x]).flatMap f).set (l.length * c + i) u = (l ++ [y]).flatMap f := by
  rw [List.flatMap_append, List.flatMap_append, List.set_append, if_neg (by rw [flat_len hf]; omega), flat_len hf, show l.length * c + i - l.length * c = i by omega]
  congr 1
  simp [hy]
end
theorem owns_cell {w : World} {B : Nat} {e : TypeId} {s b n cap : Nat} {xs : List Value} (h : w.ownsRow B e s (.slice (some ⟨b, 0, none⟩) n cap) n xs) {i : Nat} {u : Value} (hi : xs[i]? = some u) : w.cell? ⟨b, i, none⟩ = some u ∧ w.frozen? ⟨b, i, none⟩ = false := by
  obtain ⟨h1, h2⟩ := h
  rcases h2 with ⟨h0, _⟩ | ⟨g, cap', cur, hv, hg, hh, hn, hcap, hsz, ht⟩
  · cases h0
  · cases hv
    refine ⟨?_, frozen_of_row w b i cur e hh⟩
    rw [cell_of_row _ _ i _ _ _ hh]
    rw [← ht, List.getElem?_take] at hi
    split at hi
    · simpa using hi
    · cases hi
theorem owns_set {w : World} {B : Nat} {e : TypeId} {s b n cap : Nat} {xs : List Value} (h : w.ownsRow B e s (.slice (some ⟨b, 0, none⟩) n cap) n xs) {i : Nat} (hi : i < n * s) (u : Value) : (w.setCell ⟨b, i, none⟩ u).ownsRow B e s (.slice (some ⟨b, 0, none⟩) n cap) n (xs.set i u) := by
  obtain ⟨h1, h2⟩ := h
  rcases h2 with ⟨h0, _⟩ | ⟨g, cap', cur, hv, hg, hh, hn, hcap, hsz, ht⟩
  · cases h0
  · cases hv
    refine ⟨by rw [List.length_set]; exact h1, .inr ⟨b, cap, cur.setIfInBounds i u, rfl, hg, heap_setCell_same w b i cur e u hh, hn, hcap, by rw [Array.size_setIfInBounds]; exact hsz, ?_⟩⟩
    rw [← ht, Array.toList_setIfInBounds, List.take_set]
theorem owns_pop {w : World} {B : Nat} {e : TypeId} {s b n cap : Nat} {xs last : List Value} (hx : xs.length = n * s) (h : w.ownsRow B e s (.slice (some ⟨b, 0, none⟩) (n + 1) cap) (n + 1) (xs ++ last)) : w.ownsRow B e s (.slice (some ⟨b, 0, none⟩) n cap) n xs := ownsRow_pop hx h

/-- a block's value, its cells -/
def pbV (b : Ver.PB) : Value := .agg #[.int .u8 (b.op : Int), .int .i64 (b.at_ : Int), .string (Ver.kb b.opn), .string (Ver.kb b.want)]
def pbCells (b : Ver.PB) : List Value := [.int .u8 (b.op : Int), .int .i64 (b.at_ : Int), .string (Ver.kb b.opn), .string (Ver.kb b.want)]
/-- a stack of blocks of the call's own -/
def BOwn (B : Nat) (v : Value) (l : List Ver.PB) (w : World) : Prop := w.ownsRow B 81 4 v l.length (l.flatMap pbCells)
theorem pbCells_len (b : Ver.PB) : (pbCells b).length = 4 := rfl
section
variable {B : Nat} {v : Value} {l : List Ver.PB} {w w' : World}
theorem BOwn.nil (B : Nat) (w : World) : BOwn B (.slice none 0 0) [] w := World.ownsRow_nil _ _ _ _
theorem BOwn.new (h : BOwn B v l w) (hb : Below w.heap.size w w') : BOwn B v l w' := ownsRow_new h hb
theorem BOwn.same (h : BOwn B v l w) (hk : ∀ g, v.ownBlock = some g → w'.heap[g]? = w.heap[g]?) : BOwn B v l w' := ownsRow_same h hk
theorem BOwn.off {b : Nat} (h : BOwn B v l w) {cs : Array Value} {T : TypeId} (hT : T ≠ 81) (hr : w.heap[b]? = some (.cells cs T (0, 0))) : v.ownBlock ≠ some b := fun e => by
  obtain ⟨cur, hcur⟩ := ownsRow_block h e
  rw [hr] at hcur
  simp only [Option.some.injEq, Obj.cells.injEq] at hcur
  exact hT hcur.2.1
theorem BOwn.form (h : BOwn B v l w) : ∃ a cap, v = .slice a l.length cap := by
  rcases h.2 with ⟨rfl, h0⟩ | ⟨g, cap, _, hv, _⟩
  · exact ⟨none, 0, by rw [h0]⟩
  · exact ⟨_, cap, hv⟩
/-- one that is not empty: where its row lies -/
theorem BOwn.some_ {x : Ver.PB} (h : BOwn B v (l ++ [x]) w) : ∃ b cap, v = .slice (some ⟨b, 0, none⟩) (l.length + 1) cap ∧ B ≤ b ∧ b < w.heap.size ∧ ∃ cs : Array Value, w.heap[b]? = some (.cells cs 81 (0, 0)) := by
  rcases h.2 with ⟨_, h0⟩ | ⟨g, cap, cur, hv, hg, hh, _⟩
  · simp at h0
  · exact ⟨g, cap, by rw [hv]; simp, hg, row_lt hh, cur, hh⟩
theorem BOwn.top {b cap : Nat} {x : Ver.PB} (h : BOwn B (.slice (some ⟨b, 0, none⟩) (l.length + 1) cap) (l ++ [x]) w) (i : Nat) (u : Value) (hu : (pbCells x)[i]? = some u) : w.cell? ⟨b, l.length * 4 + i, none⟩ = some u ∧ w.frozen? ⟨b, l.length * 4 + i, none⟩ = false := by
  have h' : w.ownsRow B 81 4 (.slice (some ⟨b, 0, none⟩) (l.length + 1) cap) (l.length + 1) ((l ++ [x]).flatMap pbCells) := by
    have := h
    unfold BOwn at this
    simpa using this
  exact owns_cell h' (by rw [flat_last pbCells_len]; exact hu)
theorem BOwn.setTop {b cap : Nat} {x y : Ver.PB} (h : BOwn B (.slice (some ⟨b, 0, none⟩) (l.length + 1) cap) (l ++ [x]) w) (i : Nat) (hi : i < 4) (u : Value) (hy : (pbCells x).set i u = pbCells y) : BOwn B (.slice (some ⟨b, 0, none⟩) (l.length + 1) cap) (l ++ [y]) (w.setCell ⟨b, l.length * 4 + i, none⟩ u) := by
  have h' : w.ownsRow B 81 4 (.slice (some ⟨b, 0, none⟩) (l.length + 1) cap) (l.length + 1) ((l ++ [x]).flatMap pbCells) := by
    have := h
    unfold BOwn at this
    simpa using this
  have := owns_set h' (i := l.length * 4 + i) (by omega) u
  rw [flat_set pbCells_len l x y i u hy] at this
  unfold BOwn
  simpa using this
theorem BOwn.pop {b cap : Nat} {x : Ver.PB} (h : BOwn B (.slice (some ⟨b, 0, none⟩) (l.length + 1) cap) (l ++ [x]) w) : BOwn B (.slice (some ⟨b, 0, none⟩) l.length cap) l w := by
  have h' : w.ownsRow B 81 4 (.slice (some ⟨b, 0, none⟩) (l.length + 1) cap) (l.length + 1) (l.flatMap pbCells ++ [x].flatMap pbCells) := by
    have := h
    unfold BOwn at this
    rw [List.flatMap_append] at this
    simpa using this
  exact owns_pop (flat_len pbCells_len l) h'
end
/-- a row of whole numbers -/
def vints (l : List Nat) : Array Value := (l.map fun (n : Nat) => Value.int .i64 (n : Int)).toArray
theorem vints_size (l : List Nat) : (vints l).size = l.length := by simp [vints]
theorem vints_get (l : List Nat) (j : Nat) (h : j < l.length) : (vints l)[j]? = some (.int .i64 ((l.getD j 0 : Nat) : Int)) := by simp [vints, List.getD_eq_getElem?_getD, h]
theorem vints_set (l : List Nat) (j x : Nat) : (vints l).setIfInBounds j (.int .i64 (x : Int)) = vints (l.set j x) := by
  apply Array.ext'
  simp [vints, List.map_set]
/-- the cells of the state -/
def stCells (bv : Value) (g n : Nat) (S : Ver.St) (role nt : Nat) (kv : Value) : Array Value :=
  #[bv, .slice (some ⟨g, 0, none⟩) n n, .int .i64 (S.deep : Int), .int .u8 (role : Int), .int .i64 (nt : Int), .string (Ver.kb S.k), kv]
/-- bounds -/
structure VP (n : Nat) (S : Ver.St) : Prop where
  at_ : ∀ b ∈ S.bl, b.at_ < n
  nk : S.k.length ≤ 16
  nb : S.bl.length ≤ 8
  op_ : ∀ b ∈ S.bl, b.op ≤ 23
  bk : ∀ b ∈ S.bl, b.opn.length ≤ 16
structure VAt (B q g n nt role : Nat) (bv kv : Value) (S : Ver.St) (w : World) : Prop where
  box : w.heap[q]? = some (.cells (stCells bv g n S role nt kv) 61 (0, 0))
  see : TOwn B bv (S.seen.map Ver.kb) w
  row : w.heap[g]? = some (.cells (vints S.ends) 3 (0, 0))
  len : S.ends.length = n
  blk : BOwn B kv (Ver.pbs S.bl) w
  bq : B ≤ q
  bg : B ≤ g
  ok : VP n S
/-- what a step may turn -/
def VT (q g : Nat) (kv : Value) (b : Nat) : Prop := b = q ∨ b = g ∨ kv.ownBlock = some b
section
variable {B q g n nt role : Nat} {bv kv : Value} {S : Ver.St} {w w' : World}
theorem VAt.new (h : VAt B q g n nt role bv kv S w) (hb : Below w.heap.size w w') : VAt B q g n nt role bv kv S w' :=
  ⟨row_below h.box hb (row_lt h.box), h.see.new hb, row_below h.row hb (row_lt h.row), h.len, h.blk.new hb, h.bq, h.bg, h.ok⟩
theorem VAt.drew (h : VAt B q g n nt role bv kv S w) : VAt B q g n nt role bv kv S w.drew := h.new ((Below.refl _ _).drew)
theorem VAt.c (h : VAt B q g n nt role bv kv S w) (i : Nat) : w.cell? ⟨q, i, none⟩ = (stCells bv g n S role nt kv)[i]? := cell_at h.box i
theorem VAt.f (h : VAt B q g n nt role bv kv S w) (i : Nat) : w.frozen? ⟨q, i, none⟩ = false := row_free h.box i
theorem VAt.ne (h : VAt B q g n nt role bv kv S w) : q ≠ g := fun e => by
  have := h.box
  rw [e, h.row] at this
  simp only [Option.some.injEq, Obj.cells.injEq] at this
  exact absurd this.2.1 (by decide)
theorem VAt.kq (h : VAt B q g n nt role bv kv S w) : kv.ownBlock ≠ some q := h.blk.off (by decide) h.box
theorem VAt.kg (h : VAt B q g n nt role bv kv S w) : kv.ownBlock ≠ some g := h.blk.off (by decide) h.row
theorem VAt.vq (h : VAt B q g n nt role bv kv S w) : bv.ownBlock ≠ some q := h.see.off (by decide) h.box
theorem VAt.vg (h : VAt B q g n nt role bv kv S w) : bv.ownBlock ≠ some g := h.see.off (by decide) h.row
theorem VAt.vk (h : VAt B q g n nt role bv kv S w) {b : Nat} (hb : kv.ownBlock = some b) : bv.ownBlock ≠ some b := by
  obtain ⟨cur, hcur⟩ := ownsRow_block h.blk hb
  exact h.see.off (by decide) hcur
/-- the innermost block -/
theorem VAt.inner (h : VAt B q g n nt role bv kv S w) {b : Ver.Blk} {l : List Ver.Blk} (hb : S.bl = b :: l) : ∃ bb cap, kv = .slice (some ⟨bb, 0, none⟩) (l.length + 1) cap ∧ B ≤ bb ∧
    BOwn B (.slice (some ⟨bb, 0, none⟩) ((Ver.pbs l).length + 1) cap) (Ver.pbs l ++ [b.pb]) w ∧ ∀ i u, (pbCells b.pb)[i]? = some u → w.cell? ⟨bb, l.length * 4 + i, none⟩ = some u ∧ w.frozen? ⟨bb, l.length * 4 + i, none⟩ = false := by
  have hk := h.blk
  rw [hb, Ver.pbs_cons] at hk
  obtain ⟨bb, cap, e, h1, _, _⟩ := hk.some_
  have ep : (Ver.pbs l).length = l.length := Ver.pbs_length l
  rw [e] at hk
  refine ⟨bb, cap, by rw [e, ep], h1, hk, fun i u hu => ?_⟩
  rw [← ep]
  exact hk.top i u hu
/-- other kinds -/
theorem VAt.setK (h : VAt B q g n nt role bv kv S w) (k : List UInt8) (hk : VP n { S with k := k }) : VAt B q g n nt role bv kv { S with k := k } (w.setCell ⟨q, 5, none⟩ (.string (Ver.kb k))) :=
  ⟨by rw [heap_setCell_same w q 5 _ _ _ h.box]; rfl, h.see.turned (grown_set w q 5 _) h.vq, set_other h.row (Ne.symm h.ne), h.len,
    h.blk.same (fun b hb => Below.heap_setCell _ _ _ _ (fun e => h.kq (by rw [hb]; simpa using e))), h.bq, h.bg, hk⟩
theorem VP.ends {n : Nat} {S : Ver.St} (h : VP n S) (e : List Nat) : VP n { S with ends := e } := ⟨h.at_, h.nk, h.nb, h.op_, h.bk⟩
theorem VAt.setE (h : VAt B q g n nt role bv kv S w) (j i : Nat) : VAt B q g n nt role bv kv { S with ends := S.ends.set j i } (w.setCell ⟨g, j, none⟩ (.int .i64 (i : Int))) :=
  ⟨set_other h.box h.ne, h.see.turned (grown_set w g j _) h.vg, by rw [heap_setCell_same w g j _ _ _ h.row, vints_set], by simp only [List.length_set]; exact h.len,
    h.blk.same (fun b hb => Below.heap_setCell _ _ _ _ (fun e => h.kg (by rw [hb]; simpa using e))), h.bq, h.bg, h.ok.ends _⟩
/-- another stack of blocks -/
theorem VAt.setB (h : VAt B q g n nt role bv kv S w) {kv' : Value} {bl : List Ver.Blk} (hb : BOwn B kv' (Ver.pbs bl) w) (hok : VP n { S with bl := bl }) : VAt B q g n nt role bv kv' { S with bl := bl } (w.setCell ⟨q, 6, none⟩ kv') :=
  ⟨by rw [heap_setCell_same w q 6 _ _ _ h.box]; rfl, h.see.turned (grown_set w q 6 _) h.vq, set_other h.row (Ne.symm h.ne), h.len,
    hb.same (fun b hh => Below.heap_setCell _ _ _ _ (fun e => hb.off (by decide) h.box (by rw [hh]; simpa using e))), h.bq, h.bg, hok⟩
/-- the innermost block is turned -/
theorem VAt.turnB (h : VAt B q g n nt role bv kv S w) {bl : List Ver.Blk} (hg : w.grownBy w' kv.ownBlock) (hb : BOwn B kv (Ver.pbs bl) w') (hok : VP n { S with bl := bl }) : VAt B q g n nt role bv kv { S with bl := bl } w' :=
  ⟨by rw [hg.block q (row_lt h.box) (Ne.symm h.kq)]; exact h.box, ownsRow_same h.see (fun b hh => hg.block b (World.ownsRow.lt h.see b hh).2 (fun e => h.vk e.symm hh)),
    by rw [hg.block g (row_lt h.row) (Ne.symm h.kg)]; exact h.row, h.len, hb, h.bq, h.bg, hok⟩
/-- the stack's row is appended to, or replaced, and put into the state -/
theorem VAt.appB {kv' : Value} (h : VAt B q g n nt role bv kv S w) {bl : List Ver.Blk} (hg : w.grownBy w' kv.ownBlock) (hb : BOwn B kv' (Ver.pbs bl) w') (hok : VP n { S with bl := bl }) :
    VAt B q g n nt role bv kv' { S with bl := bl } (w'.setCell ⟨q, 6, none⟩ kv') := by
  have hbox : w'.heap[q]? = some (.cells (stCells bv g n S role nt kv) 61 (0, 0)) := by rw [hg.block q (row_lt h.box) (Ne.symm h.kq)]; exact h.box
  have hrow : w'.heap[g]? = some (.cells (vints S.ends) 3 (0, 0)) := by rw [hg.block g (row_lt h.row) (Ne.symm h.kg)]; exact h.row
  have hsee : TOwn B bv (S.seen.map Ver.kb) w' := ownsRow_same h.see (fun b hh => hg.block b (World.ownsRow.lt h.see b hh).2 (fun e => h.vk e.symm hh))
  exact ⟨by rw [heap_setCell_same w' q 6 _ _ _ hbox]; rfl, hsee.turned (grown_set w' q 6 _) (hsee.off (by decide) hbox), set_other hrow (Ne.symm h.ne), h.len,
    hb.same (fun b hh => Below.heap_setCell _ _ _ _ (fun e => hb.off (by decide) hbox (by rw [hh]; simpa using e))), h.bq, h.bg, hok⟩
end
end Go.Proofs.YtolldoclnfnceaaDoor
