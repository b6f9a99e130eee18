/-
  How a disk lies in memory: its own cells, the map of what was flushed, the row of loose writes, the map of the last ones.
-/
import Derived.Test.YtjlkppdailkanaaGoTurns
import Derived.Test.YtjlkppdailkanaaDskPure
import Derived.Maps.OwnSet
import Derived.Test.YtjlkppdailkanaaRows
set_option linter.unusedVariables false
namespace Go.Proofs.Ytjlkppdailkanaa
open Go.RowKit

theorem u8s_inj {a b : List UInt8} (h : u8s a = u8s b) : a = b := by
  have h1 := congrArg Array.toList h
  simp only [u8s] at h1
  have : ∀ (a b : List UInt8), a.map (fun b : UInt8 => Value.int .u8 (b.toNat : Int)) = b.map (fun b : UInt8 => Value.int .u8 (b.toNat : Int)) → a = b := by
    intro a
    induction a with
    | nil => intro b h; cases b with | nil => rfl | cons y r => simp at h
    | cons x r ih =>
      intro b h
      cases b with
      | nil => simp at h
      | cons y t =>
        simp only [List.map_cons, List.cons.injEq, Value.int.injEq, true_and] at h
        rw [ih _ h.2, show x = y from UInt8.toNat_inj.1 (by omega)]
  exact this a b h1

open Classical in
/-- how the value of a sector reads -/
noncomputable def secElem (v : Value) : Option (DataW Unit × List MemPlace) :=
  if h : ∃ bs : List UInt8, bs.length = 64 ∧ v = .agg (u8s bs) then some (.lit (.string h.choose), []) else none
theorem secElem_mk {bs : List UInt8} (h : bs.length = 64) : secElem (.agg (u8s bs)) = some (.lit (.string bs), []) := by
  have he : ∃ cs : List UInt8, cs.length = 64 ∧ Value.agg (u8s bs) = .agg (u8s cs) := ⟨bs, h, rfl⟩
  unfold secElem
  rw [dif_pos he]
  have h2 := he.choose_spec.2
  rw [← u8s_inj (Value.agg.inj h2)]
theorem secElem_inv {v : Value} {d : DataW Unit} {ps : List MemPlace} {s : List UInt8} (h : secElem v = some (d, ps)) (hd : d = .lit (.string s)) : v = .agg (u8s s) ∧ s.length = 64 := by
  unfold secElem at h
  split at h
  · rename_i he
    have h2 := he.choose_spec
    simp only [Option.some.injEq, Prod.mk.injEq] at h
    rw [hd] at h
    have h3 : he.choose = s := by simpa using h.1
    rw [h3] at h2
    exact ⟨h2.2, h2.1⟩
  · cases h

/-- the cells of a loose write; of a row of them -/
def wcells (x : Nat × List UInt8) : List Value := .int .i64 (x.1 : Int) :: (u8s x.2).toList
def lcells (L : List (Nat × List UInt8)) : List Value := L.flatMap wcells
theorem wcells_length {x : Nat × List UInt8} (h : x.2.length = 64) : (wcells x).length = 65 := by simp [wcells, h]
theorem lcells_snoc (L : List (Nat × List UInt8)) (x : Nat × List UInt8) : lcells (L ++ [x]) = lcells L ++ wcells x := by simp [lcells]
theorem lcells_get {L : List (Nat × List UInt8)} (h : ∀ x ∈ L, x.2.length = 64) {i : Nat} {x : Nat × List UInt8} (hi : L[i]? = some x) : ∀ j u, (wcells x)[j]? = some u → (lcells L)[65 * i + j]? = some u := by
  induction L generalizing i with
  | nil => simp at hi
  | cons y r ih =>
    intro j u hu
    have hy := wcells_length (h y List.mem_cons_self)
    have e : lcells (y :: r) = wcells y ++ lcells r := by simp [lcells]
    rw [e]
    cases i with
    | zero =>
      simp at hi; subst hi
      rw [List.getElem?_append_left (by have := (List.getElem?_eq_some_iff.1 hu).1; omega)]
      simpa using hu
    | succ i =>
      rw [List.getElem?_append_right (by omega), hy, show 65 * (i + 1) + j - 65 = 65 * i + j by omega]
      exact ih (fun z hz => h z (List.mem_cons_of_mem _ hz)) (by simpa using hi) j u hu

def dcells (d : Dsk.St) (bF : Nat) (v : Value) (bM : Nat) : Array Value := #[.int .i64 (d.n : Int), .map (some bF), v, .map (some bM), .int .i64 d.fuse, .bool d.down]

/-- block p, and the other blocks of S, are a disk -/
structure DiskIn (S : Nat → Prop) (p : Nat) (d : Dsk.St) (w : World) (bF bM : Nat) (v : Value) (nf : Nat) (DF : DataW Unit) : Prop where
  hp : S p
  hF : S bF
  hM : S bM
  hv : ∀ k, v.ownBlock = some k → S k
  lt : ∀ k, S k → k < w.heap.size
  row : w.heap[p]? = some (.cells (dcells d bF v bM) 56 (0, 0))
  ne : bF ≠ bM
  mF : w.ownsMap Try.prog 3 secElem bF nf DF
  rF : Dsk.Reads DF d.fl
  mM : w.ownsMap Try.prog 3 (plainElem Try.prog 3) bM d.L.length (Dsk.lastD d.L)
  rL : w.ownsRow 0 66 65 v d.L.length (lcells d.L)
  cnt : nf + d.L.length ≤ d.ops
  ok : d.Ok

def DiskAt (S : Nat → Prop) (p : Nat) (d : Dsk.St) (w : World) : Prop := ∃ bF bM v nf DF, DiskIn S p d w bF bM v nf DF

theorem DiskIn.keeps {S T : Nat → Prop} {p : Nat} {d : Dsk.St} {w w' : World} {bF bM : Nat} {v : Value} {nf : Nat} {DF : DataW Unit} (h : DiskIn S p d w bF bM v nf DF) (ht : Turns T w w') (hST : ∀ k, S k → ¬ T k) : DiskIn S p d w' bF bM v nf DF :=
  { h with
    lt := fun k hk => Nat.lt_of_lt_of_le (h.lt k hk) ht.size
    row := ht.same h.row (hST _ h.hp)
    mF := ownsMap_same h.mF (ht.block _ (h.lt _ h.hF) (hST _ h.hF))
    mM := ownsMap_same h.mM (ht.block _ (h.lt _ h.hM) (hST _ h.hM))
    rL := ownsRow_same h.rL (fun g hg => ht.block _ (h.lt _ (h.hv g hg)) (hST _ (h.hv g hg))) }
theorem DiskAt.keeps {S T : Nat → Prop} {p : Nat} {d : Dsk.St} {w w' : World} (h : DiskAt S p d w) (ht : Turns T w w') (hST : ∀ k, S k → ¬ T k) : DiskAt S p d w' := by
  obtain ⟨bF, bM, v, nf, DF, h⟩ := h
  exact ⟨bF, bM, v, nf, DF, h.keeps ht hST⟩
theorem DiskAt.new {S : Nat → Prop} {p : Nat} {d : Dsk.St} {w w' : World} (h : DiskAt S p d w) (hb : Below w.heap.size w w') : DiskAt S p d w' :=
  h.keeps (Turns.of_new hb (fun _ => False)) (fun _ _ => id)
theorem DiskAt.lt {S : Nat → Prop} {p : Nat} {d : Dsk.St} {w : World} (h : DiskAt S p d w) : ∀ k, S k → k < w.heap.size := by
  obtain ⟨bF, bM, v, nf, DF, h⟩ := h; exact h.lt
theorem DiskAt.ok {S : Nat → Prop} {p : Nat} {d : Dsk.St} {w : World} (h : DiskAt S p d w) : d.Ok := by
  obtain ⟨bF, bM, v, nf, DF, h⟩ := h; exact h.ok
theorem DiskAt.hp {S : Nat → Prop} {p : Nat} {d : Dsk.St} {w : World} (h : DiskAt S p d w) : S p := by
  obtain ⟨bF, bM, v, nf, DF, h⟩ := h; exact h.hp
theorem DiskAt.cnt {S : Nat → Prop} {p : Nat} {d : Dsk.St} {w : World} (h : DiskAt S p d w) : d.L.length ≤ d.ops := by
  obtain ⟨bF, bM, v, nf, DF, h⟩ := h; have := h.cnt; omega
theorem DiskIn.pF {S : Nat → Prop} {p : Nat} {d : Dsk.St} {w : World} {bF bM : Nat} {v : Value} {nf : Nat} {DF : DataW Unit} (h : DiskIn S p d w bF bM v nf DF) : p ≠ bF := fun e => by
  obtain ⟨es, c, hb⟩ := ownsMap_obj h.mF
  have := h.row; rw [e, hb] at this; cases this
theorem DiskIn.pM {S : Nat → Prop} {p : Nat} {d : Dsk.St} {w : World} {bF bM : Nat} {v : Value} {nf : Nat} {DF : DataW Unit} (h : DiskIn S p d w bF bM v nf DF) : p ≠ bM := fun e => by
  obtain ⟨es, c, hb⟩ := ownsMap_obj h.mM
  have := h.row; rw [e, hb] at this; cases this
theorem DiskIn.vp {S : Nat → Prop} {p : Nat} {d : Dsk.St} {w : World} {bF bM : Nat} {v : Value} {nf : Nat} {DF : DataW Unit} (h : DiskIn S p d w bF bM v nf DF) : v.ownBlock ≠ some p := fun e => by
  obtain ⟨cur, hb⟩ := ownsRow_block h.rL e
  have := h.row; rw [hb] at this; cases this
theorem DiskIn.vF {S : Nat → Prop} {p : Nat} {d : Dsk.St} {w : World} {bF bM : Nat} {v : Value} {nf : Nat} {DF : DataW Unit} (h : DiskIn S p d w bF bM v nf DF) : v.ownBlock ≠ some bF := fun e => by
  obtain ⟨cur, hb⟩ := ownsRow_block h.rL e
  obtain ⟨es, c, hb2⟩ := ownsMap_obj h.mF
  rw [hb] at hb2; cases hb2
theorem DiskIn.vM {S : Nat → Prop} {p : Nat} {d : Dsk.St} {w : World} {bF bM : Nat} {v : Value} {nf : Nat} {DF : DataW Unit} (h : DiskIn S p d w bF bM v nf DF) : v.ownBlock ≠ some bM := fun e => by
  obtain ⟨cur, hb⟩ := ownsRow_block h.rL e
  obtain ⟨es, c, hb2⟩ := ownsMap_obj h.mM
  rw [hb] at hb2; cases hb2

variable {S : Nat → Prop} {p : Nat} {d : Dsk.St} {w : World} {bF bM : Nat} {v : Value} {nf : Nat} {DF : DataW Unit}
theorem DiskIn.c0 (h : DiskIn S p d w bF bM v nf DF) : w.cell? ⟨p, 0, none⟩ = some (.int .i64 (d.n : Int)) := by rw [cell_of_row w p 0 _ _ _ h.row]; rfl
theorem DiskIn.c1 (h : DiskIn S p d w bF bM v nf DF) : w.cell? ⟨p, 1, none⟩ = some (.map (some bF)) := by rw [cell_of_row w p 1 _ _ _ h.row]; rfl
theorem DiskIn.c2 (h : DiskIn S p d w bF bM v nf DF) : w.cell? ⟨p, 2, none⟩ = some v := by rw [cell_of_row w p 2 _ _ _ h.row]; rfl
theorem DiskIn.c3 (h : DiskIn S p d w bF bM v nf DF) : w.cell? ⟨p, 3, none⟩ = some (.map (some bM)) := by rw [cell_of_row w p 3 _ _ _ h.row]; rfl
theorem DiskIn.c4 (h : DiskIn S p d w bF bM v nf DF) : w.cell? ⟨p, 4, none⟩ = some (.int .i64 d.fuse) := by rw [cell_of_row w p 4 _ _ _ h.row]; rfl
theorem DiskIn.c5 (h : DiskIn S p d w bF bM v nf DF) : w.cell? ⟨p, 5, none⟩ = some (.bool d.down) := by rw [cell_of_row w p 5 _ _ _ h.row]; rfl
theorem DiskIn.free (h : DiskIn S p d w bF bM v nf DF) (j : Nat) : w.frozen? ⟨p, j, none⟩ = false := row_free h.row j
theorem DiskIn.vlen (h : DiskIn S p d w bF bM v nf DF) : (d.L = [] ∧ v = .slice none 0 0) ∨ ∃ g cap, v = .slice (some ⟨g, 0, none⟩) d.L.length cap ∧ d.L.length ≤ cap := by
  obtain ⟨h1, h2⟩ := h.rL
  rcases h2 with ⟨rfl, h0⟩ | ⟨g, cap, cur, rfl, hb, hg, hn, hm, hc, ht⟩
  · exact .inl ⟨List.eq_nil_of_length_eq_zero h0, rfl⟩
  · exact .inr ⟨g, cap, rfl, hn⟩
/-- fuse and failing alone have turned -/
theorem DiskIn.turn (h : DiskIn S p d w bF bM v nf DF) {w' : World} (ht : Turns (fun k => k = p) w w') (f : Int) (b : Bool) (hf : -9223372036854775808 ≤ f ∧ f ≤ 9223372036854775807)
    (hr : w'.heap[p]? = some (.cells (dcells { d with fuse := f, down := b } bF v bM) 56 (0, 0))) : DiskIn S p { d with fuse := f, down := b } w' bF bM v nf DF :=
  { hp := h.hp, hF := h.hF, hM := h.hM, hv := h.hv, ne := h.ne, rF := h.rF, cnt := h.cnt
    ok := ⟨h.ok.lo, h.ok.hi, h.ok.fl, h.ok.at_, h.ok.sz, hf⟩
    lt := fun k hk => Nat.lt_of_lt_of_le (h.lt k hk) ht.size
    row := hr
    mF := ownsMap_same h.mF (ht.block _ (h.lt _ h.hF) (fun e => h.pF e.symm))
    mM := ownsMap_same h.mM (ht.block _ (h.lt _ h.hM) (fun e => h.pM e.symm))
    rL := ownsRow_same h.rL (fun g hg => ht.block _ (h.lt _ (h.hv g hg)) (fun e => h.vp (by rw [hg, e]))) }
end Go.Proofs.Ytjlkppdailkanaa
