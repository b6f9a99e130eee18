/-
  Rows of instructions of the call's own; rows of texts read as slices of texts.
-/
import Derived.Test.YtolldoclnfnceaaDoorCodMem
import Derived.Test.YtolldoclnfnceaaDoorGoTxt
set_option linter.unusedVariables false
set_option maxRecDepth 100000
namespace Go.Proofs.YtolldoclnfnceaaDoor
open Go.RowKit

def insCells (x : Cod.In) : List Value := [.int .u8 (x.1.toNat : Int), .int .u8 (x.2.toNat : Int)]
/-- a row of instructions of the call's own -/
def XOwn (B : Nat) (v : Value) (l : List Cod.In) (w : World) : Prop := w.ownsRow B 48 2 v l.length (l.flatMap insCells)
theorem insCells_at : ∀ (l : List Cod.In) (j : Nat) (x : Cod.In), l[j]? = some x → ∀ i u, (insCells x)[i]? = some u → (l.flatMap insCells)[j * 2 + i]? = some u
  | y :: l, 0, x, h, i, u, hu => by
    have : y = x := by simpa using h
    subst this
    have hi : i < (insCells y).length := (List.getElem?_eq_some_iff.1 hu).1
    rw [List.flatMap_cons, List.getElem?_append_left (by omega)]
    simpa using hu
  | y :: l, j + 1, x, h, i, u, hu => by
    have h' : l[j]? = some x := by simpa using h
    have hl : (insCells y).length = 2 := rfl
    rw [List.flatMap_cons, List.getElem?_append_right (by omega), hl, show (j + 1) * 2 + i - 2 = j * 2 + i by omega]
    exact insCells_at l j x h' i u hu
section
variable {B : Nat} {v : Value} {l : List Cod.In} {w w' : World}
theorem XOwn.reads (h : XOwn B v l w) : ∃ a cap, v = .slice a l.length cap ∧ InsAt a l.length l w ∧ (a = none → cap = 0) := by
  have hc := fun g hg => World.ownsRow.cells (g := g) h hg
  obtain ⟨h1, h2⟩ := h
  rcases h2 with ⟨rfl, h0⟩ | ⟨g, cap, cur, rfl, hb, hg, hle, hcm, hcs, hct⟩
  · have : l = [] := List.eq_nil_of_length_eq_zero h0
    subst this
    exact ⟨none, 0, rfl, InsAt.nil _ _, fun _ => rfl⟩
  · refine ⟨some ⟨g, 0, none⟩, cap, rfl, ⟨rfl, fun j hj => ⟨g, 0, rfl, ?_⟩⟩, fun e => by cases e⟩
    have hx : l[j]? = some (l.getD j (0, 0)) := by rw [List.getD_eq_getElem?_getD, List.getElem?_eq_getElem hj]; rfl
    have hcell : ∀ i u, (insCells (l.getD j (0, 0)))[i]? = some u → w.cell? ⟨g, 0 + j * 2 + i, none⟩ = some u := fun i u hu => by
      have := hc g rfl (j * 2 + i) u (insCells_at l j _ hx i u hu)
      have ea : (⟨g, 0, none⟩ : Addr).add (j * 2 + i) = ⟨g, 0 + j * 2 + i, none⟩ := by unfold Addr.add; split <;> simp_all
      rw [ea] at this
      exact this
    exact ⟨hcell 0 _ rfl, hcell 1 _ rfl⟩
theorem XOwn.new (h : XOwn B v l w) (hb : Below w.heap.size w w') : XOwn B v l w' := ownsRow_new h hb
theorem XOwn.form (h : XOwn B v l w) : ∃ a cap, v = .slice a l.length cap := by
  rcases h.2 with ⟨rfl, h0⟩ | ⟨g, cap, _, hv, _⟩
  · exact ⟨none, 0, by rw [h0]⟩
  · exact ⟨_, cap, hv⟩
theorem XOwn.off {b : Nat} (h : XOwn B v l w) {cs : Array Value} {T : TypeId} (hT : T ≠ 48) (hr : w.heap[b]? = some (.cells cs T (0, 0))) : v.ownBlock ≠ some b := fun e => by
  obtain ⟨cur, hcur⟩ := ownsRow_block h e
  rw [hr] at hcur
  simp only [Option.some.injEq, Obj.cells.injEq] at hcur
  exact hT hcur.2.1
/-- a block that is none of its own is turned -/
theorem XOwn.turned (h : XOwn B v l w) {b : Nat} (hg : w.grownBy w' (some b)) (hb : v.ownBlock ≠ some b) : XOwn B v l w' :=
  ownsRow_same h fun g hg' => hg.block g (World.ownsRow.lt h g hg').2 (fun e => hb (by rw [hg', e]))
end
theorem TOwn.turned {B : Nat} {v : Value} {l : List ByteArray} {w w' : World} (h : TOwn B v l w) {b : Nat} (hg : w.grownBy w' (some b)) (hb : v.ownBlock ≠ some b) : TOwn B v l w' :=
  ownsRow_same h fun g hg' => hg.block g (World.ownsRow.lt h g hg').2 (fun e => hb (by rw [hg', e]))
theorem TOwn.strs {B : Nat} {v : Value} {l : List ByteArray} {w : World} (h : TOwn B v l w) : ∃ a cap, v = .slice a l.length cap ∧ Strs a l.length l w ∧ (a = none → cap = 0) := by
  obtain ⟨a, cap, e, hs⟩ := SRd.strs h.reads
  refine ⟨a, cap, e, hs, fun ha => ?_⟩
  rcases h.2 with ⟨rfl, h0⟩ | ⟨g, cap', _, hv, _⟩
  · simp only [Value.slice.injEq] at e
    exact e.2.2.symm
  · rw [e, ha] at hv
    cases hv
theorem ins_info : (Tryd.prog.info? 48).map (fun i => (i.zero, i.size, i.bytes)) = some (some (.agg #[.int .u8 0, .int .u8 0]), 2, 2) := by kernel_rfl
theorem slice_ins1 (x : Cod.In) (w : World) : (Instr.buildSlice 23 1 #[(0, insV x)]).run Tryd.prog w = .ok (.slice (some ⟨w.heap.size, 0, none⟩) 1 1) (w.alloc (.cells #[.int .u8 (x.1.toNat : Int), .int .u8 (x.2.toNat : Int)] 48)) := by
  obtain ⟨i, hi, h0, h1, h2⟩ := info_parts ins_info
  have hf := Great.fill_whole (s := 2) (by omega) [insV x] ((Array.range (1 * 2)).map ((Value.agg #[.int .u8 0, .int .u8 0]).cells[· % (Value.agg #[.int .u8 0, .int .u8 0]).cells.size]!)) (fun v hv => by simp at hv; subst hv; rfl) (by simp)
  refine run_buildSlice w 23 48 1 _ #[.int .u8 (x.1.toNat : Int), .int .u8 (x.2.toNat : Int)] i _ Tryd.underlying23 hi h0 (by rw [h1]; decide) (by rw [h1]; decide) ?_
  rw [h1]
  have e : ([insV x].flatMap fun v => v.cells.toList).toArray = #[.int .u8 (x.1.toNat : Int), .int .u8 (x.2.toNat : Int)] := by simp [insV, Value.cells]
  rw [e] at hf
  exact hf
theorem build_ins (x : Cod.In) (w : World) : (Instr.build 48 #[(0, .int .u8 (x.1.toNat : Int)), (1, .int .u8 (x.2.toNat : Int))]).run Tryd.prog w = .ok (insV x) w := run_build w _ _ _ (by kernel_rfl)
end Go.Proofs.YtolldoclnfnceaaDoor
