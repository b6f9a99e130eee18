/-
  What lies where while chunk.Cut goes on.
-/
import Derived.Test.YtofiimkpbbiegaaChuCut1
import Derived.Test.YtofiimkpbbiegaaChuPcs
import Derived.Test.YtofiimkpbbiegaaGoRangeOut
import Derived.Test.YtofiimkpbbiegaaGoMarks
set_option linter.unusedVariables false
set_option maxRecDepth 100000
namespace Go.Proofs.Ytofiimkpbbiegaa
open Go.RowKit

/-- the closure's value -/
def cutF (E : Nat) : Value := .func (.func 26) #[] #[.pointer (some ⟨E + 1, 0, none⟩), .pointer (some ⟨E + 1 + 1, 0, none⟩)]
structure CtI (c : Ctr) (w : World) (E b k : Nat) (ps : List Pc) (a : Nat) (Ds : List Nat) (W : World) : Prop where
  be : Below w.heap.size w W
  box : CtrAt c w.heap.size W
  fin : W.heap[E]? = some (.cells #[.pointer (some ⟨b, 0, none⟩), .int .u64 ((2 ^ k - 1 : Nat) : Int)] 54 (0, 0))
  cut : ∃ v, CutAt (E + 4) (E + 1) (E + 1 + 1) ps a v W
  fn : W.heap[E + 1 + 1 + 1]? = some (.cells #[cutF E] 61 (0, 0))
  mks : ∀ D ∈ Ds, W.heap[D]? = some (.deferred (some []))
  sz : E + 4 ≤ W.heap.size
  wE : w.heap.size < E
section
variable {c : Ctr} {w W W' : World} {E b k a C : Nat} {ps : List Pc} {Ds : List Nat} {v : Value}
theorem CutAt.keeps {Bs Bl Ba : Nat} {T : Nat → Prop} (h : CutAt Bs Bl Ba ps a v W) (ht : Turns T W W') (h1 : ¬ T Bl) (h2 : ¬ T Ba) (h3 : ∀ g, Bs ≤ g → g < W.heap.size → (∃ cs : Array Value, W.heap[g]? = some (.cells cs 45 (0, 0))) → ¬ T g) : CutAt Bs Bl Ba ps a v W' :=
  ⟨ht.same h.l h1, h.o.same (fun g x y z => ht.block g y (h3 g x y z)), ht.same h.a h2⟩
theorem CtI.keeps {T : Nat → Prop} (h : CtI c w E b k ps a Ds W) (ht : Turns T W W') (h0 : ∀ j, j < w.heap.size → ¬ T j) (h1 : ¬ T w.heap.size) (h2 : ∀ j, E ≤ j → j < E + 4 → ¬ T j) (h3 : ∀ g, E + 4 ≤ g → g < W.heap.size → (∃ cs : Array Value, W.heap[g]? = some (.cells cs 45 (0, 0))) → ¬ T g) (h4 : ∀ D ∈ Ds, ¬ T D) : CtI c w E b k ps a Ds W' := by
  obtain ⟨v, hv⟩ := h.cut
  exact ⟨h.be.trans (ht.below h.be.size (fun j _ e => by rcases Nat.lt_or_ge j w.heap.size with hh | hh; exact absurd e (h0 j hh); exact hh)), ht.same h.box h1, ht.same h.fin (h2 _ (by omega) (by omega)), ⟨v, hv.keeps ht (h2 _ (by omega) (by omega)) (h2 _ (by omega) (by omega)) h3⟩,
    ht.same h.fn (h2 _ (by omega) (by omega)), fun D hD => ht.same (h.mks D hD) (h4 D hD), Nat.le_trans h.sz ht.size, h.wE⟩
theorem CtI.turn (h : CtI c w E b k ps a Ds W) (hb1 : w.heap.size < b) (hb2 : b < E) (hD : ∀ D ∈ Ds, E + 4 ≤ D) (ht : Turns (fun j => j = b) W W') : CtI c w E b k ps a Ds W' :=
  h.keeps ht (fun j _ => by omega) (by omega) (fun j _ _ => by omega) (fun g _ _ _ => by omega) (fun D hd => by have := hD D hd; omega)
theorem CtI.new (h : CtI c w E b k ps a Ds W) (hb : Below W.heap.size W W') : CtI c w E b k ps a Ds W' :=
  h.keeps (Turns.of_new hb (fun _ => False)) (fun _ _ e => e) (fun e => e) (fun _ _ _ e => e) (fun _ _ _ _ e => e) (fun _ _ e => e)
theorem CtI.stays (hC : w.heap.size ≤ C) (hD : ∀ D ∈ Ds, D < C) : Stays C (CtI c w E b k ps a Ds) := fun W j o o' hl ho hc h => by
  obtain ⟨v, hv⟩ := h.cut
  refine ⟨Stays.below hC W j o o' hl ho hc h.be, Stays.row W j o o' hl ho hc h.box, Stays.row W j o o' hl ho hc h.fin, ⟨v, Stays.row W j o o' hl ho hc hv.l, hv.o.same (fun g _ _ ⟨cs, hcs⟩ => World.putObj_heap_other (fun e => ?_)), Stays.row W j o o' hl ho hc hv.a⟩,
    Stays.row W j o o' hl ho hc h.fn, fun D hd => (World.putObj_heap_other (by have := hD D hd; omega)).trans (h.mks D hd), by rw [World.putObj_size]; exact h.sz, h.wE⟩
  subst e
  rw [hcs] at ho; cases ho
  simp [Obj.isCells] at hc
theorem CtI.mark {D : Nat} (h : CtI c w E b k ps a Ds W) (hd : W.heap[D]? = some (.deferred (some []))) : CtI c w E b k ps a (D :: Ds) W :=
  ⟨h.be, h.box, h.fin, h.cut, h.fn, fun D' hD' => by rcases List.mem_cons.1 hD' with rfl | hD'; exact hd; exact h.mks D' hD', h.sz, h.wE⟩
/-- behind a piece that was put -/
theorem CtI.step {i : Nat} (h : CtI c w E b k ps a Ds W) (hc : CutAt (E + 4) (E + 1) (E + 1 + 1) ps a v W) (hn : ∃ v', CutAt (E + 4) (E + 1) (E + 1 + 1) (ps ++ [(a, i - a)]) i v' W') (ht : Turns (fun j => j = E + 1 ∨ j = E + 1 + 1 ∨ v.ownBlock = some j) W W') : CtI c w E b k (ps ++ [(a, i - a)]) i Ds W' := by
  have hE := h.wE
  have hlow : ∀ j, j < E + 4 → v.ownBlock ≠ some j := fun j hj => hc.o.low hj
  refine ⟨h.be.trans (ht.below h.be.size (fun j _ e => ?_)), ht.same h.box ?_, ht.same h.fin ?_, hn, ht.same h.fn ?_, fun D hD => ht.same (h.mks D hD) ?_, Nat.le_trans h.sz ht.size, h.wE⟩
  · rcases e with e | e | e
    · omega
    · omega
    · rcases Nat.lt_or_ge j w.heap.size with hh | hh
      · exact absurd e (hlow j (by omega))
      · exact hh
  · rintro (e | e | e)
    · omega
    · omega
    · exact hlow _ (by omega) e
  · rintro (e | e | e)
    · omega
    · omega
    · exact hlow _ (by omega) e
  · rintro (e | e | e)
    · omega
    · omega
    · exact hlow _ (by omega) e
  · have hd := h.mks D hD
    rintro (e | e | e)
    · rw [e, hc.l] at hd; cases hd
    · rw [e, hc.a] at hd; cases hd
    · obtain ⟨cur, hcur⟩ := ownsRow_block hc.o e
      rw [hd] at hcur; cases hcur
theorem CutAt.others (hc : CutAt (E + 4) (E + 1) (E + 1 + 1) ps a v W) (ht : Turns (fun j => j = E + 1 ∨ j = E + 1 + 1 ∨ v.ownBlock = some j) W W') : KeepsOthers W W' := by
  refine ⟨ht.size, fun j o hj ho => ht.same hj ?_⟩
  rintro (e | e | e)
  · subst e; rw [hc.l] at hj; cases hj; simp [Obj.isCells] at ho
  · subst e; rw [hc.a] at hj; cases hj; simp [Obj.isCells] at ho
  · obtain ⟨cur, hcur⟩ := ownsRow_block hc.o e
    rw [hcur] at hj; cases hj; simp [Obj.isCells] at ho
theorem CutAt.roller {p n : Nat} {G : List UInt8} (hc : CutAt (E + 4) (E + 1) (E + 1 + 1) ps a v W) (ht : Turns (fun j => j = E + 1 ∨ j = E + 1 + 1 ∨ v.ownBlock = some j) W W') (hb : b < E) (h : RolG b p n G W) : RolG b p n G W' := by
  refine h.keeps ht ?_
  rintro (e | e | e)
  · omega
  · omega
  · exact hc.o.low (b := b) (by omega) e
end
end Go.Proofs.Ytofiimkpbbiegaa
