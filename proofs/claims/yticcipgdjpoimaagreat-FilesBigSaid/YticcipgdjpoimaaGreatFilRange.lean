/-
  A range over the files in the order of their names whose body always goes on.
-/
import Derived.Test.YticcipgdjpoimaaGreatFilAll
import Derived.Test.YticcipgdjpoimaaGreatGoAll
set_option linter.unusedVariables false
set_option maxRecDepth 100000
namespace Go.Proofs.YticcipgdjpoimaaGreat
open Go.RowKit

theorem range_all {bm nn Bx : Nat} {r : Fil.Row} {own : Nat → (Nat → Prop) → World → Prop} {S0 : Nat → Prop} {g : Operand} {ps : Array Tmp} {assign body : Code} {Q : Exit → Act → World → Prop} {a : Act} {w : World}
    (hr : Fil.Sorted r) (hf : Fil.Fine r) (hlen : r.length ≤ 1099511627776) (o : OwnsB own Bx bm)
    (hbx : w.heap[Bx]? = some (.cells #[.map (some bm)] 74 (0, 0))) (hmp : ContAt bm nn r w) (hown : own 0 S0 w) (ownS : ∀ i S, Stays w.heap.size (own i S))
    (hg : a.eval g = .func (.func 62) #[] #[.pointer (some ⟨Bx, 0, none⟩)]) (hps : ps.size = 2) (mk : Fil.Txt × Fil.Txt → Act)
    (hassign : ∀ (l : Nat) (x : Fil.Txt × Fil.Txt) (W : World) (K : Act → World → Prop), K (mk x) W →
      assign.wpIn (Fence.wide.inRound l) 3 Tryz.prog (Exit.then K (fun _ _ _ => False)) { tmps := (ps.zip #[.string (ba x.1), .string (ba x.2)]).foldl (fun t (p, v) => t.setIfInBounds p v) a.tmps, defers := [] } W)
    (hbody : ∀ (l i : Nat) (x : Fil.Txt × Fil.Txt) (S : Nat → Prop) (W : World), r[i]? = some x → own i S W → w.heap.size ≤ W.heap.size →
      body.wpIn (Fence.wide.inRound l) 3 Tryz.prog (endsIn (fun W' => KeepC w.heap.size S W W' ∧ ∃ S', own (i + 1) S' W' ∧ ∀ j, S' j → S j ∨ W.heap.size ≤ j) W) (mk x) W)
    (hdone : ∀ (D : Nat) (W : World), w.heap.size ≤ D → (∃ S', own r.length S' W ∧ ∀ j, S' j → S0 j ∨ w.heap.size ≤ j) → Turns S0 w W → W.heap[D]? = some (.deferred (some [])) → Q .normal { a with defers := { target := .collected D, args := #[] } :: a.defers } W) :
    (Code.rangeFunc g ps assign body).wpIn Fence.wide 5 Tryz.prog Q a w := by
  have hC : bm < w.heap.size := hmp.lt
  have hst : ∀ (S : Nat → Prop) (W0 : World), Stays w.heap.size (fun W => KeepC w.heap.size S W0 W) := fun S W0 => KeepC.stays (Nat.le_refl _)
  refine rangeFunc_through rfl (by decide) (gf := 62) (lb := #[.pointer (some ⟨Bx, 0, none⟩)]) hg trivial (enters_of Tryz.func62 (by kernel_rfl) rfl)
    (α := Nat × (Fil.Txt × Fil.Txt) × World × (Nat → Prop)) (fun x => #[.string (ba x.2.1.1), .string (ba x.2.1.2)]) (fun _ => hps.symm)
    (fun W => KeepC w.heap.size S0 w W ∧ W.heap[Bx]? = some (.cells #[.map (some bm)] 74 (0, 0)) ∧ ContAt bm nn r W ∧ own 0 S0 W)
    (fun W => KeepC w.heap.size S0 w W ∧ ∃ S', own r.length S' W ∧ ∀ j, S' j → S0 j ∨ w.heap.size ≤ j)
    (fun x W => W = x.2.2.1 ∧ r[x.1]? = some x.2.1 ∧ own x.1 x.2.2.2 W ∧ w.heap.size ≤ W.heap.size)
    (fun x W => KeepC w.heap.size x.2.2.2 x.2.2.1 W ∧ ∃ S', own (x.1 + 1) S' W ∧ ∀ j, S' j → x.2.2.2 j ∨ x.2.2.1.heap.size ≤ j)
    (fun x a₁ W => KeepC w.heap.size x.2.2.2 x.2.2.1 W ∧ r[x.1]? = some x.2.1 ∧ own x.1 x.2.2.2 W ∧ w.heap.size ≤ W.heap.size ∧ a₁ = mk x.2.1)
    ?sEnd ?sOut ?sMid ?h0 ?hiter ?hassign ?hbody ?hdone
  case sEnd => exact fun W l o o' hl ho hc hj => ⟨hst _ _ W l o o' hl ho hc hj.1, by obtain ⟨S', h1, h2⟩ := hj.2; exact ⟨S', ownS _ _ W l o o' hl ho hc h1, h2⟩⟩
  case sOut => exact fun x W l o o' hl ho hc hj => ⟨hst _ _ W l o o' hl ho hc hj.1, by obtain ⟨S', h1, h2⟩ := hj.2; exact ⟨S', ownS _ _ W l o o' hl ho hc h1, h2⟩⟩
  case sMid => exact fun x a₁ W l o o' hl ho hc hj => ⟨hst _ _ W l o o' hl ho hc hj.1, hj.2.1, ownS _ _ W l o o' hl ho hc hj.2.2.1, by rw [World.putObj_size]; exact hj.2.2.2.1, hj.2.2.2.2⟩
  case h0 =>
    intro o1 o2
    have hb : Below w.heap.size w ((w.alloc o1).alloc o2) := ((Below.refl _ w).alloc (Nat.le_refl _) _).alloc (by simp) _
    exact ⟨KeepC.of_new hb _ _, by rw [hb.block _ (row_lt hbx)]; exact hbx, hmp.new hb, o.new _ _ _ _ hown hb⟩
  case hiter =>
    intro ly Book W1 hBk hly hb1 hj0 hY
    obtain ⟨k1, bx1, mp1, ow1⟩ := hj0
    refine (all1_any hr hf hlen o hC bx1 mp1 ow1 ly Book hBk hb1 ?_).mono ?_
    · intro i x S W hx hbk hal how
      exact hY (i, x, W, S) W hbk ⟨rfl, hx, how, Nat.le_trans k1.size hal.kp.size⟩
    · rintro e W' ⟨hv, hbk, hal⟩
      obtain ⟨S', h1, h2⟩ := hal.ow
      refine ⟨hv, hbk, k1.trans hal.kp (fun j e => .inl e), S', h1, fun j e => ?_⟩
      rcases h2 j e with e | e
      · exact .inl e
      · have := k1.size; exact .inr (by omega)
  case hassign =>
    intro ly x W K hly hin hK
    obtain ⟨rfl, h1, h2, h3⟩ := hin
    exact hassign ly x.2.1 _ K (hK _ _ (KeepsOthers.refl _) ⟨KeepC.refl _ _ _, h1, h2, h3, rfl⟩)
  case hbody =>
    rintro ly x a₁ W hly ⟨hk, h1, h2, h3, rfl⟩
    refine wpIn_mono (hbody ly x.1 x.2.1 x.2.2.2 W h1 h2 h3) ?_
    rintro e a3 W3 hp
    cases e with
    | normal =>
      obtain ⟨k1, k2, S', k3, k4⟩ := hp
      refine ⟨k1, hk.trans k2 (fun j e => .inl e), S', k3, fun j e => ?_⟩
      rcases k4 j e with e | e
      · exact .inl e
      · have := hk.size; exact .inr (by omega)
    | ret => exact hp.elim
    | exit id => exact hp.elim
    | goto t => exact hp.elim
    | panic ch => exact hp.elim
    | outgrown => exact hp.elim
  case hdone =>
    intro D W hD hj hd
    exact hdone D W hD hj.2 (hj.1.turns rfl) hd
end Go.Proofs.YticcipgdjpoimaaGreat
