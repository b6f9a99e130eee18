/-
  A log's own cells, and its row of groups, turned.
-/
import Derived.Test.YtjmpagbjkehebaaWalAps
set_option linter.unusedVariables false
set_option maxRecDepth 100000
namespace Go.Proofs.Ytjmpagbjkehebaa
open Go.RowKit

theorem slice_grp (a : Option Addr) (n c : Nat) (w : World) : (Instr.buildSlice 32 1 #[(0, .slice a n c)]).run Try.prog w = .ok (.slice (some ⟨w.heap.size, 0, none⟩) 1 1) (w.alloc (.cells #[.slice a n c] 34)) := by
  obtain ⟨i, hi, h0, h1, h2⟩ := info_parts grp_info
  have hf := Great.fill_whole (s := 1) (by omega) [.slice a n c] ((Array.range (1 * 1)).map ((Value.slice none 0 0).cells[· % (Value.slice none 0 0).cells.size]!)) (fun v hv => by simp at hv; subst hv; rfl) (by simp)
  refine run_buildSlice w 32 34 1 _ #[.slice a n c] i _ Try.underlying32 hi h0 (by rw [h1]; decide) (by rw [h1]; decide) ?_
  rw [h1]
  have e : ([Value.slice a n c].flatMap fun v => v.cells.toList).toArray = #[.slice a n c] := by simp [Value.cells]
  rw [e] at hf
  exact hf

section
variable {P : Program} {Q : Exit → Act → World → Prop}
theorem store_wp {K : Act → World → Prop} {o : Oper} {a : Act} {w w' : World} (ty : TypeId) (x y : Operand) (pv vv : Value) (ho : o.op = .store ty x y) (hx : a.eval x = pv) (hy : a.eval y = vv)
    (h : (Instr.storeAt ty pv vv).run P w = .ok () w') (hK : K (a.put o.dst undef) w') : o.wp P a w K Q := by
  unfold Oper.wp execOp
  simp only [ho, hx, hy, h, Sem.run_bind, Sem.run_pure, Result.andThen_ok]
  exact hK
end

section
variable {R : Nat → Prop} {p q : Nat} {s : Wal.St} {w w' : World} {v : Value}
theorem wal_ty1 : 57 ≠ 34 := by decide
theorem wal_ty2 : 57 ≠ 9 := by decide
theorem WalIn.lt (h : WalIn R p q s w v) : ∀ k, R k → k < w.heap.size := h.rows.1
theorem WalIn.putMark (h : WalIn R p q s w v) (g u : Nat) : WalIn R p q { s with gen := g, used := u } ((w.setCell ⟨p, 0, none⟩ (.int .u64 (g : Int))).setCell ⟨p, 1, none⟩ (.int .i64 (u : Int))) v := by
  have h1 : (w.setCell ⟨p, 0, none⟩ (.int .u64 (g : Int))).heap[p]? = some (.cells (wlcells { s with gen := g } q v) 57 (0, 0)) := by rw [heap_setCell_same w p 0 _ _ _ h.row]; rfl
  refine ⟨h.hp, by rw [heap_setCell_same _ p 1 _ _ _ h1]; rfl, ?_⟩
  exact h.rows.beside h.row wal_ty1 wal_ty2 (((Turns.refl (fun k => k = p) w).set p 0 _ (fun _ => rfl)).set p 1 _ (fun _ => rfl))
theorem WalIn.putErr (h : WalIn R p q s w v) (E : Int) : WalIn R p q { s with err := E } (w.setCell ⟨p, 6, none⟩ (.int .i64 E)) v := by
  refine ⟨h.hp, by rw [heap_setCell_same w p 6 _ _ _ h.row]; rfl, ?_⟩
  exact h.rows.beside h.row wal_ty1 wal_ty2 ((Turns.refl (fun k => k = p) w).set p 6 _ (fun _ => rfl))
/-- other groups -/
theorem WalIn.putRow (h : WalIn R p q s w v) {R' : Nat → Prop} {v' : Value} {L : List Wal.Grp} (hR : R' p) (hr : GRows R' v' L w) : WalIn R' p q { s with L := L } (w.setCell ⟨p, 5, none⟩ v') v' := by
  refine ⟨hR, by rw [heap_setCell_same w p 5 _ _ _ h.row]; rfl, ?_⟩
  exact hr.beside h.row wal_ty1 wal_ty2 ((Turns.refl (fun k => k = p) w).set p 5 _ (fun _ => rfl))
theorem GRows.more {R : Nat → Prop} {v v' u : Value} {L : List Wal.Grp} {l : Wal.Grp} {vs : List Value} {w w3 w4 : World}
    (h1 : w.ownsRow 0 34 1 v L.length vs) (h2 : ∀ k, v.ownBlock = some k → R k) (h3 : Grps R vs L w) (h0 : ∀ k, R k → k < w.heap.size)
    (hb : Below w.heap.size w w3) (hu : Own w.heap.size u (bas l) w3) (h4 : w4.ownsRow 0 34 1 v' (L.length + 1) (vs ++ [u])) (hg : w3.grownBy w4 v.ownBlock) (hv : v'.ownBlock = v.ownBlock ∨ v'.ownBlock = some w3.heap.size) :
    GRows (fun k => R k ∨ (w.heap.size ≤ k ∧ k < w4.heap.size)) v' (L ++ [l]) w4 := by
  have hs3 := hb.size
  have hs4 := hg.size
  have hv0 : w3.ownsRow 0 34 1 v L.length vs := ownsRow_same h1 fun g hg => hb.block g (h1.lt g hg).2
  have hno : ∀ (x : Value) (y : List ByteArray) (b : Nat), w3.ownsRow b 9 1 x y.length (y.map Value.string) → x.ownBlock = none ∨ x.ownBlock ≠ v.ownBlock := by
    intro x y b hx
    cases hxo : x.ownBlock with
    | none => exact .inl rfl
    | some k =>
      refine .inr fun e => ?_
      obtain ⟨c1, e1⟩ := ownsRow_block hx hxo
      obtain ⟨c2, e2⟩ := ownsRow_block hv0 e.symm
      rw [e1] at e2
      simp only [Option.some.injEq, Obj.cells.injEq] at e2
      exact absurd e2.2.1 (by decide)
  refine ⟨fun k hk => ?_, vs ++ [u], by rw [List.length_append]; exact h4, fun k hk => ?_, ?_⟩
  · rcases hk with hk | hk
    · have := h0 k hk; omega
    · exact hk.2
  · rcases hv with e | e
    · exact .inl (h2 k (by rw [← e]; exact hk))
    · have := (World.ownsRow.lt h4 k hk).2
      rw [e] at hk; simp only [Option.some.injEq] at hk; exact .inr ⟨by omega, by omega⟩
  · refine Grps.snoc ⟨h3.1, fun i x hx => ?_⟩ ?_
    · obtain ⟨y, hy, ho, hk⟩ := h3.2 i x hx
      have ho3 := ownsRow_same (w' := w3) ho fun g hg => hb.block g (ho.lt g hg).2
      exact ⟨y, hy, World.ownsRow.kept ho3 hg (hno _ _ _ ho3), fun k hk2 => .inl (hk k hk2)⟩
    · refine ⟨World.ownsRow.mono (World.ownsRow.kept hu hg (hno _ _ _ hu)) (Nat.zero_le _), fun k hk => ?_⟩
      have := World.ownsRow.lt hu k hk
      exact .inr (by omega)
end
end Go.Proofs.Ytjmpagbjkehebaa
