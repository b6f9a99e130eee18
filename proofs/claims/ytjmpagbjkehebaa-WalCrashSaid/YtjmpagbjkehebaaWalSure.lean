/-
  The groups that are sure, while a script is played.
-/
import Derived.Test.YtjmpagbjkehebaaWalAlive
import Derived.Test.YtjmpagbjkehebaaWalHeavy
set_option linter.unusedVariables false
set_option maxRecDepth 100000
namespace Go.Proofs.Ytjmpagbjkehebaa
open Go.RowKit

theorem Grps.onecell {R : Nat → Prop} {vs : List Value} {L : List Wal.Grp} {w : World} (h : Grps R vs L w) : ∀ u ∈ vs, u.oneCell' = true := by
  intro u hu
  obtain ⟨i, hi, rfl⟩ := List.getElem_of_mem hu
  obtain ⟨y, hy, hg⟩ := h.2 i _ (List.getElem?_eq_getElem (by rw [← h.1]; exact hi))
  obtain ⟨a, c, rfl, _⟩ := hg.strs
  rw [List.getElem?_eq_getElem hi] at hy
  rw [Option.some.inj hy]
  rfl
theorem wp_append_run {P : Program} {o : Oper} {a : Act} {w w' : World} {K : Act → World → Prop} {Q : Exit → Act → World → Prop} {v' : Value} (s x : Operand) (t : TypeId) (ho : o.op = .call { callee := .builtin .append, args := #[s, x], argTypes := #[t, t] })
    (vs vx : Value) (hs : a.eval s = vs) (hx : a.eval x = vx) (hr : (Builtin.append_ #[t, t] o.type #[vs, vx]).run P w = .ok v' w') (h : K (a.put o.dst v') w') : o.wp P a w K Q := by
  unfold Oper.wp execOp
  simp only [ho, resolve, invoke, builtin, Sem.run_bind, Sem.run_pure, Result.andThen_ok, List.map_toArray, List.map_cons, List.map_nil, hs, hx, hr]
  exact h

/-- append of a slice of texts of the argument to none -/
theorem run_append_strs {la : Option Addr} {n lc : Nat} {l : List ByteArray} {w : World} (h : Strs la n l w) (hz : la = none → lc = 0) (hn : n ≤ 8796093022208) :
    ∃ v' w', (Builtin.append_ #[34, 34] 34 #[.slice none 0 0, .slice la n lc]).run Try.prog w = .ok v' w' ∧ Own w.heap.size v' l w' ∧ Below w.heap.size w w' := by
  obtain ⟨i0, hi, hz0, hz1, hz2⟩ := info_parts infoStr
  have hl := h.1
  cases la with
  | none =>
    have hn0 : n = 0 := by
      rcases Nat.eq_zero_or_pos n with e | e
      · exact e
      · obtain ⟨b, off, hb, _⟩ := h.2 0 e; cases hb
    subst hn0
    have hl0 : l = [] := List.eq_nil_of_length_eq_zero hl
    subst hl0
    rw [hz rfl]
    exact ⟨_, w, run_append_owned_none (P := Try.prog) (w := w) w.heap.size 34 34 9 i0 1 Try.underlying34 hi (.slice none 0 0) 0 [] (World.ownsRow_nil _ _ _ _), World.ownsRow_nil _ _ _ _, Below.refl _ _⟩
  | some ad =>
    by_cases hn0 : n = 0
    · subst hn0
      have hl0 : l = [] := List.eq_nil_of_length_eq_zero hl
      subst hl0
      obtain ⟨v', w', hr, h2, h3, _, h5⟩ := run_append_own_at (P := Try.prog) (w := w) w.heap.size 34 34 9 i0 (.string ⟨#[]⟩) 1 16 Try.underlying34 hi hz0 hz1 hz2 rfl (by decide) (.slice none 0 0) 0 [] (World.ownsRow_nil _ _ _ _) ad 0 lc [] rfl (fun j u hu => by simp at hu) (by simp) (by decide) (by decide) (Nat.le_refl _)
      exact ⟨v', w', hr, h2, below_of_grown h3 (fun k hk => by simp [Value.ownBlock] at hk)⟩
    · obtain ⟨b0, o0, hb0, _⟩ := h.2 0 (by omega)
      obtain rfl : ad = ⟨b0, o0, none⟩ := by simpa using hb0
      obtain ⟨v', w', hr, h2, h3, _, h5⟩ := run_append_own_at (P := Try.prog) (w := w) w.heap.size 34 34 9 i0 (.string ⟨#[]⟩) 1 16 Try.underlying34 hi hz0 hz1 hz2 rfl (by decide) (.slice none 0 0) 0 [] (World.ownsRow_nil _ _ _ _) ⟨b0, o0, none⟩ n lc (l.map Value.string) (by simp [hl]) (fun j u hu => by
          obtain ⟨hj, rfl⟩ := List.getElem?_eq_some_iff.1 hu
          have hj' : j < n := by simpa [hl] using hj
          obtain ⟨b, off, hb, hc⟩ := h.2 j hj'
          simp only [Option.some.injEq, Addr.mk.injEq] at hb
          obtain ⟨rfl, rfl, _⟩ := hb
          have ea : (Addr.add ⟨b0, o0, none⟩ j) = ⟨b0, o0 + j, none⟩ := by cases j <;> simp [Addr.add]
          rw [ea, hc]
          simp [List.getD_eq_getElem?_getD, show j < l.length by omega]) (fun u hu => by
          obtain ⟨x, _, rfl⟩ := List.mem_map.1 hu
          rfl) (by unfold maxLen; omega) (by omega) (Nat.le_refl _)
      refine ⟨v', w', hr, ?_, below_of_grown h3 (fun k hk => by simp [Value.ownBlock] at hk)⟩
      unfold Own
      rw [hl]
      simpa using h2

/-- a group more that is sure: a new row, the old texts, and new ones -/
theorem sure_next {Q : Nat → Prop} {L : List Wal.Grp} {l : Wal.Grp} {vs : List Value} {v1 u v' : Value} {W W5 W6 : World} (hQ : ∀ k, Q k → k < W.heap.size) (hg : Grps Q vs L W) (hb : Below W.heap.size W W5)
    (h1 : W5.ownsRow W.heap.size 34 1 v1 L.length vs) (hu : Own W.heap.size u (bas l) W5) (h6 : W6.ownsRow W.heap.size 34 1 v' (L.length + 1) (vs ++ [u])) (hg6 : W5.grownBy W6 v1.ownBlock) :
    GRows (fun k => Q k ∨ (W.heap.size ≤ k ∧ k < W6.heap.size)) v' (L ++ [l]) W6 ∧ Below W.heap.size W W6 := by
  have hs5 := hb.size
  have hs6 := hg6.size
  have hb6 : Below W.heap.size W W6 := hb.grown hg6 hs5 (fun k hk => (h1.lt k hk).1)
  refine ⟨⟨fun k hk => ?_, vs ++ [u], by rw [List.length_append]; exact World.ownsRow.mono h6 (Nat.zero_le _), fun k hk => .inr (by have := World.ownsRow.lt h6 k hk; omega), ?_⟩, hb6⟩
  · rcases hk with hk | hk
    · have := hQ k hk; omega
    · exact hk.2
  · refine Grps.snoc ⟨hg.1, fun i x hx => ?_⟩ ?_
    · obtain ⟨y, hy, ho, hk⟩ := hg.2 i x hx
      exact ⟨y, hy, ownsRow_same ho fun g hg => hb6.block g (ho.lt g hg).2, fun k hk2 => .inl (hk k hk2)⟩
    · refine ⟨World.ownsRow.mono (World.ownsRow.kept hu hg6 ?_) (Nat.zero_le _), fun k hk => ?_⟩
      · cases hxo : u.ownBlock with
        | none => exact .inl rfl
        | some k =>
          refine .inr fun e => ?_
          obtain ⟨c1, e1⟩ := ownsRow_block hu hxo
          obtain ⟨c2, e2⟩ := ownsRow_block h1 e.symm
          rw [e1] at e2
          simp only [Option.some.injEq, Obj.cells.injEq] at e2
          exact absurd e2.2.1 (by decide)
      · have := World.ownsRow.lt hu k hk
        exact .inr (by omega)

/-- a script that goes on: the disk, its log, the groups that are sure -/
structure Crs (w : World) (n : Nat) (S R Q : Nat → Prop) (p q : Nat) (d : Dsk.St) (s : Wal.St) (v9 : Value) (L : List Wal.Grp) (W : World) : Prop where
  apn : Apn w (fun _ => False) (fun _ => False) [] S R p q d s W
  good : Wal.Good d s
  sure : GRows Q v9 L W
  apart : ∀ j, Q j → ¬ (S j ∨ R j)
  lo : ∀ j, Q j → w.heap.size ≤ j
  fr : s.from_ = 0
  n : s.n = n
section
variable {w : World} {n : Nat} {S R Q : Nat → Prop} {p q : Nat} {d : Dsk.St} {s : Wal.St} {v9 : Value} {L : List Wal.Grp} {W W' : World}
theorem Crs.new (h : Crs w n S R Q p q d s v9 L W) (hb : Below W.heap.size W W') : Crs w n S R Q p q d s v9 L W' := ⟨h.apn.new hb, h.good, h.sure.new hb, h.apart, h.lo, h.fr, h.n⟩
theorem Crs.below (h : Crs w n S R Q p q d s v9 L W) : Below w.heap.size w W := h.apn.below
theorem Crs.size (h : Crs w n S R Q p q d s v9 L W) : w.heap.size ≤ W.heap.size := h.apn.turns.size
theorem Crs.go {S' R' : Nat → Prop} {d' : Dsk.St} {s' : Wal.St} (h : Crs w n S R Q p q d s v9 L W) (k : Apn W S R [] S' R' p q d' s' W') (hg : Wal.Good d' s') (hf : s'.from_ = s.from_) (hn : s'.n = s.n) : Crs w n S' R' Q p q d' s' v9 L W' :=
  ⟨h.apn.comp k, hg, h.sure.keeps k.turns h.apart, fun j hj e => by
    have hlt := h.sure.1 j hj
    rcases e with e | e
    · rcases k.loS j e with e | e
      · exact h.apart j hj (.inl e)
      · omega
    · rcases k.loR j e with e | e
      · exact h.apart j hj (.inr e)
      · omega, h.lo, by rw [hf]; exact h.fr, by rw [hn]; exact h.n⟩
theorem Crs.resure {Q' : Nat → Prop} {v' : Value} {L' : List Wal.Grp} (h : Crs w n S R Q p q d s v9 L W) (hb : Below W.heap.size W W') (hs : GRows Q' v' L' W') (hQ : ∀ j, Q' j → Q j ∨ W.heap.size ≤ j) : Crs w n S R Q' p q d s v' L' W' :=
  ⟨h.apn.new hb, h.good, hs, fun j hj e => by
    rcases hQ j hj with e2 | e2
    · exact h.apart j e2 e
    · rcases e with e | e
      · have := h.apn.disk.lt j e; omega
      · have := h.apn.wal.lt j e; omega, fun j hj => by
    rcases hQ j hj with e2 | e2
    · exact h.lo j e2
    · have := h.size; omega, h.fr, h.n⟩
theorem Crs.fuse (h : Crs w n S R Q p q d s v9 L W) {f : Int} (ht : Turns (fun k => k = q) W W') (hd : DiskAt S q { d with fuse := f } W') : Crs w n S R Q p q { d with fuse := f } s v9 L W' := by
  have ht2 : Turns S W W' := ht.mono (fun j _ e => by rw [e]; exact h.apn.disk.hp)
  exact ⟨h.apn.turnDisk ht2 (fun j hj => .inl hj) hd, Wal.fuse_good h.good f, h.sure.keeps ht2 (fun k hk hs => h.apart k hk (.inl hs)), h.apart, h.lo, h.fr, h.n⟩
theorem Crs.slim (h : Crs w n S R Q p q d s v9 L W) : ∀ l ∈ s.L, Slim l := fun l hl => Wal.slim_of_row (h.good.ok.fine l hl).1
theorem Crs.short (h : Crs w n S R Q p q d s v9 L W) : s.L.length ≤ 16384 := by
  have h1 := h.good.ok.len
  have h2 := h.good.ok.used
  have h3 := h.good.ok.hi
  have h4 := h.good.ok.m
  omega
end
end Go.Proofs.Ytjmpagbjkehebaa
