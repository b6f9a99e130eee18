/-
  A copy of a program, by the document.
-/
import Derived.Test.YtolldoclnfnceaaDoorCodMay
import Derived.Test.YtolldoclnfnceaaDoorCodRow
import Derived.Test.YtolldoclnfnceaaDoorGoPh2
set_option linter.unusedVariables false
set_option maxRecDepth 100000
namespace Go.Proofs.YtolldoclnfnceaaDoor
open Go.RowKit

theorem copy_ins {la : Option Addr} {n lc : Nat} {l : List Cod.In} {w : World} (h : InsAt la n l w) (hz : la = none → lc = 0) (hn : n ≤ 8796093022208) :
    ∃ v' w', (Builtin.append_ #[23, 23] 23 #[.slice none 0 0, .slice la n lc]).run Tryd.prog w = .ok v' w' ∧ XOwn w.heap.size v' l w' ∧ Below w.heap.size w w' := by
  obtain ⟨i0, hi, hz0, hz1, hz2⟩ := info_parts ins_info
  have hl := h.1
  have hfl : (l.flatMap insCells).length = l.length * 2 := by
    have : ∀ k : List Cod.In, (k.flatMap insCells).length = k.length * 2 := by
      intro k
      induction k with
      | nil => rfl
      | cons x r ih => rw [List.flatMap_cons, List.length_append, ih, List.length_cons]; simp [insCells]; omega
    exact this l
  cases la with
  | none =>
    have hn0 : n = 0 := by
      rcases Nat.eq_zero_or_pos n with e | e
      · exact e
      · obtain ⟨b, off, hb, _⟩ := h.2 0 e; cases hb
    subst hn0
    have hl0 : l = [] := List.eq_nil_of_length_eq_zero hl
    subst hl0
    rw [hz rfl]
    exact ⟨_, w, run_append_owned_none (P := Tryd.prog) (w := w) w.heap.size 23 23 48 i0 2 Tryd.underlying23 hi (.slice none 0 0) 0 [] (World.ownsRow_nil _ _ _ _), World.ownsRow_nil _ _ _ _, Below.refl _ _⟩
  | some ad =>
    by_cases hn0 : n = 0
    · subst hn0
      have hl0 : l = [] := List.eq_nil_of_length_eq_zero hl
      subst hl0
      obtain ⟨v', w', hr, h2, h3, _, h5⟩ := run_append_own_at (P := Tryd.prog) (w := w) w.heap.size 23 23 48 i0 (.agg #[.int .u8 0, .int .u8 0]) 2 2 Tryd.underlying23 hi hz0 hz1 hz2 rfl (by decide) (.slice none 0 0) 0 [] (World.ownsRow_nil _ _ _ _) ad 0 lc [] rfl (fun j u hu => by simp at hu) (by simp) (by decide) (by decide) (Nat.le_refl _)
      exact ⟨v', w', hr, h2, below_of_grown h3 (fun k hk => by simp [Value.ownBlock] at hk)⟩
    · obtain ⟨b0, o0, hb0, _⟩ := h.2 0 (by omega)
      obtain rfl : ad = ⟨b0, o0, none⟩ := by simpa using hb0
      obtain ⟨v', w', hr, h2, h3, _, h5⟩ := run_append_own_at (P := Tryd.prog) (w := w) w.heap.size 23 23 48 i0 (.agg #[.int .u8 0, .int .u8 0]) 2 2 Tryd.underlying23 hi hz0 hz1 hz2 rfl (by decide) (.slice none 0 0) 0 [] (World.ownsRow_nil _ _ _ _) ⟨b0, o0, none⟩ n lc (l.flatMap insCells) (by rw [hfl, hl]) (fun j u hu => by
          obtain ⟨hj, _⟩ := List.getElem?_eq_some_iff.1 hu
          rw [hfl] at hj
          have hj' : j / 2 < n := by omega
          obtain ⟨b, off, hb, hc1, hc2⟩ := h.2 (j / 2) hj'
          simp only [Option.some.injEq, Addr.mk.injEq] at hb
          obtain ⟨rfl, rfl, _⟩ := hb
          have ea : (Addr.add ⟨b0, o0, none⟩ j) = ⟨b0, o0 + j, none⟩ := by cases j <;> simp [Addr.add]
          have hx : l[j / 2]? = some (l.getD (j / 2) (0, 0)) := by rw [List.getD_eq_getElem?_getD, List.getElem?_eq_getElem (by omega)]; rfl
          rw [ea]
          by_cases hev : j % 2 = 0
          · have := insCells_at l (j / 2) _ hx 0 _ rfl
            rw [show j / 2 * 2 + 0 = j by omega, hu] at this
            rw [Option.some.inj this, show o0 + j = o0 + j / 2 * 2 by omega]
            exact hc1
          · have := insCells_at l (j / 2) _ hx 1 _ rfl
            rw [show j / 2 * 2 + 1 = j by omega, hu] at this
            rw [Option.some.inj this, show o0 + j = o0 + j / 2 * 2 + 1 by omega]
            exact hc2) (fun u hu => by
          obtain ⟨x, _, hx⟩ := List.mem_flatMap.1 hu
          simp [insCells] at hx
          rcases hx with rfl | rfl <;> rfl) (by unfold maxLen; omega) (by omega) (Nat.le_refl _)
      refine ⟨v', w', hr, ?_, below_of_grown h3 (fun k hk => by simp [Value.ownBlock] at hk)⟩
      unfold XOwn
      rw [hl]
      simpa using h2
theorem load_slice22 {w : World} {b o : Nat} {x : Value} (h : w.cell? ⟨b, o, none⟩ = some x) : (Instr.loadAt 22 (.pointer (some ⟨b, o, none⟩))).run Tryd.prog w = .ok x w := load_at Tryd.underlying22 Tryd.isAgg22 h
theorem load_slice23 {w : World} {b o : Nat} {x : Value} (h : w.cell? ⟨b, o, none⟩ = some x) : (Instr.loadAt 23 (.pointer (some ⟨b, o, none⟩))).run Tryd.prog w = .ok x w := load_at Tryd.underlying23 Tryd.isAgg23 h
theorem build_prog (a b : Value) (ha : ∃ p n c, a = .slice p n c) (hb : ∃ p n c, b = .slice p n c) (w : World) : (Instr.build 25 #[(0, a), (1, b)]).run Tryd.prog w = .ok (.agg #[a, b]) w := by
  obtain ⟨p, n, c, rfl⟩ := ha
  obtain ⟨q, m, d, rfl⟩ := hb
  exact run_build w _ _ _ (by kernel_rfl)
/-- two blocks of the call's own: the argument's box, the result -/
structure CpAt (w : World) (x : Pv) (W : World) : Prop where
  b : Below w.heap.size w W
  box : W.heap[w.heap.size]? = some (.cells #[.slice x.a x.n x.c, .slice x.b x.m x.d] 25 (0, 0))
  res : W.heap[w.heap.size + 1]? = some (.cells #[.slice none 0 0, .slice none 0 0] 25 (0, 0))
theorem CpAt.new {w : World} {x : Pv} {W W' : World} (h : CpAt w x W) (hb : Below W.heap.size W W') : CpAt w x W' :=
  ⟨h.b.trans (hb.mono h.b.size), row_below h.box hb (row_lt h.box), row_below h.res hb (row_lt h.res)⟩
theorem CpAt.c0 {w : World} {x : Pv} {W : World} (h : CpAt w x W) : W.cell? ⟨w.heap.size, 0, none⟩ = some (.slice x.a x.n x.c) := by rw [cell_of_row _ _ 0 _ _ _ h.box]; rfl
theorem CpAt.c1 {w : World} {x : Pv} {W : World} (h : CpAt w x W) : W.cell? ⟨w.heap.size, 1, none⟩ = some (.slice x.b x.m x.d) := by rw [cell_of_row _ _ 1 _ _ _ h.box]; rfl

set_option maxHeartbeats 2000000 in
theorem refCopy12_any {x : Pv} {ts : List ByteArray} {cs : List Cod.In} {w : World} (h : PrAt x ts cs w) (hn : x.n ≤ 8796093022208) (hm : x.m ≤ 8796093022208) :
    Calls Tryd.prog 9 #[x.v] w fun e w' => ∃ y : Pv, e = .returned y.v ∧ PrAt y ts cs w' ∧ Below w.heap.size w w' := by
  have hpk := fun u (hb : Below w.heap.size w u) => h.keep hb
  have hN := h.n
  have hM := h.m
  clear h
  obtain ⟨xa, xn, xc, xb, xm, xd⟩ := x
  simp only at hn hm hN hM
  unfold Pv.v
  have h1 := obj_below w (.cells #[.slice xa xn xc, .slice xb xm xd] 25)
  have r1 := heap_alloc_new w (.cells #[.slice xa xn xc, .slice xb xm xd] 25)
  have s1 : (w.alloc (.cells #[.slice xa xn xc, .slice xb xm xd] 25)).heap.size = w.heap.size + 1 := by simp
  have h2 := obj_below (w.alloc (.cells #[.slice xa xn xc, .slice xb xm xd] 25)) (.cells #[.slice none 0 0, .slice none 0 0] 25)
  have r2 := heap_alloc_new (w.alloc (.cells #[.slice xa xn xc, .slice xb xm xd] 25)) (.cells #[.slice none 0 0, .slice none 0 0] 25)
  rw [s1] at r2
  have hc : CpAt w ⟨xa, xn, xc, xb, xm, xd⟩ ((w.alloc (.cells #[.slice xa xn xc, .slice xb xm xd] 25)).alloc (.cells #[.slice none 0 0, .slice none 0 0] 25)) :=
    ⟨h1.trans (h2.mono h1.size), row_alloc r1 _, r2⟩
  have Hc := Lib.hid hc; clear hc h1 r1 s1 h2 r2
  have Hpk := Lib.hid hpk; clear hpk
  have HN := Lib.hid hN; clear hN
  have HM := Lib.hid hM; clear hM
  go_enter Tryd.func9, Tryd.ntmps9
  go_wp2_with fail
  have hc0 := Hc.out.new ((Below.refl _ _).drew)
  obtain ⟨W, hW⟩ : ∃ W : World, W = ((w.alloc (.cells #[.slice xa xn xc, .slice xb xm xd] 25)).alloc (.cells #[.slice none 0 0, .slice none 0 0] 25)).drew := ⟨_, rfl⟩
  rw [← hW] at hc0
  refine wp_region_text [0, 1, 3, 4] [2, 5, 6] [7] (by kernel_rfl) (by kernel_rfl) (fun z => z.cell? ⟨w.heap.size, 0, none⟩ = some (.slice xa xn xc) ∧ z.cell? ⟨w.heap.size, 1, none⟩ = some (.slice xb xm xd)) (by rw [← hW]; exact ⟨hc0.c0, hc0.c1⟩) ?_
  rw [← hW]
  simp only [pick, List.filterMap_cons, List.filterMap_nil, List.getElem?_toArray, List.getElem?_cons_zero, List.getElem?_cons_succ]
  refine take_one (.pointer (some ⟨w.heap.size, 0, none⟩)) rfl (fun u _ => by go_simp) ?_
  simp only [Act.put, List.setIfInBounds_toArray, List.set_cons_zero, List.set_cons_succ]
  refine take_load 22 (.tmp 3) ⟨w.heap.size, 0, none⟩ (.slice xa xn xc) rfl rfl rfl (fun u hu => load_at Tryd.underlying22 Tryd.isAgg22 hu.1) ?_
  simp only [Act.put, List.setIfInBounds_toArray, List.set_cons_zero, List.set_cons_succ]
  refine take_one (.pointer (some ⟨w.heap.size, 1, none⟩)) rfl (fun u _ => by go_simp) ?_
  simp only [Act.put, List.setIfInBounds_toArray, List.set_cons_zero, List.set_cons_succ]
  refine take_load 23 (.tmp 6) ⟨w.heap.size, 1, none⟩ (.slice xb xm xd) rfl rfl rfl (fun u hu => load_at Tryd.underlying23 Tryd.isAgg23 hu.2) ?_
  simp only [Act.put, List.setIfInBounds_toArray, List.set_cons_zero, List.set_cons_succ]
  refine take_done ?_
  have hp0 := Hpk.out _ hc0.b
  obtain ⟨v1, w1, hr1, ho1, hb1⟩ := Edt.copy_strs (lc := xc) hp0.t hp0.zt hn
  have hc1 := hc0.new hb1
  refine mid_wp rfl (wp_append_hap (.const (.slice none 0 0)) (.tmp 4) 22 rfl (.slice none 0 0) (.slice xa xn xc) v1 w1 rfl rfl hr1 ⟨⟨hc1.c0, hc1.c1⟩, ?_⟩)
  simp only [Act.put, List.setIfInBounds_toArray, List.set_cons_zero, List.set_cons_succ]
  have hp1 := Hpk.out _ hc1.b
  obtain ⟨v2, w2, hr2, ho2, hb2⟩ := copy_ins (lc := xd) hp1.i hp1.zi hm
  have hc2 := hc1.new hb2
  refine mid_wp rfl (wp_append_hap (.const (.slice none 0 0)) (.tmp 7) 23 rfl (.slice none 0 0) (.slice xb xm xd) v2 w2 rfl rfl hr2 ⟨⟨hc2.c0, hc2.c1⟩, ?_⟩)
  simp only [Act.put, List.setIfInBounds_toArray, List.set_cons_zero, List.set_cons_succ]
  have ho1' := ho1.new hb2
  obtain ⟨a1, c1, hv1, hs1, hz1⟩ := ho1'.strs
  obtain ⟨a2, c2, hv2, hs2, hz2⟩ := ho2.reads
  rw [HN.out] at hv1 hs1
  rw [HM.out] at hv2 hs2
  have hpr : PrAt ⟨a1, xn, c1, a2, xm, c2⟩ ts cs w2 := ⟨hs1, hs2, hz1, hz2⟩
  clear ho1 ho1' ho2 hs1 hs2 hz1 hz2 hr1 hr2
  subst hv1
  subst hv2
  refine mid_one (.agg #[.slice a1 xn c1, .slice a2 xm c2]) rfl (run_build_at 25 [(0, .tmp 5), (1, .tmp 8)] rfl (build_prog _ _ ⟨_, _, _, rfl⟩ ⟨_, _, _, rfl⟩ w2)) ⟨hc2.c0, hc2.c1⟩ ?_
  simp only [Act.put, List.setIfInBounds_toArray, List.set_cons_zero, List.set_cons_succ]
  refine mid_list ?_
  have e0 : w2.cell? ⟨w.heap.size + 1, 0, none⟩ = some (.slice none 0 0) := by rw [cell_of_row _ _ 0 _ _ _ hc2.res]; rfl
  have e1 : w2.cell? ⟨w.heap.size + 1, 1, none⟩ = some (.slice none 0 0) := by rw [cell_of_row _ _ 1 _ _ _ hc2.res]; rfl
  have f0 := row_free hc2.res 0
  have f1 := row_free hc2.res 1
  have Hc2 := Lib.hid hc2; clear hc2 hc1 hc0 hb1 hb2 hp0 hp1
  have Hpr := Lib.hid hpr; clear hpr
  clear hW
  go_wp2_with fail
  refine NoPanic.normal ?_
  go_wp2_with fail
  refine bodyPost_ret (results_cell_row (p := 2) (ty := 25) rfl _ _ (w.heap.size + 1) _ _ _ _ rfl (set_two Hc2.out.res) Tryd.underlying25 rfl (by kernel_rfl)) rfl ?_
  refine ⟨⟨a1, xn, c1, a2, xm, c2⟩, rfl, ?_, (Hc2.out.b.setCell (by simp) _).setCell (by simp) _⟩
  refine Hpr.out.past (fun b => b = w.heap.size + 1) (fun b hlt hn => ?_) (fun b hb o => by subst hb; exact slices_only Hc2.out.res ⟨_, _, _, rfl⟩ ⟨_, _, _, rfl⟩ o)
  exact (grown_trans (grown_set w2 (w.heap.size + 1) 0 _) (grown_set _ (w.heap.size + 1) 1 _)).block b hlt (fun e => hn (by simpa using e))
end Go.Proofs.YtolldoclnfnceaaDoor
