/-
  A copy of a program, of the call's own: it may be appended to, and written.
-/
import Derived.Test.YtolldoclnfnceaaDoorCodCopy
set_option linter.unusedVariables false
set_option maxRecDepth 100000
namespace Go.Proofs.YtolldoclnfnceaaDoor
open Go.RowKit

theorem XOwn.base {B B' : Nat} {v : Value} {l : List Cod.In} {w : World} (h : XOwn B v l w) (hb : B' ≤ B) : XOwn B' v l w := by
  refine ⟨h.1, ?_⟩
  rcases h.2 with hh | ⟨g, cap, cur, e1, e2, e3⟩
  · exact .inl hh
  · exact .inr ⟨g, cap, cur, e1, Nat.le_trans hb e2, e3⟩
/-- a program of the call's own -/
structure PrOwn (B : Nat) (y : Pv) (ts : List ByteArray) (cs : List Cod.In) (w : World) : Prop where
  t : TOwn B (.slice y.a y.n y.c) ts w
  i : XOwn B (.slice y.b y.m y.d) cs w
theorem PrOwn.at_ {B : Nat} {y : Pv} {ts : List ByteArray} {cs : List Cod.In} {w : World} (h : PrOwn B y ts cs w) : PrAt y ts cs w := by
  obtain ⟨a1, c1, e1, s1, z1⟩ := h.t.strs
  obtain ⟨a2, c2, e2, s2, z2⟩ := h.i.reads
  simp only [Value.slice.injEq] at e1 e2
  obtain ⟨ra, rn, rc⟩ := e1
  obtain ⟨rb, rm, rd⟩ := e2
  exact ⟨by rw [ra, rn]; exact s1, by rw [rb, rm]; exact s2, fun e => by rw [rc]; exact z1 (by rw [← ra]; exact e), fun e => by rw [rd]; exact z2 (by rw [← rb]; exact e)⟩
theorem PrOwn.new {B : Nat} {y : Pv} {ts : List ByteArray} {cs : List Cod.In} {w w' : World} (h : PrOwn B y ts cs w) (hb : Below w.heap.size w w') : PrOwn B y ts cs w' := ⟨h.t.new hb, h.i.new hb⟩

set_option maxHeartbeats 2000000 in
theorem refCopy12_own {x : Pv} {ts : List ByteArray} {cs : List Cod.In} {w : World} (h : PrAt x ts cs w) (hn : x.n ≤ 8796093022208) (hm : x.m ≤ 8796093022208) :
    Calls Tryd.prog 9 #[x.v] w fun e w' => ∃ y : Pv, e = .returned y.v ∧ PrOwn w.heap.size y ts cs w' ∧ Below w.heap.size w w' := by
  have hpk := fun u (hb : Below w.heap.size w u) => h.keep hb
  have hN := h.n
  have hM := h.m
  clear h
  obtain ⟨xa, xn, xc, xb, xm, xd⟩ := x
  simp only at hn hm hN hM
  unfold Pv.v
  have h1 := obj_below w (.cells #[.slice xa xn xc, .slice xb xm xd] 25)
  have r1 := heap_alloc_new w (.cells #[.slice xa xn xc, .slice xb xm xd] 25)
  have s1 : (w.alloc (.cells #[.slice xa xn xc, .slice xb xm xd] 25)).heap.size = w.heap.size + 1 := by simp
  have h2 := obj_below (w.alloc (.cells #[.slice xa xn xc, .slice xb xm xd] 25)) (.cells #[.slice none 0 0, .slice none 0 0] 25)
  have r2 := heap_alloc_new (w.alloc (.cells #[.slice xa xn xc, .slice xb xm xd] 25)) (.cells #[.slice none 0 0, .slice none 0 0] 25)
  rw [s1] at r2
  have hc : CpAt w ⟨xa, xn, xc, xb, xm, xd⟩ ((w.alloc (.cells #[.slice xa xn xc, .slice xb xm xd] 25)).alloc (.cells #[.slice none 0 0, .slice none 0 0] 25)) :=
    ⟨h1.trans (h2.mono h1.size), row_alloc r1 _, r2⟩
  have Hc := Lib.hid hc; clear hc h1 r1 s1 h2 r2
  have Hpk := Lib.hid hpk; clear hpk
  have HN := Lib.hid hN; clear hN
  have HM := Lib.hid hM; clear hM
  go_enter Tryd.func9, Tryd.ntmps9
  go_wp2_with fail
  have hc0 := Hc.out.new ((Below.refl _ _).drew)
  obtain ⟨W, hW⟩ : ∃ W : World, W = ((w.alloc (.cells #[.slice xa xn xc, .slice xb xm xd] 25)).alloc (.cells #[.slice none 0 0, .slice none 0 0] 25)).drew := ⟨_, rfl⟩
  rw [← hW] at hc0
  refine wp_region_text [0, 1, 3, 4] [2, 5, 6] [7] (by kernel_rfl) (by kernel_rfl) (fun z => z.cell? ⟨w.heap.size, 0, none⟩ = some (.slice xa xn xc) ∧ z.cell? ⟨w.heap.size, 1, none⟩ = some (.slice xb xm xd)) (by rw [← hW]; exact ⟨hc0.c0, hc0.c1⟩) ?_
  rw [← hW]
  simp only [pick, List.filterMap_cons, List.filterMap_nil, List.getElem?_toArray, List.getElem?_cons_zero, List.getElem?_cons_succ]
  refine take_one (.pointer (some ⟨w.heap.size, 0, none⟩)) rfl (fun u _ => by go_simp) ?_
  simp only [Act.put, List.setIfInBounds_toArray, List.set_cons_zero, List.set_cons_succ]
  refine take_load 22 (.tmp 3) ⟨w.heap.size, 0, none⟩ (.slice xa xn xc) rfl rfl rfl (fun u hu => load_at Tryd.underlying22 Tryd.isAgg22 hu.1) ?_
  simp only [Act.put, List.setIfInBounds_toArray, List.set_cons_zero, List.set_cons_succ]
  refine take_one (.pointer (some ⟨w.heap.size, 1, none⟩)) rfl (fun u _ => by go_simp) ?_
  simp only [Act.put, List.setIfInBounds_toArray, List.set_cons_zero, List.set_cons_succ]
  refine take_load 23 (.tmp 6) ⟨w.heap.size, 1, none⟩ (.slice xb xm xd) rfl rfl rfl (fun u hu => load_at Tryd.underlying23 Tryd.isAgg23 hu.2) ?_
  simp only [Act.put, List.setIfInBounds_toArray, List.set_cons_zero, List.set_cons_succ]
  refine take_done ?_
  have hp0 := Hpk.out _ hc0.b
  obtain ⟨v1, w1, hr1, ho1, hb1⟩ := Edt.copy_strs (lc := xc) hp0.t hp0.zt hn
  have hc1 := hc0.new hb1
  refine mid_wp rfl (wp_append_hap (.const (.slice none 0 0)) (.tmp 4) 22 rfl (.slice none 0 0) (.slice xa xn xc) v1 w1 rfl rfl hr1 ⟨⟨hc1.c0, hc1.c1⟩, ?_⟩)
  simp only [Act.put, List.setIfInBounds_toArray, List.set_cons_zero, List.set_cons_succ]
  have hp1 := Hpk.out _ hc1.b
  obtain ⟨v2, w2, hr2, ho2, hb2⟩ := copy_ins (lc := xd) hp1.i hp1.zi hm
  have hc2 := hc1.new hb2
  refine mid_wp rfl (wp_append_hap (.const (.slice none 0 0)) (.tmp 7) 23 rfl (.slice none 0 0) (.slice xb xm xd) v2 w2 rfl rfl hr2 ⟨⟨hc2.c0, hc2.c1⟩, ?_⟩)
  simp only [Act.put, List.setIfInBounds_toArray, List.set_cons_zero, List.set_cons_succ]
  have ho1' := ho1.new hb2
  have ho1w : TOwn w.heap.size v1 ts w2 := ho1'.base hc0.b.size
  have ho2w : XOwn w.heap.size v2 cs w2 := ho2.base (hc1.b.size)
  obtain ⟨a1, c1, hv1, hs1, hz1⟩ := ho1'.strs
  obtain ⟨a2, c2, hv2, hs2, hz2⟩ := ho2.reads
  rw [HN.out] at hv1 hs1
  rw [HM.out] at hv2 hs2
  clear ho1 ho1' ho2 hs1 hs2 hz1 hz2 hr1 hr2
  subst hv1
  subst hv2
  have hpr : PrOwn w.heap.size ⟨a1, xn, c1, a2, xm, c2⟩ ts cs w2 := ⟨ho1w, ho2w⟩
  clear ho1w ho2w
  refine mid_one (.agg #[.slice a1 xn c1, .slice a2 xm c2]) rfl (run_build_at 25 [(0, .tmp 5), (1, .tmp 8)] rfl (build_prog _ _ ⟨_, _, _, rfl⟩ ⟨_, _, _, rfl⟩ w2)) ⟨hc2.c0, hc2.c1⟩ ?_
  simp only [Act.put, List.setIfInBounds_toArray, List.set_cons_zero, List.set_cons_succ]
  refine mid_list ?_
  have e0 : w2.cell? ⟨w.heap.size + 1, 0, none⟩ = some (.slice none 0 0) := by rw [cell_of_row _ _ 0 _ _ _ hc2.res]; rfl
  have e1 : w2.cell? ⟨w.heap.size + 1, 1, none⟩ = some (.slice none 0 0) := by rw [cell_of_row _ _ 1 _ _ _ hc2.res]; rfl
  have f0 := row_free hc2.res 0
  have f1 := row_free hc2.res 1
  have Hc2 := Lib.hid hc2; clear hc2 hc1 hc0 hb1 hb2 hp0 hp1
  have Hpr := Lib.hid hpr; clear hpr
  clear hW
  go_wp2_with fail
  refine NoPanic.normal ?_
  go_wp2_with fail
  refine bodyPost_ret (results_cell_row (p := 2) (ty := 25) rfl _ _ (w.heap.size + 1) _ _ _ _ rfl (set_two Hc2.out.res) Tryd.underlying25 rfl (by kernel_rfl)) rfl ?_
  have hg := grown_trans (grown_set w2 (w.heap.size + 1) 0 (.slice a1 xn c1)) (grown_set _ (w.heap.size + 1) 1 (.slice a2 xm c2))
  refine ⟨⟨a1, xn, c1, a2, xm, c2⟩, rfl, ⟨Hpr.out.t.turned hg (Hpr.out.t.off (by decide) Hc2.out.res), Hpr.out.i.turned hg (Hpr.out.i.off (by decide) Hc2.out.res)⟩, (Hc2.out.b.setCell (by simp) _).setCell (by simp) _⟩
end Go.Proofs.YtolldoclnfnceaaDoor
