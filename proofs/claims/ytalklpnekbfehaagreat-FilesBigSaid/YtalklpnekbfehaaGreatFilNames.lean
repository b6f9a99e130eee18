/-
  Files.Names.
-/
import Derived.Test.YtalklpnekbfehaaGreatFilPB
import Derived.Test.YtalklpnekbfehaaGreatFilTexts
import Derived.Test.YtalklpnekbfehaaGreatGoAll
import Derived.Test.YtalklpnekbfehaaGreatWalB
set_option linter.unusedVariables false
set_option maxRecDepth 100000
namespace Go.Proofs.YtalklpnekbfehaaGreat
open Go.RowKit
attribute [local go_sem] Oper.semAt_some

def nam (r : Fil.Row) : List ByteArray := r.map fun x => ba x.1
theorem nam_take (r : Fil.Row) {i : Nat} {x : Fil.Txt × Fil.Txt} (hx : r[i]? = some x) : nam (r.take (i + 1)) = nam (r.take i) ++ [ba x.1] := by
  unfold nam; rw [List.take_add_one, hx]; simp
def namOwn (X Bx bm : Nat) (r : Fil.Row) (i : Nat) (S : Nat → Prop) (W : World) : Prop :=
  ∃ v, W.heap[X]? = some (.cells #[v] 29 (0, 0)) ∧ Own X v (nam (r.take i)) W ∧ (S = fun k => k = X ∨ v.ownBlock = some k) ∧ W.heap[Bx]? = some (.cells #[.map (some bm)] 74 (0, 0))
theorem namOwn.owns {X Bx bm : Nat} {r : Fil.Row} (hm : bm < X) (hne : Bx ≠ X) : OwnsB (namOwn X Bx bm r) Bx bm where
  lt := fun i S W ⟨v, h1, h2, h3, h4⟩ k hk => by
    rw [h3] at hk
    rcases hk with rfl | hk
    · exact row_lt h1
    · exact (World.ownsRow.lt h2 k hk).2
  new := fun i S W W' ⟨v, h1, h2, h3, h4⟩ hb => ⟨v, by rw [hb.block _ (row_lt h1)]; exact h1, Own.new h2 hb, h3, by rw [hb.block _ (row_lt h4)]; exact h4⟩
  off := fun i S W ⟨v, h1, h2, h3, h4⟩ => by
    subst h3
    refine ⟨fun e => ?_, fun e => ?_⟩
    · rcases e with e | e
      · exact hne e
      · obtain ⟨cur, hc⟩ := ownsRow_block h2 e
        rw [h4] at hc
        simp only [Option.some.injEq, Obj.cells.injEq] at hc
        exact absurd hc.2.1 (by decide)
    · rcases e with e | e
      · omega
      · have := (World.ownsRow.lt h2 bm e).1; omega
theorem namOwn.stays {C X Bx bm : Nat} {r : Fil.Row} (i : Nat) (S : Nat → Prop) : Stays C (namOwn X Bx bm r i S) := fun W l o o' hl ho hc ⟨v, h1, h2, h3, h4⟩ => by
  refine ⟨v, Stays.row W l o o' hl ho hc h1, ownsRow_same h2 fun g hg => ?_, h3, Stays.row W l o o' hl ho hc h4⟩
  obtain ⟨cur, hcur⟩ := ownsRow_block h2 hg
  exact World.putObj_heap_other (fun e => by subst e; rw [hcur] at ho; cases ho; simp [Obj.isCells] at hc)

set_option maxHeartbeats 1000000 in
theorem names_any {pf bm nn : Nat} {r : Fil.Row} {w : World} (hm : ContAt bm nn r w) (hs : Fil.Sorted r) (hf : Fil.Fine r) (hlen : r.length ≤ 1099511627) (hc : w.cell? ⟨pf, 11, none⟩ = some (.map (some bm))) :
    Calls Tryz.prog 11 #[.pointer (some ⟨pf, 0, none⟩)] w fun e w' => ∃ v, e = .returned v ∧ Own w.heap.size v (nam r) w' ∧ Below w.heap.size w w' := by
  obtain ⟨i0, hi, hz0, hz1, hz2⟩ := info_parts infoStr
  have hbl := hm.lt
  have hpl := cell_lt hc
  refine (callsIn_wide (n := 5)).1 ?_
  refine callsIn_of_wp_marks Tryz.func11 rfl trivial ?_ rfl
  simp only [Tryz.ntmps11, List.size_toArray, List.length_cons, List.length_nil, Nat.reduceAdd, Nat.reduceSub, Array.replicate_succ, Array.replicate_zero, List.push_toArray, List.append_toArray, List.nil_append, List.cons_append]
  have hb1 : Below w.heap.size w (w.alloc (.cells #[.slice none 0 0] 29)) := (Below.refl _ w).alloc (Nat.le_refl _) _
  have hx1 : (w.alloc (.cells #[.slice none 0 0] 29)).heap[w.heap.size]? = some (.cells #[.slice none 0 0] 29 (0, 0)) := heap_alloc_new _ _
  have hc1 : (w.alloc (.cells #[.slice none 0 0] 29)).cell? ⟨pf, 11, none⟩ = some (.map (some bm)) := by rw [World.cell?_of_block (hb1.block pf hpl)]; exact hc
  have hm1 : ContAt bm nn r (w.alloc (.cells #[.slice none 0 0] 29)) := hm.new hb1
  have hs1 : (w.alloc (.cells #[.slice none 0 0] 29)).heap.size = w.heap.size + 1 := by simp
  have hal := fun u => callsIn_wide (n := 4).2 (all_any (some bm) u)
  have Hal := Lib.hid hal; clear hal
  have Hm1 := Lib.hid hm1; clear hm1
  have Hx1 := Lib.hid hx1; clear hx1
  have Hb1 := Lib.hid hb1; clear hb1
  gi_wp2_with fail
  refine ⟨trivial, (Hal.out _).mono ?_⟩; rintro e w2 ⟨rfl, rfl⟩
  obtain ⟨w2, hw2⟩ : ∃ w2, w2 = (w.alloc (.cells #[.slice none 0 0] 29)).alloc (.cells #[.map (some bm)] 74) := ⟨_, rfl⟩
  have hs2 : w2.heap.size = w.heap.size + 2 := by rw [hw2]; simp
  have hb2 : Below w.heap.size w w2 := by rw [hw2]; exact Hb1.out.alloc (by omega) _
  have hx2 : w2.heap[w.heap.size]? = some (.cells #[.slice none 0 0] 29 (0, 0)) := by rw [hw2]; exact row_alloc Hx1.out _
  have hbx2 : w2.heap[w.heap.size + 1]? = some (.cells #[.map (some bm)] 74 (0, 0)) := by rw [hw2, ← hs1]; exact heap_alloc_new _ _
  have hm2 : ContAt bm nn r w2 := hm.new hb2
  rw [hs1]
  rw [← hw2]
  have hown : namOwn w.heap.size (w.heap.size + 1) bm r 0 (fun k => k = w.heap.size ∨ (Value.slice none 0 0).ownBlock = some k) w2 := ⟨.slice none 0 0, hx2, World.ownsRow_nil _ _ _ _, rfl, hbx2⟩
  clear hw2 Hal Hx1 Hb1 Hm1 hc1
  gi_wp2_with fail
  refine range_all (r := r) (Bx := w.heap.size + 1) hs hf (by omega) (namOwn.owns hbl (by omega)) hbx2 hm2 hown (fun i S => namOwn.stays i S) rfl rfl (fun x => { tmps := #[.pointer (some ⟨pf, 0, none⟩), undef, .slice none 0 0, .pointer (some ⟨w.heap.size, 0, none⟩), .string (ba x.1), .pointer (some ⟨pf, 0, none⟩), .bool false, .pointer (some ⟨pf, 0, none⟩), .pointer (some ⟨pf, 0, none⟩), .pointer (some ⟨pf, 11, none⟩), .map (some bm), .func (.func 62) #[] #[.pointer (some ⟨w.heap.size + 1, 0, none⟩)], .string (ba x.1), .string (ba x.2), undef, undef, undef, undef, undef, undef], defers := [] }) ?hassign ?hbody ?hdone
  case hassign =>
    intro l x W K hK
    have HK := Lib.hid hK; clear hK
    gi_wp2
    exact HK.out
  case hbody =>
    rintro l i x S W hx ⟨v, h1, h2, h3, h4⟩ hsW
    subst h3
    have hfx := hf x (List.mem_of_getElem? hx)
    have c0 := cell_of_one h1
    have hil : i < r.length := (List.getElem?_eq_some_iff.1 hx).1
    have hnl : (nam (r.take i)).length = i := by unfold nam; rw [List.length_map, List.length_take]; omega
    clear hm2 hown hx2 hbx2
    gi_wp2
    refine wp_region_mid_in 2 5 (by kernel_rfl) (by kernel_rfl) (by kernel_rfl) (fun u => u.cell? ⟨w.heap.size, 0, none⟩ = some v) c0 ?_
    simp only [List.take_succ_cons, List.take_zero, List.drop_succ_cons, List.drop_zero]
    refine take_load 29 (.tmp 3) ⟨w.heap.size, 0, none⟩ v rfl rfl rfl (fun u hu => load_any Tryz.underlying29 Tryz.isAgg29 hu) ?_
    simp only [Act.put, List.setIfInBounds_toArray, List.set_cons_zero, List.set_cons_succ]
    refine take_move (.tmp 4) (.string (ba x.1)) rfl rfl rfl ?_
    simp only [Act.put, List.setIfInBounds_toArray, List.set_cons_zero, List.set_cons_succ]
    refine take_done ?_
    refine mid_wp rfl (call_wp 38 [.tmp 15] #[9] #[.string (ba x.1)] rfl rfl rfl ?_)
    refine (clone_any (ba x.1) _ (by rw [ba_size]; omega)).mono ?_
    rintro e wA ⟨rfl, hA⟩
    have cA : wA.cell? ⟨w.heap.size, 0, none⟩ = some v := by rw [World.cell?_of_block (hA.block _ (row_lt h1))]; exact c0
    refine ⟨_, rfl, cA, ?_⟩
    simp only [Act.put, List.setIfInBounds_toArray, List.set_cons_zero, List.set_cons_succ]
    have hWA : Below W.heap.size W wA := (Below.refl _ W).drew.trans hA
    have hown2 : wA.ownsRow w.heap.size 9 1 v i ((nam (r.take i)).map Value.string) := by
      have h := Own.new h2 hWA
      unfold Own at h
      rw [hnl] at h
      exact h
    have hbB : Below wA.heap.size wA (wA.alloc (.cells #[.string (ba x.1)] 9)) := (Below.refl _ wA).alloc (Nat.le_refl _) _
    have cB : (wA.alloc (.cells #[.string (ba x.1)] 9)).cell? ⟨w.heap.size, 0, none⟩ = some v := by rw [World.cell?_of_block (hbB.block _ (cell_lt cA))]; exact cA
    refine mid_one (.slice (some ⟨wA.heap.size, 0, none⟩) 1 1) rfl (run_slice_op 29 1 [(0, .tmp 16)] rfl (slice_str (ba x.1) wA)) cB ?_
    simp only [Act.put, List.setIfInBounds_toArray, List.set_cons_zero, List.set_cons_succ]
    have hown3 := ownsRow_new hown2 hbB
    have hnew : (wA.alloc (.cells #[.string (ba x.1)] 9)).ownsRow 0 9 1 (.slice (some ⟨wA.heap.size, 0, none⟩) 1 1) 1 [.string (ba x.1)] :=
      ⟨rfl, .inr ⟨wA.heap.size, 1, #[.string (ba x.1)], rfl, Nat.zero_le _, heap_alloc_new _ _, Nat.le_refl _, by decide, rfl, rfl⟩⟩
    refine mid_wp rfl (wp_append_row (.tmp 14) (.tmp 17) 29 rfl w.heap.size 9 i0 (.string ⟨#[]⟩) 1 16 Tryz.underlying29 hi hz0 hz1 hz2 rfl (by decide) v i _ rfl hown3 0 _ 1 [.string (ba x.1)] rfl hnew (by intro u hu; simp at hu; subst hu; rfl) (by unfold maxLen; omega) (by omega) (by have := hWA.size; simp; omega) ?_)
    intro v' wB hown4 hgB hvb
    have hvX : v.ownBlock ≠ some w.heap.size := fun e => by
      obtain ⟨cur, hcur⟩ := ownsRow_block h2 e
      rw [h1] at hcur
      simp only [Option.some.injEq, Obj.cells.injEq] at hcur
      exact absurd hcur.2.1 (by decide)
    have hWB : Below W.heap.size W (wA.alloc (.cells #[.string (ba x.1)] 9)) := hWA.alloc hWA.size _
    have hXB : wB.heap[w.heap.size]? = some (.cells #[v] 29 (0, 0)) := by
      rw [hgB.block _ (by have := row_lt h1; have := hWB.size; omega) (fun e => hvX e.symm), hWB.block _ (row_lt h1)]; exact h1
    have hBx : wB.heap[w.heap.size + 1]? = some (.cells #[.map (some bm)] 74 (0, 0)) := by
      rw [hgB.block _ (by have := row_lt h4; have := hWB.size; omega) (fun e => ?_), hWB.block _ (row_lt h4)]
      · exact h4
      · obtain ⟨cur, hcur⟩ := ownsRow_block h2 e.symm
        rw [h4] at hcur
        simp only [Option.some.injEq, Obj.cells.injEq] at hcur
        exact absurd hcur.2.1 (by decide)
    have cX : wB.cell? ⟨w.heap.size, 0, none⟩ = some v := cell_of_one hXB
    have fX := row_free hXB 0
    refine ⟨cX, ?_⟩
    simp only [Act.put, List.setIfInBounds_toArray, List.set_cons_zero, List.set_cons_succ]
    refine mid_list ?_
    have hTW : Turns (fun k => k = w.heap.size ∨ v.ownBlock = some k) W (wB.setCell ⟨w.heap.size, 0, none⟩ v') :=
      ((Turns.of_new hWB _).trans (Turns.of_grown hgB) (fun j _ e => .inr e)).set _ _ _ (fun _ => .inl rfl)
    have hKO : KeepsOthers W (wB.setCell ⟨w.heap.size, 0, none⟩ v') := by
      refine (KeepsOthers.trans (B := wB) ⟨Nat.le_trans hWB.size hgB.size, fun k o hk ho => ?_⟩ (KeepsOthers.setCell _ _ _))
      rw [hgB.block k (by have := row_lt hk; have := hWB.size; omega) (fun e => ?_), hWB.block k (row_lt hk)]
      · exact hk
      · obtain ⟨cur, hcur⟩ := ownsRow_block h2 e.symm
        rw [hk] at hcur; cases hcur
        simp [Obj.isCells] at ho
    have hown5 : Own w.heap.size v' (nam (r.take (i + 1))) (wB.setCell ⟨w.heap.size, 0, none⟩ v') := by
      have h6 : Own w.heap.size v' (nam (r.take (i + 1))) wB := by
        unfold Own
        rw [nam_take r hx, List.length_append, hnl, List.map_append]
        exact hown4
      refine ownsRow_same h6 fun g hg => heap_setCell_other _ _ _ _ (fun e => ?_)
      simp only at e
      subst e
      obtain ⟨cur, hcur⟩ := ownsRow_block h6 hg
      rw [hXB] at hcur
      simp only [Option.some.injEq, Obj.cells.injEq] at hcur
      exact absurd hcur.2.1 (by decide)
    have hX5 : (wB.setCell ⟨w.heap.size, 0, none⟩ v').heap[w.heap.size]? = some (.cells #[v'] 29 (0, 0)) := by rw [heap_setCell_same _ _ 0 _ _ _ hXB]; rfl
    have hBx5 : (wB.setCell ⟨w.heap.size, 0, none⟩ v').heap[w.heap.size + 1]? = some (.cells #[.map (some bm)] 74 (0, 0)) := by
      rw [heap_setCell_other _ _ _ _ (by simp only; omega)]; exact hBx
    have hS5 : ∀ j, (j = w.heap.size ∨ v'.ownBlock = some j) → (j = w.heap.size ∨ v.ownBlock = some j) ∨ W.heap.size ≤ j := fun j e => by
      rcases e with e | e
      · exact .inl (.inl e)
      · rcases hvb with h | h
        · exact .inl (.inr (by rw [← h]; exact e))
        · rw [h] at e
          simp only [Option.some.injEq] at e
          have := hWB.size
          exact .inr (by omega)
    obtain ⟨a8, c8, rfl, -⟩ := Own.strs hown5
    have HT := Lib.hid hTW; clear hTW
    have HK := Lib.hid hKO; clear hKO
    have HO := Lib.hid hown5; clear hown5
    have HX := Lib.hid hX5; clear hX5
    have HBX := Lib.hid hBx5; clear hBx5
    have HS := Lib.hid hS5; clear hS5
    clear hown4 hgB hvb hown3 hnew hWB hXB hBx
    go_wp2
    exact ⟨HK.out, KeepC.of_turns HT.out _, _, ⟨_, HX.out, HO.out, rfl, HBX.out⟩, HS.out⟩
  case hdone =>
    rintro D W hD ⟨S', ⟨v, h1, h2, h3, h4⟩, hS⟩ ht hK2
    rw [List.take_length] at h2
    have hb3 : Below w.heap.size w W := hb2.trans (ht.below (by omega) (fun k _ e => by
      rcases e with rfl | e
      · exact Nat.le_refl _
      · simp [Value.ownBlock] at e))
    have c0 := cell_of_one h1
    have Hb3 := Lib.hid hb3; clear hb3
    have HK2 := Lib.hid hK2; clear hK2
    have H2 := Lib.hid h2; clear h2
    clear hm2 hown hx2 hbx2 ht hS h4
    gi_wp2_with fail
    refine ⟨by simp, .inl ⟨_, _, rfl, run_takeDeferred HK2.out, ?_⟩⟩
    have h7 := Hb3.out
    have hDl := row_lt HK2.out
    refine ⟨_, results_tmp rfl _ _ _, v, rfl, ownsRow_same H2.out fun g hg => ?_, h7.os, h7.tape, h7.output, by rw [World.putObj_size]; exact h7.size, fun k hk => (World.putObj_heap_other (by omega)).trans (h7.block k hk)⟩
    obtain ⟨cur, hcur⟩ := ownsRow_block H2.out hg
    exact World.putObj_heap_other (fun e => by subst e; rw [HK2.out] at hcur; cases hcur)
end Go.Proofs.YtalklpnekbfehaaGreat
