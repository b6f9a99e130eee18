/-
  settle: the loose writes that are kept are laid over what was flushed; the others are forgotten.
-/
import Derived.Test.YtjlkppdailkanaaDskIter
import Derived.Test.YtjlkppdailkanaaGoMidIn
import Derived.Carry
set_option linter.unusedVariables false
namespace Go.Proofs.Ytjlkppdailkanaa
open Go.RowKit
attribute [local go_sem] Oper.semAt_some

theorem load_sectors (p j : Nat) (v : Value) (u : World) (h : u.cell? ⟨p, j, none⟩ = some v) : (Instr.loadAt 52 (.pointer (some ⟨p, j, none⟩))).run Try.prog u = .ok v u := by
  go_simp
theorem load_disk (p j : Nat) (v : Value) (u : World) (h : u.cell? ⟨p, j, none⟩ = some v) : (Instr.loadAt 25 (.pointer (some ⟨p, j, none⟩))).run Try.prog u = .ok v u := by
  go_simp

theorem settle_done {S : Nat → Prop} {p bF bM nf : Nat} {v : Value} {DF : DataW Unit} {d : Dsk.St} {w W : World} {keep : ByteArray} {B : Nat} (h : DiskIn S p d w bF bM v nf DF) (hist : Ist w B p bF nf keep d d.L.length W) :
    Turns S w ((((W.setCell ⟨p, 2, none⟩ (.slice none 0 0)).setCell ⟨p, 3, none⟩ (.map (some W.heap.size))).alloc (.map #[] 0)).drew) ∧
    ∃ DF', DiskIn (fun j => S j ∨ j = W.heap.size) p (Dsk.settle d keep.data.toList) ((((W.setCell ⟨p, 2, none⟩ (.slice none 0 0)).setCell ⟨p, 3, none⟩ (.map (some W.heap.size))).alloc (.map #[] 0)).drew) bF W.heap.size (.slice none 0 0) (nf + d.L.length) DF' := by
  have hF := h.lt _ h.hF
  have hs := hist.tu.size
  have e2 : W.heap[p]? = some (.cells (dcells d bF v bM) 56 (0, 0)) := hist.tu.same h.row h.pF
  have tt : Turns S w ((((W.setCell ⟨p, 2, none⟩ (.slice none 0 0)).setCell ⟨p, 3, none⟩ (.map (some W.heap.size))).alloc (.map #[] 0)).drew) :=
    ((((hist.tu.mono (fun j _ e => by rw [e]; exact h.hF)).set p 2 _ (fun _ => h.hp)).set p 3 _ (fun _ => h.hp)).alloc _).drew
  obtain ⟨DF', hown, hrd⟩ := hist.mp
  refine ⟨tt, DF', ?_⟩
  have hsz : ((W.setCell ⟨p, 2, none⟩ (.slice none 0 0)).setCell ⟨p, 3, none⟩ (.map (some W.heap.size))).heap.size = W.heap.size := by simp [World.setCell]
  exact
    { hp := .inl h.hp
      hF := .inl h.hF
      hM := .inr rfl
      hv := fun k hk => by simp [Value.ownBlock] at hk
      lt := fun k hk => by
        rcases hk with hk | rfl
        · have h1 := h.lt k hk
          have h2 := tt.size
          omega
        · show W.heap.size < (World.alloc _ _).heap.size
          rw [World.size_alloc, hsz]; omega
      row := by
        show (World.alloc _ _).heap[p]? = _
        refine row_alloc ?_ _
        rw [heap_setCell_same _ p 3 _ _ _ (heap_setCell_same W p 2 _ _ _ e2)]
        rfl
      ne := by omega
      mF := by
        show (World.alloc _ _).ownsMap _ _ _ _ _ _
        refine World.ownsMap.alloc ?_ _
        refine ownsMap_same hown ?_
        rw [heap_setCell_other _ _ _ _ h.pF.symm, heap_setCell_other _ _ _ _ h.pF.symm]
      rF := by
        show Dsk.Reads DF' (Dsk.lay (Dsk.kept keep.data.toList d.L) d.fl)
        rw [← Dsk.done_all]
        exact hrd
      mM := by
        have := World.ownsMap_made (H := Unit) ((W.setCell ⟨p, 2, none⟩ (.slice none 0 0)).setCell ⟨p, 3, none⟩ (.map (some W.heap.size))) Try.prog 3 (plainElem Try.prog 3)
        rw [hsz] at this
        exact this
      rL := World.ownsRow_nil _ _ _ _
      cnt := by
        have := h.cnt
        show nf + d.L.length + 0 ≤ d.ops
        omega
      ok := Dsk.settle_ok h.ok _ }

set_option maxRecDepth 100000 in
set_option maxHeartbeats 1000000 in
theorem settle_any {S : Nat → Prop} {p : Nat} {d : Dsk.St} {w : World} (h : DiskAt S p d w) (keep : ByteArray) (hks : keep.size ≤ 1099511627776) (hops : d.ops ≤ 1099511627776) :
    Calls Try.prog 33 #[.pointer (some ⟨p, 0, none⟩), .string keep] w fun e w' => e = .returned (.tuple #[]) ∧ Turns S w w' ∧ ∃ S', (∀ j, S' j → S j ∨ w.heap.size ≤ j) ∧ DiskAt S' p (Dsk.settle d keep.data.toList) w' := by
  obtain ⟨bF, bM, v, nf, DF, h⟩ := h
  have hcnt := h.cnt
  refine (callsIn_wide (n := 5)).1 ?_
  refine callsIn_of_wp_marks Try.func33 rfl trivial ?_ rfl
  simp only [Try.ntmps33, List.size_toArray, List.length_cons, List.length_nil, Nat.reduceAdd, Nat.reduceSub, Array.replicate_succ, Array.replicate_zero, List.push_toArray, List.append_toArray, List.nil_append, List.cons_append]
  gi_wp2_with (refine ⟨trivial, ?_⟩; gi_at_call 43; refine (callsIn_wide.2 (kept_any _ _ _)).mono ?_; rintro e w' ⟨rfl, rfl⟩)
  obtain ⟨w3, hw3⟩ : ∃ w3, w3 = ((w.alloc (.cells #[.pointer (some ⟨p, 0, none⟩)] 25)).alloc (.cells #[.pointer (some ⟨p, 0, none⟩)] 25)).alloc (.cells #[.string keep] 9) := ⟨_, rfl⟩
  rw [← hw3]
  have hs3 : w3.heap.size = w.heap.size + 3 := by rw [hw3]; simp
  have hbel3 : Below w.heap.size w w3 := by rw [hw3]; exact (((Below.refl _ w).alloc (Nat.le_refl _) _).alloc (by simp) _).alloc (by simp; omega) _
  have hFl := h.lt _ h.hF
  have hst3 : Ist w w.heap.size p bF nf keep d 0 w3 := by
    refine ⟨Turns.of_new hbel3 _, ?_, ?_, ?_, DF, ?_, ?_⟩
    · rw [hw3]; exact row_alloc (row_alloc (heap_alloc_new _ _) _) _
    · rw [hw3]; refine row_alloc ?_ _; have := heap_alloc_new (w.alloc (.cells #[.pointer (some ⟨p, 0, none⟩)] 25)) (.cells #[.pointer (some ⟨p, 0, none⟩)] 25); simpa using this
    · rw [hw3]; have := heap_alloc_new ((w.alloc (.cells #[.pointer (some ⟨p, 0, none⟩)] 25)).alloc (.cells #[.pointer (some ⟨p, 0, none⟩)] 25)) (.cells #[.string keep] 9); simpa using this
    · exact ownsMap_same h.mF (hbel3.block _ hFl)
    · rw [Dsk.done_zero]; exact h.rF
  have Hst3 := Lib.hid hst3; clear hst3
  have H := Lib.hid h; clear h
  refine rangeFunc_from rfl (by decide) (gf := 48) (lb := #[.pointer (some ⟨w.heap.size + 2, 0, none⟩), .pointer (some ⟨w.heap.size + 1, 0, none⟩)]) rfl trivial (enters_of Try.func48 (by kernel_rfl) rfl)
    (fun i : Nat => wenc d i) (fun _ => rfl)
    (fun W => Ist w w.heap.size p bF nf keep d 0 W)
    (fun W => Ist w w.heap.size p bF nf keep d d.L.length W) (fun i W => Iin w w.heap.size p bF nf keep d i W) (fun i W => Ist w w.heap.size p bF nf keep d (i + 1) W)
    (fun i a₁ W => Iin w w.heap.size p bF nf keep d i W ∧ ∃ x vb, d.L[i]? = some x ∧ w3.heap.size ≤ vb ∧ W.heap[vb]? = some (.cells (u8s x.2) 63 (0, 0)) ∧ a₁ = { tmps := #[.pointer (some ⟨p, 0, none⟩), .string keep, .pointer (some ⟨w.heap.size, 0, none⟩), undef, .int .i64 (x.1 : Int), .pointer (some ⟨vb, 0, none⟩), .pointer (some ⟨p, 0, none⟩), .string keep, .func (.func 48) #[] #[.pointer (some ⟨w.heap.size + 1 + 1, 0, none⟩), .pointer (some ⟨w.heap.size + 1, 0, none⟩)], .int .i64 (x.1 : Int), .agg (u8s x.2), undef, undef, undef, undef, undef, undef, undef, undef, undef, undef, undef, undef, undef], defers := [] })
    ?sEnd ?sOut ?sMid ?h0 ?hiter ?hassign ?hbody ?hdone
  case sEnd => exact Ist.stays hFl (by omega)
  case sOut => exact fun i => Ist.stays hFl (by omega)
  case sMid => exact fun i a₁ W l o o' hl ho hc hj => ⟨⟨hj.1.1, Ist.stays hFl (by omega) W l o o' hl ho hc hj.1.2⟩, by obtain ⟨x, vb, h1, h2, h3, h4⟩ := hj.2; exact ⟨x, vb, h1, h2, Stays.row W l o o' hl ho hc h3, h4⟩⟩
  case h0 => exact fun o o' => (Hst3.out.alloc o).alloc o'
  case hiter =>
    intro ly Book W1 hBk hly hb1 hj0 hY
    exact iter_any H.out (Nat.le_refl _) hks (by omega) w3.heap.size ly Book W1 hBk hb1 hj0 hY
  case hassign =>
    intro ly i W K hly hin hK
    obtain ⟨x, hx⟩ : ∃ x, d.L[i]? = some x := ⟨d.L[i]'(hin.1.1), List.getElem?_eq_getElem _⟩
    have hgd : d.L.getD i (0, []) = x := by rw [List.getD_eq_getElem?_getD, hx]; rfl
    have hwe : wenc d i = #[.int .i64 (x.1 : Int), .agg (u8s x.2)] := by unfold wenc; rw [hgd]
    have hxs : x.2.length = 64 := H.out.ok.sz x (List.mem_of_getElem? hx)
    have hz := zero_sec
    have hi63 : (Try.prog.info? 63).map (·.size) = some (u8s x.2).size := by rw [u8s_size, hxs]; kernel_rfl
    have hst := store_row (P := Try.prog) (W.alloc (.cells (u8s Dsk.zer) 63)) W.heap.size 63 63 _ (u8s x.2) (heap_alloc_new _ _) hi63 (by rw [u8s_size, u8s_size, hxs, Dsk.zer_length]) (u8s_one _)
    rw [World.setRow_alloc_new] at hst
    rw [hwe]
    generalize u8s Dsk.zer = Z at *
    have Hst := Lib.hid hst; clear hst
    have Hin := Lib.hid hin; clear hin
    have Hx := Lib.hid hx; clear hx
    have hWs : w3.heap.size ≤ W.heap.size := by
      have h1 := row_lt Hin.out.2.b2
      omega
    clear hi63 hw3 hgd hwe
    gi_wp2_with (refine wpListIn_stored (by rfl) 63 (.tmp 5) (.tmp 10) rfl ⟨W.heap.size, 0, none⟩ _ rfl rfl Hst.out ?_)
    refine hK _ _ (KeepsFrom.alloc _ _ _) ⟨⟨Hin.out.1, Hin.out.2.alloc _⟩, x, W.heap.size, Hx.out, hWs, heap_alloc_new _ _, rfl⟩
  case hbody =>
    rintro ly i a₁ W hly ⟨⟨⟨hi, hk, ho⟩, hist⟩, x, vb, hx, hvb, hrow, rfl⟩
    have c0 := cell_of_one hist.b0
    have e2 : W.heap[p]? = some (.cells (dcells d bF v bM) 56 (0, 0)) := hist.tu.same H.out.row H.out.pF
    have c1 : W.cell? ⟨p, 1, none⟩ = some (.map (some bF)) := by rw [cell_of_row W p 1 _ _ _ e2]; rfl
    have hxs : x.2.length = 64 := H.out.ok.sz x (List.mem_of_getElem? hx)
    have hxa : x.1 < d.n := H.out.ok.at_ x (List.mem_of_getElem? hx)
    have hld := fun (u : World) (h : u.heap[vb]? = some (.cells (u8s x.2) 63 (0, 0))) => load_row (P := Try.prog) u vb 63 63 (u8s x.2) (0, 0) _ h Try.underlying63 rfl (by rw [u8s_size, hxs]; kernel_rfl)
    obtain ⟨DF', hown, hrd⟩ := hist.mp
    have Hist := Lib.hid hist; clear hist
    have Hld := Lib.hid hld; clear hld
    have Hown := Lib.hid hown; clear hown
    have Hrd := Lib.hid hrd; clear hrd
    have Hrow := Lib.hid hrow; clear hrow
    have Hx := Lib.hid hx; clear hx
    have Ho := Lib.hid ho; clear ho
    have Hk := Lib.hid hk; clear hk
    clear e2 hw3
    gi_wp2
    refine wp_region_mid_in 6 6 (by kernel_rfl) (by kernel_rfl) (by kernel_rfl) (fun u => u.cell? ⟨w.heap.size, 0, none⟩ = some (.pointer (some ⟨p, 0, none⟩)) ∧ u.cell? ⟨p, 1, none⟩ = some (.map (some bF)) ∧ u.heap[vb]? = some (.cells (u8s x.2) 63 (0, 0))) ⟨c0, c1, Hrow.out⟩ ?_
    simp only [List.take_succ_cons, List.take_zero, List.drop_succ_cons, List.drop_zero, Nat.sub_self]
    refine take_load 25 (.tmp 2) ⟨w.heap.size, 0, none⟩ (.pointer (some ⟨p, 0, none⟩)) rfl rfl rfl (fun u hu => load_disk _ _ _ _ hu.1) ?_
    simp only [Act.put, List.setIfInBounds_toArray, List.set_cons_zero, List.set_cons_succ]
    refine take_nil (.tmp 11) ⟨p, 0, none⟩ rfl rfl rfl ?_
    simp only [Act.put, List.setIfInBounds_toArray, List.set_cons_zero, List.set_cons_succ]
    refine take_one (.pointer (some ⟨p, 1, none⟩)) rfl (fun u _ => by go_simp) ?_
    simp only [Act.put, List.setIfInBounds_toArray, List.set_cons_zero, List.set_cons_succ]
    refine take_load 52 (.tmp 13) ⟨p, 1, none⟩ (.map (some bF)) rfl rfl rfl (fun u hu => load_sectors _ _ _ _ hu.2.1) ?_
    simp only [Act.put, List.setIfInBounds_toArray, List.set_cons_zero, List.set_cons_succ]
    refine take_move (.tmp 4) (.int .i64 (x.1 : Int)) rfl rfl rfl ?_
    simp only [Act.put, List.setIfInBounds_toArray, List.set_cons_zero, List.set_cons_succ]
    refine take_load 63 (.tmp 5) ⟨vb, 0, none⟩ (.agg (u8s x.2)) rfl rfl rfl (fun u hu => Hld.out u hu.2.2) ?_
    simp only [Act.put, List.setIfInBounds_toArray, List.set_cons_zero, List.set_cons_succ]
    refine take_done ?_
    refine mid_list ?_
    refine wpList_mapUpdate_own _ rfl _ _ _ 52 rfl 3 63 keyed Try.underlying52 secElem bF (nf + i) DF' rfl Hown.out.drew (by unfold maxLen; omega) _ (.agg (u8s x.2)) (Dsk.key x.1) rfl rfl (key_of x.1 (by have := H.out.ok.hi; omega)) (.lit (.string x.2)) [] (secElem_mk hxs) ?_
    intro w4 hown4 hg4'
    have hg4 : W.grownBy w4 (some bF) := ⟨hg4'.os, hg4'.tape, hg4'.output, hg4'.size, hg4'.block⟩
    refine ⟨KeepsFrom.of_grown hg4 (fun b e hb o _ => by cases e; omega), ⟨Hist.out.tu.trans (Turns.of_grown hg4) (fun j _ e => by cases e; rfl), grown_row Hist.out.b0 hg4 (by omega), grown_row Hist.out.b1 hg4 (by omega), grown_row Hist.out.b2 hg4 (by omega), _, hown4, ?_⟩⟩
    rw [Dsk.done_succ Hk.out Hx.out, if_pos Ho.out, Dsk.lay_snoc]
    exact Hrd.out.put x.1 x.2
  case hdone =>
    rintro D W hD hist hK2
    have c0 := cell_of_one hist.b0
    have e2 : W.heap[p]? = some (.cells (dcells d bF v bM) 56 (0, 0)) := hist.tu.same H.out.row H.out.pF
    have Hist := Lib.hid hist; clear hist
    have HK2 := Lib.hid hK2; clear hK2
    have E2 := Lib.hid e2; clear e2
    clear hw3
    gi_wp2
    refine wpIn_wide.2 ?_
    have hpl := row_lt E2.out
    have hBl := block_lt_of_cell c0
    simp only at hBl
    have c2 : W.cell? ⟨p, 2, none⟩ = some v := by rw [cell_of_row W p 2 _ _ _ E2.out]; rfl
    have c3 : W.cell? ⟨p, 3, none⟩ = some (.map (some bM)) := by rw [cell_of_row W p 3 _ _ _ E2.out]; rfl
    have f2 : W.frozen? ⟨p, 2, none⟩ = false := row_free E2.out 2
    have f3 : W.frozen? ⟨p, 3, none⟩ = false := row_free E2.out 3
    have n1 : ¬ W.heap.size = p := by omega
    have n2 : ¬ W.heap.size = w.heap.size := by omega
    have n3 : ¬ p = w.heap.size := by have := H.out.lt _ H.out.hp; omega
    have a0 : (W.drew.alloc (.map #[] 0)).cell? ⟨w.heap.size, 0, none⟩ = some (.pointer (some ⟨p, 0, none⟩)) := by rw [World.cell?_of_block (Below.heap_alloc W.drew _ w.heap.size hBl)]; exact c0
    have a2 : (W.drew.alloc (.map #[] 0)).cell? ⟨p, 2, none⟩ = some v := by rw [World.cell?_of_block (Below.heap_alloc W.drew _ p hpl)]; exact c2
    have a3 : (W.drew.alloc (.map #[] 0)).cell? ⟨p, 3, none⟩ = some (.map (some bM)) := by rw [World.cell?_of_block (Below.heap_alloc W.drew _ p hpl)]; exact c3
    have g2 : (W.drew.alloc (.map #[] 0)).frozen? ⟨p, 2, none⟩ = false := by rw [World.frozen?_of_block (Below.heap_alloc W.drew _ p hpl)]; exact f2
    have g3 : (W.drew.alloc (.map #[] 0)).frozen? ⟨p, 3, none⟩ = false := by rw [World.frozen?_of_block (Below.heap_alloc W.drew _ p hpl)]; exact f3
    have hmm := @run_makeMap Try.prog
    have hdn := settle_done H.out Hist.out
    have hDW := row_lt HK2.out
    have hpw := H.out.lt _ H.out.hp
    have hk5 : ((((W.setCell ⟨p, 2, none⟩ (.slice none 0 0)).setCell ⟨p, 3, none⟩ (.map (some W.heap.size))).alloc (.map #[] 0)).drew).heap[D]? = some (.deferred (some [])) := by
      show (World.alloc _ _).heap[D]? = _
      refine row_alloc ?_ _
      rw [heap_setCell_other _ _ _ _ (by simp only; omega), heap_setCell_other _ _ _ _ (by simp only; omega)]
      exact HK2.out
    have Hdn := Lib.hid hdn; clear hdn
    have Hk5 := Lib.hid hk5; clear hk5
    go_region
    clear a0 a2 a3 g2 g3 c0 c2 c3 f2 f3 hmm
    generalize hW5 : (((W.setCell ⟨p, 2, none⟩ (.slice none 0 0)).setCell ⟨p, 3, none⟩ (.map (some W.heap.size))).alloc (.map #[] 0)).drew = W5 at *
    have hd2 := Hdn.out
    have hk2 := Hk5.out
    obtain ⟨tt, DF', hin⟩ := hd2
    have Hk2 := Lib.hid hk2; clear hk2
    have Tt := Lib.hid tt; clear tt
    have Hin := Lib.hid hin; clear hin
    clear Hdn Hk5 hW5
    gi_wp2
    have hne : ∀ k, (S k ∨ k = W.heap.size) → ¬ k = D := fun k hk => by
      rcases hk with hk | rfl
      · have := H.out.lt k hk; omega
      · omega
    have htD : ∀ o', Turns (fun k => k = D) W5 (W5.putObj D o') := fun o' => ⟨rfl, rfl, rfl, by rw [World.putObj_size]; exact Nat.le_refl _, fun k _ hk => World.putObj_heap_other (fun e => hk e)⟩
    refine ⟨by simp, .inl ⟨_, _, rfl, run_takeDeferred Hk2.out, ?_⟩⟩
    refine ⟨_, results_none rfl _ _ _, rfl, Tt.out.trans (htD _) (fun j hj e => by omega), fun j => S j ∨ j = W.heap.size, fun j hj => ?_, bF, W.heap.size, .slice none 0 0, nf + d.L.length, DF', Hin.out.keeps (htD _) hne⟩
    rcases hj with h | h
    · exact .inl h
    · exact .inr (by omega)
end Go.Proofs.Ytjlkppdailkanaa
