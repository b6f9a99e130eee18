/-
  Changes are applied to a map of files.
-/
import Derived.Test.YticcipgdjpoimaaGreatFilMem
import Derived.Test.YticcipgdjpoimaaGreatWalA
import Derived.Test.YticcipgdjpoimaaGreatWalB
import Derived.Test.YticcipgdjpoimaaGreatOctAll
set_option linter.unusedVariables false
set_option maxRecDepth 100000
namespace Go.Proofs.YticcipgdjpoimaaGreat
open Go.RowKit Go.Maps

theorem midk_map {P : Program} {ops : Array Oper} {Q : Exit → Act → World → Prop} {S : World → Prop} {K : Act → World → Prop} {o : Oper} {l : List Oper} {a : Act} {w w' : World} (ty : TypeId) (m x y : Operand) (mv xv vv : Value) (hw : Region.wanted o (yielded ops a.tmps) = true) (ho : o.op = .mapUpdate ty m x y) (hm : a.eval m = mv) (hx : a.eval x = xv) (hy : a.eval y = vv)
    (h : (Instr.mapUpdate ty mv xv vv).run P w = .ok () w') (hS : S w') (hK : wpMidK P ops Q S K l (a.put o.dst undef) w') : wpMidK P ops Q S K (o :: l) a w := by
  refine midk_wp hw ?_
  unfold Oper.wp execOp
  simp only [ho, hm, hx, hy, h, Sem.run_bind, Sem.run_pure, Result.andThen_ok]
  exact ⟨hS, hK⟩
set_option maxHeartbeats 1000000 in
theorem apply_any (bm n : Nat) (r : Fil.Row) (w : World) (hm : ContAt bm n r w) (a : Option Addr) (len cap : Nat) (l : List Chb) (hl : Chgs a len l w) (hok : ∀ x ∈ l, x.Ok) (hn : n ≤ 1099511627776) (hlen : len ≤ 1099511627776) :
    Calls Tryz.prog 31 #[.map (some bm), .slice a len cap] w fun e w' => e = .returned (.tuple #[]) ∧ Turns (fun j => j = bm) w w' ∧ ContAt bm (n + len) (Fil.puts r (chs l)) w' := by
  have hoff := hl.off hm
  have hll := hl.1
  have Hl := Lib.hid hl; clear hl
  have Hok := Lib.hid hok; clear hok
  have Hm := Lib.hid hm; clear hm
  have Hoff := Lib.hid hoff; clear hoff
  go_enter Tryz.func31, Tryz.ntmps31
  go_wp2
  go_loopw [8] (fun i wr => ∃ k n2 : Nat, k ≤ len ∧ n2 ≤ n + k ∧ i = .int .i64 (k : Int) ∧ Turns (fun j => j = bm) w wr ∧ ContAt bm n2 (Fil.puts r (chs (l.take k))) wr) (fun i _ => len - (intOf i).toNat)
  case atStart => exact ⟨0, n, by omega, by omega, rfl, Turns.refl _ _, Hm.out⟩
  case round =>
    obtain ⟨k, n2, hk, hn2, rfl, ht, hm⟩ := hrel
    by_cases hlt : k < len
    · have hlt2 : (k : Int) < (len : Int) := by omega
      have hkl : k < l.length := by omega
      obtain ⟨b, off, rfl, hx⟩ := Hl.out.2 k hlt
      have hbm := Hoff.out b off (by omega) rfl
      have hxw := hx.same (ht.block b (cell_lt hx.n) hbm)
      have hxo := Hok.out (l.getD k default) (by
        rw [List.getD_eq_getElem?_getD, List.getElem?_eq_getElem hkl]
        exact List.getElem_mem _)
      have hxe : ∃ x, x = l.getD k default := ⟨_, rfl⟩
      obtain ⟨x, hxe⟩ := hxe
      rw [← hxe] at hxw hxo
      obtain ⟨xn, xd, xg⟩ := x
      have c0 := hxw.n
      have c1 := hxw.d
      have c2 := hxw.g
      have z0 := hxo.n
      have z1 := hxo.d
      simp only at c0 c1 c2 z0 z1
      have HM := Lib.hid hm; clear hm
      have HT := Lib.hid ht; clear ht
      have Hxe := Lib.hid hxe; clear hxe
      clear hx hxw hxo
      have hxs : bm < wr.heap.size := HM.out.lt
      cases xg with
      | true =>
        have hmA := HM.out.new ((Below.refl _ wr).alloc (Nat.le_refl _) (.cells #[.string xn, .string xd, .bool true] 58))
        go_wp2_with (at_delete; go_loud (refine wpList_delete_own _ rfl (.tmp 14) (.tmp 16) 74 9 rfl 81 str_law Tryz.underlying74 fileElem bm n2 _ rfl hmA (.string xn) _ rfl (key_str xn (by unfold maxLen; omega)) ?_))
        intro w1 hown1 hturn1
        have htf : Turns (fun j => j = bm) w w1 := (HT.out.alloc _).trans (Turns.of_grown hturn1.grown) (fun j _ e => by cases e; rfl)
        have hcf : ContAt bm n2 (Fil.puts r (chs (l.take (k + 1)))) w1 := by
          rw [chs_take l k hkl, ← Hxe.out, Fil.puts_append]
          rw [Fil.D_del] at hown1
          exact hown1
        have Htf := Lib.hid htf; clear htf
        have Hcf := Lib.hid hcf; clear hcf
        clear hown1 hturn1 hmA
        go_wp2_with fail
        go_roundw
        case rel => exact ⟨k + 1, n2, by omega, by omega, by go_num, Htf.out, Hcf.out⟩
        case measure => simp [intOf]; omega
      | false =>
        go_wp2_with fail
        have hm := HM.out.new ((Below.refl _ wr).alloc (Nat.le_refl _) (.cells #[.string xn, .string xd, .bool false] 58))
        have hr0 := heap_alloc_new wr (.cells #[.string xn, .string xd, .bool false] 58)
        have htd := HT.out.alloc (.cells #[.string xn, .string xd, .bool false] 58)
        generalize wr.alloc (.cells #[.string xn, .string xd, .bool false] 58) = w0 at *
        obtain ⟨xb, hxb⟩ : ∃ xb, wr.heap.size = xb := ⟨_, rfl⟩
        rw [hxb] at hr0
        have hxm : xb ≠ bm := by omega
        have d0 : w0.drew.cell? ⟨xb, 0, none⟩ = some (.string xn) := by
          have := cell_of_row w0 xb 0 _ _ _ hr0
          exact this
        have d1 : w0.drew.cell? ⟨xb, 1, none⟩ = some (.string xd) := by
          have := cell_of_row w0 xb 1 _ _ _ hr0
          exact this
        have hxe := Hxe.out.symm
        rw [hxb]
        clear hr0
        refine wp_region_phases [([0, 1, 2, 4, 5], [3, 6, 7, 8])] (by kernel_rfl) (by kernel_rfl) (fun z => z.cell? ⟨xb, 0, none⟩ = some (.string xn) ∧ z.cell? ⟨xb, 1, none⟩ = some (.string xd)) ⟨d0, d1⟩ ?_
        simp only [wpPhases, pick, List.filterMap_cons, List.filterMap_nil, List.getElem?_toArray, List.getElem?_cons_zero, List.getElem?_cons_succ]
        refine take_move (.tmp 0) (.map (some bm)) rfl rfl rfl ?_
        simp only [Act.put, List.setIfInBounds_toArray, List.set_cons_zero, List.set_cons_succ]
        refine take_one (.pointer (some ⟨xb, 0, none⟩)) rfl (fun u _ => by go_simp) ?_
        simp only [Act.put, List.setIfInBounds_toArray, List.set_cons_zero, List.set_cons_succ]
        refine take_load 9 (.tmp 18) ⟨xb, 0, none⟩ (.string xn) rfl rfl rfl (fun u hu => load_any Tryz.underlying9 Tryz.isAgg9 hu.1) ?_
        simp only [Act.put, List.setIfInBounds_toArray, List.set_cons_zero, List.set_cons_succ]
        refine take_one (.pointer (some ⟨xb, 1, none⟩)) rfl (fun u _ => by go_simp) ?_
        simp only [Act.put, List.setIfInBounds_toArray, List.set_cons_zero, List.set_cons_succ]
        refine take_load 9 (.tmp 21) ⟨xb, 1, none⟩ (.string xd) rfl rfl rfl (fun u hu => load_any Tryz.underlying9 Tryz.isAgg9 hu.2) ?_
        simp only [Act.put, List.setIfInBounds_toArray, List.set_cons_zero, List.set_cons_succ]
        refine take_done ?_
        refine midk_wp rfl (call_wp 38 [.tmp 19] #[9] #[.string xn] rfl rfl rfl ?_)
        refine (clone_any xn _ (by omega)).mono ?_
        rintro e wA ⟨rfl, h1⟩
        have hc1 := hm.drew.new h1
        have hx1 : ∀ o v, w0.drew.cell? ⟨xb, o, none⟩ = some v → wA.cell? ⟨xb, o, none⟩ = some v := fun o v h => by rw [World.cell?_of_block (h1.block xb (cell_lt h))]; exact h
        refine ⟨_, rfl, ⟨hx1 _ _ (d0), hx1 _ _ (d1)⟩, ?_⟩
        refine midk_wp rfl (call_wp 38 [.tmp 22] #[9] #[.string xd] rfl rfl rfl ?_)
        refine (clone_any xd _ (by omega)).mono ?_
        rintro e wB ⟨rfl, h2⟩
        have hc2 := hc1.new h2
        have hx2 : ∀ o v, wA.cell? ⟨xb, o, none⟩ = some v → wB.cell? ⟨xb, o, none⟩ = some v := fun o v h => by rw [World.cell?_of_block (h2.block xb (cell_lt h))]; exact h
        refine ⟨_, rfl, ⟨hx2 _ _ (hx1 _ _ d0), hx2 _ _ (hx1 _ _ d1)⟩, ?_⟩
        refine midk_one (.agg #[.string xd]) rfl (by go_simp) ⟨hx2 _ _ (hx1 _ _ d0), hx2 _ _ (hx1 _ _ d1)⟩ ?_
        obtain ⟨wC, hrun, hown, hturn⟩ := World.ownsMap.store hc2 str_law Tryz.underlying74 (by unfold maxLen; omega) (key_str xn (by unfold maxLen; omega)) (fileElem_mk xd)
        have hxC : ∀ o v, wB.cell? ⟨xb, o, none⟩ = some v → wC.cell? ⟨xb, o, none⟩ = some v := fun o v h => by rw [World.cell?_of_block (hturn.grown.block xb (cell_lt h) (by simp; exact fun e => hxm e))]; exact h
        have hput : ContAt bm (n2 + 1) (Fil.puts r (chs (l.take (k + 1)))) wC := by
          rw [Fil.D_put] at hown
          rw [chs_take l k hkl, Fil.puts_append, hxe]
          exact hown
        refine midk_map 74 (.tmp 17) (.tmp 20) (.tmp 24) _ _ _ rfl rfl rfl rfl rfl hrun ⟨hxC _ _ (hx2 _ _ (hx1 _ _ d0)), hxC _ _ (hx2 _ _ (hx1 _ _ d1))⟩ ?_
        refine midk_end ?_
        have htf : Turns (fun j => j = bm) w wC := ((htd.drew.trans (Turns.of_new h1 (fun _ => False)) (fun _ _ e => e.elim)).trans (Turns.of_new h2 (fun _ => False)) (fun _ _ e => e.elim)).trans (Turns.of_grown hturn.grown) (fun j _ e => by cases e; rfl)
        have Htf := Lib.hid htf; clear htf
        have Hcf := Lib.hid hput; clear hput
        clear hown hturn hrun hxC hx1 hx2 hc1 hc2 h1 h2 htd d0 d1 hm
        go_wp2_with fail
        go_roundw
        case rel => exact ⟨k + 1, n2 + 1, by omega, by omega, by go_num, Htf.out, Hcf.out⟩
        case measure => simp [intOf]; omega
    · obtain rfl : k = len := by omega
      have hc : ContAt bm (n + k) (Fil.puts r (chs l)) wr := by
        have h2 : l.take k = l := List.take_of_length_le (by omega)
        rw [h2] at hm
        exact World.ownsMap.mono hm hn2
      have Hc := Lib.hid hc; clear hc hm
      go_wp2_with fail
      go_end0
      exact ⟨rfl, ht, Hc.out⟩
end Go.Proofs.YticcipgdjpoimaaGreat
