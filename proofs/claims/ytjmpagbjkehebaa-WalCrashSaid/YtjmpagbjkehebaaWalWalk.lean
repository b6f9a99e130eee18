/-
  WalCrash: wherever the disk stands still, and whatever a crash leaves, the log that is opened again is the one that was told.
-/
import Derived.Test.YtjmpagbjkehebaaWalSure
import Derived.Deep.DeepCutAuto
set_option linter.unusedVariables false
set_option maxRecDepth 100000
namespace Go.Proofs.Ytjmpagbjkehebaa
open Go.RowKit

theorem Apn.off {W W' : World} {S0 R0 S R : Nat → Prop} {p q : Nat} {d : Dsk.St} {s : Wal.St} {X : Nat} {o : Obj} (h : Apn W S0 R0 [] S R p q d s W') (hx : W.heap[X]? = some o) (h1 : ¬ S0 X) (h2 : ¬ R0 X) : W'.heap[X]? = some o :=
  h.turns.same hx (fun e => e.elim h1 h2)

namespace lawCrash
set_option maxHeartbeats 40000000 in
theorem walk (n0 : Int) (a1 : Option Addr) (len1 cap1 : Nat) (l1 : List WStp) (W : World) (w0 : (Lit.int .i64 n0).wf = true) (hst1 : WStps a1 len1 l1 W) (hok1 : ∀ x ∈ l1, x.Ok) (hll1 : len1 ≤ 2513169434843) :
    Calls Try.prog 3 #[.int .i64 n0, .slice a1 len1 cap1] W fun e W' => e = .returned (.bool true) ∧ Below W.heap.size W W' := by
  have hi0 := wf_i64 w0
  unfold I64 at hi0
  have hhv := wheavy_any n0 (wf_i64 w0) a1 len1 cap1 l1 W hst1 hok1 hll1
  have Hst := Lib.hid hst1; clear hst1
  have Hok := Lib.hid hok1; clear hok1
  have Hhv := Lib.hid hhv; clear hhv
  have hal := fun u => alive_any u
  have Hal := Lib.hid hal; clear hal
  clear w0
  obtain ⟨i0, hi0, hz0, hz1, hz2⟩ := info_parts grp_info
  go_enter Try.func3, Try.ntmps3
  go_wp2_with fail
  refine Hhv.out.mono ?_; rintro e w1 ⟨b, rfl, hb, rfl⟩
  have Hb := Lib.hid hb; clear hb
  cases b with
  | true =>
    go_wp2_with fail
    refine (Hal.out _).mono ?_; rintro e w1 ⟨rfl, hb1⟩
    go_wp2_with fail
    go_ret
    exact ⟨rfl, hb1⟩
  | false =>
    obtain ⟨h60, hks⟩ := Hb.out rfl
    have Hks := Lib.hid hks; clear hks
    by_cases hn2 : n0 < 2
    · have d1 : decide (n0 < 2) = true := decide_eq_true hn2
      go_wp2_with fail
      refine (Hal.out _).mono ?_; rintro e w1 ⟨rfl, hb1⟩
      go_wp2_with fail
      go_ret
      exact ⟨rfl, hb1⟩
    · have d1 : decide (n0 < 2) = false := decide_eq_false hn2
      by_cases hn3 : 100 < n0
      · have d2 : decide (100 < n0) = true := decide_eq_true hn3
        go_wp2_with fail
        refine (Hal.out _).mono ?_; rintro e w1 ⟨rfl, hb1⟩
        go_wp2_with fail
        go_ret
        exact ⟨rfl, hb1⟩
      · have d2 : decide (100 < n0) = false := decide_eq_false hn3
        obtain ⟨n, rfl⟩ := Int.eq_ofNat_of_zero_le (show 0 ≤ n0 by omega)
        have m2 : 2 ≤ n := by omega
        have m3 : n ≤ 100 := by omega
        have hnw := fun u => new_any n (by omega) (by omega) u
        have Hnw := Lib.hid hnw; clear hnw
        clear hi0
        go_wp2_with fail
        refine (Hnw.out _).mono ?_; rintro e w1 ⟨rfl, b1, d1'⟩
        generalize W.heap.size + 2 = q at d1' ⊢
        have s1 : ∀ j, NewS W j → W.heap.size ≤ j := fun j h => h.1
        have g0 := Wal.new_good (n := n) m2 (by omega)
        have hop := open_is d1' 0 n m2 (by show 0 + n ≤ n; omega) ⟨0, 0, 0, n, [], 0⟩ (Wal.open_good g0 (g0.live rfl).1 (g0.live rfl).2 rfl)
        have Hop := Lib.hid hop; clear hop
        have D1 := Lib.hid d1'; clear d1'
        have B1 := Lib.hid b1; clear b1
        go_wp2_with fail
        refine Hop.out.mono ?_; rintro e w2 ⟨b2, R, p, rfl, hw, hR⟩
        have hA := Apn.make (B1.out.trans (b2.mono B1.out.size)) (D1.out.new b2) hw (fun j hj hr => by have := D1.out.lt j hj; have := hR j hr; omega) s1 (fun j hj => by have := hR j hj; have := B1.out.size; omega)
        have hC : Crs W n (NewS W) R (fun _ => False) p q (Dsk.new n) ⟨0, 0, 0, n, [], 0⟩ (.slice none 0 0) [] w2 := ⟨hA, g0, GRows.nil _ _ (fun k hk => hk.elim), fun j hj => hj.elim, fun j hj => hj.elim, rfl, rfl⟩
        have HC := Lib.hid hC; clear hC
        clear hA hw hR b2 g0
        go_wp2_with fail
        go_loopw [7, 9, 10, 11, 12, 13] (fun s7 s9 s10 s11 s12 s13 wr => ∃ (i p : Nat) (S R Q : Nat → Prop) (d : Dsk.St) (s : Wal.St), i ≤ len1 ∧ s13 = .int .i64 (i : Int) ∧ s7 = .pointer (some ⟨p, 0, none⟩) ∧ s12 = .int .u64 (s.gen : Int) ∧ (∃ am nm cm, s10 = .slice am nm cm) ∧ (∃ b, s11 = .bool b) ∧
          Crs W n S R Q p q d s s9 s.L wr ∧ d.ops ≤ i * 20000) (fun _ _ _ _ _ s13 _ => len1 - (intOf s13).toNat)
        case atStart => exact ⟨0, p, NewS W, R, _, Dsk.new n, ⟨0, 0, 0, n, [], 0⟩, by omega, rfl, rfl, rfl, ⟨_, _, _, rfl⟩, ⟨_, rfl⟩, HC.out, by show 0 ≤ _; omega⟩
        case round =>
          obtain ⟨i, p, S, R, Q, d, s, hi, rfl, rfl, rfl, ⟨am, nm, cm, rfl⟩, ⟨bu, rfl⟩, hC, hops⟩ := hrel
          by_cases hlt : i < len1
          · have hlt2 : (i : Int) < (len1 : Int) := by omega
            have hll := Hst.out.1
            obtain ⟨b, off, rfl, hx0⟩ := Hst.out.2 i hlt
            have hx := hx0.keep hC.below
            have hmem : l1.getD i default ∈ l1 := by
              rw [List.getD_eq_getElem?_getD, List.getElem?_eq_getElem (by rw [hll]; exact hlt)]
              exact List.getElem_mem _
            have hxo := Hok.out _ hmem
            have hxk := Hks.out _ hmem
            generalize l1.getD i default = x at *
            obtain ⟨xd, xn, xa, xc, xl, xk⟩ := x
            have c0 := hx.d
            have c1 := hx.n
            have c2 := hx.l
            have c3 := hx.k
            simp only at c0 c1 c2 c3 hxk
            have hxn := hxo.n
            unfold I64 at hxn
            simp only at hxn
            obtain ⟨a9, c9, hv9, _⟩ := hC.sure.form
            subst hv9
            have HX := Lib.hid hx; clear hx
            have HX0 := Lib.hid hx0; clear hx0
            have HXO := Lib.hid hxo; clear hxo
            have HCr := Lib.hid hC; clear hC
            clear hmem
            by_cases h0 : xd = 0
            · subst h0
              as_aux_lemma =>
                have hwA : Below wr.heap.size wr (wr.alloc (.cells #[.int .i64 0, .int .i64 xn, .slice xa xl.length xc, .string xk] 36)) := (Below.refl _ wr).alloc (Nat.le_refl _) _
                have HA := Lib.hid (HCr.out.new hwA)
                have RA := Lib.hid (heap_alloc_new wr (.cells #[.int .i64 0, .int .i64 xn, .slice xa xl.length xc, .string xk] 36))
                have nS : ¬ S wr.heap.size := fun e => by have := HCr.out.apn.disk.lt _ e; omega
                have nR : ¬ R wr.heap.size := fun e => by have := HCr.out.apn.wal.lt _ e; omega
                have hxa0 := RA.out
                have xc2 : (wr.alloc (.cells #[.int .i64 0, .int .i64 xn, .slice xa xl.length xc, .string xk] 36)).cell? ⟨wr.heap.size, 2, none⟩ = some (.slice xa xl.length xc) := by rw [cell_of_row _ _ 2 _ _ _ hxa0]; rfl
                clear hxa0
                go_wp2_with fail
                refine (fault_any HA.out.apn.wal).mono ?_; rintro e wf ⟨rfl, rfl⟩
                go_wp2_with fail
                have hap := append_any (l := lists xl) HA.out.apn.disk HA.out.apn.wal HA.out.apn.apart HA.out.good.ok (by omega) xa xl.length xc (by rw [bas_lists]; exact HX.out.s.keep hwA)
                  (fun b' off' hpos e hc => by
                    obtain ⟨b2, off2, e2, hcell⟩ := (HX0.out.s).2 0 hpos
                    rw [e] at e2
                    simp only [Option.some.injEq, Addr.mk.injEq] at e2
                    have hblt := cell_lt hcell
                    rw [← e2.1] at hblt
                    rcases hc with hc | hc
                    · have := HA.out.apn.loS _ hc; simp at this; omega
                    · have := HA.out.apn.loR _ hc; simp at this; omega) (by have := HXO.out.ll; simp only at this; omega) (fun j => by rw [bas_lists]; have := getD_size_le xl 140737488351232 HXO.out.ls j; omega)
                refine hap.mono ?_
                obtain ⟨hgood, hcase⟩ := Wal.append_good HA.out.good (lists xl)
                have hops' := Wal.append_ops (d := d) HA.out.good.ok (lists xl)
                generalize Wal.append d s (lists xl) = r at *
                obtain ⟨d', s', E⟩ := r
                simp only at hgood hcase hops' ⊢
                rintro e w4 ⟨rfl, S', R', kA⟩
                clear hap
                rcases hcase with ⟨hEz, he1, he2, hL', hgen', hf', hn'⟩ | ⟨hEn, hL', hgen', hf', hn'⟩
                · have HL := Lib.hid hL'; clear hL'
                  have K := Lib.hid (HA.out.go kA hgood hf' hn')
                  have RX := Lib.hid (kA.off RA.out nS nR)
                  subst hEz
                  clear kA hwA
                  go_wp2_with fail
                  obtain ⟨hr0, vs, hr1, hr2, hr3⟩ := K.out.sure
                  have hLs : s.L.length ≤ 1048576 := by have := HCr.out.short; omega
                  have hone := Grps.onecell hr3
                  refine wp_region_phases [([0, 2, 3], [1, 4, 5, 6, 7])] (by kernel_rfl) (by kernel_rfl) (fun z => z.heap[wr.heap.size]? = some (.cells #[.int .i64 0, .int .i64 xn, .slice xa xl.length xc, .string xk] 36 (0, 0))) RX.out ?_
                  simp only [wpPhases, pick, List.filterMap_cons, List.filterMap_nil, List.getElem?_toArray, List.getElem?_cons_zero, List.getElem?_cons_succ]
                  refine take_move (.tmp 9) (.slice a9 s.L.length c9) rfl rfl rfl ?_
                  simp only [Act.put, List.setIfInBounds_toArray, List.set_cons_zero, List.set_cons_succ]
                  refine take_one (.pointer (some ⟨wr.heap.size, 2, none⟩)) rfl (fun u _ => by go_simp) ?_
                  simp only [Act.put, List.setIfInBounds_toArray, List.set_cons_zero, List.set_cons_succ]
                  refine take_load 34 (.tmp 79) ⟨wr.heap.size, 2, none⟩ (.slice xa xl.length xc) rfl rfl rfl (fun u hu => load_any Try.underlying34 Try.isAgg34 (by rw [cell_of_row u _ 2 _ _ _ hu]; rfl)) ?_
                  simp only [Act.put, List.setIfInBounds_toArray, List.set_cons_zero, List.set_cons_succ]
                  refine take_done ?_
                  have hr1d : w4.drew.ownsRow 0 34 1 (.slice a9 s.L.length c9) s.L.length vs := World.ownsRow.drew hr1
                  refine midk_wp rfl (wp_append_row (.const (.slice none 0 0)) (.tmp 77) 32 rfl w4.heap.size 34 i0 (.slice none 0 0) 1 24 Try.underlying32 hi0 hz0 hz1 hz2 rfl (by decide) (.slice none 0 0) 0 [] rfl (World.ownsRow_nil _ _ _ _) 0 (.slice a9 s.L.length c9) s.L.length vs rfl hr1d hone (by unfold maxLen; omega) (by omega) (Nat.le_refl _) ?_)
                  intro v1 wa hown1 hg1 _
                  have hba : Below w4.heap.size w4 wa := ((Below.refl _ w4).drew).trans (below_of_grown hg1 (fun k hk => by simp [Value.ownBlock] at hk))
                  have hown1' : wa.ownsRow w4.heap.size 34 1 v1 s.L.length vs := by simpa using hown1
                  have hXs := row_lt RX.out
                  refine ⟨row_below RX.out hba hXs, ?_⟩
                  simp only [Act.put, List.setIfInBounds_toArray, List.set_cons_zero, List.set_cons_succ]
                  obtain ⟨u9, wb, hrun, hown9, hbb⟩ := run_append_strs (w := wa) ((HX0.out.s.keep K.out.below).keep hba) HX.out.z HXO.out.ll
                  simp only at hrun hown9
                  have hbab : Below w4.heap.size w4 wb := hba.trans (hbb.mono hba.size)
                  refine midk_wp rfl (wp_append_run (.const (.slice none 0 0)) (.tmp 80) 34 rfl (.slice none 0 0) (.slice xa xl.length xc) rfl rfl hrun ⟨row_below RX.out hbab hXs, ?_⟩)
                  simp only [Act.put, List.setIfInBounds_toArray, List.set_cons_zero, List.set_cons_succ]
                  obtain ⟨a8, c8, hv8, _⟩ := hown9.strs
                  have hbA : Below wb.heap.size wb (wb.alloc (.cells #[.slice a8 xl.length c8] 34)) := (Below.refl _ wb).alloc (Nat.le_refl _) _
                  have hb5 : Below w4.heap.size w4 (wb.alloc (.cells #[.slice a8 xl.length c8] 34)) := hbab.trans (hbA.mono hbab.size)
                  subst hv8
                  refine midk_one (w' := wb.alloc (.cells #[.slice a8 xl.length c8] 34)) (.slice (some ⟨wb.heap.size, 0, none⟩) 1 1) rfl (run_slice_op 32 1 [(0, .tmp 81)] rfl (slice_grp _ _ _ wb)) (row_below RX.out hb5 hXs) ?_
                  simp only [Act.put, List.setIfInBounds_toArray, List.set_cons_zero, List.set_cons_succ]
                  have h15 : (wb.alloc (.cells #[.slice a8 xl.length c8] 34)).ownsRow w4.heap.size 34 1 v1 s.L.length vs := ownsRow_new (ownsRow_new hown1' hbb) hbA
                  have hu5 : Own w4.heap.size (.slice a8 xl.length c8) (bas (lists xl)) (wb.alloc (.cells #[.slice a8 xl.length c8] 34)) := by
                    rw [bas_lists]
                    exact ((Own.low hown9 hba.size).new hbA)
                  refine midk_wp rfl (wp_append_row (.tmp 78) (.tmp 82) 32 rfl w4.heap.size 34 i0 (.slice none 0 0) 1 24 Try.underlying32 hi0 hz0 hz1 hz2 rfl (by decide) v1 s.L.length vs rfl h15 0 (.slice (some ⟨wb.heap.size, 0, none⟩) 1 1) 1 [.slice a8 xl.length c8] rfl (World.ownsRow_lit (e := 34) (size := 1) wb #[.slice a8 xl.length c8] 1 (Nat.zero_le _) (by decide) rfl) (by intro z hz; simp at hz; subst hz; rfl) (by unfold maxLen; omega) (by omega) hb5.size ?_)
                  intro v6 w6 hown6 hg6 _
                  obtain ⟨hsure, hb46⟩ := sure_next hr0 hr3 hb5 h15 hu5 hown6 hg6
                  refine ⟨row_below RX.out hb46 hXs, ?_⟩
                  simp only [Act.put, List.setIfInBounds_toArray, List.set_cons_zero, List.set_cons_succ]
                  refine midk_one v6 rfl rfl (row_below RX.out hb46 hXs) ?_
                  simp only [Act.put, List.setIfInBounds_toArray, List.set_cons_zero, List.set_cons_succ]
                  refine midk_end ?_
                  rw [← HL.out] at hsure
                  obtain ⟨a6, c6, hv6, _⟩ := hsure.form
                  subst hv6
                  have K6 : Hid (Crs W n S' R' (fun k => Q k ∨ (w4.heap.size ≤ k ∧ k < w6.heap.size)) p q d' s' (.slice a6 s'.L.length c6) s'.L w6) := Lib.hid (by
                    exact K.out.resure hb46 hsure (fun j hj => by
                      rcases hj with hj | hj
                      · exact .inl hj
                      · exact .inr hj.1))
                  clear hsure hb46 hown6 hg6 hu5 h15 hb5 hbA hbab hrun hown9 hbb hown1 hown1' hg1 hba hr1d hone hr0 hr1 hr2 hr3 xc2
                  go_wp2_with fail
                  refine (fault_any K6.out.apn.wal).mono ?_; rintro e wf ⟨rfl, rfl⟩
                  by_cases hE0 : s'.err = 0
                  · have hE : (s'.err == 0) = true := by rw [beq_iff_eq]; exact hE0
                    clear hE0
                    go_wp2_with fail
                    refine (groups_any K6.out.apn.wal (by have := K6.out.short; omega) K6.out.slim).mono ?_; rintro e wg ⟨bg, vg, rfl, gg⟩
                    obtain ⟨ag, cg, hvg, _⟩ := gg.form
                    subst hvg
                    have GG := Lib.hid gg; clear gg
                    go_wp2_with fail
                    have hsm := sameGrps_eq _ _ s'.L _ GG.out (K6.out.sure.new bg) (by have := K6.out.short; omega) K6.out.slim
                    refine hsm.mono ?_; rintro e wh ⟨rfl, bh⟩
                    have HF := Lib.hid ((K6.out.new bg).new bh); clear bg bh hsm
                    go_wp2_with fail
                    have hgn := gen_any HF.out.apn.wal
                    rw [hgen'] at hgn
                    refine hgn.mono ?_; rintro e wk ⟨rfl, rfl⟩
                    go_wp2_with fail
                    go_roundw
                    case rel => exact ⟨i + 1, p, S', R', (fun k => Q k ∨ (w4.heap.size ≤ k ∧ k < w6.heap.size)), d', s', by omega, by go_num, rfl, by rw [hgen'], ⟨_, _, _, rfl⟩, ⟨_, rfl⟩, HF.out, by have := hops'; omega⟩
                    case measure => simp [intOf]; omega
                  · exact absurd (by assumption) hE0
                · have HL := Lib.hid hL'; clear hL'
                  have K := Lib.hid (HA.out.go kA hgood hf' hn')
                  have RX := Lib.hid (kA.off RA.out nS nR)
                  clear kA hwA
                  have hxE : (E == 0) = false := by rw [beq_eq_false_iff_ne]; exact hEn
                  have K0 : Hid (Crs W n S' R' Q p q d' s' (.slice a9 s.L.length c9) s'.L w4) := Lib.hid (by rw [HL.out]; exact K.out)
                  by_cases hs0 : s.err = 0
                  · have hsb : (s.err == 0) = true := by rw [beq_iff_eq]; exact hs0
                    by_cases h40 : E = 40
                    · subst h40
                      go_wp2_with fail
                      obtain ⟨hr0, vs, hr1, hr2, hr3⟩ := K.out.sure
                      have hLs : s.L.length ≤ 1048576 := by have := HCr.out.short; omega
                      have hone := Grps.onecell hr3
                      refine wp_region_phases [([0, 2, 3], [1, 4, 5, 6, 7])] (by kernel_rfl) (by kernel_rfl) (fun z => z.heap[wr.heap.size]? = some (.cells #[.int .i64 0, .int .i64 xn, .slice xa xl.length xc, .string xk] 36 (0, 0))) RX.out ?_
                      simp only [wpPhases, pick, List.filterMap_cons, List.filterMap_nil, List.getElem?_toArray, List.getElem?_cons_zero, List.getElem?_cons_succ]
                      refine take_move (.tmp 9) (.slice a9 s.L.length c9) rfl rfl rfl ?_
                      simp only [Act.put, List.setIfInBounds_toArray, List.set_cons_zero, List.set_cons_succ]
                      refine take_one (.pointer (some ⟨wr.heap.size, 2, none⟩)) rfl (fun u _ => by go_simp) ?_
                      simp only [Act.put, List.setIfInBounds_toArray, List.set_cons_zero, List.set_cons_succ]
                      refine take_load 34 (.tmp 92) ⟨wr.heap.size, 2, none⟩ (.slice xa xl.length xc) rfl rfl rfl (fun u hu => load_any Try.underlying34 Try.isAgg34 (by rw [cell_of_row u _ 2 _ _ _ hu]; rfl)) ?_
                      simp only [Act.put, List.setIfInBounds_toArray, List.set_cons_zero, List.set_cons_succ]
                      refine take_done ?_
                      have hr1d : w4.drew.ownsRow 0 34 1 (.slice a9 s.L.length c9) s.L.length vs := World.ownsRow.drew hr1
                      refine midk_wp rfl (wp_append_row (.const (.slice none 0 0)) (.tmp 90) 32 rfl w4.heap.size 34 i0 (.slice none 0 0) 1 24 Try.underlying32 hi0 hz0 hz1 hz2 rfl (by decide) (.slice none 0 0) 0 [] rfl (World.ownsRow_nil _ _ _ _) 0 (.slice a9 s.L.length c9) s.L.length vs rfl hr1d hone (by unfold maxLen; omega) (by omega) (Nat.le_refl _) ?_)
                      intro v1 wa hown1 hg1 _
                      have hba : Below w4.heap.size w4 wa := ((Below.refl _ w4).drew).trans (below_of_grown hg1 (fun k hk => by simp [Value.ownBlock] at hk))
                      have hown1' : wa.ownsRow w4.heap.size 34 1 v1 s.L.length vs := by simpa using hown1
                      have hXs := row_lt RX.out
                      refine ⟨row_below RX.out hba hXs, ?_⟩
                      simp only [Act.put, List.setIfInBounds_toArray, List.set_cons_zero, List.set_cons_succ]
                      obtain ⟨u9, wb, hrun, hown9, hbb⟩ := run_append_strs (w := wa) ((HX0.out.s.keep K.out.below).keep hba) HX.out.z HXO.out.ll
                      simp only at hrun hown9
                      have hbab : Below w4.heap.size w4 wb := hba.trans (hbb.mono hba.size)
                      refine midk_wp rfl (wp_append_run (.const (.slice none 0 0)) (.tmp 93) 34 rfl (.slice none 0 0) (.slice xa xl.length xc) rfl rfl hrun ⟨row_below RX.out hbab hXs, ?_⟩)
                      simp only [Act.put, List.setIfInBounds_toArray, List.set_cons_zero, List.set_cons_succ]
                      obtain ⟨a8, c8, hv8, _⟩ := hown9.strs
                      have hbA : Below wb.heap.size wb (wb.alloc (.cells #[.slice a8 xl.length c8] 34)) := (Below.refl _ wb).alloc (Nat.le_refl _) _
                      have hb5 : Below w4.heap.size w4 (wb.alloc (.cells #[.slice a8 xl.length c8] 34)) := hbab.trans (hbA.mono hbab.size)
                      subst hv8
                      refine midk_one (w' := wb.alloc (.cells #[.slice a8 xl.length c8] 34)) (.slice (some ⟨wb.heap.size, 0, none⟩) 1 1) rfl (run_slice_op 32 1 [(0, .tmp 94)] rfl (slice_grp _ _ _ wb)) (row_below RX.out hb5 hXs) ?_
                      simp only [Act.put, List.setIfInBounds_toArray, List.set_cons_zero, List.set_cons_succ]
                      have h15 : (wb.alloc (.cells #[.slice a8 xl.length c8] 34)).ownsRow w4.heap.size 34 1 v1 s.L.length vs := ownsRow_new (ownsRow_new hown1' hbb) hbA
                      have hu5 : Own w4.heap.size (.slice a8 xl.length c8) (bas (lists xl)) (wb.alloc (.cells #[.slice a8 xl.length c8] 34)) := by
                        rw [bas_lists]
                        exact ((Own.low hown9 hba.size).new hbA)
                      refine midk_wp rfl (wp_append_row (.tmp 91) (.tmp 95) 32 rfl w4.heap.size 34 i0 (.slice none 0 0) 1 24 Try.underlying32 hi0 hz0 hz1 hz2 rfl (by decide) v1 s.L.length vs rfl h15 0 (.slice (some ⟨wb.heap.size, 0, none⟩) 1 1) 1 [.slice a8 xl.length c8] rfl (World.ownsRow_lit (e := 34) (size := 1) wb #[.slice a8 xl.length c8] 1 (Nat.zero_le _) (by decide) rfl) (by intro z hz; simp at hz; subst hz; rfl) (by unfold maxLen; omega) (by omega) hb5.size ?_)
                      intro v6 w6 hown6 hg6 _
                      obtain ⟨hsure, hb46⟩ := sure_next hr0 hr3 hb5 h15 hu5 hown6 hg6
                      refine ⟨row_below RX.out hb46 hXs, ?_⟩
                      simp only [Act.put, List.setIfInBounds_toArray, List.set_cons_zero, List.set_cons_succ]
                      refine midk_one v6 rfl rfl (row_below RX.out hb46 hXs) ?_
                      simp only [Act.put, List.setIfInBounds_toArray, List.set_cons_zero, List.set_cons_succ]
                      refine midk_end ?_
                      skip
                      obtain ⟨a6, c6, hv6, _⟩ := hsure.form
                      subst hv6
                      have K6 : Hid (Crs W n S' R' Q p q d' s' (.slice a9 s.L.length c9) s'.L w6) := Lib.hid (K0.out.new hb46)
                      clear hsure hb46 hown6 hg6 hu5 h15 hb5 hbA hbab hrun hown9 hbb hown1 hown1' hg1 hba hr1d hone hr0 hr1 hr2 hr3 xc2
                      go_wp2_with fail
                      refine (fault_any K6.out.apn.wal).mono ?_; rintro e wf ⟨rfl, rfl⟩
                      by_cases hE0 : s'.err = 0
                      · have hE : (s'.err == 0) = true := by rw [beq_iff_eq]; exact hE0
                        clear hE0
                        go_wp2_with fail
                        refine (groups_any K6.out.apn.wal (by have := K6.out.short; omega) K6.out.slim).mono ?_; rintro e wg ⟨bg, vg, rfl, gg⟩
                        obtain ⟨ag, cg, hvg, _⟩ := gg.form
                        subst hvg
                        have GG := Lib.hid gg; clear gg
                        go_wp2_with fail
                        have hsm := sameGrps_eq _ _ s'.L _ GG.out (K6.out.sure.new bg) (by have := K6.out.short; omega) K6.out.slim
                        refine hsm.mono ?_; rintro e wh ⟨rfl, bh⟩
                        have HF := Lib.hid ((K6.out.new bg).new bh); clear bg bh hsm
                        go_wp2_with fail
                        have hgn := gen_any HF.out.apn.wal
                        rw [hgen'] at hgn
                        refine hgn.mono ?_; rintro e wk ⟨rfl, rfl⟩
                        go_wp2_with fail
                        go_roundw
                        case rel => exact ⟨i + 1, p, S', R', Q, d', s', by omega, by go_num, rfl, by rw [hgen'], ⟨_, _, _, rfl⟩, ⟨_, rfl⟩, HF.out, by have := hops'; omega⟩
                        case measure => simp [intOf]; omega
                      · have hE : (s'.err == 0) = false := by rw [beq_eq_false_iff_ne]; exact hE0
                        clear hE0
                        go_wp2_with fail
                        go_roundw
                        case rel => exact ⟨i + 1, p, S', R', Q, d', s', by omega, by go_num, rfl, by rw [hgen'], ⟨_, _, _, rfl⟩, ⟨_, rfl⟩, K6.out, by have := hops'; omega⟩
                        case measure => simp [intOf]; omega
                    · have h4b : (E == 40) = false := by rw [beq_eq_false_iff_ne]; exact h40
                      go_wp2_with fail
                      refine (fault_any K0.out.apn.wal).mono ?_; rintro e wf ⟨rfl, rfl⟩
                      by_cases hE0 : s'.err = 0
                      · have hE : (s'.err == 0) = true := by rw [beq_iff_eq]; exact hE0
                        clear hE0
                        go_wp2_with fail
                        refine (groups_any K0.out.apn.wal (by have := K0.out.short; omega) K0.out.slim).mono ?_; rintro e wg ⟨bg, vg, rfl, gg⟩
                        obtain ⟨ag, cg, hvg, _⟩ := gg.form
                        subst hvg
                        have GG := Lib.hid gg; clear gg
                        go_wp2_with fail
                        have hsm := sameGrps_eq _ _ s'.L _ GG.out (K0.out.sure.new bg) (by have := K0.out.short; omega) K0.out.slim
                        refine hsm.mono ?_; rintro e wh ⟨rfl, bh⟩
                        have HF := Lib.hid ((K0.out.new bg).new bh); clear bg bh hsm
                        go_wp2_with fail
                        have hgn := gen_any HF.out.apn.wal
                        rw [hgen'] at hgn
                        refine hgn.mono ?_; rintro e wk ⟨rfl, rfl⟩
                        go_wp2_with fail
                        go_roundw
                        case rel => exact ⟨i + 1, p, S', R', Q, d', s', by omega, by go_num, rfl, by rw [hgen'], ⟨_, _, _, rfl⟩, ⟨_, rfl⟩, HF.out, by have := hops'; omega⟩
                        case measure => simp [intOf]; omega
                      · have hE : (s'.err == 0) = false := by rw [beq_eq_false_iff_ne]; exact hE0
                        clear hE0
                        go_wp2_with fail
                        go_roundw
                        case rel => exact ⟨i + 1, p, S', R', Q, d', s', by omega, by go_num, rfl, by rw [hgen'], ⟨_, _, _, rfl⟩, ⟨_, rfl⟩, K0.out, by have := hops'; omega⟩
                        case measure => simp [intOf]; omega
                  · have hsb : (s.err == 0) = false := by rw [beq_eq_false_iff_ne]; exact hs0
                    go_wp2_with fail
                    refine (fault_any K0.out.apn.wal).mono ?_; rintro e wf ⟨rfl, rfl⟩
                    by_cases hE0 : s'.err = 0
                    · have hE : (s'.err == 0) = true := by rw [beq_iff_eq]; exact hE0
                      clear hE0
                      go_wp2_with fail
                      refine (groups_any K0.out.apn.wal (by have := K0.out.short; omega) K0.out.slim).mono ?_; rintro e wg ⟨bg, vg, rfl, gg⟩
                      obtain ⟨ag, cg, hvg, _⟩ := gg.form
                      subst hvg
                      have GG := Lib.hid gg; clear gg
                      go_wp2_with fail
                      have hsm := sameGrps_eq _ _ s'.L _ GG.out (K0.out.sure.new bg) (by have := K0.out.short; omega) K0.out.slim
                      refine hsm.mono ?_; rintro e wh ⟨rfl, bh⟩
                      have HF := Lib.hid ((K0.out.new bg).new bh); clear bg bh hsm
                      go_wp2_with fail
                      have hgn := gen_any HF.out.apn.wal
                      rw [hgen'] at hgn
                      refine hgn.mono ?_; rintro e wk ⟨rfl, rfl⟩
                      go_wp2_with fail
                      go_roundw
                      case rel => exact ⟨i + 1, p, S', R', Q, d', s', by omega, by go_num, rfl, by rw [hgen'], ⟨_, _, _, rfl⟩, ⟨_, rfl⟩, HF.out, by have := hops'; omega⟩
                      case measure => simp [intOf]; omega
                    · have hE : (s'.err == 0) = false := by rw [beq_eq_false_iff_ne]; exact hE0
                      clear hE0
                      go_wp2_with fail
                      go_roundw
                      case rel => exact ⟨i + 1, p, S', R', Q, d', s', by omega, by go_num, rfl, by rw [hgen'], ⟨_, _, _, rfl⟩, ⟨_, rfl⟩, K0.out, by have := hops'; omega⟩
                      case measure => simp [intOf]; omega
            · have h0b : (xd == 0) = false := by rw [beq_eq_false_iff_ne]; exact h0
              by_cases h1 : xd = 1
              · subst h1
                as_aux_lemma =>
                  have hwA : Below wr.heap.size wr (wr.alloc (.cells #[.int .i64 1, .int .i64 xn, .slice xa xl.length xc, .string xk] 36)) := (Below.refl _ wr).alloc (Nat.le_refl _) _
                  have HA := Lib.hid (HCr.out.new hwA)
                  have RA := Lib.hid (heap_alloc_new wr (.cells #[.int .i64 1, .int .i64 xn, .slice xa xl.length xc, .string xk] 36))
                  have nS : ¬ S wr.heap.size := fun e => by have := HCr.out.apn.disk.lt _ e; omega
                  have nR : ¬ R wr.heap.size := fun e => by have := HCr.out.apn.wal.lt _ e; omega
                  go_wp2_with fail
                  refine (fault_any HA.out.apn.wal).mono ?_; rintro e wf ⟨rfl, rfl⟩
                  go_wp2_with fail
                  have hap := reset_any HA.out.apn.disk HA.out.apn.wal HA.out.apn.apart HA.out.good.ok (by omega)
                  refine hap.mono ?_
                  obtain ⟨hgood, hcase⟩ := Wal.reset_good HA.out.good
                  have hops0 := Wal.reset_ops d s
                  have hops' : (Wal.reset d s).1.ops ≤ d.ops + 16385 := by omega
                  generalize Wal.reset d s = r at *
                  obtain ⟨d', s', E⟩ := r
                  simp only at hgood hcase hops' ⊢
                  rintro e w4 ⟨rfl, S', R', kA⟩
                  clear hap hops0
                  rcases hcase with ⟨hEz, he1, he2, hL', hgen', hf', hn'⟩ | ⟨hEn, hL', hgen', hf', hn'⟩
                  · have HL := Lib.hid hL'; clear hL'
                    have K := Lib.hid (HA.out.go kA hgood hf' hn')
                    subst hEz
                    clear kA hwA
                    have hgl := HCr.out.good.ok.gen
                    have hup : IntKind.u64.wrap ((s.gen : Int) + 1) = ((Wal.up s.gen : Nat) : Int) := by
                      rw [IntKind.wrap_u64]; unfold Wal.up; omega
                    have K6 : Hid (Crs W n S' R' (fun _ => False) p q d' s' (.slice none 0 0) s'.L w4) := Lib.hid (by
                      rw [HL.out]
                      exact K.out.resure (Below.refl _ _) (GRows.nil _ _ (fun k hk => hk.elim)) (fun j hj => hj.elim))
                    go_wp2_with fail
                    refine (fault_any K6.out.apn.wal).mono ?_; rintro e wf ⟨rfl, rfl⟩
                    by_cases hE0 : s'.err = 0
                    · have hE : (s'.err == 0) = true := by rw [beq_iff_eq]; exact hE0
                      clear hE0
                      go_wp2_with fail
                      refine (groups_any K6.out.apn.wal (by have := K6.out.short; omega) K6.out.slim).mono ?_; rintro e wg ⟨bg, vg, rfl, gg⟩
                      obtain ⟨ag, cg, hvg, _⟩ := gg.form
                      subst hvg
                      have GG := Lib.hid gg; clear gg
                      go_wp2_with fail
                      have hsm := sameGrps_eq _ _ s'.L _ GG.out (K6.out.sure.new bg) (by have := K6.out.short; omega) K6.out.slim
                      refine hsm.mono ?_; rintro e wh ⟨rfl, bh⟩
                      have HF := Lib.hid ((K6.out.new bg).new bh); clear bg bh hsm
                      go_wp2_with fail
                      have hgn := gen_any HF.out.apn.wal
                      rw [hgen'] at hgn
                      refine hgn.mono ?_; rintro e wk ⟨rfl, rfl⟩
                      go_wp2_with fail
                      go_roundw
                      case rel => exact ⟨i + 1, p, S', R', (fun _ => False), d', s', by omega, by go_num, rfl, by rw [hgen'], ⟨_, _, _, rfl⟩, ⟨_, rfl⟩, HF.out, by have := hops'; omega⟩
                      case measure => simp [intOf]; omega
                    · exact absurd (by assumption) hE0
                  · have HL := Lib.hid hL'; clear hL'
                    have K := Lib.hid (HA.out.go kA hgood hf' hn')
                    clear kA hwA
                    have hxE : (E == 0) = false := by rw [beq_eq_false_iff_ne]; exact hEn
                    have K0 : Hid (Crs W n S' R' Q p q d' s' (.slice a9 s.L.length c9) s'.L w4) := Lib.hid (by rw [HL.out]; exact K.out)
                    by_cases hs0 : s.err = 0
                    · have hsb : (s.err == 0) = true := by rw [beq_iff_eq]; exact hs0
                      by_cases h40 : E = 40
                      · subst h40
                        go_wp2_with fail
                        refine (fault_any K0.out.apn.wal).mono ?_; rintro e wf ⟨rfl, rfl⟩
                        by_cases hE0 : s'.err = 0
                        · have hE : (s'.err == 0) = true := by rw [beq_iff_eq]; exact hE0
                          clear hE0
                          go_wp2_with fail
                          refine (groups_any K0.out.apn.wal (by have := K0.out.short; omega) K0.out.slim).mono ?_; rintro e wg ⟨bg, vg, rfl, gg⟩
                          obtain ⟨ag, cg, hvg, _⟩ := gg.form
                          subst hvg
                          have GG := Lib.hid gg; clear gg
                          go_wp2_with fail
                          have hsm := sameGrps_eq _ _ s'.L _ GG.out (K0.out.sure.new bg) (by have := K0.out.short; omega) K0.out.slim
                          refine hsm.mono ?_; rintro e wh ⟨rfl, bh⟩
                          have HF := Lib.hid ((K0.out.new bg).new bh); clear bg bh hsm
                          go_wp2_with fail
                          have hgn := gen_any HF.out.apn.wal
                          rw [hgen'] at hgn
                          refine hgn.mono ?_; rintro e wk ⟨rfl, rfl⟩
                          go_wp2_with fail
                          go_roundw
                          case rel => exact ⟨i + 1, p, S', R', Q, d', s', by omega, by go_num, rfl, by rw [hgen'], ⟨_, _, _, rfl⟩, ⟨_, rfl⟩, HF.out, by have := hops'; omega⟩
                          case measure => simp [intOf]; omega
                        · have hE : (s'.err == 0) = false := by rw [beq_eq_false_iff_ne]; exact hE0
                          clear hE0
                          go_wp2_with fail
                          go_roundw
                          case rel => exact ⟨i + 1, p, S', R', Q, d', s', by omega, by go_num, rfl, by rw [hgen'], ⟨_, _, _, rfl⟩, ⟨_, rfl⟩, K0.out, by have := hops'; omega⟩
                          case measure => simp [intOf]; omega
                      · have h4b : (E == 40) = false := by rw [beq_eq_false_iff_ne]; exact h40
                        go_wp2_with fail
                        refine (fault_any K0.out.apn.wal).mono ?_; rintro e wf ⟨rfl, rfl⟩
                        by_cases hE0 : s'.err = 0
                        · have hE : (s'.err == 0) = true := by rw [beq_iff_eq]; exact hE0
                          clear hE0
                          go_wp2_with fail
                          refine (groups_any K0.out.apn.wal (by have := K0.out.short; omega) K0.out.slim).mono ?_; rintro e wg ⟨bg, vg, rfl, gg⟩
                          obtain ⟨ag, cg, hvg, _⟩ := gg.form
                          subst hvg
                          have GG := Lib.hid gg; clear gg
                          go_wp2_with fail
                          have hsm := sameGrps_eq _ _ s'.L _ GG.out (K0.out.sure.new bg) (by have := K0.out.short; omega) K0.out.slim
                          refine hsm.mono ?_; rintro e wh ⟨rfl, bh⟩
                          have HF := Lib.hid ((K0.out.new bg).new bh); clear bg bh hsm
                          go_wp2_with fail
                          have hgn := gen_any HF.out.apn.wal
                          rw [hgen'] at hgn
                          refine hgn.mono ?_; rintro e wk ⟨rfl, rfl⟩
                          go_wp2_with fail
                          go_roundw
                          case rel => exact ⟨i + 1, p, S', R', Q, d', s', by omega, by go_num, rfl, by rw [hgen'], ⟨_, _, _, rfl⟩, ⟨_, rfl⟩, HF.out, by have := hops'; omega⟩
                          case measure => simp [intOf]; omega
                        · have hE : (s'.err == 0) = false := by rw [beq_eq_false_iff_ne]; exact hE0
                          clear hE0
                          go_wp2_with fail
                          go_roundw
                          case rel => exact ⟨i + 1, p, S', R', Q, d', s', by omega, by go_num, rfl, by rw [hgen'], ⟨_, _, _, rfl⟩, ⟨_, rfl⟩, K0.out, by have := hops'; omega⟩
                          case measure => simp [intOf]; omega
                    · have hsb : (s.err == 0) = false := by rw [beq_eq_false_iff_ne]; exact hs0
                      go_wp2_with fail
                      refine (fault_any K0.out.apn.wal).mono ?_; rintro e wf ⟨rfl, rfl⟩
                      by_cases hE0 : s'.err = 0
                      · have hE : (s'.err == 0) = true := by rw [beq_iff_eq]; exact hE0
                        clear hE0
                        go_wp2_with fail
                        refine (groups_any K0.out.apn.wal (by have := K0.out.short; omega) K0.out.slim).mono ?_; rintro e wg ⟨bg, vg, rfl, gg⟩
                        obtain ⟨ag, cg, hvg, _⟩ := gg.form
                        subst hvg
                        have GG := Lib.hid gg; clear gg
                        go_wp2_with fail
                        have hsm := sameGrps_eq _ _ s'.L _ GG.out (K0.out.sure.new bg) (by have := K0.out.short; omega) K0.out.slim
                        refine hsm.mono ?_; rintro e wh ⟨rfl, bh⟩
                        have HF := Lib.hid ((K0.out.new bg).new bh); clear bg bh hsm
                        go_wp2_with fail
                        have hgn := gen_any HF.out.apn.wal
                        rw [hgen'] at hgn
                        refine hgn.mono ?_; rintro e wk ⟨rfl, rfl⟩
                        go_wp2_with fail
                        go_roundw
                        case rel => exact ⟨i + 1, p, S', R', Q, d', s', by omega, by go_num, rfl, by rw [hgen'], ⟨_, _, _, rfl⟩, ⟨_, rfl⟩, HF.out, by have := hops'; omega⟩
                        case measure => simp [intOf]; omega
                      · have hE : (s'.err == 0) = false := by rw [beq_eq_false_iff_ne]; exact hE0
                        clear hE0
                        go_wp2_with fail
                        go_roundw
                        case rel => exact ⟨i + 1, p, S', R', Q, d', s', by omega, by go_num, rfl, by rw [hgen'], ⟨_, _, _, rfl⟩, ⟨_, rfl⟩, K0.out, by have := hops'; omega⟩
                        case measure => simp [intOf]; omega
              · have h1b : (xd == 1) = false := by rw [beq_eq_false_iff_ne]; exact h1
                by_cases h2 : xd = 2
                · subst h2
                  as_aux_lemma =>
                    have hwA : Below wr.heap.size wr (wr.alloc (.cells #[.int .i64 2, .int .i64 xn, .slice xa xl.length xc, .string xk] 36)) := (Below.refl _ wr).alloc (Nat.le_refl _) _
                    have HA := Lib.hid (HCr.out.new hwA)
                    have RA := Lib.hid (heap_alloc_new wr (.cells #[.int .i64 2, .int .i64 xn, .slice xa xl.length xc, .string xk] 36))
                    have nS : ¬ S wr.heap.size := fun e => by have := HCr.out.apn.disk.lt _ e; omega
                    have nR : ¬ R wr.heap.size := fun e => by have := HCr.out.apn.wal.lt _ e; omega
                    go_wp2_with fail
                    refine (fuse_any HA.out.apn.disk xn hxn).mono ?_; rintro e w4 ⟨rfl, ht, hd4⟩
                    have K6 := Lib.hid (HA.out.fuse ht hd4)
                    have hops' : ({ d with fuse := xn } : Dsk.St).ops ≤ d.ops + 16385 := by show d.ops ≤ _; omega
                    clear ht hd4 hwA
                    generalize ({ d with fuse := xn } : Dsk.St) = d' at *
                    go_wp2_with fail
                    refine (fault_any K6.out.apn.wal).mono ?_; rintro e wf ⟨rfl, rfl⟩
                    by_cases hE0 : s.err = 0
                    · have hE : (s.err == 0) = true := by rw [beq_iff_eq]; exact hE0
                      clear hE0
                      go_wp2_with fail
                      refine (groups_any K6.out.apn.wal (by have := K6.out.short; omega) K6.out.slim).mono ?_; rintro e wg ⟨bg, vg, rfl, gg⟩
                      obtain ⟨ag, cg, hvg, _⟩ := gg.form
                      subst hvg
                      have GG := Lib.hid gg; clear gg
                      go_wp2_with fail
                      have hsm := sameGrps_eq _ _ s.L _ GG.out (K6.out.sure.new bg) (by have := K6.out.short; omega) K6.out.slim
                      refine hsm.mono ?_; rintro e wh ⟨rfl, bh⟩
                      have HF := Lib.hid ((K6.out.new bg).new bh); clear bg bh hsm
                      go_wp2_with fail
                      have hgn := gen_any HF.out.apn.wal
                      skip
                      refine hgn.mono ?_; rintro e wk ⟨rfl, rfl⟩
                      go_wp2_with fail
                      go_roundw
                      case rel => exact ⟨i + 1, p, S, R, Q, d', s, by omega, by go_num, rfl, rfl, ⟨_, _, _, rfl⟩, ⟨_, rfl⟩, HF.out, by have := hops'; omega⟩
                      case measure => simp [intOf]; omega
                    · have hE : (s.err == 0) = false := by rw [beq_eq_false_iff_ne]; exact hE0
                      clear hE0
                      go_wp2_with fail
                      go_roundw
                      case rel => exact ⟨i + 1, p, S, R, Q, d', s, by omega, by go_num, rfl, rfl, ⟨_, _, _, rfl⟩, ⟨_, rfl⟩, K6.out, by have := hops'; omega⟩
                      case measure => simp [intOf]; omega
                · have h2b : (xd == 2) = false := by rw [beq_eq_false_iff_ne]; exact h2
                  by_cases h3 : xd = 3
                  · subst h3
                    as_aux_lemma =>
                      have hwA : Below wr.heap.size wr (wr.alloc (.cells #[.int .i64 3, .int .i64 xn, .slice xa xl.length xc, .string xk] 36)) := (Below.refl _ wr).alloc (Nat.le_refl _) _
                      have HA := Lib.hid (HCr.out.new hwA)
                      have RA := Lib.hid (heap_alloc_new wr (.cells #[.int .i64 3, .int .i64 xn, .slice xa xl.length xc, .string xk] 36))
                      have nS : ¬ S wr.heap.size := fun e => by have := HCr.out.apn.disk.lt _ e; omega
                      have nR : ¬ R wr.heap.size := fun e => by have := HCr.out.apn.wal.lt _ e; omega
                      go_wp2_with fail
                      refine (crash_any HA.out.apn.disk xk (by omega) (by omega)).mono ?_; rintro e w4 ⟨rfl, ht, S', hS', hd4⟩
                      have h4 := HA.out.apn.turnDisk ht hS' hd4
                      obtain ⟨hgood, hopen⟩ := Wal.crash_good HA.out.good xk.data.toList
                      have hops' : (Dsk.crash d xk.data.toList).ops ≤ d.ops + 16385 := by show d.ops ≤ _; omega
                      have hfit : s.from_ + s.n ≤ (Dsk.crash d xk.data.toList).n := HA.out.good.ok.hi
                      have hsure := HA.out.sure.keeps ht (fun k hk hs => HA.out.apart k hk (.inl hs))
                      have hQS : ∀ j, Q j → ¬ S' j := fun j hj e => by
                        rcases hS' j e with e | e
                        · exact HA.out.apart j hj (.inl e)
                        · have := HA.out.sure.1 j hj; omega
                      have HL : Hid (({ s with err := 0 } : Wal.St).L = s.L) := Lib.hid rfl
                      have hgen' : ({ s with err := 0 } : Wal.St).gen = s.gen := rfl
                      have hf' : ({ s with err := 0 } : Wal.St).from_ = 0 := HA.out.fr
                      have hn' : ({ s with err := 0 } : Wal.St).n = n := HA.out.n
                      generalize ({ s with err := 0 } : Wal.St) = s' at *
                      rw [HA.out.fr, HA.out.n] at hopen
                      rw [HA.out.fr, HA.out.n] at hfit
                      generalize Dsk.crash d xk.data.toList = d' at *
                      have H4 := Lib.hid h4; clear h4
                      have HS4 := Lib.hid hsure; clear hsure
                      clear ht hd4 hwA hS'
                      go_wp2_with fail
                      refine (open_is H4.out.disk 0 n m2 (by omega) s' hopen).mono ?_; rintro e w5 ⟨b5, R', p', rfl, hw5, hR5⟩
                      have h5 := H4.out.reopen b5 hw5 hR5
                      have H5 := Lib.hid h5; clear h5
                      have HS5 := Lib.hid (HS4.out.new b5)
                      clear hw5 b5
                      have hshort : s'.L.length ≤ 1048576 := by have := HCr.out.short; rw [HL.out]; omega
                      have hslim : ∀ l ∈ s'.L, Slim l := by rw [HL.out]; exact HCr.out.slim
                      go_wp2_with fail
                      refine (groups_any H5.out.wal hshort hslim).mono ?_; rintro e w6 ⟨b6, v6, rfl, g6⟩
                      obtain ⟨a6, c6, hv6, _⟩ := g6.form
                      subst hv6
                      have G6 := Lib.hid g6; clear g6
                      have H6 := Lib.hid (H5.out.new b6)
                      have HS6 := Lib.hid (HS5.out.new b6)
                      have hs56 := b6.size
                      clear b6
                      go_wp2_with fail
                      have hsm := sameGrps_eq _ _ s'.L _ G6.out (by rw [HL.out]; exact HS6.out) hshort hslim
                      refine hsm.mono ?_; rintro e w7 ⟨rfl, b7⟩
                      have H7 := Lib.hid (H6.out.new b7)
                      have G7 := Lib.hid (G6.out.new b7)
                      clear hsm
                      have K7 : Hid (Crs W n S' R' (fun k => w5.heap.size ≤ k ∧ k < w6.heap.size) p' q d' s' (.slice a6 s'.L.length c6) s'.L w7) := Lib.hid ⟨H7.out, hgood, G7.out, fun j hj e => by
                          rcases e with e | e
                          · have := H5.out.disk.lt j e; omega
                          · have := H5.out.wal.lt j e; omega, fun j hj => by have := H5.out.turns.size; omega, hf', hn'⟩
                      clear b7
                      have hgn0 := gen_any K7.out.apn.wal
                      rw [hgen'] at hgn0
                      have HGN := Lib.hid hgn0; clear hgn0
                      cases bu with
                      | false =>
                        go_wp2_with fail
                        refine (fault_any K7.out.apn.wal).mono ?_; rintro e wf ⟨rfl, rfl⟩
                        by_cases hE0 : s'.err = 0
                        · have hE : (s'.err == 0) = true := by rw [beq_iff_eq]; exact hE0
                          clear hE0
                          go_wp2_with fail
                          refine (groups_any K7.out.apn.wal (by have := K7.out.short; omega) K7.out.slim).mono ?_; rintro e wg ⟨bg, vg, rfl, gg⟩
                          obtain ⟨ag, cg, hvg, _⟩ := gg.form
                          subst hvg
                          have GG := Lib.hid gg; clear gg
                          go_wp2_with fail
                          have hsm := sameGrps_eq _ _ s'.L _ GG.out (K7.out.sure.new bg) (by have := K7.out.short; omega) K7.out.slim
                          refine hsm.mono ?_; rintro e wh ⟨rfl, bh⟩
                          have HF := Lib.hid ((K7.out.new bg).new bh); clear bg bh hsm
                          go_wp2_with fail
                          have hgn := gen_any HF.out.apn.wal
                          rw [hgen'] at hgn
                          refine hgn.mono ?_; rintro e wk ⟨rfl, rfl⟩
                          go_wp2_with fail
                          go_roundw
                          case rel => exact ⟨i + 1, p', S', R', (fun k => w5.heap.size ≤ k ∧ k < w6.heap.size), d', s', by omega, by go_num, rfl, by rw [hgen'], ⟨_, _, _, rfl⟩, ⟨_, rfl⟩, HF.out, by have := hops'; omega⟩
                          case measure => simp [intOf]; omega
                        · have hE : (s'.err == 0) = false := by rw [beq_eq_false_iff_ne]; exact hE0
                          clear hE0
                          go_wp2_with fail
                          go_roundw
                          case rel => exact ⟨i + 1, p', S', R', (fun k => w5.heap.size ≤ k ∧ k < w6.heap.size), d', s', by omega, by go_num, rfl, by rw [hgen'], ⟨_, _, _, rfl⟩, ⟨_, rfl⟩, K7.out, by have := hops'; omega⟩
                          case measure => simp [intOf]; omega
                      | true =>
                        by_cases hnm : nm = 0
                        · subst hnm
                          go_wp2_with fail
                          refine HGN.out.mono ?_; rintro e wk ⟨rfl, rfl⟩
                          go_wp2_with fail
                          refine (fault_any K7.out.apn.wal).mono ?_; rintro e wf ⟨rfl, rfl⟩
                          by_cases hE0 : s'.err = 0
                          · have hE : (s'.err == 0) = true := by rw [beq_iff_eq]; exact hE0
                            clear hE0
                            go_wp2_with fail
                            refine (groups_any K7.out.apn.wal (by have := K7.out.short; omega) K7.out.slim).mono ?_; rintro e wg ⟨bg, vg, rfl, gg⟩
                            obtain ⟨ag, cg, hvg, _⟩ := gg.form
                            subst hvg
                            have GG := Lib.hid gg; clear gg
                            go_wp2_with fail
                            have hsm := sameGrps_eq _ _ s'.L _ GG.out (K7.out.sure.new bg) (by have := K7.out.short; omega) K7.out.slim
                            refine hsm.mono ?_; rintro e wh ⟨rfl, bh⟩
                            have HF := Lib.hid ((K7.out.new bg).new bh); clear bg bh hsm
                            go_wp2_with fail
                            have hgn := gen_any HF.out.apn.wal
                            rw [hgen'] at hgn
                            refine hgn.mono ?_; rintro e wk ⟨rfl, rfl⟩
                            go_wp2_with fail
                            go_roundw
                            case rel => exact ⟨i + 1, p', S', R', (fun k => w5.heap.size ≤ k ∧ k < w6.heap.size), d', s', by omega, by go_num, rfl, by rw [hgen'], ⟨_, _, _, rfl⟩, ⟨_, rfl⟩, HF.out, by have := hops'; omega⟩
                            case measure => simp [intOf]; omega
                          · have hE : (s'.err == 0) = false := by rw [beq_eq_false_iff_ne]; exact hE0
                            clear hE0
                            go_wp2_with fail
                            go_roundw
                            case rel => exact ⟨i + 1, p', S', R', (fun k => w5.heap.size ≤ k ∧ k < w6.heap.size), d', s', by omega, by go_num, rfl, by rw [hgen'], ⟨_, _, _, rfl⟩, ⟨_, rfl⟩, K7.out, by have := hops'; omega⟩
                            case measure => simp [intOf]; omega
                        · have hnb : ((nm : Int) == 0) = false := by rw [beq_eq_false_iff_ne]; omega
                          go_wp2_with fail
                          refine (fault_any K7.out.apn.wal).mono ?_; rintro e wf ⟨rfl, rfl⟩
                          by_cases hE0 : s'.err = 0
                          · have hE : (s'.err == 0) = true := by rw [beq_iff_eq]; exact hE0
                            clear hE0
                            go_wp2_with fail
                            refine (groups_any K7.out.apn.wal (by have := K7.out.short; omega) K7.out.slim).mono ?_; rintro e wg ⟨bg, vg, rfl, gg⟩
                            obtain ⟨ag, cg, hvg, _⟩ := gg.form
                            subst hvg
                            have GG := Lib.hid gg; clear gg
                            go_wp2_with fail
                            have hsm := sameGrps_eq _ _ s'.L _ GG.out (K7.out.sure.new bg) (by have := K7.out.short; omega) K7.out.slim
                            refine hsm.mono ?_; rintro e wh ⟨rfl, bh⟩
                            have HF := Lib.hid ((K7.out.new bg).new bh); clear bg bh hsm
                            go_wp2_with fail
                            have hgn := gen_any HF.out.apn.wal
                            rw [hgen'] at hgn
                            refine hgn.mono ?_; rintro e wk ⟨rfl, rfl⟩
                            go_wp2_with fail
                            go_roundw
                            case rel => exact ⟨i + 1, p', S', R', (fun k => w5.heap.size ≤ k ∧ k < w6.heap.size), d', s', by omega, by go_num, rfl, by rw [hgen'], ⟨_, _, _, rfl⟩, ⟨_, rfl⟩, HF.out, by have := hops'; omega⟩
                            case measure => simp [intOf]; omega
                          · have hE : (s'.err == 0) = false := by rw [beq_eq_false_iff_ne]; exact hE0
                            clear hE0
                            go_wp2_with fail
                            go_roundw
                            case rel => exact ⟨i + 1, p', S', R', (fun k => w5.heap.size ≤ k ∧ k < w6.heap.size), d', s', by omega, by go_num, rfl, by rw [hgen'], ⟨_, _, _, rfl⟩, ⟨_, rfl⟩, K7.out, by have := hops'; omega⟩
                            case measure => simp [intOf]; omega
                  · have h3b : (xd == 3) = false := by rw [beq_eq_false_iff_ne]; exact h3
                    as_aux_lemma =>
                      have hwA : Below wr.heap.size wr (wr.alloc (.cells #[.int .i64 xd, .int .i64 xn, .slice xa xl.length xc, .string xk] 36)) := (Below.refl _ wr).alloc (Nat.le_refl _) _
                      have HA := Lib.hid (HCr.out.new hwA)
                      have RA := Lib.hid (heap_alloc_new wr (.cells #[.int .i64 xd, .int .i64 xn, .slice xa xl.length xc, .string xk] 36))
                      have nS : ¬ S wr.heap.size := fun e => by have := HCr.out.apn.disk.lt _ e; omega
                      have nR : ¬ R wr.heap.size := fun e => by have := HCr.out.apn.wal.lt _ e; omega
                      have hops' : d.ops ≤ d.ops + 16385 := by omega
                      clear hwA
                      go_wp2_with fail
                      refine (fault_any HA.out.apn.wal).mono ?_; rintro e wf ⟨rfl, rfl⟩
                      by_cases hE0 : s.err = 0
                      · have hE : (s.err == 0) = true := by rw [beq_iff_eq]; exact hE0
                        clear hE0
                        go_wp2_with fail
                        refine (groups_any HA.out.apn.wal (by have := HA.out.short; omega) HA.out.slim).mono ?_; rintro e wg ⟨bg, vg, rfl, gg⟩
                        obtain ⟨ag, cg, hvg, _⟩ := gg.form
                        subst hvg
                        have GG := Lib.hid gg; clear gg
                        go_wp2_with fail
                        have hsm := sameGrps_eq _ _ s.L _ GG.out (HA.out.sure.new bg) (by have := HA.out.short; omega) HA.out.slim
                        refine hsm.mono ?_; rintro e wh ⟨rfl, bh⟩
                        have HF := Lib.hid ((HA.out.new bg).new bh); clear bg bh hsm
                        go_wp2_with fail
                        have hgn := gen_any HF.out.apn.wal
                        skip
                        refine hgn.mono ?_; rintro e wk ⟨rfl, rfl⟩
                        go_wp2_with fail
                        go_roundw
                        case rel => exact ⟨i + 1, p, S, R, Q, d, s, by omega, by go_num, rfl, rfl, ⟨_, _, _, rfl⟩, ⟨_, rfl⟩, HF.out, by have := hops'; omega⟩
                        case measure => simp [intOf]; omega
                      · have hE : (s.err == 0) = false := by rw [beq_eq_false_iff_ne]; exact hE0
                        clear hE0
                        go_wp2_with fail
                        go_roundw
                        case rel => exact ⟨i + 1, p, S, R, Q, d, s, by omega, by go_num, rfl, rfl, ⟨_, _, _, rfl⟩, ⟨_, rfl⟩, HA.out, by have := hops'; omega⟩
                        case measure => simp [intOf]; omega
          · obtain rfl : i = len1 := by omega
            have hlt2 : decide ((i : Int) < (i : Int)) = false := decide_eq_false (by omega)
            have HCr := Lib.hid hC; clear hC
            go_wp2_with fail
            refine (Hal.out _).mono ?_; rintro e w9 ⟨rfl, hb9⟩
            go_wp2_with fail
            go_ret
            exact ⟨rfl, HCr.out.below.trans (hb9.mono HCr.out.size)⟩
end lawCrash
end Go.Proofs.Ytjmpagbjkehebaa
