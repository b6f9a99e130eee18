/-
  FilesCrash: wherever the disk stands still, and whatever a crash leaves, files that are opened again are as they were behind the last Commit that was answered OK, or behind the one that was under way, whole, for every number of sectors, every script.
  Conditions: none.
-/
import Derived.Test.YtalklpnekbfehaaGreatFilBkA
import Derived.Test.YtalklpnekbfehaaGreatGoPh2
import Derived.Deep.MidRow
import Derived.ProofKit
import Derived.OpenShut
import Derived.ShutString
import Derived.ChangeOld
import Derived.SizedLaws
import Derived.Outline
import Derived.OwnWalk
import Derived.StillTailTactics
import Derived.Deep.DeepCutAuto
namespace Go.Proofs.YtalklpnekbfehaaGreat.lawCrash6
open Go.ChangeShapes Go.WideShapes Go.ChangeAt Go.RowKit
open Go.ChangeMaps (open_string shut_string)
set_option linter.unusedVariables false
set_option maxRecDepth 100000

theorem build_docx (a : Option Addr) (l c : Nat) (x : Int) (w : World) : (Instr.build 53 #[(0, .slice a l c), (1, .int .i64 x)]).run Tryz.prog w = .ok (.agg #[.slice a l c, .int .i64 x]) w := run_build w _ _ _ (by kernel_rfl)

theorem wpList_append_hap {P : Program} {w : World} {ops : Array Oper} {rest : List Oper} {o : Oper} {a : Act} {Q : Exit → Act → World → Prop} (hgd : o.guard = none) (s x : Operand) (t : TypeId)
    (ho : o.op = .call { callee := .builtin .append, args := #[s, x], argTypes := #[t, t] }) (vs vx v' : Value) (w' : World) (hs : a.eval s = vs) (hx : a.eval x = vx)
    (hr : (Builtin.append_ #[t, t] o.type #[vs, vx]).run P w = .ok v' w') (h : wpList P ops Q rest (a.put o.dst v') w') : wpList P ops Q (o :: rest) a w := by
  refine wpList_plain hgd fun K hK => ?_
  unfold Oper.wp execOp
  simp only [ho, resolve, invoke, builtin, Sem.run_bind, Sem.run_pure, Result.andThen_ok, List.map_toArray, List.map_cons, List.map_nil, hs, hx, hr]
  exact hK _ _ h
set_option maxHeartbeats 8000000 in
theorem walk (n0 : Int) (a1 : Option Addr) (len1 cap1 : Nat) (l1 : List FStp) (WA : World) (h0 : (Lit.int .i64 n0).wf = true) (hst : FStps a1 len1 l1 WA) (hok : ∀ y ∈ l1, y.Ok) (hll : len1 ≤ 2513169434843) :
    Calls Tryz.prog 4 #[.int .i64 n0, .slice a1 len1 cap1] WA fun e W' => e = .returned (.bool true) ∧ Below WA.heap.size WA W' := by
  have hi0 := wf_i64 h0
  have hhv := fheavy_any n0 hi0 a1 len1 cap1 l1 WA hst hok hll
  unfold I64 at hi0
  have hq : ∀ Q : Ending → World → Prop, (∀ (b : Bool) (m : Nat), (b = false → FLight n0 len1 l1) → Q (.returned (.bool b)) (WA.drewN m)) → Calls Tryz.prog 7 #[.int .i64 n0, .slice a1 len1 cap1] WA Q := fun Q h => hhv.mono fun e w' ⟨b, he, hb, m, hw⟩ => by subst he; subst hw; exact h b m hb
  have Hq := Lib.hid hq; clear hq hhv
  have hend : ∀ u, Below WA.heap.size WA u → Calls Tryz.prog 9 #[] u fun e w' => e = .returned (.bool true) ∧ Below WA.heap.size WA w' := fun u hu => (filAlive_any u).mono fun e w' ⟨h1, h2⟩ => ⟨h1, hu.trans (h2.mono hu.size)⟩
  have Hend := Lib.hid hend; clear hend
  have Hst := Lib.hid hst; clear hst
  have Hok := Lib.hid hok; clear hok
  clear h0
  go_enter Tryz.func4, Tryz.ntmps4
  go_wp2_with fail
  refine Hq.out _ ?_
  intro bb mm hbb
  have hbW : Below WA.heap.size WA (WA.drewN mm) := drewN_below (Below.refl _ _) mm
  have hszW : (WA.drewN mm).heap.size = WA.heap.size := rfl
  have Hst2 := Lib.hid (Hst.out.keep hbW); clear Hst
  generalize WA.drewN mm = W at *
  have HbW := Lib.hid hbW; clear hbW
  have HszW := Lib.hid hszW; clear hszW
  have Hstop : ∀ u, Below W.heap.size W u → Below WA.heap.size WA u := fun u hu => HbW.out.trans (hu.mono (by rw [HszW.out]; exact Nat.le_refl _))
  have HStop := Lib.hid Hstop; clear Hstop
  cases bb with
  | true =>
    clear hbb
    go_wp2_with fail
    refine (Hend.out _ HbW.out).mono ?_; rintro e w1 ⟨rfl, hw1⟩
    go_wp2_with fail
    go_ret
    exact ⟨rfl, hw1⟩
  | false =>
  have hlight := hbb rfl
  clear hbb Hq
  by_cases h8 : n0 < 8
  · have d8 : decide (n0 < 8) = true := decide_eq_true h8
    go_wp2_with fail
    refine (Hend.out _ HbW.out).mono ?_; rintro e w1 ⟨rfl, hw1⟩
    go_wp2_with fail
    go_ret
    exact ⟨rfl, hw1⟩
  have d8 : decide (n0 < 8) = false := decide_eq_false h8
  by_cases h200 : 200 < n0
  · have d200 : decide (200 < n0) = true := decide_eq_true h200
    go_wp2_with fail
    refine (Hend.out _ HbW.out).mono ?_; rintro e w1 ⟨rfl, hw1⟩
    go_wp2_with fail
    go_ret
    exact ⟨rfl, hw1⟩
  have d200 : decide (200 < n0) = false := decide_eq_false h200
  obtain ⟨n, rfl⟩ : ∃ n : Nat, n0 = (n : Int) := ⟨n0.toNat, by omega⟩
  have k1 : 8 ≤ n := by omega
  have k2 : n ≤ 200 := by omega
  have hlen60 := hlight.len
  have hstp := hlight.stp
  have Hstp := Lib.hid hstp; clear hstp
  clear h8 h200 hi0 hlight
  go_wp2_with fail
  refine (new_any n (by omega) (by omega) _).mono ?_; rintro e v1 ⟨rfl, b1, d1⟩
  generalize W.heap.size + 2 = q at d1 ⊢
  have s1 : ∀ j, NewS W j → W.heap.size ≤ j := fun j h => h.1
  have B1 := Lib.hid b1; clear b1
  have D1 := Lib.hid d1; clear d1
  go_wp2_with fail
  refine (fopen_live D1.out (Fil.new_live (n := n) (by omega) (by omega)) (by show (0 : Nat) ≤ _; omega)).mono ?_; rintro e v2 ⟨p, S2, R2, pw, bm, rfl, hp, hA, ⟨nn, hn1, hn2⟩, x1, x2, x3⟩
  have h2 : Sys W (fun _ => False) 21000000000 S2 R2 p q pw bm (Dsk.new n) ⟨0, 0, 1, Fil.logN n, [], 0⟩ ⟨false, 0, 0, n, [], 0⟩ v2 := Sys.opened hA B1.out s1 hp hn1 hn2 x1 x2 x3 (by simp [Fil.Sorted]) (by intro x hx; simp at hx) (by show (0 : Nat) ≤ _; omega)
  have H2 := Lib.hid h2; clear h2 hA hn2 x1 x2 x3 hp hn1
  go_wp2_with fail
  refine (docNew_any n k1 (by omega) _).mono ?_; rintro e v3 ⟨rfl, rfl⟩
  have hI : CrI W n 0 S2 R2 p q pw bm (Dsk.new n) ⟨0, 0, 1, Fil.logN n, [], 0⟩ ⟨false, 0, 0, n, [], 0⟩ v2.heap.size v2.heap.size [] [] (v2.alloc (docF (.slice none 0 0) n)) := by
    have hf := H2.out.fresh (.cells #[] 0)
    have hd : DocO S2 R2 p v2.heap.size n [] (v2.alloc (docF (.slice none 0 0) n)) := ⟨⟨none, 0, heap_alloc_new v2 _, FlsAt.nil _, hf, fun b off _ e => by cases e⟩⟩
    exact
      { sys := H2.out.new ((Below.refl _ v2).alloc (Nat.le_refl _) _)
        dr := hd
        dn := hd
        tn := rfl
        ta := by show (0 : Nat) < 2; omega
        rr := rfl
        sr := Nat.zero_le _
        sn := Nat.zero_le _
        dN := rfl
        ops := Nat.zero_le _
        md := .inl ⟨rfl, rfl, Nat.zero_le _, _, _, _, Fil.new_live (by omega) (by omega)⟩ }
  generalize v2.heap.size = pr0 at *
  generalize v2.alloc (docF (.slice none 0 0) n) = v4 at *
  have HI := Lib.hid hI; clear hI H2 D1 B1 s1
  go_wp2_with fail
  go_loopw [7, 9, 10, 11] (fun s7 s9 s10 iv wr => ∃ (k : Nat) (S R : Nat → Prop) (p pw bm pr pn : Nat) (d : Dsk.St) (s : Wal.St) (t : Fil.St) (lr ln : List (ByteArray × ByteArray)), k ≤ len1 ∧ s7 = .pointer (some ⟨p, 0, none⟩) ∧ s9 = .pointer (some ⟨pr, 0, none⟩) ∧ s10 = .pointer (some ⟨pn, 0, none⟩) ∧ iv = .int .i64 (k : Int) ∧ CrI W n k S R p q pw bm d s t pr pn lr ln wr) (fun _ _ _ iv _ => len1 - (intOf iv).toNat)
  case atStart => exact ⟨0, S2, R2, p, pw, bm, pr0, pr0, _, _, _, [], [], by omega, rfl, rfl, rfl, rfl, HI.out⟩
  case round =>
    clear HI
    obtain ⟨k, S, R, p, pw, bm, pr, pn, d, s, t, lr, ln, hk, rfl, rfl, rfl, rfl, hI⟩ := hrel
    have HI := Lib.hid hI; clear hI
    by_cases hlt : k < len1
    case neg =>
      obtain rfl : k = len1 := by omega
      have hge : decide ((k : Int) < (k : Int)) = false := decide_eq_false (by omega)
      go_wp2_with fail
      refine (Hend.out _ (HStop.out _ HI.out.below)).mono ?_; rintro e w1 ⟨rfl, hw1⟩
      go_wp2_with fail
      go_ret
      exact ⟨rfl, hw1⟩
    have hge : decide ((k : Int) < (len1 : Int)) = true := decide_eq_true (by omega)
    have hge' : decide (k < len1) = true := decide_eq_true hlt
    have hkl : k < l1.length := by rw [Hst2.out.1]; exact hlt
    obtain ⟨bs, off, rfl, hx0⟩ := Hst2.out.2 k hlt
    have hxo := Hok.out (l1.getD k default) (by
      rw [List.getD_eq_getElem?_getD, List.getElem?_eq_getElem hkl]; exact List.getElem_mem _)
    have hxs := Hstp.out (l1.getD k default) (by
      rw [List.getD_eq_getElem?_getD, List.getElem?_eq_getElem hkl]; exact List.getElem_mem _)
    generalize l1.getD k default = x at *
    have hbs : bs < W.heap.size := cell_lt hx0.d
    have hat : ∀ u, Below W.heap.size W u → FStpAt u bs (off + k * 4) x := fun u hu => hx0.keep hu
    have Hat := Lib.hid hat; clear hat hx0
    have hx1 := Hat.out _ HI.out.below
    have c0 := hx1.d
    have Hxo := Lib.hid hxo; clear hxo
    have Hxs := Lib.hid hxs; clear hxs
    clear hx1
    by_cases d0 : x.d = 0
    · have e0 : (x.d == 0) = true := by rw [beq_iff_eq]; exact d0
      have hfa := ffault_any HI.out.sys.row
      have HF := Lib.hid hfa; clear hfa
      have hx1 := Hat.out _ HI.out.below
      have c2 := hx1.l
      obtain ⟨vv, w1, hrun, hown, hb1⟩ := run_append_chgs hx1.s hx1.z Hxo.out.ll
      obtain ⟨ac, cc, rfl, hch, hfre⟩ := hown.chgs
      clear hx1 hown
      have Hrun := Lib.hid hrun; clear hrun
      have hI1 := HI.out.new hb1
      have hcm := fcommit_any (m := n) hI1.sys.here hI1.sok hI1.ta (by rw [hI1.tn]; omega) (by rw [hI1.tn]; omega) (by omega) (by have := hI1.ops; omega) ac x.l.length cc x.l hch Hxo.out.ls (by have := Hxs.out.1; omega) (fun b off _ e => HI.out.fresh (hfre b off e).1)
      clear hb1 hfre hch
      have HI1 := Lib.hid hI1; clear hI1
      have Hcm := Lib.hid hcm; clear hcm
      go_wp2_with fail
      refine HF.out.mono ?_; rintro e w8 ⟨rfl, rfl⟩
      clear HF
      go_wp2_with (at_builtin; go_loud (refine wpList_append_hap rfl _ _ 43 rfl _ _ _ _ rfl rfl Hrun.out ?_))
      refine Hcm.out.mono ?_; rintro e w4 ⟨rfl, S', R', bm', k4⟩
      clear Hcm Hrun
      have hS4 := HI1.out.sys.back k4
      have hR4 := HI1.out.dr.commit k4
      have hN4 := HI1.out.dn.commit k4
      clear k4
      obtain ⟨ar, cr, hrr, hrf, hr3, hr4⟩ := hR4.ex
      have HS4 := Lib.hid hS4; clear hS4
      have HR4 := Lib.hid hR4; clear hR4
      have HN4 := Lib.hid hN4; clear hN4
      have Hrf := Lib.hid hrf; clear hrf
      have Hr4 := Lib.hid hr4; clear hr4
      have HrW := Lib.hid hrr; clear hrr
      go_wp2_with fail
      refine wp_region_phases [([0, 1, 2, 3, 4, 5, 6, 7], [8, 9, 10])] (by kernel_rfl) (by kernel_rfl) (fun z => z.heap[pr]? = some (docF (.slice ar lr.length cr) n)) HrW.out ?_
      simp only [wpPhases, pick, List.filterMap_cons, List.filterMap_nil, List.getElem?_toArray, List.getElem?_cons_zero, List.getElem?_cons_succ]
      refine take_move (.tmp 9) (.pointer (some ⟨pr, 0, none⟩)) rfl rfl rfl ?_
      simp only [Act.put, List.setIfInBounds_toArray, List.set_cons_zero, List.set_cons_succ]
      refine take_nil (.tmp 76) ⟨pr, 0, none⟩ rfl rfl rfl ?_
      simp only [Act.put, List.setIfInBounds_toArray, List.set_cons_zero, List.set_cons_succ]
      refine take_one (.pointer (some ⟨pr, 0, none⟩)) rfl (fun u _ => by go_simp) ?_
      simp only [Act.put, List.setIfInBounds_toArray, List.set_cons_zero, List.set_cons_succ]
      refine take_load 51 (.tmp 78) ⟨pr, 0, none⟩ (.slice ar lr.length cr) rfl rfl rfl (fun u hu => load_any Tryz.underlying51 Tryz.isAgg51 (by rw [cell_of_row _ _ 0 _ _ _ hu]; rfl)) ?_
      simp only [Act.put, List.setIfInBounds_toArray, List.set_cons_zero, List.set_cons_succ]
      refine take_move (.tmp 9) (.pointer (some ⟨pr, 0, none⟩)) rfl rfl rfl ?_
      simp only [Act.put, List.setIfInBounds_toArray, List.set_cons_zero, List.set_cons_succ]
      refine take_nil (.tmp 80) ⟨pr, 0, none⟩ rfl rfl rfl ?_
      simp only [Act.put, List.setIfInBounds_toArray, List.set_cons_zero, List.set_cons_succ]
      refine take_one (.pointer (some ⟨pr, 1, none⟩)) rfl (fun u _ => by go_simp) ?_
      simp only [Act.put, List.setIfInBounds_toArray, List.set_cons_zero, List.set_cons_succ]
      refine take_load 3 (.tmp 82) ⟨pr, 1, none⟩ (.int .i64 ((Fil.arN n : Int) * 64 - 4)) rfl rfl rfl (fun u hu => load_any Tryz.underlying3 Tryz.isAgg3 (by rw [cell_of_row _ _ 1 _ _ _ hu]; rfl)) ?_
      simp only [Act.put, List.setIfInBounds_toArray, List.set_cons_zero, List.set_cons_succ]
      refine take_done ?_
      refine midk_pure (.agg #[.slice ar lr.length cr, .int .i64 ((Fil.arN n : Int) * 64 - 4)]) rfl (fun u => run_build_at 53 [(0, .tmp 79), (1, .tmp 83)] rfl (build_docx _ _ _ _ u)) HrW.out ?_
      simp only [Act.put, List.setIfInBounds_toArray, List.set_cons_zero, List.set_cons_succ]
      refine midk_box 53 (.tmp 84) #[.slice ar lr.length cr, .int .i64 ((Fil.arN n : Int) * 64 - 4)] rfl rfl rfl (row_alloc HrW.out _) ?_
      simp only [Act.put, List.setIfInBounds_toArray, List.set_cons_zero, List.set_cons_succ]
      refine midk_one (.pointer (some ⟨w4.heap.size, 0, none⟩)) rfl rfl (row_alloc HrW.out _) ?_
      simp only [Act.put, List.setIfInBounds_toArray, List.set_cons_zero, List.set_cons_succ]

      refine midk_end ?_
      have hpx : Off3 S' R' p w4.heap.size := sys_fresh HS4.out (Nat.le_refl _)
      have hb5 : Below w4.heap.size w4 (w4.drew.alloc (docF (.slice ar lr.length cr) n)) := ((Below.refl _ w4).drew).alloc (Nat.le_refl _) _
      have hrow5 : (w4.drew.alloc (docF (.slice ar lr.length cr) n)).heap[w4.heap.size]? = some (docF (.slice ar lr.length cr) n) := heap_alloc_new w4.drew _
      obtain ⟨w5, hw5⟩ : ∃ w5, w5 = w4.drew.alloc (docF (.slice ar lr.length cr) n) := ⟨_, rfl⟩
      rw [← hw5] at hb5 hrow5
      have hgl : w4.drew.alloc (Obj.cells #[.slice ar lr.length cr, .int .i64 ((Fil.arN n : Int) * 64 - 4)] 53) = w5 := hw5.symm
      rw [hgl]
      clear hgl hw5
      have hS5 := HS4.out.new hb5
      have hf5 := Hrf.out.keep hb5
      have hst5 := Hat.out _ hS5.a.below
      have c2' := hst5.l
      have hso5 : Fil.Sorted (fls lr) := by rw [HI1.out.rr]; exact HI1.out.sys.srt
      have hsu5 : Fil.sum (fls lr) ≤ 12800 := by rw [HI1.out.rr]; exact HI1.out.sr
      have hdc := docCommit_at hrow5 hf5 k1 (by omega) (by have := HI1.out.len.1; omega) x.la x.l.length x.lc x.l hst5.s (by have := Hxs.out.1; omega) (fun hb => by
        have hbad : x.l.any Chb.bad = false := by simpa using hb
        rw [fls_puts x.l lr hso5]
        have h1 := Fil.sum_puts (chs x.l) (fls lr) (may_all hbad)
        have h2 : (chs x.l).length = x.l.length := by simp [chs]
        have h3 := Hxs.out.1
        omega)
      have Hdc := Lib.hid hdc; clear hdc
      have HS5 := Lib.hid hS5; clear hS5
      have Hb5 := Lib.hid hb5; clear hb5
      have Hpx := Lib.hid hpx; clear hpx
      clear hst5 hf5 hrow5 hso5 hsu5 Hrf HrW hr3
      go_wp2_with fail
      refine Hdc.out.mono ?_; rintro e w6 ⟨rfl, hX6, ht6⟩
      clear Hdc
      have hb6 : Below w4.heap.size w4 w6 := Hb5.out.trans (ht6.below Hb5.out.size (fun j _ e => by rw [e]; exact Nat.le_refl _))
      have hS6 := HS4.out.new hb6
      have hX7 := DocO.made (cap := 0) hX6 (fun j hj => HS5.out.a.disk.lt j hj) (fun j hj => HS5.out.a.wal.lt j hj) (row_lt (HS5.out.a.row (b := p) (o := objF (fcells (Fil.commit d s t x.l).2.2.1 q pw bm')) (by simp))) Hpx.out Hr4.out
      have hcc := HI1.out.commit (px := w4.heap.size) (by omega) Hxs.out.1 k2 hS6 (HR4.out.new hb6) (HN4.out.new hb6) hX7
      have c0' := (Hat.out _ hS6.a.below).d
      clear hX6 ht6 hb6 hS6 hX7 HS4 HR4 HN4 HS5 Hb5 Hpx Hr4 c2' c2 c0
      have Hcc := Lib.hid hcc; clear hcc
      rcases Hcc.out with ⟨q1, q2, hI⟩ | ⟨q1, q2, q3, hI⟩ | ⟨q1, q2, q3, hI⟩
      · rw [q1, q2]
        have HI := Lib.hid hI; clear hI Hcc HI1 q1 q2
        go_wp2_with fail
        go_roundw
        case rel => exact ⟨k + 1, _, _, _, _, _, _, _, _, _, _, _, _, by omega, rfl, rfl, rfl, by go_num, HI.out⟩
        case measure => simp [intOf]; omega
      · rw [q1, q2, q3]
        have HI := Lib.hid hI; clear hI Hcc HI1 q1 q2 q3
        go_wp2_with fail
        go_roundw
        case rel => exact ⟨k + 1, _, _, _, _, _, _, _, _, _, _, _, _, by omega, rfl, rfl, rfl, by go_num, HI.out⟩
        case measure => simp [intOf]; omega
      · rw [q1, q2]
        have q4 : ((docCm n lr x.l).2 == 40) = false := by rw [beq_eq_false_iff_ne]; exact q3
        have q5 : ((docCm n lr x.l).2 != (docCm n lr x.l).2) = false := by simp
        have HI := Lib.hid hI; clear hI Hcc HI1 q1 q2 q3
        go_wp2_with fail
        have hfa := ffault_any HI.out.sys.row
        have HF := Lib.hid hfa; clear hfa
        rcases HI.out.md with ⟨z1, z2, z3, z4⟩ | ⟨z1, z2⟩
        · rw [z1] at HF
          have hsm := HI.out.sameR k1 k2
          have Hsm := Lib.hid hsm; clear hsm
          clear z1 z2 z3 z4
          go_wp2_with fail
          refine HF.out.mono ?_; rintro e w8 ⟨rfl, rfl⟩
          go_wp2_with fail
          refine Hsm.out.mono ?_; rintro e w9 ⟨rfl, b9⟩
          have HI9 := Lib.hid ((HI.out.new b9)); clear b9 Hsm HF
          go_wp2_with fail
          go_roundw
          case rel => exact ⟨k + 1, _, _, _, _, _, _, _, _, _, _, _, _, by omega, rfl, rfl, rfl, by go_num, HI9.out⟩
          case measure => simp [intOf]; omega
        · rw [z1] at HF
          clear z1 z2
          go_wp2_with fail
          refine HF.out.mono ?_; rintro e w8 ⟨rfl, rfl⟩
          go_wp2_with fail
          go_roundw
          case rel => exact ⟨k + 1, _, _, _, _, _, _, _, _, _, _, _, _, by omega, rfl, rfl, rfl, by go_num, HI.out⟩
          case measure => simp [intOf]; omega
    have e0 : (x.d == 0) = false := by rw [beq_eq_false_iff_ne]; exact d0
    by_cases d2 : x.d = 2
    · have e2 : (x.d == 2) = true := by rw [beq_iff_eq]; exact d2
      have hx1 := Hat.out _ HI.out.below
      have c1 := hx1.n
      have hn64 : -9223372036854775808 ≤ x.n ∧ x.n ≤ 9223372036854775807 := Hxo.out.n
      have hfu := fuse_any HI.out.sys.a.disk x.n hn64
      have Hfu := Lib.hid hfu; clear hfu hx1
      go_wp2_with fail
      refine Hfu.out.mono ?_; rintro e w4 ⟨rfl, ht4, hd4⟩
      have HI4 := Lib.hid (HI.out.fuse x.n hn64 ht4 hd4); clear ht4 hd4 HI Hfu c0 c1
      have HI := HI4; clear HI4
      have hfa := ffault_any HI.out.sys.row
      have HF := Lib.hid hfa; clear hfa
      rcases HI.out.md with ⟨z1, z2, z3, z4⟩ | ⟨z1, z2⟩
      · rw [z1] at HF
        have hsm := HI.out.sameR k1 k2
        have Hsm := Lib.hid hsm; clear hsm
        clear z1 z2 z3 z4
        go_wp2_with fail
        refine HF.out.mono ?_; rintro e w8 ⟨rfl, rfl⟩
        go_wp2_with fail
        refine Hsm.out.mono ?_; rintro e w9 ⟨rfl, b9⟩
        have HI9 := Lib.hid ((HI.out.new b9)); clear b9 Hsm HF
        go_wp2_with fail
        go_roundw
        case rel => exact ⟨k + 1, _, _, _, _, _, _, _, _, _, _, _, _, by omega, rfl, rfl, rfl, by go_num, HI9.out.up⟩
        case measure => simp [intOf]; omega
      · rw [z1] at HF
        clear z1 z2
        go_wp2_with fail
        refine HF.out.mono ?_; rintro e w8 ⟨rfl, rfl⟩
        go_wp2_with fail
        go_roundw
        case rel => exact ⟨k + 1, _, _, _, _, _, _, _, _, _, _, _, _, by omega, rfl, rfl, rfl, by go_num, HI.out.up⟩
        case measure => simp [intOf]; omega
    have e2 : (x.d == 2) = false := by rw [beq_eq_false_iff_ne]; exact d2
    by_cases d3 : x.d = 3
    · have e3 : (x.d == 3) = true := by rw [beq_iff_eq]; exact d3
      have hx1 := Hat.out _ HI.out.below
      have c3 := hx1.k
      have hcr := crash_any HI.out.sys.a.disk x.k (by have := Hxs.out.2; omega) (by have := HI.out.ops; omega)
      have Hcr := Lib.hid hcr; clear hcr hx1
      go_wp2_with fail
      refine Hcr.out.mono ?_; rintro e w4 ⟨rfl, ht4, S4, hS4, hD4⟩
      clear Hcr
      have hdr4 := HI.out.dr.disk ht4 hS4
      have hdn4 := HI.out.dn.disk ht4 hS4
      have hb4 : Below W.heap.size W w4 := HI.out.below.trans (ht4.below HI.out.below.size (fun j _ e => HI.out.lo j e))
      have hlo4 : ∀ j, S4 j → W.heap.size ≤ j := fun j hj => by
        rcases hS4 j hj with e | e
        · exact HI.out.lo j e
        · have := HI.out.below.size; omega
      obtain ⟨g, o, rb, xs, r', hfg, hge0, hgg, hr'⟩ := HI.out.crashed x.k.data.toList
      have hoo : (Dsk.crash d x.k.data.toList).ops ≤ 50000 * k := HI.out.ops
      have hdn : (Dsk.crash d x.k.data.toList).n = n := HI.out.dN
      have hsr : Fil.sum (fls lr) ≤ 12800 := by rw [HI.out.rr]; exact HI.out.sr
      have hsn := HI.out.sn
      have hrr := HI.out.rr
      have hcL : (Dsk.crash d x.k.data.toList).L = [] := rfl
      have hcU : Dsk.Up (Dsk.crash d x.k.data.toList) := ⟨rfl, by show (-1 : Int) < 0; decide⟩
      generalize Dsk.crash d x.k.data.toList = dc at *
      have hfo := fopen_back hD4 hfg hcL hcU hge0 (by omega) (by omega)
      have Hfo := Lib.hid hfo; clear hfo
      have Hdr4 := Lib.hid hdr4; clear hdr4
      have Hdn4 := Lib.hid hdn4; clear hdn4
      have Hb4 := Lib.hid hb4; clear hb4
      have Hlo4 := Lib.hid hlo4; clear hlo4
      clear HI ht4 hS4 hD4 hfg c3
      have c0' := (Hat.out _ Hb4.out).d
      go_wp2_with fail
      refine Hfo.out.mono ?_; rintro e w3 ⟨p', S', R', pw', bm', d', s', t', xs', rfl, hp', hA, ⟨nn, hn1, hn2⟩, x1, x2, x3, y1, y2, y3, y4, y5, y6, y7⟩
      clear Hfo
      have hte := y1.err
      by_cases hq : r' = fls lr
      · have hI4 := CrI.opened (k := k + 1) Hb4.out Hlo4.out hA hp' hn1 hn2 x1 x2 x3 y1 (hq.symm.trans y2.symm) (by rw [y2, hq]; exact hsr) (y3.trans hdn) (y6.trans hdn) (by omega) (by omega) Hdr4.out
        have HI4 := Lib.hid hI4; clear hI4 hA hn2 x1 x2 x3 hp' hn1 y1 y2 y3 y4 y5 y6 y7 Hb4 Hlo4 Hdr4 Hdn4 hq hr'
        go_wp2_with fail
        refine (HI4.out.sameR k1 k2).mono ?_; rintro e w5 ⟨rfl, b5⟩
        have HI5 := Lib.hid (HI4.out.new b5); clear b5 HI4
        go_wp2_with fail
        refine (HI5.out.sameR k1 k2).mono ?_; rintro e w6 ⟨rfl, b6⟩
        have HI6 := Lib.hid (HI5.out.new b6); clear b6 HI5
        go_wp2_with fail
        have hfa := ffault_any HI6.out.sys.row
        rw [hte] at hfa
        refine hfa.mono ?_; rintro e w8 ⟨rfl, rfl⟩
        clear hfa
        go_wp2_with fail
        refine (HI6.out.sameR k1 k2).mono ?_; rintro e w9 ⟨rfl, b9⟩
        have HI9 := Lib.hid (HI6.out.new b9); clear b9 HI6
        go_wp2_with fail
        go_roundw
        case rel => exact ⟨k + 1, _, _, _, _, _, _, _, _, _, _, _, _, by omega, rfl, rfl, rfl, by go_num, HI9.out⟩
        case measure => simp [intOf]; omega
      · have hq2 : r' = fls ln := by
          rcases hr' with e | e
          · exact absurd (e.trans hrr.symm) hq
          · exact e
        have hI4 := CrI.opened (k := k + 1) Hb4.out Hlo4.out hA hp' hn1 hn2 x1 x2 x3 y1 (hq2.symm.trans y2.symm) (by rw [y2, hq2]; exact hsn) (y3.trans hdn) (y6.trans hdn) (by omega) (by omega) Hdn4.out
        have hP4 := Hdr4.out.open_ hA hp'
        have hno : sameF t'.r lr = false := sameF_no (by rw [y2]; exact hq)
        have HI4 := Lib.hid hI4; clear hI4 hA hn2 x1 x2 x3 hp' hn1 y1 y2 y3 y4 y5 y6 y7 Hb4 Hlo4 Hdr4 Hdn4 hq hr' hq2
        have HP4 := Lib.hid hP4; clear hP4
        go_wp2_with fail
        have hsm := open_same HI4.out.sys.row HI4.out.tn k2 HP4.out hsr
        rw [hno] at hsm
        refine hsm.mono ?_; rintro e w5 ⟨rfl, b5⟩
        clear hsm
        have HI5 := Lib.hid (HI4.out.new b5)
        have HP5 := Lib.hid (HP4.out.new b5); clear b5 HI4 HP4
        go_wp2_with fail
        refine (HI5.out.sameR k1 k2).mono ?_; rintro e w6 ⟨rfl, b6⟩
        have HI6 := Lib.hid (HI5.out.new b6)
        have HP6 := Lib.hid (HP5.out.new b6); clear b6 HI5 HP5
        go_wp2_with fail
        have hsm := open_same HI6.out.sys.row HI6.out.tn k2 HP6.out hsr
        rw [hno] at hsm
        refine hsm.mono ?_; rintro e w7 ⟨rfl, b7⟩
        clear hsm
        have HI7 := Lib.hid (HI6.out.new b7); clear b7 HI6 HP6
        go_wp2_with fail
        have hfa := ffault_any HI7.out.sys.row
        rw [hte] at hfa
        refine hfa.mono ?_; rintro e w8 ⟨rfl, rfl⟩
        clear hfa
        go_wp2_with fail
        refine (HI7.out.sameR k1 k2).mono ?_; rintro e w9 ⟨rfl, b9⟩
        have HI9 := Lib.hid (HI7.out.new b9); clear b9 HI7
        go_wp2_with fail
        go_roundw
        case rel => exact ⟨k + 1, _, _, _, _, _, _, _, _, _, _, _, _, by omega, rfl, rfl, rfl, by go_num, HI9.out⟩
        case measure => simp [intOf]; omega
    have e3 : (x.d == 3) = false := by rw [beq_eq_false_iff_ne]; exact d3
    by_cases d1 : x.d = 1
    · have e1 : (x.d == 1) = true := by rw [beq_iff_eq]; exact d1
      rcases HI.out.md with ⟨z1, z2, z3, o, rb, xs, z4⟩ | ⟨z1, z2, z3, z4⟩
      · have hfo := fopen_live HI.out.sys.a.disk z4 (by have := HI.out.ops; omega)
        have Hfo := Lib.hid hfo; clear hfo
        go_wp2_with fail
        refine Hfo.out.mono ?_; rintro e w4 ⟨p', S', R', pw', bm', rfl, hp', hA, ⟨nn, hn1, hn2⟩, x1, x2, x3⟩
        clear Hfo
        have hI4 := CrI.opened (k := k + 1) HI.out.below HI.out.lo hA hp' hn1 hn2 x1 x2 x3 z4 HI.out.rr HI.out.sr HI.out.tn HI.out.dN (by have := HI.out.ops; omega) (by omega) HI.out.dr
        have HI4 := Lib.hid hI4; clear hI4 hA hn2 x1 x2 x3 hp' hn1
        have hte := z4.err
        clear z1 z2 z3 z4 HI
        go_wp2_with fail
        refine (HI4.out.sameR k1 k2).mono ?_; rintro e w5 ⟨rfl, b5⟩
        have HI5 := Lib.hid (HI4.out.new b5); clear b5 HI4
        go_wp2_with fail
        refine (HI5.out.sameR k1 k2).mono ?_; rintro e w6 ⟨rfl, b6⟩
        have HI6 := Lib.hid (HI5.out.new b6); clear b6 HI5
        go_wp2_with fail
        have hfa := ffault_any HI6.out.sys.row
        rw [hte] at hfa
        refine hfa.mono ?_; rintro e w8 ⟨rfl, rfl⟩
        clear hfa
        go_wp2_with fail
        refine (HI6.out.sameR k1 k2).mono ?_; rintro e w9 ⟨rfl, b9⟩
        have HI9 := Lib.hid (HI6.out.new b9); clear b9 HI6
        go_wp2_with fail
        go_roundw
        case rel => exact ⟨k + 1, _, _, _, _, _, _, _, _, _, _, _, _, by omega, rfl, rfl, rfl, by go_num, HI9.out⟩
        case measure => simp [intOf]; omega
      · have hgo := fopen_gone HI.out.sys.a.disk (by rw [HI.out.dN]; exact k1) z2 (by have := HI.out.ops; omega)
        have Hgo := Lib.hid hgo; clear hgo
        clear z1 z2 z3 z4
        go_wp2_with fail
        refine Hgo.out.mono ?_; rintro e w4 ⟨rfl, S', hD4, hS', ht4⟩
        have HI4 := Lib.hid (HI.out.moved ht4 hS' hD4); clear hD4 hS' ht4 Hgo
        have c0' := (Hat.out _ HI4.out.below).d
        go_wp2_with fail
        go_roundw
        case rel => exact ⟨k + 1, _, _, _, _, _, _, _, _, _, _, _, _, by omega, rfl, rfl, rfl, by go_num, HI4.out.up⟩
        case measure => simp [intOf]; omega
    have e1 : (x.d == 1) = false := by rw [beq_eq_false_iff_ne]; exact d1
    have hfa := ffault_any HI.out.sys.row
    have HF := Lib.hid hfa; clear hfa
    rcases HI.out.md with ⟨z1, z2, z3, z4⟩ | ⟨z1, z2⟩
    · rw [z1] at HF
      have hsm := HI.out.sameR k1 k2
      have Hsm := Lib.hid hsm; clear hsm
      clear z1 z2 z3 z4
      go_wp2_with fail
      refine HF.out.mono ?_; rintro e w8 ⟨rfl, rfl⟩
      go_wp2_with fail
      refine Hsm.out.mono ?_; rintro e w9 ⟨rfl, b9⟩
      have HI9 := Lib.hid ((HI.out.new b9)); clear b9 Hsm HF
      go_wp2_with fail
      go_roundw
      case rel => exact ⟨k + 1, _, _, _, _, _, _, _, _, _, _, _, _, by omega, rfl, rfl, rfl, by go_num, HI9.out.up⟩
      case measure => simp [intOf]; omega
    · rw [z1] at HF
      clear z1 z2
      go_wp2_with fail
      refine HF.out.mono ?_; rintro e w8 ⟨rfl, rfl⟩
      go_wp2_with fail
      go_roundw
      case rel => exact ⟨k + 1, _, _, _, _, _, _, _, _, _, _, _, _, by omega, rfl, rfl, rfl, by go_num, HI.out.up⟩
      case measure => simp [intOf]; omega


end Go.Proofs.YtalklpnekbfehaaGreat.lawCrash6
