/-
  FilesPlay: which files there are, and what is answered, whatever is done, opened again or not, where the disk does not stand still, for every number of sectors, every script, every name; nil.
  Conditions: none.
-/
import Derived.Test.YtalklpnekbfehaaGreatFilPlI
import Derived.Test.YtalklpnekbfehaaGreatGoPh2
import Derived.Deep.MidRow
import Derived.ProofKit
import Derived.OpenShut
import Derived.ShutString
import Derived.ChangeOld
import Derived.SizedLaws
import Derived.Outline
import Derived.OwnWalk
import Derived.StillTailTactics
import Derived.Deep.DeepCutAuto
namespace Go.Proofs.YtalklpnekbfehaaGreat.lawPlay6
open Go.ChangeShapes Go.WideShapes Go.ChangeAt Go.RowKit
open Go.ChangeMaps (open_string shut_string)
set_option linter.unusedVariables false
set_option maxRecDepth 100000

set_option maxHeartbeats 8000000 in
theorem walk (n0 : Int) (a1 : Option Addr) (len1 cap1 : Nat) (l1 : List FStp) (s2 : ByteArray) (WA : World) (h0 : (Lit.int .i64 n0).wf = true) (hst : FStps a1 len1 l1 WA) (hok : ∀ y ∈ l1, y.Ok) (hll : len1 ≤ 2513169434843) (hz2 : s2.size ≤ 140737488351232) :
    Calls Tryz.prog 3 #[.int .i64 n0, .slice a1 len1 cap1, .string s2] WA fun e W' => e = .returned (.bool true) ∧ Below WA.heap.size WA W' := by
  have hi0 := wf_i64 h0
  have hhv := fheavy_any n0 hi0 a1 len1 cap1 l1 WA hst hok hll
  unfold I64 at hi0
  have hq : ∀ Q : Ending → World → Prop, (∀ (b : Bool) (m : Nat), (b = false → FLight n0 len1 l1) → Q (.returned (.bool b)) (WA.drewN m)) → Calls Tryz.prog 7 #[.int .i64 n0, .slice a1 len1 cap1] WA Q := fun Q h => hhv.mono fun e w' ⟨b, he, hb, m, hw⟩ => by subst he; subst hw; exact h b m hb
  have Hq := Lib.hid hq; clear hq hhv
  have hend : ∀ u, Below WA.heap.size WA u → Calls Tryz.prog 9 #[] u fun e w' => e = .returned (.bool true) ∧ Below WA.heap.size WA w' := fun u hu => (filAlive_any u).mono fun e w' ⟨h1, h2⟩ => ⟨h1, hu.trans (h2.mono hu.size)⟩
  have Hend := Lib.hid hend; clear hend
  have Hst := Lib.hid hst; clear hst
  have Hok := Lib.hid hok; clear hok
  clear h0
  go_enter Tryz.func3, Tryz.ntmps3
  go_wp2_with fail
  refine Hq.out _ ?_
  intro bb mm hbb
  have hbW : Below WA.heap.size WA (WA.drewN mm) := drewN_below (Below.refl _ _) mm
  have hszW : (WA.drewN mm).heap.size = WA.heap.size := rfl
  have Hst2 := Lib.hid (Hst.out.keep hbW); clear Hst
  generalize WA.drewN mm = WB at *
  have HbW := Lib.hid hbW; clear hbW
  have HszW := Lib.hid hszW; clear hszW
  cases bb with
  | true =>
    clear hbb
    go_wp2_with fail
    refine (Hend.out _ HbW.out).mono ?_; rintro e w1 ⟨rfl, hw1⟩
    go_wp2_with fail
    go_ret
    exact ⟨rfl, hw1⟩
  | false =>
  have hlight := hbb rfl
  clear hbb Hq
  go_wp2_with fail
  refine (may_any n0 _).mono ?_; rintro e w1 ⟨rfl, rfl⟩
  by_cases hm : 1 ≤ n0 ∧ n0 ≤ 16384
  case neg =>
    have dm : decide (1 ≤ n0 ∧ n0 ≤ 16384) = false := decide_eq_false hm
    rw [dm]
    clear dm hm hlight
    go_wp2_with fail
    refine (Hend.out _ HbW.out).mono ?_; rintro e w1 ⟨rfl, hw1⟩
    go_wp2_with fail
    go_ret
    exact ⟨rfl, hw1⟩
  have dm : decide (1 ≤ n0 ∧ n0 ≤ 16384) = true := decide_eq_true hm
  rw [dm]
  have hsec := hlight.sec
  obtain ⟨n, rfl⟩ : ∃ n : Nat, n0 = (n : Int) := ⟨n0.toNat, by omega⟩
  have k0 : 1 ≤ n := by omega
  have k2 : n ≤ 200 := by omega
  have hlen60 := hlight.len
  have hstp := hlight.stp
  have Hstp := Lib.hid hstp; clear hstp
  clear hi0 hlight dm hm hsec
  go_wp2_with fail
  refine (fcommit_nil none 0 0).mono ?_; rintro e W ⟨rfl, b1⟩
  have hbW := HbW.out.trans (b1.mono HbW.out.size)
  have Hst3 := Lib.hid (Hst2.out.keep b1); clear Hst2 b1 HbW HszW
  have HbW := Lib.hid hbW; clear hbW
  have hStop : ∀ u, Below W.heap.size W u → Below WA.heap.size WA u := fun u hu => HbW.out.trans (hu.mono HbW.out.size)
  have HStop := Lib.hid hStop; clear hStop
  go_wp2_with fail
  refine fnames_nil.mono ?_; rintro e w1 ⟨rfl, rfl⟩
  go_wp2_with fail
  refine fused_nil.mono ?_; rintro e w1 ⟨rfl, rfl⟩
  go_wp2_with fail
  refine froom_nil.mono ?_; rintro e w1 ⟨rfl, rfl⟩
  go_wp2_with fail
  refine (fsize_nil s2).mono ?_; rintro e w1 ⟨rfl, rfl⟩
  go_wp2_with fail
  refine ffault_nil.mono ?_; rintro e w1 ⟨rfl, rfl⟩
  go_wp2_with fail
  refine fdisk_nil.mono ?_; rintro e w1 ⟨rfl, rfl⟩
  go_wp2_with fail
  refine (new_any n k0 (by omega) _).mono ?_; rintro e v1 ⟨rfl, b1, d1⟩
  generalize W.heap.size + 2 = q at d1 ⊢
  have s1 : ∀ j, NewS W j → W.heap.size ≤ j := fun j h => h.1
  have B1 := Lib.hid b1; clear b1
  have D1 := Lib.hid d1; clear d1
  by_cases h8 : n < 8
  · have d8 : decide ((n : Int) < 8) = true := decide_eq_true (by omega)
    go_wp2_with fail
    refine (fopen_arg D1.out h8).mono ?_; rintro e w1 ⟨rfl, h1⟩
    have hb2 := HStop.out _ (B1.out.trans (h1.mono B1.out.size))
    go_wp2_with fail
    refine (Hend.out _ hb2).mono ?_; rintro e w2 ⟨rfl, hw2⟩
    go_wp2_with fail
    go_ret
    exact ⟨rfl, hw2⟩
  have d8 : decide ((n : Int) < 8) = false := decide_eq_false (by omega)
  have k1 : 8 ≤ n := by omega
  clear h8
  go_wp2_with fail
  refine (fopen_live D1.out (Fil.new_live (n := n) (by omega) (by omega)) (by show (0 : Nat) ≤ _; omega)).mono ?_; rintro e v2 ⟨p, S2, R2, pw, bm, rfl, hp, hA, ⟨nn, hn1, hn2⟩, x1, x2, x3⟩
  have h2 : Sys W (fun _ => False) 21000000000 S2 R2 p q pw bm (Dsk.new n) ⟨0, 0, 1, Fil.logN n, [], 0⟩ ⟨false, 0, 0, n, [], 0⟩ v2 := Sys.opened hA B1.out s1 hp hn1 hn2 x1 x2 x3 (by simp [Fil.Sorted]) (by intro x hx; simp at hx) (by show (0 : Nat) ≤ _; omega)
  have H2 := Lib.hid h2; clear h2 hA hn2 x1 x2 x3 hp hn1
  go_wp2_with fail
  refine (docNew_any n k1 (by omega) _).mono ?_; rintro e v3 ⟨rfl, rfl⟩
  have hI : PlI W n 0 S2 R2 p q pw bm (Dsk.new n) ⟨0, 0, 1, Fil.logN n, [], 0⟩ ⟨false, 0, 0, n, [], 0⟩ v2.heap.size [] (v2.alloc (docF (.slice none 0 0) n)) := by
    have hf := sys_fresh H2.out (Nat.le_refl _)
    have hd : DocO S2 R2 p v2.heap.size n [] (v2.alloc (docF (.slice none 0 0) n)) := ⟨⟨none, 0, heap_alloc_new v2 _, FlsAt.nil _, hf, fun b off _ e => by cases e⟩⟩
    exact
      { c :=
        { sys := H2.out.new ((Below.refl _ v2).alloc (Nat.le_refl _) _)
          dr := hd
          dn := hd
          tn := rfl
          ta := by show (0 : Nat) < 2; omega
          rr := rfl
          sr := Nat.zero_le _
          sn := Nat.zero_le _
          dN := rfl
          ops := Nat.zero_le _
          md := .inl ⟨rfl, rfl, Nat.zero_le _, _, _, _, Fil.new_live (by omega) (by omega)⟩ }
        up := ⟨rfl, by show (-1 : Int) < 0; decide⟩
        ok := rfl
        lo := H2.out.a.below.size }
  generalize v2.heap.size = pr at *
  generalize v2.alloc (docF (.slice none 0 0) n) = v4 at *
  have HI := Lib.hid hI; clear hI H2 D1 B1 s1
  go_wp2_with fail
  refine (HI.out.c.sameR k1 k2).mono ?_; rintro e v5 ⟨rfl, b5⟩
  have HI5 := Lib.hid (HI.out.new b5); clear HI b5
  have HI := HI5; clear HI5
  go_wp2_with fail
  refine (fdisk_any HI.out.c.sys.row).mono ?_; rintro e v6 ⟨rfl, rfl⟩
  obtain ⟨dj, hdj, _⟩ := Option.map_eq_some_iff.1 (show (Tryz.prog.info? 93).map (·.size) = some 6 by kernel_rfl)
  have hpq := Lib.run_neq_ptr_same v5 ⟨q, 0, none⟩ Tryz.underlying34 hdj
  have Hpq := Lib.hid hpq; clear hpq hdj
  go_wp2_with fail
  rw [Hpq.out]
  clear Hpq
  simp only [Result.andThen]
  rw [Oper.upon_value]
  go_wp2_with fail
  go_loopw [10, 13] (fun s10 iv wr => ∃ (k : Nat) (S R : Nat → Prop) (p pw bm : Nat) (d : Dsk.St) (s : Wal.St) (t : Fil.St) (l : List (ByteArray × ByteArray)), k ≤ len1 ∧ s10 = .pointer (some ⟨p, 0, none⟩) ∧ iv = .int .i64 (k : Int) ∧ PlI W n k S R p q pw bm d s t pr l wr) (fun _ iv _ => len1 - (intOf iv).toNat)
  case atStart => exact ⟨0, S2, R2, p, pw, bm, _, _, _, [], by omega, rfl, rfl, HI.out⟩
  case round =>
    clear HI
    obtain ⟨k, S, R, p, pw, bm, d, s, t, l, hk, rfl, rfl, hI⟩ := hrel
    have HI := Lib.hid hI; clear hI
    by_cases hlt : k < len1
    case neg =>
      obtain rfl : k = len1 := by omega
      have hge : decide ((k : Int) < (k : Int)) = false := decide_eq_false (by omega)
      have hg1 := fget_any HI.out.c.sys.row s2 (by omega)
      have hl : ((Fil.get t.r s2.data.toList).getD []).length = (ba ((Fil.get t.r s2.data.toList).getD [])).size := (ba_size _).symm
      go_wp2_with fail
      refine hg1.mono ?_; rintro e w1 ⟨rfl, b1⟩
      have HI1 := Lib.hid (HI.out.new b1); clear b1 HI hg1
      have hg2 := docGet_any HI1.out.c.dr.at_ s2 (by have := HI1.out.c.len.1; omega)
      have hg3 := fsize_any HI1.out.c.sys.row s2 (by omega)
      rw [HI1.out.c.rr] at hg2
      rw [hl] at hg3
      clear hl
      generalize ba ((Fil.get t.r s2.data.toList).getD []) = X at *
      generalize (Fil.get t.r s2.data.toList).isSome = B at *
      have q1 : (X.toList == X.toList) = true := by simp
      have q2 : (B == B) = true := by simp
      have q3 : ((X.size : Int) == (X.size : Int)) = true := by simp
      have Hg3 := Lib.hid hg3; clear hg3
      go_wp2_with fail
      refine hg2.mono ?_; rintro e w2 ⟨rfl, rfl⟩
      clear hg2
      go_wp2_with fail
      refine Hg3.out.mono ?_; rintro e w2 ⟨rfl, rfl⟩
      clear Hg3
      go_wp2_with fail
      refine (Hend.out _ (HStop.out _ HI1.out.c.below)).mono ?_; rintro e w1 ⟨rfl, hw1⟩
      go_wp2_with fail
      go_ret
      exact ⟨rfl, hw1⟩
    have hge : decide ((k : Int) < (len1 : Int)) = true := decide_eq_true (by omega)
    have hge' : decide (k < len1) = true := decide_eq_true hlt
    have hkl : k < l1.length := by rw [Hst3.out.1]; exact hlt
    obtain ⟨bs, off, rfl, hx0⟩ := Hst3.out.2 k hlt
    have hxo := Hok.out (l1.getD k default) (by
      rw [List.getD_eq_getElem?_getD, List.getElem?_eq_getElem hkl]; exact List.getElem_mem _)
    have hxs := Hstp.out (l1.getD k default) (by
      rw [List.getD_eq_getElem?_getD, List.getElem?_eq_getElem hkl]; exact List.getElem_mem _)
    generalize l1.getD k default = x at *
    have hbs : bs < W.heap.size := cell_lt hx0.d
    have hat : ∀ u, Below W.heap.size W u → FStpAt u bs (off + k * 4) x := fun u hu => hx0.keep hu
    have Hat := Lib.hid hat; clear hat hx0
    have hx1 := Hat.out _ HI.out.c.below
    have c0 := hx1.d
    have Hxo := Lib.hid hxo; clear hxo
    have Hxs := Lib.hid hxs; clear hxs
    clear hx1
    by_cases d0 : x.d = 0
    · have e0 : (x.d == 0) = true := by rw [beq_iff_eq]; exact d0
      go_wp2_with fail
      have hx1 := Hat.out _ (HI.out.new ((Below.refl _ wr).drew)).c.below
      have c2 := hx1.l
      obtain ⟨vv, w1, hrun, hown, hb1⟩ := run_append_chgs hx1.s hx1.z Hxo.out.ll
      obtain ⟨ac, cc, rfl, hch, hfre⟩ := hown.chgs
      clear hx1 hown
      have Hrun := Lib.hid hrun; clear hrun
      have hI1 := (HI.out.new ((Below.refl _ wr).drew)).new hb1
      have hcm := fcommit_any (m := n) hI1.c.sys.here hI1.c.sok hI1.c.ta (by rw [hI1.c.tn]; omega) (by rw [hI1.c.tn]; omega) (by omega) (by have := hI1.c.ops; omega) ac x.l.length cc x.l hch Hxo.out.ls (by have := Hxs.out.1; omega) (fun b off _ e => (HI.out.new ((Below.refl _ wr).drew)).c.fresh (hfre b off e).1)
      clear hb1 hfre hch HI
      have HI1 := Lib.hid hI1; clear hI1
      have Hcm := Lib.hid hcm; clear hcm
      refine wp_region_phases [([0, 1, 2, 3, 4, 5, 8, 9, 10, 11, 12, 13], [6, 7, 14, 15])] (by kernel_rfl) (by kernel_rfl) (fun z => z.cell? ⟨bs, off + k * 4 + 2, none⟩ = some (.slice x.la x.l.length x.lc)) c2 ?_
      simp only [wpPhases, pick, List.filterMap_cons, List.filterMap_nil, List.getElem?_toArray, List.getElem?_cons_zero, List.getElem?_cons_succ]
      refine take_move (.tmp 10) (.pointer (some ⟨p, 0, none⟩)) rfl rfl rfl ?_
      simp only [Act.put, List.setIfInBounds_toArray, List.set_cons_zero, List.set_cons_succ]
      refine take_move (.tmp 1) (.slice (some ⟨bs, off, none⟩) len1 cap1) rfl rfl rfl ?_
      simp only [Act.put, List.setIfInBounds_toArray, List.set_cons_zero, List.set_cons_succ]
      refine take_move (.tmp 13) (.int .i64 (k : Int)) rfl rfl rfl ?_
      simp only [Act.put, List.setIfInBounds_toArray, List.set_cons_zero, List.set_cons_succ]
      refine take_one (.pointer (some ⟨bs, off + k * 4, none⟩)) rfl (fun u hu => by go_simp) ?_
      simp only [Act.put, List.setIfInBounds_toArray, List.set_cons_zero, List.set_cons_succ]
      refine take_one (.pointer (some ⟨bs, off + k * 4 + 2, none⟩)) rfl (fun u _ => by go_simp) ?_
      simp only [Act.put, List.setIfInBounds_toArray, List.set_cons_zero, List.set_cons_succ]
      refine take_load 43 (.tmp 122) ⟨bs, off + k * 4 + 2, none⟩ (.slice x.la x.l.length x.lc) rfl rfl rfl (fun u hu => load_any Tryz.underlying43 Tryz.isAgg43 hu) ?_
      simp only [Act.put, List.setIfInBounds_toArray, List.set_cons_zero, List.set_cons_succ]
      refine take_move (.tmp 12) (.pointer (some ⟨pr, 0, none⟩)) rfl rfl rfl ?_
      simp only [Act.put, List.setIfInBounds_toArray, List.set_cons_zero, List.set_cons_succ]
      refine take_move (.tmp 1) (.slice (some ⟨bs, off, none⟩) len1 cap1) rfl rfl rfl ?_
      simp only [Act.put, List.setIfInBounds_toArray, List.set_cons_zero, List.set_cons_succ]
      refine take_move (.tmp 13) (.int .i64 (k : Int)) rfl rfl rfl ?_
      simp only [Act.put, List.setIfInBounds_toArray, List.set_cons_zero, List.set_cons_succ]
      refine take_one (.pointer (some ⟨bs, off + k * 4, none⟩)) rfl (fun u hu => by go_simp) ?_
      simp only [Act.put, List.setIfInBounds_toArray, List.set_cons_zero, List.set_cons_succ]
      refine take_one (.pointer (some ⟨bs, off + k * 4 + 2, none⟩)) rfl (fun u _ => by go_simp) ?_
      simp only [Act.put, List.setIfInBounds_toArray, List.set_cons_zero, List.set_cons_succ]
      refine take_load 43 (.tmp 130) ⟨bs, off + k * 4 + 2, none⟩ (.slice x.la x.l.length x.lc) rfl rfl rfl (fun u hu => load_any Tryz.underlying43 Tryz.isAgg43 hu) ?_
      simp only [Act.put, List.setIfInBounds_toArray, List.set_cons_zero, List.set_cons_succ]
      refine take_done ?_
      refine midk_wp rfl (wp_append_hap (.const (.slice none 0 0)) (.tmp 123) 43 rfl _ _ _ _ rfl rfl Hrun.out ⟨(Hat.out _ HI1.out.c.below).l, ?_⟩)
      simp only [Act.put, List.setIfInBounds_toArray, List.set_cons_zero, List.set_cons_succ]
      refine midk_wp rfl (call_wp 10 [.tmp 118, .tmp 124] #[26, 43] #[.pointer (some ⟨p, 0, none⟩), .slice ac x.l.length cc] rfl rfl rfl ?_)
      refine Hcm.out.mono ?_
      rintro e w4 ⟨rfl, S', R', bm', k4⟩
      have hS4 := HI1.out.c.sys.back k4
      have hR4 := HI1.out.c.dr.commit k4
      have HS4 := Lib.hid hS4; clear hS4
      have HR4 := Lib.hid hR4; clear hR4
      clear k4
      refine ⟨_, rfl, (Hat.out _ HS4.out.a.below).l, ?_⟩
      simp only [Act.put, List.setIfInBounds_toArray, List.set_cons_zero, List.set_cons_succ]
      refine midk_wp rfl (call_wp 21 [.tmp 126, .tmp 131] #[40, 43] #[.pointer (some ⟨pr, 0, none⟩), .slice x.la x.l.length x.lc] rfl rfl rfl ?_)
      obtain ⟨ar, cr, hrr, hrf, hr3, hr4⟩ := HR4.out.ex
      have hso5 : Fil.Sorted (fls l) := by rw [HI1.out.c.rr]; exact HI1.out.c.sys.srt
      have hsu5 : Fil.sum (fls l) ≤ 12800 := by rw [HI1.out.c.rr]; exact HI1.out.c.sr
      refine (docCommit_at hrr hrf k1 (by omega) (by have := HI1.out.c.len.1; omega) x.la x.l.length x.lc x.l (Hat.out _ HS4.out.a.below).s (by have := Hxs.out.1; omega) (fun hb => by
        have hbad : x.l.any Chb.bad = false := by simpa using hb
        rw [fls_puts x.l l hso5]
        have h1 := Fil.sum_puts (chs x.l) (fls l) (may_all hbad)
        have h2 : (chs x.l).length = x.l.length := by simp [chs]
        have h3 := Hxs.out.1
        omega)).mono ?_
      rintro e w6 ⟨rfl, hX6, ht6⟩
      have hS6 := Sys.turn HS4.out ht6 HI1.out.lo hr3 (sys_map HS4.out hrr)
      have hX7 := DocO.made (cap := 0) hX6 (fun j hj => HS4.out.a.disk.lt j hj) (fun j hj => HS4.out.a.wal.lt j hj) (row_lt (HS4.out.a.row (b := p) (o := objF (fcells (Fil.commit d s t x.l).2.2.1 q pw bm')) (by simp))) hr3 hr4
      obtain ⟨q2, hI⟩ := HI1.out.commit (by omega) Hxs.out.1 k2 hS6 hX7
      rw [q2]
      have HI9 := Lib.hid hI; clear hI
      clear hX6 ht6 hS6 hX7 hrr hrf hr3 hr4 hso5 hsu5 HR4 HS4 q2
      have hc6 := (Hat.out _ HI9.out.c.below).l
      have q5 : ((docCm n l x.l).2 != (docCm n l x.l).2) = false := by simp
      refine ⟨_, rfl, hc6, ?_⟩
      simp only [Act.put, List.setIfInBounds_toArray, List.set_cons_zero, List.set_cons_succ]
      refine midk_one (.bool false) rfl (by go_simp) hc6 ?_
      simp only [Act.put, List.setIfInBounds_toArray, List.set_cons_zero, List.set_cons_succ]
      refine midk_end ?_
      clear hc6 Hcm Hrun HI1 c2 q5
      go_wp2_with fail
      refine (HI9.out.c.sameR k1 k2).mono ?_; rintro e w8 ⟨rfl, b8⟩
      have HI8 := Lib.hid (HI9.out.new b8); clear b8 HI9
      go_wp2_with fail
      go_roundw
      case rel => exact ⟨k + 1, _, _, _, _, _, _, _, _, _, by omega, rfl, by go_num, HI8.out⟩
      case measure => simp [intOf]; omega
    have e0 : (x.d == 0) = false := by rw [beq_eq_false_iff_ne]; exact d0
    by_cases d3 : x.d = 3
    · have e3 : (x.d == 3) = true := by rw [beq_iff_eq]; exact d3
      have hx1 := Hat.out _ HI.out.c.below
      have c3 := hx1.k
      have hcr := crash_any HI.out.c.sys.a.disk x.k (by have := Hxs.out.2; omega) (by have := HI.out.c.ops; omega)
      have Hcr := Lib.hid hcr; clear hcr hx1
      obtain ⟨hgen, o, rb, xs, z0⟩ := HI.out.live
      go_wp2_with fail
      refine Hcr.out.mono ?_; rintro e w4 ⟨rfl, ht4, S4, hS4, hD4⟩
      clear Hcr
      have hdr4 := HI.out.c.dr.disk ht4 hS4
      have hb4 : Below W.heap.size W w4 := HI.out.c.below.trans (ht4.below HI.out.c.below.size (fun j _ e => HI.out.c.lo j e))
      have hlo4 : ∀ j, S4 j → W.heap.size ≤ j := fun j hj => by
        rcases hS4 j hj with e | e
        · exact HI.out.c.lo j e
        · have := HI.out.c.below.size; omega
      have z4 := Fil.live_crash z0 x.k.data.toList
      have hoo : (Dsk.crash d x.k.data.toList).ops ≤ 50000 * k := HI.out.c.ops
      have hdn : (Dsk.crash d x.k.data.toList).n = n := HI.out.c.dN
      have hcU : Dsk.Up (Dsk.crash d x.k.data.toList) := ⟨rfl, by show (-1 : Int) < 0; decide⟩
      generalize Dsk.crash d x.k.data.toList = dc at *
      have hfo := fopen_live hD4 z4 (by omega)
      have Hfo := Lib.hid hfo; clear hfo
      have Hdr4 := Lib.hid hdr4; clear hdr4
      have Hb4 := Lib.hid hb4; clear hb4
      have Hlo4 := Lib.hid hlo4; clear hlo4
      clear ht4 hS4 hD4 c3 z0
      have c0' := (Hat.out _ Hb4.out).d
      go_wp2_with fail
      refine Hfo.out.mono ?_; rintro e w3 ⟨p', S', R', pw', bm', rfl, hp', hA, ⟨nn, hn1, hn2⟩, x1, x2, x3⟩
      clear Hfo
      have hI4 := CrI.opened (k := k + 1) Hb4.out Hlo4.out hA hp' hn1 hn2 x1 x2 x3 z4 HI.out.c.rr HI.out.c.sr HI.out.c.tn hdn (by omega) (by omega) Hdr4.out
      have hP4 : PlI W n (k + 1) S' R' p' q pw' bm' dc s t pr l w3 := ⟨hI4, hcU, HI.out.ok, HI.out.lo⟩
      have HI4 := Lib.hid hP4; clear hP4 hI4 hA hn2 x1 x2 x3 hp' hn1 z4 hgen HI Hb4 Hlo4 Hdr4
      go_wp2_with fail
      refine (HI4.out.c.sameR k1 k2).mono ?_; rintro e w8 ⟨rfl, b8⟩
      have HI8 := Lib.hid (HI4.out.new b8); clear b8 HI4
      go_wp2_with fail
      go_roundw
      case rel => exact ⟨k + 1, _, _, _, _, _, _, _, _, _, by omega, rfl, by go_num, HI8.out⟩
      case measure => simp [intOf]; omega
    have e3 : (x.d == 3) = false := by rw [beq_eq_false_iff_ne]; exact d3
    by_cases d1 : x.d = 1
    · have e1 : (x.d == 1) = true := by rw [beq_iff_eq]; exact d1
      obtain ⟨hgen, o, rb, xs, z4⟩ := HI.out.live
      have hfo := fopen_live HI.out.c.sys.a.disk z4 (by have := HI.out.c.ops; omega)
      have Hfo := Lib.hid hfo; clear hfo
      go_wp2_with fail
      refine Hfo.out.mono ?_; rintro e w3 ⟨p', S', R', pw', bm', rfl, hp', hA, ⟨nn, hn1, hn2⟩, x1, x2, x3⟩
      clear Hfo
      have hI4 := CrI.opened (k := k + 1) HI.out.c.below HI.out.c.lo hA hp' hn1 hn2 x1 x2 x3 z4 HI.out.c.rr HI.out.c.sr HI.out.c.tn HI.out.c.dN (by have := HI.out.c.ops; omega) (by omega) HI.out.c.dr
      have hP4 : PlI W n (k + 1) S' R' p' q pw' bm' d s t pr l w3 := ⟨hI4, HI.out.up, HI.out.ok, HI.out.lo⟩
      have HI4 := Lib.hid hP4; clear hP4 hI4 hA hn2 x1 x2 x3 hp' hn1 z4 hgen HI
      go_wp2_with fail
      refine (HI4.out.c.sameR k1 k2).mono ?_; rintro e w8 ⟨rfl, b8⟩
      have HI8 := Lib.hid (HI4.out.new b8); clear b8 HI4
      go_wp2_with fail
      go_roundw
      case rel => exact ⟨k + 1, _, _, _, _, _, _, _, _, _, by omega, rfl, by go_num, HI8.out⟩
      case measure => simp [intOf]; omega
    have e1 : (x.d == 1) = false := by rw [beq_eq_false_iff_ne]; exact d1
    go_wp2_with fail
    refine (HI.out.c.sameR k1 k2).mono ?_; rintro e w8 ⟨rfl, b8⟩
    have HI8 := Lib.hid (HI.out.new b8); clear b8 HI
    go_wp2_with fail
    go_roundw
    case rel => exact ⟨k + 1, _, _, _, _, _, _, _, _, _, by omega, rfl, by go_num, HI8.out.upk⟩
    case measure => simp [intOf]; omega


end Go.Proofs.YtalklpnekbfehaaGreat.lawPlay6
