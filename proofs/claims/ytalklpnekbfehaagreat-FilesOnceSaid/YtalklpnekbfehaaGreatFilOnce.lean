/-
  FilesOnce: changes that are made at once, or one by one, or parted anywhere, come to the same files, as long as there is room for each; and the last one of a name is the one that counts: for every number of sectors, every changes, wherever they are parted.
  Conditions: none.
-/
import Derived.Test.YtalklpnekbfehaaGreatFilOnA
import Derived.Test.YtalklpnekbfehaaGreatGoPh2
import Derived.Deep.MidRow
import Derived.ProofKit
import Derived.OpenShut
import Derived.ShutString
import Derived.ChangeOld
import Derived.SizedLaws
import Derived.Outline
import Derived.OwnWalk
import Derived.StillTailTactics
import Derived.Deep.DeepCutAuto
namespace Go.Proofs.YtalklpnekbfehaaGreat.lawOnce6
open Go.ChangeShapes Go.WideShapes Go.ChangeAt Go.RowKit
open Go.ChangeMaps (open_string shut_string)
set_option linter.unusedVariables false
set_option maxRecDepth 100000

set_option maxHeartbeats 8000000 in
theorem walk (n0 : Int) (a1 : Option Addr) (len1 cap1 : Nat) (l1 : List Chb) (at0 : Int) (WA : World) (h0 : (Lit.int .i64 n0).wf = true) (hch : Chgs a1 len1 l1 WA) (hok : ∀ y ∈ l1, y.Ok) (hll : len1 ≤ 3518437208883) (hcap : len1 ≤ cap1) (hz : a1 = none → len1 = 0 ∧ cap1 = 0) (h2 : (Lit.int .u8 at0).wf = true) :
    Calls Tryz.prog 5 #[.int .i64 n0, .slice a1 len1 cap1, .int .u8 at0] WA fun e W' => e = .returned (.bool true) ∧ Below WA.heap.size WA W' := by
  have hi0 := wf_i64 h0
  have hi2 : 0 ≤ at0 ∧ at0 ≤ 255 := by
    have : IntKind.u8.min ≤ at0 ∧ at0 ≤ IntKind.u8.max := by simpa [Lit.wf] using h2
    exact this
  have hlg := flong_any a1 len1 cap1 l1 WA hch hok hll
  have hq : ∀ Q : Ending → World → Prop, (∀ (b : Bool) (m : Nat), (b = false → len1 ≤ 60) → Q (.returned (.bool b)) (WA.drewN m)) → Calls Tryz.prog 26 #[.slice a1 len1 cap1] WA Q := fun Q h => hlg.mono fun e w' ⟨b, he, hb, m, hw⟩ => by subst he; subst hw; exact h b m (fun c => (hb c).1)
  have Hq := Lib.hid hq; clear hq hlg
  have hend : ∀ u, Below WA.heap.size WA u → Calls Tryz.prog 9 #[] u fun e w' => e = .returned (.bool true) ∧ Below WA.heap.size WA w' := fun u hu => (filAlive_any u).mono fun e w' ⟨h1, h2⟩ => ⟨h1, hu.trans (h2.mono hu.size)⟩
  have Hend := Lib.hid hend; clear hend
  have hchk : ∀ u, Below WA.heap.size WA u → Chgs a1 len1 l1 u := fun u hu => hch.keep hu
  have hbl : ∀ b off, 0 < len1 → a1 = some ⟨b, off, none⟩ → b < WA.heap.size := fun b off hl e => by
    obtain ⟨b', off', e', hc⟩ := hch.2 0 hl
    rw [e] at e'
    obtain ⟨rfl, rfl⟩ : b = b' ∧ off = off' := by simpa using e'
    exact cell_lt hc.n
  have hl1 := hch.1
  have Hl1 := Lib.hid hl1; clear hl1
  have Hbl := Lib.hid hbl; clear hbl
  have Hch := Lib.hid hchk; clear hchk hch
  have Hok := Lib.hid hok; clear hok
  have Hz := Lib.hid hz; clear hz
  have Hcap := Lib.hid hcap
  clear h0 h2
  by_cases h8 : n0 < 8
  · have d8 : decide (n0 < 8) = true := decide_eq_true h8
    go_enter Tryz.func5, Tryz.ntmps5
    go_wp2_with fail
    refine (Hend.out _ (Below.refl _ _)).mono ?_; rintro e w1 ⟨rfl, hw1⟩
    go_wp2_with fail
    go_ret
    exact ⟨rfl, hw1⟩
  have d8 : decide (n0 < 8) = false := decide_eq_false h8
  by_cases h200 : 200 < n0
  · have d200 : decide (200 < n0) = true := decide_eq_true h200
    go_enter Tryz.func5, Tryz.ntmps5
    go_wp2_with fail
    refine (Hend.out _ (Below.refl _ _)).mono ?_; rintro e w1 ⟨rfl, hw1⟩
    go_wp2_with fail
    go_ret
    exact ⟨rfl, hw1⟩
  have d200 : decide (200 < n0) = false := decide_eq_false h200
  obtain ⟨n, rfl⟩ : ∃ n : Nat, n0 = (n : Int) := ⟨n0.toNat, by omega⟩
  obtain ⟨av, rfl⟩ : ∃ av : Nat, at0 = (av : Int) := ⟨at0.toNat, by omega⟩
  have k1 : 8 ≤ n := by omega
  have k2 : n ≤ 200 := by omega
  have k3 : av ≤ 255 := by omega
  clear h8 h200 hi0 hi2
  go_enter Tryz.func5, Tryz.ntmps5
  go_wp2_with fail
  refine Hq.out _ ?_
  intro bb mm hbb
  have hbW : Below WA.heap.size WA (WA.drewN mm) := drewN_below (Below.refl _ _) mm
  have hszW : (WA.drewN mm).heap.size = WA.heap.size := rfl
  generalize WA.drewN mm = W at *
  have HbW := Lib.hid hbW; clear hbW
  clear Hq
  cases bb with
  | true =>
    clear hbb
    go_wp2_with fail
    refine (Hend.out _ HbW.out).mono ?_; rintro e w1 ⟨rfl, hw1⟩
    go_wp2_with fail
    go_ret
    exact ⟨rfl, hw1⟩
  | false =>
  have hlen60 : len1 ≤ 60 := hbb rfl
  clear hbb
  have hAW : WA.heap.size ≤ W.heap.size := by omega
  have HAW := Lib.hid hAW; clear hAW hszW
  have hA0 : St3 n (W.heap.size + 1) W.heap.size 0 (W.alloc (.cells #[.pointer none, .pointer none, .pointer none] 56)) := St3.start (heap_alloc_new _ _)
  have hbA : Below WA.heap.size WA (W.alloc (.cells #[.pointer none, .pointer none, .pointer none] 56)) := HbW.out.alloc HAW.out _
  have hzA : W.heap.size + 1 ≤ (W.alloc (.cells #[.pointer none, .pointer none, .pointer none] 56)).heap.size := by simp
  have HA0 := Lib.hid hA0; clear hA0
  have HbA := Lib.hid hbA; clear hbA
  have HzA := Lib.hid hzA; clear hzA
  go_wp2_with fail
  go_loopw [8] (fun iv wr => ∃ k : Nat, k ≤ 3 ∧ iv = .int .i64 (k : Int) ∧ St3 n (W.heap.size + 1) W.heap.size k wr ∧ Below WA.heap.size WA wr ∧ W.heap.size + 1 ≤ wr.heap.size) (fun iv _ => 3 - (intOf iv).toNat)
  case atStart => exact ⟨0, by omega, rfl, HA0.out, HbA.out, HzA.out⟩
  case round =>
    clear HA0 HbA HzA
    obtain ⟨k, hk, rfl, hst, hb, hz⟩ := hrel
    have Hst := Lib.hid hst; clear hst
    have Hb := Lib.hid hb; clear hb
    have Hz2 := Lib.hid hz; clear hz
    by_cases hlt : k < 3
    case pos =>
      have hge : decide ((k : Int) < 3) = true := decide_eq_true (by omega)
      have hge' : decide (k < 3) = true := decide_eq_true hlt
      go_wp2_with fail
      refine (new_any n (by omega) (by omega) _).mono ?_; rintro e v1 ⟨rfl, b1, d1⟩
      generalize hq : wr.heap.size + 2 = q at d1 ⊢
      have B1 := Lib.hid b1; clear b1
      have D1 := Lib.hid d1; clear d1
      clear hq
      go_wp2_with fail
      refine (stoOpen_any k1 k2 D1.out B1.out (fun j h => h.1)).mono ?_; rintro e V ⟨p', rfl, hs, hb2⟩
      obtain ⟨vv, c1, f1⟩ := Hst.out.cell hlt hb2
      have hnx := Hst.out.next hlt (Nat.lt_succ_self _) Hz2.out hb2 hs
      have hbn : Below WA.heap.size WA (V.setCell ⟨W.heap.size, k, none⟩ (.pointer (some ⟨p', 0, none⟩))) := (Hb.out.trans (hb2.mono Hb.out.size)).trans (((Turns.refl (fun j => j = W.heap.size) V).set W.heap.size k _ (fun _ => rfl)).below (by have := Hb.out.size; have := hb2.size; omega) (fun j _ e => by have := HAW.out; omega))
      have hzn : W.heap.size + 1 ≤ (V.setCell ⟨W.heap.size, k, none⟩ (.pointer (some ⟨p', 0, none⟩))).heap.size := by have := Hz2.out; have := hb2.size; simp; omega
      have Hnx := Lib.hid hnx; clear hnx
      have Hbn := Lib.hid hbn; clear hbn
      have Hzn := Lib.hid hzn; clear hzn
      clear hs hb2 D1 B1
      go_wp2_with fail
      go_roundw
      case rel => exact ⟨k + 1, by omega, by go_num, Hnx.out, Hbn.out, Hzn.out⟩
      case measure => simp [intOf]; omega
    obtain rfl : k = 3 := by omega
    obtain ⟨T0, T1, T2, p0, p1, p2, ht⟩ := Hst.out.tri (Nat.lt_succ_self _)
    have HT := Lib.hid ht; clear ht
    clear Hst Hz2
    generalize W.heap.size = A at *
    have hAW := HAW.out
    obtain ⟨kk, hkk⟩ : ∃ kk : Nat, kk = av % (len1 + 1) := ⟨_, rfl⟩
    have hmod : (av : Int) % ((len1 : Int) + 1) = (kk : Int) := by rw [hkk]; exact (Int.natCast_emod av (len1 + 1)).symm
    have hkl : kk ≤ len1 := by have := Nat.mod_lt av (show 0 < len1 + 1 by omega); omega
    have Hkl := Lib.hid hkl; clear hkk hkl
    obtain ⟨a2, c2, hhi, hrc, hro⟩ := rest_is a1 len1 cap1 kk l1 wr Hkl.out Hcap.out Hz.out (Hch.out _ Hb.out)
    have Hhi := Lib.hid hhi; clear hhi
    have Hrc := Lib.hid hrc; clear hrc
    have Hro := Lib.hid hro; clear hro
    have Hlo := Lib.hid (fun u => slice_lo a1 len1 cap1 kk (Nat.le_trans Hkl.out Hcap.out) u)
    have q0 : wr.cell? ⟨A, 0, none⟩ = some (.pointer (some ⟨p0, 0, none⟩)) := HT.out.cell 0
    clear hcap hk hlt hAW
    go_wp2_with fail
    refine (stoCommit_any HT.out.s0 (by omega) k1 k2 a1 len1 cap1 l1 (Hch.out _ Hb.out) Hok.out hlen60 (fun b off h0 e c => by have := HT.out.l0 b c; have := Hbl.out b off h0 e; have := HAW.out; omega)).mono ?_
    rintro e u1 ⟨Ta, Ea, ra, rfl, hs, hT, ht, hR⟩
    have HT1 := Lib.hid (HT.out.to0 hs ht hT)
    have Hb1 := Lib.hid (HT.out.below0 (by have := HAW.out; omega) Hb.out ht Hb.out.size)
    have HRa := Lib.hid hR; clear hs hT ht hR HT Hb q0
    have HT2 := Lib.hid (HT1.out.new ((Below.refl _ u1).drew))
    have Hb2 := Lib.hid (Hb1.out.drew); clear HT1 Hb1
    go_wp2_with fail
    refine wp_region_phases [([0, 1, 2, 3, 4, 6, 7, 8, 9, 10], [5, 11]), ([12, 13], [])] (by kernel_rfl) (by kernel_rfl) (fun z => z.cell? ⟨A, 1, none⟩ = some (.pointer (some ⟨p1, 0, none⟩))) (HT2.out.cell 1) ?_
    simp only [wpPhases, pick, List.filterMap_cons, List.filterMap_nil, List.getElem?_toArray, List.getElem?_cons_zero, List.getElem?_cons_succ]
    refine take_one (.pointer (some ⟨A, 1, none⟩)) rfl (fun u hu => by go_simp) ?_
    simp only [Act.put, List.setIfInBounds_toArray, List.set_cons_zero, List.set_cons_succ]
    refine take_load 26 (.tmp 76) ⟨A, 1, none⟩ (.pointer (some ⟨p1, 0, none⟩)) rfl rfl rfl (fun u hu => load_any Tryz.underlying26 Tryz.isAgg26 hu) ?_
    simp only [Act.put, List.setIfInBounds_toArray, List.set_cons_zero, List.set_cons_succ]
    refine take_move (.tmp 1) (.slice a1 len1 cap1) rfl rfl rfl ?_
    simp only [Act.put, List.setIfInBounds_toArray, List.set_cons_zero, List.set_cons_succ]
    refine take_move (.tmp 13) (.int .i64 (kk : Int)) rfl rfl rfl ?_
    simp only [Act.put, List.setIfInBounds_toArray, List.set_cons_zero, List.set_cons_succ]
    refine take_one (.slice a1 kk cap1) rfl (fun u hu => run_cut_hi 43 (.tmp 78) (.tmp 79) rfl _ _ _ rfl rfl (Hlo.out u)) ?_
    simp only [Act.put, List.setIfInBounds_toArray, List.set_cons_zero, List.set_cons_succ]
    refine take_one (.pointer (some ⟨A, 1, none⟩)) rfl (fun u hu => by go_simp) ?_
    simp only [Act.put, List.setIfInBounds_toArray, List.set_cons_zero, List.set_cons_succ]
    refine take_load 26 (.tmp 82) ⟨A, 1, none⟩ (.pointer (some ⟨p1, 0, none⟩)) rfl rfl rfl (fun u hu => load_any Tryz.underlying26 Tryz.isAgg26 hu) ?_
    simp only [Act.put, List.setIfInBounds_toArray, List.set_cons_zero, List.set_cons_succ]
    refine take_move (.tmp 1) (.slice a1 len1 cap1) rfl rfl rfl ?_
    simp only [Act.put, List.setIfInBounds_toArray, List.set_cons_zero, List.set_cons_succ]
    refine take_move (.tmp 13) (.int .i64 (kk : Int)) rfl rfl rfl ?_
    simp only [Act.put, List.setIfInBounds_toArray, List.set_cons_zero, List.set_cons_succ]
    refine take_one (.slice a2 (len1 - kk) c2) rfl (fun u hu => run_cut_lo 43 (.tmp 84) (.tmp 85) rfl _ _ _ rfl rfl (Hhi.out u)) ?_
    simp only [Act.put, List.setIfInBounds_toArray, List.set_cons_zero, List.set_cons_succ]
    refine take_done ?_
    refine midk_wp rfl (call_wp 10 [.tmp 77, .tmp 80] #[26, 43] #[.pointer (some ⟨p1, 0, none⟩), .slice a1 kk cap1] rfl rfl rfl ?_)
    refine (stoCommit_any HT2.out.s1 (by omega) k1 k2 a1 kk cap1 (l1.take kk) ((Hch.out _ Hb2.out).take Hkl.out) (fun x hx => Hok.out x (List.mem_of_mem_take hx)) (by have := Hkl.out; omega) (fun b off h0 e c => by have := HT2.out.l1 b c; have := Hbl.out b off (by have := Hkl.out; omega) e; have := HAW.out; omega)).mono ?_
    rintro e u3 ⟨Tb, Eb, rb, rfl, hs, hT, ht, hR⟩
    have HT3 := Lib.hid (HT2.out.to1 hs ht hT)
    have Hb3 := Lib.hid (HT2.out.below1 (by have := HAW.out; omega) Hb2.out ht Hb2.out.size)
    have HRb := Lib.hid hR; clear hs hT ht hR
    refine ⟨_, rfl, HT3.out.cell 1, ?_⟩
    simp only [Act.put, List.setIfInBounds_toArray, List.set_cons_zero, List.set_cons_succ]
    refine midk_wp rfl (call_wp 10 [.tmp 83, .tmp 86] #[26, 43] #[.pointer (some ⟨p1, 0, none⟩), .slice a2 (len1 - kk) c2] rfl rfl rfl ?_)
    refine (stoCommit_any HT3.out.s1 (by omega) k1 k2 a2 (len1 - kk) c2 (l1.drop kk) (Hrc.out _ (Hch.out _ Hb3.out)) (fun x hx => Hok.out x (List.mem_of_mem_drop hx)) (by omega) (fun b off h0 e c => by
      obtain ⟨g0, o2, g1⟩ := Hro.out b off h0 e
      have := HT3.out.l1 b c; have := Hbl.out b o2 g0 g1; have := HAW.out; omega)).mono ?_
    rintro e u4 ⟨Tc, Ec, rc, rfl, hs, hT, ht, hR⟩
    have HT4 := Lib.hid (HT3.out.to1 hs ht hT)
    have Hb4 := Lib.hid (HT3.out.below1 (by have := HAW.out; omega) Hb3.out ht Hb3.out.size)
    have HRc := Lib.hid hR; clear hs hT ht hR
    refine ⟨_, rfl, HT4.out.cell 1, ?_⟩
    simp only [Act.put, List.setIfInBounds_toArray, List.set_cons_zero, List.set_cons_succ]
    refine take_one (.int .i64 Eb) rfl (fun u hu => by go_simp) ?_
    simp only [Act.put, List.setIfInBounds_toArray, List.set_cons_zero, List.set_cons_succ]
    refine take_one (.int .i64 Ec) rfl (fun u hu => by go_simp) ?_
    simp only [Act.put, List.setIfInBounds_toArray, List.set_cons_zero, List.set_cons_succ]
    refine take_done ?_
    refine midk_end ?_
    clear HT2 HT3 Hb2 Hb3 Hhi Hrc Hro Hlo hmod
    go_wp2_with fail
    go_loopw [17] (fun iv wr => ∃ (i : Nat) (Td : Nat → Prop) (rd : Fil.Row), i ≤ len1 ∧ iv = .int .i64 (i : Int) ∧ Tri n (A + 1) A 1 2 i Ta Tc Td p0 p1 p2 ra rc rd wr ∧ Below WA.heap.size WA wr ∧ OneR n l1 i rd) (fun iv _ => len1 - (intOf iv).toNat)
    case atStart => exact ⟨0, _, _, by omega, rfl, HT4.out, Hb4.out, OneR.zero k1 l1⟩
    case round =>
      clear HT4 Hb4
      obtain ⟨i, Tx, rx, hi, rfl, ht, hb, ho⟩ := hrel
      have HTx := Lib.hid ht; clear ht
      have Hbx := Lib.hid hb; clear hb
      have Ho := Lib.hid ho; clear ho
      by_cases hlt : i < len1
      case pos =>
        have hge : decide ((i : Int) < (len1 : Int)) = true := decide_eq_true (by omega)
        have hge' : decide (i < len1) = true := decide_eq_true hlt
        have hil : i < l1.length := by rw [Hl1.out]; exact hlt
        obtain ⟨bs, off, ha1, hx0⟩ := (Hch.out _ (Below.refl _ _)).2 i hlt
        subst ha1
        have hxo := Hok.out (l1.getD i default) (by
          rw [List.getD_eq_getElem?_getD, List.getElem?_eq_getElem hil]; exact List.getElem_mem _)
        obtain ⟨x, hxe⟩ : ∃ x, x = l1.getD i default := ⟨_, rfl⟩
        rw [← hxe] at hx0 hxo
        have Hxe := Lib.hid hxe; clear hxe
        have Hxo := Lib.hid hxo; clear hxo
        have hxa : ∀ u, Below WA.heap.size WA u → ChgAt u bs (off + i * 3) x := fun u hu => hx0.same (hu.block bs (cell_lt hx0.n))
        have Hxa := Lib.hid hxa; clear hxa hx0
        have HTd := Lib.hid (HTx.out.new ((Below.refl _ wr).drew))
        have Hbd := Lib.hid (Hbx.out.drew)
        have hbc : Below wr.drew.heap.size wr.drew (wr.drew.alloc (.cells #[.string x.n, .string x.d, .bool x.g] 58)) := (Below.refl _ _).alloc (Nat.le_refl _) _
        have HTn := Lib.hid (HTd.out.new hbc)
        have Hbn := Lib.hid (Hbd.out.trans (hbc.mono Hbd.out.size)); clear hbc
        go_wp2_with fail
        refine wp_region_phases [([0, 1, 2, 3, 4, 5], [6, 7, 8])] (by kernel_rfl) (by kernel_rfl) (fun z => z.cell? ⟨A, 2, none⟩ = some (.pointer (some ⟨p2, 0, none⟩)) ∧ ChgAt z bs (off + i * 3) x) ⟨HTd.out.cell 2, Hxa.out _ Hbd.out⟩ ?_
        simp only [wpPhases, pick, List.filterMap_cons, List.filterMap_nil, List.getElem?_toArray, List.getElem?_cons_zero, List.getElem?_cons_succ]
        refine take_one (.pointer (some ⟨A, 2, none⟩)) rfl (fun u hu => by go_simp) ?_
        simp only [Act.put, List.setIfInBounds_toArray, List.set_cons_zero, List.set_cons_succ]
        refine take_load 26 (.tmp 94) ⟨A, 2, none⟩ (.pointer (some ⟨p2, 0, none⟩)) rfl rfl rfl (fun u hu => load_any Tryz.underlying26 Tryz.isAgg26 hu.1) ?_
        simp only [Act.put, List.setIfInBounds_toArray, List.set_cons_zero, List.set_cons_succ]
        refine take_move (.tmp 1) (.slice (some ⟨bs, off, none⟩) len1 cap1) rfl rfl rfl ?_
        simp only [Act.put, List.setIfInBounds_toArray, List.set_cons_zero, List.set_cons_succ]
        refine take_move (.tmp 17) (.int .i64 (i : Int)) rfl rfl rfl ?_
        simp only [Act.put, List.setIfInBounds_toArray, List.set_cons_zero, List.set_cons_succ]
        refine take_one (.pointer (some ⟨bs, off + i * 3, none⟩)) rfl (fun u hu => by go_simp) ?_
        simp only [Act.put, List.setIfInBounds_toArray, List.set_cons_zero, List.set_cons_succ]
        refine take_load 58 (.tmp 98) ⟨bs, off + i * 3, none⟩ (.agg #[.string x.n, .string x.d, .bool x.g]) rfl rfl rfl (fun u hu => load_chd u bs (off + i * 3) x hu.2) ?_
        simp only [Act.put, List.setIfInBounds_toArray, List.set_cons_zero, List.set_cons_succ]
        refine take_done ?_
        refine midk_one (.slice (some ⟨wr.drew.heap.size, 0, none⟩) 1 1) rfl (run_slice_op 43 1 [(0, .tmp 99)] rfl (slice_chg1 x _)) ⟨HTn.out.cell 2, Hxa.out _ Hbn.out⟩ ?_
        simp only [Act.put, List.setIfInBounds_toArray, List.set_cons_zero, List.set_cons_succ]
        refine midk_wp rfl (call_wp 10 [.tmp 95, .tmp 100] #[26, 43] #[.pointer (some ⟨p2, 0, none⟩), .slice (some ⟨wr.drew.heap.size, 0, none⟩) 1 1] rfl rfl rfl ?_)
        refine (stoCommit_any HTn.out.s2 (by omega) k1 k2 (some ⟨wr.drew.heap.size, 0, none⟩) 1 1 [x] (chgs_one (heap_alloc_new _ _)) (fun y hy => by simp at hy; subst hy; exact Hxo.out) (by omega) (fun b off h0 e c => by
          obtain rfl : wr.drew.heap.size = b := by simpa using congrArg (Option.map Addr.block) e
          exact Nat.lt_irrefl _ (HTd.out.s2.lt _ c))).mono ?_
        rintro e u5 ⟨Td, Ed, rd, rfl, hs, hT, ht, hR⟩
        have HT5 := Lib.hid (HTn.out.to2 hs ht hT)
        have Hb5 := Lib.hid (HTn.out.below2 (by have := HAW.out; omega) Hbn.out ht Hbn.out.size)
        have HRd := Lib.hid hR; clear hs hT ht hR
        refine ⟨_, rfl, ⟨HT5.out.cell 2, Hxa.out _ Hb5.out⟩, ?_⟩
        simp only [Act.put, List.setIfInBounds_toArray, List.set_cons_zero, List.set_cons_succ]
        refine midk_one (.bool (Ed != 0)) rfl (by go_simp) ⟨HT5.out.cell 2, Hxa.out _ Hb5.out⟩ ?_
        simp only [Act.put, List.setIfInBounds_toArray, List.set_cons_zero, List.set_cons_succ]
        refine midk_end ?_
        clear HTd Hbd HTn Hbn HTx Hbx
        by_cases hE : Ed = 0
        · have hEb : (Ed != 0) = false := by rw [hE]; rfl
          rw [hEb]
          have Hon := Lib.hid (Ho.out.next hil (by rw [← Hxe.out]; exact HRd.out) hE)
          clear hE hEb
          go_wp2_with fail
          go_roundw
          case rel => exact ⟨i + 1, _, _, by omega, by go_num, HT5.out, Hb5.out, Hon.out⟩
          case measure => simp [intOf]; omega
        · have hEb : (Ed != 0) = true := by rw [bne_iff_ne]; exact hE
          rw [hEb]
          clear hE hEb
          go_wp2_with fail
          refine (Hend.out _ Hb5.out).mono ?_; rintro e w1 ⟨rfl, hw1⟩
          go_wp2_with fail
          go_ret
          exact ⟨rfl, hw1⟩
      obtain rfl : len1 = i := by omega
      have hal := OneR.all (by rw [Hl1.out]; exact Ho.out) (by rw [Hl1.out]; exact Hkl.out) HRa.out HRb.out HRc.out
      clear HRa HRb HRc Ho
      obtain ⟨rfl, rfl, rfl, rfl, rfl, rfl⟩ := hal
      obtain ⟨rr, hrr⟩ : ∃ rr, rr = Fil.puts [] (chs l1) := ⟨_, rfl⟩
      rw [← hrr] at HTx
      have Hrr := Lib.hid hrr; clear hrr
      have hlen := HTx.out.s0.len
      have hlN : (nam rr).length ≤ 8796093022208 := by have := hlen.1; simp only [nam, List.length_map]; omega
      have hsm : sameB (nam rr) (nam rr) = true := decide_eq_true rfl
      have Hsm := Lib.hid hsm; clear hsm
      have Hlen := Lib.hid hlen; clear hlen
      have q0 : wr.cell? ⟨A, 0, none⟩ = some (.pointer (some ⟨p0, 0, none⟩)) := HTx.out.cell 0
      go_wp2_with fail
      refine (HTx.out.s0.names).mono ?_
      rintro e u6 ⟨vn, rfl, hown, hb6⟩
      obtain ⟨an, cn, rfl, hstr6, _⟩ := hown.strs
      have HT6 := Lib.hid (HTx.out.new hb6)
      have Hb6 := Lib.hid (Hbx.out.trans (hb6.mono Hbx.out.size)); clear hown HTx Hbx q0 hb6
      have HT7 := Lib.hid (HT6.out.new ((Below.refl _ u6).drew))
      have Hb7 := Lib.hid (Hb6.out.drew)
      have hstr7 := hstr6.keep ((Below.refl _ u6).drew)
      go_wp2_with fail
      refine wp_region_phases [([0, 1, 2], [3, 4, 5, 6]), ([7, 8, 9], [10, 11, 12, 13, 14]), ([15, 16, 18, 19], [17, 20, 21, 22, 23]), ([24, 25, 27, 28], [26, 29, 30, 31])] (by kernel_rfl) (by kernel_rfl) (fun z => z.cell? ⟨A, 0, none⟩ = some (.pointer (some ⟨p0, 0, none⟩)) ∧ z.cell? ⟨A, 1, none⟩ = some (.pointer (some ⟨p1, 0, none⟩)) ∧ z.cell? ⟨A, 2, none⟩ = some (.pointer (some ⟨p2, 0, none⟩))) ⟨HT7.out.cell 0, HT7.out.cell 1, HT7.out.cell 2⟩ ?_
      simp only [wpPhases, pick, List.filterMap_cons, List.filterMap_nil, List.getElem?_toArray, List.getElem?_cons_zero, List.getElem?_cons_succ]
      refine take_move (.tmp 18) (.slice an (nam rr).length cn) rfl rfl rfl ?_
      simp only [Act.put, List.setIfInBounds_toArray, List.set_cons_zero, List.set_cons_succ]
      refine take_one (.pointer (some ⟨A, 1, none⟩)) rfl (fun u hu => by go_simp) ?_
      simp only [Act.put, List.setIfInBounds_toArray, List.set_cons_zero, List.set_cons_succ]
      refine take_load 26 (.tmp 118) ⟨A, 1, none⟩ (.pointer (some ⟨p1, 0, none⟩)) rfl rfl rfl (fun u hu => load_any Tryz.underlying26 Tryz.isAgg26 hu.2.1) ?_
      simp only [Act.put, List.setIfInBounds_toArray, List.set_cons_zero, List.set_cons_succ]
      refine take_done ?_
      refine midk_wp rfl (call_wp 11 [.tmp 119] #[26] #[.pointer (some ⟨p1, 0, none⟩)] rfl rfl rfl ?_)
      refine (HT7.out.s1.names).mono ?_
      rintro e u8 ⟨v8, rfl, ho8, hb8⟩
      obtain ⟨a8, c8, rfl, hs8, _⟩ := ho8.strs
      have HT8 := Lib.hid (HT7.out.new hb8)
      have hstr8 := hstr7.keep hb8
      have Hb8 := Lib.hid (Hb7.out.trans (hb8.mono Hb7.out.size))
      refine ⟨_, rfl, ⟨HT8.out.cell 0, HT8.out.cell 1, HT8.out.cell 2⟩, ?_⟩
      simp only [Act.put, List.setIfInBounds_toArray, List.set_cons_zero, List.set_cons_succ]
      refine midk_wp rfl (call_wp 27 [.tmp 117, .tmp 120] #[29, 29] #[.slice an (nam rr).length cn, .slice a8 (nam rr).length c8] rfl rfl rfl ?_)
      refine (same_any an a8 _ _ cn c8 (nam rr) (nam rr) u8 hstr8 hs8 hlN hlN).mono ?_
      rintro e u9 ⟨rfl, hb9⟩
      rw [Hsm.out]
      have HT9 := Lib.hid (HT8.out.new hb9)
      have hstr9 := hstr8.keep hb9
      have Hb9 := Lib.hid (Hb8.out.trans (hb9.mono Hb8.out.size))
      refine ⟨_, rfl, ⟨HT9.out.cell 0, HT9.out.cell 1, HT9.out.cell 2⟩, ?_⟩
      simp only [Act.put, List.setIfInBounds_toArray, List.set_cons_zero, List.set_cons_succ]
      refine midk_one (.bool false) rfl (by go_simp) ⟨HT9.out.cell 0, HT9.out.cell 1, HT9.out.cell 2⟩ ?_
      simp only [Act.put, List.setIfInBounds_toArray, List.set_cons_zero, List.set_cons_succ]
      refine midk_one (.bool false) rfl rfl ⟨HT9.out.cell 0, HT9.out.cell 1, HT9.out.cell 2⟩ ?_
      simp only [Act.put, List.setIfInBounds_toArray, List.set_cons_zero, List.set_cons_succ]
      refine take_move (.tmp 18) (.slice an (nam rr).length cn) rfl rfl rfl ?_
      simp only [Act.put, List.setIfInBounds_toArray, List.set_cons_zero, List.set_cons_succ]
      refine take_one (.pointer (some ⟨A, 2, none⟩)) rfl (fun u hu => by go_simp) ?_
      simp only [Act.put, List.setIfInBounds_toArray, List.set_cons_zero, List.set_cons_succ]
      refine take_load 26 (.tmp 125) ⟨A, 2, none⟩ (.pointer (some ⟨p2, 0, none⟩)) rfl rfl rfl (fun u hu => load_any Tryz.underlying26 Tryz.isAgg26 hu.2.2) ?_
      simp only [Act.put, List.setIfInBounds_toArray, List.set_cons_zero, List.set_cons_succ]
      refine take_done ?_
      refine midk_wp rfl (call_wp 11 [.tmp 126] #[26] #[.pointer (some ⟨p2, 0, none⟩)] rfl rfl rfl ?_)
      refine (HT9.out.s2.names).mono ?_
      rintro e u10 ⟨v10, rfl, ho10, hb10⟩
      obtain ⟨a10, c10, rfl, hs10, _⟩ := ho10.strs
      have HT10 := Lib.hid (HT9.out.new hb10)
      have hstr10 := hstr9.keep hb10
      have Hb10 := Lib.hid (Hb9.out.trans (hb10.mono Hb9.out.size))
      refine ⟨_, rfl, ⟨HT10.out.cell 0, HT10.out.cell 1, HT10.out.cell 2⟩, ?_⟩
      simp only [Act.put, List.setIfInBounds_toArray, List.set_cons_zero, List.set_cons_succ]
      refine midk_wp rfl (call_wp 27 [.tmp 124, .tmp 127] #[29, 29] #[.slice an (nam rr).length cn, .slice a10 (nam rr).length c10] rfl rfl rfl ?_)
      refine (same_any an a10 _ _ cn c10 (nam rr) (nam rr) u10 hstr10 hs10 hlN hlN).mono ?_
      rintro e u11 ⟨rfl, hb11⟩
      rw [Hsm.out]
      have HT11 := Lib.hid (HT10.out.new hb11)
      have hstr11 := hstr10.keep hb11
      have Hb11 := Lib.hid (Hb10.out.trans (hb11.mono Hb10.out.size))
      refine ⟨_, rfl, ⟨HT11.out.cell 0, HT11.out.cell 1, HT11.out.cell 2⟩, ?_⟩
      simp only [Act.put, List.setIfInBounds_toArray, List.set_cons_zero, List.set_cons_succ]
      refine midk_one (.bool false) rfl (by go_simp) ⟨HT11.out.cell 0, HT11.out.cell 1, HT11.out.cell 2⟩ ?_
      simp only [Act.put, List.setIfInBounds_toArray, List.set_cons_zero, List.set_cons_succ]
      refine midk_one (.bool false) rfl (by go_simp) ⟨HT11.out.cell 0, HT11.out.cell 1, HT11.out.cell 2⟩ ?_
      simp only [Act.put, List.setIfInBounds_toArray, List.set_cons_zero, List.set_cons_succ]
      refine midk_one (.bool false) rfl rfl ⟨HT11.out.cell 0, HT11.out.cell 1, HT11.out.cell 2⟩ ?_
      simp only [Act.put, List.setIfInBounds_toArray, List.set_cons_zero, List.set_cons_succ]
      refine take_one (.pointer (some ⟨A, 0, none⟩)) rfl (fun u hu => by go_simp) ?_
      simp only [Act.put, List.setIfInBounds_toArray, List.set_cons_zero, List.set_cons_succ]
      refine take_load 26 (.tmp 132) ⟨A, 0, none⟩ (.pointer (some ⟨p0, 0, none⟩)) rfl rfl rfl (fun u hu => load_any Tryz.underlying26 Tryz.isAgg26 hu.1) ?_
      simp only [Act.put, List.setIfInBounds_toArray, List.set_cons_zero, List.set_cons_succ]
      refine take_one (.pointer (some ⟨A, 1, none⟩)) rfl (fun u hu => by go_simp) ?_
      simp only [Act.put, List.setIfInBounds_toArray, List.set_cons_zero, List.set_cons_succ]
      refine take_load 26 (.tmp 135) ⟨A, 1, none⟩ (.pointer (some ⟨p1, 0, none⟩)) rfl rfl rfl (fun u hu => load_any Tryz.underlying26 Tryz.isAgg26 hu.2.1) ?_
      simp only [Act.put, List.setIfInBounds_toArray, List.set_cons_zero, List.set_cons_succ]
      refine take_done ?_
      refine midk_wp rfl (call_wp 12 [.tmp 133] #[26] #[.pointer (some ⟨p0, 0, none⟩)] rfl rfl rfl ?_)
      refine (HT11.out.s0.used).mono ?_
      rintro e u12 ⟨rfl, hb12⟩
      have HT12 := Lib.hid (HT11.out.new hb12)
      have hstr12 := hstr11.keep hb12
      have Hb12 := Lib.hid (Hb11.out.trans (hb12.mono Hb11.out.size))
      refine ⟨_, rfl, ⟨HT12.out.cell 0, HT12.out.cell 1, HT12.out.cell 2⟩, ?_⟩
      simp only [Act.put, List.setIfInBounds_toArray, List.set_cons_zero, List.set_cons_succ]
      refine midk_wp rfl (call_wp 12 [.tmp 136] #[26] #[.pointer (some ⟨p1, 0, none⟩)] rfl rfl rfl ?_)
      refine (HT12.out.s1.used).mono ?_
      rintro e u13 ⟨rfl, hb13⟩
      have HT13 := Lib.hid (HT12.out.new hb13)
      have hstr13 := hstr12.keep hb13
      have Hb13 := Lib.hid (Hb12.out.trans (hb13.mono Hb12.out.size))
      refine ⟨_, rfl, ⟨HT13.out.cell 0, HT13.out.cell 1, HT13.out.cell 2⟩, ?_⟩
      simp only [Act.put, List.setIfInBounds_toArray, List.set_cons_zero, List.set_cons_succ]
      refine midk_one (.bool false) rfl (by go_simp) ⟨HT13.out.cell 0, HT13.out.cell 1, HT13.out.cell 2⟩ ?_
      simp only [Act.put, List.setIfInBounds_toArray, List.set_cons_zero, List.set_cons_succ]
      refine midk_one (.bool false) rfl (by go_simp) ⟨HT13.out.cell 0, HT13.out.cell 1, HT13.out.cell 2⟩ ?_
      simp only [Act.put, List.setIfInBounds_toArray, List.set_cons_zero, List.set_cons_succ]
      refine midk_one (.bool false) rfl rfl ⟨HT13.out.cell 0, HT13.out.cell 1, HT13.out.cell 2⟩ ?_
      simp only [Act.put, List.setIfInBounds_toArray, List.set_cons_zero, List.set_cons_succ]
      refine take_one (.pointer (some ⟨A, 0, none⟩)) rfl (fun u hu => by go_simp) ?_
      simp only [Act.put, List.setIfInBounds_toArray, List.set_cons_zero, List.set_cons_succ]
      refine take_load 26 (.tmp 141) ⟨A, 0, none⟩ (.pointer (some ⟨p0, 0, none⟩)) rfl rfl rfl (fun u hu => load_any Tryz.underlying26 Tryz.isAgg26 hu.1) ?_
      simp only [Act.put, List.setIfInBounds_toArray, List.set_cons_zero, List.set_cons_succ]
      refine take_one (.pointer (some ⟨A, 2, none⟩)) rfl (fun u hu => by go_simp) ?_
      simp only [Act.put, List.setIfInBounds_toArray, List.set_cons_zero, List.set_cons_succ]
      refine take_load 26 (.tmp 144) ⟨A, 2, none⟩ (.pointer (some ⟨p2, 0, none⟩)) rfl rfl rfl (fun u hu => load_any Tryz.underlying26 Tryz.isAgg26 hu.2.2) ?_
      simp only [Act.put, List.setIfInBounds_toArray, List.set_cons_zero, List.set_cons_succ]
      refine take_done ?_
      refine midk_wp rfl (call_wp 12 [.tmp 142] #[26] #[.pointer (some ⟨p0, 0, none⟩)] rfl rfl rfl ?_)
      refine (HT13.out.s0.used).mono ?_
      rintro e u14 ⟨rfl, hb14⟩
      have HT14 := Lib.hid (HT13.out.new hb14)
      have hstr14 := hstr13.keep hb14
      have Hb14 := Lib.hid (Hb13.out.trans (hb14.mono Hb13.out.size))
      refine ⟨_, rfl, ⟨HT14.out.cell 0, HT14.out.cell 1, HT14.out.cell 2⟩, ?_⟩
      simp only [Act.put, List.setIfInBounds_toArray, List.set_cons_zero, List.set_cons_succ]
      refine midk_wp rfl (call_wp 12 [.tmp 145] #[26] #[.pointer (some ⟨p2, 0, none⟩)] rfl rfl rfl ?_)
      refine (HT14.out.s2.used).mono ?_
      rintro e u15 ⟨rfl, hb15⟩
      have HT15 := Lib.hid (HT14.out.new hb15)
      have hstr15 := hstr14.keep hb15
      have Hb15 := Lib.hid (Hb14.out.trans (hb15.mono Hb14.out.size))
      refine ⟨_, rfl, ⟨HT15.out.cell 0, HT15.out.cell 1, HT15.out.cell 2⟩, ?_⟩
      simp only [Act.put, List.setIfInBounds_toArray, List.set_cons_zero, List.set_cons_succ]
      refine midk_one (.bool false) rfl (by go_simp) ⟨HT15.out.cell 0, HT15.out.cell 1, HT15.out.cell 2⟩ ?_
      simp only [Act.put, List.setIfInBounds_toArray, List.set_cons_zero, List.set_cons_succ]
      refine midk_one (.bool false) rfl (by go_simp) ⟨HT15.out.cell 0, HT15.out.cell 1, HT15.out.cell 2⟩ ?_
      simp only [Act.put, List.setIfInBounds_toArray, List.set_cons_zero, List.set_cons_succ]
      refine midk_end ?_
      have Hstr := Lib.hid hstr15; clear hstr6 hstr7 hstr8 hstr9 hstr10 hstr11 hstr12 hstr13 hstr14 hstr15 hs8 hs10 ho8 ho10 hb8 hb9 hb10 hb11 hb12 hb13 hb14 hb15 HT6 HT7 HT8 HT9 HT10 HT11 HT12 HT13 HT14 Hb6 Hb7 Hb8 Hb9 Hb10 Hb11 Hb12 Hb13 Hb14 Hsm
      go_wp2_with fail
      go_loopw [19] (fun iv wr => ∃ i : Nat, i ≤ (nam rr).length ∧ iv = .int .i64 (i : Int) ∧ Below u15.heap.size u15 wr) (fun iv _ => (nam rr).length - (intOf iv).toNat)
      case atStart => exact ⟨0, by omega, rfl, Below.refl _ _⟩
      case round =>
        obtain ⟨i, hi, rfl, hbr⟩ := hrel
        have Hbr := Lib.hid hbr; clear hbr
        by_cases hlt2 : i < (nam rr).length
        case neg =>
          obtain rfl : (nam rr).length = i := by omega
          have hge : decide (((nam rr).length : Int) < ((nam rr).length : Int)) = false := decide_eq_false (by omega)
          have hbe : Below WA.heap.size WA wr := Hb15.out.trans (Hbr.out.mono Hb15.out.size)
          go_wp2_with fail
          refine (Hend.out _ hbe).mono ?_; rintro e w1 ⟨rfl, hw1⟩
          go_wp2_with fail
          go_ret
          exact ⟨rfl, hw1⟩
        have hir : i < rr.length := by simpa [nam] using hlt2
        obtain ⟨y, hy⟩ : ∃ y, rr[i]? = some y := ⟨_, List.getElem?_eq_getElem hir⟩
        obtain ⟨j0, g1, g2, g3, g4, g5⟩ := last_is l1 (by rw [← Hrr.out]; exact hy)
        rw [Hl1.out] at g1 g2
        rw [← Hrr.out] at g5
        obtain ⟨nm, hnm⟩ : ∃ nm, nm = ba y.1 := ⟨_, rfl⟩
        rw [← hnm] at g2 g5
        have hnz : nm.size ≤ 281474976710656 := by
          have h9 := Hlen.out.2 y (List.mem_of_getElem? hy)
          rw [hnm, ba_size]
          omega
        obtain ⟨bn, on, ean, cnm⟩ := Hstr.out.2 i hlt2
        subst ean
        have hgn : (nam rr).getD i .empty = nm := by
          rw [hnm]
          unfold nam
          rw [List.getD_eq_getElem?_getD, List.getElem?_map, hy]
          rfl
        rw [hgn] at cnm
        have hnc : ∀ u, Below u15.heap.size u15 u → u.cell? ⟨bn, on + i, none⟩ = some (.string nm) := fun u hu => by rw [World.cell?_of_block (hu.block bn (cell_lt cnm))]; exact cnm
        have Hnc := Lib.hid hnc; clear hnc
        obtain ⟨bs, off, ea1, hx0⟩ := (Hch.out _ (Below.refl _ _)).2 j0 g1
        subst ea1
        have hxx : ∀ j, j < len1 → ∀ u, Below WA.heap.size WA u → ChgAt u bs (off + j * 3) (l1.getD j default) := fun j hj u hu => by
          obtain ⟨b', off', e', hc⟩ := (Hch.out u hu).2 j hj
          obtain ⟨rfl, rfl⟩ : bs = b' ∧ off = off' := by simpa using e'
          exact hc
        have Hxx := Lib.hid hxx; clear hxx
        have Hgt := Lib.hid g5
        have G1 := Lib.hid g1
        have G2 := Lib.hid g2
        have G3 := Lib.hid g3
        have G4 := Lib.hid g4
        clear g1 g2 g3 g4 g5 hx0 hy hir hnm hgn cnm
        have hge : decide ((i : Int) < ((nam rr).length : Int)) = true := decide_eq_true (by omega)
        have hge' : decide (i < (nam rr).length) = true := decide_eq_true hlt2
        go_wp2_with fail
        go_loopw [20, 21] (fun lv jv wr => ∃ j : Nat, j ≤ len1 ∧ jv = .int .i64 (j : Int) ∧ lv = .int .i64 (lastOf l1 nm j) ∧ Below u15.heap.size u15 wr) (fun _ jv _ => len1 - (intOf jv).toNat)
        case atStart => exact ⟨0, by omega, rfl, rfl, Hbr.out⟩
        case round =>
          clear Hbr
          obtain ⟨j, hj, rfl, rfl, hbr⟩ := hrel
          have Hbr := Lib.hid hbr; clear hbr
          by_cases hlt3 : j < len1
          case pos =>
            have hgj : decide ((j : Int) < (len1 : Int)) = true := decide_eq_true (by omega)
            have hgj' : decide (j < len1) = true := decide_eq_true hlt3
            have hxa := Hxx.out j hlt3 wr.drew ((Hb15.out.trans (Hbr.out.mono Hb15.out.size)).drew)
            have cnd := Hnc.out _ Hbr.out.drew
            have hbd := Hbr.out.drew
            have Hbd := Lib.hid hbd; clear hbd
            obtain ⟨x, hx⟩ : ∃ x, x = l1.getD j default := ⟨_, rfl⟩
            rw [← hx] at hxa
            have cxd : wr.drew.cell? ⟨bs, off + j * 3 + 0, none⟩ = some (.string x.n) := hxa.n
            clear hxa
            by_cases hn : x.n = nm
            · have hls : lastOf l1 nm (j + 1) = (j : Int) := by show (if _ then _ else _) = _; rw [if_pos (by rw [← hx]; exact hn)]
              have Hls := Lib.hid hls; clear hls hx
              rw [hn] at cxd
              go_wp2_with fail
              refine wp_region_phases [([0, 1, 2, 3, 4, 5, 6, 7, 8], [9])] (by kernel_rfl) (by kernel_rfl) (fun z => z.cell? ⟨bs, off + j * 3 + 0, none⟩ = some (.string nm) ∧ z.cell? ⟨bn, on + i, none⟩ = some (.string nm)) ⟨cxd, cnd⟩ ?_
              simp only [wpPhases, pick, List.filterMap_cons, List.filterMap_nil, List.getElem?_toArray, List.getElem?_cons_zero, List.getElem?_cons_succ]
              refine take_move (.tmp 1) (.slice (some ⟨bs, off, none⟩) len1 cap1) rfl rfl rfl ?_
              simp only [Act.put, List.setIfInBounds_toArray, List.set_cons_zero, List.set_cons_succ]
              refine take_move (.tmp 21) (.int .i64 (j : Int)) rfl rfl rfl ?_
              simp only [Act.put, List.setIfInBounds_toArray, List.set_cons_zero, List.set_cons_succ]
              refine take_one (.pointer (some ⟨bs, off + j * 3, none⟩)) rfl (fun u hu => by go_simp) ?_
              simp only [Act.put, List.setIfInBounds_toArray, List.set_cons_zero, List.set_cons_succ]
              refine take_one (.pointer (some ⟨bs, off + j * 3 + 0, none⟩)) rfl (fun u _ => by go_simp) ?_
              simp only [Act.put, List.setIfInBounds_toArray, List.set_cons_zero, List.set_cons_succ]
              refine take_load 9 (.tmp 164) ⟨bs, off + j * 3 + 0, none⟩ (.string nm) rfl rfl rfl (fun u hu => load_any Tryz.underlying9 Tryz.isAgg9 hu.1) ?_
              simp only [Act.put, List.setIfInBounds_toArray, List.set_cons_zero, List.set_cons_succ]
              refine take_move (.tmp 18) (.slice (some ⟨bn, on, none⟩) (nam rr).length cn) rfl rfl rfl ?_
              simp only [Act.put, List.setIfInBounds_toArray, List.set_cons_zero, List.set_cons_succ]
              refine take_move (.tmp 19) (.int .i64 (i : Int)) rfl rfl rfl ?_
              simp only [Act.put, List.setIfInBounds_toArray, List.set_cons_zero, List.set_cons_succ]
              refine take_one (.pointer (some ⟨bn, on + i, none⟩)) rfl (fun u hu => by go_simp) ?_
              simp only [Act.put, List.setIfInBounds_toArray, List.set_cons_zero, List.set_cons_succ]
              refine take_load 9 (.tmp 168) ⟨bn, on + i, none⟩ (.string nm) rfl rfl rfl (fun u hu => load_any Tryz.underlying9 Tryz.isAgg9 hu.2) ?_
              simp only [Act.put, List.setIfInBounds_toArray, List.set_cons_zero, List.set_cons_succ]
              refine take_done ?_
              refine midk_one (.bool true) rfl (by go_simp) ⟨cxd, cnd⟩ ?_
              simp only [Act.put, List.setIfInBounds_toArray, List.set_cons_zero, List.set_cons_succ]
              refine midk_end ?_
              clear cxd cnd
              go_wp2_with fail
              go_roundw
              case rel => exact ⟨j + 1, by omega, by go_num, by rw [Hls.out], Hbd.out⟩
              case measure => simp [intOf]; omega
            · have hls : lastOf l1 nm (j + 1) = lastOf l1 nm j := by show (if _ then _ else _) = _; rw [if_neg (by rw [← hx]; exact hn)]
              have Hls := Lib.hid hls; clear hls hx
              have heq : (x.n.toList == nm.toList) = false := by
                refine beq_eq_false_iff_ne.2 (fun e => hn ?_)
                rw [Lib.toList_data, Lib.toList_data] at e
                exact ba_ext e
              go_wp2_with fail
              refine wp_region_phases [([0, 1, 2, 3, 4, 5, 6, 7, 8], [9])] (by kernel_rfl) (by kernel_rfl) (fun z => z.cell? ⟨bs, off + j * 3 + 0, none⟩ = some (.string x.n) ∧ z.cell? ⟨bn, on + i, none⟩ = some (.string nm)) ⟨cxd, cnd⟩ ?_
              simp only [wpPhases, pick, List.filterMap_cons, List.filterMap_nil, List.getElem?_toArray, List.getElem?_cons_zero, List.getElem?_cons_succ]
              refine take_move (.tmp 1) (.slice (some ⟨bs, off, none⟩) len1 cap1) rfl rfl rfl ?_
              simp only [Act.put, List.setIfInBounds_toArray, List.set_cons_zero, List.set_cons_succ]
              refine take_move (.tmp 21) (.int .i64 (j : Int)) rfl rfl rfl ?_
              simp only [Act.put, List.setIfInBounds_toArray, List.set_cons_zero, List.set_cons_succ]
              refine take_one (.pointer (some ⟨bs, off + j * 3, none⟩)) rfl (fun u hu => by go_simp) ?_
              simp only [Act.put, List.setIfInBounds_toArray, List.set_cons_zero, List.set_cons_succ]
              refine take_one (.pointer (some ⟨bs, off + j * 3 + 0, none⟩)) rfl (fun u _ => by go_simp) ?_
              simp only [Act.put, List.setIfInBounds_toArray, List.set_cons_zero, List.set_cons_succ]
              refine take_load 9 (.tmp 164) ⟨bs, off + j * 3 + 0, none⟩ (.string x.n) rfl rfl rfl (fun u hu => load_any Tryz.underlying9 Tryz.isAgg9 hu.1) ?_
              simp only [Act.put, List.setIfInBounds_toArray, List.set_cons_zero, List.set_cons_succ]
              refine take_move (.tmp 18) (.slice (some ⟨bn, on, none⟩) (nam rr).length cn) rfl rfl rfl ?_
              simp only [Act.put, List.setIfInBounds_toArray, List.set_cons_zero, List.set_cons_succ]
              refine take_move (.tmp 19) (.int .i64 (i : Int)) rfl rfl rfl ?_
              simp only [Act.put, List.setIfInBounds_toArray, List.set_cons_zero, List.set_cons_succ]
              refine take_one (.pointer (some ⟨bn, on + i, none⟩)) rfl (fun u hu => by go_simp) ?_
              simp only [Act.put, List.setIfInBounds_toArray, List.set_cons_zero, List.set_cons_succ]
              refine take_load 9 (.tmp 168) ⟨bn, on + i, none⟩ (.string nm) rfl rfl rfl (fun u hu => load_any Tryz.underlying9 Tryz.isAgg9 hu.2) ?_
              simp only [Act.put, List.setIfInBounds_toArray, List.set_cons_zero, List.set_cons_succ]
              refine take_done ?_
              refine midk_one (.bool false) rfl (by go_simp) ⟨cxd, cnd⟩ ?_
              simp only [Act.put, List.setIfInBounds_toArray, List.set_cons_zero, List.set_cons_succ]
              refine midk_end ?_
              clear cxd cnd heq
              go_wp2_with fail
              go_roundw
              case rel => exact ⟨j + 1, by omega, by go_num, by rw [Hls.out], Hbd.out⟩
              case measure => simp [intOf]; omega
          obtain rfl : len1 = j := by omega
          have hgj : decide ((len1 : Int) < (len1 : Int)) = false := decide_eq_false (by omega)
          rw [G2.out]
          have HT20 := Lib.hid (HT15.out.new Hbr.out)
          have Hb20 := Lib.hid (Hb15.out.trans (Hbr.out.mono Hb15.out.size))
          have Hq20 := Hbr
          obtain ⟨w20, hw20⟩ : ∃ w20, w20 = wr := ⟨_, rfl⟩
          subst hw20
          have HT21 := Lib.hid (HT20.out.new ((Below.refl _ w20).drew))
          have Hb21 := Lib.hid (Hb20.out.drew)
          have Hq21 := Lib.hid (Hq20.out.drew)
          go_wp2_with fail
          refine wp_region_phases [([0, 1, 2, 3, 4, 5], [6, 7]), ([8, 9], []), ([10, 11], [])] (by kernel_rfl) (by kernel_rfl) (fun z => z.cell? ⟨A, 0, none⟩ = some (.pointer (some ⟨p0, 0, none⟩)) ∧ z.cell? ⟨bn, on + i, none⟩ = some (.string nm)) ⟨HT21.out.cell 0, Hnc.out _ Hq21.out⟩ ?_
          simp only [wpPhases, pick, List.filterMap_cons, List.filterMap_nil, List.getElem?_toArray, List.getElem?_cons_zero, List.getElem?_cons_succ]
          refine take_one (.pointer (some ⟨A, 0, none⟩)) rfl (fun u hu => by go_simp) ?_
          simp only [Act.put, List.setIfInBounds_toArray, List.set_cons_zero, List.set_cons_succ]
          refine take_load 26 (.tmp 173) ⟨A, 0, none⟩ (.pointer (some ⟨p0, 0, none⟩)) rfl rfl rfl (fun u hu => load_any Tryz.underlying26 Tryz.isAgg26 hu.1) ?_
          simp only [Act.put, List.setIfInBounds_toArray, List.set_cons_zero, List.set_cons_succ]
          refine take_move (.tmp 18) (.slice (some ⟨bn, on, none⟩) (nam rr).length cn) rfl rfl rfl ?_
          simp only [Act.put, List.setIfInBounds_toArray, List.set_cons_zero, List.set_cons_succ]
          refine take_move (.tmp 19) (.int .i64 (i : Int)) rfl rfl rfl ?_
          simp only [Act.put, List.setIfInBounds_toArray, List.set_cons_zero, List.set_cons_succ]
          refine take_one (.pointer (some ⟨bn, on + i, none⟩)) rfl (fun u hu => by go_simp) ?_
          simp only [Act.put, List.setIfInBounds_toArray, List.set_cons_zero, List.set_cons_succ]
          refine take_load 9 (.tmp 177) ⟨bn, on + i, none⟩ (.string nm) rfl rfl rfl (fun u hu => load_any Tryz.underlying9 Tryz.isAgg9 hu.2) ?_
          simp only [Act.put, List.setIfInBounds_toArray, List.set_cons_zero, List.set_cons_succ]
          refine take_done ?_
          refine midk_wp rfl (call_wp 23 [.tmp 174, .tmp 178] #[26, 9] #[.pointer (some ⟨p0, 0, none⟩), .string nm] rfl rfl rfl ?_)
          refine (HT21.out.s0.get_at nm hnz y.2 Hgt.out).mono ?_
          rintro e w22 ⟨rfl, hb22⟩
          have HT22 := Lib.hid (HT21.out.new hb22)
          have Hb22 := Lib.hid (Hb21.out.trans (hb22.mono Hb21.out.size))
          have Hq22 := Lib.hid (Hq21.out.trans (hb22.mono Hq21.out.size))
          refine ⟨_, rfl, ⟨HT22.out.cell 0, Hnc.out _ Hq22.out⟩, ?_⟩
          simp only [Act.put, List.setIfInBounds_toArray, List.set_cons_zero, List.set_cons_succ]
          refine midk_one (.tuple #[.string (ba y.2), .bool true]) rfl rfl ⟨HT22.out.cell 0, Hnc.out _ Hq22.out⟩ ?_
          simp only [Act.put, List.setIfInBounds_toArray, List.set_cons_zero, List.set_cons_succ]
          refine take_one (.string (ba y.2)) rfl (fun u hu => by go_simp) ?_
          simp only [Act.put, List.setIfInBounds_toArray, List.set_cons_zero, List.set_cons_succ]
          refine take_one (.bool true) rfl (fun u hu => by go_simp) ?_
          simp only [Act.put, List.setIfInBounds_toArray, List.set_cons_zero, List.set_cons_succ]
          refine take_done ?_
          refine take_one (.string (ba y.2)) rfl (fun u hu => by go_simp) ?_
          simp only [Act.put, List.setIfInBounds_toArray, List.set_cons_zero, List.set_cons_succ]
          refine take_one (.bool true) rfl (fun u hu => by go_simp) ?_
          simp only [Act.put, List.setIfInBounds_toArray, List.set_cons_zero, List.set_cons_succ]
          refine take_done ?_
          refine midk_end ?_
          clear HT20 Hb20 Hq20 HT21 Hb21 Hq21
          have HT23 := Lib.hid (HT22.out.new ((Below.refl _ w22).drew))
          have Hb23 := Lib.hid (Hb22.out.drew)
          have Hq23 := Lib.hid (Hq22.out.drew)
          go_wp2_with fail
          refine wp_region_phases [([0, 1, 2, 3, 4, 5], [6, 7]), ([8, 9], []), ([10, 11], [])] (by kernel_rfl) (by kernel_rfl) (fun z => z.cell? ⟨A, 1, none⟩ = some (.pointer (some ⟨p1, 0, none⟩)) ∧ z.cell? ⟨bn, on + i, none⟩ = some (.string nm)) ⟨HT23.out.cell 1, Hnc.out _ Hq23.out⟩ ?_
          simp only [wpPhases, pick, List.filterMap_cons, List.filterMap_nil, List.getElem?_toArray, List.getElem?_cons_zero, List.getElem?_cons_succ]
          refine take_one (.pointer (some ⟨A, 1, none⟩)) rfl (fun u hu => by go_simp) ?_
          simp only [Act.put, List.setIfInBounds_toArray, List.set_cons_zero, List.set_cons_succ]
          refine take_load 26 (.tmp 183) ⟨A, 1, none⟩ (.pointer (some ⟨p1, 0, none⟩)) rfl rfl rfl (fun u hu => load_any Tryz.underlying26 Tryz.isAgg26 hu.1) ?_
          simp only [Act.put, List.setIfInBounds_toArray, List.set_cons_zero, List.set_cons_succ]
          refine take_move (.tmp 18) (.slice (some ⟨bn, on, none⟩) (nam rr).length cn) rfl rfl rfl ?_
          simp only [Act.put, List.setIfInBounds_toArray, List.set_cons_zero, List.set_cons_succ]
          refine take_move (.tmp 19) (.int .i64 (i : Int)) rfl rfl rfl ?_
          simp only [Act.put, List.setIfInBounds_toArray, List.set_cons_zero, List.set_cons_succ]
          refine take_one (.pointer (some ⟨bn, on + i, none⟩)) rfl (fun u hu => by go_simp) ?_
          simp only [Act.put, List.setIfInBounds_toArray, List.set_cons_zero, List.set_cons_succ]
          refine take_load 9 (.tmp 187) ⟨bn, on + i, none⟩ (.string nm) rfl rfl rfl (fun u hu => load_any Tryz.underlying9 Tryz.isAgg9 hu.2) ?_
          simp only [Act.put, List.setIfInBounds_toArray, List.set_cons_zero, List.set_cons_succ]
          refine take_done ?_
          refine midk_wp rfl (call_wp 23 [.tmp 184, .tmp 188] #[26, 9] #[.pointer (some ⟨p1, 0, none⟩), .string nm] rfl rfl rfl ?_)
          refine (HT23.out.s1.get_at nm hnz y.2 Hgt.out).mono ?_
          rintro e w24 ⟨rfl, hb24⟩
          have HT24 := Lib.hid (HT23.out.new hb24)
          have Hb24 := Lib.hid (Hb23.out.trans (hb24.mono Hb23.out.size))
          have Hq24 := Lib.hid (Hq23.out.trans (hb24.mono Hq23.out.size))
          refine ⟨_, rfl, ⟨HT24.out.cell 1, Hnc.out _ Hq24.out⟩, ?_⟩
          simp only [Act.put, List.setIfInBounds_toArray, List.set_cons_zero, List.set_cons_succ]
          refine midk_one (.tuple #[.string (ba y.2), .bool true]) rfl rfl ⟨HT24.out.cell 1, Hnc.out _ Hq24.out⟩ ?_
          simp only [Act.put, List.setIfInBounds_toArray, List.set_cons_zero, List.set_cons_succ]
          refine take_one (.string (ba y.2)) rfl (fun u hu => by go_simp) ?_
          simp only [Act.put, List.setIfInBounds_toArray, List.set_cons_zero, List.set_cons_succ]
          refine take_one (.bool true) rfl (fun u hu => by go_simp) ?_
          simp only [Act.put, List.setIfInBounds_toArray, List.set_cons_zero, List.set_cons_succ]
          refine take_done ?_
          refine take_one (.string (ba y.2)) rfl (fun u hu => by go_simp) ?_
          simp only [Act.put, List.setIfInBounds_toArray, List.set_cons_zero, List.set_cons_succ]
          refine take_one (.bool true) rfl (fun u hu => by go_simp) ?_
          simp only [Act.put, List.setIfInBounds_toArray, List.set_cons_zero, List.set_cons_succ]
          refine take_done ?_
          refine midk_end ?_
          clear HT22 Hb22 Hq22 HT23 Hb23 Hq23
          have HT25 := Lib.hid (HT24.out.new ((Below.refl _ w24).drew))
          have Hb25 := Lib.hid (Hb24.out.drew)
          have Hq25 := Lib.hid (Hq24.out.drew)
          go_wp2_with fail
          refine wp_region_phases [([0, 1, 2, 3, 4, 5], [6, 7]), ([8, 9], []), ([10, 11], [])] (by kernel_rfl) (by kernel_rfl) (fun z => z.cell? ⟨A, 2, none⟩ = some (.pointer (some ⟨p2, 0, none⟩)) ∧ z.cell? ⟨bn, on + i, none⟩ = some (.string nm)) ⟨HT25.out.cell 2, Hnc.out _ Hq25.out⟩ ?_
          simp only [wpPhases, pick, List.filterMap_cons, List.filterMap_nil, List.getElem?_toArray, List.getElem?_cons_zero, List.getElem?_cons_succ]
          refine take_one (.pointer (some ⟨A, 2, none⟩)) rfl (fun u hu => by go_simp) ?_
          simp only [Act.put, List.setIfInBounds_toArray, List.set_cons_zero, List.set_cons_succ]
          refine take_load 26 (.tmp 193) ⟨A, 2, none⟩ (.pointer (some ⟨p2, 0, none⟩)) rfl rfl rfl (fun u hu => load_any Tryz.underlying26 Tryz.isAgg26 hu.1) ?_
          simp only [Act.put, List.setIfInBounds_toArray, List.set_cons_zero, List.set_cons_succ]
          refine take_move (.tmp 18) (.slice (some ⟨bn, on, none⟩) (nam rr).length cn) rfl rfl rfl ?_
          simp only [Act.put, List.setIfInBounds_toArray, List.set_cons_zero, List.set_cons_succ]
          refine take_move (.tmp 19) (.int .i64 (i : Int)) rfl rfl rfl ?_
          simp only [Act.put, List.setIfInBounds_toArray, List.set_cons_zero, List.set_cons_succ]
          refine take_one (.pointer (some ⟨bn, on + i, none⟩)) rfl (fun u hu => by go_simp) ?_
          simp only [Act.put, List.setIfInBounds_toArray, List.set_cons_zero, List.set_cons_succ]
          refine take_load 9 (.tmp 197) ⟨bn, on + i, none⟩ (.string nm) rfl rfl rfl (fun u hu => load_any Tryz.underlying9 Tryz.isAgg9 hu.2) ?_
          simp only [Act.put, List.setIfInBounds_toArray, List.set_cons_zero, List.set_cons_succ]
          refine take_done ?_
          refine midk_wp rfl (call_wp 23 [.tmp 194, .tmp 198] #[26, 9] #[.pointer (some ⟨p2, 0, none⟩), .string nm] rfl rfl rfl ?_)
          refine (HT25.out.s2.get_at nm hnz y.2 Hgt.out).mono ?_
          rintro e w26 ⟨rfl, hb26⟩
          have HT26 := Lib.hid (HT25.out.new hb26)
          have Hb26 := Lib.hid (Hb25.out.trans (hb26.mono Hb25.out.size))
          have Hq26 := Lib.hid (Hq25.out.trans (hb26.mono Hq25.out.size))
          refine ⟨_, rfl, ⟨HT26.out.cell 2, Hnc.out _ Hq26.out⟩, ?_⟩
          simp only [Act.put, List.setIfInBounds_toArray, List.set_cons_zero, List.set_cons_succ]
          refine midk_one (.tuple #[.string (ba y.2), .bool true]) rfl rfl ⟨HT26.out.cell 2, Hnc.out _ Hq26.out⟩ ?_
          simp only [Act.put, List.setIfInBounds_toArray, List.set_cons_zero, List.set_cons_succ]
          refine take_one (.string (ba y.2)) rfl (fun u hu => by go_simp) ?_
          simp only [Act.put, List.setIfInBounds_toArray, List.set_cons_zero, List.set_cons_succ]
          refine take_one (.bool true) rfl (fun u hu => by go_simp) ?_
          simp only [Act.put, List.setIfInBounds_toArray, List.set_cons_zero, List.set_cons_succ]
          refine take_done ?_
          refine take_one (.string (ba y.2)) rfl (fun u hu => by go_simp) ?_
          simp only [Act.put, List.setIfInBounds_toArray, List.set_cons_zero, List.set_cons_succ]
          refine take_one (.bool true) rfl (fun u hu => by go_simp) ?_
          simp only [Act.put, List.setIfInBounds_toArray, List.set_cons_zero, List.set_cons_succ]
          refine take_done ?_
          refine midk_end ?_
          clear HT24 Hb24 Hq24 HT25 Hb25 Hq25
          have hx9 := Hxx.out j0 G1.out _ Hb26.out
          have cg := hx9.g
          have cd := hx9.d
          rw [G3.out] at cg
          rw [G4.out] at cd
          have hj0 : decide ((j0 : Int) < 0) = false := decide_eq_false (by omega)
          have hj1 : decide (j0 < len1) = true := decide_eq_true G1.out
          clear hx9
          go_wp2_with fail
          go_roundw
          case rel => exact ⟨i + 1, by omega, by go_num, Hq26.out⟩
          case measure => simp [intOf]; omega


end Go.Proofs.YtalklpnekbfehaaGreat.lawOnce6
