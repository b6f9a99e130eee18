/-
  WalPlays: which groups a log has, what is answered, and which sectors the disk has, whatever is done: the program does as the document, for every number of sectors, every place of the log, every script, every group.
  Conditions: none.
-/
import Derived.Test.YtjmpagbjkehebaaGreatWpDoes
import Derived.Test.YtjmpagbjkehebaaGreatGoStage
import Derived.Test.YtjmpagbjkehebaaGreatDskSame0
import Derived.ProofKit
import Derived.OpenShut
import Derived.ShutString
import Derived.ChangeOld
import Derived.SizedLaws
namespace Go.Proofs.YtjmpagbjkehebaaGreat.lawPlays
open Go.ChangeShapes Go.WideShapes Go.ChangeAt Go.RowKit
open Go.ChangeMaps (open_string shut_string)
set_option linter.unusedVariables false
set_option maxRecDepth 100000

theorem own : ownKnob Tryz.prog.godebug = none := by kernel_rfl
theorem laidOut : laidOutB Tryz.prog = true := by kernel_rfl
theorem bytes16 : Tryz.prog.bytesOf 9 = 16 := by kernel_rfl
def wscells (x : WStp) : List Value := [.int .i64 x.d, .int .i64 x.n, .slice x.la x.l.length x.lc, .string x.k]
theorem wscells_at {w : World} {b off : Nat} {x : WStp} (h : WStpAt w b off x) : w.rangeAt b off (wscells x) := by
  intro j u hu
  match j, hu with
  | 0, hu => simp [wscells] at hu; subst hu; exact h.d
  | 1, hu => simp [wscells] at hu; subst hu; exact h.n
  | 2, hu => simp [wscells] at hu; subst hu; exact h.l
  | 3, hu => simp [wscells] at hu; subst hu; exact h.k
  | j + 4, hu => simp [wscells] at hu
theorem wload_step {w : World} {b off : Nat} {xd xn : Int} {xa : Option Addr} {xc : Nat} {xl : List ByteArray} {xk : ByteArray} (h : WStpAt w b off ⟨xd, xn, xa, xc, xl, xk⟩) : (Instr.loadAt 26 (.pointer (some ⟨b, off, none⟩))).run Tryz.prog w = .ok (.agg #[.int .i64 xd, .int .i64 xn, .slice xa xl.length xc, .string xk]) w :=
  run_loadAt_mid (P := Tryz.prog) w b off 26 (wscells ⟨xd, xn, xa, xc, xl, xk⟩) _ (wscells_at h) Tryz.underlying26 rfl (by kernel_rfl)

set_option maxHeartbeats 1500000 in
theorem walk (n0 n1 n2 : Int) (a3 : Option Addr) (len3 cap3 : Nat) (l3 : List WStp) (a4 : Option Addr) (len4 cap4 : Nat) (l4 : List ByteArray) (W : World) (w0 : (Lit.int .i64 n0).wf = true) (w1 : (Lit.int .i64 n1).wf = true) (w2 : (Lit.int .i64 n2).wf = true)
    (hst3 : WStps a3 len3 l3 W) (hok3 : ∀ x ∈ l3, x.Ok) (hll3 : len3 ≤ 2513169434843) (hst4 : Strs a4 len4 l4 W) (hlz4 : ∀ y ∈ l4, y.size ≤ 140737488351232) (hll4 : len4 ≤ 8796093022208) (hnil4 : a4 = none → len4 = 0 ∧ cap4 = 0) :
    Calls Tryz.prog 3 #[.int .i64 n0, .int .i64 n1, .int .i64 n2, .slice a3 len3 cap3, .slice a4 len4 cap4] W fun e W' => e = .returned (.bool true) ∧ Below W.heap.size W W' := by
  have hi0 := wf_i64 w0
  have hi1 := wf_i64 w1
  have hi2 := wf_i64 w2
  have hhv := wheavy_any n0 hi0 a3 len3 cap3 l3 W hst3 hok3 hll3
  have Hst := Lib.hid hst3; clear hst3
  have Hok := Lib.hid hok3; clear hok3
  have Hhv := Lib.hid hhv; clear hhv
  have Hal := Lib.hid (fun u => alive_any u)
  have H4 := Lib.hid hst4
  have hlen4 : l4.length = len4 := hst4.1
  subst hlen4
  clear w0 w1 w2 hst4
  have Hlz := Lib.hid hlz4; clear hlz4
  go_enter Tryz.func3, Tryz.ntmps3
  go_wp2_with fail
  refine Hhv.out.mono ?_; rintro e w1 ⟨bb, rfl, hb, rfl⟩
  have Hb := Lib.hid hb; clear hb
  cases bb with
  | true =>
    go_wp2_with fail
    refine (Hal.out _).mono ?_; rintro e w1 ⟨rfl, hb1⟩
    go_wp2_with fail
    go_ret
    exact ⟨rfl, hb1⟩
  | false =>
    obtain ⟨h60, hks⟩ := Hb.out rfl
    have Hks := Lib.hid hks; clear hks
    go_wp2_with fail
    have hW5 : WStps (some ⟨W.heap.size, 0, none⟩) 1 [⟨0, 0, a4, cap4, l4, ⟨#[]⟩⟩] (W.alloc (.cells #[.int .i64 0, .int .i64 0, .slice a4 l4.length cap4, .string ⟨#[]⟩] 26)) := by
      have hr := heap_alloc_new W (.cells #[.int .i64 0, .int .i64 0, .slice a4 l4.length cap4, .string ⟨#[]⟩] 26)
      refine ⟨rfl, fun j hj => ⟨W.heap.size, 0, rfl, ?_⟩⟩
      obtain rfl : j = 0 := by omega
      refine ⟨by rw [cell_of_row _ _ 0 _ _ _ hr]; rfl, by rw [cell_of_row _ _ 1 _ _ _ hr]; rfl, ?_, by rw [cell_of_row _ _ 3 _ _ _ hr]; rfl, ?_, fun e => (hnil4 e).2⟩
      · rw [cell_of_row _ _ 2 _ _ _ hr]; simp
      · exact H4.out.keep ((Below.refl _ W).alloc (Nat.le_refl _) _)
    have hO5 : ∀ x ∈ ([⟨0, 0, a4, cap4, l4, ⟨#[]⟩⟩] : List WStp), x.Ok := by
      intro x hx
      simp at hx; subst hx
      exact ⟨by unfold I64; simp, by unfold I64; simp, by show l4.length ≤ _; omega, Hlz.out, by show (0 : Nat) ≤ _; omega⟩
    have hH5 := wheavy_any 1 (by unfold I64; omega) (some ⟨W.heap.size, 0, none⟩) 1 1 _ _ hW5 hO5 (by omega)
    have HH5 := Lib.hid hH5; clear hH5 hW5 hO5
    have hbA : Below W.heap.size W (W.alloc (.cells #[.int .i64 0, .int .i64 0, .slice a4 l4.length cap4, .string ⟨#[]⟩] 26)) := (Below.refl _ W).alloc (Nat.le_refl _) _
    generalize W.alloc (.cells #[.int .i64 0, .int .i64 0, .slice a4 l4.length cap4, .string ⟨#[]⟩] 26) = wA at *
    have HbA := Lib.hid hbA; clear hbA
    refine HH5.out.mono ?_; rintro e w1 ⟨b5, rfl, _, rfl⟩
    cases b5 with
    | true =>
      go_wp2_with fail
      refine (Hal.out _).mono ?_; rintro e w1 ⟨rfl, hb1⟩
      go_wp2_with fail
      go_ret
      exact ⟨rfl, HbA.out.trans (hb1.mono HbA.out.size)⟩
    | false =>
      have hma := may_any n0 wA
      by_cases hmay : 1 ≤ n0 ∧ n0 ≤ 16384
      case neg =>
        rw [decide_eq_false hmay] at hma
        have Hma := Lib.hid hma; clear hma
        go_wp2_with fail
        refine Hma.out.mono ?_; rintro e w1 ⟨rfl, rfl⟩
        go_wp2_with fail
        refine (Hal.out _).mono ?_; rintro e w1 ⟨rfl, hb1⟩
        go_wp2_with fail
        go_ret
        exact ⟨rfl, HbA.out.trans (hb1.mono HbA.out.size)⟩
      case pos =>
        rw [decide_eq_true hmay] at hma
        have Hma := Lib.hid hma; clear hma
        obtain ⟨n, rfl⟩ : ∃ n : Nat, n0 = (n : Int) := ⟨n0.toNat, by omega⟩
        have hm1 : 1 ≤ n := by omega
        have hm2 : n ≤ 16384 := by omega
        clear hmay hi0
        go_wp2_with fail
        refine Hma.out.mono ?_; rintro e w1 ⟨rfl, rfl⟩
        go_wp2_with fail
        refine (append_nil _ _ _ _).mono ?_; rintro e w1 ⟨rfl, hb1⟩
        have hb2 : Below W.heap.size W w1 := (HbA.out.alloc HbA.out.size (.cells #[.string ⟨#[97]⟩] 9)).trans (hb1.mono (Nat.le_trans HbA.out.size (by simp)))
        have Hb2 := Lib.hid hb2; clear hb2
        clear hb1
        go_wp2_with fail
        refine (reset_nil _).mono ?_; rintro e w2 ⟨rfl, hb1⟩
        have hb3 := Hb2.out.trans (hb1.mono Hb2.out.size)
        have Hb3 := Lib.hid hb3; clear hb3
        clear hb1
        go_wp2_with fail
        refine (groups_nil _).mono ?_; rintro e w3 ⟨rfl, rfl⟩
        go_wp2_with fail
        refine (gen_nil _).mono ?_; rintro e w3 ⟨rfl, rfl⟩
        go_wp2_with fail
        refine (room_nil _).mono ?_; rintro e w3 ⟨rfl, rfl⟩
        go_wp2_with fail
        refine (fault_nil _).mono ?_; rintro e w3 ⟨rfl, rfl⟩
        obtain ⟨u8, w3, hrun, hown, hb1⟩ := run_append_strs (w := w2) (H4.out.keep Hb3.out) (fun e => (hnil4 e).2) hll4
        obtain ⟨a8, c8, hv8, hst8, _⟩ := hown.strs
        subst hv8
        have hb4 := Hb3.out.trans (hb1.mono Hb3.out.size)
        have Hb4 := Lib.hid hb4; clear hb4
        have hnd := need_any a8 l4.length c8 l4 w3 hst8 (by omega) (getD_le Hlz.out) (by have := Wal.row_short (l := lists l4); omega)
        have hnr := fun (u : World) (hu : Below W.heap.size W u) => refNeed_any a4 l4.length cap4 l4 u (H4.out.keep hu) (by omega) (getD_le Hlz.out) (by have := Wal.row_short (l := lists l4); omega)
        generalize (if (Oct.row (lists l4)).2 = 0 then ((Wal.secs (Oct.row (lists l4)).1 : Nat) : Int) else 0) = kk at *
        generalize (Oct.row (lists l4)).2 = ke at *
        have Hnd := Lib.hid hnd; clear hnd
        have Hnr := Lib.hid hnr; clear hnr
        clear hb1 hst8 hown
        go_wp2_with (at_builtin; go_loud (refine wpList_plain rfl fun K hK => wp_append_run (.const (.slice none 0 0)) (.tmp 66) 23 rfl (.slice none 0 0) (.slice a4 l4.length cap4) rfl rfl hrun (hK _ _ ?_)))
        refine Hnd.out.mono ?_; rintro e w4 ⟨rfl, hb1⟩
        have hb5 := Hb4.out.trans (hb1.mono Hb4.out.size)
        have Hb5 := Lib.hid hb5; clear hb5
        clear hb1 hrun
        go_wp2_with fail
        refine (Hnr.out _ Hb5.out).mono ?_; rintro e w5 ⟨rfl, hb1⟩
        have hb6 := Hb5.out.trans (hb1.mono Hb5.out.size)
        have Hb6 := Lib.hid hb6; clear hb6
        clear hb1
        go_wp2_with fail
        refine (new_any n hm1 hm2 _).mono ?_; rintro e w6 ⟨rfl, hb1, d6⟩
        have hb7 := Hb6.out.trans (hb1.mono Hb6.out.size)
        have D6 := Lib.hid d6; clear d6
        have Hb7 := Lib.hid hb7; clear hb7
        clear hb1 hK Hnd Hnr Hb2 Hb3 Hb4 Hb5
        have hs5 := Hb6.out.size
        have hlS : ∀ j, NewS w5 j → W.heap.size ≤ j := fun j hj => by unfold NewS at hj; omega
        have hn0 : (Dsk.new n).ops = 0 := rfl
        generalize w5.heap.size + 2 = pd at *
        generalize NewS w5 = S0 at *
        go_wp2_with fail
        refine (refNew_any n hm1 hm2 _).mono ?_; rintro e w7 ⟨rfl, hb1, r7⟩
        have hb8 := Hb7.out.trans (hb1.mono Hb7.out.size)
        have d7 := D6.out.new hb1
        have hS6 := D6.out.lt
        have hs6 := Hb7.out.size
        have hs7 := hb1.size
        generalize w6.heap.size = pr at *
        have hbA8 : Below w7.heap.size w7 (w7.alloc (.cells #[.pointer (some ⟨pd, 0, none⟩), .pointer (some ⟨pr, 0, none⟩), .pointer none, .pointer none, .int .i64 n1, .int .i64 n2] 49)) := (Below.refl _ w7).alloc (Nat.le_refl _) _
        have hrow8 : (w7.alloc (.cells #[.pointer (some ⟨pd, 0, none⟩), .pointer (some ⟨pr, 0, none⟩), .pointer none, .pointer none, .int .i64 n1, .int .i64 n2] 49)).heap[w7.heap.size]? = some (prObj pd pr (.pointer none) (.pointer none) n1 n2) := heap_alloc_new w7 _
        have hb9 := hb8.trans (hbA8.mono hb8.size)
        have d8 := d7.new hbA8
        have r8 := r7.new hbA8
        have ho := popen_any d8 r8 (by omega) none none hrow8 hi1 hi2
        have D8 := Lib.hid d8; clear d8
        have R8 := Lib.hid r8; clear r8
        have Ho := Lib.hid ho; clear ho
        have Hrow8 := Lib.hid hrow8; clear hrow8
        have Hb9 := Lib.hid hb9; clear hb9
        clear D6 Hb7 hb1 d7 r7 hb8 hbA8 Hb6
        go_wp2_with fail
        generalize w7.alloc (.cells #[.pointer (some ⟨pd, 0, none⟩), .pointer (some ⟨pr, 0, none⟩), .pointer none, .pointer none, .int .i64 n1, .int .i64 n2] 49) = w8 at *
        have hnT : ∀ j, S0 j → ¬ (pr ≤ j ∧ j < w7.heap.size) := fun j a b => by have := hS6 j a; omega
        generalize hpp : w7.heap.size = pp at *
        refine Ho.out.mono ?_
        intro e w9 k9
        obtain ⟨rfl, ⟨_, hbb⟩ | ⟨s, R, Q, pw, px, w10, hO, hb10, hw, hx, hR, hQ, hRQ, rfl⟩⟩ := k9
        · have hr9 : w9.heap[pp]? = some (prObj pd pr (.pointer none) (.pointer none) n1 n2) := by rw [hbb.block _ (row_lt Hrow8.out)]; exact Hrow8.out
          have c3 : w9.cell? ⟨pp, 3, none⟩ = some (.pointer none) := by rw [cell_of_row _ _ 3 _ _ _ hr9]; rfl
          have hb10 := Hb9.out.trans (hbb.mono Hb9.out.size)
          have Hb10 := Lib.hid hb10; clear hb10
          clear hr9 hbb
          go_wp2_with fail
          refine (Hal.out _).mono ?_; rintro e w1 ⟨rfl, hb1⟩
          go_wp2_with fail
          go_ret
          exact ⟨rfl, Hb10.out.trans (hb1.mono Hb10.out.size)⟩
        · have hok : s.Ok (Dsk.new n).n := (Wal.opn_ok D8.out.ok (Prod.ext hO rfl)).1
          have hP := Pw.make (B := W.heap.size) (W := W) D8.out R8.out hnT Hrow8.out (fun e => by
            rcases e with e | e
            · have := hS6 _ e; omega
            · omega) (fun j hj => by
            rcases hj with hj | hj
            · exact hlS j hj
            · omega) (by omega) Hb9.out Hb9.out.size hb10 hw hx hR hQ hRQ
          clear hw hx hR hQ hRQ hb10 hO Hrow8 D8 R8 Ho
          generalize (w10.setCell ⟨pp, 2, none⟩ (.pointer (some ⟨pw, 0, none⟩))).setCell ⟨pp, 3, none⟩ (.pointer (some ⟨px, 0, none⟩)) = w11 at *
          have c2 : w11.cell? ⟨pp, 2, none⟩ = some (.pointer (some ⟨pw, 0, none⟩)) := by rw [cell_of_row _ _ 2 _ _ _ hP.row]; rfl
          have c3 : w11.cell? ⟨pp, 3, none⟩ = some (.pointer (some ⟨px, 0, none⟩)) := by rw [cell_of_row _ _ 3 _ _ _ hP.row]; rfl
          have HP0 := Lib.hid hP; clear hP
          have Hok0 := Lib.hid hok; clear hok
          have Hn0 := Lib.hid hn0; clear hn0
          clear hnT hS6 hlS Hb9 hs5 hs6 hs7 hpp
          go_wp2_with fail
          go_loopw [19] (fun s19 wr => ∃ (i : Nat) (S R T Q : Nat → Prop) (pw px : Nat) (d : Dsk.St) (s : Wal.St), i ≤ len3 ∧ s19 = .int .i64 (i : Int) ∧ Pw W.heap.size W S R T Q pp pd pr pw px n1 n2 d s d s wr ∧ s.Ok d.n ∧ d.ops ≤ i * 20000) (fun s19 _ => len3 - (intOf s19).toNat)
          case atStart => exact ⟨0, _, _, _, _, pw, px, Dsk.new n, s, by omega, rfl, HP0.out, Hok0.out, by rw [Hn0.out]; omega⟩
          case round =>
          clear c2 c3
          obtain ⟨i, S, R1, T, Q1, pw1, px1, d, s1, hi, rfl, hP, hok, hops⟩ := hrel
          by_cases hlt : i < len3
          · have hlt2 : (i : Int) < (len3 : Int) := by omega
            have hll := Hst.out.1
            obtain ⟨b, off, rfl, hx0⟩ := Hst.out.2 i hlt
            have hmem : l3.getD i default ∈ l3 := by
              rw [List.getD_eq_getElem?_getD, List.getElem?_eq_getElem (by rw [hll]; exact hlt)]
              exact List.getElem_mem _
            have hxo := Hok.out _ hmem
            have hxk := Hks.out _ hmem
            generalize l3.getD i default = x at *
            obtain ⟨xd, xn, xa, xc, xl, xk⟩ := x
            have HX := Lib.hid (fun (u : World) (hu : Below W.heap.size W u) => hx0.keep hu)
            have hPd := hP.new ((Below.refl _ wr).drew)
            have hdo := pdoes_any hPd hok (by omega) hi1 hi2 xd xn xa xl xc xk hxo.d hxo.n hx0.s hx0.z hxo.ll hxo.ls (by have := hxk; simp only at this; omega)
            have HDo := Lib.hid hdo; clear hdo
            have HP := Lib.hid hPd; clear hPd hP
            clear hmem hxo hxk hx0 hll hok
            go_wp2_with fail
            refine wp_region_stages [[([0, 1, 2, 3, 4], [5, 6, 7])], [([8, 9, 10, 11, 12, 13, 14, 15], [16, 17, 18, 19]), ([20, 21, 22, 23, 24, 25, 26, 27], [28, 29, 30])]] (by kernel_rfl) (by kernel_rfl) ?_
            refine stage_first (fun z => Below W.heap.size W z) HP.out.below ?_
            simp only [wpPhasesK, pick, List.filterMap_cons, List.filterMap_nil, List.getElem?_toArray, List.getElem?_cons_zero, List.getElem?_cons_succ]
            refine take_move (.tmp 18) (.pointer (some ⟨pp, 0, none⟩)) rfl rfl rfl ?_
            simp only [Act.put, List.setIfInBounds_toArray, List.set_cons_zero, List.set_cons_succ]
            refine take_move (.tmp 3) (.slice (some ⟨b, off, none⟩) len3 cap3) rfl rfl rfl ?_
            simp only [Act.put, List.setIfInBounds_toArray, List.set_cons_zero, List.set_cons_succ]
            refine take_move (.tmp 19) (.int .i64 (i : Int)) rfl rfl rfl ?_
            simp only [Act.put, List.setIfInBounds_toArray, List.set_cons_zero, List.set_cons_succ]
            refine take_one (.pointer (some ⟨b, off + i * 4, none⟩)) rfl (fun u _ => by go_simp) ?_
            refine take_load 26 (.tmp 136) ⟨b, off + i * 4, none⟩ (.agg #[.int .i64 xd, .int .i64 xn, .slice xa xl.length xc, .string xk]) rfl rfl rfl (fun u hu => wload_step (HX.out u hu)) ?_
            refine take_done ?_
            refine midk_wp rfl (call_wp 23 [.tmp 133, .tmp 137] #[44, 26] #[.pointer (some ⟨pp, 0, none⟩), .agg #[.int .i64 xd, .int .i64 xn, .slice xa xl.length xc, .string xk]] rfl rfl rfl ?_)
            refine HDo.out.mono ?_
            rintro e w2 ⟨S2, R2, T2, Q2, pw2, px2, d2, s2, rfl, hP2, hs2, ho2⟩
            refine ⟨_, rfl, hP2.below, ?_⟩
            refine midk_one (.bool false) rfl (by go_simp) hP2.below ?_
            simp only [Act.put, List.setIfInBounds_toArray, List.set_cons_zero, List.set_cons_succ]
            refine midk_one (.bool false) rfl rfl hP2.below ?_
            simp only [Act.put, List.setIfInBounds_toArray, List.set_cons_zero, List.set_cons_succ]
            refine stage_next (fun z => z.heap[pp]? = some (prObj pd pr (.pointer (some ⟨pw2, 0, none⟩)) (.pointer (some ⟨px2, 0, none⟩)) n1 n2)) hP2.row ?_
            simp only [wpPhasesK, pick, List.filterMap_cons, List.filterMap_nil, List.getElem?_toArray, List.getElem?_cons_zero, List.getElem?_cons_succ]
            refine take_move (.tmp 18) (.pointer (some ⟨pp, 0, none⟩)) rfl rfl rfl ?_
            simp only [Act.put, List.setIfInBounds_toArray, List.set_cons_zero, List.set_cons_succ]
            refine take_nil (.tmp 141) ⟨pp, 0, none⟩ rfl rfl rfl ?_
            simp only [Act.put, List.setIfInBounds_toArray, List.set_cons_zero, List.set_cons_succ]
            refine take_one (.pointer (some ⟨pp, 2, none⟩)) rfl (fun u _ => by go_simp) ?_
            simp only [Act.put, List.setIfInBounds_toArray, List.set_cons_zero, List.set_cons_succ]
            refine take_load 29 (.tmp 143) ⟨pp, 2, none⟩ (.pointer (some ⟨pw2, 0, none⟩)) rfl rfl rfl (fun u hu => load_any Tryz.underlying29 Tryz.isAgg29 (by rw [cell_of_row u _ 2 _ _ _ hu]; rfl)) ?_
            simp only [Act.put, List.setIfInBounds_toArray, List.set_cons_zero, List.set_cons_succ]
            refine take_move (.tmp 18) (.pointer (some ⟨pp, 0, none⟩)) rfl rfl rfl ?_
            simp only [Act.put, List.setIfInBounds_toArray, List.set_cons_zero, List.set_cons_succ]
            refine take_nil (.tmp 145) ⟨pp, 0, none⟩ rfl rfl rfl ?_
            simp only [Act.put, List.setIfInBounds_toArray, List.set_cons_zero, List.set_cons_succ]
            refine take_one (.pointer (some ⟨pp, 3, none⟩)) rfl (fun u _ => by go_simp) ?_
            simp only [Act.put, List.setIfInBounds_toArray, List.set_cons_zero, List.set_cons_succ]
            refine take_load 47 (.tmp 147) ⟨pp, 3, none⟩ (.pointer (some ⟨px2, 0, none⟩)) rfl rfl rfl (fun u hu => load_any Tryz.underlying47 Tryz.isAgg47 (by rw [cell_of_row u _ 3 _ _ _ hu]; rfl)) ?_
            simp only [Act.put, List.setIfInBounds_toArray, List.set_cons_zero, List.set_cons_succ]
            refine take_done ?_
            refine midk_wp rfl (call_wp 24 [.tmp 144, .tmp 148] #[29, 47] #[.pointer (some ⟨pw2, 0, none⟩), .pointer (some ⟨px2, 0, none⟩)] rfl rfl rfl ?_)
            refine (wlSame_any hP2.wal hP2.log hs2).mono ?_
            rintro e w3 ⟨rfl, hb3⟩
            have hP3 := hP2.new hb3
            have hr3 := hP3.row
            refine ⟨_, rfl, hr3, ?_⟩
            refine midk_one (.bool false) rfl (by go_simp) hr3 ?_
            simp only [Act.put, List.setIfInBounds_toArray, List.set_cons_zero, List.set_cons_succ]
            refine midk_one (.bool false) rfl (by go_simp) hr3 ?_
            simp only [Act.put, List.setIfInBounds_toArray, List.set_cons_zero, List.set_cons_succ]
            refine midk_one (.bool false) rfl rfl hr3 ?_
            simp only [Act.put, List.setIfInBounds_toArray, List.set_cons_zero, List.set_cons_succ]
            refine take_move (.tmp 18) (.pointer (some ⟨pp, 0, none⟩)) rfl rfl rfl ?_
            simp only [Act.put, List.setIfInBounds_toArray, List.set_cons_zero, List.set_cons_succ]
            refine take_nil (.tmp 153) ⟨pp, 0, none⟩ rfl rfl rfl ?_
            simp only [Act.put, List.setIfInBounds_toArray, List.set_cons_zero, List.set_cons_succ]
            refine take_one (.pointer (some ⟨pp, 0, none⟩)) rfl (fun u _ => by go_simp) ?_
            simp only [Act.put, List.setIfInBounds_toArray, List.set_cons_zero, List.set_cons_succ]
            refine take_load 41 (.tmp 155) ⟨pp, 0, none⟩ (.pointer (some ⟨pd, 0, none⟩)) rfl rfl rfl (fun u hu => load_any Tryz.underlying41 Tryz.isAgg41 (by rw [cell_of_row u _ 0 _ _ _ hu]; rfl)) ?_
            simp only [Act.put, List.setIfInBounds_toArray, List.set_cons_zero, List.set_cons_succ]
            refine take_move (.tmp 18) (.pointer (some ⟨pp, 0, none⟩)) rfl rfl rfl ?_
            simp only [Act.put, List.setIfInBounds_toArray, List.set_cons_zero, List.set_cons_succ]
            refine take_nil (.tmp 157) ⟨pp, 0, none⟩ rfl rfl rfl ?_
            simp only [Act.put, List.setIfInBounds_toArray, List.set_cons_zero, List.set_cons_succ]
            refine take_one (.pointer (some ⟨pp, 1, none⟩)) rfl (fun u _ => by go_simp) ?_
            simp only [Act.put, List.setIfInBounds_toArray, List.set_cons_zero, List.set_cons_succ]
            refine take_load 45 (.tmp 159) ⟨pp, 1, none⟩ (.pointer (some ⟨pr, 0, none⟩)) rfl rfl rfl (fun u hu => load_any Tryz.underlying45 Tryz.isAgg45 (by rw [cell_of_row u _ 1 _ _ _ hu]; rfl)) ?_
            simp only [Act.put, List.setIfInBounds_toArray, List.set_cons_zero, List.set_cons_succ]
            refine take_done ?_
            refine midk_wp rfl (call_wp 25 [.tmp 156, .tmp 160] #[41, 45] #[.pointer (some ⟨pd, 0, none⟩), .pointer (some ⟨pr, 0, none⟩)] rfl rfl rfl ?_)
            refine (dskSame_any hP3.disk hP3.ref (by omega)).mono ?_
            rintro e w4 ⟨rfl, hb4⟩
            have hP4 := hP3.new hb4
            have hr4 := hP4.row
            refine ⟨_, rfl, hr4, ?_⟩
            refine midk_one (.bool false) rfl (by go_simp) hr4 ?_
            simp only [Act.put, List.setIfInBounds_toArray, List.set_cons_zero, List.set_cons_succ]
            refine midk_one (.bool false) rfl (by go_simp) hr4 ?_
            simp only [Act.put, List.setIfInBounds_toArray, List.set_cons_zero, List.set_cons_succ]
            refine stage_end ?_
            have HP4 := Lib.hid hP4; clear hP4
            have Hs2 := Lib.hid hs2; clear hs2
            clear hP2 hP3 hr3 hr4 hb3 hb4
            go_wp2_with fail
            go_roundw
            case rel => exact ⟨i + 1, S2, R2, T2, Q2, pw2, px2, d2, s2, by omega, by go_num, HP4.out, Hs2.out, by omega⟩
            case measure => simp [intOf]; omega
          · obtain rfl : i = len3 := by omega
            have HP := Lib.hid hP; clear hP
            clear hok
            go_wp2_with fail
            refine (Hal.out _).mono ?_; rintro e w1 ⟨rfl, hb1⟩
            go_wp2_with fail
            go_ret
            exact ⟨rfl, HP.out.below.trans (hb1.mono HP.out.size)⟩

theorem contract (H : Type) (enc : TypeId × Value → H) (W : World) (base : Nat) (args : Array Value) (ds gs : List (DataW H)) (before : List MemPlace)
    (hval : ∀ (j : Nat) t v, Tryz.f3.params[j]? = some t → args[j]? = some v → Value.okWide Tryz.prog W .any base t v)
    (hW : DataW.Whole enc Tryz.prog Tryz.f3.params.toList Rows.walPlaysSpec.vars false W args.toList ds gs before)
    (hsz : (DataW.weightsEach Tryz.prog (Tryz.f3.params.toList ++ Rows.walPlaysSpec.plain.varTypes Tryz.prog) (ds ++ gs)).all (· ≤ reachBytes) = true) :
    Calls Tryz.prog 3 args W fun e W' => ∃ v, e = .returned v ∧ Rows.walPlaysSpec.post enc Tryz.prog Tryz.f3 false true false false W args v W' := by
  have hW' := hW
  obtain ⟨p, q, hA0, hV, rfl, hfz, hnd⟩ := hW
  have hA : DataW.TrodAll enc Tryz.prog W 0 (fun _ => true) true Tryz.f3.params.toList args.toList ds p := hA0
  rw [Tryz.params3] at hA hval hsz
  obtain ⟨v0, vs0, d0, ds0, p0, q0, hargs, rfl, rfl, h0, r0⟩ := trodAll_cons hA
  obtain ⟨v1, vs1, d1, ds1, p1, q1, rfl, rfl, rfl, h1, r1⟩ := trodAll_cons r0
  obtain ⟨v2, vs2, d2, ds2, p2, q2, rfl, rfl, rfl, h2, r2⟩ := trodAll_cons r1
  obtain ⟨v3, vs3, d3, ds3, p3, q3, rfl, rfl, rfl, h3, r3⟩ := trodAll_cons r2
  obtain ⟨v4, vs4, d4, ds4, p4, q4, rfl, rfl, rfl, h4, r4⟩ := trodAll_cons r3
  obtain ⟨rfl, rfl, rfl⟩ := trodAll_nil r4
  obtain rfl : args = #[v0, v1, v2, v3, v4] := by cases args; simp_all
  obtain ⟨rfl, rfl⟩ := trodVars_none hV
  obtain ⟨n0, rfl, rfl, rfl, w0⟩ := open_int Tryz.underlying3 (hval 0 3 v0 rfl rfl) h0
  obtain ⟨n1, rfl, rfl, rfl, w1⟩ := open_int Tryz.underlying3 (hval 1 3 v1 rfl rfl) h1
  obtain ⟨n2, rfl, rfl, rfl, w2⟩ := open_int Tryz.underlying3 (hval 2 3 v2 rfl rfl) h2
  obtain ⟨a3, len3, cap3, rfl⟩ := okWide_slice Tryz.underlying22 (hval 3 22 v3 rfl rfl)
  have k3 := h3
  have lt3 : ∀ x ∈ p3, x.block < W.heap.size := by obtain ⟨m, hm⟩ := k3; exact DataW.trod_lt m _ _ _ hm
  obtain ⟨fuel3, hf3⟩ := h3
  obtain ⟨l3, hst3, hok3, hll3, hnil3⟩ := open_wsteps Tryz.underlying22 Tryz.underlying26 rfl rfl rfl rfl Tryz.underlying3 Tryz.underlying23 Tryz.underlying9 (by kernel_rfl) bytes16 (by kernel_rfl) (by kernel_rfl) (by kernel_rfl) hf3 (fun n hn => by
    have := List.all_eq_true.1 hsz n (by
      simp only [List.cons_append, DataW.weightsEach]
      exact List.mem_append_right _ (List.mem_append_right _ (List.mem_append_right _ (List.mem_append_left _ hn))))
    simpa using this)
  obtain ⟨a4, len4, cap4, rfl⟩ := okWide_slice Tryz.underlying23 (hval 4 23 v4 rfl rfl)
  have k4 := h4
  have lt4 : ∀ x ∈ p4, x.block < W.heap.size := by obtain ⟨m, hm⟩ := k4; exact DataW.trod_lt m _ _ _ hm
  obtain ⟨fuel4, hf4⟩ := h4
  obtain ⟨l4, hst4, hlz4, hll4, hnil4⟩ := open_texts Tryz.underlying23 Tryz.underlying9 (by kernel_rfl) bytes16 hf4 (fun n hn => by
    have := List.all_eq_true.1 hsz n (by
      simp only [List.cons_append, DataW.weightsEach]
      exact List.mem_append_right _ (List.mem_append_right _ (List.mem_append_right _ (List.mem_append_right _ (List.mem_append_left _ hn)))))
    simpa using this)
  clear hA0
  refine (walk n0 n1 n2 a3 len3 cap3 l3 a4 len4 cap4 l4 W w0 w1 w2 hst3 hok3 hll3 hst4 hlz4 hll4 hnil4).mono fun e W' ⟨he, bel⟩ => ?_
  subst he
  exact ⟨_, rfl, _, _, _, [], _, [], hW', trodAll_mk1 (shut_bool Tryz.underlying4 _), (trodAll_cons_mk (shut_int Tryz.underlying3 w0) (trodAll_cons_mk (shut_int Tryz.underlying3 w1) (trodAll_cons_mk (shut_int Tryz.underlying3 w2) (trodAll_cons_mk (Below.trod laidOut (by kernel_rfl) (of_decide_eq_true (by kernel_rfl)) k3 bel lt3) (trodAll_cons_mk (Below.trod laidOut (by kernel_rfl) (of_decide_eq_true (by kernel_rfl)) k4 bel lt4) trodAll_mk0))))), rfl, bel.frame _, fun h => by cases h⟩

set_option maxRecDepth 100000 in
theorem lifted (os : Os) (started : os.Started) (H : Type) (enc : TypeId × Value → H) :
    ReturnsInHanded {} Tryz.checked os 3 .any (Rows.walPlaysSpec.pre6 enc Tryz.prog Tryz.f3 Rows.walPlaysRow.domain false) (Rows.walPlaysSpec.post enc Tryz.prog Tryz.f3 false true false false) := by
  refine returnsInHanded_of_change_sized (C := Tryz.checked) own started (by kernel_rfl) Tryz.func3
    (ChangeSpec.witness6 (enc := enc) (C := Tryz.checked) false ⟨#[], #[.int .i64 0, .int .i64 0, .int .i64 0, .slice none 0 0, .slice none 0 0], []⟩ 8 (by kernel_rfl) (by kernel_rfl) (by kernel_rfl) (by kernel_rfl)) ?_
  intro W base args ds gs before hval hW hcnd hsz _
  exact contract H enc W base args ds gs before hval hW hsz

theorem over : Rows.walPlaysRow.holds Tryz.pinned (OpenSpec.ofChange Rows.walPlaysSpec) :=
  OpenClaim.holds_of_wide 3 Tryz.f3 rfl rfl rfl rfl rfl rfl rfl ⟨rfl, rfl, rfl, rfl, rfl⟩ rfl rfl rfl rfl rfl (by kernel_rfl) Tryz.func3 (by kernel_rfl)
    (of_decide_eq_true (by kernel_rfl)) (by unfold Func.isWrapper; first | (rw [if_pos (by decide +kernel)]; kernel_rfl) | (rw [if_neg (by decide +kernel)]; exact ⟨rfl, rfl⟩))
    (fun os started H enc _ => lifted os started H enc)

theorem proved : Rows.WalPlaysSaid := over

end Go.Proofs.YtjmpagbjkehebaaGreat.lawPlays
