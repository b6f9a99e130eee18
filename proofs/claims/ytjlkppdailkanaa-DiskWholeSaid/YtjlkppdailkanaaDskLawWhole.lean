/-
  DiskWhole: where all is kept, or all was flushed, a crash loses nothing, and two crashes, one behind the other, are one, for every number of sectors, every script, every text that says what is kept.
  Conditions: none.
-/
import Derived.Test.YtjlkppdailkanaaDskPlay
import Derived.Test.YtjlkppdailkanaaDskAlive
import Derived.Deep.MidRow
import Derived.ProofKit
import Derived.OpenShut
import Derived.ShutString
import Derived.ChangeOld
import Derived.SizedLaws
namespace Go.Proofs.Ytjlkppdailkanaa.lawWhole
open Go.ChangeShapes Go.WideShapes Go.ChangeAt Go.RowKit
open Go.ChangeMaps (open_string shut_string)
set_option linter.unusedVariables false

theorem own : ownKnob Try.prog.godebug = none := by kernel_rfl
theorem laidOut : laidOutB Try.prog = true := by kernel_rfl

def scells (x : Stp) : List Value := [.int .i64 x.d, .int .i64 x.at_, .int .i64 x.n, .string x.s, .bool x.raw]
theorem scells_at {w : World} {b off : Nat} {x : Stp} (h : StpAt w b off x) : w.rangeAt b off (scells x) := by
  intro j u hu
  match j, hu with
  | 0, hu => simp [scells] at hu; subst hu; exact h.d
  | 1, hu => simp [scells] at hu; subst hu; exact h.at_
  | 2, hu => simp [scells] at hu; subst hu; exact h.n
  | 3, hu => simp [scells] at hu; subst hu; exact h.s
  | 4, hu => simp [scells] at hu; subst hu; exact h.raw
  | j + 5, hu => simp [scells] at hu
theorem load_step {w : World} {b off : Nat} {x : Stp} (h : StpAt w b off x) : (Instr.loadAt 33 (.pointer (some ⟨b, off, none⟩))).run Try.prog w = .ok (agg x) w :=
  run_loadAt_mid (P := Try.prog) w b off 33 (scells x) _ (scells_at h) Try.underlying33 rfl (by kernel_rfl)

set_option maxRecDepth 100000 in
set_option maxHeartbeats 4000000 in
theorem walk (n0 : Int) (a1 : Option Addr) (len1 cap1 : Nat) (l1 : List Stp) (s2 : ByteArray) (W : World) (hn0 : (Lit.int .i64 n0).wf = true) (hst1 : Stps a1 len1 l1 W) (hok1 : ∀ y ∈ l1, y.Ok) (hll1 : len1 ≤ 2932031007402) (z2 : s2.size ≤ 140737488351232) :
    Calls Try.prog 5 #[.int .i64 n0, .slice a1 len1 cap1, .string s2] W fun e w' => e = .returned (.bool true) ∧ Below W.heap.size W w' := by
  have hi0 := wf_i64 hn0
  have hhv := heavy_any n0 hi0 a1 len1 cap1 l1 W hst1 hok1 hll1
  unfold I64 at hi0
  have hal := fun u => alive_any u
  have Hal := Lib.hid hal; clear hal
  have Hhv := Lib.hid hhv; clear hhv
  have Hst := Lib.hid hst1; clear hst1
  have Hok := Lib.hid hok1; clear hok1
  clear hn0
  -- what the first question answers
  have hq : ∀ Q : Ending → World → Prop, (∀ b : Bool, (b = false → Dsk.Light n0 l1) → Q (.returned (.bool b)) W) → Calls Try.prog 7 #[.int .i64 n0, .slice a1 len1 cap1] W Q := fun Q h => Hhv.out.mono fun e w' ⟨b, he, hb, hw⟩ => by subst he; subst hw; exact h b hb
  have Hq := Lib.hid hq; clear hq
  clear Hhv
  have hend : ∀ u, Below W.heap.size W u → Calls Try.prog 8 #[] u fun e w' => e = .returned (.bool true) ∧ Below W.heap.size W w' := fun u hu => (alive_any u).mono fun e w' ⟨h1, h2⟩ => ⟨h1, hu.trans (h2.mono hu.size)⟩
  have Hend := Lib.hid hend; clear hend
  go_enter Try.func5, Try.ntmps5
  go_wp2_with fail
  refine Hq.out _ ?_
  intro b hb
  have Hb := Lib.hid hb; clear hb
  cases b with
  | true =>
    go_wp2_with fail
    refine (Hend.out _ (Below.refl _ _)).mono ?_; rintro e w1 ⟨rfl, hw1⟩
    go_wp2_with fail
    go_ret
    exact ⟨rfl, hw1⟩
  | false =>
  have hli := Hb.out rfl
  clear Hb
  by_cases hs200 : 200 < n0
  · have d200 : decide (200 < n0) = true := decide_eq_true hs200
    go_wp2_with fail
    refine (Hend.out _ (Below.refl _ _)).mono ?_; rintro e w1 ⟨rfl, hw1⟩
    go_wp2_with fail
    go_ret
    exact ⟨rfl, hw1⟩
  have d200 : decide (200 < n0) = false := decide_eq_false hs200
  by_cases hk1024 : 1024 < s2.size
  · have dk : decide ((1024 : Int) < (s2.size : Int)) = true := decide_eq_true (by omega)
    go_wp2_with fail
    refine (Hend.out _ (Below.refl _ _)).mono ?_; rintro e w1 ⟨rfl, hw1⟩
    go_wp2_with fail
    go_ret
    exact ⟨rfl, hw1⟩
  have dk : decide ((1024 : Int) < (s2.size : Int)) = false := decide_eq_false (by omega)
  by_cases hlo : n0 < 1
  · have hnb := fun u => new_bad n0 (.inl hlo) u
    have Hnb := Lib.hid hnb; clear hnb
    go_wp2_with fail
    refine (Hnb.out _).mono ?_; rintro e w1 ⟨rfl, rfl⟩
    go_wp2_with fail
    refine (Hend.out _ (Below.refl _ _)).mono ?_; rintro e w1 ⟨rfl, hw1⟩
    go_wp2_with fail
    go_ret
    exact ⟨rfl, hw1⟩
  obtain ⟨n, rfl⟩ := Int.eq_ofNat_of_zero_le (show 0 ≤ n0 by omega)
  have hn1 : 1 ≤ n := by omega
  have hn2 : n ≤ 200 := by omega
  have hnw := fun u => new_any n hn1 (by omega) u
  have Hnw := Lib.hid hnw; clear hnw
  have hpl := Plays.of hli Hok.out
  have Hpl := Lib.hid hpl; clear hpl
  have hlen : l1.length ≤ 80 := hli.len
  have hll : l1.length = len1 := Hst.out.1
  have Hll := Lib.hid hll
  have hlen1 : len1 ≤ 80 := by omega
  clear hli hll hlen hlo hs200
  go_wp2_with fail
  refine (Hnw.out _).mono ?_; rintro e w1 ⟨rfl, hb1, hd1⟩
  obtain ⟨p, hp⟩ : ∃ p, p = W.heap.size + 2 := ⟨_, rfl⟩
  rw [← hp] at hd1 ⊢
  have Hp := Lib.hid hp; clear hp
  have Hb1 := Lib.hid hb1; clear hb1
  have Hd1 := Lib.hid hd1; clear hd1
  go_wp2_with fail
  go_loopw [9] (fun c wr => ∃ k d S, k ≤ len1 ∧ c = .int .i64 (k : Int) ∧ Dsk.Up d ∧ d.n = n ∧ d.ops ≤ 512 * k ∧ DiskAt S p d wr ∧ (∀ j, S j → W.heap.size ≤ j) ∧ Below W.heap.size W wr) (fun c _ => len1 - (intOf c).toNat)
  case atStart => exact ⟨0, Dsk.new n, NewS W, by omega, rfl, Dsk.up_new n, rfl, Nat.le_refl _, Hd1.out, fun j h => h.1, Hb1.out⟩
  case round =>
    obtain ⟨k, d, S, hk, rfl, hup, hdn, hops, hat, hS, hbel⟩ := hrel
    have Hup := Lib.hid hup; clear hup
    have Hdn := Lib.hid hdn; clear hdn
    have Hat := Lib.hid hat; clear hat
    have HS := Lib.hid hS; clear hS
    have Hbel := Lib.hid hbel; clear hbel
    by_cases hlt : k < len1
    · obtain ⟨b, off, rfl, hst0⟩ := Hst.out.2 k hlt
      have hx : Plays (l1.getD k default) := Hpl.out _ (by
        rw [List.getD_eq_getElem?_getD, List.getElem?_eq_getElem (by rw [Hll.out]; exact hlt)]
        exact List.getElem_mem _)
      generalize l1.getD k default = x at *
      have hbW : b < W.heap.size := cell_lt hst0.d
      have hbr : b < wr.heap.size := Nat.lt_of_lt_of_le hbW Hbel.out.size
      have hst : StpAt wr b (off + k * 5) x := hst0.same (Hbel.out.block b hbW)
      have c0 := hst.d
      have Hx := Lib.hid hx; clear hx
      have Hst1 := Lib.hid hst; clear hst
      clear hst0
      by_cases h3 : x.d = 3
      · have d3 : (x.d != 3) = false := by rw [bne_eq_false_iff_eq]; exact h3
        have H3 := Lib.hid h3; clear h3
        go_wp2_with fail
        go_roundw
        case rel => exact ⟨k + 1, d, S, by omega, by go_num, Hup.out, Hdn.out, by omega, Hat.out, HS.out, Hbel.out⟩
        case measure => simp [intOf]; omega
      · have d3 : (x.d != 3) = true := by rw [bne_iff_ne]; exact h3
        have H3 := Lib.hid h3; clear h3
        go_wp2_with fail
        clear c0 d3
        refine wp_region_text [0, 2, 3, 4, 5] [1, 6] [] (by kernel_rfl) (by kernel_rfl) (fun u => u.heap[b]? = wr.heap[b]?) rfl ?_
        simp only [pick, List.filterMap_cons, List.filterMap_nil, List.getElem?_toArray, List.getElem?_cons_zero, List.getElem?_cons_succ]
        refine take_move (.tmp 7) (.pointer (some ⟨p, 0, none⟩)) rfl rfl rfl ?_
        simp only [Act.put, List.setIfInBounds_toArray, List.set_cons_zero, List.set_cons_succ]
        refine take_move (.tmp 1) (.slice (some ⟨b, off, none⟩) len1 cap1) rfl rfl rfl ?_
        simp only [Act.put, List.setIfInBounds_toArray, List.set_cons_zero, List.set_cons_succ]
        refine take_move (.tmp 9) (.int .i64 (k : Int)) rfl rfl rfl ?_
        simp only [Act.put, List.setIfInBounds_toArray, List.set_cons_zero, List.set_cons_succ]
        refine take_one (.pointer (some ⟨b, off + k * 5, none⟩)) rfl (fun u _ => by go_simp) ?_
        simp only [Act.put, List.setIfInBounds_toArray, List.set_cons_zero, List.set_cons_succ]
        refine take_load 33 (.tmp 60) ⟨b, off + k * 5, none⟩ (agg x) rfl rfl rfl (fun u hu => load_step (Hst1.out.same hu)) ?_
        simp only [Act.put, List.setIfInBounds_toArray, List.set_cons_zero, List.set_cons_succ]
        refine take_done ?_
        refine mid_wp rfl (call_wp 11 [.const (.int .i64 1)] #[3] #[.int .i64 1] rfl rfl rfl ?_)
        refine (refNew_any 1 (by decide) (by decide) wr.drew).mono ?_; rintro e w2 ⟨rfl, hb2, hr2⟩
        have hb2' : Below wr.heap.size wr w2 := ((Below.refl _ wr).drew).trans hb2
        refine ⟨_, rfl, hb2'.block b hbr, ?_⟩
        simp only [Act.put, List.setIfInBounds_toArray, List.set_cons_zero, List.set_cons_succ]
        have hd2 := Hat.out.new hb2'
        have hap : ∀ j, S j → ¬ (wr.drew.heap.size ≤ j ∧ j < w2.heap.size) := fun j a c => by have := Hat.out.lt j a; have h2 : wr.drew.heap.size = wr.heap.size := rfl; omega
        have hbel2 := Hbel.out.trans (hb2'.mono Hbel.out.size)
        refine mid_wp rfl (call_wp 18 [.tmp 56, .tmp 57, .tmp 61] #[25, 30, 33] #[.pointer (some ⟨p, 0, none⟩), .pointer (some ⟨wr.drew.heap.size, 0, none⟩), agg x] rfl rfl rfl ?_)
        refine (does_any hd2 hr2 hap x Hx.out (by omega) (by show 0 + 512 ≤ _; omega)).mono ?_; rintro e w3 ⟨bb, rfl, _, ht3, S3, T3, hS3, hT3, hap3, hd3, hr3⟩
        have hlow : ∀ j, S j ∨ (wr.drew.heap.size ≤ j ∧ j < w2.heap.size) → W.heap.size ≤ j := fun j hj => by
          rcases hj with hj | hj
          · exact HS.out j hj
          · have := Hbel.out.size; have h2 : wr.drew.heap.size = wr.heap.size := rfl; omega
        have hbel3 : Below W.heap.size W w3 := hbel2.trans (ht3.below hbel2.size (fun j _ hj => hlow j hj))
        have hS3' : ∀ j, S3 j → W.heap.size ≤ j := fun j hj => by
          rcases hS3 j hj with h | h
          · exact HS.out j h
          · have := hbel2.size; omega
        refine ⟨_, rfl, ?_, ?_⟩
        · have h1 := ht3.block b (by have := hb2'.size; omega) (fun e => by have := hlow b e; omega)
          exact h1.trans (hb2'.block b hbr)
        simp only [Act.put, List.setIfInBounds_toArray, List.set_cons_zero, List.set_cons_succ]
        refine mid_list ?_
        have hops3 := Dsk.does_ops' d x Hx.out
        have hn3 := Dsk.does_n d x
        rw [Hdn.out] at hn3
        have hup3 := Dsk.up_does Hup.out H3.out
        have Hd3 := Lib.hid hd3; clear hd3
        have Hbel3 := Lib.hid hbel3; clear hbel3
        have HS3 := Lib.hid hS3'; clear hS3'
        have Hn3 := Lib.hid hn3; clear hn3
        have Hup3 := Lib.hid hup3; clear hup3
        clear hlow ht3 hS3 hT3 hap3 hr3 hbel2 hap hd2 hb2' hr2 hb2
        go_wp2
        apply NoPanic.normal
        go_wp2
        go_roundw
        case rel => exact ⟨k + 1, Dsk.does d x, S3, by omega, by go_num, Hup3.out, Hn3.out, by omega, Hd3.out, HS3.out, Hbel3.out⟩
        case measure => simp [intOf]; omega
    · obtain rfl : k = len1 := by omega
      have hud := Hup.out.2
      have hob : d.ops ≤ 1099511627776 := by omega
      have hr0 := fun u hu => read_good (w := u) (Hat.out.new hu) hud 0 n (by have := Hdn.out; omega)
      obtain ⟨R, hR⟩ : ∃ R : ByteArray, R = ⟨(Dsk.rd d 0 n).toArray⟩ := ⟨_, rfl⟩
      rw [← hR] at hr0
      have hcy := fun u hu => copy_any (w := u) (Hat.out.new hu) hob
      have Hr0 := Lib.hid hr0; clear hr0
      have HR := Lib.hid hR; clear hR
      have Hcy := Lib.hid hcy; clear hcy
      have Hud := Lib.hid hud; clear hud
      go_wp2_with fail
      refine (Hr0.out _ (Below.refl _ _)).mono ?_; rintro e w2 ⟨rfl, hb2⟩
      have Hb2 := Lib.hid hb2; clear hb2
      go_wp2_with fail
      refine (Hcy.out _ Hb2.out).mono ?_; rintro e w3 ⟨rfl, hb3, S2, hS2, hc3⟩
      obtain ⟨pc, hpc⟩ : ∃ pc, pc = w2.heap.size := ⟨_, rfl⟩
      have hplay : Play W.heap.size W S p d S2 (DiskAt S2 pc d) w3 := by
        have h1 : Play W.heap.size W S p d (fun _ => False) (fun _ => True) w2 := (Play.alone Hat.out HS.out Hbel.out Hbel.out.size).new Hb2.out
        rw [← hpc] at hc3
        have h2 := h1.copied hb3 hS2 hc3
        exact h2.weak (fun j hj => .inl hj) (fun h => h.1) (Held.disk S2 pc d)
      rw [← hpc]
      have HP3 := Lib.hid hplay; clear hplay
      clear hb3 hS2 hc3 hpc
      have hcr := crash_any HP3.out.disk ⟨#[49]⟩ (by decide) hob
      have Hcr := Lib.hid hcr; clear hcr
      go_wp2_with fail
      refine Hcr.out.mono ?_; rintro e w4 ⟨rfl, ht4, S4, hS4, hd4⟩
      have hp4 := (HP3.out.turn ht4 hS4 hd4).swap
      have hfl := flush_any hp4.disk Hud.out hob
      have HP4 := Lib.hid hp4; clear hp4
      have Hfl := Lib.hid hfl; clear hfl
      clear ht4 hS4 hd4
      go_wp2_with fail
      refine Hfl.out.mono ?_; rintro e w5 ⟨rfl, ht5, S5, hS5, hd5⟩
      have hp5 := HP4.out.turn ht5 hS5 hd5
      have hck := crash_any hp5.disk s2 (by omega) hob
      have HP5 := Lib.hid hp5; clear hp5
      have Hck := Lib.hid hck; clear hck
      clear ht5 hS5 hd5
      go_wp2_with fail
      refine Hck.out.mono ?_; rintro e w6 ⟨rfl, ht6, S6, hS6, hd6⟩
      have hp6 := (HP5.out.turn ht6 hS6 hd6).swap
      have HP6 := Lib.hid hp6; clear hp6
      clear ht6 hS6 hd6
      have hrd6 := read_good HP6.out.disk rfl 0 n (by show 0 + n ≤ d.n; have := Hdn.out; omega)
      rw [Dsk.rd_congr (show Dsk.now (Dsk.crash d [49]) = Dsk.now d from Dsk.now_crash_49 d), ← HR.out] at hrd6
      have Hrd6 := Lib.hid hrd6; clear hrd6
      go_wp2_with fail
      refine Hrd6.out.mono ?_; rintro e w7 ⟨rfl, hb7⟩
      have hp7 := HP6.out.new hb7
      have hrd7 := read_good hp7.swap.disk rfl 0 n (by show 0 + n ≤ d.n; have := Hdn.out; omega)
      rw [Dsk.rd_congr (show Dsk.now (Dsk.crash (Dsk.settle d [1]) s2.data.toList) = Dsk.now d from (Dsk.now_crash_nil _ _ rfl).trans (Dsk.now_settle d)), ← HR.out] at hrd7
      have HP7 := Lib.hid hp7; clear hp7
      have Hrd7 := Lib.hid hrd7; clear hrd7
      clear hb7
      go_wp2_with fail
      refine Hrd7.out.mono ?_; rintro e w8 ⟨rfl, hb8⟩
      have hp8 := HP7.out.new hb8
      have hck8 := crash_any hp8.disk s2 (by omega) hob
      have HP8 := Lib.hid hp8; clear hp8
      have Hck8 := Lib.hid hck8; clear hck8
      clear hb8
      go_wp2_with fail
      refine Hck8.out.mono ?_; rintro e w9 ⟨rfl, ht9, S9, hS9, hd9⟩
      have hp9 := HP8.out.turn ht9 hS9 hd9
      have hrd9 := read_good hp9.disk rfl 0 n (by show 0 + n ≤ d.n; have := Hdn.out; omega)
      rw [Dsk.rd_congr (show Dsk.now (Dsk.crash (Dsk.crash d [49]) s2.data.toList) = Dsk.now d from (Dsk.now_crash_nil _ _ rfl).trans (Dsk.now_crash_49 d)), ← HR.out] at hrd9
      have HP9 := Lib.hid hp9; clear hp9
      have Hrd9 := Lib.hid hrd9; clear hrd9
      clear ht9 hS9 hd9
      go_wp2_with fail
      refine Hrd9.out.mono ?_; rintro e wa ⟨rfl, hba⟩
      have hpa := (HP9.out.new hba).below
      have Hpa := Lib.hid hpa; clear hpa
      clear hba
      go_wp2_with fail
      refine (Hend.out _ Hpa.out).mono ?_; rintro e wb ⟨rfl, hbb⟩
      go_wp2_with fail
      go_ret
      exact ⟨rfl, hbb⟩

theorem contract (H : Type) (enc : TypeId × Value → H) (W : World) (base : Nat) (args : Array Value) (ds gs : List (DataW H)) (before : List MemPlace)
    (hval : ∀ (j : Nat) t v, Try.f5.params[j]? = some t → args[j]? = some v → Value.okWide Try.prog W .any base t v)
    (hW : DataW.Whole enc Try.prog Try.f5.params.toList Rows.diskWholeSpec.vars false W args.toList ds gs before)
    (hsz : (DataW.weightsEach Try.prog (Try.f5.params.toList ++ Rows.diskWholeSpec.plain.varTypes Try.prog) (ds ++ gs)).all (· ≤ reachBytes) = true) :
    Calls Try.prog 5 args W fun e W' => ∃ v, e = .returned v ∧ Rows.diskWholeSpec.post enc Try.prog Try.f5 false true false false W args v W' := by
  have hW' := hW
  obtain ⟨p, q, hA0, hV, rfl, hfz, hnd⟩ := hW
  have hA : DataW.TrodAll enc Try.prog W 0 (fun _ => true) true Try.f5.params.toList args.toList ds p := hA0
  rw [Try.params5] at hA hval hsz
  obtain ⟨v0, vs0, d0, ds0, p0, q0, hargs, rfl, rfl, h0, r0⟩ := trodAll_cons hA
  obtain ⟨v1, vs1, d1, ds1, p1, q1, rfl, rfl, rfl, h1, r1⟩ := trodAll_cons r0
  obtain ⟨v2, vs2, d2, ds2, p2, q2, rfl, rfl, rfl, h2, r2⟩ := trodAll_cons r1
  obtain ⟨rfl, rfl, rfl⟩ := trodAll_nil r2
  obtain rfl : args = #[v0, v1, v2] := by cases args; simp_all
  obtain ⟨rfl, rfl⟩ := trodVars_none hV
  obtain ⟨n0, rfl, rfl, rfl, w0⟩ := open_int Try.underlying3 (hval 0 3 v0 rfl rfl) h0
  obtain ⟨a1, len1, cap1, rfl⟩ := okWide_slice Try.underlying22 (hval 1 22 v1 rfl rfl)
  have k1 := h1
  have lt1 : ∀ x ∈ p1, x.block < W.heap.size := by obtain ⟨m, hm⟩ := k1; exact DataW.trod_lt m _ _ _ hm
  obtain ⟨fuel1, hf1⟩ := h1
  obtain ⟨l1, hst1, hok1, hll1, hnil1⟩ := open_steps Try.underlying22 Try.underlying33 rfl rfl rfl rfl rfl Try.underlying3 Try.underlying9 Try.underlying4 (by kernel_rfl) (by kernel_rfl) (by kernel_rfl) hf1 (fun n hn => by
    have := List.all_eq_true.1 hsz n (by
      simp only [List.cons_append, DataW.weightsEach]
      exact List.mem_append_right _ (List.mem_append_left _ hn))
    simpa using this)
  obtain ⟨s2, rfl, rfl, rfl, m2⟩ := open_string Try.underlying9 (hval 2 9 v2 rfl rfl) h2
  clear hA0
  have z2 : s2.size ≤ 140737488351232 := by
    have := List.all_eq_true.1 hsz s2.data.toList.length (by simp [DataW.weightsEach, DataW.weights])
    rw [ba_len] at this
    exact of_decide_eq_true this
  refine (walk n0 a1 len1 cap1 l1 s2 W w0 hst1 hok1 hll1 z2).mono fun e W' ⟨he, bel⟩ => ?_
  subst he
  exact ⟨_, rfl, _, _, _, [], _, [], hW', trodAll_mk1 (shut_bool Try.underlying4 _), (trodAll_cons_mk (shut_int Try.underlying3 w0) (trodAll_cons_mk (Below.trod laidOut (by kernel_rfl) (of_decide_eq_true (by kernel_rfl)) k1 bel lt1) (trodAll_cons_mk (shut_string Try.underlying9 m2) trodAll_mk0))), rfl, bel.frame _, fun h => by cases h⟩

set_option maxRecDepth 100000 in
theorem lifted (os : Os) (started : os.Started) (H : Type) (enc : TypeId × Value → H) :
    ReturnsInHanded {} Try.checked os 5 .any (Rows.diskWholeSpec.pre6 enc Try.prog Try.f5 Rows.diskWholeRow.domain false) (Rows.diskWholeSpec.post enc Try.prog Try.f5 false true false false) := by
  refine returnsInHanded_of_change_sized (C := Try.checked) own started (by kernel_rfl) Try.func5
    (ChangeSpec.witness6 (enc := enc) (C := Try.checked) false ⟨#[], #[.int .i64 0, .slice none 0 0, .string .empty], []⟩ 8 (by kernel_rfl) (by kernel_rfl) (by kernel_rfl) (by kernel_rfl)) ?_
  intro W base args ds gs before hval hW hcnd hsz _
  exact contract H enc W base args ds gs before hval hW hsz

theorem over : Rows.diskWholeRow.holds Try.pinned (OpenSpec.ofChange Rows.diskWholeSpec) :=
  OpenClaim.holds_of_wide 5 Try.f5 rfl rfl rfl rfl rfl rfl rfl ⟨rfl, rfl, rfl, rfl, rfl⟩ rfl rfl rfl rfl rfl (by kernel_rfl) Try.func5 (by kernel_rfl)
    (of_decide_eq_true (by kernel_rfl)) (by unfold Func.isWrapper; first | (rw [if_pos (by decide +kernel)]; kernel_rfl) | (rw [if_neg (by decide +kernel)]; exact ⟨rfl, rfl⟩))
    (fun os started H enc _ => lifted os started H enc)

theorem proved : Rows.DiskWholeSaid := over

end Go.Proofs.Ytjlkppdailkanaa.lawWhole
