/-
  DiskPlays: what is read of a disk, what is loose, whether it stands still, and what is answered, is the document's, whatever is done, also of copies: for every number of sectors, every script.
  Conditions: none.
-/
import Derived.Test.YtjlkppdailkanaaDskPlay
import Derived.Test.YtjlkppdailkanaaDskAlive
import Derived.Deep.MidRow
import Derived.ProofKit
import Derived.OpenShut
import Derived.ShutString
import Derived.ChangeOld
import Derived.SizedLaws
namespace Go.Proofs.Ytjlkppdailkanaa.lawPlays
open Go.ChangeShapes Go.WideShapes Go.ChangeAt Go.RowKit
open Go.ChangeMaps (open_string shut_string)
set_option linter.unusedVariables false

theorem own : ownKnob Try.prog.godebug = none := by kernel_rfl
theorem laidOut : laidOutB Try.prog = true := by kernel_rfl

def scells (x : Stp) : List Value := [.int .i64 x.d, .int .i64 x.at_, .int .i64 x.n, .string x.s, .bool x.raw]
theorem scells_at {w : World} {b off : Nat} {x : Stp} (h : StpAt w b off x) : w.rangeAt b off (scells x) := by
  intro j u hu
  match j, hu with
  | 0, hu => simp [scells] at hu; subst hu; exact h.d
  | 1, hu => simp [scells] at hu; subst hu; exact h.at_
  | 2, hu => simp [scells] at hu; subst hu; exact h.n
  | 3, hu => simp [scells] at hu; subst hu; exact h.s
  | 4, hu => simp [scells] at hu; subst hu; exact h.raw
  | j + 5, hu => simp [scells] at hu
theorem load_step {w : World} {b off : Nat} {x : Stp} (h : StpAt w b off x) : (Instr.loadAt 33 (.pointer (some ⟨b, off, none⟩))).run Try.prog w = .ok (agg x) w :=
  run_loadAt_mid (P := Try.prog) w b off 33 (scells x) _ (scells_at h) Try.underlying33 rfl (by kernel_rfl)

theorem Play.does {B : Nat} {W : World} {S T : Nat → Prop} {p q : Nat} {d : Dsk.St} {x : Stp} {w w' : World} {e : Ending} (h : Play B W S p d T (RefAt T q d) w) (hs : DoesSays S T p q d d x w e w') :
    ∃ S' T', e = .returned (.bool true) ∧ Play B W S' p (Dsk.does d x) T' (RefAt T' q (Dsk.does d x)) w' := by
  obtain ⟨b, he, hb, ht, S', T', hS, hT, hap, hd, hr⟩ := hs
  have hlo : ∀ j, S j ∨ T j → B ≤ j := fun j hj => by
    rcases hj with hj | hj
    · exact h.loS j hj
    · exact h.loR j hj
  refine ⟨S', T', by rw [he, hb rfl], hd, hr, Held.ref _ _ _, hap, fun j hj => ?_, fun j hj => ?_, h.below.trans (ht.below h.size (fun k _ hk => hlo k hk)), Nat.le_trans h.size ht.size⟩
  · rcases hS j hj with h1 | h1
    · exact h.loS j h1
    · exact Nat.le_trans h.size h1
  · rcases hT j hj with h1 | h1
    · exact h.loR j h1
    · exact Nat.le_trans h.size h1
/-- something else was made, and has turned -/
theorem Play.other {B : Nat} {W : World} {S R T : Nat → Prop} {p : Nat} {d : Dsk.St} {A : World → Prop} {w w1 w2 : World} (h : Play B W S p d R A w) (hb : Below w.heap.size w w1) (hT : ∀ j, T j → w.heap.size ≤ j) (ht : Turns T w1 w2) : Play B W S p d R A w2 := by
  have h1 := h.new hb
  refine ⟨h1.disk.keeps ht (fun k a c => ?_), h1.held.keep h1.rest ht (fun k a c => ?_), h.held, h.apart, h.loS, h.loR, h1.below.trans (ht.below h1.size (fun k _ hk => Nat.le_trans h.size (hT k hk))), Nat.le_trans h1.size ht.size⟩
  · have := h.disk.lt k a; have := hT k c; omega
  · have := h.held.lt h.rest k a; have := hT k c; omega

def fZ : ByteArray := ⟨(Dsk.round [122] 64).toArray⟩
theorem fZ_size : fZ.size = 64 := al_size _ _
theorem fill_zz (w : World) : Calls Try.prog 14 #[.string ⟨#[122]⟩, .int .i64 1] w fun e w' => e = .returned (.string fZ) ∧ Below w.heap.size w w' := fill_pos ⟨#[122]⟩ (by decide) 1 (by decide) w

set_option maxRecDepth 100000 in
set_option maxHeartbeats 4000000 in
theorem walk (n0 : Int) (a1 : Option Addr) (len1 cap1 : Nat) (l1 : List Stp) (W : World) (hn0 : (Lit.int .i64 n0).wf = true) (hst1 : Stps a1 len1 l1 W) (hok1 : ∀ y ∈ l1, y.Ok) (hll1 : len1 ≤ 2932031007402) :
    Calls Try.prog 3 #[.int .i64 n0, .slice a1 len1 cap1] W fun e w' => e = .returned (.bool true) ∧ Below W.heap.size W w' := by
  have hi0 := wf_i64 hn0
  have hhv := heavy_any n0 hi0 a1 len1 cap1 l1 W hst1 hok1 hll1
  have hmay := fun u => may_any n0 u
  unfold I64 at hi0
  have Hhv := Lib.hid hhv; clear hhv
  have Hst := Lib.hid hst1; clear hst1
  have Hok := Lib.hid hok1; clear hok1
  clear hn0
  have hq : ∀ Q : Ending → World → Prop, (∀ b : Bool, (b = false → Dsk.Light n0 l1) → Q (.returned (.bool b)) W) → Calls Try.prog 7 #[.int .i64 n0, .slice a1 len1 cap1] W Q := fun Q h => Hhv.out.mono fun e w' ⟨b, he, hb, hw⟩ => by subst he; subst hw; exact h b hb
  have Hq := Lib.hid hq; clear hq
  clear Hhv
  have hend : ∀ u, Below W.heap.size W u → Calls Try.prog 8 #[] u fun e w' => e = .returned (.bool true) ∧ Below W.heap.size W w' := fun u hu => (alive_any u).mono fun e w' ⟨h1, h2⟩ => ⟨h1, hu.trans (h2.mono hu.size)⟩
  have Hend := Lib.hid hend; clear hend
  by_cases hsec : n0 < 1 ∨ 16384 < n0
  · rw [show decide (1 ≤ n0 ∧ n0 ≤ 16384) = false by rw [decide_eq_false_iff_not]; omega] at hmay
    have Hmay := Lib.hid hmay; clear hmay
    have hnb := fun u => new_bad n0 hsec u
    have Hnb := Lib.hid hnb; clear hnb
    clear hsec
    go_enter Try.func3, Try.ntmps3
    go_wp2_with fail
    refine Hq.out _ ?_
    intro b hb
    clear hb
    cases b with
    | true =>
      go_wp2_with fail
      refine (Hend.out _ (Below.refl _ _)).mono ?_; rintro e w1 ⟨rfl, hw1⟩
      go_wp2_with fail
      go_ret
      exact ⟨rfl, hw1⟩
    | false =>
      go_wp2_with fail
      refine (Hnb.out _).mono ?_; rintro e w1 ⟨rfl, rfl⟩
      go_wp2_with fail
      refine (Hmay.out _).mono ?_; rintro e w1 ⟨rfl, rfl⟩
      go_wp2_with fail
      refine (Hend.out _ (Below.refl _ _)).mono ?_; rintro e w1 ⟨rfl, hw1⟩
      go_wp2_with fail
      go_ret
      exact ⟨rfl, hw1⟩
  rw [show decide (1 ≤ n0 ∧ n0 ≤ 16384) = true by rw [decide_eq_true_iff]; omega] at hmay
  have Hmay := Lib.hid hmay; clear hmay
  obtain ⟨n, rfl⟩ := Int.eq_ofNat_of_zero_le (show 0 ≤ n0 by omega)
  have hn1 : 1 ≤ n := by omega
  have hn2 : n ≤ 16384 := by omega
  have hnw := fun u => new_any n hn1 hn2 u
  have hrn := fun u => refNew_any n hn1 hn2 u
  have Hnw := Lib.hid hnw; clear hnw
  have Hrn := Lib.hid hrn; clear hrn
  clear hsec
  go_enter Try.func3, Try.ntmps3
  go_wp2_with fail
  refine Hq.out _ ?_
  intro b hb
  have Hb := Lib.hid hb; clear hb
  cases b with
  | true =>
    go_wp2_with fail
    refine (Hend.out _ (Below.refl _ _)).mono ?_; rintro e w1 ⟨rfl, hw1⟩
    go_wp2_with fail
    go_ret
    exact ⟨rfl, hw1⟩
  | false =>
  have hli := Hb.out rfl
  clear Hb
  have hpl := Plays.of hli Hok.out
  have Hpl := Lib.hid hpl; clear hpl
  have hlen : l1.length ≤ 80 := hli.len
  have hll : l1.length = len1 := Hst.out.1
  have Hll := Lib.hid hll
  have hlen1 : len1 ≤ 80 := by omega
  clear hli hll hlen
  go_wp2_with fail
  refine (Hnw.out _).mono ?_; rintro e w1 ⟨rfl, hb1, hd1⟩
  have hp1 : Play W.heap.size W (NewS W) (W.heap.size + 2) (Dsk.new n) (fun _ => False) (fun _ => True) w1 := Play.alone hd1 (fun j h => h.1) hb1 hb1.size
  generalize W.heap.size + 2 = p0 at *
  have HP1 := Lib.hid hp1; clear hp1
  clear hb1 hd1
  go_wp2_with fail
  refine (Hmay.out _).mono ?_; rintro e w1' ⟨rfl, rfl⟩
  go_wp2_with fail
  refine (Hrn.out _).mono ?_; rintro e w2 ⟨rfl, hb2, hr2⟩
  have hp2 : Play W.heap.size W (NewS W) p0 (Dsk.new n) (fun j => w1.heap.size ≤ j ∧ j < w2.heap.size) (RefAt (fun j => w1.heap.size ≤ j ∧ j < w2.heap.size) w1.heap.size (Dsk.new n)) w2 := by
    have h1 := HP1.out.new hb2
    exact ⟨h1.disk, hr2, Held.ref _ _ _, fun j a b => by have := HP1.out.disk.lt j a; omega, h1.loS, fun j hj => by have := HP1.out.size; omega, h1.below, h1.size⟩
  generalize w1.heap.size = q at *
  have HP2 := Lib.hid hp2; clear hp2
  clear hb2 hr2
  go_wp2_with fail
  go_loopw [5, 8, 9] (fun dv c ov wr => ∃ k p d S T, k ≤ len1 ∧ dv = .pointer (some ⟨p, 0, none⟩) ∧ c = .int .i64 (k : Int) ∧ d.ops ≤ 1024 * k ∧ Play W.heap.size W S p d T (RefAt T q d) wr) (fun _ c _ _ => len1 - (intOf c).toNat)
  case atStart => exact ⟨0, p0, Dsk.new n, _, _, by omega, rfl, rfl, Nat.le_refl _, HP2.out⟩
  case round =>
    obtain ⟨k, p, d, S, T, hk, rfl, rfl, hops, hpl⟩ := hrel
    have HP := Lib.hid hpl; clear hpl
    by_cases hlt : k < len1
    · obtain ⟨b, off, rfl, hst0⟩ := Hst.out.2 k hlt
      have hx : Plays (l1.getD k default) := Hpl.out _ (by
        rw [List.getD_eq_getElem?_getD, List.getElem?_eq_getElem (by rw [Hll.out]; exact hlt)]
        exact List.getElem_mem _)
      generalize l1.getD k default = x at *
      have hbW : b < W.heap.size := cell_lt hst0.d
      have hst : StpAt wr b (off + k * 5) x := hst0.same (HP.out.below.block b hbW)
      have c0 := hst.d
      have Hx := Lib.hid hx; clear hx
      have Hst0 := Lib.hid hst0; clear hst0
      have Hst1 := Lib.hid hst; clear hst
      by_cases h5 : x.d = 5
      · have d5 : (x.d == 5) = true := by rw [beq_iff_eq]; exact h5
        have H5 := Lib.hid h5; clear h5
        have hcy := copy_any HP.out.disk (by omega)
        have Hcy := Lib.hid hcy; clear hcy
        go_wp2_with fail
        clear c0 d5
        refine Hcy.out.mono ?_; rintro e w3 ⟨rfl, hb3, S2, hS2, hc3⟩
        have hp3 := HP.out.copied hb3 hS2 hc3
        have hap : ∀ j, S2 j → ¬ T j := fun j a c => by have := hS2 j a; have := HP.out.rest.lt j c; omega
        have Hap := Lib.hid hap; clear hap
        generalize wr.heap.size = pc at *
        have HP3 := Lib.hid hp3; clear hp3
        clear hb3 hS2 hc3
        go_wp2_with fail
        refine (fill_zz _).mono ?_; rintro e w4 ⟨rfl, hb4⟩
        have hp4 := HP3.out.new hb4
        have hwr := write_all hp4.disk 0 ⟨by decide, by decide⟩ fZ (by rw [fZ_size]; decide) (by rw [fZ_size]; omega)
        have ho5 := Dsk.write_ops d 0 fZ.data.toList
        rw [ba_len, fZ_size] at ho5
        have HP4 := Lib.hid hp4; clear hp4
        have Hwr := Lib.hid hwr; clear hwr
        clear hb4
        go_wp2_with fail
        refine Hwr.out.mono ?_; rintro e w5 ⟨rfl, ht5, S5, hS5, hd5⟩
        have hp5 := HP4.out.turn ht5 hS5 hd5
        have hfl := flush_all hp5.disk (by omega)
        have ho6 := Dsk.flush_ops (Dsk.write d 0 fZ.data.toList).1
        have HP5 := Lib.hid hp5; clear hp5
        have Hfl := Lib.hid hfl; clear hfl
        clear ht5 hS5 hd5
        go_wp2_with fail
        refine Hfl.out.mono ?_; rintro e w6 ⟨rfl, ht6, S6, hS6, hd6⟩
        have hp6 := HP5.out.turn ht6 hS6 hd6
        have hfu := fuse_any hp6.disk 0 ⟨by decide, by decide⟩
        have HP6 := Lib.hid hp6; clear hp6
        have Hfu := Lib.hid hfu; clear hfu
        clear ht6 hS6 hd6
        go_wp2_with fail
        refine Hfu.out.mono ?_; rintro e w7 ⟨rfl, ht7, hd7⟩
        have hp7 := HP6.out.turn (ht7.mono (fun j _ (e : j = p) => by rw [e]; exact HP6.out.disk.hp)) (fun j hj => .inl hj) hd7
        have hcr := crash_any hp7.disk ⟨#[49]⟩ (by decide) (by show (Dsk.flush _).1.ops ≤ _; omega)
        have HP7 := Lib.hid hp7; clear hp7
        have Hcr := Lib.hid hcr; clear hcr
        clear ht7 hd7
        go_wp2_with fail
        refine Hcr.out.mono ?_; rintro e wz ⟨rfl, htz, Sz, hSz, hdz⟩
        have hpz := HP7.out.turn htz hSz hdz
        have hpy : Play W.heap.size W S2 pc d T (RefAt T q d) wz := by
          refine ⟨hpz.rest.1, hpz.rest.2, Held.ref _ _ _, fun j a c => ?_, fun j hj => hpz.loR j (.inl hj), fun j hj => hpz.loR j (.inr hj), hpz.below, hpz.size⟩
          exact Hap.out j a c
        have hbk : wz.heap[b]? = wr.heap[b]? := by rw [hpz.below.block b hbW, HP.out.below.block b hbW]
        have HPY := Lib.hid hpy; clear hpy
        have Hbk := Lib.hid hbk; clear hbk
        clear htz hSz hdz hpz
        clear HP3 HP4 HP5 HP6 HP7
        clear ho5 ho6
        obtain ⟨k0, k1, k2, k3, k4⟩ := (Hst1.out.same (show wz.heap[b]? = wr.heap[b]? from Hbk.out))
        have hdo := does_any HPY.out.disk HPY.out.rest HPY.out.apart x Hx.out (by omega) (by omega)
        have Hdo := Lib.hid hdo; clear hdo
        go_wp2_with fail
        refine Hdo.out.mono ?_; intro e w8 hs8
        obtain ⟨S8, T8, rfl, hp8⟩ := Play.does HPY.out hs8
        have hops8 := Dsk.does_ops' d x Hx.out
        have hsm := same_any hp8.disk hp8.rest (by omega)
        have HP8 := Lib.hid hp8; clear hp8
        have Hsm := Lib.hid hsm; clear hsm
        clear hs8 k0 k1 k2 k3 k4
        go_wp2_with fail
        refine Hsm.out.mono ?_; rintro e w9 ⟨rfl, hb9⟩
        have hp9 := HP8.out.new hb9
        have HP9 := Lib.hid hp9; clear hp9
        clear hb9
        go_wp2_with fail
        go_roundw
        case rel => exact ⟨k + 1, pc, Dsk.does d x, S8, T8, by omega, rfl, by go_num, by omega, HP9.out⟩
        case measure => simp [intOf]; omega
      · have d5 : (x.d == 5) = false := by rw [beq_eq_false_iff_ne]; exact h5
        have H5 := Lib.hid h5; clear h5
        have hbk : wr.heap[b]? = wr.heap[b]? := rfl
        have Hbk := Lib.hid hbk; clear hbk
        obtain ⟨k0, k1, k2, k3, k4⟩ := (Hst1.out.same (show wr.heap[b]? = wr.heap[b]? from Hbk.out))
        have hdo := does_any HP.out.disk HP.out.rest HP.out.apart x Hx.out (by omega) (by omega)
        have Hdo := Lib.hid hdo; clear hdo
        go_wp2_with fail
        refine Hdo.out.mono ?_; intro e w8 hs8
        obtain ⟨S8, T8, rfl, hp8⟩ := Play.does HP.out hs8
        have hops8 := Dsk.does_ops' d x Hx.out
        have hsm := same_any hp8.disk hp8.rest (by omega)
        have HP8 := Lib.hid hp8; clear hp8
        have Hsm := Lib.hid hsm; clear hsm
        clear hs8 k0 k1 k2 k3 k4
        go_wp2_with fail
        refine Hsm.out.mono ?_; rintro e w9 ⟨rfl, hb9⟩
        have hp9 := HP8.out.new hb9
        have HP9 := Lib.hid hp9; clear hp9
        clear hb9
        go_wp2_with fail
        go_roundw
        case rel => exact ⟨k + 1, p, Dsk.does d x, S8, T8, by omega, rfl, by go_num, by omega, HP9.out⟩
        case measure => simp [intOf]; omega
    · obtain rfl : k = len1 := by omega
      have hob : d.ops ≤ 1099511627776 := by omega
      have hcy := copy_any HP.out.disk hob
      have Hcy := Lib.hid hcy; clear hcy
      go_wp2_with fail
      refine Hcy.out.mono ?_; rintro e w3 ⟨rfl, hb3, S2, hS2, hc3⟩
      have hp3 := HP.out.copied hb3 hS2 hc3
      have hap2 : ∀ j, S2 j → ¬ (S j ∨ T j) := fun j a c => by
        have := hS2 j a
        rcases c with c | c
        · have := HP.out.disk.lt j c; omega
        · have := HP.out.rest.lt j c; omega
      have hc : Play W.heap.size W S2 wr.heap.size d (fun j => S j ∨ T j) (fun u => DiskAt S p d u ∧ RefAt T q d u) w3 :=
        ⟨hp3.rest.1, ⟨hp3.disk, hp3.rest.2⟩, (Held.disk S p d).both (Held.ref T q d), hap2, fun j hj => hp3.loR j (.inl hj), fun j hj => by
          rcases hj with hj | hj
          · exact hp3.loS j hj
          · exact hp3.loR j (.inr hj), hp3.below, hp3.size⟩
      generalize wr.heap.size = pc at *
      have hsm := same_any hc.disk hc.rest.2 hob
      have HC := Lib.hid hc; clear hc
      have Hsm := Lib.hid hsm; clear hsm
      clear hb3 hS2 hc3 hp3 hap2
      go_wp2_with fail
      refine Hsm.out.mono ?_; rintro e w4 ⟨rfl, hb4⟩
      have hc4 := HC.out.new hb4
      have hcr := crash_any hc4.disk ⟨#[]⟩ (by decide) hob
      have HC4 := Lib.hid hc4; clear hc4
      have Hcr := Lib.hid hcr; clear hcr
      clear hb4
      go_wp2_with fail
      refine Hcr.out.mono ?_; rintro e w5 ⟨rfl, ht5, S5, hS5, hd5⟩
      have hc5 := HC4.out.turn ht5 hS5 hd5
      have hrc := refCopy_any hc5.rest.2 hob
      have HC5 := Lib.hid hc5; clear hc5
      have Hrc := Lib.hid hrc; clear hrc
      clear ht5 hS5 hd5
      go_wp2_with fail
      refine Hrc.out.mono ?_; rintro e w6 ⟨qs, rfl, hb6, T6, hT6, hr6⟩
      have hcs := refCrash_any hr6 ⟨#[]⟩ (by decide) hob
      have Hcs := Lib.hid hcs; clear hcs
      have Hb6 := Lib.hid hb6; clear hb6
      have HT6 := Lib.hid hT6; clear hT6
      clear hr6
      go_wp2_with fail
      refine Hcs.out.mono ?_; rintro e w7 ⟨rfl, ht7, T7, hT7, hr7⟩
      have hc7 := Play.other HC5.out Hb6.out HT6.out ht7
      have hs7 := same_any hc7.disk hr7 hob
      have HC7 := Lib.hid hc7; clear hc7
      have Hs7 := Lib.hid hs7; clear hs7
      clear ht7 hT7 hr7
      go_wp2_with fail
      refine Hs7.out.mono ?_; rintro e w8 ⟨rfl, hb8⟩
      have hc8 := HC7.out.new hb8
      have hs8 := same_any hc8.rest.1 hc8.rest.2 hob
      have HC8 := Lib.hid hc8; clear hc8
      have Hs8 := Lib.hid hs8; clear hs8
      clear hb8
      go_wp2_with fail
      refine Hs8.out.mono ?_; rintro e w9 ⟨rfl, hb9⟩
      have hz := (HC8.out.new hb9).below
      have Hz := Lib.hid hz; clear hz
      clear hb9
      go_wp2_with fail
      refine (Hend.out _ Hz.out).mono ?_; rintro e wa ⟨rfl, hba⟩
      go_wp2_with fail
      go_ret
      exact ⟨rfl, hba⟩

theorem contract (H : Type) (enc : TypeId × Value → H) (W : World) (base : Nat) (args : Array Value) (ds gs : List (DataW H)) (before : List MemPlace)
    (hval : ∀ (j : Nat) t v, Try.f3.params[j]? = some t → args[j]? = some v → Value.okWide Try.prog W .any base t v)
    (hW : DataW.Whole enc Try.prog Try.f3.params.toList Rows.diskPlaysSpec.vars false W args.toList ds gs before)
    (hsz : (DataW.weightsEach Try.prog (Try.f3.params.toList ++ Rows.diskPlaysSpec.plain.varTypes Try.prog) (ds ++ gs)).all (· ≤ reachBytes) = true) :
    Calls Try.prog 3 args W fun e W' => ∃ v, e = .returned v ∧ Rows.diskPlaysSpec.post enc Try.prog Try.f3 false true false false W args v W' := by
  have hW' := hW
  obtain ⟨p, q, hA0, hV, rfl, hfz, hnd⟩ := hW
  have hA : DataW.TrodAll enc Try.prog W 0 (fun _ => true) true Try.f3.params.toList args.toList ds p := hA0
  rw [Try.params3] at hA hval hsz
  obtain ⟨v0, vs0, d0, ds0, p0, q0, hargs, rfl, rfl, h0, r0⟩ := trodAll_cons hA
  obtain ⟨v1, vs1, d1, ds1, p1, q1, rfl, rfl, rfl, h1, r1⟩ := trodAll_cons r0
  obtain ⟨rfl, rfl, rfl⟩ := trodAll_nil r1
  obtain rfl : args = #[v0, v1] := by cases args; simp_all
  obtain ⟨rfl, rfl⟩ := trodVars_none hV
  obtain ⟨n0, rfl, rfl, rfl, w0⟩ := open_int Try.underlying3 (hval 0 3 v0 rfl rfl) h0
  obtain ⟨a1, len1, cap1, rfl⟩ := okWide_slice Try.underlying22 (hval 1 22 v1 rfl rfl)
  have k1 := h1
  have lt1 : ∀ x ∈ p1, x.block < W.heap.size := by obtain ⟨m, hm⟩ := k1; exact DataW.trod_lt m _ _ _ hm
  obtain ⟨fuel1, hf1⟩ := h1
  obtain ⟨l1, hst1, hok1, hll1, hnil1⟩ := open_steps Try.underlying22 Try.underlying33 rfl rfl rfl rfl rfl Try.underlying3 Try.underlying9 Try.underlying4 (by kernel_rfl) (by kernel_rfl) (by kernel_rfl) hf1 (fun n hn => by
    have := List.all_eq_true.1 hsz n (by
      simp only [List.cons_append, DataW.weightsEach]
      exact List.mem_append_right _ (List.mem_append_left _ hn))
    simpa using this)
  clear hA0
  refine (walk n0 a1 len1 cap1 l1 W w0 hst1 hok1 hll1).mono fun e W' ⟨he, bel⟩ => ?_
  subst he
  exact ⟨_, rfl, _, _, _, [], _, [], hW', trodAll_mk1 (shut_bool Try.underlying4 _), (trodAll_cons_mk (shut_int Try.underlying3 w0) (trodAll_cons_mk (Below.trod laidOut (by kernel_rfl) (of_decide_eq_true (by kernel_rfl)) k1 bel lt1) trodAll_mk0)), rfl, bel.frame _, fun h => by cases h⟩

set_option maxRecDepth 100000 in
theorem lifted (os : Os) (started : os.Started) (H : Type) (enc : TypeId × Value → H) :
    ReturnsInHanded {} Try.checked os 3 .any (Rows.diskPlaysSpec.pre6 enc Try.prog Try.f3 Rows.diskPlaysRow.domain false) (Rows.diskPlaysSpec.post enc Try.prog Try.f3 false true false false) := by
  refine returnsInHanded_of_change_sized (C := Try.checked) own started (by kernel_rfl) Try.func3
    (ChangeSpec.witness6 (enc := enc) (C := Try.checked) false ⟨#[], #[.int .i64 0, .slice none 0 0], []⟩ 8 (by kernel_rfl) (by kernel_rfl) (by kernel_rfl) (by kernel_rfl)) ?_
  intro W base args ds gs before hval hW hcnd hsz _
  exact contract H enc W base args ds gs before hval hW hsz

theorem over : Rows.diskPlaysRow.holds Try.pinned (OpenSpec.ofChange Rows.diskPlaysSpec) :=
  OpenClaim.holds_of_wide 3 Try.f3 rfl rfl rfl rfl rfl rfl rfl ⟨rfl, rfl, rfl, rfl, rfl⟩ rfl rfl rfl rfl rfl (by kernel_rfl) Try.func3 (by kernel_rfl)
    (of_decide_eq_true (by kernel_rfl)) (by unfold Func.isWrapper; first | (rw [if_pos (by decide +kernel)]; kernel_rfl) | (rw [if_neg (by decide +kernel)]; exact ⟨rfl, rfl⟩))
    (fun os started H enc _ => lifted os started H enc)

theorem proved : Rows.DiskPlaysSaid := over

end Go.Proofs.Ytjlkppdailkanaa.lawPlays
