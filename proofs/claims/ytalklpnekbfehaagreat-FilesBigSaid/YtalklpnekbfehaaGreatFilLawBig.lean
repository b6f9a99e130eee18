/-
  FilesBig: a file that no log has room for is laid down whole, and outlives a crash, as the ones beside it do, for every number of sectors, every byte, however many, whatever a crash keeps.
  Conditions: none.
-/
import Derived.Test.YtalklpnekbfehaaGreatFilBigP
import Derived.Deep.MidRow
import Derived.ProofKit
import Derived.OpenShut
import Derived.ShutString
import Derived.ChangeOld
import Derived.SizedLaws
import Derived.Outline
import Derived.OwnWalk
import Derived.StillTailTactics
import Derived.Deep.DeepCutAuto
namespace Go.Proofs.YtalklpnekbfehaaGreat.lawBig
open Go.ChangeShapes Go.WideShapes Go.ChangeAt Go.RowKit
open Go.ChangeMaps (open_string shut_string)
set_option linter.unusedVariables false

theorem own : ownKnob Tryz.prog.godebug = none := by kernel_rfl
theorem laidOut : laidOutB Tryz.prog = true := by kernel_rfl

set_option maxRecDepth 100000 in
set_option maxHeartbeats 4000000 in
theorem walk (n0 : Int) (c1 : Int) (n2 : Int) (s3 : ByteArray) (W : World) (w0 : (Lit.int .i64 n0).wf = true) (w1 : (Lit.int .u8 c1).wf = true) (w2 : (Lit.int .u16 n2).wf = true) (z3 : s3.size ≤ 140737488351232) :
    Calls Tryz.prog 6 #[.int .i64 n0, .int .u8 c1, .int .u16 n2, .string s3] W fun e w' => e = .returned (.bool true) ∧ Below W.heap.size W w' := by
  have hi0 := wf_i64 w0
  have hi1 : 0 ≤ c1 ∧ c1 ≤ 255 := by
    have : IntKind.u8.min ≤ c1 ∧ c1 ≤ IntKind.u8.max := by simpa [Lit.wf] using w1
    exact this
  have hi2 : 0 ≤ n2 ∧ n2 ≤ 65535 := by
    have : IntKind.u16.min ≤ n2 ∧ n2 ≤ IntKind.u16.max := by simpa [Lit.wf] using w2
    exact this
  unfold I64 at hi0
  have hend : ∀ u, Below W.heap.size W u → Calls Tryz.prog 9 #[] u fun e w' => e = .returned (.bool true) ∧ Below W.heap.size W w' := fun u hu => (filAlive_any u).mono fun e w' ⟨h1, h2⟩ => ⟨h1, hu.trans (h2.mono hu.size)⟩
  have Hend := Lib.hid hend; clear hend
  obtain ⟨c, rfl⟩ : ∃ c : UInt8, c1 = (c.toNat : Int) := ⟨UInt8.ofNat c1.toNat, by rw [UInt8.toNat_ofNat']; omega⟩
  obtain ⟨N, rfl⟩ : ∃ N : Nat, n2 = (N : Int) := ⟨n2.toNat, by omega⟩
  have hN : N ≤ 65535 := by omega
  clear w0 w1 w2
  by_cases h16 : n0 < 16
  · have d16 : decide (n0 < 16) = true := decide_eq_true h16
    go_enter Tryz.func6, Tryz.ntmps6
    go_wp2_with fail
    refine (Hend.out _ (Below.refl _ _)).mono ?_; rintro e w1 ⟨rfl, hw1⟩
    go_wp2_with fail
    go_ret
    exact ⟨rfl, hw1⟩
  have d16 : decide (n0 < 16) = false := decide_eq_false h16
  by_cases h200 : 200 < n0
  · have d200 : decide (200 < n0) = true := decide_eq_true h200
    go_enter Tryz.func6, Tryz.ntmps6
    go_wp2_with fail
    refine (Hend.out _ (Below.refl _ _)).mono ?_; rintro e w1 ⟨rfl, hw1⟩
    go_wp2_with fail
    go_ret
    exact ⟨rfl, hw1⟩
  have d200 : decide (200 < n0) = false := decide_eq_false h200
  by_cases h100 : 100 < s3.size
  · have d100 : decide (100 < s3.size) = true := decide_eq_true h100
    have d100' : decide ((100 : Int) < (s3.size : Int)) = true := decide_eq_true (by omega)
    go_enter Tryz.func6, Tryz.ntmps6
    go_wp2_with fail
    refine (Hend.out _ (Below.refl _ _)).mono ?_; rintro e w1 ⟨rfl, hw1⟩
    go_wp2_with fail
    go_ret
    exact ⟨rfl, hw1⟩
  have d100 : decide (100 < s3.size) = false := decide_eq_false h100
  have d100' : decide ((100 : Int) < (s3.size : Int)) = false := decide_eq_false (by omega)
  obtain ⟨k, rfl⟩ : ∃ k : Nat, n0 = (k : Int) := ⟨n0.toNat, by omega⟩
  have k1 : 16 ≤ k := by omega
  have k2 : k ≤ 200 := by omega
  have hs3 : s3.size ≤ 100 := by omega
  clear h16 h200 h100 hi0 hi1 hi2
  have hmk := make_u8s N hN
  have hbc := build_chg
  have hbg := build_gone
  go_enter Tryz.func6, Tryz.ntmps6
  go_wp2_with fail
  refine (new_any k (by omega) (by omega) _).mono ?_; rintro e v1 ⟨rfl, b1, d1⟩
  generalize W.heap.size + 2 = q at d1 ⊢
  have s1 : ∀ j, NewS W j → W.heap.size ≤ j := fun j h => h.1
  have B1 := Lib.hid b1; clear b1
  have D1 := Lib.hid d1; clear d1
  go_wp2_with fail
  refine (fopen_live D1.out (Fil.new_live (n := k) (by omega) (by omega)) (by show (0 : Nat) ≤ _; omega)).mono ?_; rintro e v2 ⟨p, S2, R2, pw, bm, rfl, hp, hA, ⟨nn, hn1, hn2⟩, x1, x2, x3⟩
  have h2 : Sys W (fun _ => False) 21000000000 S2 R2 p q pw bm (Dsk.new k) ⟨0, 0, 1, Fil.logN k, [], 0⟩ ⟨false, 0, 0, k, [], 0⟩ v2 := Sys.opened hA B1.out s1 hp hn1 hn2 x1 x2 x3 (by simp [Fil.Sorted]) (by intro x hx; simp at hx) (by show (0 : Nat) ≤ _; omega)
  have H2 := Lib.hid h2; clear h2 hA hn2 x1 x2 x3 hp hn1
  go_wp2_with fail
  have hpl : p < v2.heap.size := row_lt H2.out.row.row
  have g1 : ¬ S2 v2.heap.size ∧ ¬ R2 v2.heap.size ∧ v2.heap.size ≠ p := H2.out.fresh (.cells #[] 0)
  have G1 := Lib.hid g1; clear g1
  have Hpl := Lib.hid hpl; clear hpl
  go_loopw [14] (fun i wr => ∃ j : Nat, j ≤ N ∧ i = .int .i64 (j : Int) ∧ wr.heap[v2.heap.size]? = some (.cells (u8s (Dsk.part [c] N j)) 5 (0, 0)) ∧ Below v2.heap.size v2 wr) (fun i _ => N - (intOf i).toNat)
  case atStart => exact ⟨0, by omega, rfl, by rw [Dsk.part_zero]; exact heap_alloc_new v2 _, (Below.refl _ v2).alloc (Nat.le_refl _) _⟩
  case round =>
    obtain ⟨j, hj, rfl, hrow, hbel⟩ := hrel
    have Hrow := Lib.hid hrow; clear hrow
    have Hbel := Lib.hid hbel; clear hbel
    by_cases hlt : j < N
    · have hpl := Dsk.part_length [c] N j hj
      have c0 := row_u8 Hrow.out j (by omega)
      have f0 := row_free Hrow.out j
      have hset := row_set8 Hrow.out j c
      have hps := Dsk.part_set [c] N j hlt
      rw [show [c].getD (j % [c].length) 0 = c from by simp [Nat.mod_one]] at hps
      rw [hps] at hset
      have Hset := Lib.hid hset; clear hset
      have Hpl := Lib.hid hpl; clear hpl
      clear hps
      go_wp2_with fail
      go_roundw
      case rel => exact ⟨j + 1, by omega, by go_num, Hset.out, Hbel.out.setCell (p := ⟨v2.heap.size, j, none⟩) (by simp) _⟩
      case measure => simp [intOf]; omega
    · obtain rfl : j = N := by omega
      have hl1 : (Dsk.part [c] j j).length = j := Dsk.part_length [c] j j (Nat.le_refl _)
      obtain ⟨bs, hbs⟩ : ∃ bs, bs = Dsk.part [c] j j := ⟨_, rfl⟩
      rw [← hbs] at hl1
      obtain ⟨bv, hbv⟩ : ∃ bv : ByteArray, bv = ⟨bs.toArray⟩ := ⟨_, rfl⟩
      have hsz : bv.size = j := by rw [hbv]; show bs.toArray.size = j; simp [hl1]
      have hcv : ∀ u : World, u.heap[v2.heap.size]? = some (.cells (u8s bs) 5 (0, 0)) → (convert 62 9 (.slice (some ⟨v2.heap.size, 0, none⟩) j j)).run Tryz.prog u = .ok (.string bv) u := fun u h => by
        have hA : ArrB v2.heap.size bs u := fun i hi => ⟨row_u8 h i hi, row_free h i⟩
        have hc := hA.conv (P := Tryz.prog) 62 9 5 Tryz.underlying62 Tryz.underlying5 Tryz.underlying9 j j (by omega)
        rw [List.take_of_length_le (by omega)] at hc
        rw [hbv]; exact hc
      have hrw := Hrow.out
      rw [← hbs] at hrw
      have Hcv := Lib.hid hcv; clear hcv
      have Hsz := Lib.hid hsz; clear hsz
      clear hbv hl1 hbs Hrow
      have h3 := H2.out.new Hbel.out
      obtain ⟨p1, p2, p3, o1, rb1, xs1, l1, l2, l3, l4⟩ := Fil.big1 k1 k2
      have P1 := Lib.hid p1; clear p1
      have P3 := Lib.hid p3; clear p3 p2 l4
      have L1 := Lib.hid l1; clear l1
      have L2 := Lib.hid l2; clear l2
      have L3 := Lib.hid l3; clear l3
      have H3 := Lib.hid h3; clear h3
      have Hrw := Lib.hid hrw; clear hrw
      clear hlt hmk
      go_wp2_with fail
      refine (commit_one H3.out.here (Fil.new_live (n := k) (by omega) (by omega)) (by decide) (by show (0 : Nat) ≤ _; omega) ⟨Fil.bgS, Fil.bgO, false⟩ ⟨by decide, by decide⟩).mono ?_; rintro e w4 ⟨rfl, S4, R4, bm4, k4⟩
      have e4 : (Fil.commit (Dsk.new k) ⟨0, 0, 1, Fil.logN k, [], 0⟩ ⟨false, 0, 0, k, [], 0⟩ [⟨Fil.bgS, Fil.bgO, false⟩]).2.2.2 = 0 := P1.out
      rw [e4]
      obtain ⟨r4, y1, y2⟩ := k4.other Hrw.out G1.out.1 G1.out.2.1 G1.out.2.2
      have H4 : Hid (Sys W (fun _ => False) 21000000001 S4 R4 p q pw bm4 (Fil.bgF1 k).1 (Fil.bgF1 k).2.1 (Fil.bgF1 k).2.2.1 w4) := Lib.hid (H3.out.back k4)
      have R4w := Lib.hid r4; clear r4
      have Y1 := Lib.hid (And.intro y1 y2); clear y1 y2 k4 e4
      have cv4 := Hcv.out w4 R4w.out
      go_wp2_with fail
      have z2 := Hsz.out
      have hb2 := Fil.big2 k1 k2 bv (by omega)
      refine (commit_one H4.out.here L1.out (by decide) (by have := P3.out; omega) ⟨Fil.bgB, bv, false⟩ ⟨by show Fil.bgB.size ≤ _; decide, by show bv.size ≤ _; omega⟩).mono ?_; rintro e w5 ⟨rfl, S5, R5, bm5, k5⟩
      obtain ⟨r5, y1, y2⟩ := k5.other R4w.out Y1.out.1 Y1.out.2 G1.out.2.2
      have H5 : Hid (Sys W (fun _ => False) 21000000002 S5 R5 p q pw bm5 (Fil.bgF2 k bv).1 (Fil.bgF2 k bv).2.1 (Fil.bgF2 k bv).2.2.1 w5) := Lib.hid (H4.out.back k5)
      have R5w := Lib.hid r5; clear r5
      have Y2 := Lib.hid (And.intro y1 y2); clear y1 y2 k5 cv4
      have hN16 : Fil.arN k ≤ 16384 := by unfold Fil.arN; omega
      have hN6 := Fil.arN_big k1
      by_cases hf : Fil.arN k * 64 - 4 < bv.size + 31
      · obtain ⟨f1, f2⟩ := hb2.1 hf
        have e5 : (Fil.commit (Fil.bgF1 k).1 (Fil.bgF1 k).2.1 (Fil.bgF1 k).2.2.1 [⟨Fil.bgB, bv, false⟩]).2.2.2 = 4 := f1
        rw [e5]
        have a6 := froom_any H5.out.row (by rw [f2]; exact hN16)
        rw [f2] at a6
        have dR : decide ((Fil.arN k : Int) * 64 - 4 < (j : Int) + 31) = true := decide_eq_true (by omega)
        have A6 := Lib.hid a6; clear a6
        clear hb2 f1 f2 e5 hf
        go_wp2_with fail
        refine A6.out.mono ?_; rintro e w6 ⟨rfl, b6⟩
        have hw6 : Below W.heap.size W w6 := by
          have h := (H5.out.new b6).a.below
          exact h
        have Hw6 := Lib.hid hw6; clear hw6
        clear b6
        go_wp2_with fail
        refine (Hend.out _ Hw6.out).mono ?_; rintro e w7 ⟨rfl, hw7⟩
        go_wp2_with fail
        go_ret
        exact ⟨rfl, hw7⟩
      · have hf' : bv.size + 31 ≤ Fil.arN k * 64 - 4 := by omega
        obtain ⟨f1, f2, o2, rb2, xs2, m1, m2, m3, m4⟩ := hb2.2 hf'
        have e5 : (Fil.commit (Fil.bgF1 k).1 (Fil.bgF1 k).2.1 (Fil.bgF1 k).2.2.1 [⟨Fil.bgB, bv, false⟩]).2.2.2 = 0 := f1
        rw [e5]
        have a6 := froom_any H5.out.row (by rw [m3]; exact hN16)
        rw [m3] at a6
        have dR : decide ((Fil.arN k : Int) * 64 - 4 < (j : Int) + 31) = false := decide_eq_false (by omega)
        have A6 := Lib.hid a6; clear a6
        have F2 := Lib.hid f2; clear f2
        have M1 := Lib.hid m1; clear m1
        have M2 := Lib.hid m2; clear m2
        have Hf := Lib.hid hf'; clear hf'
        clear hb2 f1 e5 hf m3 m4
        go_wp2_with fail
        refine A6.out.mono ?_; rintro e w6 ⟨rfl, b6⟩
        have H6 := Lib.hid (H5.out.new b6)
        have R6w : Hid (w6.heap[v2.heap.size]? = some (.cells (u8s bs) 5 (0, 0))) := Lib.hid (by rw [b6.block _ (row_lt R5w.out)]; exact R5w.out)
        clear b6
        go_wp2_with fail
        refine (crash_any H6.out.a.disk s3 (by omega) (by have := F2.out; omega)).mono ?_; rintro e w7 ⟨rfl, t7, S7, s7, d7⟩
        have lo6 : ∀ i, S5 i → W.heap.size ≤ i := fun i hi => by
          rcases H6.out.a.loS i hi with e | e
          · exact e.elim
          · exact e
        have hW6 := H6.out.a.below
        have hW7 : Below W.heap.size W w7 := hW6.trans (t7.below hW6.size (fun i _ hi => lo6 i hi))
        have lo7 : ∀ i, S7 i → W.heap.size ≤ i := fun i hi => by
          rcases s7 i hi with e | e
          · exact lo6 i e
          · have := hW6.size; omega
        have R7w : Hid (w7.heap[v2.heap.size]? = some (.cells (u8s bs) 5 (0, 0))) := Lib.hid (t7.same R6w.out Y2.out.1)
        have y7 : ¬ S7 v2.heap.size := fun e => by
          rcases s7 _ e with e | e
          · exact Y2.out.1 e
          · have := row_lt R6w.out; omega
        have Y7 := Lib.hid y7; clear y7
        have HW7 := Lib.hid hW7; clear hW7 hW6
        have Lo7 := Lib.hid lo7; clear lo7 lo6
        have D7 := Lib.hid d7; clear d7 t7 s7
        go_wp2_with fail
        refine (fopen_live D7.out (Fil.live_crash M1.out s3.data.toList) (by have := F2.out; have e : (Dsk.crash (Fil.bgF2 k bv).1 s3.data.toList).ops = (Fil.bgF2 k bv).1.ops := rfl; omega)).mono ?_; rintro e w8 ⟨p8, S8, R8, pw8, bm8, rfl, hp8, hA, ⟨nn, hn1, hn2⟩, x1, x2, x3⟩
        have R8w : Hid (w8.heap[v2.heap.size]? = some (.cells (u8s bs) 5 (0, 0))) := Lib.hid (hA.turns.same R7w.out (fun e => Y7.out (e.elim id id)))
        have h8 := Sys.opened (N := 21000000000) hA HW7.out Lo7.out hp8 hn1 hn2 x1 x2 x3 M1.out.g.rows.1 M1.out.g.rows.2 (by
          rw [M2.out]
          have h9 := Fil.bg_used bv
          unfold Fil.used at h9
          have := Hsz.out
          omega)
        have H8 := Lib.hid h8; clear h8 hA hn2 x1 x2 x3 hn1 hp8
        go_wp2_with fail
        have a9 := fget_any H8.out.row Fil.bgB (by decide)
        rw [M2.out, show Fil.get [(Fil.bgB.data.toList, bv.data.toList), (Fil.bgS.data.toList, Fil.bgO.data.toList)] Fil.bgB.data.toList = some bv.data.toList from rfl] at a9
        simp only [Option.getD_some, Option.isSome_some, Fil.ba_toList] at a9
        refine a9.mono ?_; rintro e w9 ⟨rfl, b9⟩
        have H9 := Lib.hid (H8.out.new b9)
        have R9w : Hid (w9.heap[v2.heap.size]? = some (.cells (u8s bs) 5 (0, 0))) := Lib.hid (by rw [b9.block _ (row_lt R8w.out)]; exact R8w.out)
        clear b9 a9
        go_wp2_with fail
        have a10 := fget_any H9.out.row Fil.bgS (by decide)
        rw [M2.out, show Fil.get [(Fil.bgB.data.toList, bv.data.toList), (Fil.bgS.data.toList, Fil.bgO.data.toList)] Fil.bgS.data.toList = some Fil.bgO.data.toList from rfl] at a10
        simp only [Option.getD_some, Option.isSome_some, Fil.ba_toList] at a10
        refine a10.mono ?_; rintro e w10 ⟨rfl, b10⟩
        have H10 := Lib.hid (H9.out.new b10)
        have R10w : Hid (w10.heap[v2.heap.size]? = some (.cells (u8s bs) 5 (0, 0))) := Lib.hid (by rw [b10.block _ (row_lt R9w.out)]; exact R9w.out)
        clear b10 a10
        have cv10 := Hcv.out w10 R10w.out
        rw [show Fil.bgO = (⟨#[111, 110, 101]⟩ : ByteArray) from rfl]
        go_wp2_with fail
        have e11 := Fil.big3 k1 k2 bv (by have := Hsz.out; omega) Hf.out s3.data.toList
        refine (commit_one H10.out (Fil.live_crash M1.out s3.data.toList) (by decide) (by have := F2.out; have e : (Dsk.crash (Fil.bgF2 k bv).1 s3.data.toList).ops = (Fil.bgF2 k bv).1.ops := rfl; omega) ⟨Fil.bgB, ⟨#[]⟩, true⟩ ⟨by decide, by decide⟩).mono ?_; rintro e w11 ⟨rfl, S11, R11, bm11, h11⟩
        have e12 : (Fil.commit (Dsk.crash (Fil.bgF2 k bv).1 s3.data.toList) (Fil.bgF2 k bv).2.1 (Fil.bgF2 k bv).2.2.1 [⟨Fil.bgB, ⟨#[]⟩, true⟩]).2.2.2 = 0 := e11
        rw [e12]
        have H11 := Lib.hid h11.a.below
        clear h11 e11 e12 cv10
        go_wp2_with fail
        refine (Hend.out _ H11.out).mono ?_; rintro e w12 ⟨rfl, hw12⟩
        go_wp2_with fail
        go_ret
        exact ⟨rfl, hw12⟩

set_option maxRecDepth 100000 in
theorem contract (H : Type) (enc : TypeId × Value → H) (W : World) (base : Nat) (args : Array Value) (ds gs : List (DataW H)) (before : List MemPlace)
    (hval : ∀ (j : Nat) t v, Tryz.f6.params[j]? = some t → args[j]? = some v → Value.okWide Tryz.prog W .any base t v)
    (hW : DataW.Whole enc Tryz.prog Tryz.f6.params.toList Rows.filesBigSpec.vars false W args.toList ds gs before)
    (hsz : (DataW.weightsEach Tryz.prog (Tryz.f6.params.toList ++ Rows.filesBigSpec.plain.varTypes Tryz.prog) (ds ++ gs)).all (· ≤ reachBytes) = true) :
    Calls Tryz.prog 6 args W fun e W' => ∃ v, e = .returned v ∧ Rows.filesBigSpec.post enc Tryz.prog Tryz.f6 false true false false W args v W' := by
  have hW' := hW
  obtain ⟨p, q, hA0, hV, rfl, hfz, hnd⟩ := hW
  have hA : DataW.TrodAll enc Tryz.prog W 0 (fun _ => true) true Tryz.f6.params.toList args.toList ds p := hA0
  rw [Tryz.params6] at hA hval hsz
  obtain ⟨v0, vs0, d0, ds0, p0, q0, hargs, rfl, rfl, h0, r0⟩ := trodAll_cons hA
  obtain ⟨v1, vs1, d1, ds1, p1, q1, rfl, rfl, rfl, h1, r1⟩ := trodAll_cons r0
  obtain ⟨v2, vs2, d2, ds2, p2, q2, rfl, rfl, rfl, h2, r2⟩ := trodAll_cons r1
  obtain ⟨v3, vs3, d3, ds3, p3, q3, rfl, rfl, rfl, h3, r3⟩ := trodAll_cons r2
  obtain ⟨rfl, rfl, rfl⟩ := trodAll_nil r3
  obtain rfl : args = #[v0, v1, v2, v3] := Array.ext' hargs
  obtain ⟨rfl, rfl⟩ := trodVars_none hV
  obtain ⟨n0, rfl, rfl, rfl, w0⟩ := open_int Tryz.underlying3 (hval 0 3 v0 rfl rfl) h0
  obtain ⟨n1, rfl, rfl, rfl, w1⟩ := open_int Tryz.underlying5 (hval 1 5 v1 rfl rfl) h1
  obtain ⟨n2, rfl, rfl, rfl, w2⟩ := open_int Tryz.underlying61 (hval 2 61 v2 rfl rfl) h2
  obtain ⟨s3, rfl, rfl, rfl, m3⟩ := open_string Tryz.underlying9 (hval 3 9 v3 rfl rfl) h3
  clear hA0
  have z3 : s3.size ≤ 140737488351232 := by
    have := List.all_eq_true.1 hsz s3.data.toList.length (by simp [DataW.weightsEach, DataW.weights])
    rw [ba_len] at this
    exact of_decide_eq_true this
  refine (walk n0 n1 n2 s3 W w0 w1 w2 z3).mono fun e W' ⟨he, bel⟩ => ?_
  subst he
  exact ⟨_, rfl, _, _, _, [], _, [], hW', trodAll_mk1 (shut_bool Tryz.underlying4 _), (trodAll_cons_mk (shut_int Tryz.underlying3 w0) (trodAll_cons_mk (shut_int Tryz.underlying5 w1) (trodAll_cons_mk (shut_int Tryz.underlying61 w2) (trodAll_cons_mk (shut_string Tryz.underlying9 m3) trodAll_mk0)))), rfl, bel.frame _, fun h => by cases h⟩

set_option maxRecDepth 100000 in
theorem lifted (os : Os) (started : os.Started) (H : Type) (enc : TypeId × Value → H) :
    ReturnsInHanded {} Tryz.checked os 6 .any (Rows.filesBigSpec.pre6 enc Tryz.prog Tryz.f6 Rows.filesBigRow.domain false) (Rows.filesBigSpec.post enc Tryz.prog Tryz.f6 false true false false) := by
  refine returnsInHanded_of_change_sized (C := Tryz.checked) own started (by kernel_rfl) Tryz.func6
    (ChangeSpec.witness6 (enc := enc) (C := Tryz.checked) false ⟨#[], #[.int .i64 0, .int .u8 0, .int .u16 0, .string .empty], []⟩ 8 (by kernel_rfl) (by kernel_rfl) (by kernel_rfl) (by kernel_rfl)) ?_
  intro W base args ds gs before hval hW hcnd hsz _
  exact contract H enc W base args ds gs before hval hW hsz

theorem over : Rows.filesBigRow.holds Tryz.pinned (OpenSpec.ofChange Rows.filesBigSpec) :=
  OpenClaim.holds_of_wide 6 Tryz.f6 rfl rfl rfl rfl rfl rfl rfl ⟨rfl, rfl, rfl, rfl, rfl⟩ rfl rfl rfl rfl rfl (by kernel_rfl) Tryz.func6 (by kernel_rfl)
    (of_decide_eq_true (by kernel_rfl)) (by unfold Func.isWrapper; first | (rw [if_pos (by decide +kernel)]; kernel_rfl) | (rw [if_neg (by decide +kernel)]; exact ⟨rfl, rfl⟩))
    (fun os started H enc _ => lifted os started H enc)

theorem proved : Rows.FilesBigSaid := over

end Go.Proofs.YtalklpnekbfehaaGreat.lawBig
