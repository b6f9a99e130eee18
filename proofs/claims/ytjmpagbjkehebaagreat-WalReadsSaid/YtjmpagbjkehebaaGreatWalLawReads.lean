/-
  WalReads: which log any sectors are, or that they are none: the program says it as the document does, for every text and every number of sectors.
  Conditions: none.
-/
import Derived.Test.YtjmpagbjkehebaaGreatWalBoth
import Derived.Test.YtjmpagbjkehebaaGreatWalAlive
import Derived.ProofKit
import Derived.OpenShut
import Derived.ShutString
import Derived.ChangeOld
import Derived.SizedLaws
namespace Go.Proofs.YtjmpagbjkehebaaGreat.lawReads
open Go.ChangeShapes Go.WideShapes Go.ChangeAt Go.RowKit
open Go.ChangeMaps (open_string shut_string)
set_option linter.unusedVariables false
set_option maxRecDepth 100000

theorem own : ownKnob Tryz.prog.godebug = none := by kernel_rfl
theorem laidOut : laidOutB Tryz.prog = true := by kernel_rfl
theorem write_ok (k : Nat) (s : List UInt8) (hs : s.length = 64 * k) : (Dsk.write (Dsk.new k) 0 s).2 = 0 := by
  have key : ∀ (m i : Nat) (d : Dsk.St), d.down = false → d.fuse < 0 → (Dsk.wr s 0 m i d).down = false := by
    intro m
    induction m with
    | zero => intro i d h _; exact h
    | succ m ih =>
      intro i d h hf
      unfold Dsk.wr
      rw [if_neg (by omega), if_neg (by omega)]
      exact ih (i + 1) _ h hf
  unfold Dsk.write
  rw [if_neg (by simp [Dsk.new]), if_neg (by show ¬ (_ ∨ ¬ (_ ∧ _ ≤ ((k : Nat) : Int))); omega)]
  simp only []
  rw [if_neg (by rw [show (0 : Int).toNat = 0 from rfl, key _ _ _ rfl (by show (-1 : Int) < 0; decide)]; decide)]

set_option maxHeartbeats 2000000 in
theorem walk (s : ByteArray) (n : Int) (W : World) (hs : s.size ≤ 140737488351232) (hn0 : (Lit.int .i64 n).wf = true) :
    Calls Tryz.prog 4 #[.string s, .int .i64 n] W fun e w' => e = .returned (.bool true) ∧ Below W.heap.size W w' := by
  have hi0 := wf_i64 hn0
  have hal := fun u => alive_any u
  have Hal := Lib.hid hal; clear hal
  by_cases hbig : 3840 < s.size ∨ s.size < 64
  · have hx : (decide ((3840 : Int) < (s.size : Int)) = true) ∨ (decide ((3840 : Int) < (s.size : Int)) = false ∧ decide ((s.size : Int) < 64) = true) := by
      by_cases h : 3840 < s.size
      · exact .inl (decide_eq_true (by omega))
      · exact .inr ⟨decide_eq_false (by omega), decide_eq_true (by omega)⟩
    clear hbig hn0 hi0
    rcases hx with hx | ⟨hx, hx2⟩
    all_goals
      go_enter Tryz.func4, Tryz.ntmps4
      go_wp2_with fail
      refine (Hal.out _).mono ?_; rintro e w1 ⟨rfl, h1⟩
      go_wp2_with fail
      go_ret
      exact ⟨rfl, h1⟩
  · obtain ⟨k, hk⟩ : ∃ k, k = s.size / 64 := ⟨_, rfl⟩
    have hk1 : 1 ≤ k := by omega
    have hk2 : k ≤ 60 := by omega
    have hq1 : (s.size : Int) / 64 = (k : Int) := by omega
    have hq2 : (s.size : Int).tdiv 64 = (k : Int) := by rw [Int.tdiv_eq_ediv_of_nonneg (by omega)]; exact hq1
    have hx1 : decide ((3840 : Int) < (s.size : Int)) = false := decide_eq_false (by omega)
    have hx2 : decide ((s.size : Int) < 64) = false := decide_eq_false (by omega)
    have hx3 : (k : Int) * 64 ≤ (s.size : Int) := by omega
    have hx4 : (0 : Int) ≤ (k : Int) * 64 := by omega
    have hx5 : ((k : Int) * 64).toNat = k * 64 := by omega
    have hTs : (s.extract 0 (k * 64)).size = k * 64 := by rw [ByteArray.size_extract]; omega
    have hwo := write_ok k (s.extract 0 (k * 64)).data.toList (by rw [ba_len]; omega)
    have hops : (Dsk.write (Dsk.new k) 0 (s.extract 0 (k * 64)).data.toList).1.ops ≤ 100 := by
      have := Dsk.write_ops (Dsk.new k) 0 (s.extract 0 (k * 64)).data.toList
      rw [ba_len] at this
      have h0 : (Dsk.new k).ops = 0 := rfl
      omega
    have Hnew := Lib.hid (fun u => new_any k hk1 (by omega) u)
    have HnewR := Lib.hid (fun u => refNew_any k hk1 (by omega) u)
    clear hbig hk hn0
    generalize hT : s.extract 0 (k * 64) = T at *
    go_enter Tryz.func4, Tryz.ntmps4
    go_wp2_with fail
    refine (Hnew.out _).mono ?_; rintro e w1 ⟨rfl, h1, d1⟩
    have hWr := write_all d1 0 ⟨by omega, by omega⟩ T (by omega) (by have h0 : (Dsk.new k).ops = 0 := rfl; omega)
    rw [hwo] at hWr
    have HWr := Lib.hid hWr; clear hWr
    have H1 := Lib.hid h1; clear h1
    go_wp2_with fail
    refine HWr.out.mono ?_; rintro e w2 ⟨rfl, t2, S2, l2, d2⟩
    have hb2 : Below W.heap.size W w2 := H1.out.trans (t2.below H1.out.size (fun j _ hj => hj.1))
    have hS2 : ∀ j, S2 j → j < w2.heap.size := d2.lt
    have D2 := Lib.hid d2; clear d2
    have Hb2 := Lib.hid hb2; clear hb2
    clear t2 l2 d1 HWr
    go_wp2_with fail
    refine (HnewR.out _).mono ?_; rintro e w3 ⟨rfl, h3, r3⟩
    have hb3 := Hb2.out.trans (h3.mono Hb2.out.size)
    have d3 := D2.out.new h3
    have hWr := refWrite_all r3 0 ⟨by omega, by omega⟩ T (by omega) (by have h0 : (Dsk.new k).ops = 0 := rfl; omega)
    rw [hwo] at hWr
    have HWr := Lib.hid hWr; clear hWr
    have D3 := Lib.hid d3; clear d3
    have Hb3 := Lib.hid hb3; clear hb3
    have R3 := Lib.hid r3; clear r3
    have hs3 := h3.size
    clear h3 D2
    go_wp2_with fail
    refine HWr.out.mono ?_; rintro e w4 ⟨rfl, t4, S4, l4, r4⟩
    have hb4 : Below W.heap.size W w4 := Hb3.out.trans (t4.below Hb3.out.size (fun j _ hj => by have := Hb2.out.size; omega))
    have d4 := D3.out.keeps t4 (fun j hj hj2 => by have := hS2 j hj; omega)
    generalize hD : (Dsk.write (Dsk.new k) 0 T.data.toList).1 = D at *
    have hO := wlOpen_all d4 0 n ⟨by omega, by omega⟩ hi0
    have hok := d4.ok
    have HO := Lib.hid hO; clear hO
    have R4 := Lib.hid r4; clear r4
    have Hb4 := Lib.hid hb4; clear hb4
    clear HWr t4 l4 D3 R3 d4
    go_wp2_with fail
    refine HO.out.mono ?_; rintro e w5 ⟨h5, hcase5⟩
    have hb5 := Hb4.out.trans (h5.mono Hb4.out.size)
    have hRO := rwOpen_all (R4.out.new h5) (by omega) 0 n ⟨by omega, by omega⟩ hi0
    have HRO := Lib.hid hRO; clear hRO
    have Hb5 := Lib.hid hb5; clear hb5
    have Hcase5 := Lib.hid hcase5
    clear h5 R4 HO Hb4 Hb3 Hb2 H1 hS2 hs3
    generalize hOO : Wal.open_ D 0 n = O at *
    rcases hcase5 with ⟨hn5, hn5e, rfl⟩ | ⟨s5, R5, p5, hs5, hs5e, rfl, hw5, _⟩
    · have hn5e2 : (O.2 == O.2) = true := by simp
      clear Hcase5
      go_wp2_with fail
      refine HRO.out.mono ?_; rintro e w6 ⟨h6, hcase6⟩
      have hb6 := Hb5.out.trans (h6.mono Hb5.out.size)
      have Hb6 := Lib.hid hb6; clear hb6
      clear h6
      rcases hcase6 with ⟨hn6, rfl⟩ | ⟨s6, R6, p6, hs6, _⟩
      · clear hOO hn5 hn5e hn6 hok
        generalize O.2 = E at *
        go_wp2_with fail
        refine (Hal.out _).mono ?_; rintro e w7 ⟨rfl, h7⟩
        go_wp2_with fail
        go_ret
        exact ⟨rfl, Hb6.out.trans (h7.mono Hb6.out.size)⟩
      · rw [hn5] at hs6; cases hs6
    · obtain ⟨O1, O2⟩ := O
      simp only at hs5 hs5e
      subst hs5 hs5e
      have W5 := Lib.hid hw5; clear hw5
      clear Hcase5
      go_wp2_with fail
      refine HRO.out.mono ?_; rintro e w6 ⟨h6, hcase6⟩
      have hb6 := Hb5.out.trans (h6.mono Hb5.out.size)
      have hw6 := W5.out.new h6
      have Hb6 := Lib.hid hb6; clear hb6
      clear h6
      rcases hcase6 with ⟨hn6, _⟩ | ⟨s6, R6, p6, hs6, _, rfl, hx6, _⟩
      · cases hn6
      · obtain rfl : s5 = s6 := by simpa using hs6
        have hsm := wlSame_any hw6 hx6 (Wal.opn_ok hok hOO).1
        have Hsm := Lib.hid hsm; clear hsm
        clear hw6 hx6 W5 hOO hs6
        go_wp2_with fail
        refine Hsm.out.mono ?_; rintro e w7 ⟨rfl, h7⟩
        have hb7 := Hb6.out.trans (h7.mono Hb6.out.size)
        have Hb7 := Lib.hid hb7; clear hb7
        clear h7
        go_wp2_with fail
        refine (Hal.out _).mono ?_; rintro e w8 ⟨rfl, h8⟩
        go_wp2_with fail
        go_ret
        exact ⟨rfl, Hb7.out.trans (h8.mono Hb7.out.size)⟩

theorem contract (H : Type) (enc : TypeId × Value → H) (W : World) (base : Nat) (args : Array Value) (ds gs : List (DataW H)) (before : List MemPlace)
    (hval : ∀ (j : Nat) t v, Tryz.f4.params[j]? = some t → args[j]? = some v → Value.okWide Tryz.prog W .any base t v)
    (hW : DataW.Whole enc Tryz.prog Tryz.f4.params.toList Rows.walReadsSpec.vars false W args.toList ds gs before)
    (hsz : (DataW.weightsEach Tryz.prog (Tryz.f4.params.toList ++ Rows.walReadsSpec.plain.varTypes Tryz.prog) (ds ++ gs)).all (· ≤ reachBytes) = true) :
    Calls Tryz.prog 4 args W fun e W' => ∃ v, e = .returned v ∧ Rows.walReadsSpec.post enc Tryz.prog Tryz.f4 false true false false W args v W' := by
  have hW' := hW
  obtain ⟨p, q, hA0, hV, rfl, hfz, hnd⟩ := hW
  have hA : DataW.TrodAll enc Tryz.prog W 0 (fun _ => true) true Tryz.f4.params.toList args.toList ds p := hA0
  rw [Tryz.params4] at hA hval hsz
  obtain ⟨v0, vs0, d0, ds0, p0, q0, hargs, rfl, rfl, h0, r0⟩ := trodAll_cons hA
  obtain ⟨v1, vs1, d1, ds1, p1, q1, rfl, rfl, rfl, h1, r1⟩ := trodAll_cons r0
  obtain ⟨rfl, rfl, rfl⟩ := trodAll_nil r1
  obtain rfl : args = #[v0, v1] := by cases args; simp_all
  obtain ⟨rfl, rfl⟩ := trodVars_none hV
  obtain ⟨s0, rfl, rfl, rfl, m0⟩ := open_string Tryz.underlying9 (hval 0 9 v0 rfl rfl) h0
  obtain ⟨n1, rfl, rfl, rfl, w1⟩ := open_int Tryz.underlying3 (hval 1 3 v1 rfl rfl) h1
  clear hA0
  have z0 : s0.size ≤ 140737488351232 := by
    have := List.all_eq_true.1 hsz s0.data.toList.length (by simp [DataW.weightsEach, DataW.weights])
    rw [ba_len] at this
    exact of_decide_eq_true this
  refine (walk s0 n1 W z0 w1).mono fun e W' ⟨he, bel⟩ => ?_
  subst he
  exact ⟨_, rfl, _, _, _, [], _, [], hW', trodAll_mk1 (shut_bool Tryz.underlying4 _), (trodAll_cons_mk (shut_string Tryz.underlying9 m0) (trodAll_cons_mk (shut_int Tryz.underlying3 w1) trodAll_mk0)), rfl, bel.frame _, fun h => by cases h⟩

set_option maxRecDepth 100000 in
theorem lifted (os : Os) (started : os.Started) (H : Type) (enc : TypeId × Value → H) :
    ReturnsInHanded {} Tryz.checked os 4 .any (Rows.walReadsSpec.pre6 enc Tryz.prog Tryz.f4 Rows.walReadsRow.domain false) (Rows.walReadsSpec.post enc Tryz.prog Tryz.f4 false true false false) := by
  refine returnsInHanded_of_change_sized (C := Tryz.checked) own started (by kernel_rfl) Tryz.func4
    (ChangeSpec.witness6 (enc := enc) (C := Tryz.checked) false ⟨#[], #[.string .empty, .int .i64 0], []⟩ 8 (by kernel_rfl) (by kernel_rfl) (by kernel_rfl) (by kernel_rfl)) ?_
  intro W base args ds gs before hval hW hcnd hsz _
  exact contract H enc W base args ds gs before hval hW hsz

theorem over : Rows.walReadsRow.holds Tryz.pinned (OpenSpec.ofChange Rows.walReadsSpec) :=
  OpenClaim.holds_of_wide 4 Tryz.f4 rfl rfl rfl rfl rfl rfl rfl ⟨rfl, rfl, rfl, rfl, rfl⟩ rfl rfl rfl rfl rfl (by kernel_rfl) Tryz.func4 (by kernel_rfl)
    (of_decide_eq_true (by kernel_rfl)) (by unfold Func.isWrapper; first | (rw [if_pos (by decide +kernel)]; kernel_rfl) | (rw [if_neg (by decide +kernel)]; exact ⟨rfl, rfl⟩))
    (fun os started H enc _ => lifted os started H enc)

theorem proved : Rows.WalReadsSaid := over

end Go.Proofs.YtjmpagbjkehebaaGreat.lawReads
