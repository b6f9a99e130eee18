/-
  CodeCuts: what a program's bytes begin with is no program's, nor what goes on behind them.
  Conditions: none.
-/
import Derived.Test.YtnnfpaheglkmoaaDoorCodLawC
import Derived.Test.YtnnfpaheglkmoaaDoorCards
import Derived.Test.YtnnfpaheglkmoaaDoorTie
import Derived.SevenTiedAt
import Derived.ProofKit
import Derived.OpenShut
import Derived.ShutString
import Derived.ChangeOld
namespace Go.Proofs.YtnnfpaheglkmoaaDoor.codeCuts
open Go.ChangeShapes Go.WideShapes Go.ChangeAt Go.RowKit
open Go.ChangeMaps (open_string shut_string)
set_option linter.unusedVariables false
set_option maxRecDepth 100000

set_option maxHeartbeats 8000000 in
theorem walk (x : Pv) (tx : List ByteArray) (cs : List Cod.In) (n : Int) (s : ByteArray) (w : World) (hK : Kn w) (hp : PrAt x tx cs w) (hz : ∀ y ∈ tx, y.size ≤ 140737488351232) (hn : x.n ≤ 8796093022208) (hm : x.m ≤ 70368744177664) (hnw : (Lit.int .u16 n).wf = true) (hs : s.size ≤ 140737488351232) :
    Calls Tryd.prog 6 #[x.v, .int .u16 n, .string s] w fun e w' => e = .returned (.bool true) ∧ Below w.heap.size w w' := by
  obtain ⟨N, rfl, hN⟩ : ∃ N : Nat, n = (N : Int) ∧ N < 65536 := by
    simp [Lit.wf] at hnw
    have h1 : (0 : Int) ≤ n := hnw.1
    have h2 : n ≤ 65535 := hnw.2
    exact ⟨n.toNat, by omega, by omega⟩
  obtain ⟨LB, hLB⟩ : ∃ LB, LB = largeB tx cs.length := ⟨_, rfl⟩
  have cL := fun u (h : PrAt x tx cs u) => large_any h (by omega) (by omega) (fun y hy => by have := hz y hy; omega)
  rw [← hLB] at cL
  have hb0 := obj_below w (.cells #[.slice x.a x.n x.c, .slice x.b x.m x.d] 25)
  have hpk := fun u (hb : Below w.heap.size w u) => hp.keep hb
  have hk0 := hK.keep hb0
  have ht0 := Two.new w (.slice x.a x.n x.c) (.slice x.b x.m x.d) 25
  have CL := Lib.hid cL; clear cL
  have Hpk := Lib.hid hpk; clear hpk
  have Hk0 := Lib.hid hk0; clear hk0
  have Hb0 := Lib.hid hb0; clear hb0
  have Ht0 := Lib.hid ht0; clear ht0
  by_cases hg : LB = true ∨ 1024 < s.size
  · have hd : LB = false → decide ((1024 : Int) < (s.size : Int)) = true := fun h => decide_eq_true (by rcases hg with g | g; (rw [h] at g; cases g); omega)
    have Hd := Lib.hid hd; clear hd hg hLB hz hn hm hs hK hp hN hnw
    obtain ⟨xa, xn, xc, xb, xm, xd⟩ := x
    unfold Pv.v at *
    simp only at Hpk Hk0 Hb0 Ht0 CL
    go_enter Tryd.func6, Tryd.ntmps6
    go_wp2_with fail
    refine (CL.out _ (Hpk.out _ Hb0.out)).mono ?_; rintro e w1 ⟨rfl, h1⟩
    have Hk1 := Lib.hid (Hk0.out.keep h1)
    have Hb1 := Lib.hid (Hb0.out.trans (h1.mono Hb0.out.size)); clear h1
    cases LB with
    | true =>
      go_wp2_with fail
      refine (alive_any _ Hk1.out).mono ?_; rintro e w2 ⟨rfl, h2⟩
      have Hb2 := Lib.hid (Hb1.out.trans (h2.mono Hb1.out.size)); clear h2
      go_wp2_with fail
      go_ret
      exact ⟨rfl, Hb2.out⟩
    | false =>
      have hd := Hd.out rfl
      clear Hd
      go_wp2_with fail
      refine (alive_any _ Hk1.out).mono ?_; rintro e w2 ⟨rfl, h2⟩
      have Hb2 := Lib.hid (Hb1.out.trans (h2.mono Hb1.out.size)); clear h2
      go_wp2_with fail
      go_ret
      exact ⟨rfl, Hb2.out⟩
  have hlf : LB = false := by cases LB; rfl; exact (hg (.inl rfl)).elim
  have hs4 : s.size ≤ 1024 := by have : ¬ 1024 < s.size := fun h => hg (.inr h); omega
  subst hlf
  have hd : decide ((1024 : Int) < (s.size : Int)) = false := decide_eq_false (by omega)
  have hlf := largeB_false hLB.symm
  have hx1 : x.n ≤ 40 := by rw [← hp.n]; exact hlf.1
  have hx2 : x.m ≤ 4000 := by rw [← hp.m]; have := hlf.2; omega
  have cP := fun u (h : PrAt x tx cs u) => put_any h (by omega) (by omega)
  by_cases hM : (prog tx cs).May
  · rw [chk_yes hM, putS_yes hM] at cP
    obtain ⟨Z, hZ⟩ : ∃ Z, Z = (⟨(Cod.put (prog tx cs)).toArray⟩ : ByteArray) := ⟨_, rfl⟩
    have hZl : Z.data.toList = Cod.put (prog tx cs) := by rw [hZ]
    have hZs : Z.size = (Cod.put (prog tx cs)).length := by rw [← hZl, ba_len]
    have hZ1 := put_size hM
    have hZ2 := Cod.put_length (prog tx cs)
    rw [← hZs] at hZ1 hZ2
    rw [← hZ] at cP
    have hne : Z ≠ ⟨#[]⟩ := fun e => by rw [e] at hZ2; exact absurd hZ2 (by decide)
    have hne1 : decide (Z = ⟨#[]⟩) = false := decide_eq_false hne
    have hne2 : (Z.toList == (⟨#[]⟩ : ByteArray).toList) = false := beq_eq_false_iff_ne.2 (fun c => hne (ba_toList_inj c))
    have hne3 : (Z.toList == []) = false := by rw [show ((⟨#[]⟩ : ByteArray).toList) = [] from by rw [Lib.toList_data]] at hne2; exact hne2
    have hne4 : Z.toList.isEmpty = false := by cases h : Z.toList; (rw [h] at hne3; cases hne3); rfl
    obtain ⟨k, hk⟩ : ∃ k, k = N % Z.size := ⟨_, rfl⟩
    have hkl : k < Z.size := by rw [hk]; exact Nat.mod_lt _ (by omega)
    have hcv : IntKind.i64.wrap (N : Int) = (N : Int) := by simp only [IntKind.wrap_i64]; omega
    have hrem : (N : Int).tmod (Z.size : Int) = (k : Int) := by rw [hk]; exact Int.ofNat_tmod N Z.size
    have hgc : Cod.get (Z.extract 0 k).data.toList = none := by
      have e : (Z.extract 0 k).data.toList = (Cod.put (prog tx cs)).take k := by
        rw [← hZl]; simp [ByteArray.data_extract]
      rw [e]
      exact Cod.get_cut hM (by omega)
    have cG1 : ∀ u, Calls Tryd.prog 12 #[.string (Z.extract 0 k)] u fun e w' => ∃ y : Pv, e = .returned (.tuple #[y.v, .int .i64 7]) ∧ PrAt y [] [] w' ∧ Below u.heap.size u w' := fun u =>
      (get_any (Z.extract 0 k) (by rw [ByteArray.size_extract]; omega) u).mono fun e w' hh => by
        obtain ⟨y, us, ds, n, he, hg⟩ := getR_got hh.1
        obtain ⟨rfl, rfl, rfl⟩ := hg.none hgc
        exact ⟨y, he, hg.p, hh.2⟩
    have hgm : s ≠ ⟨#[]⟩ → Cod.get (Z ++ s).data.toList = none := fun h => by
      have e : (Z ++ s).data.toList = Cod.put (prog tx cs) ++ s.data.toList := by
        rw [← hZl]; simp [ByteArray.data_append]
      rw [e]
      exact Cod.get_more hM (fun c => h (by rw [← ba_eta s, c]))
    have cG2 : s ≠ ⟨#[]⟩ → ∀ u, Calls Tryd.prog 12 #[.string (Z ++ s)] u fun e w' => ∃ y : Pv, e = .returned (.tuple #[y.v, .int .i64 7]) ∧ PrAt y [] [] w' ∧ Below u.heap.size u w' := fun h u =>
      (get_any (Z ++ s) (by rw [ByteArray.size_append]; omega) u).mono fun e w' hh => by
        obtain ⟨y, us, ds, n, he, hg⟩ := getR_got hh.1
        obtain ⟨rfl, rfl, rfl⟩ := hg.none (hgm h)
        exact ⟨y, he, hg.p, hh.2⟩
    have cG3 : s = ⟨#[]⟩ → ∀ u, Calls Tryd.prog 12 #[.string (Z ++ s)] u fun e w' => ∃ y : Pv, e = .returned (.tuple #[y.v, .int .i64 0]) ∧ Below u.heap.size u w' := fun h u =>
      (get_any (Z ++ s) (by rw [ByteArray.size_append]; omega) u).mono fun e w' hh => by
        obtain ⟨y, us, ds, n, he, hg⟩ := getR_got hh.1
        have e : (Z ++ s).data.toList = Cod.put (prog tx cs) := by rw [h, ← hZl]; simp [ByteArray.data_append]
        rw [e] at hg
        obtain ⟨_, rfl⟩ := hg.some (Cod.get_put hM)
        exact ⟨y, he, hh.2⟩
    have cS : ∀ u (y : Pv), PrAt y [] [] u → Calls Tryd.prog 14 #[y.v, .agg #[.slice none 0 0, .slice none 0 0]] u fun e w' => e = .returned (.bool true) ∧ Below u.heap.size u w' := fun u y h => by
      have := refSame12_any h (PrAt.nil u) (by rw [← h.n]; decide) (by rw [← h.m]; decide)
      exact this
    have hsl := fun u => text_head Z k (Nat.le_of_lt hkl) u
    have hZpos : ¬ ((Z.size : Int) = 0) := by omega
    have CP := Lib.hid cP; clear cP
    have CS := Lib.hid cS; clear cS
    have CG1 := Lib.hid cG1; clear cG1
    have CG2 := Lib.hid cG2; clear cG2
    have CG3 := Lib.hid cG3; clear cG3
    clear hgm hgc hk hM hZ hZl hZs hLB hlf hx1 hx2 hz hn hm hs hg hK hp hnw hN hne
    obtain ⟨xa, xn, xc, xb, xm, xd⟩ := x
    unfold Pv.v at *
    simp only at Hpk Hk0 Hb0 Ht0 CL CP
    go_enter Tryd.func6, Tryd.ntmps6
    go_wp2_with fail
    refine (CL.out _ (Hpk.out _ Hb0.out)).mono ?_; rintro e w1 ⟨rfl, h1⟩
    have Hk1 := Lib.hid (Hk0.out.keep h1)
    have ht1 := Ht0.out.keep h1
    have x0 := ht1.c0
    have x1 := ht1.c1
    have Hb1 := Lib.hid (Hb0.out.trans (h1.mono Hb0.out.size)); clear h1 Hk0 Ht0 Hb0 ht1
    go_wp2_with fail
    refine (CP.out _ (Hpk.out _ Hb1.out)).mono ?_; rintro e w2 ⟨rfl, h2⟩
    have Hk2 := Lib.hid (Hk1.out.keep h2)
    have Hb2 := Lib.hid (Hb1.out.trans (h2.mono Hb1.out.size)); clear h2 Hk1 Hb1 x0 x1
    go_wp2_with fail
    refine (CG1.out _).mono ?_; rintro e w3 ⟨y, rfl, hy3, h3⟩
    obtain ⟨ya, yn, yc, yb, ym, yd⟩ := y
    try unfold Pv.v
    have hby := obj_below w3 (.cells #[.slice ya yn yc, .slice yb ym yd] 25)
    have h4 := h3.trans (hby.mono h3.size)
    have Hy4 := Lib.hid (hy3.keep hby)
    have Hk4 := Lib.hid (Hk2.out.keep h4)
    have Ha4 := Lib.hid (Two.new w3 (.slice ya yn yc) (.slice yb ym yd) 25)
    have Hb4 := Lib.hid (Hb2.out.trans (h4.mono Hb2.out.size)); clear hby h3 h4 hy3 Hk2 Hb2
    by_cases hse : s = ⟨#[]⟩
    · have CG := Lib.hid (CG3.out hse)
      have e1 : decide (s = ⟨#[]⟩) = true := decide_eq_true hse
      have e3 : (s.toList == []) = true := by rw [hse, Lib.toList_data]; rfl
      have e4 : s.toList.isEmpty = true := by rw [hse, Lib.toList_data]; rfl
      clear CG1 CG2 CG3 CL CP hse
      go_wp2_with fail
      refine (CG.out _).mono ?_; rintro e w5 ⟨z, rfl, h5⟩
      obtain ⟨za, zn, zc, zb, zm, zd⟩ := z
      try unfold Pv.v
      have h6 := h5.trans ((obj_below w5 (.cells #[.slice za zn zc, .slice zb zm zd] 25)).mono h5.size)
      have Hy6 := Lib.hid (Hy4.out.keep h6)
      have Hk6 := Lib.hid (Hk4.out.keep h6)
      have ha6 := Ha4.out.keep h6
      have a0 := ha6.c0
      have a1 := ha6.c1
      have Hb6 := Lib.hid (Hb4.out.trans (h6.mono Hb4.out.size)); clear h5 h6 Hy4 Hk4 Ha4 Hb4 ha6
      go_wp2_with fail
      refine (CS.out _ _ Hy6.out).mono ?_; rintro e w7 ⟨rfl, h7⟩
      have Hk7 := Lib.hid (Hk6.out.keep h7)
      have Hb7 := Lib.hid (Hb6.out.trans (h7.mono Hb6.out.size)); clear h7 Hy6 Hk6 Hb6 a0 a1
      go_wp2_with fail
      refine (alive_any _ Hk7.out).mono ?_; rintro e w8 ⟨rfl, h8⟩
      have Hb8 := Lib.hid (Hb7.out.trans (h8.mono Hb7.out.size)); clear h8
      go_wp2_with fail
      go_ret
      exact ⟨rfl, Hb8.out⟩
    · have CG := Lib.hid (CG2.out hse)
      have e1 : decide (s = ⟨#[]⟩) = false := decide_eq_false hse
      have e2 : (s.toList == (⟨#[]⟩ : ByteArray).toList) = false := beq_eq_false_iff_ne.2 (fun c => hse (ba_toList_inj c))
      have e3 : (s.toList == []) = false := by rw [show ((⟨#[]⟩ : ByteArray).toList) = [] from by rw [Lib.toList_data]] at e2; exact e2
      have e4 : s.toList.isEmpty = false := by cases h : s.toList; (rw [h] at e3; cases e3); rfl
      clear CG1 CG2 CG3 CL CP hse
      go_wp2_with fail
      refine (CG.out _).mono ?_; rintro e w5 ⟨z, rfl, hz5, h5⟩
      obtain ⟨za, zn, zc, zb, zm, zd⟩ := z
      try unfold Pv.v
      have hbz := obj_below w5 (.cells #[.slice za zn zc, .slice zb zm zd] 25)
      have h6 := h5.trans (hbz.mono h5.size)
      have Hz6 := Lib.hid (hz5.keep hbz)
      have Hc6 := Lib.hid (Two.new w5 (.slice za zn zc) (.slice zb zm zd) 25)
      have Hy6 := Lib.hid (Hy4.out.keep h6)
      have Hk6 := Lib.hid (Hk4.out.keep h6)
      have ha6 := Ha4.out.keep h6
      have a0 := ha6.c0
      have a1 := ha6.c1
      have Hb6 := Lib.hid (Hb4.out.trans (h6.mono Hb4.out.size)); clear h5 h6 Hy4 Hk4 Ha4 Hb4 ha6 hbz hz5
      go_wp2_with fail
      refine (CS.out _ _ Hy6.out).mono ?_; rintro e w7 ⟨rfl, h7⟩
      have Hk7 := Lib.hid (Hk6.out.keep h7)
      have Hz7 := Lib.hid (Hz6.out.keep h7)
      have hc7 := Hc6.out.keep h7
      have Hb7 := Lib.hid (Hb6.out.trans (h7.mono Hb6.out.size)); clear h7 Hy6 Hk6 Hb6 a0 a1 Hz6 Hc6
      have a0 := hc7.c0
      have a1 := hc7.c1
      clear hc7
      go_wp2_with fail
      refine (CS.out _ _ Hz7.out).mono ?_; rintro e w8 ⟨rfl, h8⟩
      have Hk8 := Lib.hid (Hk7.out.keep h8)
      have Hb8 := Lib.hid (Hb7.out.trans (h8.mono Hb7.out.size)); clear h8 Hk7 Hb7 a0 a1
      go_wp2_with fail
      refine (alive_any _ Hk8.out).mono ?_; rintro e w9 ⟨rfl, h9⟩
      have Hb9 := Lib.hid (Hb8.out.trans (h9.mono Hb8.out.size)); clear h9
      go_wp2_with fail
      go_ret
      exact ⟨rfl, Hb9.out⟩
  · rw [chk_no hM, putS_no hM] at cP
    have CP := Lib.hid cP; clear cP
    clear hM hLB hlf hx1 hx2 hz hn hm hs hg hK hp hnw hN
    obtain ⟨xa, xn, xc, xb, xm, xd⟩ := x
    unfold Pv.v at *
    simp only at Hpk Hk0 Hb0 Ht0 CL CP
    go_enter Tryd.func6, Tryd.ntmps6
    go_wp2_with fail
    refine (CL.out _ (Hpk.out _ Hb0.out)).mono ?_; rintro e w1 ⟨rfl, h1⟩
    have Hk1 := Lib.hid (Hk0.out.keep h1)
    have ht1 := Ht0.out.keep h1
    have x0 := ht1.c0
    have x1 := ht1.c1
    have Hb1 := Lib.hid (Hb0.out.trans (h1.mono Hb0.out.size)); clear h1 Hk0 Ht0 Hb0 ht1
    go_wp2_with fail
    refine (CP.out _ (Hpk.out _ Hb1.out)).mono ?_; rintro e w2 ⟨rfl, h2⟩
    have Hk2 := Lib.hid (Hk1.out.keep h2)
    have Hb2 := Lib.hid (Hb1.out.trans (h2.mono Hb1.out.size)); clear h2 Hk1 Hb1 x0 x1
    go_wp2_with fail
    refine (alive_any _ Hk2.out).mono ?_; rintro e w3 ⟨rfl, h3⟩
    have Hb3 := Lib.hid (Hb2.out.trans (h3.mono Hb2.out.size)); clear h3
    go_wp2_with fail
    go_ret
    exact ⟨rfl, Hb3.out⟩

set_option maxRecDepth 100000 in
theorem lifted (os : Os) (started : os.Started) (H : Type) (enc : TypeId × Value → H) :
    ReturnsInHanded {} Tryd.checked os 6 .any (fun w args => (Rows.codeCutsSpec.pre enc Tryd.prog Tryd.f6 [] false w args ∧ laidMetH Tryd.prog laidList w) ∧ sizedMet enc Tryd.prog Tryd.f6 (OpenSpec.ofChange Rows.codeCutsSpec) false w args)
      (Rows.codeCutsSpec.post enc Tryd.prog Tryd.f6 false true false false) := by
  refine returnsInHanded_of_change_and (C := Tryd.checked) (X := fun w _ => laidMetH Tryd.prog laidList w) (fun _ _ _ hh h => h.of_heap hh) own started (by kernel_rfl) Tryd.func6
    (ChangeSpec.witness_shaped (enc := enc) (C := Tryd.checked) (os := os) (X := fun w _ => laidMetH Tryd.prog laidList w) false (World.doorLaid Tryd.prog 400 os) #[.agg #[.slice none 0 0, .slice none 0 0], .int .u16 0, .string .empty] 8 rfl (World.shaped_of_RefB (by kernel_rfl) (by kernel_rfl)) (by kernel_rfl) (by kernel_rfl) (by kernel_rfl) (door_met os _)) ?_
  intro W base args ds gs before hval0 hW _ hsz hL _
  have hval : ∀ (j : Nat) t v, Tryd.f6.params[j]? = some t → args[j]? = some v → Value.okWide Tryd.prog W .any base t v := hval0
  have hW' := hW
  obtain ⟨p, q, hA0, hV, rfl, hfz, hnd⟩ := hW
  have hA : DataW.TrodAll enc Tryd.prog W 0 (fun _ => true) true Tryd.f6.params.toList args.toList ds p := hA0
  rw [Tryd.params6] at hA hval hsz
  obtain ⟨v0, vs0, d0, ds0, p0, q0, hargs, rfl, rfl, h0, r0⟩ := trodAll_cons hA
  obtain ⟨v1, vs1, d1, ds1, p1, q1, rfl, rfl, rfl, h1, r1⟩ := trodAll_cons r0
  obtain ⟨v2, vs2, d2, ds2, p2, q2, rfl, rfl, rfl, h2, r2⟩ := trodAll_cons r1
  obtain ⟨rfl, rfl, rfl⟩ := trodAll_nil r2
  obtain rfl : args = #[v0, v1, v2] := Array.ext' hargs
  obtain ⟨rfl, rfl⟩ := trodVars_none hV
  have k0 := h0
  have lt0 : ∀ x ∈ p0, x.block < W.heap.size := by obtain ⟨m, hm⟩ := k0; exact DataW.trod_lt m _ _ _ hm
  obtain ⟨x0, tx0, cs0, rfl, hp0, hz0, hn0, hm0⟩ := open_prog Tryd.underlying25 rfl rfl Tryd.underlying22 Tryd.underlying9 (by kernel_rfl) (by kernel_rfl) Tryd.underlying23 Tryd.underlying39 rfl rfl Tryd.underlying5 (by kernel_rfl) (by kernel_rfl) (by kernel_rfl) (by kernel_rfl) (by kernel_rfl) (hval 0 25 v0 rfl rfl) h0 (fun n hn => by
    have := List.all_eq_true.1 hsz n (by
      simp only [List.cons_append, DataW.weightsEach]
      exact List.mem_append_left _ hn)
    simpa using this)
  obtain ⟨n1, rfl, rfl, rfl, w1⟩ := open_int Tryd.underlying47 (hval 1 47 v1 rfl rfl) h1
  obtain ⟨s2, rfl, rfl, rfl, m2⟩ := open_string Tryd.underlying9 (hval 2 9 v2 rfl rfl) h2
  clear hA0 hval0
  have z2 : s2.size ≤ 140737488351232 := by
    have := List.all_eq_true.1 hsz s2.data.toList.length (by simp [DataW.weightsEach, DataW.weights])
    rw [ba_len] at this
    exact of_decide_eq_true this
  refine (walk x0 tx0 cs0 n1 s2 W (kn_of_laid hL) hp0 hz0 hn0 hm0 w1 z2).mono fun e W' ⟨he, bel⟩ => ?_
  subst he
  exact ⟨_, rfl, _, _, _, [], _, [], hW', trodAll_mk1 (shut_bool Tryd.underlying4 _), (trodAll_cons_mk (Below.trod laidOut (by kernel_rfl) (of_decide_eq_true (by kernel_rfl)) k0 bel lt0) (trodAll_cons_mk (shut_int Tryd.underlying47 w1) (trodAll_cons_mk (shut_string Tryd.underlying9 m2) trodAll_mk0))), rfl, bel.frame _, fun h => by cases h⟩

theorem over : Rows.CodeCutsSaid :=
  OpenClaim.holds_of_wide 6 Tryd.f6 rfl rfl rfl rfl rfl rfl rfl ⟨rfl, rfl, rfl, rfl, rfl⟩ rfl rfl rfl rfl rfl (by kernel_rfl) Tryd.func6 (by kernel_rfl)
    (of_decide_eq_true (by kernel_rfl)) (by unfold Func.isWrapper; first | (rw [if_pos (by decide +kernel)]; kernel_rfl) | (rw [if_neg (by decide +kernel)]; exact ⟨rfl, rfl⟩))
    (fun os started H enc _ => lifted os started H enc)

theorem proved : Rows.CodeCutsCardSaid :=
  Claim7.holds_tied_plain_at .later [] [.data, .data, .data, .sentinel, .sentinel, .data] true (true, "2de14e119a99bd7d62ecb69984659d0c0f63684b708a2311cf1fd744a6a11253") true
    over (fun _ h => by cases h) (by kernel_rfl) (fun _ h => by cases h) codeCuts_row_tie rfl ⟨rfl, rfl⟩ (by kernel_rfl) rfl
    (fun f fn hf hfn => by
      obtain rfl : f = 6 := Option.some.inj ((show Tryd.prog.funcNamed "maslin/maslinlaw12.CodeCuts" = some 6 by kernel_rfl).symm.trans hf) |>.symm
      obtain rfl : fn = Tryd.f6 := (Option.some.inj (Tryd.func6.symm.trans hfn)).symm
      exact ⟨by kernel_rfl, fun j t ht => by
        rw [Tryd.params6] at ht
        have hm : t ∈ [25, 47, 9] := by simpa using Array.mem_of_getElem? ht
        have hall : ([25, 47, 9].all fun u => !Tryd.prog.wantsStandIn u) = true := by kernel_rfl
        exact (show Tryd.prog.wantsStandIn t = false by simpa using List.all_eq_true.1 hall t hm)⟩)
    (by kernel_rfl)
end Go.Proofs.YtnnfpaheglkmoaaDoor.codeCuts
