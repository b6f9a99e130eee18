/-
  CodeTells: which programs may be, which bytes each has, and which program any bytes are, are those of the document's answer.
  Conditions: none.
-/
import Derived.Test.YtnnfpaheglkmoaaDoorCodLawC
import Derived.Test.YtnnfpaheglkmoaaDoorCards
import Derived.Test.YtnnfpaheglkmoaaDoorTie
import Derived.SevenTiedAt
import Derived.ProofKit
import Derived.OpenShut
import Derived.ShutString
import Derived.ChangeOld
namespace Go.Proofs.YtnnfpaheglkmoaaDoor.codeTells
open Go.ChangeShapes Go.WideShapes Go.ChangeAt Go.RowKit
open Go.ChangeMaps (open_string shut_string)
set_option linter.unusedVariables false
set_option maxRecDepth 100000

set_option maxHeartbeats 8000000 in
theorem walk (x : Pv) (tx : List ByteArray) (cs : List Cod.In) (s : ByteArray) (w : World) (hK : Kn w) (hp : PrAt x tx cs w) (hz : ∀ y ∈ tx, y.size ≤ 140737488351232) (hn : x.n ≤ 8796093022208) (hm : x.m ≤ 70368744177664) (hs : s.size ≤ 140737488351232) :
    Calls Tryd.prog 3 #[x.v, .string s] w fun e w' => e = .returned (.bool true) ∧ Below w.heap.size w w' := by
  obtain ⟨LB, hLB⟩ : ∃ LB, LB = largeB tx cs.length := ⟨_, rfl⟩
  have cL := fun u (h : PrAt x tx cs u) => large_any h (by omega) (by omega) (fun y hy => by have := hz y hy; omega)
  rw [← hLB] at cL
  have hb0 := obj_below w (.cells #[.slice x.a x.n x.c, .slice x.b x.m x.d] 25)
  have hpk := fun u (hb : Below w.heap.size w u) => hp.keep hb
  have hk0 := hK.keep hb0
  have ht0 := Two.new w (.slice x.a x.n x.c) (.slice x.b x.m x.d) 25
  have CL := Lib.hid cL; clear cL
  have Hpk := Lib.hid hpk; clear hpk
  have Hk0 := Lib.hid hk0; clear hk0
  have Hb0 := Lib.hid hb0; clear hb0
  have Ht0 := Lib.hid ht0; clear ht0
  by_cases hg : LB = true ∨ 4096 < s.size
  · have hd : LB = false → decide ((4096 : Int) < (s.size : Int)) = true := fun h => decide_eq_true (by rcases hg with g | g; (rw [h] at g; cases g); omega)
    have Hd := Lib.hid hd; clear hd hg hLB hz hn hm hs hK hp
    obtain ⟨xa, xn, xc, xb, xm, xd⟩ := x
    unfold Pv.v at *
    simp only at Hpk Hk0 Hb0 Ht0 CL
    go_enter Tryd.func3, Tryd.ntmps3
    go_wp2_with fail
    refine (CL.out _ (Hpk.out _ Hb0.out)).mono ?_; rintro e w1 ⟨rfl, h1⟩
    have Hk1 := Lib.hid (Hk0.out.keep h1)
    have Hb1 := Lib.hid (Hb0.out.trans (h1.mono Hb0.out.size)); clear h1
    cases LB with
    | true =>
      go_wp2_with fail
      refine (alive_any _ Hk1.out).mono ?_; rintro e w2 ⟨rfl, h2⟩
      have Hb2 := Lib.hid (Hb1.out.trans (h2.mono Hb1.out.size)); clear h2
      go_wp2_with fail
      go_ret
      exact ⟨rfl, Hb2.out⟩
    | false =>
      have hd := Hd.out rfl
      clear Hd
      go_wp2_with fail
      refine (alive_any _ Hk1.out).mono ?_; rintro e w2 ⟨rfl, h2⟩
      have Hb2 := Lib.hid (Hb1.out.trans (h2.mono Hb1.out.size)); clear h2
      go_wp2_with fail
      go_ret
      exact ⟨rfl, Hb2.out⟩
  have hlf : LB = false := by cases LB; rfl; exact (hg (.inl rfl)).elim
  have hs4 : s.size ≤ 4096 := by have : ¬ 4096 < s.size := fun h => hg (.inr h); omega
  subst hlf
  have hd : decide ((4096 : Int) < (s.size : Int)) = false := decide_eq_false (by omega)
  have hlf := largeB_false hLB.symm
  have hx1 : x.n ≤ 40 := by rw [← hp.n]; exact hlf.1
  have hx2 : x.m ≤ 4000 := by rw [← hp.m]; have := hlf.2; omega
  have cC := fun u (h : PrAt x tx cs u) => refCopy12_any h (by omega) (by omega)
  have cK := fun u y (h : PrAt y tx cs u) (e1 : y.n = x.n) (e2 : y.m = x.m) => check_any h (by omega) (by omega)
  have cP := fun u y (h : PrAt y tx cs u) (e1 : y.n = x.n) (e2 : y.m = x.m) => put_any h (by omega) (by omega)
  have cG := fun u => get_any s (by omega) u
  have cH := fun u => refGet12_any s (by omega) u
  have cS := fun u y (hy : PrAt y tx cs u) (h : PrAt x tx cs u) (e1 : y.n = x.n) (e2 : y.m = x.m) => refSame12_any hy h (by omega) (by omega)
  have cM := fun u (h : PrAt x tx cs u) => refMay12_any h (by omega) (by omega)
  have cR := fun (hB : decide (prog tx cs).May = true) u (h : PrAt x tx cs u) => refPut12_any h (of_decide_eq_true hB)
  have hB1 : decide (prog tx cs).May = true → chk tx cs = 0 ∧ putS tx cs = ⟨(Cod.put (prog tx cs)).toArray⟩ := fun h => ⟨chk_yes (of_decide_eq_true h), putS_yes (of_decide_eq_true h)⟩
  have hB2 : decide (prog tx cs).May = false → chk tx cs = 2 ∧ putS tx cs = ⟨#[]⟩ := fun h => ⟨chk_no (of_decide_eq_false h), putS_no (of_decide_eq_false h)⟩
  have hsame : ∀ (y : Pv) (u : World), PrAt y tx cs u → y.n = x.n ∧ y.m = x.m := fun y u h => ⟨by rw [← h.n, hp.n], by rw [← h.m, hp.m]⟩
  have hrefl : decide (tx = tx ∧ cs = cs) = true := decide_eq_true ⟨rfl, rfl⟩
  rw [hrefl] at cS
  generalize decide (prog tx cs).May = MAY at *
  generalize (⟨(Cod.put (prog tx cs)).toArray⟩ : ByteArray) = Z at *
  generalize chk tx cs = K at *
  generalize putS tx cs = A at *
  have CC := Lib.hid cC; clear cC
  have CK := Lib.hid cK; clear cK
  have CP := Lib.hid cP; clear cP
  have CG := Lib.hid cG; clear cG
  have CH := Lib.hid cH; clear cH
  have CS := Lib.hid cS; clear cS
  have CM := Lib.hid cM; clear cM
  have CR := Lib.hid cR; clear cR
  have HB1 := Lib.hid hB1; clear hB1
  have HB2 := Lib.hid hB2; clear hB2
  have Hsame := Lib.hid hsame; clear hsame hrefl
  clear hLB hz hn hm hs hg hlf hx1 hx2 hs4 hK hp
  obtain ⟨xa, xn, xc, xb, xm, xd⟩ := x
  unfold Pv.v at *
  simp only at Hpk Hk0 Hb0 Ht0 CL CC CM CR Hsame CK CP CS
  go_enter Tryd.func3, Tryd.ntmps3
  go_wp2_with fail
  refine (CL.out _ (Hpk.out _ Hb0.out)).mono ?_; rintro e w1 ⟨rfl, h1⟩
  have Hk1 := Lib.hid (Hk0.out.keep h1)
  have ht1 := Ht0.out.keep h1
  have x0 := ht1.c0
  have x1 := ht1.c1
  have Ht1 := Lib.hid ht1; clear ht1
  have Hb1 := Lib.hid (Hb0.out.trans (h1.mono Hb0.out.size)); clear h1 Hk0 Ht0 Hb0
  go_wp2_with fail
  refine (CC.out _ (Hpk.out _ Hb1.out)).mono ?_; rintro e w2 ⟨y, rfl, hy2, h2⟩
  have Hyx := Lib.hid (Hsame.out y _ hy2)
  obtain ⟨ya, yn, yc, yb, ym, yd⟩ := y
  simp only at Hyx
  try unfold Pv.v
  have h3 := h2.trans ((obj_below w2 (.cells #[.slice ya yn yc, .slice yb ym yd] 25)).mono h2.size)
  have Hy3 := Lib.hid (hy2.keep (obj_below w2 (.cells #[.slice ya yn yc, .slice yb ym yd] 25)))
  have Hk3 := Lib.hid (Hk1.out.keep h3)
  have Ht3 := Lib.hid (Ht1.out.keep h3)
  have Ho3 := Lib.hid (Two.new w2 (.slice ya yn yc) (.slice yb ym yd) 25)
  have Hb3 := Lib.hid (Hb1.out.trans (h3.mono Hb1.out.size)); clear h2 h3 hy2 Hk1 Ht1 Hb1 x0 x1
  go_wp2_with fail
  refine (CK.out _ _ Hy3.out Hyx.out.1 Hyx.out.2).mono ?_; rintro e w4 ⟨rfl, h4⟩
  have Hy4 := Lib.hid (Hy3.out.keep h4)
  have Hk4 := Lib.hid (Hk3.out.keep h4)
  have Ht4 := Lib.hid (Ht3.out.keep h4)
  have ho4 := Ho3.out.keep h4
  have o0 := ho4.c0
  have o1 := ho4.c1
  have Ho4 := Lib.hid ho4; clear ho4
  have Hb4 := Lib.hid (Hb3.out.trans (h4.mono Hb3.out.size)); clear h4 Hy3 Hk3 Ht3 Ho3 Hb3
  go_wp2_with fail
  refine (CP.out _ _ Hy4.out Hyx.out.1 Hyx.out.2).mono ?_; rintro e w5 ⟨rfl, h5⟩
  have Hy5 := Lib.hid (Hy4.out.keep h5)
  have Hk5 := Lib.hid (Hk4.out.keep h5)
  have Ht5 := Lib.hid (Ht4.out.keep h5)
  have Ho5 := Lib.hid (Ho4.out.keep h5)
  have Hb5 := Lib.hid (Hb4.out.trans (h5.mono Hb4.out.size)); clear h5 Hy4 Hk4 Ht4 Ho4 Hb4 o0 o1
  go_wp2_with fail
  refine (CG.out _).mono ?_; rintro e w6 ⟨hr, h6⟩
  obtain ⟨g, us, ds, n, rfl, hg6⟩ := getR_got hr
  clear hr
  obtain ⟨ga, gn, gc, gb, gm, gd⟩ := g
  try unfold Pv.v
  have hbg := obj_below w6 (.cells #[.slice ga gn gc, .slice gb gm gd] 25)
  have h7 := h6.trans (hbg.mono h6.size)
  have Hg7 := Lib.hid (hg6.keep hbg)
  have Hy7 := Lib.hid (Hy5.out.keep h7)
  have Hk7 := Lib.hid (Hk5.out.keep h7)
  have Ht7 := Lib.hid (Ht5.out.keep h7)
  have Ho7 := Lib.hid (Ho5.out.keep h7)
  have Ha7 := Lib.hid (Two.new w6 (.slice ga gn gc) (.slice gb gm gd) 25)
  have Hb7 := Lib.hid (Hb5.out.trans (h7.mono Hb5.out.size)); clear hbg h6 h7 hg6 Hy5 Hk5 Ht5 Ho5 Hb5
  go_wp2_with fail
  refine (CH.out _).mono ?_; rintro e w8 ⟨hr, h8⟩
  obtain ⟨q, vs, es, m, rfl, hq8⟩ := getR_got hr
  clear hr
  obtain ⟨hus, rfl⟩ := Hg7.out.same hq8
  obtain ⟨qa, qn, qc, qb, qm, qd⟩ := q
  try unfold Pv.v
  have hbq := obj_below w8 (.cells #[.slice qa qn qc, .slice qb qm qd] 25)
  have h9 := h8.trans (hbq.mono h8.size)
  have Hq9 := Lib.hid (hq8.keep hbq)
  have Hg9 := Lib.hid (Hg7.out.keep h9)
  have Hy9 := Lib.hid (Hy7.out.keep h9)
  have Hk9 := Lib.hid (Hk7.out.keep h9)
  have ht9 := Ht7.out.keep h9
  have ho9 := Ho7.out.keep h9
  have x0 := ht9.c0
  have x1 := ht9.c1
  have o0 := ho9.c0
  have o1 := ho9.c1
  have Ht9 := Lib.hid ht9; clear ht9 ho9
  have Ha9 := Lib.hid (Ha7.out.keep h9)
  have Hc9 := Lib.hid (Two.new w8 (.slice qa qn qc) (.slice qb qm qd) 25)
  have Hb9 := Lib.hid (Hb7.out.trans (h9.mono Hb7.out.size)); clear hbq h8 h9 hq8 Hg7 Hy7 Hk7 Ht7 Ho7 Ha7 Hb7
  have Hus := Lib.hid hus; clear hus
  go_wp2_with fail
  refine (CS.out _ _ Hy9.out (Hpk.out _ Hb9.out) Hyx.out.1 Hyx.out.2).mono ?_; rintro e w10 ⟨rfl, h10⟩
  have Hq10 := Lib.hid (Hq9.out.keep h10)
  have Hg10 := Lib.hid (Hg9.out.keep h10)
  have Hk10 := Lib.hid (Hk9.out.keep h10)
  have Ht10 := Lib.hid (Ht9.out.keep h10)
  have ha10 := Ha9.out.keep h10
  have hc10 := Hc9.out.keep h10
  have Hb10 := Lib.hid (Hb9.out.trans (h10.mono Hb9.out.size)); clear h10 Hq9 Hg9 Hy9 Hk9 Ht9 Ha9 Hc9 Hb9 x0 x1 o0 o1
  have a0 := ha10.c0
  have a1 := ha10.c1
  have q0 := hc10.c0
  have q1 := hc10.c1
  clear ha10 hc10
  go_wp2_with fail
  have hsm : decide (us = vs ∧ ds = es) = true := decide_eq_true Hus.out
  have cS2 := refSame12_any Hg10.out.p Hq10.out.p (by have := Hg10.out.n16; omega) (by have := Hg10.out.m256; omega)
  rw [hsm] at cS2
  refine cS2.mono ?_; rintro e w11 ⟨rfl, h11⟩
  have Hk11 := Lib.hid (Hk10.out.keep h11)
  have ht11 := Ht10.out.keep h11
  have x0 := ht11.c0
  have x1 := ht11.c1
  have Ht11 := Lib.hid ht11; clear ht11
  have Hb11 := Lib.hid (Hb10.out.trans (h11.mono Hb10.out.size)); clear h11 Hq10 Hg10 Hk10 Ht10 Hb10 a0 a1 q0 q1 hsm cS2
  go_wp2_with fail
  refine (CM.out _ (Hpk.out _ Hb11.out)).mono ?_; rintro e w12 ⟨rfl, h12⟩
  have Hk12 := Lib.hid (Hk11.out.keep h12)
  have ht12 := Ht11.out.keep h12
  have Hb12 := Lib.hid (Hb11.out.trans (h12.mono Hb11.out.size)); clear h12 Hk11 Ht11 Hb11 x0 x1
  have x0 := ht12.c0
  have x1 := ht12.c1
  clear ht12
  cases MAY with
  | false =>
    obtain ⟨rfl, rfl⟩ := HB2.out rfl
    clear HB1 HB2
    go_wp2_with fail
    refine (alive_any _ Hk12.out).mono ?_; rintro e w13 ⟨rfl, h13⟩
    have Hb13 := Lib.hid (Hb12.out.trans (h13.mono Hb12.out.size)); clear h13
    go_wp2_with fail
    go_ret
    exact ⟨rfl, Hb13.out⟩
  | true =>
    obtain ⟨rfl, rfl⟩ := HB1.out rfl
    clear HB1 HB2
    go_wp2_with fail
    refine (CR.out trivial _ (Hpk.out _ Hb12.out)).mono ?_; rintro e w13 ⟨rfl, h13⟩
    have Hk13 := Lib.hid (Hk12.out.keep h13)
    have Hb13 := Lib.hid (Hb12.out.trans (h13.mono Hb12.out.size)); clear h13
    go_wp2_with fail
    refine (alive_any _ Hk13.out).mono ?_; rintro e w14 ⟨rfl, h14⟩
    have Hb14 := Lib.hid (Hb13.out.trans (h14.mono Hb13.out.size)); clear h14
    go_wp2_with fail
    go_ret
    exact ⟨rfl, Hb14.out⟩

set_option maxRecDepth 100000 in
theorem lifted (os : Os) (started : os.Started) (H : Type) (enc : TypeId × Value → H) :
    ReturnsInHanded {} Tryd.checked os 3 .any (fun w args => (Rows.codeTellsSpec.pre enc Tryd.prog Tryd.f3 [] false w args ∧ laidMetH Tryd.prog laidList w) ∧ sizedMet enc Tryd.prog Tryd.f3 (OpenSpec.ofChange Rows.codeTellsSpec) false w args)
      (Rows.codeTellsSpec.post enc Tryd.prog Tryd.f3 false true false false) := by
  refine returnsInHanded_of_change_and (C := Tryd.checked) (X := fun w _ => laidMetH Tryd.prog laidList w) (fun _ _ _ hh h => h.of_heap hh) own started (by kernel_rfl) Tryd.func3
    (ChangeSpec.witness_shaped (enc := enc) (C := Tryd.checked) (os := os) (X := fun w _ => laidMetH Tryd.prog laidList w) false (World.doorLaid Tryd.prog 400 os) #[.agg #[.slice none 0 0, .slice none 0 0], .string .empty] 8 rfl (World.shaped_of_RefB (by kernel_rfl) (by kernel_rfl)) (by kernel_rfl) (by kernel_rfl) (by kernel_rfl) (door_met os _)) ?_
  intro W base args ds gs before hval0 hW _ hsz hL _
  have hval : ∀ (j : Nat) t v, Tryd.f3.params[j]? = some t → args[j]? = some v → Value.okWide Tryd.prog W .any base t v := hval0
  have hW' := hW
  obtain ⟨p, q, hA0, hV, rfl, hfz, hnd⟩ := hW
  have hA : DataW.TrodAll enc Tryd.prog W 0 (fun _ => true) true Tryd.f3.params.toList args.toList ds p := hA0
  rw [Tryd.params3] at hA hval hsz
  obtain ⟨v0, vs0, d0, ds0, p0, q0, hargs, rfl, rfl, h0, r0⟩ := trodAll_cons hA
  obtain ⟨v1, vs1, d1, ds1, p1, q1, rfl, rfl, rfl, h1, r1⟩ := trodAll_cons r0
  obtain ⟨rfl, rfl, rfl⟩ := trodAll_nil r1
  obtain rfl : args = #[v0, v1] := Array.ext' hargs
  obtain ⟨rfl, rfl⟩ := trodVars_none hV
  have k0 := h0
  have lt0 : ∀ x ∈ p0, x.block < W.heap.size := by obtain ⟨m, hm⟩ := k0; exact DataW.trod_lt m _ _ _ hm
  obtain ⟨x0, tx0, cs0, rfl, hp0, hz0, hn0, hm0⟩ := open_prog Tryd.underlying25 rfl rfl Tryd.underlying22 Tryd.underlying9 (by kernel_rfl) (by kernel_rfl) Tryd.underlying23 Tryd.underlying39 rfl rfl Tryd.underlying5 (by kernel_rfl) (by kernel_rfl) (by kernel_rfl) (by kernel_rfl) (by kernel_rfl) (hval 0 25 v0 rfl rfl) h0 (fun n hn => by
    have := List.all_eq_true.1 hsz n (by
      simp only [List.cons_append, DataW.weightsEach]
      exact List.mem_append_left _ hn)
    simpa using this)
  obtain ⟨s1, rfl, rfl, rfl, m1⟩ := open_string Tryd.underlying9 (hval 1 9 v1 rfl rfl) h1
  clear hA0 hval0
  have z1 : s1.size ≤ 140737488351232 := by
    have := List.all_eq_true.1 hsz s1.data.toList.length (by simp [DataW.weightsEach, DataW.weights])
    rw [ba_len] at this
    exact of_decide_eq_true this
  refine (walk x0 tx0 cs0 s1 W (kn_of_laid hL) hp0 hz0 hn0 hm0 z1).mono fun e W' ⟨he, bel⟩ => ?_
  subst he
  exact ⟨_, rfl, _, _, _, [], _, [], hW', trodAll_mk1 (shut_bool Tryd.underlying4 _), (trodAll_cons_mk (Below.trod laidOut (by kernel_rfl) (of_decide_eq_true (by kernel_rfl)) k0 bel lt0) (trodAll_cons_mk (shut_string Tryd.underlying9 m1) trodAll_mk0)), rfl, bel.frame _, fun h => by cases h⟩

theorem over : Rows.CodeTellsSaid :=
  OpenClaim.holds_of_wide 3 Tryd.f3 rfl rfl rfl rfl rfl rfl rfl ⟨rfl, rfl, rfl, rfl, rfl⟩ rfl rfl rfl rfl rfl (by kernel_rfl) Tryd.func3 (by kernel_rfl)
    (of_decide_eq_true (by kernel_rfl)) (by unfold Func.isWrapper; first | (rw [if_pos (by decide +kernel)]; kernel_rfl) | (rw [if_neg (by decide +kernel)]; exact ⟨rfl, rfl⟩))
    (fun os started H enc _ => lifted os started H enc)

theorem proved : Rows.CodeTellsCardSaid :=
  Claim7.holds_tied_plain_at .later [] [.data, .data, .data, .sentinel, .sentinel, .data] true (true, "2de14e119a99bd7d62ecb69984659d0c0f63684b708a2311cf1fd744a6a11253") true
    over (fun _ h => by cases h) (by kernel_rfl) (fun _ h => by cases h) codeTells_row_tie rfl ⟨rfl, rfl⟩ (by kernel_rfl) rfl
    (fun f fn hf hfn => by
      obtain rfl : f = 3 := Option.some.inj ((show Tryd.prog.funcNamed "maslin/maslinlaw12.CodeTells" = some 3 by kernel_rfl).symm.trans hf) |>.symm
      obtain rfl : fn = Tryd.f3 := (Option.some.inj (Tryd.func3.symm.trans hfn)).symm
      exact ⟨by kernel_rfl, fun j t ht => by
        rw [Tryd.params3] at ht
        have hm : t ∈ [25, 9] := by simpa using Array.mem_of_getElem? ht
        have hall : ([25, 9].all fun u => !Tryd.prog.wantsStandIn u) = true := by kernel_rfl
        exact (show Tryd.prog.wantsStandIn t = false by simpa using List.all_eq_true.1 hall t hm)⟩)
    (by kernel_rfl)
end Go.Proofs.YtnnfpaheglkmoaaDoor.codeTells
