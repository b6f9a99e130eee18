/-
  RabinLocal: texts whose last bytes are the same bring rollers to the same fingerprint, from there on as well, and a roller that was given a text at once, or in pieces, is at the same, for every polynomial, every window, any two texts ahead, any text behind, wherever it is parted.
  Conditions: none.
-/
import Derived.Test.YtghabilmpjjedaaRabG
import Derived.Test.YtghabilmpjjedaaRabRef
import Derived.StillTailTactics
import Derived.ProofKit
import Derived.OpenShut
import Derived.ShutString
import Derived.ChangeOld
import Derived.SizedLaws
namespace Go.Proofs.Ytghabilmpjjedaa.rabLocal
open Go.ChangeShapes Go.WideShapes Go.ChangeAt Go.RowKit
open Go.ChangeMaps (open_string shut_string)
set_option linter.unusedVariables false
set_option maxRecDepth 100000

theorem own : ownKnob Try.prog.godebug = none := by kernel_rfl
theorem laidOut : laidOutB Try.prog = true := by kernel_rfl
theorem u64_in {n : Int} (h : (Lit.int .u64 n).wf = true) : ∃ a : Nat, n = (a : Int) ∧ a < 18446744073709551616 := by
  have h2 : 0 ≤ n ∧ n ≤ 18446744073709551615 := by simpa [Lit.wf, IntKind.min, IntKind.max, IntKind.signed, IntKind.bits] using h
  exact ⟨n.toNat, by omega, by omega⟩

theorem u16_in {n : Int} (h : (Lit.int .u16 n).wf = true) : ∃ a : Nat, n = (a : Int) ∧ a < 65536 := by
  have h2 : 0 ≤ n ∧ n ≤ 65535 := by simpa [Lit.wf, IntKind.min, IntKind.max, IntKind.signed, IntKind.bits] using h
  exact ⟨n.toNat, by omega, by omega⟩

set_option maxHeartbeats 4000000 in
theorem walk (n0 : Int) (n1 : Int) (one two s : ByteArray) (n5 : Int) (w : World) (h0 : (Lit.int .u64 n0).wf = true) (h1 : (Lit.int .i64 n1).wf = true) (z1 : one.size ≤ 140737488351232) (z2 : two.size ≤ 140737488351232) (z3 : s.size ≤ 140737488351232) (h5 : (Lit.int .u16 n5).wf = true) :
    Calls Try.prog 5 #[.int .u64 n0, .int .i64 n1, .string one, .string two, .string s, .int .u16 n5] w fun e w' => e = .returned (.bool true) ∧ Below w.heap.size w w' := by
  obtain ⟨p, rfl, hp⟩ := u64_in h0
  obtain ⟨at_, rfl, hat⟩ := u16_in h5
  clear h0 h1 h5
  have hs1 : one.size + two.size < 9223372036854775808 := by omega
  have hs2 : one.size + two.size + s.size < 9223372036854775808 := by omega
  by_cases hl : 2000 < one.size + two.size + s.size
  · have hd : decide ((2000 : Int) < (one.size : Int) + (two.size : Int) + (s.size : Int)) = true := decide_eq_true (by omega)
    clear hp hat
    go_enter Try.func5, Try.ntmps5
    go_wp2_with fail
    refine (rabAlive_any _).mono ?_; rintro e w1 ⟨rfl, hb1⟩
    go_wp2_with fail
    go_ret
    exact ⟨rfl, hb1⟩
  have hd : decide ((2000 : Int) < (one.size : Int) + (two.size : Int) + (s.size : Int)) = false := decide_eq_false (by omega)
  by_cases hm : rabMay p n1
  case neg =>
    have nc := fun u => (new_any p n1 hp u).1 hm
    have NC := Lib.hid nc; clear nc
    clear hm hp hat
    go_enter Try.func5, Try.ntmps5
    go_wp2_with fail
    refine (NC.out _).mono ?_; rintro e1 w1 ⟨rfl, b1⟩
    go_wp2_with fail
    refine (NC.out _).mono ?_; rintro e2 w2 ⟨rfl, b2⟩
    go_wp2_with fail
    refine (rabAlive_any _).mono ?_; rintro e3 w3 ⟨rfl, b3⟩
    go_wp2_with fail
    go_ret
    have k2 := b1.trans (b2.mono b1.size)
    exact ⟨rfl, k2.trans (b3.mono k2.size)⟩
  obtain ⟨N, rfl⟩ : ∃ N : Nat, n1 = (N : Int) := ⟨n1.toNat, by have := hm.2; omega⟩
  have nc := fun u => newG_any p (N : Int) hp u hm
  rw [Int.toNat_natCast] at nc
  obtain ⟨k, hk⟩ : ∃ k, k = at_ % (s.size + 1) := ⟨_, rfl⟩
  have hks : k ≤ s.size := by rw [hk]; have := Nat.mod_lt at_ (show 0 < s.size + 1 by omega); omega
  have w1 : IntKind.i64.wrap (at_ : Int) = (at_ : Int) := IntWalk.i64_in _ (by omega)
  have w2 : IntKind.i64.wrap ((s.size : Int) + 1) = (s.size : Int) + 1 := IntWalk.i64_in _ (by omega)
  have t1 : ((at_ : Int)).tmod ((s.size : Int) + 1) = (k : Int) := by
    rw [Int.tmod_eq_emod_of_nonneg (by omega), hk, Int.natCast_emod]; rfl
  obtain ⟨s1, hs1e⟩ : ∃ s1, s1 = s.extract 0 k := ⟨_, rfl⟩
  obtain ⟨s2, hs2e⟩ : ∃ s2, s2 = s.extract k s.size := ⟨_, rfl⟩
  have l1 : s1.data.toList = s.data.toList.take k := by rw [hs1e, Lib.extract_eq]; simp
  have l2 : s2.data.toList = s.data.toList.drop k := by
    rw [hs2e, Lib.extract_eq]
    simp only []
    exact List.take_of_length_le (by rw [List.length_drop, ba_len]; omega)
  have zs1 : s1.size ≤ 140737488351232 := by rw [← ba_len, l1]; simp; omega
  have zs2 : s2.size ≤ 140737488351232 := by rw [← ba_len, l2]; simp; omega
  have l12 : (([] ++ two.data.toList) ++ s1.data.toList) ++ s2.data.toList = ([] ++ two.data.toList) ++ s.data.toList := by
    rw [l1, l2, List.append_assoc, List.take_append_drop]
  obtain ⟨X, hX⟩ : ∃ X, X = Pol.fp p (Pol.last N (([] ++ one.data.toList) ++ s.data.toList)) := ⟨_, rfl⟩
  obtain ⟨Y, hY⟩ : ∃ Y, Y = Pol.fp p (Pol.last N ((([] ++ two.data.toList) ++ s1.data.toList) ++ s2.data.toList)) := ⟨_, rfl⟩
  have hXY : N ≤ s.size → Y = X := fun h => by
    rw [hX, hY, l12, Pol.last_same N _ ([] ++ one.data.toList) s.data.toList (by rw [ba_len]; exact h)]
  have NC := Lib.hid nc; clear nc
  have HXe := Lib.hid hX; clear hX
  have HYe := Lib.hid hY; clear hY
  have HXY := Lib.hid hXY; clear hXY
  have W1 := Lib.hid w1
  have T1 := Lib.hid t1
  have S1 := Lib.hid hs1e.symm; clear hs1e
  have S2 := Lib.hid hs2e.symm; clear hs2e
  clear hm hp hat hk l1 l2 l12
  go_enter Try.func5, Try.ntmps5
  go_wp2_with fail
  refine (NC.out _).mono ?_; rintro e1 wa ⟨a, ha, rfl, ga, b1⟩
  have GA := Lib.hid ga; clear ga
  have B1 := Lib.hid b1; clear b1
  go_wp2_with fail
  refine (NC.out _).mono ?_; rintro e2 wb ⟨b, hb, rfl, gb, b2⟩
  have hal := Lib.hid (GA.out.lt)
  have GA2 := Lib.hid (GA.out.new b2); clear GA
  have GB := Lib.hid gb; clear gb
  have B2 := Lib.hid (B1.out.trans (b2.mono B1.out.size)); clear b2
  have hne := Lib.hid (show b ≠ a from fun e => by have := hal.out; omega)
  have hA := Lib.hid ha; clear ha
  have hB := Lib.hid (show w.heap.size ≤ b from Nat.le_trans B1.out.size hb)
  clear hb hal B1
  go_wp2_with fail
  refine (rollG_any GA2.out one (by omega)).mono ?_; rintro e3 w3 ⟨rfl, ga, t3⟩
  have GA3 := Lib.hid ga; clear ga
  have GB3 := Lib.hid (GB.out.keeps t3 hne.out); clear GB GA2
  have B3 := Lib.hid (B2.out.trans (t3.below B2.out.size (fun j _ e => by rw [e]; exact hA.out))); clear t3 B2
  go_wp2_with fail
  refine (rollG_any GB3.out two (by omega)).mono ?_; rintro e3 w4 ⟨rfl, gb, t4⟩
  have GB4 := Lib.hid gb; clear gb
  have GA4 := Lib.hid (GA3.out.keeps t4 (fun e => hne.out e.symm)); clear GB3 GA3
  have B4 := Lib.hid (B3.out.trans (t4.below B3.out.size (fun j _ e => by rw [e]; exact hB.out))); clear t4 B3
  go_wp2_with fail
  refine (rollG_any GA4.out s (by omega)).mono ?_; rintro e3 w5 ⟨rfl, ga, t5⟩
  rw [← HXe.out]
  have GB5 := Lib.hid (GB4.out.keeps t5 hne.out); clear GB4 GA4 ga
  have B5 := Lib.hid (B4.out.trans (t5.below B4.out.size (fun j _ e => by rw [e]; exact hA.out))); clear t5 B4
  go_wp2_with fail
  rw [S1.out]
  refine (rollG_any GB5.out s1 zs1).mono ?_; rintro e3 w6 ⟨rfl, gb, t6⟩
  have GB6 := Lib.hid gb; clear gb GB5
  have B6 := Lib.hid (B5.out.trans (t6.below B5.out.size (fun j _ e => by rw [e]; exact hB.out))); clear t6 B5
  go_wp2_with fail
  rw [S2.out]
  refine (rollG_any GB6.out s2 zs2).mono ?_; rintro e3 w7 ⟨rfl, gb, t7⟩
  rw [← HYe.out]
  have B5 := Lib.hid (B6.out.trans (t7.below B6.out.size (fun j _ e => by rw [e]; exact hB.out))); clear t7 B6 gb GB6
  clear hne hA hB HYe S1 S2 t1 T1 zs1 zs2
  by_cases hN : N ≤ s.size
  · obtain rfl := HXY.out hN
    clear HXY
    have g1 : decide ((N : Int) ≤ (s.size : Int)) = true := decide_eq_true (by omega)
    go_wp2_with fail
    refine (NC.out _).mono ?_; rintro e6 w6 ⟨c, hc, rfl, gc, b6⟩
    have GC := Lib.hid gc; clear gc
    have B6 := Lib.hid (B5.out.trans (b6.mono B5.out.size)); clear b6
    go_wp2_with fail
    refine (rollG_any GC.out one (by omega)).mono ?_; rintro e7 w7 ⟨rfl, gc7, t7⟩
    have GC7 := Lib.hid gc7; clear gc7
    have hcB := Lib.hid (show w.heap.size ≤ c from Nat.le_trans B5.out.size hc)
    have B7 := Lib.hid (B6.out.trans (t7.below B6.out.size (fun j _ e => by rw [e]; exact hcB.out))); clear t7 hc
    go_wp2_with fail
    refine (rollG_any GC7.out s (by omega)).mono ?_; rintro e8 w8 ⟨rfl, gc8, t8⟩
    rw [← HXe.out]
    have B8 := Lib.hid (B7.out.trans (t8.below B7.out.size (fun j _ e => by rw [e]; exact hcB.out))); clear t8 gc8
    clear GC GC7 NC B5 B6 B7 hcB HXe
    go_wp2_with fail
    refine (rabAlive_any _).mono ?_; rintro e9 w9 ⟨rfl, b9⟩
    go_wp2_with fail
    go_ret
    exact ⟨rfl, B8.out.trans (b9.mono B8.out.size)⟩
  · have g1 : decide ((N : Int) ≤ (s.size : Int)) = false := decide_eq_false (by omega)
    clear HXY
    go_wp2_with fail
    refine (NC.out _).mono ?_; rintro e6 w6 ⟨c, hc, rfl, gc, b6⟩
    have GC := Lib.hid gc; clear gc
    have B6 := Lib.hid (B5.out.trans (b6.mono B5.out.size)); clear b6
    go_wp2_with fail
    refine (rollG_any GC.out one (by omega)).mono ?_; rintro e7 w7 ⟨rfl, gc7, t7⟩
    have GC7 := Lib.hid gc7; clear gc7
    have hcB := Lib.hid (show w.heap.size ≤ c from Nat.le_trans B5.out.size hc)
    have B7 := Lib.hid (B6.out.trans (t7.below B6.out.size (fun j _ e => by rw [e]; exact hcB.out))); clear t7 hc
    go_wp2_with fail
    refine (rollG_any GC7.out s (by omega)).mono ?_; rintro e8 w8 ⟨rfl, gc8, t8⟩
    rw [← HXe.out]
    have B8 := Lib.hid (B7.out.trans (t8.below B7.out.size (fun j _ e => by rw [e]; exact hcB.out))); clear t8 gc8
    clear GC GC7 NC B5 B6 B7 hcB HXe
    go_wp2_with fail
    refine (rabAlive_any _).mono ?_; rintro e9 w9 ⟨rfl, b9⟩
    go_wp2_with fail
    go_ret
    exact ⟨rfl, B8.out.trans (b9.mono B8.out.size)⟩

theorem contract (H : Type) (enc : TypeId × Value → H) (W : World) (base : Nat) (args : Array Value) (ds gs : List (DataW H)) (before : List MemPlace)
    (hval : ∀ (j : Nat) t v, Try.f5.params[j]? = some t → args[j]? = some v → Value.okWide Try.prog W .any base t v)
    (hW : DataW.Whole enc Try.prog Try.f5.params.toList Rows.rabinLocalSpec.vars false W args.toList ds gs before)
    (hsz : (DataW.weightsEach Try.prog (Try.f5.params.toList ++ Rows.rabinLocalSpec.plain.varTypes Try.prog) (ds ++ gs)).all (· ≤ reachBytes) = true) :
    Calls Try.prog 5 args W fun e W' => ∃ v, e = .returned v ∧ Rows.rabinLocalSpec.post enc Try.prog Try.f5 false true false false W args v W' := by
  have hW' := hW
  obtain ⟨p, q, hA0, hV, rfl, hfz, hnd⟩ := hW
  have hA : DataW.TrodAll enc Try.prog W 0 (fun _ => true) true Try.f5.params.toList args.toList ds p := hA0
  rw [Try.params5] at hA hval hsz
  obtain ⟨v0, vs0, d0, ds0, p0, q0, hargs, rfl, rfl, h0, r0⟩ := trodAll_cons hA
  obtain ⟨v1, vs1, d1, ds1, p1, q1, rfl, rfl, rfl, h1, r1⟩ := trodAll_cons r0
  obtain ⟨v2, vs2, d2, ds2, p2, q2, rfl, rfl, rfl, h2, r2⟩ := trodAll_cons r1
  obtain ⟨v3, vs3, d3, ds3, p3, q3, rfl, rfl, rfl, h3, r3⟩ := trodAll_cons r2
  obtain ⟨v4, vs4, d4, ds4, p4, q4, rfl, rfl, rfl, h4, r4⟩ := trodAll_cons r3
  obtain ⟨v5, vs5, d5, ds5, p5, q5, rfl, rfl, rfl, h5, r5⟩ := trodAll_cons r4
  obtain ⟨rfl, rfl, rfl⟩ := trodAll_nil r5
  obtain rfl : args = #[v0, v1, v2, v3, v4, v5] := Array.ext' hargs
  obtain ⟨rfl, rfl⟩ := trodVars_none hV
  obtain ⟨n0, rfl, rfl, rfl, w0⟩ := open_int Try.underlying22 (hval 0 22 v0 rfl rfl) h0
  obtain ⟨n1, rfl, rfl, rfl, w1⟩ := open_int Try.underlying3 (hval 1 3 v1 rfl rfl) h1
  obtain ⟨s2, rfl, rfl, rfl, m2⟩ := open_string Try.underlying9 (hval 2 9 v2 rfl rfl) h2
  obtain ⟨s3, rfl, rfl, rfl, m3⟩ := open_string Try.underlying9 (hval 3 9 v3 rfl rfl) h3
  obtain ⟨s4, rfl, rfl, rfl, m4⟩ := open_string Try.underlying9 (hval 4 9 v4 rfl rfl) h4
  obtain ⟨n5, rfl, rfl, rfl, w5⟩ := open_int Try.underlying44 (hval 5 44 v5 rfl rfl) h5
  clear hA0
  have z2 : s2.size ≤ 140737488351232 := by
    have := List.all_eq_true.1 hsz s2.data.toList.length (by simp [DataW.weightsEach, DataW.weights])
    rw [ba_len] at this
    exact of_decide_eq_true this
  have z3 : s3.size ≤ 140737488351232 := by
    have := List.all_eq_true.1 hsz s3.data.toList.length (by simp [DataW.weightsEach, DataW.weights])
    rw [ba_len] at this
    exact of_decide_eq_true this
  have z4 : s4.size ≤ 140737488351232 := by
    have := List.all_eq_true.1 hsz s4.data.toList.length (by simp [DataW.weightsEach, DataW.weights])
    rw [ba_len] at this
    exact of_decide_eq_true this
  refine (walk n0 n1 s2 s3 s4 n5 W w0 w1 z2 z3 z4 w5).mono fun e W' ⟨he, bel⟩ => ?_
  subst he
  exact ⟨_, rfl, _, _, _, [], _, [], hW', trodAll_mk1 (shut_bool Try.underlying4 _), (trodAll_cons_mk (shut_int Try.underlying22 w0) (trodAll_cons_mk (shut_int Try.underlying3 w1) (trodAll_cons_mk (shut_string Try.underlying9 m2) (trodAll_cons_mk (shut_string Try.underlying9 m3) (trodAll_cons_mk (shut_string Try.underlying9 m4) (trodAll_cons_mk (shut_int Try.underlying44 w5) trodAll_mk0)))))), rfl, bel.frame _, fun h => by cases h⟩

set_option maxRecDepth 100000 in
theorem lifted (os : Os) (started : os.Started) (H : Type) (enc : TypeId × Value → H) :
    ReturnsInHanded {} Try.checked os 5 .any (Rows.rabinLocalSpec.pre6 enc Try.prog Try.f5 Rows.rabinLocalRow.domain false) (Rows.rabinLocalSpec.post enc Try.prog Try.f5 false true false false) := by
  refine returnsInHanded_of_change_sized (C := Try.checked) own started (by kernel_rfl) Try.func5
    (ChangeSpec.witness6 (enc := enc) (C := Try.checked) false ⟨#[], #[.int .u64 0, .int .i64 0, .string .empty, .string .empty, .string .empty, .int .u16 0], []⟩ 8 (by kernel_rfl) (by kernel_rfl) (by kernel_rfl) (by kernel_rfl)) ?_
  intro W base args ds gs before hval hW hcnd hsz _
  exact contract H enc W base args ds gs before hval hW hsz

theorem over : Rows.rabinLocalRow.holds Try.pinned (OpenSpec.ofChange Rows.rabinLocalSpec) :=
  OpenClaim.holds_of_wide 5 Try.f5 rfl rfl rfl rfl rfl rfl rfl ⟨rfl, rfl, rfl, rfl, rfl⟩ rfl rfl rfl rfl rfl (by kernel_rfl) Try.func5 (by kernel_rfl)
    (of_decide_eq_true (by kernel_rfl)) (by unfold Func.isWrapper; first | (rw [if_pos (by decide +kernel)]; kernel_rfl) | (rw [if_neg (by decide +kernel)]; exact ⟨rfl, rfl⟩))
    (fun os started H enc _ => lifted os started H enc)

theorem proved : Rows.RabinLocalSaid := over

end Go.Proofs.Ytghabilmpjjedaa.rabLocal
