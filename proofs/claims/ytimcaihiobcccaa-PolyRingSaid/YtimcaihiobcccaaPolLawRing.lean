/-
  PolyRing: remainders are below what they are by, and the same for what is the same but for a multiple; products by a polynomial are commutative, associative, and go through sums: for all four polynomials.
  Conditions: none.
-/
import Derived.Test.YtimcaihiobcccaaPolAlive
import Derived.StillTailTactics
import Derived.ProofKit
import Derived.OpenShut
import Derived.ChangeOld
import Derived.SizedLaws
namespace Go.Proofs.Ytimcaihiobcccaa.lawRing
open Go.ChangeShapes Go.WideShapes Go.ChangeAt Go.RowKit
set_option linter.unusedVariables false

theorem own : ownKnob Try.prog.godebug = none := by kernel_rfl
theorem laidOut : laidOutB Try.prog = true := by kernel_rfl

theorem u64_in {n : Int} (h : (Lit.int .u64 n).wf = true) : ∃ a : Nat, n = (a : Int) ∧ a < 18446744073709551616 := by
  have h2 : 0 ≤ n ∧ n ≤ 18446744073709551615 := by simpa [Lit.wf, IntKind.min, IntKind.max, IntKind.signed, IntKind.bits] using h
  exact ⟨n.toNat, by omega, by omega⟩

set_option maxRecDepth 100000 in
set_option maxHeartbeats 4000000 in
theorem walk (n0 n1 n2 n3 : Int) (w : World) (h0 : (Lit.int .u64 n0).wf = true) (h1 : (Lit.int .u64 n1).wf = true) (h2 : (Lit.int .u64 n2).wf = true) (h3 : (Lit.int .u64 n3).wf = true) :
    Calls Try.prog 5 #[.int .u64 n0, .int .u64 n1, .int .u64 n2, .int .u64 n3] w fun e w' => e = .returned (.bool true) ∧ Below w.heap.size w w' := by
  obtain ⟨a, rfl, ha⟩ := u64_in h0
  obtain ⟨b, rfl, hb⟩ := u64_in h1
  obtain ⟨c, rfl, hc⟩ := u64_in h2
  obtain ⟨p, rfl, hp⟩ := u64_in h3
  clear h0 h1 h2 h3
  by_cases hm : Pol.may p
  · have hp0 : p ≠ 0 := fun e => by have := hm.1; subst e; rw [Pol.len_zero] at this; omega
    have hrl := fun z => Pol.rem_len z hp0
    have hr64 : ∀ z, Pol.rem z p < 18446744073709551616 := fun z => lt64 (by have := hrl z; have := hm.2; omega)
    have hxor : ∀ y z, y < 18446744073709551616 → z < 18446744073709551616 → y ^^^ z < 18446744073709551616 := fun y z hy hz => Nat.xor_lt_two_pow (n := 64) hy hz
    have m1 := fun u => (mul_any a b p ha hb hp u).2 hm
    have m2 := fun u => (mul_any b a p hb ha hp u).2 hm
    rw [Pol.mul_comm b a] at m2
    have m3 := fun u => (mul_any (Pol.rem (Pol.mul a b) p) c p (hr64 _) hc hp u).2 hm
    rw [Pol.rem_mul_left _ _ hp0] at m3
    have m4 := fun u => (mul_any b c p hb hc hp u).2 hm
    have m5 := fun u => (mul_any a (Pol.rem (Pol.mul b c) p) p ha (hr64 _) hp u).2 hm
    rw [Pol.rem_mul_right _ _ hp0, ← Pol.mul_assoc] at m5
    have m6 := fun u => (mul_any a (b ^^^ c) p ha (hxor b c hb hc) hp u).2 hm
    rw [Pol.mul_xor, Pol.rem_xor _ _ hp0, ← u64_xor_nat b c hb hc, ← u64_xor_nat _ _ (hr64 _) (hr64 _)] at m6
    have m7 := fun u => (mul_any a c p ha hc hp u).2 hm
    have m8 := fun u => (mul_any a 1 p ha (by decide) hp u).2 hm
    rw [Pol.mul_one] at m8
    have q1 := fun u => (mod_any a p ha hp u).2 hp0
    have q2 := fun u => (mod_any ((a ^^^ Pol.rem (Pol.mul a b) p) ^^^ Pol.rem a p) p (hxor _ _ (hxor _ _ ha (hr64 _)) (hr64 _)) hp u).2 hp0
    rw [Pol.rem_xor _ _ hp0, Pol.rem_xor _ _ hp0, Pol.rem_rem _ hp0, Pol.rem_rem _ hp0, Nat.xor_comm (Pol.rem a p) (Pol.rem (Pol.mul a b) p), Pol.xor_back, ← u64_xor_nat _ _ (hxor _ _ ha (hr64 _)) (hr64 _), ← u64_xor_nat _ _ ha (hr64 _)] at q2
    have q3 := fun u => (mod_any (Pol.rem (Pol.mul a b) p) p (hr64 _) hp u).2 hp0
    rw [Pol.rem_rem _ hp0] at q3
    have d1 := fun u => deg_any (Pol.rem (Pol.mul a b) p) (hr64 _) u
    have d2 := fun u => deg_any p hp u
    have d3 := fun u => deg_any (Pol.rem a p) (hr64 _) u
    have l1 := hrl (Pol.mul a b)
    have l3 := hrl a
    have l4 := len64 hp
    generalize Pol.rem (Pol.mul a b) p = x at *
    generalize Pol.rem (Pol.mul (Pol.mul a b) c) p = u at *
    generalize Pol.rem (Pol.mul b c) p = v at *
    generalize Pol.rem (Pol.mul a c) p = l at *
    generalize Pol.rem a p = r at *
    obtain ⟨dx, hdx⟩ : ∃ dx : Int, dx = (Pol.len x : Int) - 1 := ⟨_, rfl⟩
    obtain ⟨dp, hdp⟩ : ∃ dp : Int, dp = (Pol.len p : Int) - 1 := ⟨_, rfl⟩
    obtain ⟨dr, hdr⟩ : ∃ dr : Int, dr = (Pol.len r : Int) - 1 := ⟨_, rfl⟩
    rw [← hdx] at d1
    rw [← hdp] at d2
    rw [← hdr] at d3
    have e1 : decide (dp ≤ dx) = false := decide_eq_false (by omega)
    have e2 : decide (dr < dp) = true := decide_eq_true (by omega)
    clear hdx hdp hdr
    have M1 := Lib.hid m1; clear m1
    have M2 := Lib.hid m2; clear m2
    have M3 := Lib.hid m3; clear m3
    have M4 := Lib.hid m4; clear m4
    have M5 := Lib.hid m5; clear m5
    have M6 := Lib.hid m6; clear m6
    have M7 := Lib.hid m7; clear m7
    have M8 := Lib.hid m8; clear m8
    have Q1 := Lib.hid q1; clear q1
    have Q2 := Lib.hid q2; clear q2
    have Q3 := Lib.hid q3; clear q3
    have D1 := Lib.hid d1; clear d1
    have D2 := Lib.hid d2; clear d2
    have D3 := Lib.hid d3; clear d3
    clear ha hb hc hp hm hp0 hrl hr64 hxor l1 l3 l4
    go_enter Try.func5, Try.ntmps5
    go_wp2_with fail
    refine (M1.out _).mono ?_; rintro e w1 ⟨rfl, rfl⟩
    go_wp2_with fail
    refine (M2.out _).mono ?_; rintro e w1 ⟨rfl, rfl⟩
    go_wp2_with fail
    refine (M3.out _).mono ?_; rintro e w1 ⟨rfl, rfl⟩
    go_wp2_with fail
    refine (M4.out _).mono ?_; rintro e w1 ⟨rfl, rfl⟩
    go_wp2_with fail
    refine (M5.out _).mono ?_; rintro e w1 ⟨rfl, rfl⟩
    go_wp2_with fail
    refine (M6.out _).mono ?_; rintro e w1 ⟨rfl, rfl⟩
    go_wp2_with fail
    refine (M7.out _).mono ?_; rintro e w1 ⟨rfl, rfl⟩
    go_wp2_with fail
    refine (D1.out _).mono ?_; rintro e w1 ⟨rfl, rfl⟩
    go_wp2_with fail
    refine (D2.out _).mono ?_; rintro e w1 ⟨rfl, rfl⟩
    go_wp2_with fail
    refine (Q1.out _).mono ?_; rintro e w1 ⟨rfl, rfl⟩
    go_wp2_with fail
    refine (M8.out _).mono ?_; rintro e w1 ⟨rfl, rfl⟩
    go_wp2_with fail
    refine (Q2.out _).mono ?_; rintro e w1 ⟨rfl, rfl⟩
    go_wp2_with fail
    refine (Q3.out _).mono ?_; rintro e w1 ⟨rfl, rfl⟩
    go_wp2_with fail
    refine (D3.out _).mono ?_; rintro e w1 ⟨rfl, rfl⟩
    go_wp2_with fail
    refine (D2.out _).mono ?_; rintro e w1 ⟨rfl, rfl⟩
    go_wp2_with fail
    refine (alive_any _).mono ?_; rintro e w1 ⟨rfl, hb1⟩
    go_wp2_with fail
    go_ret
    exact ⟨rfl, hb1⟩
  · have m1 := fun u => (mul_any a b p ha hb hp u).1 hm
    have M1 := Lib.hid m1; clear m1
    clear ha hb hc hp hm
    go_enter Try.func5, Try.ntmps5
    go_wp2_with fail
    refine (M1.out _).mono ?_; rintro e w1 ⟨rfl, rfl⟩
    go_wp2_with fail
    refine (alive_any _).mono ?_; rintro e w1 ⟨rfl, hb1⟩
    go_wp2_with fail
    go_ret
    exact ⟨rfl, hb1⟩

theorem contract (H : Type) (enc : TypeId × Value → H) (W : World) (base : Nat) (args : Array Value) (ds gs : List (DataW H)) (before : List MemPlace)
    (hval : ∀ (j : Nat) t v, Try.f5.params[j]? = some t → args[j]? = some v → Value.okWide Try.prog W .any base t v)
    (hW : DataW.Whole enc Try.prog Try.f5.params.toList Rows.polyRingSpec.vars false W args.toList ds gs before)
    (hsz : (DataW.weightsEach Try.prog (Try.f5.params.toList ++ Rows.polyRingSpec.plain.varTypes Try.prog) (ds ++ gs)).all (· ≤ reachBytes) = true) :
    Calls Try.prog 5 args W fun e W' => ∃ v, e = .returned v ∧ Rows.polyRingSpec.post enc Try.prog Try.f5 false true false false W args v W' := by
  have hW' := hW
  obtain ⟨p, q, hA0, hV, rfl, hfz, hnd⟩ := hW
  have hA : DataW.TrodAll enc Try.prog W 0 (fun _ => true) true Try.f5.params.toList args.toList ds p := hA0
  rw [Try.params5] at hA hval hsz
  obtain ⟨v0, vs0, d0, ds0, p0, q0, hargs, rfl, rfl, h0, r0⟩ := trodAll_cons hA
  obtain ⟨v1, vs1, d1, ds1, p1, q1, rfl, rfl, rfl, h1, r1⟩ := trodAll_cons r0
  obtain ⟨v2, vs2, d2, ds2, p2, q2, rfl, rfl, rfl, h2, r2⟩ := trodAll_cons r1
  obtain ⟨v3, vs3, d3, ds3, p3, q3, rfl, rfl, rfl, h3, r3⟩ := trodAll_cons r2
  obtain ⟨rfl, rfl, rfl⟩ := trodAll_nil r3
  obtain rfl : args = #[v0, v1, v2, v3] := by cases args; simp_all
  obtain ⟨rfl, rfl⟩ := trodVars_none hV
  obtain ⟨n0, rfl, rfl, rfl, w0⟩ := open_int Try.underlying22 (hval 0 22 v0 rfl rfl) h0
  obtain ⟨n1, rfl, rfl, rfl, w1⟩ := open_int Try.underlying22 (hval 1 22 v1 rfl rfl) h1
  obtain ⟨n2, rfl, rfl, rfl, w2⟩ := open_int Try.underlying22 (hval 2 22 v2 rfl rfl) h2
  obtain ⟨n3, rfl, rfl, rfl, w3⟩ := open_int Try.underlying22 (hval 3 22 v3 rfl rfl) h3
  clear hA0
  refine (walk n0 n1 n2 n3 W w0 w1 w2 w3).mono fun e W' ⟨he, bel⟩ => ?_
  subst he
  exact ⟨_, rfl, _, _, _, [], _, [], hW', trodAll_mk1 (shut_bool Try.underlying4 _), (trodAll_cons_mk (shut_int Try.underlying22 w0) (trodAll_cons_mk (shut_int Try.underlying22 w1) (trodAll_cons_mk (shut_int Try.underlying22 w2) (trodAll_cons_mk (shut_int Try.underlying22 w3) trodAll_mk0)))), rfl, bel.frame _, fun h => by cases h⟩

set_option maxRecDepth 100000 in
theorem lifted (os : Os) (started : os.Started) (H : Type) (enc : TypeId × Value → H) :
    ReturnsInHanded {} Try.checked os 5 .any (Rows.polyRingSpec.pre6 enc Try.prog Try.f5 Rows.polyRingRow.domain false) (Rows.polyRingSpec.post enc Try.prog Try.f5 false true false false) := by
  refine returnsInHanded_of_change_sized (C := Try.checked) own started (by kernel_rfl) Try.func5
    (ChangeSpec.witness6 (enc := enc) (C := Try.checked) false ⟨#[], #[.int .u64 0, .int .u64 0, .int .u64 0, .int .u64 0], []⟩ 8 (by kernel_rfl) (by kernel_rfl) (by kernel_rfl) (by kernel_rfl)) ?_
  intro W base args ds gs before hval hW hcnd hsz _
  exact contract H enc W base args ds gs before hval hW hsz

theorem over : Rows.polyRingRow.holds Try.pinned (OpenSpec.ofChange Rows.polyRingSpec) :=
  OpenClaim.holds_of_wide 5 Try.f5 rfl rfl rfl rfl rfl rfl rfl ⟨rfl, rfl, rfl, rfl, rfl⟩ rfl rfl rfl rfl rfl (by kernel_rfl) Try.func5 (by kernel_rfl)
    (of_decide_eq_true (by kernel_rfl)) (by unfold Func.isWrapper; first | (rw [if_pos (by decide +kernel)]; kernel_rfl) | (rw [if_neg (by decide +kernel)]; exact ⟨rfl, rfl⟩))
    (fun os started H enc _ => lifted os started H enc)

theorem proved : Rows.PolyRingSaid := over
end Go.Proofs.Ytimcaihiobcccaa.lawRing
