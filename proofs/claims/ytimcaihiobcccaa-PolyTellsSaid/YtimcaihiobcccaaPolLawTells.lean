/-
  PolyTells: the degree of any polynomial, remainders, products, the greatest that two are multiples of, and powers of x, are the document's: for all three polynomials, all powers.
  Conditions: none.
-/
import Derived.Test.YtimcaihiobcccaaPolAlive
import Derived.StillTailTactics
import Derived.ProofKit
import Derived.OpenShut
import Derived.ChangeOld
import Derived.SizedLaws
namespace Go.Proofs.Ytimcaihiobcccaa.lawTells
open Go.ChangeShapes Go.WideShapes Go.ChangeAt Go.RowKit
set_option linter.unusedVariables false

theorem own : ownKnob Try.prog.godebug = none := by kernel_rfl
theorem laidOut : laidOutB Try.prog = true := by kernel_rfl

theorem u64_in {n : Int} (h : (Lit.int .u64 n).wf = true) : ∃ a : Nat, n = (a : Int) ∧ a < 18446744073709551616 := by
  have h2 : 0 ≤ n ∧ n ≤ 18446744073709551615 := by simpa [Lit.wf, IntKind.min, IntKind.max, IntKind.signed, IntKind.bits] using h
  exact ⟨n.toNat, by omega, by omega⟩

theorem mod_both (a p : Nat) (ha : a < 18446744073709551616) (hp : p < 18446744073709551616) : ∃ (v : Nat) (e : Int), (∀ u, Calls Try.prog 7 #[.int .u64 a, .int .u64 p] u fun x w' => x = .returned (.tuple #[.int .u64 v, .int .i64 e]) ∧ u = w') ∧ (∀ u, Calls Try.prog 8 #[.int .u64 a, .int .u64 p] u fun x w' => x = .returned (.tuple #[.int .u64 v, .int .i64 e]) ∧ u = w') := by
  by_cases h : p = 0
  · exact ⟨0, 2, fun u => (mod_any a p ha hp u).1 h, fun u => (refMod_any a p ha hp u).1 h⟩
  · exact ⟨_, 0, fun u => (mod_any a p ha hp u).2 h, fun u => (refMod_any a p ha hp u).2 h⟩
theorem mul_both (a b p : Nat) (ha : a < 18446744073709551616) (hb : b < 18446744073709551616) (hp : p < 18446744073709551616) : ∃ (v : Nat) (e : Int), (∀ u, Calls Try.prog 9 #[.int .u64 a, .int .u64 b, .int .u64 p] u fun x w' => x = .returned (.tuple #[.int .u64 v, .int .i64 e]) ∧ u = w') ∧ (∀ u, Calls Try.prog 10 #[.int .u64 a, .int .u64 b, .int .u64 p] u fun x w' => x = .returned (.tuple #[.int .u64 v, .int .i64 e]) ∧ u = w') := by
  by_cases h : Pol.may p
  · exact ⟨_, 0, fun u => (mul_any a b p ha hb hp u).2 h, fun u => (refMul_any a b p ha hb hp u).2 h⟩
  · exact ⟨0, 2, fun u => (mul_any a b p ha hb hp u).1 h, fun u => (refMul_any a b p ha hb hp u).1 h⟩
theorem up_both (n : Int) (p : Nat) (hn : n < 9223372036854775807) (hp : p < 18446744073709551616) : ∃ (v : Nat) (e : Int), (∀ u, Calls Try.prog 16 #[.int .i64 n, .int .u64 p] u fun x w' => x = .returned (.tuple #[.int .u64 v, .int .i64 e]) ∧ Below u.heap.size u w') ∧ (∀ u, Calls Try.prog 17 #[.int .i64 n, .int .u64 p] u fun x w' => x = .returned (.tuple #[.int .u64 v, .int .i64 e]) ∧ u = w') := by
  by_cases h : 0 ≤ n ∧ Pol.may p
  · exact ⟨_, 0, fun u => (up_any n p hp hn u).2 h, fun u => (refUp_any n p hp hn u).2 h⟩
  · exact ⟨0, 2, fun u => (up_any n p hp hn u).1 h, fun u => (refUp_any n p hp hn u).1 h⟩

set_option maxRecDepth 100000 in
set_option maxHeartbeats 4000000 in
theorem walk (n0 n1 n2 n3 : Int) (w : World) (h0 : (Lit.int .u64 n0).wf = true) (h1 : (Lit.int .u64 n1).wf = true) (h2 : (Lit.int .u64 n2).wf = true) (h3 : (Lit.int .i64 n3).wf = true) :
    Calls Try.prog 3 #[.int .u64 n0, .int .u64 n1, .int .u64 n2, .int .i64 n3] w fun e w' => e = .returned (.bool true) ∧ Below w.heap.size w w' := by
  obtain ⟨a, rfl, ha⟩ := u64_in h0
  obtain ⟨b, rfl, hb⟩ := u64_in h1
  obtain ⟨p, rfl, hp⟩ := u64_in h2
  clear h0 h1 h2 h3
  obtain ⟨v1, e1, m1, r1⟩ := mod_both a p ha hp
  obtain ⟨v2, e2, m2, r2⟩ := mul_both a b p ha hb hp
  have d1 := fun u => deg_any a ha u
  have d2 := fun u => refDeg_any a ha u
  have g1 := fun u => gcd_any a b ha hb u
  have g2 := fun u => refGcd_any a b ha hb u
  have hup := fun h => up_both n3 p h hp
  generalize Pol.gcd a b = g at *
  generalize ((Pol.len a : Int) - 1) = d at *
  have M1 := Lib.hid m1; clear m1
  have R1 := Lib.hid r1; clear r1
  have M2 := Lib.hid m2; clear m2
  have R2 := Lib.hid r2; clear r2
  have D1 := Lib.hid d1; clear d1
  have D2 := Lib.hid d2; clear d2
  have G1 := Lib.hid g1; clear g1
  have G2 := Lib.hid g2; clear g2
  clear ha hb hp
  by_cases hl : 4000 < n3
  · have hd : decide ((4000 : Int) < n3) = true := decide_eq_true hl
    clear hup
    go_enter Try.func3, Try.ntmps3
    go_wp2_with fail
    refine (M1.out _).mono ?_; rintro e w1 ⟨rfl, rfl⟩
    go_wp2_with fail
    refine (R1.out _).mono ?_; rintro e w1 ⟨rfl, rfl⟩
    go_wp2_with fail
    refine (M2.out _).mono ?_; rintro e w1 ⟨rfl, rfl⟩
    go_wp2_with fail
    refine (R2.out _).mono ?_; rintro e w1 ⟨rfl, rfl⟩
    go_wp2_with fail
    refine (D1.out _).mono ?_; rintro e w1 ⟨rfl, rfl⟩
    go_wp2_with fail
    refine (D2.out _).mono ?_; rintro e w1 ⟨rfl, rfl⟩
    go_wp2_with fail
    refine (G1.out _).mono ?_; rintro e w1 ⟨rfl, rfl⟩
    go_wp2_with fail
    refine (G2.out _).mono ?_; rintro e w1 ⟨rfl, rfl⟩
    go_wp2_with fail
    refine (alive_any _).mono ?_; rintro e w1 ⟨rfl, hb1⟩
    go_wp2_with fail
    go_ret
    exact ⟨rfl, hb1⟩
  · have hd : decide ((4000 : Int) < n3) = false := decide_eq_false hl
    obtain ⟨v3, e3, m3, r3⟩ := hup (by omega)
    have M3 := Lib.hid m3; clear m3
    have R3 := Lib.hid r3; clear r3
    clear hup
    go_enter Try.func3, Try.ntmps3
    go_wp2_with fail
    refine (M1.out _).mono ?_; rintro e w1 ⟨rfl, rfl⟩
    go_wp2_with fail
    refine (R1.out _).mono ?_; rintro e w1 ⟨rfl, rfl⟩
    go_wp2_with fail
    refine (M2.out _).mono ?_; rintro e w1 ⟨rfl, rfl⟩
    go_wp2_with fail
    refine (R2.out _).mono ?_; rintro e w1 ⟨rfl, rfl⟩
    go_wp2_with fail
    refine (D1.out _).mono ?_; rintro e w1 ⟨rfl, rfl⟩
    go_wp2_with fail
    refine (D2.out _).mono ?_; rintro e w1 ⟨rfl, rfl⟩
    go_wp2_with fail
    refine (G1.out _).mono ?_; rintro e w1 ⟨rfl, rfl⟩
    go_wp2_with fail
    refine (G2.out _).mono ?_; rintro e w1 ⟨rfl, rfl⟩
    go_wp2_with fail
    refine (M3.out _).mono ?_; rintro e w2 ⟨rfl, hb2⟩
    go_wp2_with fail
    refine (R3.out _).mono ?_; rintro e w1 ⟨rfl, rfl⟩
    go_wp2_with fail
    refine (alive_any _).mono ?_; rintro e w3 ⟨rfl, hb3⟩
    go_wp2_with fail
    go_ret
    exact ⟨rfl, hb2.trans (hb3.mono hb2.size)⟩

theorem contract (H : Type) (enc : TypeId × Value → H) (W : World) (base : Nat) (args : Array Value) (ds gs : List (DataW H)) (before : List MemPlace)
    (hval : ∀ (j : Nat) t v, Try.f3.params[j]? = some t → args[j]? = some v → Value.okWide Try.prog W .any base t v)
    (hW : DataW.Whole enc Try.prog Try.f3.params.toList Rows.polyTellsSpec.vars false W args.toList ds gs before)
    (hsz : (DataW.weightsEach Try.prog (Try.f3.params.toList ++ Rows.polyTellsSpec.plain.varTypes Try.prog) (ds ++ gs)).all (· ≤ reachBytes) = true) :
    Calls Try.prog 3 args W fun e W' => ∃ v, e = .returned v ∧ Rows.polyTellsSpec.post enc Try.prog Try.f3 false true false false W args v W' := by
  have hW' := hW
  obtain ⟨p, q, hA0, hV, rfl, hfz, hnd⟩ := hW
  have hA : DataW.TrodAll enc Try.prog W 0 (fun _ => true) true Try.f3.params.toList args.toList ds p := hA0
  rw [Try.params3] at hA hval hsz
  obtain ⟨v0, vs0, d0, ds0, p0, q0, hargs, rfl, rfl, h0, r0⟩ := trodAll_cons hA
  obtain ⟨v1, vs1, d1, ds1, p1, q1, rfl, rfl, rfl, h1, r1⟩ := trodAll_cons r0
  obtain ⟨v2, vs2, d2, ds2, p2, q2, rfl, rfl, rfl, h2, r2⟩ := trodAll_cons r1
  obtain ⟨v3, vs3, d3, ds3, p3, q3, rfl, rfl, rfl, h3, r3⟩ := trodAll_cons r2
  obtain ⟨rfl, rfl, rfl⟩ := trodAll_nil r3
  obtain rfl : args = #[v0, v1, v2, v3] := by cases args; simp_all
  obtain ⟨rfl, rfl⟩ := trodVars_none hV
  obtain ⟨n0, rfl, rfl, rfl, w0⟩ := open_int Try.underlying22 (hval 0 22 v0 rfl rfl) h0
  obtain ⟨n1, rfl, rfl, rfl, w1⟩ := open_int Try.underlying22 (hval 1 22 v1 rfl rfl) h1
  obtain ⟨n2, rfl, rfl, rfl, w2⟩ := open_int Try.underlying22 (hval 2 22 v2 rfl rfl) h2
  obtain ⟨n3, rfl, rfl, rfl, w3⟩ := open_int Try.underlying3 (hval 3 3 v3 rfl rfl) h3
  clear hA0
  refine (walk n0 n1 n2 n3 W w0 w1 w2 w3).mono fun e W' ⟨he, bel⟩ => ?_
  subst he
  exact ⟨_, rfl, _, _, _, [], _, [], hW', trodAll_mk1 (shut_bool Try.underlying4 _), (trodAll_cons_mk (shut_int Try.underlying22 w0) (trodAll_cons_mk (shut_int Try.underlying22 w1) (trodAll_cons_mk (shut_int Try.underlying22 w2) (trodAll_cons_mk (shut_int Try.underlying3 w3) trodAll_mk0)))), rfl, bel.frame _, fun h => by cases h⟩

set_option maxRecDepth 100000 in
theorem lifted (os : Os) (started : os.Started) (H : Type) (enc : TypeId × Value → H) :
    ReturnsInHanded {} Try.checked os 3 .any (Rows.polyTellsSpec.pre6 enc Try.prog Try.f3 Rows.polyTellsRow.domain false) (Rows.polyTellsSpec.post enc Try.prog Try.f3 false true false false) := by
  refine returnsInHanded_of_change_sized (C := Try.checked) own started (by kernel_rfl) Try.func3
    (ChangeSpec.witness6 (enc := enc) (C := Try.checked) false ⟨#[], #[.int .u64 0, .int .u64 0, .int .u64 0, .int .i64 0], []⟩ 8 (by kernel_rfl) (by kernel_rfl) (by kernel_rfl) (by kernel_rfl)) ?_
  intro W base args ds gs before hval hW hcnd hsz _
  exact contract H enc W base args ds gs before hval hW hsz

theorem over : Rows.polyTellsRow.holds Try.pinned (OpenSpec.ofChange Rows.polyTellsSpec) :=
  OpenClaim.holds_of_wide 3 Try.f3 rfl rfl rfl rfl rfl rfl rfl ⟨rfl, rfl, rfl, rfl, rfl⟩ rfl rfl rfl rfl rfl (by kernel_rfl) Try.func3 (by kernel_rfl)
    (of_decide_eq_true (by kernel_rfl)) (by unfold Func.isWrapper; first | (rw [if_pos (by decide +kernel)]; kernel_rfl) | (rw [if_neg (by decide +kernel)]; exact ⟨rfl, rfl⟩))
    (fun os started H enc _ => lifted os started H enc)

theorem proved : Rows.PolyTellsSaid := over
end Go.Proofs.Ytimcaihiobcccaa.lawTells
