/-
  PolyFields: by a prime each polynomial that is no multiple has another one whose product with it is 1: for all polynomials, all primes.
  Conditions: none.
-/
import Derived.Test.YtimcaihiobcccaaPolAlive
import Derived.StillTailTactics
import Derived.ProofKit
import Derived.OpenShut
import Derived.ChangeOld
import Derived.SizedLaws
namespace Go.Proofs.Ytimcaihiobcccaa.lawFields
open Go.ChangeShapes Go.WideShapes Go.ChangeAt Go.RowKit
set_option linter.unusedVariables false

theorem own : ownKnob Try.prog.godebug = none := by kernel_rfl
theorem laidOut : laidOutB Try.prog = true := by kernel_rfl

theorem u64_in {n : Int} (h : (Lit.int .u64 n).wf = true) : ∃ a : Nat, n = (a : Int) ∧ a < 18446744073709551616 := by
  have h2 : 0 ≤ n ∧ n ≤ 18446744073709551615 := by simpa [Lit.wf, IntKind.min, IntKind.max, IntKind.signed, IntKind.bits] using h
  exact ⟨n.toNat, by omega, by omega⟩

def sq (r p i : Nat) : Nat := Pol.rem (Pol.pow r (2 ^ i)) p
def iv (r p i : Nat) : Nat := Pol.rem (Pol.pow r (2 ^ i - 2)) p
theorem sq_next (r i : Nat) {p : Nat} (hp : p ≠ 0) : Pol.rem (Pol.mul (sq r p i) (sq r p i)) p = sq r p (i + 1) := by
  unfold sq
  rw [Pol.rem_mul_left _ _ hp, Pol.rem_mul_right _ _ hp, ← Pol.pow_add, Nat.pow_succ, Nat.mul_two]
theorem iv_next (r i : Nat) {p : Nat} (hp : p ≠ 0) (hi : 1 ≤ i) : Pol.rem (Pol.mul (iv r p i) (sq r p i)) p = iv r p (i + 1) := by
  have h2 : 2 ≤ 2 ^ i := by
    have := Nat.pow_le_pow_right (show 0 < 2 by decide) hi
    simpa using this
  unfold iv sq
  rw [Pol.rem_mul_left _ _ hp, Pol.rem_mul_right _ _ hp, ← Pol.pow_add, Nat.pow_succ]
  congr 2; omega
theorem sq_zero {r p : Nat} (h : Pol.len r < Pol.len p) : sq r p 0 = r := by
  unfold sq
  rw [Nat.pow_zero, Pol.pow, Pol.pow, Pol.mul_one, Pol.rem_small h]
theorem iv_one {r p : Nat} (h : 2 ≤ Pol.len p) : iv r p 1 = 1 := by
  unfold iv
  rw [show 2 ^ 1 - 2 = 0 from rfl, Pol.pow, Pol.rem_small (by rw [Pol.len_one]; omega)]
theorem iv_end {r p : Nat} (hi : Pol.irr p) (hr : ¬ Pol.dv p r) : Pol.rem (Pol.mul r (iv r p (Pol.len p - 1))) p = 1 := by
  have h2 := hi.1
  have hp := Pol.irr_ne hi
  have h3 : 2 ≤ 2 ^ (Pol.len p - 1) := by
    have := Nat.pow_le_pow_right (show 0 < 2 by decide) (show 1 ≤ Pol.len p - 1 by omega)
    simpa using this
  unfold iv
  rw [Pol.rem_mul_right _ _ hp, show Pol.mul r (Pol.pow r (2 ^ (Pol.len p - 1) - 2)) = Pol.pow r (2 ^ (Pol.len p - 1) - 1) by
    rw [show 2 ^ (Pol.len p - 1) - 1 = (2 ^ (Pol.len p - 1) - 2) + 1 by omega, Pol.pow]]
  exact Pol.rem_unique (by rw [Pol.len_one]; omega) (Pol.fermat hi hr)

set_option maxRecDepth 100000 in
set_option maxHeartbeats 4000000 in
theorem walk (n0 n1 : Int) (w : World) (h0 : (Lit.int .u64 n0).wf = true) (h1 : (Lit.int .u64 n1).wf = true) :
    Calls Try.prog 6 #[.int .u64 n0, .int .u64 n1] w fun e w' => e = .returned (.bool true) ∧ Below w.heap.size w w' := by
  obtain ⟨a, rfl, ha⟩ := u64_in h0
  obtain ⟨p, rfl, hp⟩ := u64_in h1
  clear h0 h1
  have d1 := fun u => deg_any p hp u
  have q1 := fun u => prime_any p hp u
  have hlp := len64 hp
  by_cases hs : Pol.said p
  case neg =>
    rw [primeB_false hs] at q1
    have Q1 := Lib.hid q1; clear q1
    have D1 := Lib.hid d1; clear d1
    clear ha hp hlp hs
    generalize ((Pol.len p : Int) - 1) = d at *
    go_enter Try.func6, Try.ntmps6
    go_wp2_with fail
    refine (D1.out _).mono ?_; rintro e w1 ⟨rfl, rfl⟩
    go_wp2_with fail
    refine (Q1.out _).mono ?_; rintro e w2 ⟨rfl, hb2⟩
    go_wp2_with fail
    refine (alive_any _).mono ?_; rintro e w3 ⟨rfl, hb3⟩
    go_wp2_with fail
    go_ret
    exact ⟨rfl, hb2.trans (hb3.mono hb2.size)⟩
  rw [primeB_true hs] at q1
  have hirr := Pol.bo_irr hs.1.1 hs.2
  have h57 := hs.1.2
  have h2l := hs.1.1
  have hp0 := Pol.irr_ne hirr
  by_cases h3 : Pol.len p < 3
  · have hd : decide ((Pol.len p : Int) - 1 < 2) = true := decide_eq_true (by omega)
    have Q1 := Lib.hid q1; clear q1
    have D1 := Lib.hid d1; clear d1
    clear ha hp hlp hs hirr h57 h2l hp0 h3
    generalize ((Pol.len p : Int) - 1) = d at *
    go_enter Try.func6, Try.ntmps6
    go_wp2_with fail
    refine (D1.out _).mono ?_; rintro e w1 ⟨rfl, rfl⟩
    go_wp2_with fail
    refine (Q1.out _).mono ?_; rintro e w2 ⟨rfl, hb2⟩
    go_wp2_with fail
    refine (alive_any _).mono ?_; rintro e w3 ⟨rfl, hb3⟩
    go_wp2_with fail
    go_ret
    exact ⟨rfl, hb2.trans (hb3.mono hb2.size)⟩
  have m1 := fun u => (mod_any a p ha hp u).2 hp0
  have hrl := Pol.rem_len a hp0
  obtain ⟨d, hd⟩ : ∃ d, Pol.len p = d + 1 := ⟨Pol.len p - 1, by omega⟩
  rw [hd, show (((d + 1 : Nat) : Int) - 1) = (d : Int) by omega] at d1
  have hd1 : decide ((d : Int) < 2) = false := decide_eq_false (by omega)
  have hd2 : decide ((56 : Int) < (d : Int)) = false := decide_eq_false (by omega)
  generalize Pol.rem a p = r at *
  by_cases hr0 : r = 0
  · subst hr0
    rw [show ((0 : Nat) : Int) = 0 from rfl] at m1
    have M1 := Lib.hid m1; clear m1
    have Q1 := Lib.hid q1; clear q1
    have D1 := Lib.hid d1; clear d1
    clear ha hp hlp hs hirr h57 h2l hp0 h3 hd hrl
    go_enter Try.func6, Try.ntmps6
    go_wp2_with fail
    refine (D1.out _).mono ?_; rintro e w1 ⟨rfl, rfl⟩
    go_wp2_with fail
    refine (Q1.out _).mono ?_; rintro e w2 ⟨rfl, hb2⟩
    go_wp2_with fail
    refine (M1.out _).mono ?_; rintro e w1 ⟨rfl, rfl⟩
    go_wp2_with fail
    refine (alive_any _).mono ?_; rintro e w3 ⟨rfl, hb3⟩
    go_wp2_with fail
    go_ret
    exact ⟨rfl, hb2.trans (hb3.mono hb2.size)⟩
  have hz : decide (r = 0) = false := decide_eq_false hr0
  have hz1 : ((r : Int) == 0) = false := beq_eq_false_iff_ne.2 (by omega)
  have hndv : ¬ Pol.dv p r := fun c => hr0 (Pol.dv_small c hrl)
  have hr64 : ∀ z, Pol.rem z p < 18446744073709551616 := fun z => lt64 (by have := Pol.rem_len z hp0; omega)
  have hrr : r < 18446744073709551616 := lt64 (by omega)
  have g1 := fun u => gcd_any r p hrr hp u
  rw [Pol.gcd_irr' hirr hndv] at g1
  have s0 := sq_zero hrl
  have i1 := iv_one (r := r) h2l
  have ms := fun i u => (mul_any (sq r p i) (sq r p i) p (hr64 _) (hr64 _) hp u).2 hs.1
  have mi := fun i u => (mul_any (iv r p i) (sq r p i) p (hr64 _) (hr64 _) hp u).2 hs.1
  have me := fun u => (mul_any r (iv r p (Pol.len p - 1)) p hrr (hr64 _) hp u).2 hs.1
  rw [iv_end hirr hndv, hd, Nat.add_sub_cancel, show ((1 : Nat) : Int) = 1 from rfl] at me
  have ns := fun i => sq_next r i hp0
  have ni := fun i hi => iv_next r i hp0 hi
  have M1 := Lib.hid m1; clear m1
  have Q1 := Lib.hid q1; clear q1
  have D1 := Lib.hid d1; clear d1
  have G1 := Lib.hid g1; clear g1
  have MS := Lib.hid ms; clear ms
  have MI := Lib.hid mi; clear mi
  have ME := Lib.hid me; clear me
  have NS := Lib.hid ns; clear ns
  have NI := Lib.hid ni; clear ni
  have S0 := Lib.hid s0; clear s0
  have I1 := Lib.hid i1; clear i1
  have hd56 : d ≤ 56 := by omega
  have hd2' : 2 ≤ d := by omega
  clear ha hp hlp hs hirr h57 h2l hp0 h3 hd hrl hndv hr64 hrr hr0
  go_enter Try.func6, Try.ntmps6
  go_wp2_with fail
  refine (D1.out _).mono ?_; rintro e w1 ⟨rfl, rfl⟩
  go_wp2_with fail
  refine (Q1.out _).mono ?_; rintro e w2 ⟨rfl, hb2⟩
  go_wp2_with fail
  refine (M1.out _).mono ?_; rintro e w1 ⟨rfl, rfl⟩
  go_wp2_with fail
  have Hb2 := Lib.hid hb2; clear hb2
  go_loop [8, 9, 10, 11, 12, 13, 14] (fun inv q i _ _ _ _ => ∃ k : Nat, 1 ≤ k ∧ k ≤ d ∧ i = .int .i64 (k : Int) ∧ inv = .int .u64 (iv r p k : Nat) ∧ q = .int .u64 (sq r p (k - 1) : Nat)) (fun _ _ i _ _ _ _ => d - (intOf i).toNat)
  case atStart => exact ⟨1, by omega, by omega, rfl, by rw [I1.out]; rfl, by rw [Nat.sub_self, S0.out]⟩
  case round =>
    obtain ⟨k, hk1, hk, rfl, rfl, rfl⟩ := hrel
    by_cases hc : k = d
    · subst hc
      have hge : decide ((k : Int) < (k : Int)) = false := decide_eq_false (by omega)
      generalize sq r p (k - 1) = s at *
      generalize iv r p k = v at *
      go_wp2_with fail
      refine (ME.out _).mono ?_; rintro e w1 ⟨rfl, rfl⟩
      go_wp2_with fail
      refine (G1.out _).mono ?_; rintro e w1 ⟨rfl, rfl⟩
      go_wp2_with fail
      refine (alive_any _).mono ?_; rintro e w3 ⟨rfl, hb3⟩
      go_wp2_with fail
      go_ret
      exact ⟨rfl, Hb2.out.trans (hb3.mono Hb2.out.size)⟩
    · have hge : decide ((k : Int) < (d : Int)) = true := decide_eq_true (by omega)
      have ms := fun u => MS.out (k - 1) u
      rw [NS.out (k - 1), show k - 1 + 1 = k by omega] at ms
      have mi := fun u => MI.out k u
      rw [NI.out k hk1] at mi
      obtain ⟨i2, hi2⟩ : ∃ i2, i2 = iv r p (k + 1) := ⟨_, rfl⟩
      obtain ⟨s2, hs2⟩ : ∃ s2, s2 = sq r p k := ⟨_, rfl⟩
      rw [← hi2, ← hs2] at mi
      rw [← hs2] at ms
      generalize sq r p (k - 1) = s at *
      generalize iv r p k = v at *
      have Ms := Lib.hid ms; clear ms
      have Mi := Lib.hid mi; clear mi
      have Hi2 := Lib.hid hi2; clear hi2
      have Hs2 := Lib.hid hs2; clear hs2
      go_wp2_with fail
      refine (Ms.out _).mono ?_; rintro e w1 ⟨rfl, rfl⟩
      go_wp2_with fail
      refine (Mi.out _).mono ?_; rintro e w1 ⟨rfl, rfl⟩
      go_wp2_with fail
      go_round
      case rel => exact ⟨k + 1, by omega, by omega, by go_num, by rw [Hi2.out], by rw [Nat.add_sub_cancel, Hs2.out]⟩
      case measure => simp [intOf]; omega

theorem contract (H : Type) (enc : TypeId × Value → H) (W : World) (base : Nat) (args : Array Value) (ds gs : List (DataW H)) (before : List MemPlace)
    (hval : ∀ (j : Nat) t v, Try.f6.params[j]? = some t → args[j]? = some v → Value.okWide Try.prog W .any base t v)
    (hW : DataW.Whole enc Try.prog Try.f6.params.toList Rows.polyFieldsSpec.vars false W args.toList ds gs before)
    (hsz : (DataW.weightsEach Try.prog (Try.f6.params.toList ++ Rows.polyFieldsSpec.plain.varTypes Try.prog) (ds ++ gs)).all (· ≤ reachBytes) = true) :
    Calls Try.prog 6 args W fun e W' => ∃ v, e = .returned v ∧ Rows.polyFieldsSpec.post enc Try.prog Try.f6 false true false false W args v W' := by
  have hW' := hW
  obtain ⟨p, q, hA0, hV, rfl, hfz, hnd⟩ := hW
  have hA : DataW.TrodAll enc Try.prog W 0 (fun _ => true) true Try.f6.params.toList args.toList ds p := hA0
  rw [Try.params6] at hA hval hsz
  obtain ⟨v0, vs0, d0, ds0, p0, q0, hargs, rfl, rfl, h0, r0⟩ := trodAll_cons hA
  obtain ⟨v1, vs1, d1, ds1, p1, q1, rfl, rfl, rfl, h1, r1⟩ := trodAll_cons r0
  obtain ⟨rfl, rfl, rfl⟩ := trodAll_nil r1
  obtain rfl : args = #[v0, v1] := by cases args; simp_all
  obtain ⟨rfl, rfl⟩ := trodVars_none hV
  obtain ⟨n0, rfl, rfl, rfl, w0⟩ := open_int Try.underlying22 (hval 0 22 v0 rfl rfl) h0
  obtain ⟨n1, rfl, rfl, rfl, w1⟩ := open_int Try.underlying22 (hval 1 22 v1 rfl rfl) h1
  clear hA0
  refine (walk n0 n1 W w0 w1).mono fun e W' ⟨he, bel⟩ => ?_
  subst he
  exact ⟨_, rfl, _, _, _, [], _, [], hW', trodAll_mk1 (shut_bool Try.underlying4 _), (trodAll_cons_mk (shut_int Try.underlying22 w0) (trodAll_cons_mk (shut_int Try.underlying22 w1) trodAll_mk0)), rfl, bel.frame _, fun h => by cases h⟩

set_option maxRecDepth 100000 in
theorem lifted (os : Os) (started : os.Started) (H : Type) (enc : TypeId × Value → H) :
    ReturnsInHanded {} Try.checked os 6 .any (Rows.polyFieldsSpec.pre6 enc Try.prog Try.f6 Rows.polyFieldsRow.domain false) (Rows.polyFieldsSpec.post enc Try.prog Try.f6 false true false false) := by
  refine returnsInHanded_of_change_sized (C := Try.checked) own started (by kernel_rfl) Try.func6
    (ChangeSpec.witness6 (enc := enc) (C := Try.checked) false ⟨#[], #[.int .u64 0, .int .u64 0], []⟩ 8 (by kernel_rfl) (by kernel_rfl) (by kernel_rfl) (by kernel_rfl)) ?_
  intro W base args ds gs before hval hW hcnd hsz _
  exact contract H enc W base args ds gs before hval hW hsz

theorem over : Rows.polyFieldsRow.holds Try.pinned (OpenSpec.ofChange Rows.polyFieldsSpec) :=
  OpenClaim.holds_of_wide 6 Try.f6 rfl rfl rfl rfl rfl rfl rfl ⟨rfl, rfl, rfl, rfl, rfl⟩ rfl rfl rfl rfl rfl (by kernel_rfl) Try.func6 (by kernel_rfl)
    (of_decide_eq_true (by kernel_rfl)) (by unfold Func.isWrapper; first | (rw [if_pos (by decide +kernel)]; kernel_rfl) | (rw [if_neg (by decide +kernel)]; exact ⟨rfl, rfl⟩))
    (fun os started H enc _ => lifted os started H enc)

theorem proved : Rows.PolyFieldsSaid := over
end Go.Proofs.Ytimcaihiobcccaa.lawFields
