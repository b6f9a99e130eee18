/-
  What the document's Deg, rest, May, Mod, Mul and Gcd return.
-/
import Derived.Test.YtimcaihiobcccaaPolProd
set_option linter.unusedVariables false
namespace Go.Proofs.Ytimcaihiobcccaa
open Go.RowKit

theorem Pol.len_mod (a k : Nat) : (a / 2 ^ k % 2 = 1 → Pol.len (a % 2 ^ (k + 1)) = k + 1) ∧ (¬ a / 2 ^ k % 2 = 1 → Pol.len (a % 2 ^ (k + 1)) = Pol.len (a % 2 ^ k)) := by
  have hp : 0 < 2 ^ k := Nat.pow_pos (by decide)
  have h1 : a % 2 ^ (k + 1) = a % 2 ^ k + 2 ^ k * (a / 2 ^ k % 2) := by rw [Nat.pow_succ, Nat.mod_mul]
  have h2 := Nat.mod_lt a hp
  refine ⟨fun h => ?_, fun h => ?_⟩
  · rw [h, Nat.mul_one] at h1
    rw [h1]
    refine Pol.len_eq (Nat.le_add_left _ _) ?_
    rw [Nat.pow_succ]; omega
  · rw [show a / 2 ^ k % 2 = 0 by omega, Nat.mul_zero] at h1
    rw [h1, Nat.add_zero]
/-- a bit, as the walk writes it -/
theorem bit_tmod (a k : Nat) : ((a : Int) / 2 ^ k).tmod 2 = ((a / 2 ^ k % 2 : Nat) : Int) := by
  have hbe : ((a / 2 ^ k : Nat) : Int) = (a : Int) / 2 ^ k := by rw [Int.natCast_ediv, Int.natCast_pow]; rfl
  rw [← hbe, Int.tmod_eq_emod_of_nonneg (Int.natCast_nonneg _)]
  omega

theorem refDeg_any (a : Nat) (ha : a < 18446744073709551616) (w : World) :
    Calls Try.prog 12 #[.int .u64 a] w fun e w' => e = .returned (.int .i64 ((Pol.len a : Int) - 1)) ∧ w = w' := by
  have hm := fun k => Pol.len_mod a k
  have he : a % 2 ^ 64 = a := Nat.mod_eq_of_lt ha
  have h0 : Pol.len (a % 2 ^ 0) = 0 := by rw [Nat.pow_zero, Nat.mod_one]; rfl
  have Hm := Lib.hid hm; clear hm
  have He := Lib.hid he; clear he
  have H0 := Lib.hid h0; clear h0
  have Ha := Lib.hid ha; clear ha
  obtain ⟨n, hn⟩ : ∃ n, n = Pol.len a := ⟨_, rfl⟩
  rw [← hn]
  have Hn := Lib.hid hn; clear hn
  go_enter Try.func12, Try.ntmps12
  go_wp2_with fail
  go_loop [3, 4] (fun d i => ∃ k : Nat, k ≤ 64 ∧ i = .int .i64 (k : Int) ∧ d = .int .i64 ((Pol.len (a % 2 ^ k) : Int) - 1)) (fun _ i => 64 - (intOf i).toNat)
  case atStart => exact ⟨0, by omega, rfl, by rw [H0.out]; rfl⟩
  case round =>
    obtain ⟨k, hk, rfl, rfl⟩ := hrel
    by_cases hc : k = 64
    · subst hc
      rw [He.out, ← Hn.out]
      rw [show ((64 : Nat) : Int) = 64 from rfl]
      go_wp2_with fail
      go_ret
      exact ⟨rfl, rfl⟩
    · have hge : decide ((k : Int) < 64) = true := decide_eq_true (by omega)
      obtain ⟨h1, h2⟩ := Hm.out k
      have hbi := bit_tmod a k
      by_cases hb1 : a / 2 ^ k % 2 = 1
      · rw [hb1, show ((1 : Nat) : Int) = 1 from rfl] at hbi
        have hz := h1 hb1
        have Hz := Lib.hid hz
        clear h1 h2 hb1 hz
        go_wp2_with fail
        go_round
        case rel => exact ⟨k + 1, by omega, by go_num, by rw [Hz.out]; go_num⟩
        case measure => simp [intOf]; omega
      · rw [show a / 2 ^ k % 2 = 0 by omega, show ((0 : Nat) : Int) = 0 from rfl] at hbi
        have hz := h2 hb1
        have Hz := Lib.hid hz
        clear h1 h2 hb1 hz
        go_wp2_with fail
        go_round
        case rel => exact ⟨k + 1, by omega, by go_num, by rw [Hz.out]⟩
        case measure => simp [intOf]; omega

theorem rest_any (a p : Nat) (ha : a < 18446744073709551616) (hp : p < 18446744073709551616) (hp0 : p ≠ 0) (w : World) :
    Calls Try.prog 21 #[.int .u64 a, .int .u64 p] w fun e w' => e = .returned (.int .u64 (Pol.rem a p : Nat)) ∧ w = w' := by
  have hlp := len64 hp
  have hpp := Pol.len_pos hp0
  have cp := fun u => refDeg_any p hp u
  obtain ⟨d, hd⟩ : ∃ d, Pol.len p = d + 1 := ⟨Pol.len p - 1, by omega⟩
  rw [hd, show ((d + 1 : Nat) : Int) - 1 = (d : Int) by omega] at cp
  have Cp := Lib.hid cp; clear cp
  obtain ⟨r, hr⟩ : ∃ r, r = Pol.rem a p := ⟨_, rfl⟩
  rw [← hr]
  have Hr := Lib.hid hr; clear hr
  have Hla := Lib.hid (len64 ha)
  clear ha
  rw [hd] at hlp
  have Hd := Lib.hid hd; clear hd
  have Hp0 := Lib.hid hp0; clear hp0
  have Hp := Lib.hid hp; clear hp
  clear hpp
  go_enter Try.func21, Try.ntmps21
  go_wp2_with fail
  refine (Cp.out _).mono ?_; rintro e w1 ⟨rfl, rfl⟩
  go_wp2_with fail
  go_loop [0, 6] (fun a' i => ∃ x j : Nat, j ≤ 64 ∧ d ≤ j ∧ Pol.len x ≤ j ∧ Pol.rem x p = r ∧ a' = .int .u64 (x : Nat) ∧ i = .int .i64 ((j : Int) - 1)) (fun _ i => (intOf i + 1).toNat)
  case atStart => exact ⟨a, 64, by omega, by omega, Hla.out, Hr.out.symm, rfl, by go_num⟩
  case round =>
    obtain ⟨x, j, hj, hdj, hx, hxr, rfl, rfl⟩ := hrel
    by_cases hc : j = d
    · subst hc
      have hge : decide ((j : Int) ≤ ((j : Int) - 1)) = false := decide_eq_false (by omega)
      have hxs := Pol.rem_small (show Pol.len x < Pol.len p by rw [Hd.out]; omega)
      rw [hxr] at hxs
      subst hxs
      clear hx
      go_wp2_with fail
      go_ret
      exact ⟨rfl, rfl⟩
    · obtain ⟨i, rfl⟩ : ∃ i, j = i + 1 := ⟨j - 1, by omega⟩
      have hi : (((i + 1 : Nat) : Int) - 1) = (i : Int) := by omega
      rw [hi]
      have hdi : d ≤ i := by omega
      have hge : decide ((d : Int) ≤ (i : Int)) = true := decide_eq_true (by omega)
      have hbi := bit_tmod x i
      have hx64 : x < 18446744073709551616 := lt64 (by omega)
      by_cases hb1 : x / 2 ^ i % 2 = 1
      · rw [hb1, show ((1 : Nat) : Int) = 1 from rfl] at hbi
        have hlx : Pol.len x = i + 1 := by
          by_cases e : Pol.len x ≤ i
          · rw [Nat.div_eq_of_lt ((Pol.len_le x i).1 e)] at hb1; omega
          · omega
        obtain ⟨k, hk⟩ : ∃ k : Nat, i = d + k := ⟨i - d, by omega⟩
        have hst := Pol.step_len Hp0.out (show Pol.len p ≤ Pol.len x by rw [Hd.out, hlx]; omega)
        have hre := Pol.rem_step x Hp0.out (Pol.len x - Pol.len p)
        rw [hlx, Hd.out, show i + 1 - (d + 1) = k by omega] at hst hre
        rw [hxr] at hre
        have hp1 := Pol.len_pow_mul p k Hp0.out
        rw [Hd.out] at hp1
        have hp64 : p * 2 ^ k < 18446744073709551616 := lt64 (by omega)
        have hv := u64_xor_nat x (p * 2 ^ k) hx64 hp64
        have hqe : ((p * 2 ^ k : Nat) : Int) = (p : Int) * 2 ^ k := by rw [Int.natCast_mul, Int.natCast_pow]; rfl
        rw [hqe] at hv
        obtain ⟨x', hx'⟩ : ∃ x', x' = x ^^^ p * 2 ^ k := ⟨_, rfl⟩
        rw [← hx'] at hv hre hst
        have hw := wrap_u64_in ((p : Int) * 2 ^ k) (by omega) (by omega)
        have hdk : ((i : Int) - (d : Int)) = (k : Int) := by omega
        have hdk' : IntKind.i64.wrap ((i : Int) - (d : Int)) = (k : Int) := by rw [hdk]; exact IntWalk.i64_in _ (by omega)
        have hk63 : k ≤ 63 := by omega
        clear hqe hp64 hp1 hx64 hx' hi hlx hb1
        have Hv := Lib.hid hv; clear hv
        have Hre := Lib.hid hre; clear hre
        have Hst := Lib.hid hst; clear hst
        have Hk := Lib.hid hk; clear hk
        clear hxr hx
        go_wp2_with fail
        rw [Hv.out]
        have hst := Hst.out
        go_round
        case rel => exact ⟨x', i, by omega, by omega, by omega, Hre.out, rfl, by go_num⟩
        case measure => simp [intOf]
      · rw [show x / 2 ^ i % 2 = 0 by omega, show ((0 : Nat) : Int) = 0 from rfl] at hbi
        have hlx : Pol.len x ≤ i := by
          by_cases e : Pol.len x = i + 1
          · exfalso
            have h1 : 2 ^ i ≤ x := (Pol.lt_len x i).1 (by omega)
            have h2 : x < 2 ^ (i + 1) := (Pol.len_le x _).1 (by omega)
            rw [Nat.pow_succ] at h2
            have : x / 2 ^ i = 1 := Nat.div_eq_of_lt_le (by omega) (by omega)
            omega
          · omega
        have Hlx := Lib.hid hlx; clear hlx
        have Hxr := Lib.hid hxr; clear hxr
        clear hb1 hx hx64 hi
        go_wp2_with fail
        go_round
        case rel => exact ⟨x, i, by omega, by omega, Hlx.out, Hxr.out, rfl, by go_num⟩
        case measure => simp [intOf]

theorem refMay_any (p : Nat) (hp : p < 18446744073709551616) (w : World) :
    Calls Try.prog 24 #[.int .u64 p] w fun e w' => e = .returned (.bool (decide (2 ≤ Pol.len p ∧ Pol.len p ≤ 57))) ∧ w = w' := by
  have cp := fun u => refDeg_any p hp u
  have Cp := Lib.hid cp; clear cp
  have hlp := len64 hp
  have Hp := Lib.hid hp; clear hp
  generalize Pol.len p = L at *
  go_enter Try.func24, Try.ntmps24
  go_wp2_with fail
  refine (Cp.out _).mono ?_; rintro e w1 ⟨rfl, rfl⟩
  by_cases h1 : 2 ≤ L
  · have g1 : decide ((1 : Int) ≤ ((L : Int) - 1)) = true := decide_eq_true (by omega)
    go_wp2_with fail
    refine (Cp.out _).mono ?_; rintro e w1 ⟨rfl, rfl⟩
    by_cases h2 : L ≤ 57
    · have g2 : decide (((L : Int) - 1) ≤ 56) = true := decide_eq_true (by omega)
      go_wp2_with fail
      go_ret
      exact ⟨by rw [decide_eq_true (⟨h1, h2⟩ : 2 ≤ L ∧ L ≤ 57)]; rfl, rfl⟩
    · have g2 : decide (((L : Int) - 1) ≤ 56) = false := decide_eq_false (by omega)
      go_wp2_with fail
      go_ret
      exact ⟨by rw [decide_eq_false (fun h => h2 h.2 : ¬ (2 ≤ L ∧ L ≤ 57))]; rfl, rfl⟩
  · have g1 : decide ((1 : Int) ≤ ((L : Int) - 1)) = false := decide_eq_false (by omega)
    go_wp2_with fail
    go_ret
    exact ⟨by rw [decide_eq_false (fun h => h1 h.1 : ¬ (2 ≤ L ∧ L ≤ 57))]; rfl, rfl⟩

theorem refMod_any (a p : Nat) (ha : a < 18446744073709551616) (hp : p < 18446744073709551616) (w : World) :
    (p = 0 → Calls Try.prog 8 #[.int .u64 a, .int .u64 p] w fun e w' => e = .returned (.tuple #[.int .u64 0, .int .i64 2]) ∧ w = w') ∧
    (p ≠ 0 → Calls Try.prog 8 #[.int .u64 a, .int .u64 p] w fun e w' => e = .returned (.tuple #[.int .u64 (Pol.rem a p : Nat), .int .i64 0]) ∧ w = w') := by
  refine ⟨fun h => ?_, fun h => ?_⟩
  · subst h
    go_enter Try.func8, Try.ntmps8
    go_wp2_with fail
    go_ret2
    exact ⟨rfl, rfl⟩
  · have c := fun u => rest_any a p ha hp h u
    have C := Lib.hid c; clear c
    have hd : decide (p = 0) = false := decide_eq_false h
    have Ha := Lib.hid ha; clear ha
    have Hp := Lib.hid hp; clear hp
    generalize Pol.rem a p = r at *
    go_enter Try.func8, Try.ntmps8
    go_wp2_with fail
    refine (C.out _).mono ?_; rintro e w1 ⟨rfl, rfl⟩
    go_wp2_with fail
    go_ret2
    exact ⟨rfl, rfl⟩

theorem refGcd_any (a b : Nat) (ha : a < 18446744073709551616) (hb : b < 18446744073709551616) (w : World) :
    Calls Try.prog 14 #[.int .u64 a, .int .u64 b] w fun e w' => e = .returned (.int .u64 (Pol.gcd a b : Nat)) ∧ w = w' := by
  obtain ⟨r, hr⟩ : ∃ r, r = Pol.gcd a b := ⟨_, rfl⟩
  rw [← hr]
  have Ha := Lib.hid ha; clear ha
  have Hb := Lib.hid hb; clear hb
  have Hr := Lib.hid hr; clear hr
  go_enter Try.func14, Try.ntmps14
  go_wp2_with fail
  go_loop [0, 1] (fun s t => ∃ x y : Nat, x < 18446744073709551616 ∧ y < 18446744073709551616 ∧ Pol.gcd x y = r ∧ s = .int .u64 x ∧ t = .int .u64 y) (fun _ t => Pol.len (intOf t).toNat)
  case atStart => exact ⟨a, b, Ha.out, Hb.out, Hr.out.symm, rfl, rfl⟩
  case round =>
    obtain ⟨x, y, hx, hy, hxy, rfl, rfl⟩ := hrel
    by_cases hc : y = 0
    · subst hc
      rw [Pol.gcd_zero] at hxy
      subst hxy
      go_wp2_with fail
      go_ret
      exact ⟨rfl, rfl⟩
    · have hd : decide (y = 0) = false := decide_eq_false hc
      have c := fun u => rest_any x y hx hy hc u
      have C := Lib.hid c; clear c
      have hl := Pol.rem_len x hc
      have hr64 : Pol.rem x y < 18446744073709551616 := lt64 (by have := len64 hy; omega)
      rw [Pol.gcd_step x hc] at hxy
      generalize Pol.rem x y = z at *
      have Hl := Lib.hid hl; clear hl
      have Hxy := Lib.hid hxy; clear hxy
      have Hy := Lib.hid hy; clear hy
      have Hz := Lib.hid hr64; clear hr64
      clear hx
      go_wp2_with fail
      refine (C.out _).mono ?_; rintro e w1 ⟨rfl, rfl⟩
      go_wp2_with fail
      go_round
      case rel => exact ⟨y, z, Hy.out, Hz.out, Hxy.out, rfl, rfl⟩
      case measure => simpa [intOf] using Hl.out

theorem refMul_any (a b p : Nat) (ha : a < 18446744073709551616) (hb : b < 18446744073709551616) (hp : p < 18446744073709551616) (w : World) :
    (¬ Pol.may p → Calls Try.prog 10 #[.int .u64 a, .int .u64 b, .int .u64 p] w fun e w' => e = .returned (.tuple #[.int .u64 0, .int .i64 2]) ∧ w = w') ∧
    (Pol.may p → Calls Try.prog 10 #[.int .u64 a, .int .u64 b, .int .u64 p] w fun e w' => e = .returned (.tuple #[.int .u64 (Pol.rem (Pol.mul a b) p : Nat), .int .i64 0]) ∧ w = w') := by
  have cm := fun u => refMay_any p hp u
  refine ⟨fun h => ?_, fun h => ?_⟩
  · rw [decide_eq_false (show ¬ (2 ≤ Pol.len p ∧ Pol.len p ≤ 57) from h)] at cm
    have Cm := Lib.hid cm; clear cm
    clear ha hb hp h
    go_enter Try.func10, Try.ntmps10
    go_wp2_with fail
    refine (Cm.out _).mono ?_; rintro e w1 ⟨rfl, rfl⟩
    go_wp2_with fail
    go_ret2
    exact ⟨rfl, rfl⟩
  · rw [decide_eq_true (show 2 ≤ Pol.len p ∧ Pol.len p ≤ 57 from h)] at cm
    have Cm := Lib.hid cm; clear cm
    have hp2 := h.1
    have hp57 := h.2
    clear h
    have hp0 : p ≠ 0 := fun e => by subst e; rw [Pol.len_zero] at hp2; omega
    have cr := fun u => rest_any a p ha hp hp0 u
    have Cr := Lib.hid cr; clear cr
    obtain ⟨r, hr⟩ : ∃ r, r = Pol.rem (Pol.mul a b) p := ⟨_, rfl⟩
    rw [← hr]
    rw [← Pol.rem_mul_left a b hp0] at hr
    have ha' := Pol.rem_len a hp0
    generalize Pol.rem a p = q at *
    have hq64 : q < 18446744073709551616 := lt64 (by omega)
    have Hr := Lib.hid hr; clear hr
    have hdl : b / 2 ^ 64 = 0 := Nat.div_eq_of_lt hb
    have hbit := fun k => Pol.rem_bit hp0 ha' b k
    have hsl : ∀ k, Pol.len (Pol.rem (Pol.mul q (b / 2 ^ k)) p) < Pol.len p := fun k => Pol.rem_len _ hp0
    have cs : ∀ x, Pol.len x < Pol.len p → ∀ u, _ := fun x hx u => rest_any (2 * x) p (lt64 (by
      by_cases h0 : x = 0
      · subst h0; rw [Nat.mul_zero, Pol.len_zero]; omega
      · rw [Pol.len_double x h0]; omega)) hp hp0 u
    have hwr : ∀ x, Pol.len x < Pol.len p → IntKind.u64.wrap ((x : Int) * 2) = (x : Int) * 2 := fun x hx => wrap_u64_in _ (by omega) (by
      have h0 : 2 * x < 18446744073709551616 := lt64 (by
        by_cases h0 : x = 0
        · subst h0; rw [Nat.mul_zero, Pol.len_zero]; omega
        · rw [Pol.len_double x h0]; omega)
      omega)
    have Hwr := Lib.hid hwr; clear hwr
    have hrl : ∀ x, Pol.rem x p < 18446744073709551616 := fun x => lt64 (by have := Pol.rem_len x hp0; omega)
    have Hrl := Lib.hid hrl; clear hrl
    have Cs := Lib.hid cs; clear cs
    have Hsl := Lib.hid hsl; clear hsl
    have Hbit := Lib.hid hbit; clear hbit
    have Ha64 := Lib.hid hq64; clear hq64
    have h0 : Pol.rem (Pol.mul q 0) p = 0 := Pol.rem_small (by rw [Pol.mul_zero, Pol.len_zero]; omega)
    have h1 : Pol.rem (Pol.mul q (b / 2 ^ 64)) p = 0 := by rw [hdl]; exact h0
    have H1 := Lib.hid h1; clear h1 h0 hdl
    clear ha hb hp hp0 hp2 hp57 ha'
    go_enter Try.func10, Try.ntmps10
    go_wp2_with fail
    refine (Cm.out _).mono ?_; rintro e w1 ⟨rfl, rfl⟩
    go_wp2_with fail
    refine (Cr.out _).mono ?_; rintro e w1 ⟨rfl, rfl⟩
    go_wp2_with fail
    go_loop [8, 9] (fun s i => ∃ k : Nat, k ≤ 64 ∧ i = .int .i64 ((k : Int) - 1) ∧ s = .int .u64 (Pol.rem (Pol.mul q (b / 2 ^ k)) p : Nat)) (fun _ i => (intOf i + 1).toNat)
    case atStart => exact ⟨64, Nat.le_refl _, rfl, by rw [H1.out]; rfl⟩
    case round =>
      obtain ⟨k, hk, rfl, rfl⟩ := hrel
      by_cases hc : k = 0
      · subst hc
        have hge : decide ((0 : Int) ≤ (((0 : Nat) : Int) - 1)) = false := by decide
        have e0 : Pol.rem (Pol.mul q (b / 2 ^ 0)) p = r := by rw [Nat.pow_zero, Nat.div_one]; exact Hr.out.symm
        rw [e0]
        clear e0
        go_wp2_with fail
        go_ret2
        exact ⟨rfl, rfl⟩
      · obtain ⟨j, rfl⟩ : ∃ j, k = j + 1 := ⟨k - 1, by omega⟩
        have hd : (((j + 1 : Nat) : Int) - 1) = (j : Int) := by omega
        rw [hd]
        have hge : decide ((0 : Int) ≤ (j : Int)) = true := decide_eq_true (by omega)
        have hs := Hsl.out (j + 1)
        obtain ⟨ho, hz⟩ := Hbit.out j
        have hs64 := Hrl.out (2 * Pol.rem (Pol.mul q (b / 2 ^ (j + 1))) p)
        generalize Pol.rem (Pol.mul q (b / 2 ^ (j + 1))) p = s at *
        have cs := Cs.out s hs
        have hw2 := Hwr.out s hs
        rw [show ((2 * s : Nat) : Int) = (s : Int) * 2 by omega] at cs
        generalize Pol.rem (2 * s) p = s2 at *
        have CS := Lib.hid cs; clear cs
        have hbi := bit_tmod b j
        have hj64 : j ≤ 63 := by omega
        have hx := u64_xor_nat s2 q hs64 Ha64.out
        clear hs64 hs hd
        by_cases hb1 : b / 2 ^ j % 2 = 1
        · rw [hb1, show ((1 : Nat) : Int) = 1 from rfl] at hbi
          have e := ho hb1
          rw [← e] at hx
          have Hx := Lib.hid hx; clear hx
          clear ho hz hb1 e
          go_wp2_with fail
          refine (CS.out _).mono ?_; rintro e w1 ⟨rfl, rfl⟩
          go_wp2_with fail
          rw [Hx.out]
          go_round
          case rel => exact ⟨j, by omega, by go_num, rfl⟩
          case measure => simp [intOf]
        · rw [show b / 2 ^ j % 2 = 0 by omega, show ((0 : Nat) : Int) = 0 from rfl] at hbi
          have e := hz hb1
          have He := Lib.hid e
          clear ho hz hb1 e hx
          go_wp2_with fail
          refine (CS.out _).mono ?_; rintro e w1 ⟨rfl, rfl⟩
          go_wp2_with fail
          go_round
          case rel => exact ⟨j, by omega, by go_num, by rw [He.out]⟩
          case measure => simp [intOf]

theorem refUp_any (n : Int) (p : Nat) (hp : p < 18446744073709551616) (hn : n < 9223372036854775807) (w : World) :
    (¬ (0 ≤ n ∧ Pol.may p) → Calls Try.prog 17 #[.int .i64 n, .int .u64 p] w fun e w' => e = .returned (.tuple #[.int .u64 0, .int .i64 2]) ∧ w = w') ∧
    (0 ≤ n ∧ Pol.may p → Calls Try.prog 17 #[.int .i64 n, .int .u64 p] w fun e w' => e = .returned (.tuple #[.int .u64 (Pol.rem (2 ^ n.toNat) p : Nat), .int .i64 0]) ∧ w = w') := by
  have cm := fun u => refMay_any p hp u
  refine ⟨fun h => ?_, fun ⟨h0, h⟩ => ?_⟩
  · by_cases h0 : n < 0
    · have g : decide (n < 0) = true := decide_eq_true h0
      clear cm hp hn h
      go_enter Try.func17, Try.ntmps17
      go_wp2_with fail
      go_ret2
      exact ⟨rfl, rfl⟩
    · have g : decide (n < 0) = false := decide_eq_false h0
      rw [decide_eq_false (show ¬ (2 ≤ Pol.len p ∧ Pol.len p ≤ 57) from fun c => h ⟨by omega, c⟩)] at cm
      have Cm := Lib.hid cm; clear cm
      clear hp hn h
      go_enter Try.func17, Try.ntmps17
      go_wp2_with fail
      refine (Cm.out _).mono ?_; rintro e w1 ⟨rfl, rfl⟩
      go_wp2_with fail
      go_ret2
      exact ⟨rfl, rfl⟩
  · have g : decide (n < 0) = false := decide_eq_false (by omega)
    rw [decide_eq_true (show 2 ≤ Pol.len p ∧ Pol.len p ≤ 57 from h)] at cm
    have Cm := Lib.hid cm; clear cm
    obtain ⟨N, rfl⟩ : ∃ N : Nat, n = (N : Int) := ⟨n.toNat, by omega⟩
    rw [Int.toNat_natCast]
    obtain ⟨R, hR⟩ : ∃ R, R = Pol.rem (2 ^ N) p := ⟨_, rfl⟩
    rw [← hR]
    have HR := Lib.hid hR; clear hR
    have hp2 := h.1
    have hp57 := h.2
    clear h
    have hp0 : p ≠ 0 := fun e => by subst e; rw [Pol.len_zero] at hp2; omega
    have c1 := fun u => rest_any 1 p (by decide) hp hp0 u
    have C1 := Lib.hid c1; clear c1
    have hsl : ∀ k, Pol.len (Pol.rem (2 ^ k) p) < Pol.len p := fun k => Pol.rem_len _ hp0
    have hst := fun k => Pol.pow_step k hp0
    have cs : ∀ x, Pol.len x < Pol.len p → ∀ u, _ := fun x hx u => rest_any (2 * x) p (lt64 (by
      by_cases h0 : x = 0
      · subst h0; rw [Nat.mul_zero, Pol.len_zero]; omega
      · rw [Pol.len_double x h0]; omega)) hp hp0 u
    have hwr : ∀ x, Pol.len x < Pol.len p → IntKind.u64.wrap ((x : Int) * 2) = (x : Int) * 2 := fun x hx => wrap_u64_in _ (by omega) (by
      have h0 : 2 * x < 18446744073709551616 := lt64 (by
        by_cases h0 : x = 0
        · subst h0; rw [Nat.mul_zero, Pol.len_zero]; omega
        · rw [Pol.len_double x h0]; omega)
      omega)
    have Hwr := Lib.hid hwr; clear hwr
    have Cs := Lib.hid cs; clear cs
    have Hsl := Lib.hid hsl; clear hsl
    have Hst := Lib.hid hst; clear hst
    have Hn := Lib.hid hn; clear hn
    clear hp hp0 hp2 hp57
    go_enter Try.func17, Try.ntmps17
    go_wp2_with fail
    refine (Cm.out _).mono ?_; rintro e w1 ⟨rfl, rfl⟩
    go_wp2_with fail
    refine (C1.out _).mono ?_; rintro e w1 ⟨rfl, rfl⟩
    go_wp2_with fail
    go_loop [6, 7] (fun s i => ∃ k : Nat, k ≤ N ∧ i = .int .i64 (k : Int) ∧ s = .int .u64 (Pol.rem (2 ^ k) p : Nat)) (fun _ i => N - (intOf i).toNat)
    case atStart => exact ⟨0, Nat.zero_le _, rfl, rfl⟩
    case round =>
      obtain ⟨k, hk, rfl, rfl⟩ := hrel
      by_cases hc : k = N
      · subst hc
        rw [← HR.out]
        have hge : decide ((k : Int) < (k : Int)) = false := decide_eq_false (by omega)
        go_wp2_with fail
        go_ret2
        exact ⟨rfl, rfl⟩
      · have hge : decide ((k : Int) < (N : Int)) = true := decide_eq_true (by omega)
        have hge' : decide (k < N) = true := decide_eq_true (by omega)
        have hs := Hsl.out k
        have he := Hst.out k
        generalize Pol.rem (2 ^ k) p = s at *
        have cs := Cs.out s hs
        rw [he, show ((2 * s : Nat) : Int) = (s : Int) * 2 by omega] at cs
        have hw2 := Hwr.out s hs
        have CS := Lib.hid cs; clear cs
        clear hs he
        have hk2 : (k : Int) + 1 < 9223372036854775808 := by have := Hn.out; omega
        go_wp2_with fail
        refine (CS.out _).mono ?_; rintro e w1 ⟨rfl, rfl⟩
        go_wp2_with fail
        go_round
        case rel => exact ⟨k + 1, by omega, by go_num, rfl⟩
        case measure => simp [intOf]; omega
end Go.Proofs.Ytimcaihiobcccaa
