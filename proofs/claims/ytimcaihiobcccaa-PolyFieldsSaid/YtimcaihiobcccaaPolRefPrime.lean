/-
  What the document's Prime returns, of a degree up to 16.
-/
import Derived.Test.YtimcaihiobcccaaPolRef
import Derived.Test.YtimcaihiobcccaaPolPure3
import Derived.Test.YtimcaihiobcccaaPolPrime
set_option linter.unusedVariables false
namespace Go.Proofs.Ytimcaihiobcccaa
open Go.RowKit

theorem Pol.len_mono {a b : Nat} (h : a ≤ b) : Pol.len a ≤ Pol.len b := (Pol.len_le a _).2 (Nat.lt_of_le_of_lt h ((Pol.len_le b _).1 (Nat.le_refl _)))

theorem refPrime_any (p : Nat) (hp16 : Pol.len p ≤ 17) (w : World) :
    Calls Try.prog 19 #[.int .u64 p] w fun e w' => e = .returned (.bool (primeB p)) ∧ w = w' := by
  have hp : p < 18446744073709551616 := lt64 (by omega)
  have cp := fun u => refDeg_any p hp u
  have Cp := Lib.hid cp; clear cp
  obtain ⟨rb, hrb⟩ : ∃ rb, rb = primeB p := ⟨_, rfl⟩
  rw [← hrb]
  by_cases h2 : 2 ≤ Pol.len p
  · have hiff : Pol.said p ↔ Pol.tri p := ⟨fun h => (Pol.bo_tri h2 hp16).1 h.2, fun h => ⟨⟨h2, by omega⟩, (Pol.bo_tri h2 hp16).2 h⟩⟩
    have htr : Pol.tri p → rb = true := fun h => by rw [hrb]; exact primeB_true (hiff.2 h)
    have hfa : ¬ Pol.tri p → rb = false := fun h => by rw [hrb]; exact primeB_false (fun c => h (hiff.1 c))
    have Htr := Lib.hid htr; clear htr
    have Hfa := Lib.hid hfa; clear hfa
    clear hrb hiff
    have hfa2 : ∀ q, 2 ≤ q → 2 * (Pol.len q - 1) ≤ Pol.len p - 1 → Pol.rem p q = 0 → rb = false := fun q h1 h2 h3 => Hfa.out (fun c => c q h1 h2 h3)
    have htr2 : ∀ q, (∀ q', 2 ≤ q' → q' < q → Pol.rem p q' ≠ 0) → ¬ 2 * (Pol.len q - 1) ≤ Pol.len p - 1 → rb = true := fun q h1 h2 => Htr.out (fun q' h3 h4 => h1 q' h3 (by
      by_cases e : q' < q
      · exact e
      · have := Pol.len_mono (show q ≤ q' by omega)
        omega))
    have Hfa2 := Lib.hid hfa2; clear hfa2 Hfa
    have Htr2 := Lib.hid htr2; clear htr2 Htr
    obtain ⟨L, hL⟩ : ∃ L, L = Pol.len p := ⟨_, rfl⟩
    rw [← hL] at Cp Hfa2 Htr2 h2 hp16
    have hd : decide (((L : Int) - 1) < 1) = false := decide_eq_false (by omega)
    have Hp := Lib.hid hp; clear hp
    clear hL
    go_enter Try.func19, Try.ntmps19
    go_wp2_with fail
    refine (Cp.out _).mono ?_; rintro e w1 ⟨rfl, rfl⟩
    go_wp2_with fail
    go_loop [4] (fun q => ∃ k : Nat, 2 ≤ k ∧ k ≤ 512 ∧ q = .int .u64 (k : Int) ∧ ∀ q', 2 ≤ q' → q' < k → Pol.rem p q' ≠ 0) (fun q => 513 - (intOf q).toNat)
    case atStart => exact ⟨2, by omega, by omega, rfl, fun q' h1 h2 => by omega⟩
    case round =>
      obtain ⟨k, hk2, hk, rfl, hall⟩ := hrel
      have hk64 : k < 18446744073709551616 := by omega
      have ck := fun u => refDeg_any k hk64 u
      have Ck := Lib.hid ck; clear ck
      have hlk : 2 ≤ Pol.len k := Pol.two_le_len (by omega) (by omega)
      have hl64 := len64 hk64
      have hb := Hfa2.out k hk2
      have ht := Htr2.out k hall
      have hsm : 2 * (Pol.len k - 1) ≤ L - 1 → k < 512 := fun h => (Pol.len_le k 9).1 (by omega)
      have cr := fun u => rest_any p k Hp.out hk64 (by omega) u
      have hnx := fun (h : Pol.rem p k ≠ 0) q' (h1 : 2 ≤ q') (h2 : q' < k + 1) => (show Pol.rem p q' ≠ 0 by
        by_cases e : q' = k
        · subst e; exact h
        · exact hall q' h1 (by omega))
      have hr64 : Pol.rem p k < 18446744073709551616 := by
        have := Pol.rem_len p (show k ≠ 0 by omega)
        exact lt64 (by omega)
      obtain ⟨r, hr⟩ : ∃ r, r = Pol.rem p k := ⟨_, rfl⟩
      rw [← hr] at hb hnx cr
      have Cr := Lib.hid cr; clear cr
      generalize Pol.len k = lk at *
      have Hnx := Lib.hid hnx; clear hnx
      clear hr hall hr64 hk64
      have hwm : IntKind.i64.wrap (2 * ((lk : Int) - 1)) = 2 * ((lk : Int) - 1) := IntWalk.i64_in _ (by omega)
      by_cases hc : 2 * (lk - 1) ≤ L - 1
      · have hge : decide (2 * ((lk : Int) - 1) ≤ ((L : Int) - 1)) = true := decide_eq_true (by omega)
        have hb := hb hc
        have hk512 := hsm hc
        clear ht hsm
        have Hb := Lib.hid hb; clear hb
        go_wp2_with fail
        refine (Ck.out _).mono ?_; rintro e w1 ⟨rfl, rfl⟩
        go_wp2_with fail
        refine (Cr.out _).mono ?_; rintro e w1 ⟨rfl, rfl⟩
        by_cases h0 : r = 0
        · have hd0 : decide (r = 0) = true := decide_eq_true h0
          have e := Hb.out h0
          subst e
          go_wp2_with fail
          go_ret
          exact ⟨rfl, rfl⟩
        · have hd0 : decide (r = 0) = false := decide_eq_false h0
          have e := Hnx.out h0
          have He := Lib.hid e; clear e
          go_wp2_with fail
          go_round
          case rel => exact ⟨k + 1, by omega, by omega, by go_num, He.out⟩
          case measure => simp [intOf]; omega
      · have hge : decide (2 * ((lk : Int) - 1) ≤ ((L : Int) - 1)) = false := decide_eq_false (by omega)
        have e := ht hc
        subst e
        clear ht hsm hb
        go_wp2_with fail
        refine (Ck.out _).mono ?_; rintro e w1 ⟨rfl, rfl⟩
        go_wp2_with fail
        go_ret
        exact ⟨rfl, rfl⟩
  · have hrf : rb = false := by rw [hrb]; exact primeB_false (fun c => h2 c.1.1)
    subst hrf
    have hd : decide (((Pol.len p : Int) - 1) < 1) = true := decide_eq_true (by omega)
    clear hrb hp
    generalize Pol.len p = L at *
    go_enter Try.func19, Try.ntmps19
    go_wp2_with fail
    refine (Cp.out _).mono ?_; rintro e w1 ⟨rfl, rfl⟩
    go_wp2_with fail
    go_ret
    exact ⟨rfl, rfl⟩
end Go.Proofs.Ytimcaihiobcccaa
