/-
  The chapter's examples.
-/
import Derived.Test.YtimcaihiobcccaaPolRefPrime
set_option linter.unusedVariables false
namespace Go.Proofs.Ytimcaihiobcccaa
open Go.RowKit

theorem said19 : primeB 19 = true := primeB_true ⟨by decide, fun i h1 h2 => by
  rw [show (Pol.len 19 - 1) / 2 = 2 by decide] at h2
  have : i = 1 ∨ i = 2 := by omega
  rcases this with rfl | rfl <;> decide +kernel⟩
theorem said21 : primeB 21 = false := primeB_false (fun h => by
  have h2 := h.2 2 (by decide) (by decide)
  exact absurd h2 (by decide +kernel))
theorem said1 : primeB 1 = false := primeB_false (fun h => absurd h.1.1 (by decide))

set_option maxRecDepth 100000 in
set_option maxHeartbeats 1000000 in
theorem alive_any (w : World) :
    Calls Try.prog 15 #[] w fun e w' => e = .returned (.bool true) ∧ Below w.heap.size w w' := by
  have c1 := fun u => (mod_any 21 7 (by decide) (by decide) u).2 (by decide)
  rw [show Pol.rem 21 7 = 0 by decide +kernel] at c1
  have c2 := fun u => (mul_any 2 8 19 (by decide) (by decide) (by decide) u).2 (by decide)
  rw [show Pol.rem (Pol.mul 2 8) 19 = 3 by decide +kernel] at c2
  have c3 := fun u => (up_any 4 19 (by decide) (by decide) u).2 (by decide)
  rw [show Pol.rem (2 ^ (4 : Int).toNat) 19 = 3 by decide +kernel] at c3
  have c4 := fun u => (mod_any 1 0 (by decide) (by decide) u).1 rfl
  have c5 := fun u => (mul_any 1 1 1 (by decide) (by decide) (by decide) u).1 (by decide)
  have d0 := fun u => deg_any 0 (by decide) u
  rw [show ((Pol.len 0 : Int) - 1) = -1 by decide] at d0
  have d1 := fun u => deg_any 1 (by decide) u
  rw [show ((Pol.len 1 : Int) - 1) = 0 by decide] at d1
  have d2 := fun u => deg_any 19 (by decide) u
  rw [show ((Pol.len 19 : Int) - 1) = 4 by decide] at d2
  have g := fun u => gcd_any 6 5 (by decide) (by decide) u
  rw [show Pol.gcd 6 5 = 3 by decide +kernel] at g
  have p1 := fun u => prime_any 19 (by decide) u
  rw [said19] at p1
  have p2 := fun u => prime_any 21 (by decide) u
  rw [said21] at p2
  have p3 := fun u => prime_any 1 (by decide) u
  rw [said1] at p3
  have C1 := Lib.hid c1; clear c1
  have C2 := Lib.hid c2; clear c2
  have C3 := Lib.hid c3; clear c3
  have C4 := Lib.hid c4; clear c4
  have C5 := Lib.hid c5; clear c5
  have D0 := Lib.hid d0; clear d0
  have D1 := Lib.hid d1; clear d1
  have D2 := Lib.hid d2; clear d2
  have G := Lib.hid g; clear g
  have P1 := Lib.hid p1; clear p1
  have P2 := Lib.hid p2; clear p2
  have P3 := Lib.hid p3; clear p3
  go_enter Try.func15, Try.ntmps15
  go_wp2_with fail
  refine (C1.out _).mono ?_; rintro e w1 ⟨rfl, rfl⟩
  go_wp2_with fail
  refine (C2.out _).mono ?_; rintro e w1 ⟨rfl, rfl⟩
  go_wp2_with fail
  refine (C3.out _).mono ?_; rintro e w1 ⟨rfl, h1⟩
  go_wp2_with fail
  refine (C4.out _).mono ?_; rintro e w2 ⟨rfl, rfl⟩
  go_wp2_with fail
  refine (C5.out _).mono ?_; rintro e w2 ⟨rfl, rfl⟩
  go_wp2_with fail
  refine (D0.out _).mono ?_; rintro e w2 ⟨rfl, rfl⟩
  go_wp2_with fail
  refine (D1.out _).mono ?_; rintro e w2 ⟨rfl, rfl⟩
  go_wp2_with fail
  refine (D2.out _).mono ?_; rintro e w2 ⟨rfl, rfl⟩
  go_wp2_with fail
  refine (G.out _).mono ?_; rintro e w2 ⟨rfl, rfl⟩
  go_wp2_with fail
  refine (P1.out _).mono ?_; rintro e w2 ⟨rfl, h2⟩
  go_wp2_with fail
  refine (P2.out _).mono ?_; rintro e w3 ⟨rfl, h3⟩
  go_wp2_with fail
  refine (P3.out _).mono ?_; rintro e w4 ⟨rfl, h4⟩
  go_wp2_with fail
  go_ret
  have k2 := h1.trans (h2.mono h1.size)
  have k3 := k2.trans (h3.mono k2.size)
  exact ⟨rfl, k3.trans (h4.mono k3.size)⟩
end Go.Proofs.Ytimcaihiobcccaa
