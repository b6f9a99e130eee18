/-
  Plain mathematics: which polynomials of a degree up to 16 are prime, as the program finds it: by the factors of x^(2^i) + x, i up to 8.
-/
import Derived.Test.YtimcaihiobcccaaPolPure2
set_option linter.unusedVariables false
namespace Pol

def fac1 : List Nat := [2, 3]
def fac2 : List Nat := [2, 3, 7]
def fac3 : List Nat := [2, 3, 11, 13]
def fac4 : List Nat := [2, 3, 7, 19, 25, 31]
def fac5 : List Nat := [2, 3, 37, 41, 47, 55, 59, 61]
def fac6 : List Nat := [2, 3, 7, 11, 13, 67, 73, 87, 91, 97, 103, 109, 115, 117]
def fac7 : List Nat := [2, 3, 131, 137, 143, 145, 157, 167, 171, 185, 191, 193, 203, 211, 213, 229, 239, 241, 247, 253]
def fac8 : List Nat := [2, 3, 7, 19, 25, 31, 283, 285, 299, 301, 313, 319, 333, 351, 355, 357, 361, 369, 375, 379, 391, 395, 397, 415, 419, 425, 433, 445, 451, 463, 471, 477, 487, 499, 501, 505]
theorem fac1_prod : prod fac1 = 2 ^ 2 ^ 1 ^^^ 2 := by decide +kernel
theorem fac1_small : small 1 fac1 = true := by decide +kernel
theorem fac2_prod : prod fac2 = 2 ^ 2 ^ 2 ^^^ 2 := by decide +kernel
theorem fac2_small : small 2 fac2 = true := by decide +kernel
theorem fac3_prod : prod fac3 = 2 ^ 2 ^ 3 ^^^ 2 := by decide +kernel
theorem fac3_small : small 3 fac3 = true := by decide +kernel
theorem fac4_prod : prod fac4 = 2 ^ 2 ^ 4 ^^^ 2 := by decide +kernel
theorem fac4_small : small 4 fac4 = true := by decide +kernel
theorem fac5_prod : prod fac5 = 2 ^ 2 ^ 5 ^^^ 2 := by decide +kernel
theorem fac5_small : small 5 fac5 = true := by decide +kernel
theorem fac6_prod : prod fac6 = 2 ^ 2 ^ 6 ^^^ 2 := by decide +kernel
theorem fac6_small : small 6 fac6 = true := by decide +kernel
theorem fac7_prod : prod fac7 = 2 ^ 2 ^ 7 ^^^ 2 := by decide +kernel
theorem fac7_small : small 7 fac7 = true := by decide +kernel
theorem fac8_prod : prod fac8 = 2 ^ 2 ^ 8 ^^^ 2 := by decide +kernel
theorem fac8_small : small 8 fac8 = true := by decide +kernel
theorem irr_bo {p : Nat} (hp : irr p) (hl : len p ≤ 17) : bo p := by
  intro i h1 h2
  have h3 : i = 1 ∨ i = 2 ∨ i = 3 ∨ i = 4 ∨ i = 5 ∨ i = 6 ∨ i = 7 ∨ i = 8 := by omega
  rcases h3 with rfl | rfl | rfl | rfl | rfl | rfl | rfl | rfl
  · exact irr_bo_of hp fac1 fac1_prod fac1_small h2
  · exact irr_bo_of hp fac2 fac2_prod fac2_small h2
  · exact irr_bo_of hp fac3 fac3_prod fac3_small h2
  · exact irr_bo_of hp fac4 fac4_prod fac4_small h2
  · exact irr_bo_of hp fac5 fac5_prod fac5_small h2
  · exact irr_bo_of hp fac6 fac6_prod fac6_small h2
  · exact irr_bo_of hp fac7 fac7_prod fac7_small h2
  · exact irr_bo_of hp fac8 fac8_prod fac8_small h2
/-- the program's answer is the document's -/
theorem bo_tri {p : Nat} (h2 : 2 ≤ len p) (hl : len p ≤ 17) : bo p ↔ tri p :=
  ⟨fun h => irr_tri (bo_irr h2 h), fun h => irr_bo (tri_irr h2 h) hl⟩
end Pol
