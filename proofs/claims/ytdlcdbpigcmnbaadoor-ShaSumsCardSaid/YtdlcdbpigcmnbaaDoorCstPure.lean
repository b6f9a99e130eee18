/-
  Plain mathematics: the document's constants, from the primes, as its program reckons them; they are the published ones.
-/
import Derived.Test.YtdlcdbpigcmnbaaDoorShaPure
set_option linter.unusedVariables false
namespace Cst

def pr (n k : Nat) : Nat → Bool
  | 0 => decide (1 < n)
  | f + 1 => if k * k ≤ n then (if n % k = 0 then false else pr n (k + 1) f) else decide (1 < n)
def prim (n : Nat) : Bool := pr n 2 n
def upTo (k : Nat) : List Nat := (List.range k).filter prim

def dg (y : Nat) : List Nat := [y % 65536, y / 65536 % 65536, y / 65536 / 65536]
def zs (n : Nat) : List Nat := List.replicate n 0
def stp (x : Nat) (B : List Nat) (i k : Nat) (p : List Nat × Nat) : List Nat × Nat :=
  (p.1.set (i + k) ((p.1.getD (i + k) 0 + x * B.getD k 0 + p.2) % 18446744073709551616 % 65536), (p.1.getD (i + k) 0 + x * B.getD k 0 + p.2) % 18446744073709551616 / 65536)
def tin (x : Nat) (B : List Nat) (i : Nat) (O : List Nat) : Nat → List Nat × Nat
  | 0 => (O, 0)
  | k + 1 => stp x B i k (tin x B i O k)
def fin (p : List Nat × Nat) (j : Nat) : List Nat := p.1.set j p.2
def tout (A B : List Nat) : Nat → List Nat
  | 0 => zs (A.length + B.length)
  | i + 1 => fin (tin (A.getD i 0) B i (tout A B i) B.length) (i + B.length)
def tm (A B : List Nat) : List Nat := tout A B A.length
def hiF (P : List Nat) (L : Nat) : Nat → Nat
  | 0 => 0
  | j + 1 => (hiF P L j * 65536 + P.getD (L - 1 - j) 0) % 18446744073709551616
def ms (P : List Nat) (L n k : Nat) : Bool := if (P.take k).all (fun x => x == 0) then decide (hiF P L (L - k) ≤ n) else decide (hiF P L (L - k) < n)
def test (n : Nat) (c : Bool) (y : Nat) : Bool := match c with
  | true => ms (tm (tm (dg y) (dg y)) (dg y)) 9 n 6
  | false => ms (tm (dg y) (dg y)) 6 n 4
/-- x behind the rounds for the bits 40 to 41 - j -/
def rt (n : Nat) (c : Bool) : Nat → Nat
  | 0 => 0
  | j + 1 => if test n c (rt n c j ||| 2 ^ (40 - j)) then rt n c j ||| 2 ^ (40 - j) else rt n c j
def root (n : Nat) (c : Bool) : Nat := rt n c 41 % 4294967296
theorem sixtyThree : (upTo 311).length = 63 := by decide +kernel
theorem sixtyFour : (upTo 312).length = 64 := by decide +kernel
theorem upTo_mono (k : Nat) : (upTo k).length ≤ (upTo (k + 1)).length := by
  unfold upTo
  rw [List.range_succ, List.filter_append, List.length_append]
  omega
theorem upTo_le (k m : Nat) (h : k ≤ m) : (upTo k).length ≤ (upTo m).length := by
  induction m with
  | zero => obtain rfl : k = 0 := by omega
            exact Nat.le_refl _
  | succ m ih =>
    by_cases e : k = m + 1
    · subst e; exact Nat.le_refl _
    · exact Nat.le_trans (ih (by omega)) (upTo_mono m)
theorem upTo_succ (k : Nat) : upTo (k + 1) = upTo k ++ (if prim k then [k] else []) := by
  unfold upTo
  rw [List.range_succ, List.filter_append]
  congr 1
  by_cases h : prim k = true <;> simp [h]
theorem primes_lit : upTo 312 = [2, 3, 5, 7, 11, 13, 17, 19, 23, 29, 31, 37, 41, 43, 47, 53, 59, 61, 67, 71, 73, 79, 83, 89, 97, 101, 103, 107, 109, 113, 127, 131, 137, 139, 149, 151, 157, 163, 167, 173, 179, 181, 191, 193, 197, 199, 211, 223, 227, 229, 233, 239, 241, 251, 257, 263, 269, 271, 277, 281, 283, 293, 307, 311] := by decide +kernel
theorem k0 : root 2 true = 1116352408 := by decide +kernel
theorem k1 : root 3 true = 1899447441 := by decide +kernel
theorem k2 : root 5 true = 3049323471 := by decide +kernel
theorem k3 : root 7 true = 3921009573 := by decide +kernel
theorem k4 : root 11 true = 961987163 := by decide +kernel
theorem k5 : root 13 true = 1508970993 := by decide +kernel
theorem k6 : root 17 true = 2453635748 := by decide +kernel
theorem k7 : root 19 true = 2870763221 := by decide +kernel
theorem k8 : root 23 true = 3624381080 := by decide +kernel
theorem k9 : root 29 true = 310598401 := by decide +kernel
theorem k10 : root 31 true = 607225278 := by decide +kernel
theorem k11 : root 37 true = 1426881987 := by decide +kernel
theorem k12 : root 41 true = 1925078388 := by decide +kernel
theorem k13 : root 43 true = 2162078206 := by decide +kernel
theorem k14 : root 47 true = 2614888103 := by decide +kernel
theorem k15 : root 53 true = 3248222580 := by decide +kernel
theorem k16 : root 59 true = 3835390401 := by decide +kernel
theorem k17 : root 61 true = 4022224774 := by decide +kernel
theorem k18 : root 67 true = 264347078 := by decide +kernel
theorem k19 : root 71 true = 604807628 := by decide +kernel
theorem k20 : root 73 true = 770255983 := by decide +kernel
theorem k21 : root 79 true = 1249150122 := by decide +kernel
theorem k22 : root 83 true = 1555081692 := by decide +kernel
theorem k23 : root 89 true = 1996064986 := by decide +kernel
theorem k24 : root 97 true = 2554220882 := by decide +kernel
theorem k25 : root 101 true = 2821834349 := by decide +kernel
theorem k26 : root 103 true = 2952996808 := by decide +kernel
theorem k27 : root 107 true = 3210313671 := by decide +kernel
theorem k28 : root 109 true = 3336571891 := by decide +kernel
theorem k29 : root 113 true = 3584528711 := by decide +kernel
theorem k30 : root 127 true = 113926993 := by decide +kernel
theorem k31 : root 131 true = 338241895 := by decide +kernel
theorem k32 : root 137 true = 666307205 := by decide +kernel
theorem k33 : root 139 true = 773529912 := by decide +kernel
theorem k34 : root 149 true = 1294757372 := by decide +kernel
theorem k35 : root 151 true = 1396182291 := by decide +kernel
theorem k36 : root 157 true = 1695183700 := by decide +kernel
theorem k37 : root 163 true = 1986661051 := by decide +kernel
theorem k38 : root 167 true = 2177026350 := by decide +kernel
theorem k39 : root 173 true = 2456956037 := by decide +kernel
theorem k40 : root 179 true = 2730485921 := by decide +kernel
theorem k41 : root 181 true = 2820302411 := by decide +kernel
theorem k42 : root 191 true = 3259730800 := by decide +kernel
theorem k43 : root 193 true = 3345764771 := by decide +kernel
theorem k44 : root 197 true = 3516065817 := by decide +kernel
theorem k45 : root 199 true = 3600352804 := by decide +kernel
theorem k46 : root 211 true = 4094571909 := by decide +kernel
theorem k47 : root 223 true = 275423344 := by decide +kernel
theorem k48 : root 227 true = 430227734 := by decide +kernel
theorem k49 : root 229 true = 506948616 := by decide +kernel
theorem k50 : root 233 true = 659060556 := by decide +kernel
theorem k51 : root 239 true = 883997877 := by decide +kernel
theorem k52 : root 241 true = 958139571 := by decide +kernel
theorem k53 : root 251 true = 1322822218 := by decide +kernel
theorem k54 : root 257 true = 1537002063 := by decide +kernel
theorem k55 : root 263 true = 1747873779 := by decide +kernel
theorem k56 : root 269 true = 1955562222 := by decide +kernel
theorem k57 : root 271 true = 2024104815 := by decide +kernel
theorem k58 : root 277 true = 2227730452 := by decide +kernel
theorem k59 : root 281 true = 2361852424 := by decide +kernel
theorem k60 : root 283 true = 2428436474 := by decide +kernel
theorem k61 : root 293 true = 2756734187 := by decide +kernel
theorem k62 : root 307 true = 3204031479 := by decide +kernel
theorem k63 : root 311 true = 3329325298 := by decide +kernel
theorem h0 : root 2 false = 1779033703 := by decide +kernel
theorem h1 : root 3 false = 3144134277 := by decide +kernel
theorem h2 : root 5 false = 1013904242 := by decide +kernel
theorem h3 : root 7 false = 2773480762 := by decide +kernel
theorem h4 : root 11 false = 1359893119 := by decide +kernel
theorem h5 : root 13 false = 2600822924 := by decide +kernel
theorem h6 : root 17 false = 528734635 := by decide +kernel
theorem h7 : root 19 false = 1541459225 := by decide +kernel
theorem theK : (upTo 312).map (fun p => root p true) = Sha.K0 := by
  rw [primes_lit]
  simp only [List.map_cons, List.map_nil, k0, k1, k2, k3, k4, k5, k6, k7, k8, k9, k10, k11, k12, k13, k14, k15, k16, k17, k18, k19, k20, k21, k22, k23, k24, k25, k26, k27, k28, k29, k30, k31, k32, k33, k34, k35, k36, k37, k38, k39, k40, k41, k42, k43, k44, k45, k46, k47, k48, k49, k50, k51, k52, k53, k54, k55, k56, k57, k58, k59, k60, k61, k62, k63]
  rfl
theorem theH : ((upTo 312).take 8).map (fun p => root p false) = Sha.H0.list := by
  rw [primes_lit]
  simp only [List.take_succ_cons, List.take_zero, List.map_cons, List.map_nil, h0, h1, h2, h3, h4, h5, h6, h7]
  rfl
theorem upTo_small : ∀ p ∈ upTo 312, p < 312 := by decide +kernel

theorem tin_length (x : Nat) (B : List Nat) (i : Nat) (O : List Nat) : ∀ k, (tin x B i O k).1.length = O.length
  | 0 => rfl
  | k + 1 => by simp [tin, stp, tin_length x B i O k]
theorem tout_length (A B : List Nat) : ∀ i, (tout A B i).length = A.length + B.length
  | 0 => by simp [tout, zs]
  | i + 1 => by simp [tout, fin, tin_length, tout_length A B i]
theorem rt_lt (n : Nat) (c : Bool) : ∀ j, rt n c j < 2 ^ 41
  | 0 => by show 0 < 2 ^ 41; decide
  | j + 1 => by
    unfold rt
    split
    · exact Nat.or_lt_two_pow (rt_lt n c j) (Nat.pow_lt_pow_of_lt (by decide) (by omega))
    · exact rt_lt n c j
theorem pr_step (n k : Nat) (h2 : 2 ≤ k) (hk : k ≤ n + 2) (h : k * k ≤ n) : pr n k (n + 2 - k) = if n % k = 0 then false else pr n (k + 1) (n + 2 - (k + 1)) := by
  have : k ≤ k * k := Nat.le_mul_self k
  rw [show n + 2 - k = (n + 2 - (k + 1)) + 1 by omega, pr, if_pos h]
theorem pr_stop (n k : Nat) (h : ¬ k * k ≤ n) : ∀ f, pr n k f = decide (1 < n)
  | 0 => rfl
  | f + 1 => by rw [pr, if_neg h]
end Cst
