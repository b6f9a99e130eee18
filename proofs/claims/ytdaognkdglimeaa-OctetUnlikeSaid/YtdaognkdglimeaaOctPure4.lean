/-
  The plain mathematics of package octet, fourth part: texts and rows.
-/
import Derived.Test.YtdaognkdglimeaaOctPure3
set_option linter.unusedVariables false
namespace Go.Proofs.Ytdaognkdglimeaa.Oct

/-- Text -/
def text (l : List UInt8) : List UInt8 × Int := if l.length ≤ 65535 then (le 2 l.length ++ l, 0) else ([], 5)

/-- how many bytes the text that l begins with has -/
def hd (l : List UInt8) : Nat := un (l.take 2)

/-- Read -/
def read (l : List UInt8) : List UInt8 × Nat × Int :=
  if 2 ≤ l.length ∧ 2 + hd l ≤ l.length then ((l.drop 2).take (hd l), 2 + hd l, 0) else ([], 0, 6)

theorem hd_lt (l : List UInt8) : hd l < 65536 := by
  have h1 := un_lt (l.take 2)
  have h2 : (256 : Nat) ^ (l.take 2).length ≤ 256 ^ 2 := Nat.pow_le_pow_right (by decide) (by simp; omega)
  have h3 : (256 : Nat) ^ 2 = 65536 := by decide
  unfold hd
  omega

theorem hd_le (n : Nat) (r : List UInt8) (h : n ≤ 65535) : hd (le 2 n ++ r) = n := by
  unfold hd
  rw [List.take_left' (le_length 2 n), un_le _ _ (by omega)]

theorem hd_cons (a b : UInt8) (r : List UInt8) : hd (a :: b :: r) = a.toNat + 256 * b.toNat := by
  simp [hd, un]

theorem hd_get (l : List UInt8) (h : 1 < l.length) : hd l = (l[0]'(by omega)).toNat + 256 * l[1].toNat := by
  match l, h with
  | a :: b :: r, _ => rw [hd_cons]; rfl

end Go.Proofs.Ytdaognkdglimeaa.Oct
