/-
  The plain mathematics of package octet, second part: what is put is got; short numbers.
-/
import Derived.Test.YteddioaabhjjnaaOctPure
set_option linter.unusedVariables false
namespace Go.Proofs.Yteddioaabhjjnaa.Oct

/-- Put: its bytes, and an error's number -/
def put (v : Nat) (n : Int) : List UInt8 × Int := if 1 ≤ n ∧ n ≤ 8 ∧ v < 256 ^ n.toNat then (le n.toNat v, 0) else ([], 2)
/-- Get -/
def get (l : List UInt8) : Nat × Int := if 1 ≤ l.length ∧ l.length ≤ 8 then (un l, 0) else (0, 2)

theorem un_take_succ (l : List UInt8) (k : Nat) (h : k < l.length) : un (l.take (k + 1)) = un (l.take k) + l[k].toNat * 2 ^ (8 * k) := by
  rw [List.take_succ_eq_append_getElem h, un_append]
  have e : (l.take k).length = k := by simp; omega
  rw [e]
  have e2 : (256 : Nat) ^ k = 2 ^ (8 * k) := by rw [Nat.pow_mul]
  rw [e2]
  simp [un, Nat.mul_comm]

theorem un_take_lt (l : List UInt8) (k : Nat) (h : k ≤ l.length) : un (l.take k) < 2 ^ (8 * k) := by
  have := un_lt (l.take k)
  have e : (l.take k).length = k := by simp; omega
  rw [e] at this
  have e2 : (256 : Nat) ^ k = 2 ^ (8 * k) := by rw [Nat.pow_mul]
  omega

theorem un_drop (l : List UInt8) (k : Nat) (h : k < l.length) : un (l.drop k) = l[k].toNat + 256 * un (l.drop (k + 1)) := by
  rw [List.drop_eq_getElem_cons h]; rfl

theorem un_small (l : List UInt8) (h : l.length ≤ 8) : un l < 18446744073709551616 := by
  have h1 := un_lt l
  have h2 : (256 : Nat) ^ l.length ≤ 256 ^ 8 := Nat.pow_le_pow_right (by decide) h
  have h3 : (256 : Nat) ^ 8 = 18446744073709551616 := by decide
  omega

theorem get_put (v : Nat) (n : Int) (h : (put v n).2 = 0) : get (put v n).1 = (v, 0) ∧ ((put v n).1.length : Int) = n := by
  unfold put at *
  split at h
  · rename_i hc
    rw [if_pos hc]
    obtain ⟨h1, h2, h3⟩ := hc
    refine ⟨?_, by simp [le_length]; omega⟩
    simp only [get, le_length]
    rw [if_pos ⟨by omega, by omega⟩, un_le _ _ h3]
  · simp at h

theorem put_get (l : List UInt8) (h : (get l).2 = 0) : put (get l).1 l.length = (l, 0) := by
  unfold get at *
  split at h
  · rename_i hc
    rw [if_pos hc]
    simp only [put]
    rw [if_pos ⟨by omega, by omega, by simpa using un_lt l⟩]
    simp [le_un]
  · simp at h

end Go.Proofs.Yteddioaabhjjnaa.Oct
