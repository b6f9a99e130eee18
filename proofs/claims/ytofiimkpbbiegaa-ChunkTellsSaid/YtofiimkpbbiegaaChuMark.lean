/-
  Plain mathematics of layer 9: a mark is what the window ahead of it makes it.
-/
import Derived.Test.YtofiimkpbbiegaaRabPure
import Derived.Test.YtofiimkpbbiegaaChuPure
set_option linter.unusedVariables false
namespace Go.Proofs.Ytofiimkpbbiegaa
namespace Chu
/-- is a place of a text a mark -/
def mark (p w bits : Nat) (l : List UInt8) (i : Nat) : Bool := (Pol.fp p (Pol.last w (l.take i))) &&& (2 ^ bits - 1) == 2 ^ bits - 1
theorem mark_shift (p w bits : Nat) (a e : List UInt8) (j : Nat) (hj : w ≤ j) (hje : j ≤ e.length) : mark p w bits (a ++ e) (a.length + j) = mark p w bits e j := by
  unfold mark
  have e1 : (a ++ e).take (a.length + j) = a ++ e.take j := by rw [List.take_append, List.take_of_length_le (by omega)]; simp
  have h := Pol.last_same w a [] (e.take j) (by rw [List.length_take]; omega)
  rw [List.nil_append] at h
  rw [e1, h]
theorem mark_begin (p w bits : Nat) (a x y : List UInt8) (j : Nat) (hj : j ≤ a.length) : mark p w bits (a ++ x) j = mark p w bits (a ++ y) j := by
  unfold mark
  rw [List.take_append_of_le_length hj, List.take_append_of_le_length hj]
/-- two texts that end alike, both cut at the place j of their end: cut alike behind it -/
theorem meets {p w bits mn mx : Nat} (h0 : w ≤ mn) (h1 : 1 ≤ mn) (h2 : mn ≤ mx) (a e : List UInt8) (j f : Nat) :
    ends (mark p w bits (a ++ e)) mn mx (a.length + e.length) f (a.length + j) = (ends (mark p w bits e) mn mx e.length f j).map (a.length + ·) :=
  ends_shift h1 h2 j (fun i g1 g2 => mark_shift p w bits a e i (by omega) g2) f j (Nat.le_refl _)
/-- two texts that begin alike: the cut behind a cut is the same, if it lies within what is alike, and is no end of the one alone -/
theorem begins {p w bits mn mx : Nat} (a x y : List UInt8) (i : Nat) (h : nxt (mark p w bits (a ++ x)) mn mx (a ++ x).length i ≤ a.length) (hq : nxt (mark p w bits (a ++ x)) mn mx (a ++ x).length i ≠ (a ++ x).length ∨ (a ++ x).length = (a ++ y).length) :
    nxt (mark p w bits (a ++ y)) mn mx (a ++ y).length i = nxt (mark p w bits (a ++ x)) mn mx (a ++ x).length i :=
  nxt_begin (p := a.length) (by simp) (by simp) (fun j hj => mark_begin p w bits a y x j hj) h hq
end Chu
end Go.Proofs.Ytofiimkpbbiegaa
