/-
  Plain mathematics of layer 12: which instruction a text is the line of.
-/
import Derived.Test.YtnnfpaheglkmoaaDoorCodPure
import Derived.Lib.IndexLaws
import Derived.Lib.ParseIntB
set_option linter.unusedVariables false
namespace Cod
/-- the text is the line of an instruction that may be -/
def IsLine (l : List UInt8) (x : In) : Prop := ins x = true ∧ line x = l
theorem IsLine.one {l : List UInt8} {x y : In} (h : IsLine l x) (k : IsLine l y) : x = y := line_inj h.1 k.1 (by rw [h.2, k.2])
theorem ix_none : ∀ (l : List UInt8), l.contains 32 = false → Go.Lib.indexByte l 32 = -1
  | [], _ => rfl
  | b :: l, h => by
    simp only [List.contains_cons, Bool.or_eq_false_iff] at h
    have hb : (b == 32) = false := by
      have := h.1
      rw [beq_eq_false_iff_ne] at this ⊢
      exact fun e => this e.symm
    have ih := ix_none l h.2
    unfold Go.Lib.indexByte
    rw [hb, ih]
    rfl
theorem ix_some : ∀ (a b : List UInt8), a.contains 32 = false → Go.Lib.indexByte (a ++ 32 :: b) 32 = a.length
  | [], b, _ => by simp [Go.Lib.indexByte]
  | x :: a, b, h => by
    simp only [List.contains_cons, Bool.or_eq_false_iff] at h
    have hb : (x == 32) = false := by
      have := h.1
      rw [beq_eq_false_iff_ne] at this ⊢
      exact fun e => this e.symm
    have ih := ix_some a b h.2
    rw [List.cons_append, Go.Lib.indexByte, hb, ih]
    have : ((a.length : Int) == -1) = false := by rw [beq_eq_false_iff_ne]; omega
    simp [this]
theorem ix_range (l : List UInt8) : Go.Lib.indexByte l 32 = -1 ∨ ∃ i : Nat, Go.Lib.indexByte l 32 = i ∧ i + 1 ≤ l.length := by
  by_cases h : Go.Lib.indexByte l 32 = -1
  · exact .inl h
  · have h1 := Go.Lib.indexByte_ge l 32
    refine .inr ⟨(Go.Lib.indexByte l 32).toNat, by omega, ?_⟩
    have h2 := (Go.Lib.indexByte_some (l := l) (c := 32) (o := (Go.Lib.indexByte l 32).toNat) (by omega)).1
    have := (List.getElem?_eq_some_iff.1 h2).1
    omega
theorem parse_dec : ∀ n : Nat, n < 256 → (match Go.Lib.parseUintB 8 (dec n) with | .ok m => m == n | _ => false) = true := by decide +kernel
theorem parse_nil : (match Go.Lib.parseUintB 8 [] with | .ok _ => false | .range => false | _ => true) = true := by decide +kernel
/-- what is read of the parts is the instruction, if there is one -/
theorem line_parts {s a b : List UInt8} {k u : Nat} {x : In} (h : IsLine s x)
    (h1 : ∀ p q, s = p ++ 32 :: q → p.contains 32 = false → a = p ∧ b = q) (h2 : s.contains 32 = false → a = s ∧ b = [])
    (h3 : ∀ j, j < 24 → names.getD j [] = a → k = j) (h4 : ∀ n, n < 256 → b = dec n → u = n) (h5 : b = [] → u = 0) : x = (b8 k, b8 u) := by
  obtain ⟨hi, hl⟩ := h
  have hop := ins_op hi
  have hn := names_no32 _ hop.2
  unfold line name at hl
  cases hh : has x.1 with
  | true =>
    rw [hh] at hl
    simp only [if_true] at hl
    obtain ⟨e1, e2⟩ := h1 _ _ hl.symm hn
    have e3 := h3 _ hop.2 e1.symm
    have e4 := h4 _ x.2.toNat_lt e2
    rw [e3, e4]
    exact Prod.ext (UInt8.toNat_inj.1 (by rw [b8_nat (by omega)])) (UInt8.toNat_inj.1 (by rw [b8_nat (by have := x.2.toNat_lt; omega)]))
  | false =>
    rw [hh] at hl
    simp only [Bool.false_eq_true, if_false] at hl
    have hz : x.2 = 0 := by
      unfold ins at hi
      rw [hh] at hi
      simp only [Bool.and_eq_true, Bool.or_false, beq_iff_eq] at hi
      exact hi.2.2
    obtain ⟨e1, e2⟩ := h2 (by rw [← hl]; exact hn)
    have e3 := h3 _ hop.2 (by rw [e1, ← hl])
    have e4 := h5 e2
    rw [e3, e4]
    exact Prod.ext (UInt8.toNat_inj.1 (by rw [b8_nat (by omega)])) (by rw [hz]; rfl)
end Cod
