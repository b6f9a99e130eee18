/-
  Plain mathematics of layer 9: the pieces, by their ends.
-/
import Derived.Test.YtofiimkpbbiegaaChuMarks
set_option linter.unusedVariables false
namespace Go.Proofs.Ytofiimkpbbiegaa
namespace Chu
/-- the pieces between one cut and the ends behind it: where each begins, and how long it is -/
def pcs : Nat → List Nat → List (Nat × Nat)
  | _, [] => []
  | a, e :: r => (a, e - a) :: pcs e r
theorem pcs_length : ∀ (a : Nat) (l : List Nat), (pcs a l).length = l.length
  | _, [] => rfl
  | a, e :: r => by simp [pcs, pcs_length e r]
theorem ends_next {mk : Nat → Bool} {mn mx len a : Nat} (h1 : 1 ≤ mn) (h2 : mn ≤ mx) (h : a < len) : ends mk mn mx len len a = nxt mk mn mx len a :: ends mk mn mx len len (nxt mk mn mx len a) := by
  have hr := nxt_range (mk := mk) h1 h2 h
  obtain ⟨f, hf⟩ : ∃ f, len = f + 1 := ⟨len - 1, by omega⟩
  have e : ends mk mn mx len len a = ends mk mn mx len (f + 1) a := by rw [← hf]
  rw [e]
  rw [ends, if_pos h, ends_fuel h1 h2 f len _ (by omega) (by omega)]
theorem ends_len {mk : Nat → Bool} {mn mx len : Nat} (h1 : 1 ≤ mn) (h2 : mn ≤ mx) : ∀ (f i : Nat), (ends mk mn mx len f i).length ≤ len - i
  | 0, i => by simp [ends]
  | f + 1, i => by
    unfold ends
    by_cases h : i < len
    · have g := nxt_range (mk := mk) h1 h2 h
      have ih := ends_len (mk := mk) (len := len) h1 h2 f (nxt mk mn mx len i)
      rw [if_pos h, List.length_cons]
      omega
    · rw [if_neg h]; simp
theorem pcs_ok {mk : Nat → Bool} {mn mx len : Nat} (h1 : 1 ≤ mn) (h2 : mn ≤ mx) : ∀ (f i : Nat), ∀ x ∈ pcs i (ends mk mn mx len f i), 1 ≤ x.2 ∧ x.1 + x.2 ≤ len
  | 0, i => by simp [ends, pcs]
  | f + 1, i => by
    unfold ends
    by_cases h : i < len
    · have g := nxt_range (mk := mk) h1 h2 h
      rw [if_pos h, pcs]
      intro x hx
      rcases List.mem_cons.1 hx with rfl | hx
      · simp only; omega
      · exact pcs_ok h1 h2 f _ x hx
    · rw [if_neg h]; simp [pcs]
end Chu
theorem Ctr.May.nat {c : Ctr} (h : c.May) : 1 ≤ c.mn.toNat ∧ c.mn.toNat ≤ c.mx.toNat ∧ c.n.toNat ≤ c.mn.toNat ∧ 1 ≤ c.n.toNat ∧ c.mx.toNat ≤ 4096 := by
  have a := h.1.2.1
  have b := h.2.1
  have d := h.2.2.1
  omega
/-- where the pieces end -/
def Ctr.ends (c : Ctr) (l : List UInt8) : List Nat := Chu.ends (c.isMk l) c.mn.toNat c.mx.toNat l.length l.length 0
/-- the pieces -/
def Ctr.cut (c : Ctr) (l : List UInt8) : List (Nat × Nat) := Chu.pcs 0 (c.ends l)
theorem Ctr.cut_len {c : Ctr} (h : c.May) (l : List UInt8) : (c.cut l).length ≤ l.length := by
  unfold Ctr.cut Ctr.ends
  rw [Chu.pcs_length]
  exact Chu.ends_len h.nat.1 h.nat.2.1 _ _
theorem Ctr.cut_ok {c : Ctr} (h : c.May) (l : List UInt8) : ∀ x ∈ c.cut l, 1 ≤ x.2 ∧ x.1 + x.2 ≤ l.length := Chu.pcs_ok h.nat.1 h.nat.2.1 _ _
end Go.Proofs.Ytofiimkpbbiegaa
