/-
  files: what is looked up; the names in their order.
-/
import Derived.Test.YticcipgdjpoimaaGreatFilMem
import Derived.Test.YticcipgdjpoimaaGreatFilMark2
import Derived.Test.YticcipgdjpoimaaGreatIter
set_option linter.unusedVariables false
set_option maxRecDepth 100000
namespace Go.Proofs.YticcipgdjpoimaaGreat
open Go.RowKit

theorem zero_file (w : World) : (zeroValue 81).run Tryz.prog w = .ok (.agg #[.string ⟨#[]⟩]) w := by kernel_rfl

theorem at_file {r : Fil.Row} {v : Value} {ps : List MemPlace} {n : Fil.Txt} (h : fileElem v = some ((Fil.D r).atKey (.string n) (.lit (.string [])), ps)) : v = .agg #[.string (ba ((Fil.get r n).getD []))] := by
  obtain ⟨s, rfl, hz⟩ := fileElem_inv h
  rw [Fil.D_at] at hz
  have h1 := congrArg Prod.fst hz
  cases hg : Fil.get r n with
  | none =>
    rw [hg] at h1
    have h2 : s.data.toList = [] := by simpa using h1.symm
    rw [← ba_of s, h2]; rfl
  | some d =>
    rw [hg] at h1
    have h2 : s.data.toList = d := by simpa using h1.symm
    rw [← ba_of s, h2]; rfl

theorem look_any {b n : Nat} {r : Fil.Row} {w : World} (h : ContAt b n r w) (s : ByteArray) (hs : s.size ≤ maxLen) :
    (Instr.lookup 74 (.map (some b)) (.string s) false).run Tryz.prog w = .ok (.agg #[.string (ba ((Fil.get r s.data.toList).getD []))]) w := by
  obtain ⟨x, ps, hrun, hv⟩ := World.ownsMap.lookup h str_law Tryz.underlying74 (zero_file w) (fileElem_mk ⟨#[]⟩) (key_str s hs)
  have := at_file hv
  subst this
  exact hrun
theorem look2_any {b n : Nat} {r : Fil.Row} {w : World} (h : ContAt b n r w) (s : ByteArray) (hs : s.size ≤ maxLen) :
    (Instr.lookup 74 (.map (some b)) (.string s) true).run Tryz.prog w = .ok (.tuple #[.agg #[.string (ba ((Fil.get r s.data.toList).getD []))], .bool (Fil.get r s.data.toList).isSome]) w := by
  obtain ⟨x, ps, hrun, hv⟩ := World.ownsMap.look_ok h str_law Tryz.underlying74 (zero_file w) (fileElem_mk ⟨#[]⟩) (key_str s hs)
  have := at_file hv
  subst this
  rw [Fil.D_has] at hrun
  exact hrun

namespace Fil
theorem before_lt : ∀ (a b : List UInt8), bytesBefore a b = true ↔ a < b
  | [], [] => by simp [bytesBefore]
  | [], b :: s => by simp [bytesBefore]
  | a :: r, [] => by simp [bytesBefore]
  | a :: r, b :: s => by
    have ih := before_lt r s
    simp only [bytesBefore, Bool.or_eq_true, Bool.and_eq_true, decide_eq_true_eq, beq_iff_eq, List.cons_lt_cons_iff, ih]
theorem names_sorted {r : Row} (h : Sorted r) {ss : List (List UInt8)} (hp : ss.Perm (r.map (·.1))) : ss.mergeSort (fun x y => decide (x ≤ y)) = r.map (·.1) := by
  have tr : ∀ a b c : List UInt8, decide (a ≤ b) = true → decide (b ≤ c) = true → decide (a ≤ c) = true := fun a b c h1 h2 => by simp only [decide_eq_true_eq] at *; exact List.le_trans h1 h2
  have tot : ∀ a b : List UInt8, (decide (a ≤ b) || decide (b ≤ a)) = true := fun a b => by simp only [Bool.or_eq_true, decide_eq_true_eq]; exact List.le_total a b
  refine List.Perm.eq_of_pairwise (le := fun a b => decide (a ≤ b) = true) (fun a b _ _ h1 h2 => ?_) (List.pairwise_mergeSort tr tot ss) ?_ ((List.mergeSort_perm ss _).trans hp)
  · simp only [decide_eq_true_eq] at h1 h2
    exact List.le_antisymm h1 h2
  · rw [List.pairwise_map]
    exact h.imp fun {a b} hab => by
      rw [decide_eq_true_eq]
      exact List.le_of_lt ((before_lt _ _).1 hab)
theorem get_at : ∀ {r : Row}, Sorted r → ∀ {i : Nat} {x : Txt × Txt}, r[i]? = some x → get r x.1 = some x.2
  | [], _, i, x, hx => by simp at hx
  | y :: r, h, 0, x, hx => by
    have : y = x := by simpa using hx
    subst this
    simp [get]
  | y :: r, h, i + 1, x, hx => by
    have hx' : r[i]? = some x := by simpa using hx
    have hp := List.pairwise_cons.1 h
    have hne : (y.1 == x.1) = false := by
      refine beq_eq_false_iff_ne.2 fun e => ?_
      have := hp.1 x (List.mem_of_getElem? hx')
      rw [e, WideAt.bytes_irrefl] at this; cases this
    have ih := get_at (r := r) hp.2 hx'
    unfold get at ih ⊢
    rw [List.find?_cons_of_neg (by rw [hne]; decide)]
    exact ih
end Fil
end Go.Proofs.YticcipgdjpoimaaGreat
