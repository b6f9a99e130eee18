/-
  Pieces of a text, one behind the other.
-/
import Derived.Test.YteddioaabhjjnaaGoStrs
set_option linter.unusedVariables false
namespace Go.Proofs.Yteddioaabhjjnaa
open Go.RowKit

/-- the first k texts, one behind the other -/
def cat (l : List ByteArray) (k : Nat) : List UInt8 := ((l.take k).map (·.data.toList)).flatten
theorem cat_zero (l : List ByteArray) : cat l 0 = [] := by simp [cat]
theorem cat_succ (l : List ByteArray) (k : Nat) (h : k < l.length) : cat l (k + 1) = cat l k ++ (l.getD k .empty).data.toList := by
  unfold cat
  rw [List.take_succ_eq_append_getElem h, List.map_append, List.flatten_append]
  simp [List.getD_eq_getElem?_getD, h]
theorem cat_length (l : List ByteArray) (k : Nat) : (cat l k).length = tot l k := by
  unfold cat tot
  rw [List.length_flatten, List.map_map]
  rfl
theorem tot_mono (l : List ByteArray) (k : Nat) (h : k < l.length) : tot l k ≤ tot l (k + 1) := by rw [tot_succ l k h]; omega
theorem tot_le_tot (l : List ByteArray) (k m : Nat) (h : k ≤ m) (hm : m ≤ l.length) : tot l k ≤ tot l m := by
  induction m with
  | zero => obtain rfl : k = 0 := by omega
            exact Nat.le_refl _
  | succ m ih =>
    by_cases e : k = m + 1
    · subst e; exact Nat.le_refl _
    · exact Nat.le_trans (ih (by omega) (by omega)) (tot_mono l m (by omega))
end Go.Proofs.Yteddioaabhjjnaa
