/-
  Plain mathematics: the lowest bit of a number below 256; the table of CRC-32, number by number.
-/
import Derived.Test.YteddioaabhjjnaaCrcPure
import Derived.Test.YteddioaabhjjnaaGoU32
import Derived.Test.YteddioaabhjjnaaGoRow
set_option linter.unusedVariables false
namespace Crc
theorem it_succ (k c : Nat) : it (k + 1) c = step (it k c) := by rw [it_add]; rfl
/-- the numbers of the table below n -/
def tab (n : Nat) : List Nat := (List.range n).map (it 8)
theorem tab_length (n : Nat) : (tab n).length = n := by simp [tab]
theorem tab_succ (n : Nat) : tab (n + 1) = tab n ++ [it 8 n] := by simp [tab, List.range_succ]
theorem tab_get (n j : Nat) (h : j < n) : (tab n).getD j 0 = it 8 j := by simp [tab, List.getD_eq_getElem?_getD, h]
theorem it_split (i l : Nat) : it 8 l ^^^ it 8 (i ^^^ l) = it 8 i := by
  rw [← it_xor]
  congr 1
  rw [Nat.xor_comm i, ← Nat.xor_assoc, Nat.xor_self, Nat.zero_xor]
end Crc
namespace Go.Proofs.Yteddioaabhjjnaa
open Go.RowKit

/-- i & -i -/
def lowb (i : Nat) : Nat := (bits .and .i64 (i : Int) (-(i : Int))).toNat
theorem lowb_facts : ∀ i : Fin 256, bits .and .i64 ((i.val : Nat) : Int) (-((i.val : Nat) : Int)) = ((lowb i.val : Nat) : Int) ∧ lowb i.val ≤ i.val ∧ (lowb i.val ≠ i.val → lowb i.val < i.val ∧ i.val ^^^ lowb i.val < i.val) := by decide +kernel
theorem lowb_val (i : Nat) (h : i < 256) : bits .and .i64 (i : Int) (-(i : Int)) = ((lowb i : Nat) : Int) := (lowb_facts ⟨i, h⟩).1
theorem lowb_le (i : Nat) (h : i < 256) : lowb i ≤ i := (lowb_facts ⟨i, h⟩).2.1
theorem lowb_lt (i : Nat) (h : i < 256) (hne : lowb i ≠ i) : lowb i < i ∧ i ^^^ lowb i < i := (lowb_facts ⟨i, h⟩).2.2 hne

/-- the numbers that are there, and zeros behind them -/
def upto (ws : List Nat) : List Nat := ws ++ nils (256 - ws.length)
theorem upto_length (ws : List Nat) (h : ws.length ≤ 256) : (upto ws).length = 256 := by simp [upto]; omega
theorem upto_nil : upto [] = nils 256 := rfl
theorem upto_set (ws : List Nat) (x : Nat) (h : ws.length < 256) : (upto ws).set ws.length x = upto (ws ++ [x]) := by
  unfold upto nils
  rw [List.set_append_right _ _ (Nat.le_refl _), Nat.sub_self]
  obtain ⟨m, hm⟩ : ∃ m, 256 - ws.length = m + 1 := ⟨255 - ws.length, by omega⟩
  rw [hm, List.replicate_succ, List.set_cons_zero, List.length_append, List.length_singleton, show 256 - (ws.length + 1) = m by omega]
  simp
theorem upto_get (ws : List Nat) (j : Nat) (h : j < ws.length) : (upto ws).getD j 0 = ws.getD j 0 := by
  simp [upto, List.getD_eq_getElem?_getD, List.getElem?_append_left h]
theorem upto_full (ws : List Nat) (h : ws.length = 256) : upto ws = ws := by simp [upto, h, nils]

theorem u32_and1 (x : Nat) (h : x < 4294967296) : bits .and .u32 (x : Int) 1 = ((x % 2 : Nat) : Int) := by
  have := u32_and x 1 h (by decide)
  rw [show ((1 : Nat) : Int) = 1 from rfl] at this
  rw [this, Nat.and_one_is_mod]
theorem i64_xor (a b : Nat) (ha : a < 9223372036854775808) (hb : b < 9223372036854775808) : bits .xor .i64 (a : Int) (b : Int) = ((a ^^^ b : Nat) : Int) := by
  have hx : a ^^^ b < 2 ^ 63 := Nat.xor_lt_two_pow (by omega) (by omega)
  have ea : (BitVec.ofInt 64 (a : Int)).toNat = a := by simp; omega
  have eb : (BitVec.ofInt 64 (b : Int)).toNat = b := by simp; omega
  show IntKind.i64.wrap ((BitVec.ofInt 64 (a : Int) ^^^ BitVec.ofInt 64 (b : Int)).toNat : Int) = _
  rw [BitVec.toNat_xor, ea, eb]
  exact IntWalk.i64_in _ (by omega)
end Go.Proofs.Yteddioaabhjjnaa
