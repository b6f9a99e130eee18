/-
  Plain mathematics and blocks: bits turned one by one; bytes of a text laid as a block.
-/
import Derived.Test.YteddioaabhjjnaaCrcSealPure
import Derived.Test.YteddioaabhjjnaaGoRow
set_option linter.unusedVariables false
namespace Crc
theorem xor_pow (a k : Nat) (h : a < 2 ^ k) : a ^^^ 2 ^ k = a + 2 ^ k := by
  have h1 := Nat.xor_mod_two_pow (a := a) (b := 2 ^ k) (n := k)
  have h2 := Nat.xor_div_two_pow (a := a) (b := 2 ^ k) (n := k)
  rw [Nat.mod_eq_of_lt h, Nat.mod_self, Nat.xor_zero] at h1
  rw [Nat.div_eq_of_lt h, Nat.div_self (Nat.two_pow_pos k), Nat.zero_xor] at h2
  have h3 := Nat.div_add_mod (a ^^^ 2 ^ k) (2 ^ k)
  rw [h1, h2, Nat.mul_one] at h3
  omega
/-- one more bit of the turns -/
theorem turns_one (T k f : Nat) (h : T / 2 ^ k % 2 = 1) : T % 2 ^ (k + 1) * 2 ^ f = T % 2 ^ k * 2 ^ f ^^^ 2 ^ (f + k) := by
  rw [Nat.mod_pow_succ, h, Nat.mul_one, ← xor_pow _ _ (Nat.mod_lt _ (Nat.two_pow_pos k)), mul_xor, ← Nat.pow_add, Nat.add_comm k f]
theorem turns_nil (T k f : Nat) (h : T / 2 ^ k % 2 = 0) : T % 2 ^ (k + 1) * 2 ^ f = T % 2 ^ k * 2 ^ f := by
  rw [Nat.mod_pow_succ, h, Nat.mul_zero, Nat.add_zero]
end Crc
namespace Go.Proofs.Yteddioaabhjjnaa
open Go.RowKit

theorem ArrB.below {B : Nat} {bs : List UInt8} {w w' : World} (h : ArrB B bs w) (hb : Below w.heap.size w w') (hB : B < w.heap.size) : ArrB B bs w' := by
  intro j hj
  have h2 := h j hj
  have e := hb.block B hB
  refine ⟨?_, ?_⟩
  · rw [World.cell?_of_block (w := w) e]; exact h2.1
  · rw [World.frozen?_of_block (w := w) e]; exact h2.2

/-- the bytes of a text, laid as a block of their own -/
def bytesWorld (s : ByteArray) (e : TypeId) (w : World) : World :=
  w.drew.alloc (.cells (bytesRow s (grownCap w s.size 0 e)) e ((bytesRow s (grownCap w s.size 0 e)).size, (bytesRow s (grownCap w s.size 0 e)).size + 1))
theorem bytesWorld_below (s : ByteArray) (e : TypeId) {B : Nat} {w0 w : World} (h : Below B w0 w) (hB : B ≤ w.heap.size) : Below B w0 (bytesWorld s e w) := h.drew.alloc hB _
theorem bytesWorld_size (s : ByteArray) (e : TypeId) (w : World) : (bytesWorld s e w).heap.size = w.heap.size + 1 := by simp [bytesWorld]
theorem bytesRow_size (s : ByteArray) (c : Nat) : s.size ≤ (bytesRow s c).size := by simp [bytesRow]
theorem bytesWorld_arr (s : ByteArray) (e : TypeId) (w : World) : ArrB w.heap.size s.data.toList (bytesWorld s e w) := by
  intro j hj
  have hj2 : j < s.size := by rw [ba_len] at hj; exact hj
  have hz := bytesRow_size s (grownCap w s.size 0 e)
  have hg : (bytesWorld s e w).heap[w.heap.size]? = some (.cells (bytesRow s (grownCap w s.size 0 e)) e ((bytesRow s (grownCap w s.size 0 e)).size, (bytesRow s (grownCap w s.size 0 e)).size + 1)) := by
    show (w.heap.push _)[w.heap.size]? = _
    simp
  have hcell : (bytesRow s (grownCap w s.size 0 e))[j]? = some (.int .u8 ((s.data.toList.getD j 0).toNat : Int)) := by
    have hj3 : j < s.data.size := hj2
    unfold bytesRow
    rw [Array.getElem?_append_left (by simp; exact hj3)]
    rw [List.getD_eq_getElem?_getD, List.getElem?_eq_getElem hj]
    simp [Array.getElem?_eq_getElem hj3]
  generalize bytesRow s (grownCap w s.size 0 e) = cs at *
  refine ⟨by rw [cell_of_row _ _ j cs e _ hg, hcell], ?_⟩
  unfold World.frozen?
  rw [hg]
  simp
  omega
theorem run_bytesWorld {P : Program} (src dst e : TypeId) (hs : P.underlying src = some .string) (hd : P.underlying dst = some (.slice e)) (he : P.underlying e = some (.int .u8)) (s : ByteArray) (w : World) :
    (convert src dst (.string s)).run P w = .ok (.slice (some ⟨w.heap.size, 0, none⟩) s.size (grownCap w s.size 0 e)) (bytesWorld s e w) := run_bytes_of_string w src dst e s hs hd he
end Go.Proofs.Yteddioaabhjjnaa
