/-
  Small facts on operations of the model, for any program: a text of one byte; tests on bytes; exclusive ors of what does not overlap.
-/
import Derived.WalkKit
import Derived.WalkSpells
import Derived.WalkLawsBesides
import Derived.Below
import Derived.Lib.Hide
import Derived.Deep.Draws
set_option linter.unusedVariables false
namespace Go.Proofs.Ytjlkppdailkanaa
open Go.RowKit

/-- string([]byte{y}), the byte slice just made -/
theorem conv_byte {P : Program} (src dst e : TypeId) (hs : P.underlying src = some (.slice e)) (he : P.underlying e = some (.int .u8)) (hd : P.underlying dst = some .string)
    (w : World) (y : UInt8) (x : Int) (hx : x = (y.toNat : Int)) :
    (convert src dst (.slice (some ⟨w.heap.size, 0, none⟩) 1 1)).run P (w.alloc (.cells #[.int .u8 x] e)) = .ok (.string ⟨#[y]⟩) (w.alloc (.cells #[.int .u8 x] e)) := by
  subst hx
  have h := run_convert_bytes_back (P := P) (w.alloc (.cells #[.int .u8 (y.toNat : Int)] e)) src dst e ⟨w.heap.size, 0, none⟩ 1 [y] hs he hd (by
    intro j hj
    have : j = 0 := by simpa using hj
    subst this
    simp [Addr.add, go_sem])
  simpa using h

/-- string(b[:]), an array of two bytes just made -/
theorem conv_two {P : Program} (src dst e : TypeId) (hs : P.underlying src = some (.slice e)) (he : P.underlying e = some (.int .u8)) (hd : P.underlying dst = some .string)
    (w : World) (T : TypeId) (y z : UInt8) (x u : Int) (hx : x = (y.toNat : Int)) (hu : u = (z.toNat : Int)) :
    (convert src dst (.slice (some ⟨w.heap.size, 0, none⟩) 2 2)).run P (w.alloc (.cells #[.int .u8 x, .int .u8 u] T)) = .ok (.string ⟨#[y, z]⟩) (w.alloc (.cells #[.int .u8 x, .int .u8 u] T)) := by
  subst hx; subst hu
  have h := run_convert_bytes_back (P := P) (w.alloc (.cells #[.int .u8 (y.toNat : Int), .int .u8 (z.toNat : Int)] T)) src dst e ⟨w.heap.size, 0, none⟩ 2 [y, z] hs he hd (by
    intro j hj
    have : j = 0 ∨ j = 1 := by simp at hj; omega
    rcases this with rfl | rfl <;> simp [Addr.add, go_sem])
  simpa using h

/-- two texts, one behind the other -/
theorem cat_list (a b : List UInt8) : ((⟨a.toArray⟩ : ByteArray) ++ (⟨b.toArray⟩ : ByteArray)) = ⟨(a ++ b).toArray⟩ := by
  apply ByteArray.ext
  simp

theorem cat_one (a : List UInt8) (y : UInt8) : ((⟨a.toArray⟩ : ByteArray) ++ (⟨#[y]⟩ : ByteArray)) = ⟨(a ++ [y]).toArray⟩ := cat_list a [y]

theorem ba_eta (s : ByteArray) : (⟨s.data.toList.toArray⟩ : ByteArray) = s := by
  cases s; simp

theorem ba_len (s : ByteArray) : s.data.toList.length = s.size := by
  rw [Array.length_toList]; rfl

theorem ba_get (s : ByteArray) (j : Nat) (_h : j < s.size) (h' : j < s.data.toList.length) : s.data.toList[j] = s[j] := by
  rw [Array.getElem_toList]; rfl

/-- 'or' of two numbers whose bits do not meet is their sum -/
theorem or_add (a b i : Nat) (ha : a < 2 ^ i) (hs : a + b * 2 ^ i < 18446744073709551616) :
    bits .or .u64 (a : Int) ((b * 2 ^ i : Nat) : Int) = ((a + b * 2 ^ i : Nat) : Int) := by
  rw [u64_or_nat _ _ (by omega) (by omega)]
  have h := Nat.two_pow_add_eq_or_of_lt ha b
  rw [Nat.mul_comm] at h
  rw [Nat.add_comm, h, Nat.or_comm]

/-- the seven lowest bits of a byte -/
theorem and127 (c : Nat) (h : c < 256) : bits .and .u8 (c : Int) 127 = ((c % 128 : Nat) : Int) := by
  have := u8_and_nat c 127 h (by decide)
  rw [show ((127 : Nat) : Int) = 127 from rfl] at this
  rw [this, Nat.and_two_pow_sub_one_eq_mod c 7]

theorem wrap_u64_in (n : Int) (h0 : 0 ≤ n) (h1 : n < 18446744073709551616) : IntKind.u64.wrap n = n := by
  rw [IntKind.wrap_u64]; omega

theorem or_i64_nat (a b : Nat) (ha : a < 9223372036854775808) (hb : b < 9223372036854775808) : bits .or .i64 (a : Int) (b : Int) = ((a ||| b : Nat) : Int) := by
  have hx : a ||| b < 2 ^ 63 := Nat.or_lt_two_pow (by omega) (by omega)
  have ea : (BitVec.ofInt 64 (a : Int)).toNat = a := by simp; omega
  have eb : (BitVec.ofInt 64 (b : Int)).toNat = b := by simp; omega
  show IntKind.i64.wrap ((BitVec.ofInt 64 (a : Int) ||| BitVec.ofInt 64 (b : Int)).toNat : Int) = _
  rw [BitVec.toNat_or, ea, eb]
  exact IntWalk.i64_in _ (by omega)

/-- two bytes, the lower one first -/
theorem two_bytes (a b : Nat) (ha : a < 256) (hb : b < 256) : bits .or .i64 (a : Int) ((b : Int) * 256) = ((a + 256 * b : Nat) : Int) := by
  have e : ((b : Int) * 256) = ((b * 256 : Nat) : Int) := by simp
  rw [e, or_i64_nat _ _ (by omega) (by omega)]
  have h := Nat.two_pow_add_eq_or_of_lt (show a < 2 ^ 8 by omega) b
  rw [show (2 : Nat) ^ 8 = 256 from rfl, Nat.or_comm] at h
  rw [Nat.mul_comm b 256, ← h, Nat.add_comm]

theorem wrap_u8_in (n : Int) (h0 : 0 ≤ n) (h1 : n < 256) : IntKind.u8.wrap n = n := by
  simp [IntKind.wrap, IntKind.bits, IntKind.signed]; omega

/-- a block of the call's own that holds these bytes from its beginning on, and may be written -/
def ArrB (B : Nat) (bs : List UInt8) (w : World) : Prop :=
  ∀ j, j < bs.length → w.cell? ⟨B, j, none⟩ = some (.int .u8 ((bs.getD j 0).toNat : Int)) ∧ w.frozen? ⟨B, j, none⟩ = false

theorem ArrB.start (w : World) (T : TypeId) (n : Nat) : ArrB w.heap.size (List.replicate n 0) (w.alloc (.cells (Array.replicate n (.int .u8 0)) T)) := by
  intro j hj
  have hj' : j < n := by simpa using hj
  refine ⟨?_, World.frozen?_alloc_new w _ T j⟩
  rw [World.cell?_alloc_new]
  simp [hj']

theorem ArrB.cell {B : Nat} {bs : List UInt8} {w : World} (h : ArrB B bs w) {k : Nat} (hk : k < bs.length) : w.cell? ⟨B, k, none⟩ = some (.int .u8 ((bs.getD k 0).toNat : Int)) := (h k hk).1
theorem ArrB.free {B : Nat} {bs : List UInt8} {w : World} (h : ArrB B bs w) {k : Nat} (hk : k < bs.length) : w.frozen? ⟨B, k, none⟩ = false := (h k hk).2

theorem ArrB.store {B : Nat} {bs : List UInt8} {w : World} (h : ArrB B bs w) {k : Nat} (hk : k < bs.length) (y : UInt8) (x : Int) (hx : x = (y.toNat : Int)) :
    ArrB B (bs.set k y) (w.setCell ⟨B, k, none⟩ (.int .u8 x)) := by
  subst hx
  intro j hj
  have hj' : j < bs.length := by simpa using hj
  refine ⟨?_, by rw [World.frozen?_setCell]; exact (h j hj').2⟩
  by_cases e : k = j
  · subst e
    rw [World.cell?_setCell_same _ _ _ (h k hk).1]
    simp [List.getD_eq_getElem?_getD, hk]
  · rw [World.cell?_setCell_other _ _ _ _ (by intro c; exact e (Addr.mk.inj c).2.1), (h j hj').1]
    simp [List.getD_eq_getElem?_getD, e]

theorem ArrB.conv {P : Program} {B : Nat} {bs : List UInt8} {w : World} (h : ArrB B bs w) (src dst e : TypeId) (hs : P.underlying src = some (.slice e)) (he : P.underlying e = some (.int .u8)) (hd : P.underlying dst = some .string)
    (n cap : Nat) (hn : n ≤ bs.length) : (convert src dst (.slice (some ⟨B, 0, none⟩) n cap)).run P w = .ok (.string ⟨(bs.take n).toArray⟩) w := by
  have hl : (bs.take n).length = n := by simp; omega
  have r := run_convert_bytes_back (P := P) w src dst e ⟨B, 0, none⟩ cap (bs.take n) hs he hd (by
    intro j hj
    have hc := (h j (by omega)).1
    have ea : (Addr.add ⟨B, 0, none⟩ j) = ⟨B, j, none⟩ := by
      cases j <;> simp [Addr.add]
    rw [ea, hc]
    simp [List.getD_eq_getElem?_getD, List.getElem?_eq_getElem (show j < bs.length by omega)])
  rw [hl] at r
  exact r

/-- arr[:h], of an array of bytes of the call's own -/
theorem slice_arr {P : Program} (t : TypeId) (n : Nat) (ht : P.underlying t = some (.array (P.arrayLen t) (P.elem t))) (hn : P.arrayLen t = n) (hsz : ∀ u : World, (sizeOf (P.elem t)).run P u = .ok 1 u)
    (B : Nat) (x : Int) (h : Nat) (hx : x = (h : Int)) (hh : h ≤ n) (u : World) :
    (Instr.sliceAt t (.pointer (some ⟨B, 0, none⟩)) none (some (.int .i64 x)) none).run P u = .ok (.slice (some ⟨B, 0, none⟩) h n) u := by
  subst hx
  rw [run_sliceAt_array_h (P := P) u t ⟨B, 0, none⟩ ht .i64 (h : Int) (by omega) (by rw [hn]; omega), hsz u]
  by_cases e : n = 0
  · simp [slicedAt, hn, e]
  · simp [slicedAt, hn, Addr.add]

/-- draws alone, then what the contract says -/
theorem below_drewN_left {B : Nat} {w w' : World} {n : Nat} (h : Below B (w.drewN n) w') : Below B w w' := ⟨h.os, h.tape, h.output, h.size, h.block⟩

theorem ret_string {a b : ByteArray} (h : a = b) : Ending.returned (.string a) = .returned (.string b) := by rw [h]
theorem ret_int {k : IntKind} {a b : Int} (h : a = b) : Ending.returned (.int k a) = .returned (.int k b) := by rw [h]

end Go.Proofs.Ytjlkppdailkanaa
