/- Put together of: GoBase GoStrs GoRow GoTurns GoCopy GoMid GoRange GoRangeFrom GoLoad GoMidIn GoAny GoTwo GoApp -/
import Derived.WalkKit
import Derived.WalkSpells
import Derived.WalkLawsBesides
import Derived.Below
import Derived.Lib.Hide
import Derived.Deep.Draws
import Derived.ProofKit
import Derived.SliceStrings
import Derived.SizedLaws
import Derived.Laws.Rows
import Derived.Laws.OwnMore
import Derived.OneCell
import Derived.Maps.AppendAt
import Derived.Maps.Own
import Derived.Lib.BufferWrite
import Derived.Deep.RegionLaw
import Derived.StillTail
import Derived.OrdersHeld
import Derived.Deep.RegionHeld3
import Derived.RangeFuncNested
import Derived.RangeFuncBound
import Derived.RangeFuncCalls
import Derived.RangeFuncLeaves
import Derived.OwnWalkIn
import Derived.BigFrameIn
import Derived.BigFrame
import Derived.OrdersIn
import Derived.ControlIn
set_option maxRecDepth 100000
/-
  Small facts on operations of the model, for any program: a text of one byte; tests on bytes; exclusive ors of what does not overlap.
-/
set_option linter.unusedVariables false
namespace Go.Proofs.YtolldoclnfnceaaDoor
open Go.RowKit

/-- string([]byte{y}), the byte slice just made -/
theorem conv_byte {P : Program} (src dst e : TypeId) (hs : P.underlying src = some (.slice e)) (he : P.underlying e = some (.int .u8)) (hd : P.underlying dst = some .string)
    (w : World) (y : UInt8) (x : Int) (hx : x = (y.toNat : Int)) :
    (convert src dst (.slice (some ⟨w.heap.size, 0, none⟩) 1 1)).run P (w.alloc (.cells #[.int .u8 x] e)) = .ok (.string ⟨#[y]⟩) (w.alloc (.cells #[.int .u8 x] e)) := by
  subst hx
  have h := run_convert_bytes_back (P := P) (w.alloc (.cells #[.int .u8 (y.toNat : Int)] e)) src dst e ⟨w.heap.size, 0, none⟩ 1 [y] hs he hd (by
    intro j hj
    have : j = 0 := by simpa using hj
    subst this
    simp [Addr.add, go_sem])
  simpa using h

/-- string(b[:]), an array of two bytes just made -/
theorem conv_two {P : Program} (src dst e : TypeId) (hs : P.underlying src = some (.slice e)) (he : P.underlying e = some (.int .u8)) (hd : P.underlying dst = some .string)
    (w : World) (T : TypeId) (y z : UInt8) (x u : Int) (hx : x = (y.toNat : Int)) (hu : u = (z.toNat : Int)) :
    (convert src dst (.slice (some ⟨w.heap.size, 0, none⟩) 2 2)).run P (w.alloc (.cells #[.int .u8 x, .int .u8 u] T)) = .ok (.string ⟨#[y, z]⟩) (w.alloc (.cells #[.int .u8 x, .int .u8 u] T)) := by
  subst hx; subst hu
  have h := run_convert_bytes_back (P := P) (w.alloc (.cells #[.int .u8 (y.toNat : Int), .int .u8 (z.toNat : Int)] T)) src dst e ⟨w.heap.size, 0, none⟩ 2 [y, z] hs he hd (by
    intro j hj
    have : j = 0 ∨ j = 1 := by simp at hj; omega
    rcases this with rfl | rfl <;> simp [Addr.add, go_sem])
  simpa using h

/-- two texts, one behind the other -/
theorem cat_list (a b : List UInt8) : ((⟨a.toArray⟩ : ByteArray) ++ (⟨b.toArray⟩ : ByteArray)) = ⟨(a ++ b).toArray⟩ := by
  apply ByteArray.ext
  simp

theorem cat_one (a : List UInt8) (y : UInt8) : ((⟨a.toArray⟩ : ByteArray) ++ (⟨#[y]⟩ : ByteArray)) = ⟨(a ++ [y]).toArray⟩ := cat_list a [y]

theorem ba_eta (s : ByteArray) : (⟨s.data.toList.toArray⟩ : ByteArray) = s := by
  cases s; simp

theorem ba_len (s : ByteArray) : s.data.toList.length = s.size := by
  rw [Array.length_toList]; rfl

theorem ba_get (s : ByteArray) (j : Nat) (_h : j < s.size) (h' : j < s.data.toList.length) : s.data.toList[j] = s[j] := by
  rw [Array.getElem_toList]; rfl

/-- 'or' of two numbers whose bits do not meet is their sum -/
theorem or_add (a b i : Nat) (ha : a < 2 ^ i) (hs : a + b * 2 ^ i < 18446744073709551616) :
    bits .or .u64 (a : Int) ((b * 2 ^ i : Nat) : Int) = ((a + b * 2 ^ i : Nat) : Int) := by
  rw [u64_or_nat _ _ (by omega) (by omega)]
  have h := Nat.two_pow_add_eq_or_of_lt ha b
  rw [Nat.mul_comm] at h
  rw [Nat.add_comm, h, Nat.or_comm]

/-- the seven lowest bits of a byte -/
theorem and127 (c : Nat) (h : c < 256) : bits .and .u8 (c : Int) 127 = ((c % 128 : Nat) : Int) := by
  have := u8_and_nat c 127 h (by decide)
  rw [show ((127 : Nat) : Int) = 127 from rfl] at this
  rw [this, Nat.and_two_pow_sub_one_eq_mod c 7]

theorem wrap_u64_in (n : Int) (h0 : 0 ≤ n) (h1 : n < 18446744073709551616) : IntKind.u64.wrap n = n := by
  rw [IntKind.wrap_u64]; omega

theorem or_i64_nat (a b : Nat) (ha : a < 9223372036854775808) (hb : b < 9223372036854775808) : bits .or .i64 (a : Int) (b : Int) = ((a ||| b : Nat) : Int) := by
  have hx : a ||| b < 2 ^ 63 := Nat.or_lt_two_pow (by omega) (by omega)
  have ea : (BitVec.ofInt 64 (a : Int)).toNat = a := by simp; omega
  have eb : (BitVec.ofInt 64 (b : Int)).toNat = b := by simp; omega
  show IntKind.i64.wrap ((BitVec.ofInt 64 (a : Int) ||| BitVec.ofInt 64 (b : Int)).toNat : Int) = _
  rw [BitVec.toNat_or, ea, eb]
  exact IntWalk.i64_in _ (by omega)

/-- two bytes, the lower one first -/
theorem two_bytes (a b : Nat) (ha : a < 256) (hb : b < 256) : bits .or .i64 (a : Int) ((b : Int) * 256) = ((a + 256 * b : Nat) : Int) := by
  have e : ((b : Int) * 256) = ((b * 256 : Nat) : Int) := by simp
  rw [e, or_i64_nat _ _ (by omega) (by omega)]
  have h := Nat.two_pow_add_eq_or_of_lt (show a < 2 ^ 8 by omega) b
  rw [show (2 : Nat) ^ 8 = 256 from rfl, Nat.or_comm] at h
  rw [Nat.mul_comm b 256, ← h, Nat.add_comm]

theorem wrap_u8_in (n : Int) (h0 : 0 ≤ n) (h1 : n < 256) : IntKind.u8.wrap n = n := by
  simp [IntKind.wrap, IntKind.bits, IntKind.signed]; omega

/-- a block of the call's own that holds these bytes from its beginning on, and may be written -/
def ArrB (B : Nat) (bs : List UInt8) (w : World) : Prop :=
  ∀ j, j < bs.length → w.cell? ⟨B, j, none⟩ = some (.int .u8 ((bs.getD j 0).toNat : Int)) ∧ w.frozen? ⟨B, j, none⟩ = false

theorem ArrB.start (w : World) (T : TypeId) (n : Nat) : ArrB w.heap.size (List.replicate n 0) (w.alloc (.cells (Array.replicate n (.int .u8 0)) T)) := by
  intro j hj
  have hj' : j < n := by simpa using hj
  refine ⟨?_, World.frozen?_alloc_new w _ T j⟩
  rw [World.cell?_alloc_new]
  simp [hj']

theorem ArrB.cell {B : Nat} {bs : List UInt8} {w : World} (h : ArrB B bs w) {k : Nat} (hk : k < bs.length) : w.cell? ⟨B, k, none⟩ = some (.int .u8 ((bs.getD k 0).toNat : Int)) := (h k hk).1
theorem ArrB.free {B : Nat} {bs : List UInt8} {w : World} (h : ArrB B bs w) {k : Nat} (hk : k < bs.length) : w.frozen? ⟨B, k, none⟩ = false := (h k hk).2

theorem ArrB.store {B : Nat} {bs : List UInt8} {w : World} (h : ArrB B bs w) {k : Nat} (hk : k < bs.length) (y : UInt8) (x : Int) (hx : x = (y.toNat : Int)) :
    ArrB B (bs.set k y) (w.setCell ⟨B, k, none⟩ (.int .u8 x)) := by
  subst hx
  intro j hj
  have hj' : j < bs.length := by simpa using hj
  refine ⟨?_, by rw [World.frozen?_setCell]; exact (h j hj').2⟩
  by_cases e : k = j
  · subst e
    rw [World.cell?_setCell_same _ _ _ (h k hk).1]
    simp [List.getD_eq_getElem?_getD, hk]
  · rw [World.cell?_setCell_other _ _ _ _ (by intro c; exact e (Addr.mk.inj c).2.1), (h j hj').1]
    simp [List.getD_eq_getElem?_getD, e]

theorem ArrB.conv {P : Program} {B : Nat} {bs : List UInt8} {w : World} (h : ArrB B bs w) (src dst e : TypeId) (hs : P.underlying src = some (.slice e)) (he : P.underlying e = some (.int .u8)) (hd : P.underlying dst = some .string)
    (n cap : Nat) (hn : n ≤ bs.length) : (convert src dst (.slice (some ⟨B, 0, none⟩) n cap)).run P w = .ok (.string ⟨(bs.take n).toArray⟩) w := by
  have hl : (bs.take n).length = n := by simp; omega
  have r := run_convert_bytes_back (P := P) w src dst e ⟨B, 0, none⟩ cap (bs.take n) hs he hd (by
    intro j hj
    have hc := (h j (by omega)).1
    have ea : (Addr.add ⟨B, 0, none⟩ j) = ⟨B, j, none⟩ := by
      cases j <;> simp [Addr.add]
    rw [ea, hc]
    simp [List.getD_eq_getElem?_getD, List.getElem?_eq_getElem (show j < bs.length by omega)])
  rw [hl] at r
  exact r

/-- arr[:h], of an array of bytes of the call's own -/
theorem slice_arr {P : Program} (t : TypeId) (n : Nat) (ht : P.underlying t = some (.array (P.arrayLen t) (P.elem t))) (hn : P.arrayLen t = n) (hsz : ∀ u : World, (sizeOf (P.elem t)).run P u = .ok 1 u)
    (B : Nat) (x : Int) (h : Nat) (hx : x = (h : Int)) (hh : h ≤ n) (u : World) :
    (Instr.sliceAt t (.pointer (some ⟨B, 0, none⟩)) none (some (.int .i64 x)) none).run P u = .ok (.slice (some ⟨B, 0, none⟩) h n) u := by
  subst hx
  rw [run_sliceAt_array_h (P := P) u t ⟨B, 0, none⟩ ht .i64 (h : Int) (by omega) (by rw [hn]; omega), hsz u]
  by_cases e : n = 0
  · simp [slicedAt, hn, e]
  · simp [slicedAt, hn, Addr.add]

/-- draws alone, then what the contract says -/
theorem below_drewN_left {B : Nat} {w w' : World} {n : Nat} (h : Below B (w.drewN n) w') : Below B w w' := ⟨h.os, h.tape, h.output, h.size, h.block⟩

theorem ret_string {a b : ByteArray} (h : a = b) : Ending.returned (.string a) = .returned (.string b) := by rw [h]
theorem ret_int {k : IntKind} {a b : Int} (h : a = b) : Ending.returned (.int k a) = .returned (.int k b) := by rw [h]

end Go.Proofs.YtolldoclnfnceaaDoor

/-
  Slices of texts as a walk meets them: which texts they hold.
-/
set_option linter.unusedVariables false
namespace Go.Proofs.YtolldoclnfnceaaDoor
open Go.RowKit

/-- the slice's elements are the texts l -/
def Strs (a : Option Addr) (len : Nat) (l : List ByteArray) (w : World) : Prop :=
  l.length = len ∧ ∀ j, j < len → ∃ b off, a = some ⟨b, off, none⟩ ∧ w.cell? ⟨b, off + j, none⟩ = some (.string (l.getD j .empty))

theorem cell_lt {w : World} {b o : Nat} {v : Value} (h : w.cell? ⟨b, o, none⟩ = some v) : b < w.heap.size := by
  rcases Nat.lt_or_ge b w.heap.size with h' | h'
  · exact h'
  · simp [World.cell?, Array.getElem?_eq_none h'] at h

theorem Strs.keep {a : Option Addr} {len : Nat} {l : List ByteArray} {w w' : World} (h : Strs a len l w) (hb : Below w.heap.size w w') : Strs a len l w' := by
  refine ⟨h.1, fun j hj => ?_⟩
  obtain ⟨b, off, rfl, hc⟩ := h.2 j hj
  exact ⟨b, off, rfl, by rw [hb.cell (p := ⟨b, off + j, none⟩) (cell_lt hc)]; exact hc⟩

theorem Strs.nil (a : Option Addr) (w : World) : Strs a 0 [] w := ⟨rfl, fun j hj => by omega⟩

/-- the texts as lists of bytes -/
def lists (l : List ByteArray) : List (List UInt8) := l.map (·.data.toList)

theorem lists_length (l : List ByteArray) : (lists l).length = l.length := by simp [lists]
theorem lists_get (l : List ByteArray) (k : Nat) (h : k < l.length) (h' : k < (lists l).length) : (lists l)[k] = (l.getD k .empty).data.toList := by
  simp [lists, List.getD_eq_getElem?_getD, h]

theorem lists_inj {a b : List ByteArray} (h : lists a = lists b) : a = b := by
  induction a generalizing b with
  | nil => cases b with
    | nil => rfl
    | cons y t => simp [lists] at h
  | cons x r ih =>
    cases b with
    | nil => simp [lists] at h
    | cons y t =>
      simp only [lists, List.map_cons, List.cons.injEq] at h
      rw [ih h.2]
      congr 1
      have := h.1
      rw [← ba_eta x, this, ba_eta]

/-- how many bytes the first k texts have together -/
def tot (l : List ByteArray) (k : Nat) : Nat := ((l.take k).map (·.size)).sum

theorem tot_zero (l : List ByteArray) : tot l 0 = 0 := by simp [tot]
theorem tot_succ (l : List ByteArray) (k : Nat) (h : k < l.length) : tot l (k + 1) = tot l k + (l.getD k .empty).size := by
  unfold tot
  rw [List.take_succ_eq_append_getElem h, List.map_append, List.sum_append]
  simp [List.getD_eq_getElem?_getD, h]
theorem tot_le (l : List ByteArray) (k m : Nat) (h : ∀ x ∈ l, x.size ≤ m) : tot l k ≤ k * m := by
  induction k generalizing l with
  | zero => simp [tot]
  | succ k ih =>
    cases l with
    | nil => simp [tot]
    | cons x r =>
      have h1 := ih r (fun y hy => h y (List.mem_cons_of_mem _ hy))
      have h2 := h x (List.mem_cons_self ..)
      simp only [tot, List.take_succ_cons, List.map_cons, List.sum_cons] at *
      rw [Nat.succ_mul]
      omega
theorem size_le_tot (l : List ByteArray) (j k : Nat) (hj : j < k) (hk : j < l.length) : (l.getD j .empty).size ≤ tot l k := by
  induction k with
  | zero => omega
  | succ k ih =>
    by_cases e : j = k
    · subst e
      rw [tot_succ l j hk]
      omega
    · have h1 := ih (by omega)
      by_cases hkl : k < l.length
      · rw [tot_succ l k hkl]; omega
      · have : tot l (k + 1) = tot l k := by
          unfold tot
          rw [List.take_of_length_le (by omega), List.take_of_length_le (by omega)]
        omega
theorem getD_size_le (l : List ByteArray) (m : Nat) (h : ∀ x ∈ l, x.size ≤ m) (j : Nat) : (l.getD j .empty).size ≤ m := by
  by_cases hj : j < l.length
  · rw [List.getD_eq_getElem?_getD, List.getElem?_eq_getElem hj]
    exact h _ (List.getElem_mem hj)
  · rw [List.getD_eq_getElem?_getD, List.getElem?_eq_none (by omega)]
    exact Nat.zero_le _

theorem weight_mem {H : Type} (P : Program) (e : TypeId) (l : List ByteArray) (y : ByteArray) (hy : y ∈ l) : y.data.toList.length ∈ DataW.weightsAll (H := H) P e (Go.ChangeShapes.strs l) := by
  induction l with
  | nil => simp at hy
  | cons z r ih =>
    simp only [Go.ChangeShapes.strs, List.map_cons, DataW.weightsAll, DataW.weights]
    rcases List.mem_cons.1 hy with rfl | hy
    · simp
    · exact List.mem_append_right _ (ih hy)

/-- an argument that is a slice of texts, opened -/
theorem open_texts {H : Type} {enc : TypeId × Value → H} {P : Program} {w : World} {base : Nat} {spare : Nat → Bool} {held : Bool} {t e : TypeId} {a0 : Option Addr} {len cap fuel : Nat} {x : DataW H × List MemPlace} (ht : P.underlying t = some (.slice e)) (he : P.underlying e = some .string) (hc : P.cellsOf e = 1) (hb16 : P.bytesOf e = 16)
    (hf : DataW.trod enc P w base spare held fuel t (Value.slice a0 len cap).cells.toList = some x) (hsz : ∀ n ∈ DataW.weights P t x.1, n ≤ reachBytes) :
    ∃ l : List ByteArray, Strs a0 len l w ∧ (∀ y ∈ l, y.size ≤ 140737488351232) ∧ len ≤ 8796093022208 ∧ (a0 = none → len = 0 ∧ cap = 0) := by
  rcases Go.ChangeShapes.open_strings ht he hc hf with ⟨hcs, _⟩ | ⟨a, len', cap', ss, hcs, _, hl, hm, hz, hx, hcell, hws⟩
  · simp [Value.cells] at hcs
    obtain ⟨rfl, rfl, rfl⟩ := hcs
    exact ⟨[], Strs.nil _ _, by simp, by omega, fun _ => ⟨rfl, rfl⟩⟩
  · simp [Value.cells] at hcs
    obtain ⟨rfl, rfl, rfl⟩ := hcs
    subst hx
    have hsl : len ≤ ss.length := by rw [hz]; split <;> omega
    refine ⟨ss.take len, ⟨by simp; omega, fun j hj => ?_⟩, ?_, ?_, fun c => by cases c⟩
    · have h := hcell j (by omega)
      obtain ⟨b, off, spot⟩ := a
      have h0 := hcell 0 (by omega)
      have hspot : spot = none := by simpa [Addr.add] using World.cell?_spot h0
      subst hspot
      refine ⟨b, off, rfl, ?_⟩
      have ea : (Addr.add ⟨b, off, none⟩ j) = ⟨b, off + j, none⟩ := by cases j <;> simp [Addr.add]
      rw [ea] at h
      rw [h]
      simp [List.getD_eq_getElem?_getD, List.getElem?_take_of_lt hj]
    · intro y hy
      have := hsz y.data.toList.length (by
        simp only [DataW.weights, ht]
        refine List.mem_cons_of_mem _ (List.mem_append_left _ ?_)
        exact weight_mem P e (ss.take len) y hy)
      rw [ba_len] at this
      exact this
    · have := hsz (((Go.ChangeShapes.strs (H := H) (ss.take len)).length + (Go.ChangeShapes.strs (H := H) (ss.drop len)).length) * P.bytesOf e) (by simp only [DataW.weights, ht]; exact List.mem_cons_self ..)
      rw [hb16] at this
      have e1 : (Go.ChangeShapes.strs (H := H) (ss.take len)).length = len := by simp [Go.ChangeShapes.strs]; omega
      rw [e1] at this
      have : reachBytes = 140737488351232 := rfl
      omega

end Go.Proofs.YtolldoclnfnceaaDoor

/-
  Whole blocks of numbers: what a cell of one holds, what the block is behind a store; a world that has grown and whose one block was turned.
-/
set_option linter.unusedVariables false
namespace Go.Proofs.YtolldoclnfnceaaDoor
open Go.RowKit

def u32s (ns : List Nat) : Array Value := (ns.map fun (n : Nat) => Value.int .u32 (n : Int)).toArray
def u8s (bs : List UInt8) : Array Value := (bs.map fun (b : UInt8) => Value.int .u8 (b.toNat : Int)).toArray

@[simp] theorem u32s_size (ns : List Nat) : (u32s ns).size = ns.length := by simp [u32s]
@[simp] theorem u8s_size (bs : List UInt8) : (u8s bs).size = bs.length := by simp [u8s]
theorem u32s_get (ns : List Nat) (j : Nat) (h : j < ns.length) : (u32s ns)[j]? = some (.int .u32 (ns.getD j 0 : Nat)) := by
  simp [u32s, List.getD_eq_getElem?_getD, h]
theorem u8s_get (bs : List UInt8) (j : Nat) (h : j < bs.length) : (u8s bs)[j]? = some (.int .u8 ((bs.getD j 0).toNat : Nat)) := by
  simp [u8s, List.getD_eq_getElem?_getD, h]
theorem u32s_one (ns : List Nat) : (u32s ns).all (·.oneCell') = true := by
  rw [Array.all_eq_true_iff_forall_mem]
  intro v hv
  simp [u32s] at hv
  obtain ⟨n, _, rfl⟩ := hv
  rfl
theorem u8s_one (bs : List UInt8) : (u8s bs).all (·.oneCell') = true := by
  rw [Array.all_eq_true_iff_forall_mem]
  intro v hv
  simp [u8s] at hv
  obtain ⟨n, _, rfl⟩ := hv
  rfl
theorem u32s_set (ns : List Nat) (j x : Nat) : (u32s ns).setIfInBounds j (.int .u32 (x : Int)) = u32s (ns.set j x) := by
  apply Array.ext'
  simp [u32s, List.map_set]
theorem u8s_set (bs : List UInt8) (j : Nat) (x : UInt8) : (u8s bs).setIfInBounds j (.int .u8 (x.toNat : Int)) = u8s (bs.set j x) := by
  apply Array.ext'
  simp [u8s, List.map_set]
def nils (n : Nat) : List Nat := List.replicate n 0
def nils8 (n : Nat) : List UInt8 := List.replicate n 0
@[simp] theorem nils_length (n : Nat) : (nils n).length = n := List.length_replicate
@[simp] theorem nils8_length (n : Nat) : (nils8 n).length = n := List.length_replicate
theorem u32s_zeros (n : Nat) : u32s (List.replicate n 0) = Array.replicate n (.int .u32 0) := by
  apply Array.ext'
  simp [u32s]
theorem u8s_zeros (n : Nat) : u8s (List.replicate n 0) = Array.replicate n (.int .u8 0) := by
  apply Array.ext'
  simp [u8s]

variable {w : World} {b : Nat} {T : TypeId}
theorem row_u32 {ns : List Nat} {fr : Nat × Nat} (h : w.heap[b]? = some (.cells (u32s ns) T fr)) (j : Nat) (hj : j < ns.length) : w.cell? ⟨b, j, none⟩ = some (.int .u32 (ns.getD j 0 : Nat)) := by
  rw [cell_of_row w b j _ T fr h, u32s_get ns j hj]
theorem row_u8 {bs : List UInt8} {fr : Nat × Nat} (h : w.heap[b]? = some (.cells (u8s bs) T fr)) (j : Nat) (hj : j < bs.length) : w.cell? ⟨b, j, none⟩ = some (.int .u8 ((bs.getD j 0).toNat : Nat)) := by
  rw [cell_of_row w b j _ T fr h, u8s_get bs j hj]
theorem row_free {cs : Array Value} (h : w.heap[b]? = some (.cells cs T (0, 0))) (j : Nat) : w.frozen? ⟨b, j, none⟩ = false := frozen_of_row w b j cs T h
theorem row_set32 {ns : List Nat} (h : w.heap[b]? = some (.cells (u32s ns) T (0, 0))) (j x : Nat) : (w.setCell ⟨b, j, none⟩ (.int .u32 (x : Int))).heap[b]? = some (.cells (u32s (ns.set j x)) T (0, 0)) := by
  rw [heap_setCell_same w b j _ T _ h, u32s_set]
theorem row_set8 {bs : List UInt8} (h : w.heap[b]? = some (.cells (u8s bs) T (0, 0))) (j : Nat) (x : UInt8) : (w.setCell ⟨b, j, none⟩ (.int .u8 (x.toNat : Int))).heap[b]? = some (.cells (u8s (bs.set j x)) T (0, 0)) := by
  rw [heap_setCell_same w b j _ T _ h, u8s_set]
theorem row_u32_app {ns : List Nat} {tl : Array Value} {fr : Nat × Nat} (h : w.heap[b]? = some (.cells (u32s ns ++ tl) T fr)) (j : Nat) (hj : j < ns.length) : w.cell? ⟨b, j, none⟩ = some (.int .u32 (ns.getD j 0 : Nat)) := by
  rw [cell_of_row w b j _ T fr h, Array.getElem?_append_left (by rw [u32s_size]; exact hj), u32s_get ns j hj]
theorem row_set32_app {ns : List Nat} {tl : Array Value} (h : w.heap[b]? = some (.cells (u32s ns ++ tl) T (0, 0))) (j x : Nat) (hj : j < ns.length) :
    (w.setCell ⟨b, j, none⟩ (.int .u32 (x : Int))).heap[b]? = some (.cells (u32s (ns.set j x) ++ tl) T (0, 0)) := by
  rw [heap_setCell_same w b j _ T _ h, ← u32s_set]
  congr 2
  apply Array.ext'
  simp [u32s, hj]
theorem row_lt {o : Obj} (h : w.heap[b]? = some o) : b < w.heap.size := (Array.getElem?_eq_some_iff.1 h).1
theorem row_alloc {o : Obj} (h : w.heap[b]? = some o) (o' : Obj) : (w.alloc o').heap[b]? = some o := by
  rw [Below.heap_alloc w o' b (row_lt h)]; exact h
theorem row_below {w' : World} {B : Nat} {o : Obj} (h : w.heap[b]? = some o) (hb : Below B w w') (hB : b < B) : w'.heap[b]? = some o := by
  rw [hb.block b hB]; exact h

theorem load_row {P : Program} (w : World) (g : Nat) (t ty : TypeId) (cs : Array Value) (fr : Nat × Nat) (d : TypeDesc) (hg : w.heap[g]? = some (.cells cs t fr))
    (hu : P.underlying ty = some d) (hd : (match d with | .struct _ | .array _ _ => true | _ => false) = true) (hi : (P.info? ty).map (·.size) = some cs.size) :
    (Instr.loadAt ty (.pointer (some ⟨g, 0, none⟩))).run P w = .ok (.agg cs) w := by
  simp only [Instr.loadAt, Instr.sureAddr, Sem.run_bind, Sem.run_pure, Result.andThen_ok, run_loadVar_row w g t ty cs fr d hg hu hd hi]
theorem store_row {P : Program} (w : World) (g : Nat) (t ty : TypeId) (old cs : Array Value) (hg : w.heap[g]? = some (.cells old t (0, 0))) (hi : (P.info? ty).map (·.size) = some cs.size)
    (ho : old.size = cs.size) (h1 : cs.all (·.oneCell') = true) :
    (Instr.storeAt ty (.pointer (some ⟨g, 0, none⟩)) (.agg cs)).run P w = .ok () (w.setRow g cs) := by
  simp only [Instr.storeAt, Instr.sureAddr, Sem.run_bind, Sem.run_pure, Result.andThen_ok, run_storeVar_row w g t ty old cs hg hi ho h1]
theorem wpList_store_whole {P : Program} {ops : Array Oper} {rest : List Oper} {o : Oper} {a : Act} {w : World} {Q : Exit → Act → World → Prop} (hgd : o.guard = none) (ty : TypeId) (x y : Operand) (ho : o.op = .store ty x y)
    (g : Nat) (cs : Array Value) (hx : a.eval x = .pointer (some ⟨g, 0, none⟩)) (hy : a.eval y = .agg cs)
    (t : TypeId) (old : Array Value) (hg : w.heap[g]? = some (.cells old t (0, 0))) (hi : (P.info? ty).map (·.size) = some cs.size) (hold : old.size = cs.size) (h1 : cs.all (·.oneCell') = true)
    (h : wpList P ops Q rest (a.put o.dst undef) (w.setRow g cs)) : wpList P ops Q (o :: rest) a w :=
  wpList_plain hgd fun _ hK => wp_store_row ty x y ho g cs hx hy t old hg hi hold h1 (hK _ _ h)
theorem below_setRow {B g : Nat} {a w : World} (h : Below B a w) (hB : B ≤ g) (cs : Array Value) : Below B a (w.setRow g cs) :=
  h.trans ⟨rfl, rfl, rfl, by simp, fun k hk => setRow_other w g k cs (by omega)⟩

theorem drewN_below {B : Nat} {a w : World} (h : Below B a w) (n : Nat) : Below B a (w.drewN n) := ⟨h.os, h.tape, h.output, h.size, h.block⟩

/-- the world has grown, and of what was there block b alone was turned -/
theorem grown_of_below {w w' : World} (h : Below w.heap.size w w') (row : Option Nat) : w.grownBy w' row := ⟨h.os, h.tape, h.output, h.size, fun k hk _ => h.block k hk⟩
theorem below_of_grown {w w' : World} {row : Option Nat} (h : w.grownBy w' row) (hr : ∀ k, row = some k → w.heap.size ≤ k) : Below w.heap.size w w' := ⟨h.os, h.tape, h.output, h.size, fun k hk => h.block k hk (fun e => by have := hr k e.symm; omega)⟩
theorem grown_trans {a b c : World} {row : Option Nat} (h : a.grownBy b row) (k : b.grownBy c row) : a.grownBy c row :=
  ⟨k.os.trans h.os, k.tape.trans h.tape, k.output.trans h.output, Nat.le_trans h.size k.size, fun j hj hne => (k.block j (Nat.lt_of_lt_of_le hj h.size) hne).trans (h.block j hj hne)⟩
theorem grown_set (w : World) (b j : Nat) (v : Value) : w.grownBy (w.setCell ⟨b, j, none⟩ v) (some b) :=
  ⟨rfl, rfl, rfl, by simp [World.setCell], fun k _ hk => Below.heap_setCell _ _ _ _ (fun e => hk (by simp [e]))⟩
theorem grown_row {w w' : World} {b c : Nat} {o : Obj} (h : w.heap[c]? = some o) (hg : w.grownBy w' (some b)) (hne : c ≠ b) : w'.heap[c]? = some o := by
  rw [hg.block c (row_lt h) (fun e => hne (by simpa using e))]; exact h
theorem below_grown {B b : Nat} {a w w' : World} (h : Below B a w) (hg : w.grownBy w' (some b)) (hB : B ≤ w.heap.size) (hb : B ≤ b) : Below B a w' := h.grown hg hB (fun k e => by cases e; exact hb)
end Go.Proofs.YtolldoclnfnceaaDoor

/-
  A world that has grown and of which only some blocks were turned; what a row and a map of the call's own are behind that.
-/
set_option linter.unusedVariables false
namespace Go.Proofs.YtolldoclnfnceaaDoor
open Go.RowKit

/-- the world has grown; of what was there only the blocks of S were turned -/
structure Turns (S : Nat → Prop) (w w' : World) : Prop where
  os : w'.os = w.os
  tape : w'.tape = w.tape
  output : w'.output = w.output
  size : w.heap.size ≤ w'.heap.size
  block : ∀ k, k < w.heap.size → ¬ S k → w'.heap[k]? = w.heap[k]?

theorem Turns.refl (S : Nat → Prop) (w : World) : Turns S w w := ⟨rfl, rfl, rfl, Nat.le_refl _, fun _ _ _ => rfl⟩
theorem Turns.trans {S T : Nat → Prop} {a b c : World} (h : Turns S a b) (k : Turns T b c) (hT : ∀ j, j < a.heap.size → T j → S j) : Turns S a c :=
  ⟨k.os.trans h.os, k.tape.trans h.tape, k.output.trans h.output, Nat.le_trans h.size k.size, fun j hj hn => (k.block j (Nat.lt_of_lt_of_le hj h.size) (fun e => hn (hT j hj e))).trans (h.block j hj hn)⟩
theorem Turns.mono {S T : Nat → Prop} {a b : World} (h : Turns S a b) (hT : ∀ j, j < a.heap.size → S j → T j) : Turns T a b :=
  ⟨h.os, h.tape, h.output, h.size, fun j hj hn => h.block j hj (fun e => hn (hT j hj e))⟩
theorem Turns.of_grown {w w' : World} {row : Option Nat} (h : w.grownBy w' row) : Turns (fun k => row = some k) w w' := ⟨h.os, h.tape, h.output, h.size, fun k hk hn => h.block k hk (fun e => hn e.symm)⟩
theorem Turns.of_below {w w' : World} {B : Nat} (h : Below B w w') (S : Nat → Prop) (hS : ∀ k, B ≤ k → k < w.heap.size → S k) : Turns S w w' :=
  ⟨h.os, h.tape, h.output, h.size, fun k hk hn => h.block k (by rcases Nat.lt_or_ge k B with h | h; exact h; exact absurd (hS k h hk) hn)⟩
theorem Turns.of_new {w w' : World} (h : Below w.heap.size w w') (S : Nat → Prop) : Turns S w w' := Turns.of_below h S (fun k a b => by omega)
theorem Turns.below {S : Nat → Prop} {w w' : World} (h : Turns S w w') {B : Nat} (hB : B ≤ w.heap.size) (hS : ∀ k, k < w.heap.size → S k → B ≤ k) : Below B w w' :=
  ⟨h.os, h.tape, h.output, h.size, fun k hk => h.block k (by omega) (fun e => by have := hS k (by omega) e; omega)⟩
theorem Turns.drew {S : Nat → Prop} {w w' : World} (h : Turns S w w') : Turns S w w'.drew := ⟨h.os, h.tape, h.output, h.size, h.block⟩
theorem Turns.drewN {S : Nat → Prop} {w w' : World} (h : Turns S w w') (n : Nat) : Turns S w (w'.drewN n) := ⟨h.os, h.tape, h.output, h.size, h.block⟩
theorem Turns.alloc {S : Nat → Prop} {w w' : World} (h : Turns S w w') (o : Obj) : Turns S w (w'.alloc o) :=
  h.trans (Turns.of_grown (World.grownBy_alloc w' o none)) (fun _ _ e => by cases e)
theorem Turns.set {S : Nat → Prop} {w w' : World} (h : Turns S w w') (b j : Nat) (v : Value) (hb : b < w.heap.size → S b) : Turns S w (w'.setCell ⟨b, j, none⟩ v) :=
  h.trans (Turns.of_grown (grown_set w' b j v)) (fun k hk e => by cases e; exact hb hk)
theorem Turns.row {S : Nat → Prop} {w w' : World} (h : Turns S w w') (b : Nat) (cs : Array Value) (hb : b < w.heap.size → S b) : Turns S w (w'.setRow b cs) :=
  ⟨h.os, h.tape, h.output, by have := h.size; simpa using this, fun k hk hn => (setRow_other w' b k cs (fun e => hn (by subst e; exact hb hk))).trans (h.block k hk hn)⟩
theorem Turns.same {S : Nat → Prop} {w w' : World} {b : Nat} {o : Obj} (h : Turns S w w') (ho : w.heap[b]? = some o) (hb : ¬ S b) : w'.heap[b]? = some o := by
  rw [h.block b (row_lt ho) hb]; exact ho

theorem ownsMap_same {H : Type} {P : Program} {k : TypeId} {R : Value → Option (DataW H × List MemPlace)} {w w' : World} {b n : Nat} {D : DataW H} (h : w.ownsMap P k R b n D) (e : w'.heap[b]? = w.heap[b]?) : w'.ownsMap P k R b n D := by
  obtain ⟨es, clock, hb, F, hs, hD⟩ := h
  exact ⟨es, clock, e.trans hb, F, hs, hD⟩
theorem ownsRow_same {w w' : World} {base : Nat} {e : TypeId} {size : Nat} {v : Value} {n : Nat} {xs : List Value} (h : w.ownsRow base e size v n xs) (hk : ∀ g, v.ownBlock = some g → w'.heap[g]? = w.heap[g]?) : w'.ownsRow base e size v n xs := by
  obtain ⟨h1, h2⟩ := h
  refine ⟨h1, ?_⟩
  rcases h2 with h2 | ⟨g, cap, cur, rfl, hb, hg, hr⟩
  · exact .inl h2
  · exact .inr ⟨g, cap, cur, rfl, hb, (hk g rfl).trans hg, hr⟩
theorem ownsRow_block {w : World} {base : Nat} {e : TypeId} {size : Nat} {v : Value} {n : Nat} {xs : List Value} (h : w.ownsRow base e size v n xs) {g : Nat} (hg : v.ownBlock = some g) : ∃ cur : Array Value, w.heap[g]? = some (.cells cur e (0, 0)) := by
  obtain ⟨h1, h2⟩ := h
  rcases h2 with ⟨rfl, _⟩ | ⟨g', cap, cur, rfl, hb, hh, hr⟩
  · simp [Value.ownBlock] at hg
  · have : g' = g := by simpa [Value.ownBlock] using hg
    subst this
    exact ⟨cur, hh⟩
theorem ownsMap_obj {H : Type} {P : Program} {k : TypeId} {R : Value → Option (DataW H × List MemPlace)} {w : World} {b n : Nat} {D : DataW H} (h : w.ownsMap P k R b n D) : ∃ es clock, w.heap[b]? = some (.map es clock) := by
  obtain ⟨es, clock, hb, _⟩ := h
  exact ⟨es, clock, hb⟩
end Go.Proofs.YtolldoclnfnceaaDoor

/-
  copy from a text into the midst of a block, as much as there is room for; a slice of an array from a place on.
-/
set_option linter.unusedVariables false
namespace Go.Proofs.YtolldoclnfnceaaDoor
open Go.RowKit

theorem run_copy_str {P : Program} (w : World) (dT sT ty elem : TypeId) (g o dLen dCap : Nat) (s : ByteArray) (m : Nat) (hm : m = min s.size dLen) (cur : Array Value) (t : TypeId)
    (hu : P.underlying dT = some (.slice elem)) (hs : (P.info? elem).map (·.size) = some 1) (hg : w.heap[g]? = some (.cells cur t (0, 0))) (hfit : o + m ≤ cur.size) :
    (Builtin.copy_ #[dT, sT] ty #[.slice (some ⟨g, o, none⟩) dLen dCap, .string s]).run P w =
      .ok (goInt m) (w.setRow g (cur.toList.take o ++ (u8s (s.data.toList.take m)).toList ++ cur.toList.drop (o + m)).toArray) := by
  have hl : (s.data.toList.take m).length = m := by rw [List.length_take, ba_len]; omega
  have hl2 : (u8s (s.data.toList.take m)).toList.length = m := by rw [Array.length_toList, u8s_size, hl]
  have hst := run_storeCells_at P g o t (u8s (s.data.toList.take m)).toList 0 cur w hg (by rw [hl2]; simpa using hfit) (fun v hv => by
    have := u8s_one (s.data.toList.take m)
    rw [Array.all_eq_true_iff_forall_mem] at this
    exact this v (by simpa using hv))
  rw [hl2] at hst
  simp only [Nat.add_zero] at hst
  have hmm : Nat.min s.size dLen = m := hm.symm
  cases hq : P.info? elem with
  | none => simp [hq] at hs
  | some i =>
    have htk : List.take m (List.map (fun b : UInt8 => Value.int IntKind.u8 (b.toNat : Int)) s.data.toList) = (u8s (s.data.toList.take m)).toList := by
      simp [u8s, List.map_take]
    simp [Builtin.copy_, run_underlying hu, Builtin.lenOf, Builtin.firstCells, sizeOf, typeInfo, hq, hmm]
    rw [htk, hst]
    simp [Result.andThen]

theorem step_copy_str {P : Program} {ops : Array Oper} {o : Oper} {a : Act} {w : World} {K : Act → World → Prop} {Q : Exit → Act → World → Prop} {E : Prop} (hg : o.guard = none) (d x : Operand) (dT sT : TypeId)
    (hop : o.op = Op.call { callee := Callee.builtin Builtin.copy, args := #[d, x], argTypes := #[dT, sT] }) (elem : TypeId) (hu : P.underlying dT = some (.slice elem)) (hs : (P.info? elem).map (·.size) = some 1)
    (g off dLen dCap : Nat) (hd : a.eval d = .slice (some ⟨g, off, none⟩) dLen dCap) (t : ByteArray) (hx : a.eval x = .string t) (m : Nat) (hm : m = min t.size dLen) (cur : Array Value) (T : TypeId)
    (hrow : w.heap[g]? = some (.cells cur T (0, 0))) (hfit : off + m ≤ cur.size)
    (hK : K (a.put o.dst (goInt m)) (w.setRow g (cur.toList.take off ++ (u8s (t.data.toList.take m)).toList ++ cur.toList.drop (off + m)).toArray)) :
    if Region.wanted o (yielded ops a.tmps) = true then Oper.wp P o a w K Q else E := by
  have hw : Region.wanted o (yielded ops a.tmps) = true := by simp [Region.wanted, hg]
  rw [if_pos hw]
  have hrun := run_copy_str (P := P) w dT sT o.type elem g off dLen dCap t m hm cur T hu hs hrow hfit
  unfold Oper.wp
  rw [List.append_assoc] at hK
  simp [execOp, hop, resolve, invoke, builtin, hd, hx, hrun, Result.andThen]
  exact hK

/-- arr[l:], an array within a block -/
theorem slice_arr_l {P : Program} (t : TypeId) (n : Nat) (ht : P.underlying t = some (.array (P.arrayLen t) (P.elem t))) (hn : P.arrayLen t = n) (hsz : ∀ u : World, (sizeOf (P.elem t)).run P u = .ok 1 u)
    (B o : Nat) (x : Int) (l : Nat) (hx : x = (l : Int)) (hl : l < n) (u : World) :
    (Instr.sliceAt t (.pointer (some ⟨B, o, none⟩)) (some (.int .i64 x)) none none).run P u = .ok (.slice (some ⟨B, o + l, none⟩) (n - l) (n - l)) u := by
  subst hx
  rw [run_sliceAt_array_l (P := P) u t ⟨B, o, none⟩ ht .i64 (l : Int) (by omega) (by rw [hn]; omega), hsz u]
  have e : n - l ≠ 0 := by omega
  by_cases h0 : l = 0 <;> simp [slicedAt, hn, h0, Addr.add]
  all_goals omega
end Go.Proofs.YtolldoclnfnceaaDoor

/-
  A region that draws its order, whose first n operations yield under S whatever was done ahead of them, whose next ones (up to m) are forced, one behind the other, and keep S, and whose last ones wait for all of the first n:
  it is walked in the text's order ('x.f = append(x.f, e)': the loads, then the new element's row and the append, then the store).
-/
set_option linter.unusedVariables false
namespace Go.Proofs.YtolldoclnfnceaaDoor
open Go.RowKit

section
variable {P : Program} {ops : Array Oper} {Q : Exit → Act → World → Prop} {md : Region.Mode} {S : World → Prop} {m : Nat}

/-- whatever order is picked from here on; behind each operation ahead of number m S holds -/
def wpU (P : Program) (md : Region.Mode) (ops : Array Oper) (Q : Exit → Act → World → Prop) (S : World → Prop) (m : Nat) : Nat → Array Bool → Act → World → Prop
  | 0, listed, a, w => Region.ready md ops listed = [] ∧ Q .normal a w
  | f + 1, listed, a, w => (Region.ready md ops listed = [] → Q .normal a w) ∧ ∀ i ∈ Region.ready md ops listed, wpOp P ops Q i (fun a' w' => (i < m → S w') ∧ wpU P md ops Q S m f (listed.setIfInBounds i true) a' w') a w

theorem wpU.any : ∀ {f : Nat} {listed : Array Bool} {a : Act} {w : World}, wpU P md ops Q S m f listed a w → wpAny P md ops Q f listed a w
  | 0, _, _, _, h => h
  | _ + 1, _, _, _, h => ⟨h.1, fun i hi => wpOp_mono (fun _ _ k => k.2.any) (h.2 i hi)⟩

theorem wpU_first {i : Nat} {oi : Oper} {v : Value} (hi : ops[i]? = some oi) (hsel : ∀ (j : Nat) (o : Oper) cs b, ops[j]? = some o → o.op ≠ .select cs b) (hQ : ∀ c a w, Q (.panic c) (a.put oi.dst v) w → Q (.panic c) a w)
    (hwait : ∀ t ot, m ≤ t → ops[t]? = some ot → ∃ e ∈ ot.after, Region.binds md e = true ∧ e.on = i) (f : Nat) :
    ∀ (listed : Array Bool) (a : Act) (w : World), (∀ j oj, ops[j]? = some oj → j ≠ i → listed.getD j true = false → (∀ e ∈ oj.after, Region.binds md e = true → e.on ≠ i) → oi.apart ops oj = true) →
      i ∈ Region.ready md ops listed → YieldsIf P ops S oi v a → S w → wpU P md ops Q S m f (listed.setIfInBounds i true) (a.put oi.dst v) w → wpU P md ops Q S m (f + 1) listed a w := by
  induction f with
  | zero =>
    intro listed a w hfree hr hy hS H
    refine ⟨fun e => by rw [e] at hr; exact absurd hr List.not_mem_nil, fun j hj => ?_⟩
    by_cases e : j = i
    · rw [e]; exact hy.wpOp hi hS ⟨fun _ => hS, H⟩
    · have hx := ready_mono hj e
      rw [H.1] at hx
      exact absurd hx List.not_mem_nil
  | succ f ih =>
    intro listed a w hfree hr hy hS H
    refine ⟨fun e => by rw [e] at hr; exact absurd hr List.not_mem_nil, fun j hj => ?_⟩
    by_cases e : j = i
    · rw [e]; exact hy.wpOp hi hS ⟨fun _ => hS, H⟩
    obtain ⟨hjl, oj, hoj, hja⟩ := mem_ready.1 hj
    have hil := (mem_ready.1 hr).1
    have hno : ∀ x ∈ oj.after, Region.binds md x = true → x.on ≠ i := fun x hx hb hxi => by
      have h1 := hja x hx hb
      rw [hxi, getD_both hil] at h1
      exact Bool.noConfusion h1
    have hjm : j < m := by
      rcases Nat.lt_or_ge j m with h | h
      · exact h
      · obtain ⟨x, hx, hb, hxi⟩ := hwait j oj h hoj
        exact absurd hxi (hno x hx hb)
    have hap := hfree j oj hoj e hjl hno
    have key := wpOp_putIf hoj hap (fun cs b => hsel i oi cs b hi) (fun cs b => hsel j oj cs b hoj) hQ hy (H.2 j (ready_mono hj e))
    refine wpOp_mono (fun a' w' ⟨y', s', u'⟩ => ⟨s', ?_⟩) key
    refine ih (listed.setIfInBounds j true) a' w' (fun k ok hk hki hkl hkn => ?_) (ready_mono hr (Ne.symm e)) y' (s' hjm) ?_
    · refine hfree k ok hk hki ?_ hkn
      by_cases ejk : j = k
      · rw [← ejk]; exact hjl
      · rw [getD_set_ne true ejk] at hkl; exact hkl
    · rw [Array.setIfInBounds_comm _ _ e]
      exact u'

/-- the first operations, each with what it yields under S -/
def wpTake (P : Program) (ops : Array Oper) (S : World → Prop) (L : Act → Prop) : List Oper → Act → Prop
  | [], a => L a
  | o :: l, a => ∃ v, YieldsIf P ops S o v a ∧ wpTake P ops S L l (a.put o.dst v)
/-- the forced ones that keep S; then the others -/
def wpMid (P : Program) (ops : Array Oper) (Q : Exit → Act → World → Prop) (S : World → Prop) (rest : List Oper) : List Oper → Act → World → Prop
  | [], a, w => wpList P ops Q rest a w
  | o :: l, a, w => if Region.wanted o (yielded ops a.tmps) = true then o.wp P a w (fun a' w' => S w' ∧ wpMid P ops Q S rest l a' w') Q else S w ∧ wpMid P ops Q S rest l (a.put o.dst undef) w

theorem wpU_of_seq : ∀ (l : List Oper) (k : Nat) (listed : Array Bool) (a : Act) (w : World), m ≤ k → (∀ j, l[j]? = ops[k + j]?) → Region.seqB md ops l.length k listed = true → wpList P ops Q l a w → wpU P md ops Q S m l.length listed a w
  | [], _, _, _, _, _, _, hB, h => ⟨by simpa [Region.seqB] using hB, h⟩
  | o :: l, k, listed, a, w, hk, hl, hB, h => by
    have h0 : ops[k]? = some o := by simpa using (hl 0).symm
    simp only [List.length_cons, Region.seqB, Bool.and_eq_true, decide_eq_true_eq] at hB
    refine ⟨fun e => by rw [hB.1] at e; exact absurd e (List.cons_ne_nil _ _), fun i hi => ?_⟩
    rw [hB.1] at hi
    obtain rfl : i = k := by simpa using hi
    have hw : wpOp P ops Q i (wpList P ops Q l) a w := by unfold wpOp; simp only [h0]; exact h
    exact wpOp_mono (fun a' w' k => ⟨fun h => absurd h (by omega), wpU_of_seq l (i + 1) _ a' w' (by omega) (fun j => by have := hl (j + 1); simpa [Nat.add_assoc, Nat.add_comm 1 j] using this) hB.2 k⟩) hw

theorem wpU_of_mid {rest : List Oper} (hrest : ∀ j, rest[j]? = ops[m + j]?) : ∀ (l : List Oper) (k : Nat) (listed : Array Bool) (a : Act) (w : World), k + l.length = m → (∀ j, j < l.length → l[j]? = ops[k + j]?) → Region.seqB md ops (l.length + rest.length) k listed = true →
    wpMid P ops Q S rest l a w → wpU P md ops Q S m (l.length + rest.length) listed a w
  | [], k, listed, a, w, hk, _, hB, h => by
    have : k = m := by simpa using hk
    subst this
    simp only [List.length_nil, Nat.zero_add] at hB ⊢
    exact wpU_of_seq rest k listed a w (Nat.le_refl _) hrest hB h
  | o :: l, k, listed, a, w, hk, hl, hB, h => by
    have h0 : ops[k]? = some o := by simpa using (hl 0 (by simp)).symm
    have hn : (o :: l).length + rest.length = (l.length + rest.length) + 1 := by simp; omega
    rw [hn] at hB ⊢
    simp only [Region.seqB, Bool.and_eq_true, decide_eq_true_eq] at hB
    simp only [List.length_cons] at hk
    refine ⟨fun e => by rw [hB.1] at e; exact absurd e (List.cons_ne_nil _ _), fun i hi => ?_⟩
    rw [hB.1] at hi
    obtain rfl : i = k := by simpa using hi
    have hw : wpOp P ops Q i (fun a' w' => S w' ∧ wpMid P ops Q S rest l a' w') a w := by
      unfold wpOp
      simp only [h0]
      unfold wpMid at h
      split
      · rename_i hwd; rw [if_pos hwd] at h; exact .inl h
      · rename_i hwd; rw [if_neg hwd] at h; exact h
    exact wpOp_mono (fun a' w' k => ⟨fun _ => k.1, wpU_of_mid hrest l (i + 1) _ a' w' (by omega) (fun j hj => by have := hl (j + 1) (by simp; omega); simpa [Nat.add_assoc, Nat.add_comm 1 j] using this) hB.2 k.2⟩) hw

theorem wpU_of_take {n g : Nat} {w : World} {L : Act → Prop} (hs : Region.noSelect ops = true) (hS : S w) (hQ : ∀ o v c a w, Q (.panic c) (a.put o v) w → Q (.panic c) a w)
    (hwait : ∀ i, i < n → ∀ t ot, m ≤ t → ops[t]? = some ot → ∃ e ∈ ot.after, Region.binds md e = true ∧ e.on = i)
    (hL : ∀ listed a, Region.seqB md ops g n listed = true → L a → wpU P md ops Q S m g listed a w) :
    ∀ (l : List Oper) (k : Nat) (listed : Array Bool) (a : Act), k + l.length = n → (∀ j, j < l.length → l[j]? = ops[k + j]?) → Region.lexHead md ops g l.length k listed = true → wpTake P ops S L l a → wpU P md ops Q S m (l.length + g) listed a w
  | [], k, listed, a, hk, _, hB, h => by
    have : k = n := by simpa using hk
    subst this
    simp only [List.length_nil, Nat.zero_add]
    exact hL listed a (by simpa [Region.lexHead] using hB) h
  | o :: l, k, listed, a, hk, hl, hB, h => by
    have h0 : ops[k]? = some o := by simpa using (hl 0 (by simp)).symm
    simp only [List.length_cons, Region.lexHead, Bool.and_eq_true] at hB
    obtain ⟨⟨hr, hf⟩, hB'⟩ := hB
    obtain ⟨v, hy, h'⟩ := h
    simp only [List.length_cons] at hk
    have hn : (o :: l).length + g = (l.length + g) + 1 := by simp; omega
    rw [hn]
    exact wpU_first h0 (Region.noSelect_spec hs) (fun c a w => hQ _ _ c a w) (hwait k (by omega)) _ listed a w (Region.free_spec h0 hf) (by simpa using hr) hy hS
      (wpU_of_take hs hS hQ hwait hL l (k + 1) _ _ (by omega) (fun j hj => by have := hl (j + 1) (by simp; omega); simpa [Nat.add_assoc, Nat.add_comm 1 j] using this) hB' h')

def midB (ops : Array Oper) (n m : Nat) : Bool :=
  Region.noSelect ops && (decide (n ≤ m) && (decide (m ≤ ops.size) && (Region.lexHead .any ops (ops.size - n) n 0 (Array.replicate ops.size false) &&
    (List.range ops.size).all fun t => decide (t < m) || (List.range n).all fun i => Region.waitsFor .any ops t i)))

/-- at a panic nothing hangs on the frame -/
def Frameless (Q : Exit → Act → World → Prop) : Prop := ∀ o v c a w, Q (.panic c) (Act.put a o v) w → Q (.panic c) a w

theorem wpAny_of_mid {a : Act} {w : World} (n m : Nat) (hB : midB ops n m = true) (hQ : Frameless Q) (S : World → Prop) (hS : S w.drew)
    (h : wpTake P ops S (fun a' => wpMid P ops Q S (ops.toList.drop m) ((ops.toList.drop n).take (m - n)) a' w.drew) (ops.toList.take n) a) : wpAny P .any ops Q ops.size (Array.replicate ops.size false) a w.drew := by
  simp only [midB, Bool.and_eq_true, decide_eq_true_eq] at hB
  obtain ⟨h1, h2, h3, h4, h5⟩ := hB
  refine wpU.any (S := S) (m := m) ?_
  have hl : (ops.toList.take n).length = n := by simp; omega
  have hl2 : ((ops.toList.drop n).take (m - n)).length = m - n := by simp; omega
  have hl3 : (ops.toList.drop m).length = ops.size - m := by simp
  have e : ops.size = (ops.toList.take n).length + (ops.size - n) := by omega
  have key := wpU_of_take (md := .any) (n := n) (g := ops.size - n) (m := m) (S := S) (Q := Q) (P := P) h1 hS hQ (fun i hi t ot ht hot => by
      have h6 := List.all_eq_true.1 h5 t (List.mem_range.2 (Array.getElem?_eq_some_iff.1 hot).1)
      simp only [Bool.or_eq_true, decide_eq_true_eq] at h6
      rcases h6 with h6 | h6
      · omega
      · obtain ⟨oj, hoj, x, hx⟩ := Region.waitsFor_spec (List.all_eq_true.1 h6 i (List.mem_range.2 hi))
        have : oj = ot := Option.some.inj (hoj.symm.trans hot)
        subst this
        exact ⟨x, hx⟩)
    (fun listed a' hb hL => by
      have e2 : ops.size - n = ((ops.toList.drop n).take (m - n)).length + (ops.toList.drop m).length := by omega
      rw [e2] at hb ⊢
      exact wpU_of_mid (fun j => by simp) _ n listed a' _ (by omega) (fun j hj => by
        rw [List.getElem?_take, if_pos (by omega), List.getElem?_drop]; simp) hb hL)
    (ops.toList.take n) 0 (Array.replicate ops.size false) a (by omega) (fun j hj => by rw [List.getElem?_take, if_pos (by omega)]; simp) (by rw [hl]; exact h4) h
  rw [hl] at key
  rw [show n + (ops.size - n) = ops.size by omega] at key
  exact key

theorem wp_region_mid {id : Nat} {a : Act} {w : World} (n m : Nat) (hm : P.follows .mixedOrders = true) (hB : midB ops n m = true) (hQ : Frameless Q) (S : World → Prop) (hS : S w.drew)
    (h : wpTake P ops S (fun a' => wpMid P ops Q S (ops.toList.drop m) ((ops.toList.drop n).take (m - n)) a' w.drew) (ops.toList.take n) a) : (Code.region id ops true).wp P Q a w :=
  wp_region_any hm (wpAny_of_mid n m hB hQ S hS h)

theorem frameless_np : Frameless (NoPanic Q) := fun _ _ _ _ _ h => (h : False).elim
/-- the same, the region being shown not to panic -/
theorem wp_region_mid_np {id : Nat} {a : Act} {w : World} (n m : Nat) (hm : P.follows .mixedOrders = true) (hB : midB ops n m = true) (S : World → Prop) (hS : S w.drew)
    (h : wpTake P ops S (fun a' => wpMid P ops (NoPanic Q) S (ops.toList.drop m) ((ops.toList.drop n).take (m - n)) a' w.drew) (ops.toList.take n) a) : (Code.region id ops true).wp P Q a w :=
  wp_region_noPanic (wp_region_mid n m hm hB frameless_np S hS h)

/-! the steps -/
variable {a : Act} {L : Act → Prop} {l : List Oper} {o : Oper}
theorem take_one (v : Value) (hw : Region.wanted o (yielded ops a.tmps) = true) (h : ∀ w, S w → (execOp a.eval o).run P w = .ok (.value v) w) (hK : wpTake P ops S L l (a.put o.dst v)) : wpTake P ops S L (o :: l) a := ⟨v, .inl ⟨hw, h⟩, hK⟩
theorem take_done (h : L a) : wpTake P ops S L [] a := h
theorem take_move (x : Operand) (v : Value) (hw : Region.wanted o (yielded ops a.tmps) = true) (ho : o.op = .move x) (hx : a.eval x = v) (hK : wpTake P ops S L l (a.put o.dst v)) : wpTake P ops S L (o :: l) a :=
  take_one v hw (fun w _ => by unfold execOp; rw [ho, ← hx]; rfl) hK
theorem take_nil (x : Operand) (p : Addr) (hw : Region.wanted o (yielded ops a.tmps) = true) (ho : o.op = .nilCheck x) (hx : a.eval x = .pointer (some p)) (hK : wpTake P ops S L l (a.put o.dst (.pointer (some p)))) : wpTake P ops S L (o :: l) a :=
  take_one _ hw (fun w _ => by unfold execOp; simp only [ho, hx]; rfl) hK
theorem take_load (ty : TypeId) (x : Operand) (p : Addr) (v : Value) (hw : Region.wanted o (yielded ops a.tmps) = true) (ho : o.op = .load ty x) (hx : a.eval x = .pointer (some p)) (hr : ∀ w, S w → (Instr.loadAt ty (.pointer (some p))).run P w = .ok v w)
    (hK : wpTake P ops S L l (a.put o.dst v)) : wpTake P ops S L (o :: l) a :=
  take_one _ hw (fun w hS => by unfold execOp; rw [ho]; simp only [hx, hr w hS, Sem.run_bind, Sem.run_pure, Result.andThen_ok]) hK
theorem run_len_op {w : World} {v xv : Value} (x : Operand) {t : TypeId} (ho : o.op = Op.call { callee := Callee.builtin Builtin.len, args := #[x], argTypes := #[t] }) (hx : a.eval x = xv) (h : (Builtin.len_ #[t] o.type #[xv]).run P w = .ok v w) : (execOp a.eval o).run P w = .ok (.value v) w := by
  simp [execOp, ho, resolve, invoke, builtin, hx, h, Result.andThen]
theorem run_slice_op {w w' : World} {v : Value} (t : TypeId) (len : Nat) (parts : List (Nat × Operand)) (ho : o.op = .buildSlice t len parts.toArray) (h : (Instr.buildSlice t len (parts.map fun (i, x) => (i, a.eval x)).toArray).run P w = .ok v w') : (execOp a.eval o).run P w = .ok (.value v) w' := by
  unfold execOp
  simp only [ho, List.map_toArray, Sem.run_bind, h, Result.andThen_ok, Sem.run_pure]
theorem mid_one {rest : List Oper} {w w' : World} (v : Value) (hw : Region.wanted o (yielded ops a.tmps) = true) (h : (execOp a.eval o).run P w = .ok (.value v) w') (hS : S w') (hK : wpMid P ops Q S rest l (a.put o.dst v) w') : wpMid P ops Q S rest (o :: l) a w := by
  unfold wpMid
  rw [if_pos hw]
  unfold Oper.wp
  rw [h]
  exact ⟨hS, hK⟩
theorem mid_wp {rest : List Oper} {w : World} (hw : Region.wanted o (yielded ops a.tmps) = true) (h : o.wp P a w (fun a' w' => S w' ∧ wpMid P ops Q S rest l a' w') Q) : wpMid P ops Q S rest (o :: l) a w := by
  unfold wpMid
  rw [if_pos hw]
  exact h
theorem mid_list {rest : List Oper} {w : World} (h : wpList P ops Q rest a w) : wpMid P ops Q S rest [] a w := h
theorem run_wp {w w' : World} {v : Value} {K : Act → World → Prop} (h : (execOp a.eval o).run P w = .ok (.value v) w') (hK : K (a.put o.dst v) w') : o.wp P a w K Q := by
  unfold Oper.wp; rw [h]; exact hK
end
end Go.Proofs.YtolldoclnfnceaaDoor

/-
  A range over a function whose body always goes on, where the iterator writes memory of its own between two rounds:
  the caller says what holds where yield is called (Jin), where the body begins (Jmid), where it has ended (Jout), and behind the iterator (Jend).
-/
set_option linter.unusedVariables false
namespace Go.Proofs.YtolldoclnfnceaaDoor
open Go.RowKit

/-- a turn of a block from B on that holds no cells does not matter to J -/
def Stays (B : Nat) (J : World → Prop) : Prop := ∀ (W : World) (l : Nat) (o o' : Obj), B ≤ l → W.heap[l]? = some o → o.isCells = false → J W → J (W.putObj l o')

theorem Stays.and {B : Nat} {J K : World → Prop} (h : Stays B J) (k : Stays B K) : Stays B (fun W => J W ∧ K W) := fun W l o o' hl ho hc hj => ⟨h W l o o' hl ho hc hj.1, k W l o o' hl ho hc hj.2⟩
theorem Stays.pure {B : Nat} (p : Prop) : Stays B (fun _ => p) := fun _ _ _ _ _ _ _ h => h
theorem Stays.row {B b : Nat} {cs : Array Value} {T : TypeId} {fr : Nat × Nat} : Stays B (fun W => W.heap[b]? = some (.cells cs T fr)) := fun W l o o' hl ho hc hj => by
  show (W.putObj l o').heap[b]? = _
  rw [World.putObj_heap_other (fun e => by subst e; rw [hj] at ho; cases ho; simp [Obj.isCells] at hc)]
  exact hj
theorem Stays.below {B n : Nat} {w : World} (hB : n ≤ B) : Stays B (fun W => Below n w W) := fun W l o o' hl ho hc hj =>
  hj.trans ⟨rfl, rfl, rfl, by simp, fun k hk => World.putObj_heap_other (by omega)⟩
theorem Stays.grown {B : Nat} {w : World} {row : Option Nat} (hB : w.heap.size ≤ B) : Stays B (fun W => w.grownBy W row) := fun W l o o' hl ho hc hj =>
  ⟨hj.os, hj.tape, hj.output, by show _ ≤ (W.putObj l o').heap.size; rw [World.putObj_size]; exact hj.size, fun k hk hne => (World.putObj_heap_other (by omega)).trans (hj.block k hk hne)⟩

/-- the body has come to its end, and has let lie whatever is no cells -/
def endsIn (R : World → Prop) (W : World) : Exit → Act → World → Prop
  | .normal, _, W' => KeepsOthers W W' ∧ R W'
  | _, _, _ => False

variable {F : Fence} {n : Nat} {P : Program}

theorem rangeFunc_through {α : Type} {g : Operand} {ps : Array Tmp} {assign body : Code} {Q : Exit → Act → World → Prop} {a : Act} {w : World}
    (hro : F.round = none) (h1 : 1 ≤ n) {gf : Nat} {lb : Array Value} (hg : a.eval g = .func (.func gf) #[] lb) (hFg : F.fn gf) (eg : ∀ args w, (callFunc gf args).run P w = .ok (.enter gf args) w)
    (encs : α → Array Value) (hps : ∀ x, (encs x).size = ps.size) (J0 Jend : World → Prop) (Jin Jout : α → World → Prop) (Jmid : α → Act → World → Prop)
    (sEnd : Stays w.heap.size Jend) (sOut : ∀ x, Stays w.heap.size (Jout x)) (sMid : ∀ x a₁, Stays w.heap.size (Jmid x a₁)) (h0 : ∀ o o' : Obj, J0 ((w.alloc o).alloc o'))
    (hiter : ∀ (l : Nat) (Book : World → Prop) (W1 : World), (∀ A B, KeepsOthers A B → Book A → Book B) → w.heap.size ≤ l → Book W1 → J0 W1 →
      (∀ x W, Book W → Jin x W → YieldAt F (n - 1 - 1) P l (encs x) W fun e W' => e = .returned (.bool true) ∧ Book W' ∧ Jout x W') →
      CallsIn F (n - 1) P gf (#[.func (.yield l) #[] #[]] ++ lb) W1 fun e W' => (∃ v, e = .returned v) ∧ Book W' ∧ Jend W')
    (hassign : ∀ (l : Nat) (x : α) (W : World) (K : Act → World → Prop), w.heap.size ≤ l → Jin x W → (∀ a₁ W₁, KeepsOthers W W₁ → Jmid x a₁ W₁ → K a₁ W₁) →
      assign.wpIn (F.inRound l) (n - 1 - 1) P (Exit.then K (fun _ _ _ => False)) { tmps := (ps.zip (encs x)).foldl (fun t (p, v) => t.setIfInBounds p v) a.tmps, defers := [] } W)
    (hbody : ∀ (l : Nat) (x : α) (a₁ : Act) (W : World), w.heap.size ≤ l → Jmid x a₁ W → body.wpIn (F.inRound l) (n - 1 - 1) P (endsIn (Jout x) W) a₁ W)
    (hdone : ∀ (D : Nat) (W : World), w.heap.size ≤ D → Jend W → W.heap[D]? = some (.deferred (some [])) → Q .normal { a with defers := { target := .collected D, args := #[] } :: a.defers } W) :
    (Code.rangeFunc g ps assign body).wpIn F n P Q a w := by
  refine wpIn_rangeFunc fun fn hfn => ?_
  rw [hro]
  obtain ⟨D, hD⟩ : ∃ D, D = w.heap.size := ⟨_, rfl⟩
  let rc : LoopState → Loop := fun st => { state := st, pending := none, fn, tmps := a.tmps, params := ps, assign, body, defers := D }
  let W1 := (w.alloc (.deferred (some []))).alloc (.loop (rc .ready))
  let Book : World → Prop := fun W => W.heap[D + 1]? = some (.loop (rc .ready)) ∧ W.heap[D]? = some (.deferred (some []))
  have hbook : Book W1 := by
    refine ⟨?_, ?_⟩
    · have := World.alloc_heap_new (w.alloc (.deferred (some []))) (.loop (rc .ready))
      rw [World.size_alloc, ← hD] at this
      exact this
    · show ((w.alloc (.deferred (some []))).alloc (.loop (rc .ready))).heap[D]? = _
      rw [Below.heap_alloc _ _ _ (by simp [hD]), hD]
      exact World.alloc_heap_new w _
  refine ⟨D + 1, [{ target := .collected D, args := #[] }], W1, { target := .fn (.func gf) lb, args := #[.func (.yield (D + 1)) #[] #[]] }, W1, gf,
    #[.func (.yield (D + 1)) #[] #[]] ++ lb, W1, ?_, ?_, ?_, ?_, fun _ => h1, ?_⟩
  · rw [hD]
    have := run_enterLoop_outer (P := P) (w := w) fn a.tmps ps assign body
    rw [← hD] at this ⊢
    exact this
  · simp only [resolve, hg]
    simp [go_sem]
  · intro f' hf'
    simp [Target.leads] at hf'
    subst hf'
    exact hFg
  · simp [invoke, go_sem, eg]
  · refine (hiter (D + 1) Book W1 (fun A B hk hb => ⟨hk.same _ _ hb.1 rfl, hk.same _ _ hb.2 rfl⟩) (by omega) hbook (h0 _ _) ?_).mono ?_
    · rintro x W ⟨hl, hk⟩ hin
      have hlt : D + 1 < W.heap.size := (Array.getElem?_eq_some_iff.1 hl).1
      refine ⟨fn, _, assign, body, run_yield (P := P) (args := encs x) hl (hps x), roundIn_of_wpIn hfn (hassign _ x W _ (by omega) hin fun a₁ W₁ hk1 hm1 => ?_)⟩
      have hl1 := hk1.same _ _ hl rfl
      have hk1' := hk1.same _ _ hk rfl
      have hlt1 : D + 1 < W₁.heap.size := (Array.getElem?_eq_some_iff.1 hl1).1
      refine ⟨_, run_beginRound hl1 rfl, wpIn_mono (hbody _ x a₁ _ (by omega) (sMid x a₁ _ _ _ _ (by omega) hl1 rfl hm1)) ?_⟩
      rintro e a3 W3 hp
      cases e with
      | normal =>
        obtain ⟨hk3, hj3⟩ := hp
        have hb2 : (W₁.putObj (D + 1) (.loop (rc .busy))).heap[D + 1]? = some (.loop (rc .busy)) := World.putObj_heap_same hlt1
        have hd2 : (W₁.putObj (D + 1) (.loop (rc .busy))).heap[D]? = some (.deferred (some [])) := (World.putObj_heap_other (by omega)).trans hk1'
        have hl3 := hk3.same _ _ hb2 rfl
        have hd3 := hk3.same _ _ hd2 rfl
        have hr := run_endRound (P := P) none hl3
        refine ⟨_, _, hr, rfl, ⟨World.putObj_heap_same (Array.getElem?_eq_some_iff.1 hl3).1, (World.putObj_heap_other (by omega)).trans hd3⟩, sOut x _ _ _ _ (by omega) hl3 rfl hj3⟩
      | ret => exact hp.elim
      | exit id => exact hp.elim
      | goto t => exact hp.elim
      | panic ch => exact hp.elim
      | outgrown => exact hp.elim
    · rintro e W2 ⟨⟨v, rfl⟩, ⟨hl, hk⟩, hj⟩
      exact ⟨none, _, run_endLoop (P := P) hl (by simp [rc]), hdone D _ (by omega) (sEnd _ _ _ _ (by omega) hl rfl hj) ((World.putObj_heap_other (by omega)).trans hk)⟩
end Go.Proofs.YtolldoclnfnceaaDoor

/-
  As GoRange, the body turning maps that lay there ahead of it: a range over a function whose body always goes on, where the iterator writes memory of its own between two rounds:
  the caller says what holds where yield is called (Jin), where the body begins (Jmid), where it has ended (Jout), and behind the iterator (Jend).
-/
set_option linter.unusedVariables false
namespace Go.Proofs.YtolldoclnfnceaaDoor
open Go.RowKit

/-- whatever is no cells, of the blocks from B on, lies as it lay -/
def KeepsFrom (B : Nat) (A A' : World) : Prop := ∀ (k : Nat) (o : Obj), B ≤ k → A.heap[k]? = some o → o.isCells = false → A'.heap[k]? = some o
theorem KeepsFrom.refl (B : Nat) (A : World) : KeepsFrom B A A := fun _ _ _ h _ => h
theorem KeepsFrom.trans {B : Nat} {a b c : World} (h : KeepsFrom B a b) (k : KeepsFrom B b c) : KeepsFrom B a c := fun j o hj ho hc => k j o hj (h j o hj ho hc) hc
theorem KeepsFrom.alloc (B : Nat) (A : World) (o' : Obj) : KeepsFrom B A (A.alloc o') := fun k o _ h _ => by rw [Below.heap_alloc A o' k (Array.getElem?_eq_some_iff.1 h).1]; exact h
theorem KeepsFrom.of_grown {B : Nat} {A A' : World} {row : Option Nat} (h : A.grownBy A' row) (hr : ∀ b, row = some b → B ≤ b → ∀ o, A.heap[b]? = some o → o.isCells = true) : KeepsFrom B A A' := fun k o hk ho hc => by
  by_cases e : some k = row
  · have := hr k e.symm hk o ho
    rw [hc] at this; cases this
  · rw [h.block k (Array.getElem?_eq_some_iff.1 ho).1 e]; exact ho
theorem KeepsFrom.of_below {B : Nat} {A A' : World} (h : Below A.heap.size A A') : KeepsFrom B A A' := fun k o hk ho hc => by
  rw [h.block k (Array.getElem?_eq_some_iff.1 ho).1]; exact ho

/-- the body has come to its end, and has let lie whatever is no cells -/
def endsFrom (B : Nat) (R : World → Prop) (W : World) : Exit → Act → World → Prop
  | .normal, _, W' => KeepsFrom B W W' ∧ R W'
  | _, _, _ => False

variable {F : Fence} {n : Nat} {P : Program}

theorem rangeFunc_from {α : Type} {g : Operand} {ps : Array Tmp} {assign body : Code} {Q : Exit → Act → World → Prop} {a : Act} {w : World}
    (hro : F.round = none) (h1 : 1 ≤ n) {gf : Nat} {lb : Array Value} (hg : a.eval g = .func (.func gf) #[] lb) (hFg : F.fn gf) (eg : ∀ args w, (callFunc gf args).run P w = .ok (.enter gf args) w)
    (encs : α → Array Value) (hps : ∀ x, (encs x).size = ps.size) (J0 Jend : World → Prop) (Jin Jout : α → World → Prop) (Jmid : α → Act → World → Prop)
    (sEnd : Stays w.heap.size Jend) (sOut : ∀ x, Stays w.heap.size (Jout x)) (sMid : ∀ x a₁, Stays w.heap.size (Jmid x a₁)) (h0 : ∀ o o' : Obj, J0 ((w.alloc o).alloc o'))
    (hiter : ∀ (l : Nat) (Book : World → Prop) (W1 : World), (∀ A B, KeepsFrom w.heap.size A B → Book A → Book B) → w.heap.size ≤ l → Book W1 → J0 W1 →
      (∀ x W, Book W → Jin x W → YieldAt F (n - 1 - 1) P l (encs x) W fun e W' => e = .returned (.bool true) ∧ Book W' ∧ Jout x W') →
      CallsIn F (n - 1) P gf (#[.func (.yield l) #[] #[]] ++ lb) W1 fun e W' => (∃ v, e = .returned v) ∧ Book W' ∧ Jend W')
    (hassign : ∀ (l : Nat) (x : α) (W : World) (K : Act → World → Prop), w.heap.size ≤ l → Jin x W → (∀ a₁ W₁, KeepsFrom w.heap.size W W₁ → Jmid x a₁ W₁ → K a₁ W₁) →
      assign.wpIn (F.inRound l) (n - 1 - 1) P (Exit.then K (fun _ _ _ => False)) { tmps := (ps.zip (encs x)).foldl (fun t (p, v) => t.setIfInBounds p v) a.tmps, defers := [] } W)
    (hbody : ∀ (l : Nat) (x : α) (a₁ : Act) (W : World), w.heap.size ≤ l → Jmid x a₁ W → body.wpIn (F.inRound l) (n - 1 - 1) P (endsFrom w.heap.size (Jout x) W) a₁ W)
    (hdone : ∀ (D : Nat) (W : World), w.heap.size ≤ D → Jend W → W.heap[D]? = some (.deferred (some [])) → Q .normal { a with defers := { target := .collected D, args := #[] } :: a.defers } W) :
    (Code.rangeFunc g ps assign body).wpIn F n P Q a w := by
  refine wpIn_rangeFunc fun fn hfn => ?_
  rw [hro]
  obtain ⟨D, hD⟩ : ∃ D, D = w.heap.size := ⟨_, rfl⟩
  let rc : LoopState → Loop := fun st => { state := st, pending := none, fn, tmps := a.tmps, params := ps, assign, body, defers := D }
  let W1 := (w.alloc (.deferred (some []))).alloc (.loop (rc .ready))
  let Book : World → Prop := fun W => W.heap[D + 1]? = some (.loop (rc .ready)) ∧ W.heap[D]? = some (.deferred (some []))
  have hbook : Book W1 := by
    refine ⟨?_, ?_⟩
    · have := World.alloc_heap_new (w.alloc (.deferred (some []))) (.loop (rc .ready))
      rw [World.size_alloc, ← hD] at this
      exact this
    · show ((w.alloc (.deferred (some []))).alloc (.loop (rc .ready))).heap[D]? = _
      rw [Below.heap_alloc _ _ _ (by simp [hD]), hD]
      exact World.alloc_heap_new w _
  refine ⟨D + 1, [{ target := .collected D, args := #[] }], W1, { target := .fn (.func gf) lb, args := #[.func (.yield (D + 1)) #[] #[]] }, W1, gf,
    #[.func (.yield (D + 1)) #[] #[]] ++ lb, W1, ?_, ?_, ?_, ?_, fun _ => h1, ?_⟩
  · rw [hD]
    have := run_enterLoop_outer (P := P) (w := w) fn a.tmps ps assign body
    rw [← hD] at this ⊢
    exact this
  · simp only [resolve, hg]
    simp [go_sem]
  · intro f' hf'
    simp [Target.leads] at hf'
    subst hf'
    exact hFg
  · simp [invoke, go_sem, eg]
  · refine (hiter (D + 1) Book W1 (fun A B hk hb => ⟨hk _ _ (by omega) hb.1 rfl, hk _ _ (by omega) hb.2 rfl⟩) (by omega) hbook (h0 _ _) ?_).mono ?_
    · rintro x W ⟨hl, hk⟩ hin
      have hlt : D + 1 < W.heap.size := (Array.getElem?_eq_some_iff.1 hl).1
      refine ⟨fn, _, assign, body, run_yield (P := P) (args := encs x) hl (hps x), roundIn_of_wpIn hfn (hassign _ x W _ (by omega) hin fun a₁ W₁ hk1 hm1 => ?_)⟩
      have hl1 := hk1 _ _ (by omega) hl rfl
      have hk1' := hk1 _ _ (by omega) hk rfl
      have hlt1 : D + 1 < W₁.heap.size := (Array.getElem?_eq_some_iff.1 hl1).1
      refine ⟨_, run_beginRound hl1 rfl, wpIn_mono (hbody _ x a₁ _ (by omega) (sMid x a₁ _ _ _ _ (by omega) hl1 rfl hm1)) ?_⟩
      rintro e a3 W3 hp
      cases e with
      | normal =>
        obtain ⟨hk3, hj3⟩ := hp
        have hb2 : (W₁.putObj (D + 1) (.loop (rc .busy))).heap[D + 1]? = some (.loop (rc .busy)) := World.putObj_heap_same hlt1
        have hd2 : (W₁.putObj (D + 1) (.loop (rc .busy))).heap[D]? = some (.deferred (some [])) := (World.putObj_heap_other (by omega)).trans hk1'
        have hl3 := hk3 _ _ (by omega) hb2 rfl
        have hd3 := hk3 _ _ (by omega) hd2 rfl
        have hr := run_endRound (P := P) none hl3
        refine ⟨_, _, hr, rfl, ⟨World.putObj_heap_same (Array.getElem?_eq_some_iff.1 hl3).1, (World.putObj_heap_other (by omega)).trans hd3⟩, sOut x _ _ _ _ (by omega) hl3 rfl hj3⟩
      | ret => exact hp.elim
      | exit id => exact hp.elim
      | goto t => exact hp.elim
      | panic ch => exact hp.elim
      | outgrown => exact hp.elim
    · rintro e W2 ⟨⟨v, rfl⟩, ⟨hl, hk⟩, hj⟩
      exact ⟨none, _, run_endLoop (P := P) hl (by simp [rc]), hdone D _ (by omega) (sEnd _ _ _ _ (by omega) hl rfl hj) ((World.putObj_heap_other (by omega)).trans hk)⟩
end Go.Proofs.YtolldoclnfnceaaDoor

/-
  A load of a whole array or struct, guarded or not, within a fence or not, by the run of it.
-/
set_option linter.unusedVariables false
namespace Go.Proofs.YtolldoclnfnceaaDoor
open Go.RowKit

theorem wpListIn_loaded {F : Fence} {n : Nat} {P : Program} {ops : Array Oper} {rest : List Oper} {o : Oper} {a : Act} {w : World} {Q : Exit → Act → World → Prop} (hw : Region.wanted o (yielded ops a.tmps) = true) (ty : TypeId) (x : Operand) (ho : o.op = .load ty x)
    (p : Addr) (v : Value) (hx : a.eval x = .pointer (some p)) (hrun : (Instr.loadAt ty (.pointer (some p))).run P w = .ok v w)
    (h : wpListIn F n P ops Q rest (a.put o.dst v) w) : wpListIn F n P ops Q (o :: rest) a w :=
  BigFrame.wpListIn_want hw fun K hK => by
    refine ⟨fun f hf => ?_, ?_⟩
    · simp [Oper.about, ho] at hf
    · rw [Oper.semAt_eq _ _ _ (by simp [ho])]
      unfold execOp
      rw [ho]
      simp only [hx, hrun, Sem.run_bind, Sem.run_pure, Result.andThen_ok]
      exact hK _ _ h
theorem wpListIn_stored {F : Fence} {n : Nat} {P : Program} {ops : Array Oper} {rest : List Oper} {o : Oper} {a : Act} {w w' : World} {Q : Exit → Act → World → Prop} (hw : Region.wanted o (yielded ops a.tmps) = true) (ty : TypeId) (x y : Operand) (ho : o.op = .store ty x y)
    (p : Addr) (v : Value) (hx : a.eval x = .pointer (some p)) (hy : a.eval y = v) (hrun : (Instr.storeAt ty (.pointer (some p)) v).run P w = .ok () w')
    (h : wpListIn F n P ops Q rest (a.put o.dst undef) w') : wpListIn F n P ops Q (o :: rest) a w :=
  BigFrame.wpListIn_want hw fun K hK => by
    refine ⟨fun f hf => ?_, ?_⟩
    · simp [Oper.about, ho] at hf
    · rw [Oper.semAt_eq _ _ _ (by simp [ho])]
      unfold execOp
      rw [ho]
      simp only [hx, hy, hrun, Sem.run_bind, Sem.run_pure, Result.andThen_ok]
      exact hK _ _ h
end Go.Proofs.YtolldoclnfnceaaDoor

/-
  GoMid's region within a round of a range over a function.
-/
set_option linter.unusedVariables false
namespace Go.Proofs.YtolldoclnfnceaaDoor
open Go.RowKit

section
variable {P : Program} {ops : Array Oper} {Q : Exit → Act → World → Prop} {md : Region.Mode} {S : World → Prop} {l n : Nat}

/-- the end alone -/
def onlyEnd (Qn : Act → World → Prop) : Exit → Act → World → Prop
  | .normal, a, w => Qn a w
  | _, _, _ => False

theorem op_in {o : Oper} {a : Act} {w : World} {K : Act → World → Prop} {Qn : Act → World → Prop} (hd : ∀ c, o.op ≠ .defer c) (h : o.wp P a w K (onlyEnd Qn)) : o.wpIn (Fence.wide.inRound l) n P a w K Q := by
  refine ⟨fun _ _ => trivial, ?_⟩
  rw [Oper.semAt_eq _ _ _ hd]
  unfold Oper.wp at h
  generalize (execOp a.eval o).run P w = r at *
  cases r with
  | ok x w' =>
    cases x <;> simp only [Oper.upon, Oper.uponIn] at h ⊢
    case value => exact h
    case skip => exact h
    case defer => exact h
    case enter f args =>
      refine ⟨fun e => by simp [Fence.wide] at e, CallsIn.inRound l (callsIn_wide.2 (h.mono fun e w'' he => ?_))⟩
      cases e with
      | returned v => exact he
      | panicked c => exact (he : False).elim
      | outgrown => obtain ⟨_, _, hx⟩ := (he : LetsOut (onlyEnd Qn)); exact (hx : False).elim
    case row row args =>
      refine ⟨fun e => by simp [Fence.wide] at e, fun c cs _ => ?_⟩
      obtain ⟨v, w2, r, s⟩ := h c cs
      exact ⟨v, w2, r, stepsIn_wide.2 s⟩
  | halt x w' =>
    cases x <;> simp only [Oper.upon, Oper.uponIn] at h ⊢
    case panic v => exact (h : False).elim

theorem noRoom {o : Oper} {a : Act} {w : World} {Qn : Act → World → Prop} (h : o.asks P a w ∧ LetsOut (onlyEnd Qn)) : False := by
  obtain ⟨_, _, _, hx⟩ := h
  exact hx

theorem wpAny_in {Qn : Act → World → Prop} (hd : ∀ (i : Nat) (o : Oper), ops[i]? = some o → ∀ c, o.op ≠ .defer c) (hQ : ∀ a w, Qn a w → Q .normal a w) (hab : ∀ (i : Nat) (o : Oper) (a : Act) (w : World) (f : FuncId), ops[i]? = some o → o.about P w a.eval = some f → (Fence.wide.inRound l).fn f) :
    ∀ (fuel : Nat) (listed : Array Bool) (a : Act) (w : World), wpAny P md ops (onlyEnd Qn) fuel listed a w → wpAnyIn (Fence.wide.inRound l) n P md ops Q fuel listed a w
  | 0, listed, a, w, h => ⟨h.1, hQ _ _ h.2⟩
  | fuel + 1, listed, a, w, h => by
    refine ⟨fun e => hQ _ _ (h.1 e), fun i hi => ?_⟩
    have h1 := h.2 i hi
    unfold wpOp at h1
    unfold wpOpIn
    cases ho : ops[i]? with
    | none =>
      simp only [ho] at h1 ⊢
      exact wpAny_in hd hQ hab fuel _ _ _ h1
    | some o =>
      simp only [ho] at h1 ⊢
      split
      · rename_i hw
        rw [if_pos hw] at h1
        rcases h1 with h1 | h1
        · exact Oper.wpIn_mono (fun a w => wpAny_in hd hQ hab fuel _ a w) (op_in (hd i o ho) h1)
        · exact (noRoom h1).elim
      · rename_i hw
        rw [if_neg hw] at h1
        exact ⟨fun f hf => hab i o a w f ho hf, wpAny_in hd hQ hab fuel _ _ _ h1⟩

theorem wp_region_mid_in {id : Nat} {a : Act} {w : World} (n1 m : Nat) (hm : P.follows .mixedOrders = true) (hB : midB ops n1 m = true) (hdf : (ops.all fun o => match o.op with | .defer _ => false | _ => true) = true) (S : World → Prop) (hS : S w.drew)
    (h : wpTake P ops S (fun a' => wpMid P ops (onlyEnd (Q .normal)) S (ops.toList.drop m) ((ops.toList.drop n1).take (m - n1)) a' w.drew) (ops.toList.take n1) a) : (Code.region id ops true).wpIn (Fence.wide.inRound l) n P Q a w := by
  refine wpIn_region_any hm ?_
  have hd : ∀ (i : Nat) (o : Oper), ops[i]? = some o → ∀ c, o.op ≠ .defer c := fun i o ho c e => by
    have := Array.all_eq_true'.1 hdf o (Array.mem_of_getElem? ho)
    rw [e] at this
    exact Bool.noConfusion this
  refine wpAny_in (Qn := Q .normal) hd (fun _ _ h => h) (fun _ _ _ _ _ _ _ => trivial) _ _ _ _ ?_
  exact wpAny_of_mid n1 m hB (fun _ _ _ _ _ h => (h : False).elim) S hS h
end
end Go.Proofs.YtolldoclnfnceaaDoor

/-
  A region that draws its order, walked in an order of ours: first the operations T, which yield under S whatever was done ahead of them; then R1, forced, one behind the other, which keep S; then R2, forced.
  Those of T may stand anywhere in the text; each operation of R2 waits for each of T.
-/
set_option linter.unusedVariables false
namespace Go.Proofs.YtolldoclnfnceaaDoor
open Go.RowKit

section
variable {P : Program} {ops : Array Oper} {Q : Exit → Act → World → Prop} {md : Region.Mode} {S : World → Prop} {keep : Nat → Bool}

/-- whatever order is picked from here on; behind each operation of 'keep' S holds -/
def wpV (P : Program) (md : Region.Mode) (ops : Array Oper) (Q : Exit → Act → World → Prop) (S : World → Prop) (keep : Nat → Bool) : Nat → Array Bool → Act → World → Prop
  | 0, listed, a, w => Region.ready md ops listed = [] ∧ Q .normal a w
  | f + 1, listed, a, w => (Region.ready md ops listed = [] → Q .normal a w) ∧ ∀ i ∈ Region.ready md ops listed, wpOp P ops Q i (fun a' w' => (keep i = true → S w') ∧ wpV P md ops Q S keep f (listed.setIfInBounds i true) a' w') a w

theorem wpV.any : ∀ {f : Nat} {listed : Array Bool} {a : Act} {w : World}, wpV P md ops Q S keep f listed a w → wpAny P md ops Q f listed a w
  | 0, _, _, _, h => h
  | _ + 1, _, _, _, h => ⟨h.1, fun i hi => wpOp_mono (fun _ _ k => k.2.any) (h.2 i hi)⟩

theorem wpV_first {i : Nat} {oi : Oper} {v : Value} (hi : ops[i]? = some oi) (hsel : ∀ (j : Nat) (o : Oper) cs b, ops[j]? = some o → o.op ≠ .select cs b) (hQ : ∀ c a w, Q (.panic c) (a.put oi.dst v) w → Q (.panic c) a w)
    (hwait : ∀ t ot, keep t = false → ops[t]? = some ot → ∃ e ∈ ot.after, Region.binds md e = true ∧ e.on = i) (hki : keep i = true) (f : Nat) :
    ∀ (listed : Array Bool) (a : Act) (w : World), (∀ j oj, ops[j]? = some oj → j ≠ i → listed.getD j true = false → (∀ e ∈ oj.after, Region.binds md e = true → e.on ≠ i) → oi.apart ops oj = true) →
      i ∈ Region.ready md ops listed → YieldsIf P ops S oi v a → S w → wpV P md ops Q S keep f (listed.setIfInBounds i true) (a.put oi.dst v) w → wpV P md ops Q S keep (f + 1) listed a w := by
  induction f with
  | zero =>
    intro listed a w hfree hr hy hS H
    refine ⟨fun e => by rw [e] at hr; exact absurd hr List.not_mem_nil, fun j hj => ?_⟩
    by_cases e : j = i
    · rw [e]; exact hy.wpOp hi hS ⟨fun _ => hS, H⟩
    · have hx := ready_mono hj e
      rw [H.1] at hx
      exact absurd hx List.not_mem_nil
  | succ f ih =>
    intro listed a w hfree hr hy hS H
    refine ⟨fun e => by rw [e] at hr; exact absurd hr List.not_mem_nil, fun j hj => ?_⟩
    by_cases e : j = i
    · rw [e]; exact hy.wpOp hi hS ⟨fun _ => hS, H⟩
    obtain ⟨hjl, oj, hoj, hja⟩ := mem_ready.1 hj
    have hil := (mem_ready.1 hr).1
    have hno : ∀ x ∈ oj.after, Region.binds md x = true → x.on ≠ i := fun x hx hb hxi => by
      have h1 := hja x hx hb
      rw [hxi, getD_both hil] at h1
      exact Bool.noConfusion h1
    have hjm : keep j = true := by
      cases h : keep j with
      | true => rfl
      | false =>
        obtain ⟨x, hx, hb, hxi⟩ := hwait j oj h hoj
        exact absurd hxi (hno x hx hb)
    have hap := hfree j oj hoj e hjl hno
    have key := wpOp_putIf hoj hap (fun cs b => hsel i oi cs b hi) (fun cs b => hsel j oj cs b hoj) hQ hy (H.2 j (ready_mono hj e))
    refine wpOp_mono (fun a' w' ⟨y', s', u'⟩ => ⟨s', ?_⟩) key
    refine ih (listed.setIfInBounds j true) a' w' (fun k ok hk hki hkl hkn => ?_) (ready_mono hr (Ne.symm e)) y' (s' hjm) ?_
    · refine hfree k ok hk hki ?_ hkn
      by_cases ejk : j = k
      · rw [← ejk]; exact hjl
      · rw [getD_set_ne true ejk] at hkl; exact hkl
    · rw [Array.setIfInBounds_comm _ _ e]
      exact u'

def pick (ops : Array Oper) (l : List Nat) : List Oper := l.filterMap fun i => ops[i]?

/-- from here on each one is forced -/
def chainOk (md : Region.Mode) (ops : Array Oper) : List Nat → Array Bool → Bool
  | [], listed => (Region.ready md ops listed).isEmpty
  | k :: l, listed => decide (Region.ready md ops listed = [k]) && (decide (k < ops.size) && chainOk md ops l (listed.setIfInBounds k true))
/-- first those of T, each of which may come up and be taken, then the others, forced -/
def takeOk (md : Region.Mode) (ops : Array Oper) (R : List Nat) : List Nat → Array Bool → Bool
  | [], listed => chainOk md ops R listed
  | i :: l, listed => (Region.ready md ops listed).contains i && (Region.free md ops listed i && takeOk md ops R l (listed.setIfInBounds i true))

theorem wpV_of_seq : ∀ (l : List Nat) (listed : Array Bool) (a : Act) (w : World), (∀ k ∈ l, keep k = false) → chainOk md ops l listed = true → wpList P ops Q (pick ops l) a w → wpV P md ops Q S keep l.length listed a w
  | [], _, _, _, _, hB, h => ⟨by simpa [chainOk] using hB, h⟩
  | k :: l, listed, a, w, hk, hB, h => by
    simp only [chainOk, Bool.and_eq_true, decide_eq_true_eq] at hB
    obtain ⟨hB1, hlt, hB2⟩ := hB
    have h0 : ops[k]? = some ops[k] := Array.getElem?_eq_getElem hlt
    have hp : pick ops (k :: l) = ops[k] :: pick ops l := by unfold pick; rw [List.filterMap_cons, h0]
    rw [hp] at h
    refine ⟨fun e => by rw [hB1] at e; exact absurd e (List.cons_ne_nil _ _), fun i hi => ?_⟩
    rw [hB1] at hi
    obtain rfl : i = k := by simpa using hi
    have hw : wpOp P ops Q i (wpList P ops Q (pick ops l)) a w := by unfold wpOp; simp only [h0]; exact h
    exact wpOp_mono (fun a' w' x => ⟨fun h => (by rw [hk i List.mem_cons_self] at h; exact Bool.noConfusion h), wpV_of_seq l _ a' w' (fun j hj => hk j (List.mem_cons_of_mem _ hj)) hB2 x⟩) hw

theorem wpV_of_mid (R2 : List Nat) (h2 : ∀ k ∈ R2, keep k = false) : ∀ (l : List Nat) (listed : Array Bool) (a : Act) (w : World), chainOk md ops (l ++ R2) listed = true →
    wpMid P ops Q S (pick ops R2) (pick ops l) a w → wpV P md ops Q S keep (l ++ R2).length listed a w
  | [], listed, a, w, hB, h => wpV_of_seq R2 listed a w h2 hB h
  | k :: l, listed, a, w, hB, h => by
    simp only [List.cons_append, chainOk, Bool.and_eq_true, decide_eq_true_eq] at hB
    obtain ⟨hB1, hlt, hB2⟩ := hB
    have h0 : ops[k]? = some ops[k] := Array.getElem?_eq_getElem hlt
    have hp : pick ops (k :: l) = ops[k] :: pick ops l := by unfold pick; rw [List.filterMap_cons, h0]
    rw [hp] at h
    refine ⟨fun e => by rw [hB1] at e; exact absurd e (List.cons_ne_nil _ _), fun i hi => ?_⟩
    rw [hB1] at hi
    obtain rfl : i = k := by simpa using hi
    have hw : wpOp P ops Q i (fun a' w' => S w' ∧ wpMid P ops Q S (pick ops R2) (pick ops l) a' w') a w := by
      unfold wpOp
      simp only [h0]
      unfold wpMid at h
      split
      · rename_i hwd; rw [if_pos hwd] at h; exact .inl h
      · rename_i hwd; rw [if_neg hwd] at h; exact h
    exact wpOp_mono (fun a' w' x => ⟨fun _ => x.1, wpV_of_mid R2 h2 l _ a' w' hB2 x.2⟩) hw

theorem wpV_of_take {w : World} {L : Act → Prop} {R : List Nat} (hs : Region.noSelect ops = true) (hS : S w) (hQ : ∀ o v c a w, Q (.panic c) (a.put o v) w → Q (.panic c) a w)
    (hL : ∀ listed a, chainOk md ops R listed = true → L a → wpV P md ops Q S keep R.length listed a w) :
    ∀ (l : List Nat) (listed : Array Bool) (a : Act), (∀ i ∈ l, keep i = true ∧ ∀ t ot, keep t = false → ops[t]? = some ot → ∃ e ∈ ot.after, Region.binds md e = true ∧ e.on = i) → takeOk md ops R l listed = true →
      wpTake P ops S L (pick ops l) a → wpV P md ops Q S keep (l.length + R.length) listed a w
  | [], listed, a, _, hB, h => by
    simp only [List.length_nil, Nat.zero_add]
    exact hL listed a hB h
  | k :: l, listed, a, hw, hB, h => by
    simp only [takeOk, Bool.and_eq_true] at hB
    obtain ⟨hr, hf, hB'⟩ := hB
    have hr' : k ∈ Region.ready md ops listed := by simpa using hr
    obtain ⟨_, o, h0, _⟩ := mem_ready.1 hr'
    have hp : pick ops (k :: l) = o :: pick ops l := by unfold pick; rw [List.filterMap_cons, h0]
    rw [hp] at h
    obtain ⟨v, hy, h'⟩ := h
    have hn : (k :: l).length + R.length = (l.length + R.length) + 1 := by simp; omega
    rw [hn]
    exact wpV_first h0 (Region.noSelect_spec hs) (fun c a w => hQ _ _ c a w) (hw k List.mem_cons_self).2 (hw k List.mem_cons_self).1 _ listed a w (Region.free_spec h0 hf) hr' hy hS
      (wpV_of_take hs hS hQ hL l _ _ (fun i hi => hw i (List.mem_cons_of_mem _ hi)) hB' h')

def anyB (ops : Array Oper) (T R1 R2 : List Nat) : Bool :=
  Region.noSelect ops && (takeOk .any ops (R1 ++ R2) T (Array.replicate ops.size false) && (decide (T.length + (R1 ++ R2).length = ops.size) &&
    ((T.all fun i => !R2.contains i) && ((R1.all fun i => !R2.contains i) && R2.all fun t => T.all fun i => Region.waitsFor .any ops t i))))

theorem wpAny_of_any {a : Act} {w : World} (T R1 R2 : List Nat) (hB : anyB ops T R1 R2 = true) (hQ : Frameless Q) (S : World → Prop) (hS : S w)
    (h : wpTake P ops S (fun a' => wpMid P ops Q S (pick ops R2) (pick ops R1) a' w) (pick ops T) a) : wpAny P .any ops Q ops.size (Array.replicate ops.size false) a w := by
  simp only [anyB, Bool.and_eq_true, decide_eq_true_eq] at hB
  obtain ⟨h1, h2, h3, h4, h5, h6⟩ := hB
  refine wpV.any (S := S) (keep := fun i => !R2.contains i) ?_
  have key := wpV_of_take (md := .any) (keep := fun i => !R2.contains i) (R := R1 ++ R2) (S := S) (Q := Q) (P := P) (ops := ops) (w := w) h1 hS hQ (fun listed a' hb hL => wpV_of_mid R2 (fun k hk => by simp [hk]) R1 listed a' w hb hL)
    T (Array.replicate ops.size false) a (fun i hi => ⟨List.all_eq_true.1 h4 i hi, fun t ot ht hot => by
      have ht2 : t ∈ R2 := by simpa using ht
      obtain ⟨oj, hoj, x, hx⟩ := Region.waitsFor_spec (List.all_eq_true.1 (List.all_eq_true.1 h6 t ht2) i hi)
      have : oj = ot := Option.some.inj (hoj.symm.trans hot)
      subst this
      exact ⟨x, hx⟩⟩) h2 h
  rw [h3] at key
  exact key

theorem wp_region_text {id : Nat} {a : Act} {w : World} (T R1 R2 : List Nat) (hm : P.follows .mixedOrders = true) (hB : anyB ops T R1 R2 = true) (S : World → Prop) (hS : S w.drew)
    (h : wpTake P ops S (fun a' => wpMid P ops (NoPanic Q) S (pick ops R2) (pick ops R1) a' w.drew) (pick ops T) a) : (Code.region id ops true).wp P Q a w :=
  wp_region_noPanic (wp_region_any hm (wpAny_of_any T R1 R2 hB frameless_np S hS h))

variable {l : Nat}
theorem wp_region_text_in {id n : Nat} {a : Act} {w : World} (T R1 R2 : List Nat) (hm : P.follows .mixedOrders = true) (hB : anyB ops T R1 R2 = true) (hdf : (ops.all fun o => match o.op with | .defer _ => false | _ => true) = true) (S : World → Prop) (hS : S w.drew)
    (h : wpTake P ops S (fun a' => wpMid P ops (onlyEnd (Q .normal)) S (pick ops R2) (pick ops R1) a' w.drew) (pick ops T) a) : (Code.region id ops true).wpIn (Fence.wide.inRound l) n P Q a w := by
  refine wpIn_region_any hm ?_
  have hd : ∀ (i : Nat) (o : Oper), ops[i]? = some o → ∀ c, o.op ≠ .defer c := fun i o ho c e => by
    have := Array.all_eq_true'.1 hdf o (Array.mem_of_getElem? ho)
    rw [e] at this
    exact Bool.noConfusion this
  exact wpAny_in (Qn := Q .normal) hd (fun _ _ h => h) (fun _ _ _ _ _ _ _ => trivial) _ _ _ _ (wpAny_of_any T R1 R2 hB (fun _ _ _ _ _ h => (h : False).elim) S hS h)

theorem call_wp {o : Oper} {a : Act} {w : World} {K : Act → World → Prop} (f : FuncId) (xs : List Operand) (ts : Array TypeId) (args : Array Value) (ho : o.op = .call { callee := .value (.func f), args := xs.toArray, argTypes := ts }) (hx : (xs.map a.eval).toArray = args)
    (he : (callFunc f args).run P w = .ok (.enter f args) w) (h : Calls P f args w fun e w' => ∃ v, e = .returned v ∧ K (a.put o.dst v) w') : o.wp P a w K Q := by
  unfold Oper.wp execOp
  simp only [ho, resolve, List.map_toArray, hx]
  simp [invoke, go_sem, he, Act.eval]
  refine h.mono fun e w' ⟨v, hv, hk⟩ => ?_
  subst hv
  exact hk
end
end Go.Proofs.YtolldoclnfnceaaDoor

/-
  A region that draws its order, of which two operations may come up one ahead of the other, or the other ahead of the one: first the operations T, then these two in both orders, then the others, forced.
-/
set_option linter.unusedVariables false
namespace Go.Proofs.YtolldoclnfnceaaDoor
open Go.RowKit

section
variable {P : Program} {ops : Array Oper} {Q : Exit → Act → World → Prop} {md : Region.Mode} {S : World → Prop} {keep : Nat → Bool}

def twoOk (md : Region.Mode) (ops : Array Oper) (k1 k2 : Nat) (R : List Nat) (listed : Array Bool) : Bool :=
  decide (Region.ready md ops listed = [k1, k2]) && (decide (k1 < ops.size) && (decide (k2 < ops.size) && (chainOk md ops (k2 :: R) (listed.setIfInBounds k1 true) && chainOk md ops (k1 :: R) (listed.setIfInBounds k2 true))))
def takeOkF (md : Region.Mode) (ops : Array Oper) (fin : Array Bool → Bool) : List Nat → Array Bool → Bool
  | [], listed => fin listed
  | i :: l, listed => (Region.ready md ops listed).contains i && (Region.free md ops listed i && takeOkF md ops fin l (listed.setIfInBounds i true))

theorem wpMid_op {R2 l : List Nat} {k : Nat} (hlt : k < ops.size) {a : Act} {w : World} (h : wpMid P ops Q S (pick ops R2) (pick ops (k :: l)) a w) : wpOp P ops Q k (fun a' w' => S w' ∧ wpMid P ops Q S (pick ops R2) (pick ops l) a' w') a w := by
  have h0 : ops[k]? = some ops[k] := Array.getElem?_eq_getElem hlt
  have hp : pick ops (k :: l) = ops[k] :: pick ops l := by unfold pick; rw [List.filterMap_cons, h0]
  rw [hp] at h
  unfold wpOp
  simp only [h0]
  unfold wpMid at h
  split
  · rename_i hwd; rw [if_pos hwd] at h; exact .inl h
  · rename_i hwd; rw [if_neg hwd] at h; exact h

theorem wpV_of_two {k1 k2 : Nat} {l R2 : List Nat} (h2 : ∀ k ∈ R2, keep k = false) {listed : Array Bool} {a : Act} {w : World} (hB : twoOk md ops k1 k2 (l ++ R2) listed = true)
    (ha : wpMid P ops Q S (pick ops R2) (pick ops (k1 :: k2 :: l)) a w) (hb : wpMid P ops Q S (pick ops R2) (pick ops (k2 :: k1 :: l)) a w) : wpV P md ops Q S keep (k1 :: k2 :: l ++ R2).length listed a w := by
  simp only [twoOk, Bool.and_eq_true, decide_eq_true_eq] at hB
  obtain ⟨hr, hk1, hk2, hc1, hc2⟩ := hB
  refine ⟨fun e => by rw [hr] at e; exact absurd e (List.cons_ne_nil _ _), fun i hi => ?_⟩
  rw [hr] at hi
  rcases (by simpa using hi : i = k1 ∨ i = k2) with rfl | rfl
  · exact wpOp_mono (fun a' w' x => ⟨fun _ => x.1, wpV_of_mid R2 h2 (k2 :: l) _ a' w' hc1 x.2⟩) (wpMid_op hk1 ha)
  · exact wpOp_mono (fun a' w' x => ⟨fun _ => x.1, wpV_of_mid R2 h2 (k1 :: l) _ a' w' hc2 x.2⟩) (wpMid_op hk2 hb)

theorem wpV_of_takeF {w : World} {L : Act → Prop} {fin : Array Bool → Bool} {n : Nat} (hs : Region.noSelect ops = true) (hS : S w) (hQ : ∀ o v c a w, Q (.panic c) (a.put o v) w → Q (.panic c) a w)
    (hL : ∀ listed a, fin listed = true → L a → wpV P md ops Q S keep n listed a w) :
    ∀ (l : List Nat) (listed : Array Bool) (a : Act), (∀ i ∈ l, keep i = true ∧ ∀ t ot, keep t = false → ops[t]? = some ot → ∃ e ∈ ot.after, Region.binds md e = true ∧ e.on = i) → takeOkF md ops fin l listed = true →
      wpTake P ops S L (pick ops l) a → wpV P md ops Q S keep (l.length + n) listed a w
  | [], listed, a, _, hB, h => by
    simp only [List.length_nil, Nat.zero_add]
    exact hL listed a hB h
  | k :: l, listed, a, hw, hB, h => by
    simp only [takeOkF, Bool.and_eq_true] at hB
    obtain ⟨hr, hf, hB'⟩ := hB
    have hr' : k ∈ Region.ready md ops listed := by simpa using hr
    obtain ⟨_, o, h0, _⟩ := mem_ready.1 hr'
    have hp : pick ops (k :: l) = o :: pick ops l := by unfold pick; rw [List.filterMap_cons, h0]
    rw [hp] at h
    obtain ⟨v, hy, h'⟩ := h
    have hn : (k :: l).length + n = (l.length + n) + 1 := by simp; omega
    rw [hn]
    exact wpV_first h0 (Region.noSelect_spec hs) (fun c a w => hQ _ _ c a w) (hw k List.mem_cons_self).2 (hw k List.mem_cons_self).1 _ listed a w (Region.free_spec h0 hf) hr' hy hS
      (wpV_of_takeF hs hS hQ hL l _ _ (fun i hi => hw i (List.mem_cons_of_mem _ hi)) hB' h')

def twoB (ops : Array Oper) (T : List Nat) (k1 k2 : Nat) (l R2 : List Nat) : Bool :=
  Region.noSelect ops && (takeOkF .any ops (twoOk .any ops k1 k2 (l ++ R2)) T (Array.replicate ops.size false) && (decide (T.length + (k1 :: k2 :: l ++ R2).length = ops.size) &&
    ((T.all fun i => !R2.contains i) && R2.all fun t => T.all fun i => Region.waitsFor .any ops t i)))

theorem wpAny_of_two {a : Act} {w : World} (T : List Nat) (k1 k2 : Nat) (l R2 : List Nat) (hB : twoB ops T k1 k2 l R2 = true) (hQ : Frameless Q) (S : World → Prop) (hS : S w)
    (h : wpTake P ops S (fun a' => wpMid P ops Q S (pick ops R2) (pick ops (k1 :: k2 :: l)) a' w ∧ wpMid P ops Q S (pick ops R2) (pick ops (k2 :: k1 :: l)) a' w) (pick ops T) a) : wpAny P .any ops Q ops.size (Array.replicate ops.size false) a w := by
  simp only [twoB, Bool.and_eq_true, decide_eq_true_eq] at hB
  obtain ⟨h1, h2, h3, h4, h6⟩ := hB
  refine wpV.any (S := S) (keep := fun i => !R2.contains i) ?_
  have key := wpV_of_takeF (md := .any) (keep := fun i => !R2.contains i) (n := (k1 :: k2 :: l ++ R2).length) (S := S) (Q := Q) (P := P) (ops := ops) (w := w) h1 hS hQ (fun listed a' hb hL => wpV_of_two (fun k hk => by simp [hk]) hb hL.1 hL.2)
    T (Array.replicate ops.size false) a (fun i hi => ⟨List.all_eq_true.1 h4 i hi, fun t ot ht hot => by
      have ht2 : t ∈ R2 := by simpa using ht
      obtain ⟨oj, hoj, x, hx⟩ := Region.waitsFor_spec (List.all_eq_true.1 (List.all_eq_true.1 h6 t ht2) i hi)
      have : oj = ot := Option.some.inj (hoj.symm.trans hot)
      subst this
      exact ⟨x, hx⟩⟩) h2 h
  rw [h3] at key
  exact key

theorem wp_region_two {id : Nat} {a : Act} {w : World} (T : List Nat) (k1 k2 : Nat) (l R2 : List Nat) (hm : P.follows .mixedOrders = true) (hB : twoB ops T k1 k2 l R2 = true) (S : World → Prop) (hS : S w.drew)
    (h : wpTake P ops S (fun a' => wpMid P ops (NoPanic Q) S (pick ops R2) (pick ops (k1 :: k2 :: l)) a' w.drew ∧ wpMid P ops (NoPanic Q) S (pick ops R2) (pick ops (k2 :: k1 :: l)) a' w.drew) (pick ops T) a) : (Code.region id ops true).wp P Q a w :=
  wp_region_noPanic (wp_region_any hm (wpAny_of_two T k1 k2 l R2 hB frameless_np S hS h))
end
end Go.Proofs.YtolldoclnfnceaaDoor

/-
  append of a row that may be nil to one of the call's own.
-/
set_option linter.unusedVariables false
namespace Go.Proofs.YtolldoclnfnceaaDoor
open Go.RowKit

section
variable {P : Program}
theorem grown_refl (w : World) (row : Option Nat) : w.grownBy w row := ⟨rfl, rfl, rfl, Nat.le_refl _, fun _ _ _ => rfl⟩
theorem run_append_row {w : World} (base : Nat) (t ty e : TypeId) (i : TypeInfo) (z : Value) (size bytes : Nat) (ht : P.underlying t = some (.slice e)) (hi : P.info? e = some i) (hz : i.zero = some z)
    (hsize : i.size = size) (hby : i.bytes = bytes) (hzs : z.cells.size = size) (hsz : 0 < size)
    (v : Value) (n : Nat) (xs : List Value) (hown : w.ownsRow base e size v n xs) (b0 : Nat) (vx : Value) (m : Nat) (news : List Value) (hx : w.ownsRow b0 e size vx m news) (h1 : ∀ u ∈ news, u.oneCell' = true)
    (h63 : n + m ≤ maxLen) (hbytes : (n + m) * bytes ≤ 140737488355328) (hbase : base ≤ w.heap.size) :
    ∃ v' w', (Builtin.append_ #[t, t] ty #[v, vx]).run P w = .ok v' w' ∧ w'.ownsRow base e size v' (n + m) (xs ++ news) ∧ w.grownBy w' v.ownBlock ∧ (v'.ownBlock = v.ownBlock ∨ v'.ownBlock = some w.heap.size) := by
  have hl := hx.1
  rcases hx.2 with ⟨rfl, h0⟩ | ⟨g, cap, cur, rfl, _⟩
  · subst h0
    have hn : news = [] := List.eq_nil_of_length_eq_zero (by simpa using hl)
    subst hn
    exact ⟨v, w, run_append_owned_none (P := P) (w := w) base t ty e i size ht hi v n xs hown, by rw [List.append_nil]; exact hown, grown_refl _ _, .inl rfl⟩
  · obtain ⟨v', w', hr, h2, h3, _, h5⟩ := run_append_own_at (P := P) w base t ty e i z size bytes ht hi hz hsize hby hzs hsz v n xs hown ⟨g, 0, none⟩ m cap news hl (World.ownsRow.cells hx rfl) h1 h63 hbytes hbase
    exact ⟨v', w', hr, h2, h3, h5⟩
variable {o : Oper} {a : Act} {w : World} {Q : Exit → Act → World → Prop}
theorem wp_append_row {K : Act → World → Prop} (s x : Operand) (t : TypeId) (ho : o.op = .call { callee := .builtin .append, args := #[s, x], argTypes := #[t, t] })
    (base : Nat) (e : TypeId) (i : TypeInfo) (z : Value) (size bytes : Nat) (ht : P.underlying t = some (.slice e)) (hi : P.info? e = some i) (hz : i.zero = some z)
    (hsize : i.size = size) (hby : i.bytes = bytes) (hzs : z.cells.size = size) (hsz : 0 < size)
    (v : Value) (n : Nat) (xs : List Value) (hs : a.eval s = v) (hown : w.ownsRow base e size v n xs) (b0 : Nat) (vx : Value) (m : Nat) (news : List Value) (hxe : a.eval x = vx) (hx : w.ownsRow b0 e size vx m news) (h1 : ∀ u ∈ news, u.oneCell' = true)
    (h63 : n + m ≤ maxLen) (hbytes : (n + m) * bytes ≤ 140737488355328) (hbase : base ≤ w.heap.size)
    (h : ∀ v' w', w'.ownsRow base e size v' (n + m) (xs ++ news) → w.grownBy w' v.ownBlock → (v'.ownBlock = v.ownBlock ∨ v'.ownBlock = some w.heap.size) → K (a.put o.dst v') w') : o.wp P a w K Q := by
  obtain ⟨v', w', hr, h2, h3, h5⟩ := run_append_row (P := P) (w := w) base t o.type e i z size bytes ht hi hz hsize hby hzs hsz v n xs hown b0 vx m news hx h1 h63 hbytes hbase
  unfold Oper.wp execOp
  simp only [ho, resolve, invoke, builtin, Sem.run_bind, Sem.run_pure, Result.andThen_ok, List.map_toArray, List.map_cons, List.map_nil, hs, hxe, hr]
  exact h v' w' h2 h3 h5
theorem wpList_append_row {ops : Array Oper} {rest : List Oper} (hgd : o.guard = none) (s x : Operand) (t : TypeId) (ho : o.op = .call { callee := .builtin .append, args := #[s, x], argTypes := #[t, t] })
    (base : Nat) (e : TypeId) (i : TypeInfo) (z : Value) (size bytes : Nat) (ht : P.underlying t = some (.slice e)) (hi : P.info? e = some i) (hz : i.zero = some z)
    (hsize : i.size = size) (hby : i.bytes = bytes) (hzs : z.cells.size = size) (hsz : 0 < size)
    (v : Value) (n : Nat) (xs : List Value) (hs : a.eval s = v) (hown : w.ownsRow base e size v n xs) (b0 : Nat) (vx : Value) (m : Nat) (news : List Value) (hxe : a.eval x = vx) (hx : w.ownsRow b0 e size vx m news) (h1 : ∀ u ∈ news, u.oneCell' = true)
    (h63 : n + m ≤ maxLen) (hbytes : (n + m) * bytes ≤ 140737488355328) (hbase : base ≤ w.heap.size)
    (h : ∀ v' w', w'.ownsRow base e size v' (n + m) (xs ++ news) → w.grownBy w' v.ownBlock → (v'.ownBlock = v.ownBlock ∨ v'.ownBlock = some w.heap.size) → wpList P ops Q rest (a.put o.dst v') w') : wpList P ops Q (o :: rest) a w :=
  wpList_plain hgd fun K hK => wp_append_row s x t ho base e i z size bytes ht hi hz hsize hby hzs hsz v n xs hs hown b0 vx m news hxe hx h1 h63 hbytes hbase fun v' w' h2 h3 h5 => hK _ _ (h v' w' h2 h3 h5)
end

/-- what lies where has not moved -/
theorem ownsRow_new {w w' : World} {base : Nat} {e : TypeId} {size : Nat} {v : Value} {n : Nat} {xs : List Value} (h : w.ownsRow base e size v n xs) (hb : Below w.heap.size w w') : w'.ownsRow base e size v n xs :=
  ownsRow_same h (fun g hg => hb.block g (World.ownsRow.lt h g hg).2)
end Go.Proofs.YtolldoclnfnceaaDoor
