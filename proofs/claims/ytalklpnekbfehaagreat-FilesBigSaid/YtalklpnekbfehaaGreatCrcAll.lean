/- Put together of: GoU32 CrcPure CrcTabPure CrcShifted CrcTable CrcMore CrcSealPure CrcSeal -/
import Derived.Test.YtalklpnekbfehaaGreatGoAll
import Derived.Test.YtalklpnekbfehaaGreatRows
import Derived.Deep.WholeRow
import Derived.Deep.RegionHeld3
import Derived.StillTailTactics
import Derived.Outline
import Derived.Test.YtalklpnekbfehaaGreatOctAll
import Derived.Lib.Strings
import Derived.Deep.QuietTactic
import Derived.BigQuiet
set_option maxRecDepth 100000
/-
  Numbers of 32 bits: what the operations of the model come to, for natural numbers.
-/
set_option linter.unusedVariables false
namespace Go.Proofs.YtalklpnekbfehaaGreat
open Go.RowKit

theorem u32_or (a b : Nat) (ha : a < 4294967296) (hb : b < 4294967296) : bits .or .u32 (a : Int) (b : Int) = ((a ||| b : Nat) : Int) := u32_or_nat a b ha hb
theorem u32_and (a b : Nat) (ha : a < 4294967296) (hb : b < 4294967296) : bits .and .u32 (a : Int) (b : Int) = ((a &&& b : Nat) : Int) := u32_and_nat a b ha hb
theorem u32_xor (a b : Nat) (ha : a < 4294967296) (hb : b < 4294967296) : bits .xor .u32 (a : Int) (b : Int) = ((a ^^^ b : Nat) : Int) := u32_xor_nat a b ha hb
theorem u32_not (a : Nat) (ha : a < 4294967296) : bits .xor .u32 IntKind.u32.max (a : Int) = ((4294967295 - a : Nat) : Int) := by
  rw [show IntKind.u32.max = ((4294967295 : Nat) : Int) from rfl, u32_xor _ _ (by decide) ha]
  congr 1
  have h := BitVec.toNat_not (x := BitVec.ofNat 32 a)
  rw [BitVec.not_def, BitVec.toNat_xor, BitVec.toNat_allOnes, BitVec.toNat_ofNat, Nat.mod_eq_of_lt (by simpa using ha)] at h
  simpa using h
theorem u32_wrap (a : Nat) : IntKind.u32.wrap (a : Int) = ((a % 4294967296 : Nat) : Int) := by
  simp [IntKind.wrap, IntKind.bits, IntKind.signed]
theorem u32_add (a b : Nat) : IntKind.u32.wrap ((a : Int) + (b : Int)) = (((a + b) % 4294967296 : Nat) : Int) := by
  rw [show (a : Int) + (b : Int) = ((a + b : Nat) : Int) from rfl, u32_wrap]
end Go.Proofs.YtalklpnekbfehaaGreat

/-
  Plain mathematics: CRC-32, its linearity; a table of 256 numbers; bursts of up to 32 bits are found out.
-/
set_option linter.unusedVariables false
namespace Crc

def poly : Nat := 3988292384
/-- one bit -/
def step (c : Nat) : Nat := c / 2 ^^^ (if c % 2 = 1 then poly else 0)
def it : Nat → Nat → Nat
  | 0, c => c
  | k + 1, c => it k (step c)
def byte (c : Nat) (b : UInt8) : Nat := it 8 (c ^^^ b.toNat)
def crc (c : Nat) (l : List UInt8) : Nat := l.foldl byte c
def ones : Nat := 4294967295
def sum (l : List UInt8) : Nat := ones ^^^ crc ones l
def more (c : Nat) (l : List UInt8) : Nat := ones ^^^ crc (ones ^^^ c) l
def le4 (n : Nat) : List UInt8 := [UInt8.ofNat n, UInt8.ofNat (n / 256), UInt8.ofNat (n / 65536), UInt8.ofNat (n / 16777216)]
def sealT (l : List UInt8) : List UInt8 := l ++ le4 (sum l)

theorem xor_div2 (a b : Nat) : (a ^^^ b) / 2 = a / 2 ^^^ b / 2 := by
  have := Nat.xor_div_two (a := a) (b := b)
  exact this
theorem xor_mod2 (a b : Nat) : (a ^^^ b) % 2 = (a + b) % 2 := by
  have h := Nat.xor_mod_two_pow (a := a) (b := b) (n := 1)
  rw [Nat.pow_one] at h
  rw [h]
  have ha : a % 2 = 0 ∨ a % 2 = 1 := by omega
  have hb : b % 2 = 0 ∨ b % 2 = 1 := by omega
  rcases ha with ha | ha <;> rcases hb with hb | hb <;> rw [ha, hb] <;> simp <;> omega
theorem step_xor (a b : Nat) : step (a ^^^ b) = step a ^^^ step b := by
  unfold step
  rw [xor_div2, xor_mod2]
  by_cases ha : a % 2 = 1
  · by_cases hb : b % 2 = 1
    · rw [if_neg (by omega), if_pos ha, if_pos hb, Nat.xor_zero, Nat.xor_assoc, ← Nat.xor_assoc poly, Nat.xor_comm poly (b / 2), Nat.xor_assoc, Nat.xor_self, Nat.xor_zero]
    · rw [if_pos (by omega), if_pos ha, if_neg hb, Nat.xor_zero, Nat.xor_assoc, Nat.xor_assoc, Nat.xor_comm (b / 2)]
  · by_cases hb : b % 2 = 1
    · rw [if_pos (by omega), if_neg ha, if_pos hb, Nat.xor_zero, Nat.xor_assoc]
    · rw [if_neg (by omega), if_neg ha, if_neg hb]; simp
theorem it_xor (k a b : Nat) : it k (a ^^^ b) = it k a ^^^ it k b := by
  induction k generalizing a b with
  | zero => rfl
  | succ k ih => rw [it, step_xor, ih]; rfl
theorem it_add (j k c : Nat) : it (j + k) c = it k (it j c) := by
  induction j generalizing c with
  | zero => rw [Nat.zero_add]; rfl
  | succ j ih => rw [Nat.succ_add, it, ih, it]
theorem step_double (m : Nat) : step (m * 2) = m := by
  unfold step
  rw [if_neg (by omega), Nat.mul_div_cancel _ (by decide), Nat.xor_zero]
theorem it_shift (k m : Nat) : it k (m * 2 ^ k) = m := by
  induction k generalizing m with
  | zero => simp [it]
  | succ k ih => rw [it, Nat.pow_succ, ← Nat.mul_assoc, step_double, ih]
theorem poly_lt : poly < 2 ^ 32 := by decide
theorem step_lt (c : Nat) (h : c < 2 ^ 32) : step c < 2 ^ 32 := by
  unfold step
  refine Nat.xor_lt_two_pow (by omega) ?_
  split <;> decide
theorem it_lt (k c : Nat) (h : c < 2 ^ 32) : it k c < 2 ^ 32 := by
  induction k generalizing c with
  | zero => exact h
  | succ k ih => exact ih _ (step_lt c h)
theorem step_ne (c : Nat) (h : c < 2 ^ 32) (h0 : c ≠ 0) : step c ≠ 0 := by
  unfold step
  split
  · intro e
    have h1 : c / 2 = poly := by
      have := congrArg (· ^^^ poly) e
      simpa [Nat.xor_assoc] using this
    unfold poly at h1
    omega
  · rw [Nat.xor_zero]; omega
theorem it_ne (k c : Nat) (h : c < 2 ^ 32) (h0 : c ≠ 0) : it k c ≠ 0 := by
  induction k generalizing c with
  | zero => exact h0
  | succ k ih => exact ih _ (step_lt c h) (step_ne c h h0)

theorem add_xor (a m : Nat) (h : a < 256) : a ^^^ (m * 256) = a + m * 256 := by
  have h1 := Nat.xor_mod_two_pow (a := a) (b := m * 256) (n := 8)
  have h2 := Nat.xor_div_two_pow (a := a) (b := m * 256) (n := 8)
  rw [show (2 : Nat) ^ 8 = 256 from rfl] at h1 h2
  rw [Nat.mod_eq_of_lt h, Nat.mul_mod_left, Nat.xor_zero] at h1
  rw [Nat.div_eq_of_lt h, Nat.mul_div_cancel _ (by decide), Nat.zero_xor] at h2
  omega
/-- a text as a number, its first byte lowest -/
def val : List UInt8 → Nat
  | [] => 0
  | b :: r => b.toNat ^^^ (val r * 256)
theorem mul_xor (a b k : Nat) : (a ^^^ b) * 2 ^ k = a * 2 ^ k ^^^ b * 2 ^ k := by
  have := Nat.shiftLeft_xor_distrib (a := a) (b := b) (i := k)
  simpa [Nat.shiftLeft_eq] using this
theorem it8 (m : Nat) : it 8 (m * 256) = m := it_shift 8 m
theorem crc_val (l : List UInt8) (c : Nat) : crc c l = it (8 * l.length) (c ^^^ val l) := by
  induction l generalizing c with
  | nil => simp [crc, val, it]
  | cons b r ih =>
    show crc (byte c b) r = _
    rw [ih, List.length_cons, Nat.mul_succ, Nat.add_comm, it_add]
    congr 1
    rw [val, ← Nat.xor_assoc, it_xor, it8]
    rfl
theorem crc_lt (l : List UInt8) (c : Nat) (h : c < 2 ^ 32) : crc c l < 2 ^ 32 := by
  induction l generalizing c with
  | nil => exact h
  | cons b r ih =>
    refine ih _ (it_lt 8 _ (Nat.xor_lt_two_pow h ?_))
    have := b.toNat_lt
    omega
theorem ones_lt : ones < 2 ^ 32 := by decide
theorem sum_lt (l : List UInt8) : sum l < 2 ^ 32 := Nat.xor_lt_two_pow ones_lt (crc_lt l _ ones_lt)
theorem ones_twice (c : Nat) : ones ^^^ (ones ^^^ c) = c := by rw [← Nat.xor_assoc, Nat.xor_self, Nat.zero_xor]

/-- piece by piece -/
theorem sum_nil : sum [] = 0 := by simp [sum, crc]
theorem more_sum (a b : List UInt8) : more (sum a) b = sum (a ++ b) := by
  unfold more sum
  rw [ones_twice]
  unfold crc
  rw [List.foldl_append]

/-- by a table -/
theorem byte_table (c : Nat) (b : UInt8) : byte c b = it 8 ((c ^^^ b.toNat) % 256) ^^^ c / 256 := by
  unfold byte
  have hb := b.toNat_lt
  have h1 : (c ^^^ b.toNat) / 256 = c / 256 := by
    have := Nat.xor_div_two_pow (a := c) (b := b.toNat) (n := 8)
    rw [show (2 : Nat) ^ 8 = 256 from rfl] at this
    rw [this, Nat.div_eq_of_lt (by omega : b.toNat < 256), Nat.xor_zero]
  generalize hx : c ^^^ b.toNat = x at *
  have h2 : x = x % 256 ^^^ (x / 256 * 256) := by
    rw [add_xor _ _ (by omega)]
    omega
  have h3 : it 8 x = it 8 (x % 256) ^^^ x / 256 := by
    conv => lhs; rw [h2]
    rw [it_xor, it8]
  rw [h3, h1]

theorem val_append (a b : List UInt8) : val (a ++ b) = val a ^^^ (val b * 2 ^ (8 * a.length)) := by
  induction a with
  | nil => simp [val]
  | cons x r ih =>
    rw [List.cons_append, val, val, ih, List.length_cons, show 8 * (r.length + 1) = 8 * r.length + 8 by omega, Nat.pow_add (2 : Nat) (8 * r.length) 8, ← Nat.mul_assoc, show (2 : Nat) ^ 8 = 256 from rfl]
    have h := mul_xor (val r) (val b * 2 ^ (8 * r.length)) 8
    rw [show (2 : Nat) ^ 8 = 256 from rfl] at h
    rw [h, Nat.xor_assoc]
theorem val_le4 (n : Nat) (h : n < 2 ^ 32) : val (le4 n) = n := by
  have e : val (le4 n) = n % 256 ^^^ ((n / 256 % 256 ^^^ ((n / 65536 % 256 ^^^ ((n / 16777216 % 256 ^^^ (0 * 256)) * 256)) * 256)) * 256) := by
    simp [val, le4]
  rw [e, add_xor _ _ (by omega), add_xor _ _ (by omega), add_xor _ _ (by omega), add_xor _ _ (by omega)]
  omega
/-- whoever goes over a sealed text, and its four bytes, comes to a constant -/
theorem crc_sealed (l e : List UInt8) (he : e.length = 4) : crc ones (l ++ e) = it 32 (crc ones l ^^^ val e) := by
  rw [crc_val, crc_val, val_append, List.length_append, he, Nat.mul_add, it_add, ← Nat.xor_assoc, it_xor (8 * l.length), it_shift]
theorem crc_seal (l : List UInt8) : crc ones (sealT l) = it 32 ones := by
  unfold sealT
  rw [crc_sealed _ _ rfl, val_le4 _ (sum_lt l)]
  congr 1
  unfold sum
  rw [Nat.xor_comm ones, ← Nat.xor_assoc, Nat.xor_self, Nat.zero_xor]

/-- one bit turned -/
theorem val_set (l : List UInt8) (j t : Nat) (hj : j < l.length) (ht : t < 8) : val (l.set j (UInt8.ofNat ((l.getD j 0).toNat ^^^ 2 ^ t))) = val l ^^^ 2 ^ (8 * j + t) := by
  induction l generalizing j with
  | nil => simp at hj
  | cons b r ih =>
    cases j with
    | zero =>
      have hb := b.toNat_lt
      have h2 : 2 ^ t < 2 ^ 8 := Nat.pow_lt_pow_of_lt (by decide) ht
      have h3 : b.toNat ^^^ 2 ^ t < 2 ^ 8 := Nat.xor_lt_two_pow hb h2
      simp only [List.set_cons_zero, val, List.getD_cons_zero, UInt8.toNat_ofNat', Nat.mod_eq_of_lt h3, Nat.mul_zero, Nat.zero_add]
      rw [Nat.xor_assoc, Nat.xor_comm (2 ^ t), ← Nat.xor_assoc]
    | succ j =>
      simp only [List.set_cons_succ, val, List.getD_cons_succ]
      rw [ih j (by simpa using hj), show (256 : Nat) = 2 ^ 8 from rfl, mul_xor, ← Nat.pow_add, ← Nat.xor_assoc, show 8 * (j + 1) + t = 8 * j + t + 8 by omega]

/-- a text whose bits are turned within 32 in a row is no sealed one -/
theorem turned (l m : List UInt8) (n from_ turns : Nat) (h0 : turns ≠ 0) (h32 : turns < 2 ^ 32) (hm : m.length = (sealT l).length) (hf : from_ + 32 ≤ 8 * m.length)
    (hv : val m = val (sealT l) ^^^ (turns * 2 ^ from_)) (y : List UInt8) : m ≠ sealT y := by
  intro e
  have h1 := crc_seal l
  have h2 := crc_seal y
  rw [← e, crc_val, hv, ← Nat.xor_assoc, it_xor, hm, ← crc_val, h1] at h2
  have h3 : it (8 * (sealT l).length) (turns * 2 ^ from_) = 0 := by
    have := congrArg (it 32 ones ^^^ ·) h2
    simpa [← Nat.xor_assoc] using this
  rw [show 8 * (sealT l).length = from_ + (8 * (sealT l).length - from_) by omega, it_add, it_shift] at h3
  exact it_ne _ _ h32 h0 h3
end Crc

/-
  Plain mathematics: the lowest bit of a number below 256; the table of CRC-32, number by number.
-/
set_option linter.unusedVariables false
namespace Crc
theorem it_succ (k c : Nat) : it (k + 1) c = step (it k c) := by rw [it_add]; rfl
/-- the numbers of the table below n -/
def tab (n : Nat) : List Nat := (List.range n).map (it 8)
theorem tab_length (n : Nat) : (tab n).length = n := by simp [tab]
theorem tab_succ (n : Nat) : tab (n + 1) = tab n ++ [it 8 n] := by simp [tab, List.range_succ]
theorem tab_get (n j : Nat) (h : j < n) : (tab n).getD j 0 = it 8 j := by simp [tab, List.getD_eq_getElem?_getD, h]
theorem it_split (i l : Nat) : it 8 l ^^^ it 8 (i ^^^ l) = it 8 i := by
  rw [← it_xor]
  congr 1
  rw [Nat.xor_comm i, ← Nat.xor_assoc, Nat.xor_self, Nat.zero_xor]
end Crc
namespace Go.Proofs.YtalklpnekbfehaaGreat
open Go.RowKit

/-- i & -i -/
def lowb (i : Nat) : Nat := (bits .and .i64 (i : Int) (-(i : Int))).toNat
theorem lowb_facts : ∀ i : Fin 256, bits .and .i64 ((i.val : Nat) : Int) (-((i.val : Nat) : Int)) = ((lowb i.val : Nat) : Int) ∧ lowb i.val ≤ i.val ∧ (lowb i.val ≠ i.val → lowb i.val < i.val ∧ i.val ^^^ lowb i.val < i.val) := by decide +kernel
theorem lowb_val (i : Nat) (h : i < 256) : bits .and .i64 (i : Int) (-(i : Int)) = ((lowb i : Nat) : Int) := (lowb_facts ⟨i, h⟩).1
theorem lowb_le (i : Nat) (h : i < 256) : lowb i ≤ i := (lowb_facts ⟨i, h⟩).2.1
theorem lowb_lt (i : Nat) (h : i < 256) (hne : lowb i ≠ i) : lowb i < i ∧ i ^^^ lowb i < i := (lowb_facts ⟨i, h⟩).2.2 hne

/-- the numbers that are there, and zeros behind them -/
def upto (ws : List Nat) : List Nat := ws ++ nils (256 - ws.length)
theorem upto_length (ws : List Nat) (h : ws.length ≤ 256) : (upto ws).length = 256 := by simp [upto]; omega
theorem upto_nil : upto [] = nils 256 := rfl
theorem upto_set (ws : List Nat) (x : Nat) (h : ws.length < 256) : (upto ws).set ws.length x = upto (ws ++ [x]) := by
  unfold upto nils
  rw [List.set_append_right _ _ (Nat.le_refl _), Nat.sub_self]
  obtain ⟨m, hm⟩ : ∃ m, 256 - ws.length = m + 1 := ⟨255 - ws.length, by omega⟩
  rw [hm, List.replicate_succ, List.set_cons_zero, List.length_append, List.length_singleton, show 256 - (ws.length + 1) = m by omega]
  simp
theorem upto_get (ws : List Nat) (j : Nat) (h : j < ws.length) : (upto ws).getD j 0 = ws.getD j 0 := by
  simp [upto, List.getD_eq_getElem?_getD, List.getElem?_append_left h]
theorem upto_full (ws : List Nat) (h : ws.length = 256) : upto ws = ws := by simp [upto, h, nils]

theorem u32_and1 (x : Nat) (h : x < 4294967296) : bits .and .u32 (x : Int) 1 = ((x % 2 : Nat) : Int) := by
  have := u32_and x 1 h (by decide)
  rw [show ((1 : Nat) : Int) = 1 from rfl] at this
  rw [this, Nat.and_one_is_mod]
theorem i64_xor (a b : Nat) (ha : a < 9223372036854775808) (hb : b < 9223372036854775808) : bits .xor .i64 (a : Int) (b : Int) = ((a ^^^ b : Nat) : Int) := by
  have hx : a ^^^ b < 2 ^ 63 := Nat.xor_lt_two_pow (by omega) (by omega)
  have ea : (BitVec.ofInt 64 (a : Int)).toNat = a := by simp; omega
  have eb : (BitVec.ofInt 64 (b : Int)).toNat = b := by simp; omega
  show IntKind.i64.wrap ((BitVec.ofInt 64 (a : Int) ^^^ BitVec.ofInt 64 (b : Int)).toNat : Int) = _
  rw [BitVec.toNat_xor, ea, eb]
  exact IntWalk.i64_in _ (by omega)
end Go.Proofs.YtalklpnekbfehaaGreat

/-
  What shifted returns: a number, shifted by the bits of a byte.
-/
set_option linter.unusedVariables false
namespace Go.Proofs.YtalklpnekbfehaaGreat
open Go.RowKit

theorem shifted_any (c : Nat) (hc : c < 4294967296) (w : World) :
    Calls Tryz.prog 186 #[.int .u32 c] w fun e w' => e = .returned (.int .u32 (Crc.it 8 c)) ∧ w = w' := by
  go_enter Tryz.func186, Tryz.ntmps186
  go_wp2
  go_loop [0, 4] (fun a i => ∃ k : Nat, k ≤ 8 ∧ i = .int .i64 k ∧ a = .int .u32 (Crc.it k c : Nat)) (fun _ i => 8 - (intOf i).toNat)
  case atStart => exact ⟨0, by omega, rfl, rfl⟩
  case round =>
    obtain ⟨k, hk, rfl, rfl⟩ := hrel
    by_cases hlt : k < 8
    · have hs := Crc.it_succ k c
      have hx := Crc.it_lt k c hc
      generalize Crc.it k c = x at *
      have ha := u32_and1 x hx
      have hst : Crc.step x = x / 2 ^^^ (if x % 2 = 1 then Crc.poly else 0) := rfl
      rw [hst] at hs
      by_cases ho : x % 2 = 1
      · have hv : bits .xor .u32 ((x : Int) / 2) 3988292384 = ((Crc.it (k + 1) c : Nat) : Int) := by
          rw [hs, if_pos ho]
          have := u32_xor (x / 2) Crc.poly (by omega) Crc.poly_lt
          exact this
        rw [ho] at ha
        have Hv := Lib.hid hv; clear hv
        have Hs := Lib.hid hs; clear hs hst
        clear ho
        go_wp2
        go_round
        case rel => exact ⟨k + 1, by omega, by go_num, by rw [← Hv.out]⟩
        case measure => simp [intOf]; omega
      · have hv : ((x : Int) / 2) = ((Crc.it (k + 1) c : Nat) : Int) := by
          rw [hs, if_neg ho]; simp
        rw [show x % 2 = 0 by omega] at ha
        have Hv := Lib.hid hv; clear hv
        have Hs := Lib.hid hs; clear hs hst
        clear ho
        go_wp2
        go_round
        case rel => exact ⟨k + 1, by omega, by go_num, by rw [← Hv.out]⟩
        case measure => simp [intOf]; omega
    · obtain rfl : k = 8 := by omega
      rw [show ((8 : Nat) : Int) = 8 from rfl]
      go_wp2
      go_ret
      exact ⟨rfl, rfl⟩
end Go.Proofs.YtalklpnekbfehaaGreat

/-
  What shiftTable returns: the 256 numbers of the table.
-/
set_option linter.unusedVariables false
namespace Go.Proofs.YtalklpnekbfehaaGreat
open Go.RowKit

theorem zero256 : ∀ w, (zeroValue 223).run Tryz.prog w = .ok (.agg (u32s (nils 256))) w := fun _ => by kernel_rfl

set_option maxRecDepth 100000 in
set_option maxHeartbeats 1000000 in
theorem table_any (w : World) :
    Calls Tryz.prog 182 #[] w fun e w' => e = .returned (.agg (u32s (Crc.tab 256))) ∧ Below w.heap.size w w' := by
  have hz := zero256
  go_enter Tryz.func182, Tryz.ntmps182
  go_wp2
  go_loopw [4] (fun i wr => ∃ k : Nat, k ≤ 256 ∧ i = .int .i64 k ∧ wr.heap[w.heap.size + 1]? = some (.cells (u32s (upto (Crc.tab k))) 223 (0, 0)) ∧ (∃ cs : Array Value, cs.size = 256 ∧ wr.heap[w.heap.size]? = some (.cells cs 223 (0, 0))) ∧ Below w.heap.size w wr) (fun i _ => 256 - (intOf i).toNat)
  case atStart => exact ⟨0, by omega, rfl, heap_alloc2_new _ _ _, ⟨_, by rw [u32s_size, nils_length], heap_alloc2_old _ _ _⟩, ((Below.refl _ w).alloc (Nat.le_refl _) _).alloc (by simp) _⟩
  case round =>
    obtain ⟨k, hk, rfl, hrow, hres, hbel⟩ := hrel
    clear hz
    have Hres := Lib.hid hres; clear hres
    by_cases hlt : k < 256
    · have hlv := lowb_val k hlt
      have hneg : IntKind.i64.wrap (-(k : Int)) = -(k : Int) := IntWalk.i64_in _ (by omega)
      have hll := lowb_le k hlt
      have hln := lowb_lt k hlt
      have hul := upto_length (Crc.tab k) (by rw [Crc.tab_length]; omega)
      have hset := upto_set (Crc.tab k) (Crc.it 8 k) (by rw [Crc.tab_length]; omega)
      rw [Crc.tab_length, ← Crc.tab_succ] at hset
      have hf := row_free hrow k
      have ho := row_u32 hrow k (by omega)
      have i0 : (0 : Int) ≤ (k : Int) := by omega
      have i1 : (k : Int) < 256 := by omega
      have tk : ((k : Int)).toNat = k := by omega
      have hs2 := row_set32 hrow k (Crc.it 8 k)
      rw [hset] at hs2
      generalize (upto (Crc.tab k)).getD k 0 = old at *
      have Hs2 := Lib.hid hs2; clear hs2
      have Hset := Lib.hid hset; clear hset
      have Hbel := Lib.hid hbel; clear hbel
      have Hln := Lib.hid hln; clear hln
      have hsp := Crc.it_split k (lowb k)
      have Hsp := Lib.hid hsp; clear hsp
      by_cases he : lowb k = k
      · rw [he] at hlv
        have hsh := fun u => shifted_any k (by omega) u
        have Hsh := Lib.hid hsh; clear hsh
        have Hul := Lib.hid hul; clear hul
        have Hrow := Lib.hid hrow; clear hrow
        clear hll he
        go_wp2_with fail
        refine (Hsh.out _).mono ?_; rintro e w1 ⟨rfl, rfl⟩
        go_wp2_with fail
        go_roundw
        case rel =>
          refine ⟨k + 1, by omega, by go_num, Hs2.out, ?_, Hbel.out.setCell (p := ⟨w.heap.size + 1, k, none⟩) (by simp) _⟩
          obtain ⟨cs, hs, h⟩ := Hres.out
          exact ⟨cs, hs, (heap_setCell_other _ _ _ _ (by simp)).trans h⟩
        case measure => simp [intOf]; omega
      · obtain ⟨l1, l2⟩ := Hln.out he
        clear Hln
        have c1 := row_u32 hrow (lowb k) (by omega)
        have c2 := row_u32 hrow (k ^^^ lowb k) (by omega)
        rw [upto_get _ _ (by rw [Crc.tab_length]; omega), Crc.tab_get _ _ l1] at c1
        rw [upto_get _ _ (by rw [Crc.tab_length]; omega), Crc.tab_get _ _ l2] at c2
        have hx := i64_xor k (lowb k) (by omega) (by omega)
        have e1 := Crc.it_lt 8 (lowb k) (by omega)
        have e2 := Crc.it_lt 8 (k ^^^ lowb k) (by omega)
        have hsp := Hsp.out
        have hv := u32_xor _ _ e1 e2
        rw [hsp] at hv
        generalize k ^^^ lowb k = m at *
        generalize lowb k = l at *
        have hd : decide (k = l) = false := decide_eq_false (by omega)
        have hd2 : decide ((k : Int) = (l : Int)) = false := decide_eq_false (by omega)
        have hd3 : ((k : Int) == (l : Int)) = false := beq_eq_false_iff_ne.2 (by omega)
        have j0 : (0 : Int) ≤ (l : Int) := by omega
        have j1 : (l : Int) < 256 := by omega
        have m0 : (0 : Int) ≤ (m : Int) := by omega
        have m1 : (m : Int) < 256 := by omega
        have tl : ((l : Int)).toNat = l := by omega
        have tm : ((m : Int)).toNat = m := by omega
        clear Hsp hsp
        generalize Crc.it 8 l = x at *
        generalize Crc.it 8 m = y at *
        have Hv := Lib.hid hv; clear hv
        have Hul := Lib.hid hul; clear hul
        have Hrow := Lib.hid hrow; clear hrow
        have L1 := Lib.hid l1; clear l1
        have L2 := Lib.hid l2; clear l2
        clear hll e1 e2
        go_wp2
        have hf2 : wr.drew.frozen? ⟨w.heap.size + 1, k, none⟩ = false := hf
        have ho2 : wr.drew.cell? ⟨w.heap.size + 1, k, none⟩ = some (.int .u32 (old : Nat)) := ho
        have hs3 : (wr.drew.setCell ⟨w.heap.size + 1, k, none⟩ (.int .u32 ((Crc.it 8 k : Nat) : Int))).heap[w.heap.size + 1]? = some (.cells (u32s (upto (Crc.tab (k + 1)))) 223 (0, 0)) := Hs2.out
        have hbel2 : Below w.heap.size w wr.drew := Hbel.out.drew
        have hres2 : ∃ cs : Array Value, cs.size = 256 ∧ wr.drew.heap[w.heap.size]? = some (.cells cs 223 (0, 0)) := Hres.out
        have Hs3 := Lib.hid hs3; clear hs3
        have Hbel2 := Lib.hid hbel2; clear hbel2
        have Hres2 := Lib.hid hres2; clear hres2
        clear hf ho Hrow Hbel Hs2 Hres
        go_still_tail 11, (by kernel_rfl)
        change wpList _ _ _ _ _ wr.drew
        clear c1 c2
        generalize wr.drew = w2 at *
        rw [Hv.out]
        go_wp2
        go_roundw
        case rel =>
          refine ⟨k + 1, by omega, by go_num, Hs3.out, ?_, Hbel2.out.setCell (p := ⟨w.heap.size + 1, k, none⟩) (by simp) _⟩
          obtain ⟨cs, hs, h⟩ := Hres2.out
          exact ⟨cs, hs, (heap_setCell_other _ _ _ _ (by simp)).trans h⟩
        case measure => simp [intOf]; omega
    · obtain rfl : k = 256 := by omega
      have hlen := Crc.tab_length 256
      rw [show ((256 : Nat) : Int) = 256 from rfl]
      generalize hws : Crc.tab 256 = ws at hlen hrow
      have Hws := Lib.hid hws; clear hws
      obtain ⟨cs, hs, hr⟩ := Hres.out
      rw [upto_full ws hlen] at hrow
      have hi64 : (Tryz.prog.info? 223).map (·.size) = some 256 := by kernel_rfl
      have hsz : (Tryz.prog.info? 223).map (·.size) = some (u32s ws).size := by rw [u32s_size, hlen]; exact hi64
      have hss : cs.size = (u32s ws).size := by rw [u32s_size, hlen]; exact hs
      have Hrow := Lib.hid hrow; clear hrow
      have Hbel := Lib.hid hbel; clear hbel
      have Hr := Lib.hid hr; clear hr
      have Hsz := Lib.hid hsz; clear hsz
      have Hss := Lib.hid hss; clear hss
      clear hs hi64 hk hlt hlen
      go_wp2_with (first | (with_reducible refine wpList_load_row rfl 223 (.tmp 1) rfl (w.heap.size + 1) rfl _ (u32s ws) _ _ Hrow.out Tryz.underlying223 rfl Hsz.out ?_) | (with_reducible refine wpList_store_whole rfl 223 (.tmp 0) (.tmp 31) rfl w.heap.size (u32s ws) rfl rfl _ cs Hr.out Hsz.out Hss.out (u32s_one ws) ?_))
      refine bodyPost_ret (v := .agg (u32s ws)) (results_cell_row (P := Tryz.prog) rfl _ _ w.heap.size _ (u32s ws) (0, 0) _ rfl (setRow_heap _ _ cs _ _ _ Hr.out) Tryz.underlying223 rfl Hsz.out) rfl ?_
      exact ⟨by rw [Hws.out], below_setRow Hbel.out (Nat.le_refl _) _⟩
end Go.Proofs.YtalklpnekbfehaaGreat

/-
  What More and Sum return: checksums by a table.
-/
set_option linter.unusedVariables false
namespace Go.Proofs.YtalklpnekbfehaaGreat
open Go.RowKit

theorem u32_compl (a : Nat) (h : a < 4294967296) : bits .xor .u32 IntKind.u32.max (a : Int) = ((Crc.ones ^^^ a : Nat) : Int) := u32_xor Crc.ones a (by decide) h

theorem Crc.crc_take (c : Nat) (l : List UInt8) (k : Nat) (h : k < l.length) : Crc.crc c (l.take (k + 1)) = Crc.byte (Crc.crc c (l.take k)) l[k] := by
  unfold Crc.crc
  rw [List.take_succ_eq_append_getElem h, List.foldl_append]
  rfl

/-- one byte by the table -/
theorem Crc.round (x : Nat) (b : UInt8) : ((x % 256) ^^^ b.toNat) < 256 ∧ Crc.byte x b = x / 256 ^^^ Crc.it 8 ((x % 256) ^^^ b.toNat) := by
  have hb := b.toNat_lt
  have e : (x ^^^ b.toNat) % 256 = (x % 256) ^^^ b.toNat := by
    have := Nat.xor_mod_two_pow (a := x) (b := b.toNat) (n := 8)
    rw [show (2 : Nat) ^ 8 = 256 from rfl, Nat.mod_eq_of_lt (show b.toNat < 256 by omega)] at this
    exact this
  refine ⟨Nat.xor_lt_two_pow (n := 8) (Nat.mod_lt _ (by decide)) hb, ?_⟩
  rw [Crc.byte_table, e, Nat.xor_comm]

set_option maxRecDepth 100000 in
set_option maxHeartbeats 1000000 in
theorem more_any (c : Nat) (hc : c < 4294967296) (s : ByteArray) (hs : s.size ≤ 140737488351232) (w : World) :
    Calls Tryz.prog 165 #[.int .u32 c, .string s] w fun e w' => e = .returned (.int .u32 (Crc.more c s.data.toList)) ∧ Below w.heap.size w w' := by
  have hz := zero256
  have hsz : (Tryz.prog.info? 223).map (·.size) = some (u32s (Crc.tab 256)).size := by rw [u32s_size, Crc.tab_length]; kernel_rfl
  have hss : (u32s (nils 256)).size = (u32s (Crc.tab 256)).size := by rw [u32s_size, u32s_size, Crc.tab_length, nils_length]
  have ct := table_any
  have hcl := Crc.tab_length 256
  have hget := fun j h => Crc.tab_get 256 j h
  have hcm := u32_compl c hc
  have hx0 : Crc.ones ^^^ c < 4294967296 := Nat.xor_lt_two_pow (n := 32) Crc.ones_lt hc
  generalize hT : Crc.tab 256 = T at *
  have HT := Lib.hid hT; clear hT
  have Hget := Lib.hid hget; clear hget
  have Hsz := Lib.hid hsz; clear hsz
  have Hss := Lib.hid hss; clear hss
  have Ct := Lib.hid ct; clear ct
  have Hcm := Lib.hid hcm; clear hcm
  have hm : Crc.more c s.data.toList = Crc.ones ^^^ Crc.crc (Crc.ones ^^^ c) s.data.toList := rfl
  have Hm := Lib.hid hm; clear hm
  go_enter Tryz.func165, Tryz.ntmps165
  go_wp2_with (first | (go_at_call 182; refine (Ct.out _).mono ?_; rintro e w1 ⟨rfl, h1⟩) | (with_reducible refine wpList_store_whole rfl 223 (.tmp 5) (.tmp 7) rfl w1.heap.size (u32s T) rfl rfl _ _ (heap_alloc_new _ _) Hsz.out Hss.out (u32s_one T) ?_))
  have e1 := World.setRow_alloc_new w1 (u32s (nils 256)) (u32s T) 223
  rw [e1]
  clear e1 hz
  rw [Hcm.out]
  obtain ⟨w2, hw2⟩ : ∃ w2, w2 = w1.alloc (.cells (u32s T) 223) := ⟨_, rfl⟩
  rw [← hw2]
  have hb2 : Below w.heap.size w w2 := by rw [hw2]; exact h1.alloc h1.size _
  have hrow2 : w2.heap[w1.heap.size]? = some (.cells (u32s T) 223 (0, 0)) := by rw [hw2]; exact heap_alloc_new _ _
  clear hw2
  have Hb2 := Lib.hid hb2; clear hb2
  have Hrow2 := Lib.hid hrow2; clear hrow2
  generalize Crc.ones ^^^ c = x0 at *
  have Hc := Lib.hid hcl; clear hcl
  clear h1
  generalize w1.heap.size = g at *
  go_loop [0, 12] (fun a i => ∃ k : Nat, k ≤ s.size ∧ i = .int .i64 k ∧ a = .int .u32 (Crc.crc x0 (s.data.toList.take k) : Nat)) (fun _ i => s.size - (intOf i).toNat)
  case atStart => exact ⟨0, by omega, rfl, by simp [Crc.crc]⟩
  case round =>
    obtain ⟨k, hk, rfl, rfl⟩ := hrel
    have hl := ba_len s
    by_cases hlt : k < s.size
    · have hnx := Crc.crc_take x0 s.data.toList k (by omega)
      rw [ba_get s k (by omega)] at hnx
      have hxl := Crc.crc_lt (s.data.toList.take k) x0 hx0
      generalize Crc.crc x0 (s.data.toList.take k) = x at *
      have hrd := Crc.round x s[k]
      rw [← hnx] at hrd
      have hbt : s[k].toNat < 256 := s[k].toNat_lt
      generalize hy : Crc.crc x0 (s.data.toList.take (k + 1)) = y at *
      have Hy := Lib.hid hy; clear hy
      generalize hsk : s[k].toNat = b at *
      have hx8 := u8_xor_nat (x % 256) b (Nat.mod_lt _ (by decide)) hbt
      rw [show ((x % 256 : Nat) : Int) = (x : Int) % 256 by simp] at hx8
      obtain ⟨q1, q2⟩ := hrd
      generalize (x % 256) ^^^ b = j at *
      have hcell := row_u32 Hrow2.out j (by rw [Hc.out]; exact q1)
      rw [Hget.out j q1] at hcell
      have ht := Crc.it_lt 8 j (by omega)
      have hv := u32_xor (x / 256) (Crc.it 8 j) (by omega) ht
      rw [← q2, show ((x / 256 : Nat) : Int) = (x : Int) / 256 by simp] at hv
      generalize Crc.it 8 j = z at *
      have i0 : (0 : Int) ≤ (j : Int) := by omega
      have i1 : (j : Int) < 256 := by omega
      have tj : ((j : Int)).toNat = j := by omega
      have Hv := Lib.hid hv; clear hv
      clear ht q2 hnx
      go_wp2
      go_round
      case rel => exact ⟨k + 1, by omega, by go_num, by rw [Hv.out, Hy.out]⟩
      case measure => simp [intOf]; omega
    · obtain rfl : k = s.size := by omega
      have he : s.data.toList.take s.size = s.data.toList := List.take_of_length_le (by omega)
      rw [he]
      have hxl := Crc.crc_lt s.data.toList x0 hx0
      have hv := u32_compl _ hxl
      rw [← Hm.out] at hv
      have Hv := Lib.hid hv; clear hv
      clear he
      go_wp2
      go_ret
      exact ⟨ret_int Hv.out, Hb2.out⟩

theorem sum_any (s : ByteArray) (hs : s.size ≤ 140737488351232) (w : World) :
    Calls Tryz.prog 144 #[.string s] w fun e w' => e = .returned (.int .u32 (Crc.sum s.data.toList)) ∧ Below w.heap.size w w' := by
  have h := fun u => more_any 0 (by decide) s hs u
  have e : Crc.more 0 s.data.toList = Crc.sum s.data.toList := by unfold Crc.more Crc.sum; rw [Nat.xor_zero]
  rw [e] at h
  rw [show (((0 : Nat) : Int)) = 0 from rfl] at h
  have H := Lib.hid h; clear h
  clear e
  go_enter Tryz.func144, Tryz.ntmps144
  go_wp2_with fail
  refine (H.out _).mono ?_; rintro e w1 ⟨rfl, h1⟩
  go_wp2_with fail
  go_ret
  exact ⟨rfl, h1⟩
end Go.Proofs.YtalklpnekbfehaaGreat

/-
  Plain mathematics: sealed texts, and what they are sealed of.
-/
set_option linter.unusedVariables false
namespace Go.Proofs.YtalklpnekbfehaaGreat
open Go.RowKit

theorem le4_eq (n : Nat) : Oct.le 4 n = Crc.le4 n := by
  simp only [Oct.le, Crc.le4, Nat.div_div_eq_div_mul]
theorem le4_length (n : Nat) : (Crc.le4 n).length = 4 := rfl

/-- the sealed form of a text -/
def sealB (s : ByteArray) : ByteArray := s ++ ⟨(Crc.le4 (Crc.sum s.data.toList)).toArray⟩
theorem sealB_list (s : ByteArray) : (sealB s).data.toList = Crc.sealT s.data.toList := by simp [sealB, Crc.sealT]
theorem sealB_size (s : ByteArray) : (sealB s).size = s.size + 4 := by
  unfold sealB
  rw [ByteArray.size_append]
  rfl
theorem sealB_front (s : ByteArray) : (sealB s).extract 0 ((sealB s).size - 4) = s := by
  rw [sealB_size, Lib.extract_eq, sealB_list]
  unfold Crc.sealT
  rw [show s.size + 4 - 4 - 0 = s.data.toList.length by rw [ba_len]; omega, List.drop_zero, List.take_left, ba_eta]

/-- what bytes are sealed of, and the error beside it -/
def opn (s : ByteArray) : ByteArray × Int :=
  if s.size < 4 then (.empty, 6) else if sealB (s.extract 0 (s.size - 4)) = s then (s.extract 0 (s.size - 4), 0) else (.empty, 7)
theorem opn_seal (s : ByteArray) : opn (sealB s) = (s, 0) := by
  unfold opn
  rw [if_neg (by rw [sealB_size]; omega), sealB_front, if_pos rfl]
theorem opn_ok (s : ByteArray) (h : (opn s).2 = 0) : sealB (opn s).1 = s := by
  unfold opn at h ⊢
  by_cases h4 : s.size < 4
  · rw [if_pos h4] at h; cases h
  · rw [if_neg h4] at h ⊢
    by_cases hq : sealB (s.extract 0 (s.size - 4)) = s
    · rw [if_pos hq]; exact hq
    · rw [if_neg hq] at h; cases h
theorem opn_cases (s : ByteArray) : (opn s).2 = 0 ∨ opn s = (.empty, 6) ∨ opn s = (.empty, 7) := by
  unfold opn
  by_cases h4 : s.size < 4
  · rw [if_pos h4]; exact .inr (.inl rfl)
  · rw [if_neg h4]
    by_cases hq : sealB (s.extract 0 (s.size - 4)) = s
    · rw [if_pos hq]; exact .inl rfl
    · rw [if_neg hq]; exact .inr (.inr rfl)
theorem opn_size (s : ByteArray) : (opn s).1.size ≤ s.size := by
  unfold opn
  by_cases h4 : s.size < 4
  · rw [if_pos h4]; exact Nat.zero_le _
  · rw [if_neg h4]
    by_cases hq : sealB (s.extract 0 (s.size - 4)) = s
    · rw [if_pos hq]
      show (s.extract 0 (s.size - 4)).size ≤ _
      rw [ByteArray.size_extract]; omega
    · rw [if_neg hq]; exact Nat.zero_le _
/-- a text of four bytes or more that is no sealed one -/
theorem opn_none (s : ByteArray) (h : 4 ≤ s.size) (hn : ∀ y, s ≠ sealB y) : opn s = (.empty, 7) := by
  unfold opn
  rw [if_neg (by omega), if_neg (fun e => hn _ e.symm)]

theorem cut4 (s : ByteArray) (h : 4 ≤ s.size) : s = s.extract 0 (s.size - 4) ++ s.extract (s.size - 4) s.size := by
  have e : s.data.toList = s.data.toList.take (s.size - 4) ++ (s.data.toList.drop (s.size - 4)).take 4 := by
    rw [List.take_of_length_le (l := s.data.toList.drop (s.size - 4)) (by rw [List.length_drop, ba_len]; omega), List.take_append_drop]
  rw [Lib.extract_eq, Lib.extract_eq, cat_list, show s.size - (s.size - 4) = 4 by omega, List.drop_zero, Nat.sub_zero, ← e, ba_eta]

/-- the last four bytes are the checksum of those ahead of them: then it is sealed -/
theorem seal_iff (s : ByteArray) (h : 4 ≤ s.size) :
    Oct.un (s.extract (s.size - 4) s.size).data.toList = Crc.sum (s.extract 0 (s.size - 4)).data.toList ↔ sealB (s.extract 0 (s.size - 4)) = s := by
  have hc := cut4 s h
  have ht : (s.extract (s.size - 4) s.size).data.toList.length = 4 := by rw [ba_len, ByteArray.size_extract]; omega
  generalize s.extract (s.size - 4) s.size = t at *
  generalize s.extract 0 (s.size - 4) = b at *
  constructor
  · intro e
    have hl := Oct.le_un t.data.toList
    rw [ht, e, le4_eq] at hl
    rw [hc]
    unfold sealB
    rw [hl, ba_eta]
  · intro e
    rw [← e] at hc
    have h2 : b.data.toList ++ Crc.le4 (Crc.sum b.data.toList) = b.data.toList ++ t.data.toList := by
      have := congrArg (·.data.toList) hc
      simp only [sealB_list] at this
      rw [show (b ++ t).data.toList = b.data.toList ++ t.data.toList by simp] at this
      exact this
    have h3 := List.append_cancel_left h2
    rw [← h3, ← le4_eq, Oct.un_le 4 _ (Crc.sum_lt _)]
end Go.Proofs.YtalklpnekbfehaaGreat

/-
  What Seal, opened, Open and Ok return.
-/
set_option linter.unusedVariables false
namespace Go.Proofs.YtalklpnekbfehaaGreat
open Go.RowKit

set_option maxHeartbeats 400000 in
theorem seal_any (s : ByteArray) (hs : s.size ≤ 140737488351232) (w : World) :
    Calls Tryz.prog 117 #[.string s] w fun e w' => e = .returned (.string (sealB s)) ∧ Below w.heap.size w w' := by
  have hsl := Crc.sum_lt s.data.toList
  have hp := fun u => octPut_any (Crc.sum s.data.toList) 4 u (by omega) (by decide) (by decide)
  have he : Oct.put (Crc.sum s.data.toList) 4 = (Crc.le4 (Crc.sum s.data.toList), 0) := by
    unfold Oct.put
    rw [if_pos ⟨by decide, by decide, by simpa using hsl⟩]
    show (Oct.le 4 _, _) = _
    rw [le4_eq]
  rw [he] at hp
  have hq : sealB s = s ++ ⟨(Crc.le4 (Crc.sum s.data.toList)).toArray⟩ := rfl
  have cs := fun u => sum_any s hs u
  have hl := le4_length (Crc.sum s.data.toList)
  have hl2 : (⟨(Crc.le4 (Crc.sum s.data.toList)).toArray⟩ : ByteArray).size = 4 := rfl
  generalize Crc.le4 (Crc.sum s.data.toList) = t at *
  generalize Crc.sum s.data.toList = c at *
  have hb : ¬ 9223372036854775807 < s.size + t.length := by omega
  have hb2 : ¬ 9223372036854775807 < s.size + 4 := by omega
  have Hp := Lib.hid hp; clear hp
  have Cs := Lib.hid cs; clear cs
  have Hq := Lib.hid hq; clear hq
  clear he
  go_enter Tryz.func117, Tryz.ntmps117
  go_wp2_with fail
  refine (Cs.out _).mono ?_; rintro e w1 ⟨rfl, h1⟩
  go_wp2_with fail
  refine (Hp.out _).mono ?_; rintro e w2 ⟨rfl, h2⟩
  go_wp2_with fail
  go_ret
  exact ⟨by rw [Hq.out]; rfl, h1.trans (h2.mono h1.size)⟩

end Go.Proofs.YtalklpnekbfehaaGreat
