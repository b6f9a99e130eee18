/- Put together of: GoRangeStop PolPure PolPure2 PolPure3 PolSmall PolProd PolRef PolUp -/
import Derived.Test.YtcmlcpejlmlcfaaGoAll
import Derived.RangeFuncNested
import Derived.RangeFuncBound
import Derived.RangeFuncCalls
import Derived.RangeFuncLeaves
import Derived.Test.YtcmlcpejlmlcfaaRows
import Derived.Test.YtcmlcpejlmlcfaaShelf
import Derived.WalkKit
import Derived.WalkSpells
import Derived.WalkLawsBesides
import Derived.Below
import Derived.Lib.Hide
import Derived.Lib.BitFns
import Derived.BigQuiet
set_option maxRecDepth 100000
/-
  As GoRange, the body going on or leaving the function: a range over a function whose iterator writes memory of its own.
-/
set_option linter.unusedVariables false
namespace Go.Proofs.Ytcmlcpejlmlcfaa
open Go.RowKit

/-- the body has come to its end, or leaves the function, and has let lie whatever is no cells -/
def endsOr (R Rr : World → Prop) (W : World) : Exit → Act → World → Prop
  | .normal, _, W' => KeepsOthers W W' ∧ R W'
  | .ret, _, W' => KeepsOthers W W' ∧ Rr W'
  | _, _, _ => False

variable {F : Fence} {n : Nat} {P : Program}

theorem rangeFunc_stop {α : Type} {g : Operand} {ps : Array Tmp} {assign body : Code} {Q : Exit → Act → World → Prop} {a : Act} {w : World}
    (hro : F.round = none) (h1 : 1 ≤ n) {gf : Nat} {lb : Array Value} (hg : a.eval g = .func (.func gf) #[] lb) (hFg : F.fn gf) (eg : ∀ args w, (callFunc gf args).run P w = .ok (.enter gf args) w)
    (encs : α → Array Value) (hps : ∀ x, (encs x).size = ps.size) (J0 Jend Jstop : World → Prop) (Jin Jout Jret : α → World → Prop) (Jmid : α → Act → World → Prop)
    (sEnd : Stays w.heap.size Jend) (sStop : Stays w.heap.size Jstop) (sOut : ∀ x, Stays w.heap.size (Jout x)) (sRet : ∀ x, Stays w.heap.size (Jret x)) (sMid : ∀ x a₁, Stays w.heap.size (Jmid x a₁)) (h0 : ∀ o o' : Obj, J0 ((w.alloc o).alloc o'))
    (hiter : ∀ (l : Nat) (Book BookS : World → Prop) (W1 : World), (∀ A B, KeepsOthers A B → Book A → Book B) → (∀ A B, KeepsOthers A B → BookS A → BookS B) → w.heap.size ≤ l → Book W1 → J0 W1 →
      (∀ x W, Book W → Jin x W → YieldAt F (n - 1 - 1) P l (encs x) W fun e W' => (e = .returned (.bool true) ∧ Book W' ∧ Jout x W') ∨ (e = .returned (.bool false) ∧ BookS W' ∧ Jret x W')) →
      CallsIn F (n - 1) P gf (#[.func (.yield l) #[] #[]] ++ lb) W1 fun e W' => (∃ v, e = .returned v) ∧ ((Book W' ∧ Jend W') ∨ (BookS W' ∧ Jstop W')))
    (hassign : ∀ (l : Nat) (x : α) (W : World) (K : Act → World → Prop), w.heap.size ≤ l → Jin x W → (∀ a₁ W₁, KeepsOthers W W₁ → Jmid x a₁ W₁ → K a₁ W₁) →
      assign.wpIn (F.inRound l) (n - 1 - 1) P (Exit.then K (fun _ _ _ => False)) { tmps := (ps.zip (encs x)).foldl (fun t (p, v) => t.setIfInBounds p v) a.tmps, defers := [] } W)
    (hbody : ∀ (l : Nat) (x : α) (a₁ : Act) (W : World), w.heap.size ≤ l → Jmid x a₁ W → body.wpIn (F.inRound l) (n - 1 - 1) P (endsOr (Jout x) (Jret x) W) a₁ W)
    (hdone : ∀ (D : Nat) (W : World), w.heap.size ≤ D → Jend W → W.heap[D]? = some (.deferred (some [])) → Q .normal { a with defers := { target := .collected D, args := #[] } :: a.defers } W)
    (hstop : ∀ (D : Nat) (W : World), w.heap.size ≤ D → Jstop W → W.heap[D]? = some (.deferred (some [])) → Code.ret.wpIn F n P Q { a with defers := { target := .collected D, args := #[] } :: a.defers } W) :
    (Code.rangeFunc g ps assign body).wpIn F n P Q a w := by
  refine wpIn_rangeFunc fun fn hfn => ?_
  rw [hro]
  obtain ⟨D, hD⟩ : ∃ D, D = w.heap.size := ⟨_, rfl⟩
  let rc : LoopState → Option Code → Loop := fun st pe => { state := st, pending := pe, fn, tmps := a.tmps, params := ps, assign, body, defers := D }
  let W1 := (w.alloc (.deferred (some []))).alloc (.loop (rc .ready none))
  let Book : World → Prop := fun W => W.heap[D + 1]? = some (.loop (rc .ready none)) ∧ W.heap[D]? = some (.deferred (some []))
  let BookS : World → Prop := fun W => W.heap[D + 1]? = some (.loop (rc .done (some .ret))) ∧ W.heap[D]? = some (.deferred (some []))
  have hbook : Book W1 := by
    refine ⟨?_, ?_⟩
    · have := World.alloc_heap_new (w.alloc (.deferred (some []))) (.loop (rc .ready none))
      rw [World.size_alloc, ← hD] at this
      exact this
    · show ((w.alloc (.deferred (some []))).alloc (.loop (rc .ready none))).heap[D]? = _
      rw [Below.heap_alloc _ _ _ (by simp [hD]), hD]
      exact World.alloc_heap_new w _
  refine ⟨D + 1, [{ target := .collected D, args := #[] }], W1, { target := .fn (.func gf) lb, args := #[.func (.yield (D + 1)) #[] #[]] }, W1, gf,
    #[.func (.yield (D + 1)) #[] #[]] ++ lb, W1, ?_, ?_, ?_, ?_, fun _ => h1, ?_⟩
  · rw [hD]
    have := run_enterLoop_outer (P := P) (w := w) fn a.tmps ps assign body
    rw [← hD] at this ⊢
    exact this
  · simp only [resolve, hg]
    simp [go_sem]
  · intro f' hf'
    simp [Target.leads] at hf'
    subst hf'
    exact hFg
  · simp [invoke, go_sem, eg]
  · refine (hiter (D + 1) Book BookS W1 (fun A B hk hb => ⟨hk.same _ _ hb.1 rfl, hk.same _ _ hb.2 rfl⟩) (fun A B hk hb => ⟨hk.same _ _ hb.1 rfl, hk.same _ _ hb.2 rfl⟩) (by omega) hbook (h0 _ _) ?_).mono ?_
    · rintro x W ⟨hl, hk⟩ hin
      have hlt : D + 1 < W.heap.size := (Array.getElem?_eq_some_iff.1 hl).1
      refine ⟨fn, _, assign, body, run_yield (P := P) (args := encs x) hl (hps x), roundIn_of_wpIn hfn (hassign _ x W _ (by omega) hin fun a₁ W₁ hk1 hm1 => ?_)⟩
      have hl1 := hk1.same _ _ hl rfl
      have hk1' := hk1.same _ _ hk rfl
      have hlt1 : D + 1 < W₁.heap.size := (Array.getElem?_eq_some_iff.1 hl1).1
      refine ⟨_, run_beginRound hl1 rfl, wpIn_mono (hbody _ x a₁ _ (by omega) (sMid x a₁ _ _ _ _ (by omega) hl1 rfl hm1)) ?_⟩
      have hb2 : (W₁.putObj (D + 1) (.loop (rc .busy none))).heap[D + 1]? = some (.loop (rc .busy none)) := World.putObj_heap_same hlt1
      have hd2 : (W₁.putObj (D + 1) (.loop (rc .busy none))).heap[D]? = some (.deferred (some [])) := (World.putObj_heap_other (by omega)).trans hk1'
      rintro e a3 W3 hp
      cases e with
      | normal =>
        obtain ⟨hk3, hj3⟩ := hp
        have hl3 := hk3.same _ _ hb2 rfl
        have hd3 := hk3.same _ _ hd2 rfl
        have hr := run_endRound (P := P) none hl3
        exact ⟨_, _, hr, .inl ⟨rfl, ⟨World.putObj_heap_same (Array.getElem?_eq_some_iff.1 hl3).1, (World.putObj_heap_other (by omega)).trans hd3⟩, sOut x _ _ _ _ (by omega) hl3 rfl hj3⟩⟩
      | ret =>
        obtain ⟨hk3, hj3⟩ := hp
        have hl3 := hk3.same _ _ hb2 rfl
        have hd3 := hk3.same _ _ hd2 rfl
        have hr := run_endRound (P := P) (some .ret) hl3
        exact ⟨_, _, hr, .inr ⟨rfl, ⟨World.putObj_heap_same (Array.getElem?_eq_some_iff.1 hl3).1, (World.putObj_heap_other (by omega)).trans hd3⟩, sRet x _ _ _ _ (by omega) hl3 rfl hj3⟩⟩
      | exit id => exact hp.elim
      | goto t => exact hp.elim
      | panic ch => exact hp.elim
      | outgrown => exact hp.elim
    · rintro e W2 ⟨⟨v, rfl⟩, (⟨⟨hl, hk⟩, hj⟩ | ⟨⟨hl, hk⟩, hj⟩)⟩
      · exact ⟨none, _, run_endLoop (P := P) hl (by simp [rc]), hdone D _ (by omega) (sEnd _ _ _ _ (by omega) hl rfl hj) ((World.putObj_heap_other (by omega)).trans hk)⟩
      · exact ⟨some .ret, _, run_endLoop (P := P) hl (by simp [rc]), hstop D _ (by omega) (sStop _ _ _ _ (by omega) hl rfl hj) ((World.putObj_heap_other (by omega)).trans hk)⟩
end Go.Proofs.Ytcmlcpejlmlcfaa

/-
  Plain mathematics: polynomials over the field of two elements, as natural numbers: sums are exclusive ors; products, and what they keep.
-/
set_option linter.unusedVariables false
namespace Pol

/-- how many bits -/
def len (a : Nat) : Nat := if a = 0 then 0 else a.log2 + 1

theorem len_le (a n : Nat) : len a ≤ n ↔ a < 2 ^ n := by
  unfold len
  by_cases h : a = 0
  · subst h; simp [Nat.pow_pos]
  · rw [if_neg h, Nat.succ_le_iff, Nat.log2_lt h]
theorem lt_len (a n : Nat) : n < len a ↔ 2 ^ n ≤ a := by
  have := len_le a n
  omega
theorem len_zero : len 0 = 0 := rfl
theorem len_one : len 1 = 1 := by decide
theorem len_pos {a : Nat} (h : a ≠ 0) : 0 < len a := by unfold len; rw [if_neg h]; omega
theorem len_eq_zero {a : Nat} (h : len a = 0) : a = 0 := by
  by_cases e : a = 0
  · exact e
  · have := len_pos e; omega
theorem len_eq {a n : Nat} (h1 : 2 ^ n ≤ a) (h2 : a < 2 ^ (n + 1)) : len a = n + 1 := by
  have := (len_le a (n + 1)).2 h2
  have := (lt_len a n).2 h1
  omega
theorem len_xor_le {a b n : Nat} (ha : len a ≤ n) (hb : len b ≤ n) : len (a ^^^ b) ≤ n :=
  (len_le _ _).2 (Nat.xor_lt_two_pow ((len_le _ _).1 ha) ((len_le _ _).1 hb))
theorem xor_back (a b : Nat) : (a ^^^ b) ^^^ b = a := by rw [Nat.xor_assoc, Nat.xor_self, Nat.xor_zero]
theorem xor_back' (a b : Nat) : a ^^^ (a ^^^ b) = b := by rw [← Nat.xor_assoc, Nat.xor_self, Nat.zero_xor]
theorem eq_of_xor {a b : Nat} (h : a ^^^ b = 0) : a = b := by
  have := xor_back a b
  rw [h, Nat.zero_xor] at this
  exact this.symm
theorem len_xor_top {a b : Nat} (h : len b < len a) : len (a ^^^ b) = len a := by
  have h1 : len (a ^^^ b) ≤ len a := len_xor_le (by omega) (by omega)
  by_cases e : len (a ^^^ b) = len a
  · exact e
  · exfalso
    have h2 : len ((a ^^^ b) ^^^ b) ≤ len a - 1 := len_xor_le (by omega) (by omega)
    rw [xor_back] at h2
    omega
theorem top_bit {a n : Nat} (h : len a = n + 1) : a.testBit n = true := by
  have h1 : 2 ^ n ≤ a := (lt_len a n).1 (by omega)
  have h2 : a < 2 ^ (n + 1) := (len_le a _).1 (by omega)
  rw [Nat.testBit_eq_decide_div_mod_eq]
  have : a / 2 ^ n = 1 := by
    rw [Nat.pow_succ] at h2
    exact Nat.div_eq_of_lt_le (by omega) (by omega)
  rw [this]; rfl
theorem len_xor_low {a b : Nat} (h : len b = len a) (h0 : a ≠ 0) : len (a ^^^ b) < len a := by
  have hp := len_pos h0
  obtain ⟨n, hn⟩ : ∃ n, len a = n + 1 := ⟨len a - 1, by omega⟩
  rw [hn, Nat.lt_succ_iff, len_le]
  apply Nat.lt_pow_two_of_testBit
  intro i hi
  rw [Nat.testBit_xor]
  by_cases e : i = n
  · subst e
    rw [top_bit hn, top_bit (h.trans hn)]; rfl
  · have ha : a < 2 ^ i := Nat.lt_of_lt_of_le ((len_le a (n + 1)).1 (by omega)) (Nat.pow_le_pow_right (by decide) (by omega))
    have hb : b < 2 ^ i := Nat.lt_of_lt_of_le ((len_le b (n + 1)).1 (by omega)) (Nat.pow_le_pow_right (by decide) (by omega))
    rw [Nat.testBit_lt_two_pow ha, Nat.testBit_lt_two_pow hb]; rfl
theorem len_pow_mul (a k : Nat) (h : a ≠ 0) : len (a * 2 ^ k) = len a + k := by
  have hp := len_pos h
  obtain ⟨n, hn⟩ : ∃ n, len a = n + 1 := ⟨len a - 1, by omega⟩
  have h1 : 2 ^ n ≤ a := (lt_len a n).1 (by omega)
  have h2 : a < 2 ^ (n + 1) := (len_le a _).1 (by omega)
  rw [hn, show n + 1 + k = (n + k) + 1 by omega]
  refine len_eq ?_ ?_
  · rw [Nat.pow_add]; exact Nat.mul_le_mul_right _ h1
  · rw [show n + k + 1 = (n + 1) + k by omega, Nat.pow_add]; exact Nat.mul_lt_mul_of_pos_right h2 (Nat.pow_pos (by decide))
theorem len_double (a : Nat) (h : a ≠ 0) : len (2 * a) = len a + 1 := by
  have := len_pow_mul a 1 h
  rw [Nat.pow_one, Nat.mul_comm] at this
  exact this
theorem len_half (a : Nat) : len (a / 2) = len a - 1 := by
  by_cases h : a = 0
  · subst h; rfl
  · have hp := len_pos h
    obtain ⟨n, hn⟩ : ∃ n, len a = n + 1 := ⟨len a - 1, by omega⟩
    have h1 : 2 ^ n ≤ a := (lt_len a n).1 (by omega)
    have h2 : a < 2 ^ (n + 1) := (len_le a _).1 (by omega)
    rw [hn, Nat.add_sub_cancel]
    cases n with
    | zero => rw [Nat.pow_zero] at h1; rw [Nat.zero_add, Nat.pow_one] at h2; obtain rfl : a = 1 := by omega
              rfl
    | succ m =>
      refine len_eq ?_ ?_
      · rw [Nat.pow_succ] at h1; omega
      · rw [Nat.pow_succ] at h2; omega

theorem two_xor (a b : Nat) : 2 * (a ^^^ b) = 2 * a ^^^ 2 * b := by
  have := Nat.shiftLeft_xor_distrib (a := a) (b := b) (i := 1)
  simp only [Nat.shiftLeft_eq, Nat.pow_one] at this
  rw [Nat.mul_comm, this, Nat.mul_comm, Nat.mul_comm b]
theorem bit_eq (b : Nat) : (b % 2) ^^^ 2 * (b / 2) = b := by
  apply Nat.eq_of_testBit_eq
  intro i
  rw [Nat.testBit_xor]
  cases i with
  | zero => simp [Nat.testBit_zero]
  | succ i =>
    rw [Nat.testBit_succ, Nat.testBit_succ, Nat.testBit_succ]
    have e1 : b % 2 / 2 = 0 := by omega
    have e2 : 2 * (b / 2) / 2 = b / 2 := by omega
    rw [e1, e2]; simp

/-- the product -/
def mulF : Nat → Nat → Nat → Nat
  | 0, _, _ => 0
  | f + 1, a, b => (if b % 2 = 1 then a else 0) ^^^ 2 * mulF f a (b / 2)
def mul (a b : Nat) : Nat := mulF (len b) a b

theorem mulF_zero (f a : Nat) : mulF f a 0 = 0 := by
  induction f with
  | zero => rfl
  | succ f ih => rw [mulF, Nat.zero_div, ih]; simp
theorem mulF_fuel (f g a b : Nat) (hf : len b ≤ f) (hg : len b ≤ g) : mulF f a b = mulF g a b := by
  induction f generalizing b g with
  | zero =>
    obtain rfl := len_eq_zero (show len b = 0 by omega)
    rw [mulF_zero, mulF_zero]
  | succ f ih =>
    cases g with
    | zero =>
      obtain rfl := len_eq_zero (show len b = 0 by omega)
      rw [mulF_zero, mulF_zero]
    | succ g =>
      have := len_half b
      rw [mulF, mulF, ih g (b / 2) (by omega) (by omega)]
theorem mul_zero (a : Nat) : mul a 0 = 0 := rfl
theorem mul_bit (a b : Nat) : mul a b = (if b % 2 = 1 then a else 0) ^^^ 2 * mul a (b / 2) := by
  by_cases h : b = 0
  · subst h; simp [mul_zero]
  · have hp := len_pos h
    obtain ⟨n, hn⟩ : ∃ n, len b = n + 1 := ⟨len b - 1, by omega⟩
    unfold mul
    rw [hn, mulF, len_half, hn, Nat.add_sub_cancel]
theorem zero_mul (b : Nat) : mul 0 b = 0 := by
  induction b using Nat.div2Induction with
  | ind b ih =>
    by_cases h : b = 0
    · subst h; rfl
    · rw [mul_bit, ih (by omega)]; simp
theorem mul_one (a : Nat) : mul a 1 = a := by rw [mul_bit]; simp [mul_zero]
theorem mul_xor_left (a b c : Nat) : mul (a ^^^ b) c = mul a c ^^^ mul b c := by
  induction c using Nat.div2Induction with
  | ind c ih =>
    by_cases h : c = 0
    · subst h; rw [mul_zero, mul_zero, mul_zero]; rfl
    · rw [mul_bit (a ^^^ b), mul_bit a, mul_bit b, ih (by omega), two_xor]
      generalize 2 * mul a (c / 2) = x
      generalize 2 * mul b (c / 2) = y
      by_cases o : c % 2 = 1
      · rw [if_pos o, if_pos o, if_pos o]; ac_rfl
      · rw [if_neg o, if_neg o, if_neg o, Nat.zero_xor, Nat.zero_xor, Nat.zero_xor]
theorem two_mul_left (a c : Nat) : mul (2 * a) c = 2 * mul a c := by
  induction c using Nat.div2Induction with
  | ind c ih =>
    by_cases h : c = 0
    · subst h; rfl
    · rw [mul_bit (2 * a), mul_bit a, ih (by omega), two_xor]
      by_cases o : c % 2 = 1
      · rw [if_pos o, if_pos o]
      · rw [if_neg o, if_neg o]
theorem one_mul (b : Nat) : mul 1 b = b := by
  induction b using Nat.div2Induction with
  | ind b ih =>
    by_cases h : b = 0
    · subst h; rfl
    · rw [mul_bit, ih (by omega)]
      have := bit_eq b
      by_cases o : b % 2 = 1
      · rw [if_pos o]; rw [o] at this; exact this
      · rw [if_neg o]; rw [show b % 2 = 0 by omega] at this; exact this
theorem mul_comm (a b : Nat) : mul a b = mul b a := by
  induction b using Nat.div2Induction with
  | ind b ih =>
    by_cases h : b = 0
    · subst h; rw [mul_zero, zero_mul]
    · rw [mul_bit a b, ih (by omega)]
      have e := congrArg (fun z => mul z a) (bit_eq b)
      simp only [mul_xor_left, two_mul_left] at e
      rw [← e]
      by_cases o : b % 2 = 1
      · rw [if_pos o, o, one_mul]
      · rw [if_neg o, show b % 2 = 0 by omega, zero_mul]
theorem mul_xor (a b c : Nat) : mul a (b ^^^ c) = mul a b ^^^ mul a c := by
  rw [mul_comm a, mul_xor_left, mul_comm b, mul_comm c]
theorem two_mul (a c : Nat) : mul a (2 * c) = 2 * mul a c := by rw [mul_comm, two_mul_left, mul_comm]
theorem mul_assoc (a b c : Nat) : mul (mul a b) c = mul a (mul b c) := by
  induction c using Nat.div2Induction with
  | ind c ih =>
    by_cases h : c = 0
    · subst h; rfl
    · rw [mul_bit (mul a b) c, ih (by omega), mul_bit b c, mul_xor, two_mul]
      by_cases o : c % 2 = 1
      · rw [if_pos o, if_pos o]
      · rw [if_neg o, if_neg o, mul_zero]
theorem mul_left_comm (a b c : Nat) : mul a (mul b c) = mul b (mul a c) := by
  rw [← mul_assoc, mul_comm a b, mul_assoc]
theorem mul_pow (a k : Nat) : mul a (2 ^ k) = a * 2 ^ k := by
  induction k with
  | zero => rw [Nat.pow_zero, mul_one, Nat.mul_one]
  | succ k ih => rw [Nat.pow_succ, Nat.mul_comm (2 ^ k), two_mul, ih, ← Nat.mul_assoc, ← Nat.mul_assoc, Nat.mul_comm 2]
theorem len_mul {a b : Nat} (ha : a ≠ 0) (hb : b ≠ 0) : mul a b ≠ 0 ∧ len (mul a b) + 1 = len a + len b := by
  induction b using Nat.div2Induction with
  | ind b ih =>
    have hpa := len_pos ha
    have hpb := len_pos hb
    by_cases h : b / 2 = 0
    · obtain rfl : b = 1 := by omega
      rw [mul_one]; exact ⟨ha, rfl⟩
    · obtain ⟨h1, h2⟩ := ih (by omega) h
      have hl := len_half b
      have hp2 := len_pos h
      have h3 := len_double _ h1
      rw [mul_bit]
      have h4 : len (2 * mul a (b / 2) ^^^ (if b % 2 = 1 then a else 0)) = len (2 * mul a (b / 2)) := by
        apply len_xor_top
        split
        · omega
        · rw [len_zero]; omega
      rw [Nat.xor_comm]
      refine ⟨?_, by omega⟩
      intro e
      rw [e, len_zero] at h4
      omega
theorem mul_eq_zero {a b : Nat} (h : mul a b = 0) : a = 0 ∨ b = 0 := by
  by_cases ha : a = 0
  · exact .inl ha
  · by_cases hb : b = 0
    · exact .inr hb
    · exact absurd h (len_mul ha hb).1

/-- what is a multiple -/
def dv (p a : Nat) : Prop := ∃ q, mul p q = a
theorem dv_zero (p : Nat) : dv p 0 := ⟨0, rfl⟩
theorem dv_self (p : Nat) : dv p p := ⟨1, mul_one p⟩
theorem one_dv (a : Nat) : dv 1 a := ⟨a, one_mul a⟩
theorem dv_mul (p a : Nat) : dv p (mul p a) := ⟨a, rfl⟩
theorem dv_mul' (p a : Nat) : dv p (mul a p) := ⟨a, mul_comm p a⟩
theorem dv_xor {p a b : Nat} (ha : dv p a) (hb : dv p b) : dv p (a ^^^ b) := by
  obtain ⟨x, rfl⟩ := ha
  obtain ⟨y, rfl⟩ := hb
  exact ⟨x ^^^ y, mul_xor p x y⟩
theorem dv_times {p a : Nat} (ha : dv p a) (c : Nat) : dv p (mul a c) := by
  obtain ⟨x, rfl⟩ := ha
  exact ⟨mul x c, (mul_assoc p x c).symm⟩
theorem dv_times' {p a : Nat} (ha : dv p a) (c : Nat) : dv p (mul c a) := by rw [mul_comm]; exact dv_times ha c
theorem dv_trans {p a b : Nat} (h1 : dv p a) (h2 : dv a b) : dv p b := by
  obtain ⟨y, rfl⟩ := h2
  exact dv_times h1 y
theorem dv_len {p a : Nat} (h : dv p a) (h0 : a ≠ 0) : len p ≤ len a := by
  obtain ⟨x, rfl⟩ := h
  have hp : p ≠ 0 := fun e => h0 (by rw [e, zero_mul])
  have hx : x ≠ 0 := fun e => h0 (by rw [e, mul_zero])
  have := (len_mul hp hx).2
  have := len_pos hx
  omega
theorem dv_small {p a : Nat} (h : dv p a) (hl : len a < len p) : a = 0 := by
  by_cases e : a = 0
  · exact e
  · have := dv_len h e; omega

/-- what is the same but for a multiple -/
def cg (p a b : Nat) : Prop := dv p (a ^^^ b)
theorem cg_refl (p a : Nat) : cg p a a := by unfold cg; rw [Nat.xor_self]; exact dv_zero p
theorem cg_symm {p a b : Nat} (h : cg p a b) : cg p b a := by unfold cg at *; rw [Nat.xor_comm]; exact h
theorem cg_trans {p a b c : Nat} (h1 : cg p a b) (h2 : cg p b c) : cg p a c := by
  have := dv_xor h1 h2
  rw [Nat.xor_assoc, xor_back'] at this
  exact this
theorem cg_xor {p a b c d : Nat} (h1 : cg p a b) (h2 : cg p c d) : cg p (a ^^^ c) (b ^^^ d) := by
  have := dv_xor h1 h2
  unfold cg
  rw [show (a ^^^ c) ^^^ (b ^^^ d) = (a ^^^ b) ^^^ (c ^^^ d) by ac_rfl]
  exact this
theorem cg_mul {p a b c d : Nat} (h1 : cg p a b) (h2 : cg p c d) : cg p (mul a c) (mul b d) := by
  have e1 : cg p (mul a c) (mul b c) := by
    unfold cg
    rw [← mul_xor_left]
    exact dv_times h1 c
  have e2 : cg p (mul b c) (mul b d) := by
    unfold cg
    rw [← mul_xor]
    exact dv_times' h2 b
  exact cg_trans e1 e2
theorem cg_two {p a b : Nat} (h : cg p a b) : cg p (2 * a) (2 * b) := by
  have := dv_times' h 2
  unfold cg
  rw [← two_xor]
  have e := two_mul_left 1 (a ^^^ b)
  rw [Nat.mul_one, one_mul] at e
  rw [← e]; exact this
theorem cg_dv {p a b : Nat} (h : cg p a b) (hb : dv p b) : dv p a := by
  have := dv_xor h hb
  rw [xor_back] at this
  exact this
theorem cg_of_dv {q p a b : Nat} (hq : dv q p) (h : cg p a b) : cg q a b := dv_trans hq h

/-- the remainder -/
def remF : Nat → Nat → Nat → Nat
  | 0, a, _ => a
  | f + 1, a, p => if len a < len p then a else remF f (a ^^^ p * 2 ^ (len a - len p)) p
def rem (a p : Nat) : Nat := remF (len a) a p

theorem step_len {a p : Nat} (hp : p ≠ 0) (h : len p ≤ len a) : len (a ^^^ p * 2 ^ (len a - len p)) < len a := by
  have h1 := len_pow_mul p (len a - len p) hp
  have hpp := len_pos hp
  exact len_xor_low (by omega) (fun e => by subst e; rw [len_zero] at h; omega)
theorem step_cg (a p k : Nat) : cg p a (a ^^^ p * 2 ^ k) := by
  unfold cg
  rw [xor_back', ← mul_pow]
  exact dv_mul _ _
theorem remF_spec (f a p : Nat) (hp : p ≠ 0) (h : len a ≤ f) : len (remF f a p) < len p ∧ cg p a (remF f a p) := by
  induction f generalizing a with
  | zero =>
    rw [remF]
    exact ⟨by have := len_pos hp; omega, cg_refl p a⟩
  | succ f ih =>
    rw [remF]
    by_cases hl : len a < len p
    · rw [if_pos hl]; exact ⟨hl, cg_refl p a⟩
    · rw [if_neg hl]
      have h1 := step_len hp (show len p ≤ len a by omega)
      obtain ⟨h2, h3⟩ := ih (a ^^^ p * 2 ^ (len a - len p)) (by omega)
      exact ⟨h2, cg_trans (step_cg a p _) h3⟩
theorem rem_len (a : Nat) {p : Nat} (hp : p ≠ 0) : len (rem a p) < len p := (remF_spec _ a p hp (Nat.le_refl _)).1
theorem rem_cg (a : Nat) {p : Nat} (hp : p ≠ 0) : cg p a (rem a p) := (remF_spec _ a p hp (Nat.le_refl _)).2
theorem rem_unique {a p r : Nat} (hl : len r < len p) (h : cg p a r) : rem a p = r := by
  have hp : p ≠ 0 := fun e => by subst e; rw [len_zero] at hl; omega
  have h1 := rem_len a hp
  have h2 : cg p (rem a p) r := cg_trans (cg_symm (rem_cg a hp)) h
  exact eq_of_xor (dv_small h2 (by
    have := @len_xor_le (rem a p) r (len p - 1) (by omega) (by omega)
    omega))
theorem rem_congr {a b p : Nat} (hp : p ≠ 0) (h : cg p a b) : rem a p = rem b p :=
  rem_unique (rem_len b hp) (cg_trans h (rem_cg b hp))
theorem rem_small {a p : Nat} (h : len a < len p) : rem a p = a := rem_unique h (cg_refl p a)
theorem rem_rem (a : Nat) {p : Nat} (hp : p ≠ 0) : rem (rem a p) p = rem a p := rem_small (rem_len a hp)
theorem rem_xor (a b : Nat) {p : Nat} (hp : p ≠ 0) : rem (a ^^^ b) p = rem a p ^^^ rem b p := by
  have ha := rem_len a hp
  have hb := rem_len b hp
  refine rem_unique ?_ (cg_xor (rem_cg a hp) (rem_cg b hp))
  have := @len_xor_le (rem a p) (rem b p) (len p - 1) (by omega) (by omega)
  omega
theorem rem_mul_left (a b : Nat) {p : Nat} (hp : p ≠ 0) : rem (mul (rem a p) b) p = rem (mul a b) p :=
  rem_congr hp (cg_mul (cg_symm (rem_cg a hp)) (cg_refl p b))
theorem rem_mul_right (a b : Nat) {p : Nat} (hp : p ≠ 0) : rem (mul a (rem b p)) p = rem (mul a b) p :=
  rem_congr hp (cg_mul (cg_refl p a) (cg_symm (rem_cg b hp)))
theorem rem_two (a : Nat) {p : Nat} (hp : p ≠ 0) : rem (2 * rem a p) p = rem (2 * a) p :=
  rem_congr hp (cg_two (cg_symm (rem_cg a hp)))
theorem rem_eq_zero {a p : Nat} (hp : p ≠ 0) : rem a p = 0 ↔ dv p a := by
  constructor
  · intro h
    have := rem_cg a hp
    rw [h] at this
    unfold cg at this
    rw [Nat.xor_zero] at this
    exact this
  · intro h
    refine rem_unique (by rw [len_zero]; exact len_pos hp) ?_
    unfold cg
    rw [Nat.xor_zero]; exact h
theorem rem_step (a : Nat) {p : Nat} (hp : p ≠ 0) (k : Nat) : rem (a ^^^ p * 2 ^ k) p = rem a p := (rem_congr hp (step_cg a p k)).symm
theorem rem_lt {a n p : Nat} (hp : p ≠ 0) (h : len p ≤ n) : rem a p < 2 ^ n := (len_le _ _).1 (by have := rem_len a hp; omega)

/-- the greatest that two are multiples of -/
def gcdF : Nat → Nat → Nat → Nat
  | 0, a, _ => a
  | f + 1, a, b => if b = 0 then a else gcdF f b (rem a b)
def gcd (a b : Nat) : Nat := gcdF (len b) a b
theorem gcdF_zero (f a : Nat) : gcdF f a 0 = a := by cases f <;> rfl
theorem gcdF_fuel (f g a b : Nat) (hf : len b ≤ f) (hg : len b ≤ g) : gcdF f a b = gcdF g a b := by
  induction f generalizing a b g with
  | zero =>
    obtain rfl := len_eq_zero (show len b = 0 by omega)
    rw [gcdF_zero, gcdF_zero]
  | succ f ih =>
    by_cases h : b = 0
    · subst h; rw [gcdF_zero, gcdF_zero]
    · have hp := len_pos h
      have hr := rem_len a h
      cases g with
      | zero => omega
      | succ g => rw [gcdF, gcdF, if_neg h, if_neg h, ih g b (rem a b) (by omega) (by omega)]
theorem gcd_zero (a : Nat) : gcd a 0 = a := rfl
theorem gcd_step (a : Nat) {b : Nat} (h : b ≠ 0) : gcd a b = gcd b (rem a b) := by
  have hp := len_pos h
  have hr := rem_len a h
  unfold gcd
  rw [gcdF_fuel (len b) (len b + 1) a b (by omega) (by omega), gcdF, if_neg h]
  exact gcdF_fuel _ _ _ _ (by omega) (by omega)
theorem gcd_ind {M : Nat → Nat → Prop} (h0 : ∀ a, M a 0) (h1 : ∀ a b, b ≠ 0 → M b (rem a b) → M a b) : ∀ (n a b : Nat), len b ≤ n → M a b
  | 0, a, b, h => by obtain rfl := len_eq_zero (show len b = 0 by omega); exact h0 a
  | n + 1, a, b, h => by
    by_cases e : b = 0
    · subst e; exact h0 a
    · have hr := rem_len a e
      exact h1 a b e (gcd_ind h0 h1 n b (rem a b) (by omega))
theorem gcd_dv (a b : Nat) : dv (gcd a b) a ∧ dv (gcd a b) b := by
  refine gcd_ind (M := fun a b => dv (gcd a b) a ∧ dv (gcd a b) b) ?_ ?_ _ a b (Nat.le_refl _)
  · intro a; exact ⟨by rw [gcd_zero]; exact dv_self a, dv_zero _⟩
  · intro a b h ⟨h1, h2⟩
    rw [gcd_step a h]
    exact ⟨cg_dv (cg_of_dv h1 (rem_cg a h)) h2, h1⟩
theorem bezout (a b : Nat) : ∃ u v, gcd a b = mul u a ^^^ mul v b := by
  refine gcd_ind (M := fun a b => ∃ u v, gcd a b = mul u a ^^^ mul v b) ?_ ?_ _ a b (Nat.le_refl _)
  · intro a; exact ⟨1, 0, by rw [gcd_zero, one_mul, mul_zero, Nat.xor_zero]⟩
  · intro a b h ⟨u, v, e⟩
    obtain ⟨c, hc⟩ := rem_cg a h
    rw [gcd_step a h, e]
    refine ⟨v, u ^^^ mul v c, ?_⟩
    have e2 : rem a b = a ^^^ mul b c := by rw [hc, xor_back']
    rw [e2, mul_xor, mul_xor_left, mul_assoc, mul_comm c b]
    ac_rfl
theorem gcd_of_dv {c a b : Nat} (h1 : dv c a) (h2 : dv c b) : dv c (gcd a b) := by
  obtain ⟨u, v, e⟩ := bezout a b
  rw [e]
  exact dv_xor (dv_times' h1 u) (dv_times' h2 v)
end Pol

/-
  Plain mathematics: polynomials that are prime; powers; by a prime the power of 2^d - 1, d the degree, of what is no multiple is 1.
-/
set_option linter.unusedVariables false
namespace Pol

/-- prime: it has no factor but itself and 1 -/
def irr (q : Nat) : Prop := 2 ≤ len q ∧ ∀ a b, mul a b = q → a = 1 ∨ b = 1
theorem irr_ne {q : Nat} (h : irr q) : q ≠ 0 := fun e => by have := h.1; subst e; rw [len_zero] at this; omega
theorem euclid {q a b : Nat} (hq : irr q) (h : dv q (mul a b)) : dv q a ∨ dv q b := by
  obtain ⟨⟨x, hx⟩, h2⟩ := gcd_dv q a
  rcases hq.2 _ _ hx with e | e
  · right
    obtain ⟨u, v, hb⟩ := bezout q a
    rw [e] at hb
    have h3 : b = mul (mul u q) b ^^^ mul v (mul a b) := by
      rw [← mul_assoc, ← mul_xor_left, ← hb, one_mul]
    rw [h3]
    exact dv_xor (dv_times (dv_mul' q u) b) (dv_times' h v)
  · left
    rw [e, mul_one] at hx
    rw [hx] at h2; exact h2

/-- the factors of at most half the degree -/
def tri (p : Nat) : Prop := ∀ q, 2 ≤ q → 2 * (len q - 1) ≤ len p - 1 → rem p q ≠ 0
theorem two_le_len {a : Nat} (h0 : a ≠ 0) (h1 : a ≠ 1) : 2 ≤ len a := by
  have := (lt_len a 1).2 (by omega)
  omega
theorem irr_tri {p : Nat} (h : irr p) : tri p := by
  intro q hq hl e
  obtain ⟨c, hc⟩ := (rem_eq_zero (show q ≠ 0 by omega)).1 e
  rcases h.2 q c hc with e1 | e1
  · omega
  · subst e1
    rw [mul_one] at hc
    subst hc
    have := h.1
    omega
theorem tri_irr {p : Nat} (hp : 2 ≤ len p) (h : tri p) : irr p := by
  refine ⟨hp, fun a b hab => ?_⟩
  by_cases ha : a = 1
  · exact .inl ha
  by_cases hb : b = 1
  · exact .inr hb
  exfalso
  have hp0 : p ≠ 0 := fun e => by subst e; rw [len_zero] at hp; omega
  have ha0 : a ≠ 0 := fun e => hp0 (by rw [← hab, e, zero_mul])
  have hb0 : b ≠ 0 := fun e => hp0 (by rw [← hab, e, mul_zero])
  have hl := (len_mul ha0 hb0).2
  rw [hab] at hl
  by_cases hc : len a ≤ len b
  · exact h a (by omega) (by omega) ((rem_eq_zero ha0).2 ⟨b, hab⟩)
  · exact h b (by omega) (by omega) ((rem_eq_zero hb0).2 ⟨a, by rw [mul_comm]; exact hab⟩)
theorem irr_factor : ∀ (n p : Nat), len p ≤ n → 2 ≤ len p → ∃ q, irr q ∧ dv q p
  | 0, p, h, h2 => by omega
  | n + 1, p, h, h2 => by
    by_cases hp : irr p
    · exact ⟨p, hp, dv_self p⟩
    · have : ∃ a b, mul a b = p ∧ a ≠ 1 ∧ b ≠ 1 := by
        apply Classical.byContradiction
        intro hn
        apply hp
        refine ⟨h2, fun a b hab => ?_⟩
        apply Classical.byContradiction
        intro h3
        exact hn ⟨a, b, hab, fun e => h3 (.inl e), fun e => h3 (.inr e)⟩
      obtain ⟨a, b, hab, ha, hb⟩ := this
      have hp0 : p ≠ 0 := fun e => by subst e; rw [len_zero] at h2; omega
      have ha0 : a ≠ 0 := fun e => hp0 (by rw [← hab, e, zero_mul])
      have hb0 : b ≠ 0 := fun e => hp0 (by rw [← hab, e, mul_zero])
      have hl := (len_mul ha0 hb0).2
      rw [hab] at hl
      have := two_le_len ha0 ha
      have := two_le_len hb0 hb
      obtain ⟨q, h3, h4⟩ := irr_factor n a (by omega) (by omega)
      exact ⟨q, h3, dv_trans h4 ⟨b, hab⟩⟩

/-- powers -/
def pow (a : Nat) : Nat → Nat
  | 0 => 1
  | n + 1 => mul a (pow a n)
theorem pow_add (a m n : Nat) : pow a (m + n) = mul (pow a m) (pow a n) := by
  induction m with
  | zero => rw [Nat.zero_add, pow, one_mul]
  | succ m ih => rw [Nat.succ_add, pow, ih, pow, mul_assoc]
theorem pow_two (n : Nat) : pow 2 n = 2 ^ n := by
  induction n with
  | zero => rfl
  | succ n ih =>
    rw [pow, ih, mul_pow, Nat.pow_succ, Nat.mul_comm]
theorem cg_pow {p a b : Nat} (h : cg p a b) (n : Nat) : cg p (pow a n) (pow b n) := by
  induction n with
  | zero => exact cg_refl p _
  | succ n ih => exact cg_mul h ih

/-- the product of a row -/
def prod : List Nat → Nat
  | [] => 1
  | a :: l => mul a (prod l)
theorem prod_perm {l m : List Nat} (h : l.Perm m) : prod l = prod m := by
  induction h with
  | nil => rfl
  | cons x _ ih => rw [prod, prod, ih]
  | swap x y l => rw [prod, prod, prod, prod, mul_left_comm]
  | trans _ _ h1 h2 => rw [h1, h2]
theorem prod_times (a : Nat) (l : List Nat) : prod (l.map (mul a)) = mul (pow a l.length) (prod l) := by
  induction l with
  | nil => rw [List.map_nil, List.length_nil, pow, prod, mul_one]
  | cons x l ih =>
    rw [List.map_cons, List.length_cons, prod, prod, ih, pow, mul_assoc, mul_assoc, mul_left_comm x]
theorem prod_cg {p : Nat} (f g : Nat → Nat) (l : List Nat) (h : ∀ x ∈ l, cg p (f x) (g x)) : cg p (prod (l.map f)) (prod (l.map g)) := by
  induction l with
  | nil => exact cg_refl p _
  | cons x l ih => exact cg_mul (h x (List.mem_cons_self ..)) (ih fun y hy => h y (List.mem_cons_of_mem _ hy))
theorem euclid_prod {q : Nat} (hq : irr q) (l : List Nat) (h : dv q (prod l)) : ∃ x ∈ l, dv q x := by
  induction l with
  | nil =>
    exfalso
    have h1 := dv_len h (by decide : prod [] ≠ 0)
    have := hq.1
    have : len (prod []) = 1 := by decide
    omega
  | cons x l ih =>
    rcases euclid hq h with h1 | h1
    · exact ⟨x, List.mem_cons_self .., h1⟩
    · obtain ⟨y, hy, h2⟩ := ih h1
      exact ⟨y, List.mem_cons_of_mem _ hy, h2⟩

theorem perm_of {l m : List Nat} (h1 : l.Nodup) (h2 : ∀ x ∈ l, x ∈ m) (h3 : m.length ≤ l.length) : l.Perm m := by
  induction l generalizing m with
  | nil =>
    cases m with
    | nil => exact .refl _
    | cons y m => simp at h3
  | cons x l ih =>
    have hx : x ∈ m := h2 x (List.mem_cons_self ..)
    have hp := List.perm_cons_erase hx
    have hn := List.nodup_cons.1 h1
    have hlen := List.length_erase_of_mem hx
    refine ((ih (m := m.erase x) hn.2 (fun y hy => ?_) ?_).cons x).trans hp.symm
    · exact (List.mem_erase_of_ne (fun e => hn.1 (by rw [← e]; exact hy))).2 (h2 y (List.mem_cons_of_mem _ hy))
    · rw [hlen]; simp at h3; omega

/-- by a prime the power of 2^d - 1 of what is no multiple is 1 -/
theorem fermat {q a : Nat} (hq : irr q) (ha : ¬ dv q a) : cg q (pow a (2 ^ (len q - 1) - 1)) 1 := by
  have hq0 := irr_ne hq
  have hq2 := hq.1
  obtain ⟨k, hk⟩ : ∃ k, len q = k + 1 := ⟨len q - 1, by omega⟩
  rw [hk, Nat.add_sub_cancel]
  obtain ⟨n, hn⟩ : ∃ n, n = 2 ^ k - 1 := ⟨_, rfl⟩
  have hpos : 0 < 2 ^ k := Nat.pow_pos (by decide)
  obtain ⟨L, hL⟩ : ∃ L, L = List.range' 1 n := ⟨_, rfl⟩
  have hmem : ∀ x, x ∈ L ↔ 1 ≤ x ∧ x < 2 ^ k := by
    intro x; rw [hL, List.mem_range'_1]; omega
  have hno : ∀ x ∈ L, ¬ dv q x := by
    intro x hx hd
    have := (hmem x).1 hx
    have := dv_small hd (by have := (len_le x k).2 this.2; omega)
    omega
  have hnd : L.Nodup := by rw [hL]; exact List.nodup_range' (step := 1)
  have hlen : L.length = n := by rw [hL, List.length_range']
  have hp : (L.map fun c => rem (mul a c) q).Perm L := by
    refine perm_of ?_ ?_ (by rw [List.length_map]; exact Nat.le_refl _)
    · show List.Pairwise _ _
      rw [List.pairwise_map]
      refine List.Pairwise.imp_of_mem ?_ hnd
      intro x y hx hy hxy e
      have h1 : cg q (mul a x) (mul a y) := by
        refine cg_trans (rem_cg _ hq0) ?_
        rw [e]
        exact cg_symm (rem_cg _ hq0)
      unfold cg at h1
      rw [← mul_xor] at h1
      rcases euclid hq h1 with h2 | h2
      · exact ha h2
      · have hx' := (len_le x k).2 ((hmem x).1 hx).2
        have hy' := (len_le y k).2 ((hmem y).1 hy).2
        exact hxy (eq_of_xor (dv_small h2 (by have := len_xor_le hx' hy'; omega)))
    · intro y hy
      obtain ⟨x, hx, rfl⟩ := List.mem_map.1 hy
      rw [hmem]
      have h1 := rem_len (mul a x) hq0
      refine ⟨?_, (len_le _ _).1 (by omega)⟩
      by_cases e : rem (mul a x) q = 0
      · exfalso
        rcases euclid hq ((rem_eq_zero hq0).1 e) with h2 | h2
        · exact ha h2
        · exact hno x hx h2
      · omega
  have h1 : cg q (mul (pow a n) (prod L)) (prod L) := by
    have h2 := prod_cg (p := q) (mul a) (fun c => rem (mul a c) q) L (fun x _ => rem_cg _ hq0)
    rw [prod_perm hp, prod_times, hlen] at h2
    exact h2
  have h3 : dv q (mul (pow a n ^^^ 1) (prod L)) := by
    rw [mul_xor_left, one_mul]; exact h1
  rw [← hn]
  rcases euclid hq h3 with h4 | h4
  · exact h4
  · obtain ⟨x, hx, h5⟩ := euclid_prod hq L h4
    exact absurd h5 (hno x hx)
theorem fermat_x {q : Nat} (hq : irr q) : cg q (pow 2 (2 ^ (len q - 1))) 2 := by
  have hpos : 0 < 2 ^ (len q - 1) := Nat.pow_pos (by decide)
  obtain ⟨n, hn⟩ : ∃ n, 2 ^ (len q - 1) = n + 1 := ⟨2 ^ (len q - 1) - 1, by omega⟩
  by_cases h : dv q 2
  · refine dv_xor ?_ h
    rw [hn, pow]
    exact dv_times h _
  · have := fermat hq h
    rw [hn, Nat.add_sub_cancel] at this
    rw [hn, pow]
    have h2 := cg_mul (cg_refl q 2) this
    rw [mul_one] at h2; exact h2

/-- x^(2^i), squared in turn -/
def frob (p : Nat) : Nat → Nat
  | 0 => 2
  | i + 1 => rem (mul (frob p i) (frob p i)) p
theorem frob_cg {p : Nat} (hp : p ≠ 0) (i : Nat) : cg p (frob p i) (pow 2 (2 ^ i)) := by
  induction i with
  | zero => exact cg_refl p _
  | succ i ih =>
    refine cg_trans (cg_symm (rem_cg _ hp)) ?_
    rw [Nat.pow_succ, Nat.mul_two, pow_add]
    exact cg_mul ih ih
theorem frob_len {p : Nat} (hp : 3 ≤ len p) (i : Nat) : len (frob p i) < len p := by
  cases i with
  | zero => show len 2 < len p; rw [show len 2 = 2 by decide]; omega
  | succ i => exact rem_len _ (fun e => by subst e; rw [len_zero] at hp; omega)

/-- what the program asks of a prime -/
def bo (p : Nat) : Prop := ∀ i, 1 ≤ i → i ≤ (len p - 1) / 2 → gcd p (frob p i ^^^ 2) = 1
theorem bo_irr {p : Nat} (hp : 2 ≤ len p) (h : bo p) : irr p := by
  apply Classical.byContradiction
  intro hn
  have hp0 : p ≠ 0 := fun e => by subst e; rw [len_zero] at hp; omega
  have : ∃ a b, mul a b = p ∧ a ≠ 1 ∧ b ≠ 1 ∧ len a ≤ len b := by
    apply Classical.byContradiction
    intro hm
    apply hn
    refine ⟨hp, fun a b hab => ?_⟩
    apply Classical.byContradiction
    intro h3
    by_cases hl : len a ≤ len b
    · exact hm ⟨a, b, hab, fun e => h3 (.inl e), fun e => h3 (.inr e), hl⟩
    · exact hm ⟨b, a, by rw [mul_comm]; exact hab, fun e => h3 (.inr e), fun e => h3 (.inl e), by omega⟩
  obtain ⟨a, b, hab, ha, hb, hl⟩ := this
  have ha0 : a ≠ 0 := fun e => hp0 (by rw [← hab, e, zero_mul])
  have hb0 : b ≠ 0 := fun e => hp0 (by rw [← hab, e, mul_zero])
  have hlm := (len_mul ha0 hb0).2
  rw [hab] at hlm
  have ha2 := two_le_len ha0 ha
  obtain ⟨q, hq, hqa⟩ := irr_factor _ a (Nat.le_refl _) ha2
  have hqp : dv q p := dv_trans hqa ⟨b, hab⟩
  have hql := dv_len hqa ha0
  have hq2 := hq.1
  have h1 := h (len q - 1) (by omega) (by omega)
  have h2 : dv q (frob p (len q - 1) ^^^ 2) := cg_trans (cg_of_dv hqp (frob_cg hp0 _)) (fermat_x hq)
  have h3 := gcd_of_dv hqp h2
  rw [h1] at h3
  have := dv_len h3 (by decide)
  rw [len_one] at this
  omega
/-- the greatest that a prime and another one are multiples of -/
theorem gcd_irr {p a : Nat} (hp : irr p) (ha : ¬ dv p a) : gcd p a = 1 := by
  obtain ⟨⟨c, hc⟩, h2⟩ := gcd_dv p a
  rcases hp.2 _ _ hc with e | e
  · exact e
  · rw [e, mul_one] at hc
    rw [hc] at h2
    exact absurd h2 ha
theorem gcd_irr' {p a : Nat} (hp : irr p) (ha : ¬ dv p a) : gcd a p = 1 := by
  obtain ⟨h2, c, hc⟩ := gcd_dv a p
  rcases hp.2 _ _ hc with e | e
  · exact e
  · rw [e, mul_one] at hc
    rw [hc] at h2
    exact absurd h2 ha
/-- a row of factors of x^(2^i) + x -/
def small (i : Nat) (l : List Nat) : Bool := l.all fun x => x != 0 && decide (len x ≤ i + 1)
theorem irr_bo_of {p i : Nat} (hp : irr p) (l : List Nat) (h1 : prod l = 2 ^ 2 ^ i ^^^ 2) (h2 : small i l = true) (hi : i ≤ (len p - 1) / 2) : gcd p (frob p i ^^^ 2) = 1 := by
  apply gcd_irr hp
  intro hd
  have h3 : cg p (pow 2 (2 ^ i)) 2 := cg_trans (cg_symm (frob_cg (irr_ne hp) i)) hd
  unfold cg at h3
  rw [pow_two, ← h1] at h3
  obtain ⟨x, hx, h4⟩ := euclid_prod hp l h3
  have h5 := List.all_eq_true.1 h2 x hx
  simp at h5
  have h6 := dv_len h4 h5.1
  have := hp.1
  omega
end Pol

/-
  Plain mathematics: which polynomials of a degree up to 16 are prime, as the program finds it: by the factors of x^(2^i) + x, i up to 8.
-/
set_option linter.unusedVariables false
namespace Pol

def fac1 : List Nat := [2, 3]
def fac2 : List Nat := [2, 3, 7]
def fac3 : List Nat := [2, 3, 11, 13]
def fac4 : List Nat := [2, 3, 7, 19, 25, 31]
def fac5 : List Nat := [2, 3, 37, 41, 47, 55, 59, 61]
def fac6 : List Nat := [2, 3, 7, 11, 13, 67, 73, 87, 91, 97, 103, 109, 115, 117]
def fac7 : List Nat := [2, 3, 131, 137, 143, 145, 157, 167, 171, 185, 191, 193, 203, 211, 213, 229, 239, 241, 247, 253]
def fac8 : List Nat := [2, 3, 7, 19, 25, 31, 283, 285, 299, 301, 313, 319, 333, 351, 355, 357, 361, 369, 375, 379, 391, 395, 397, 415, 419, 425, 433, 445, 451, 463, 471, 477, 487, 499, 501, 505]
theorem fac1_prod : prod fac1 = 2 ^ 2 ^ 1 ^^^ 2 := by decide +kernel
theorem fac1_small : small 1 fac1 = true := by decide +kernel
theorem fac2_prod : prod fac2 = 2 ^ 2 ^ 2 ^^^ 2 := by decide +kernel
theorem fac2_small : small 2 fac2 = true := by decide +kernel
theorem fac3_prod : prod fac3 = 2 ^ 2 ^ 3 ^^^ 2 := by decide +kernel
theorem fac3_small : small 3 fac3 = true := by decide +kernel
theorem fac4_prod : prod fac4 = 2 ^ 2 ^ 4 ^^^ 2 := by decide +kernel
theorem fac4_small : small 4 fac4 = true := by decide +kernel
theorem fac5_prod : prod fac5 = 2 ^ 2 ^ 5 ^^^ 2 := by decide +kernel
theorem fac5_small : small 5 fac5 = true := by decide +kernel
theorem fac6_prod : prod fac6 = 2 ^ 2 ^ 6 ^^^ 2 := by decide +kernel
theorem fac6_small : small 6 fac6 = true := by decide +kernel
theorem fac7_prod : prod fac7 = 2 ^ 2 ^ 7 ^^^ 2 := by decide +kernel
theorem fac7_small : small 7 fac7 = true := by decide +kernel
theorem fac8_prod : prod fac8 = 2 ^ 2 ^ 8 ^^^ 2 := by decide +kernel
theorem fac8_small : small 8 fac8 = true := by decide +kernel
theorem irr_bo {p : Nat} (hp : irr p) (hl : len p ≤ 17) : bo p := by
  intro i h1 h2
  have h3 : i = 1 ∨ i = 2 ∨ i = 3 ∨ i = 4 ∨ i = 5 ∨ i = 6 ∨ i = 7 ∨ i = 8 := by omega
  rcases h3 with rfl | rfl | rfl | rfl | rfl | rfl | rfl | rfl
  · exact irr_bo_of hp fac1 fac1_prod fac1_small h2
  · exact irr_bo_of hp fac2 fac2_prod fac2_small h2
  · exact irr_bo_of hp fac3 fac3_prod fac3_small h2
  · exact irr_bo_of hp fac4 fac4_prod fac4_small h2
  · exact irr_bo_of hp fac5 fac5_prod fac5_small h2
  · exact irr_bo_of hp fac6 fac6_prod fac6_small h2
  · exact irr_bo_of hp fac7 fac7_prod fac7_small h2
  · exact irr_bo_of hp fac8 fac8_prod fac8_small h2
/-- the program's answer is the document's -/
theorem bo_tri {p : Nat} (h2 : 2 ≤ len p) (hl : len p ≤ 17) : bo p ↔ tri p :=
  ⟨fun h => irr_tri (bo_irr h2 h), fun h => irr_bo (tri_irr h2 h) hl⟩
end Pol

/-
  What Deg, remainder, modulus, shifted and product return.
-/
set_option linter.unusedVariables false
namespace Go.Proofs.Ytcmlcpejlmlcfaa
open Go.RowKit

theorem bitLenAux_len (f x : Nat) (h : x < 2 ^ f) : Lib.bitLenAux f x = Pol.len x := by
  induction f generalizing x with
  | zero =>
    obtain rfl : x = 0 := by simpa using h
    rfl
  | succ f ih =>
    rw [Lib.bitLenAux]
    by_cases h0 : x = 0
    · subst h0; rfl
    · rw [if_neg h0, ih _ (by rw [Nat.pow_succ] at h; omega), Pol.len_half]
      have := Pol.len_pos h0
      omega
theorem bitLen_len (x : Nat) (h : x < 18446744073709551616) : Lib.bitLen x = Pol.len x := bitLenAux_len 64 x h
theorem len64 {a : Nat} (h : a < 18446744073709551616) : Pol.len a ≤ 64 := (Pol.len_le a 64).2 h
theorem lt64 {a : Nat} (h : Pol.len a ≤ 64) : a < 18446744073709551616 := (Pol.len_le a 64).1 h

theorem deg_any (a : Nat) (ha : a < 18446744073709551616) (w : World) :
    Calls Try.prog 88 #[.int .u64 a] w fun e w' => e = .returned (.int .i64 ((Pol.len a : Int) - 1)) ∧ w = w' := by
  have hl := len64 ha
  have c := fun u => Try.bits_Len64 (a : Int) u (by omega) (by omega)
  rw [Int.toNat_natCast, bitLen_len a ha] at c
  have C := Lib.hid c; clear c
  generalize Pol.len a = n at *
  go_enter Try.func88, Try.ntmps88
  go_wp2_with fail
  refine (C.out _).mono ?_; rintro e w1 ⟨rfl, rfl⟩
  go_wp2_with fail
  go_ret
  exact ⟨rfl, rfl⟩

theorem remainder_any (a p : Nat) (ha : a < 18446744073709551616) (hp : p < 18446744073709551616) (hp0 : p ≠ 0) (w : World) :
    Calls Try.prog 85 #[.int .u64 a, .int .u64 p] w fun e w' => e = .returned (.int .u64 (Pol.rem a p : Nat)) ∧ w = w' := by
  have hlp := len64 hp
  have hpp := Pol.len_pos hp0
  have cp := fun u => deg_any p hp u
  have Cp := Lib.hid cp; clear cp
  obtain ⟨r, hr⟩ : ∃ r, r = Pol.rem a p := ⟨_, rfl⟩
  rw [← hr]
  have Hr := Lib.hid hr; clear hr
  have ca := fun u => deg_any a ha u
  have Ca := Lib.hid ca; clear ca
  have hla := len64 ha
  have Ha := Lib.hid ha; clear ha
  obtain ⟨L, hL⟩ : ∃ L, L = Pol.len p := ⟨_, rfl⟩
  rw [← hL] at Cp hlp hpp
  have HL := Lib.hid hL; clear hL
  have Hp := Lib.hid hp; clear hp
  have Hp0 := Lib.hid hp0; clear hp0
  obtain ⟨la, hl⟩ : ∃ la, la = Pol.len a := ⟨_, rfl⟩
  rw [← hl] at Ca hla
  have Hl := Lib.hid hl; clear hl
  go_enter Try.func85, Try.ntmps85
  go_wp2_with fail
  refine (Ca.out _).mono ?_; rintro e w1 ⟨rfl, rfl⟩
  go_wp2_with fail
  refine (Cp.out _).mono ?_; rintro e w1 ⟨rfl, rfl⟩
  go_wp2_with fail
  go_loop [0, 5] (fun a' d => ∃ x lx : Nat, lx = Pol.len x ∧ lx ≤ 64 ∧ Pol.rem x p = r ∧ a' = .int .u64 (x : Nat) ∧ d = .int .i64 ((lx : Int) - L)) (fun _ d => (intOf d + L + 1).toNat)
  case atStart => exact ⟨a, la, Hl.out, hla, Hr.out.symm, rfl, by go_num⟩
  case round =>
    obtain ⟨x, lx, hx, hlx, hxr, rfl, rfl⟩ := hrel
    by_cases hc : L ≤ lx
    · obtain ⟨k, hk⟩ : ∃ k : Nat, lx = L + k := ⟨lx - L, by omega⟩
      have hd : ((lx : Int) - L) = (k : Int) := by omega
      rw [hd]
      have hst := Pol.step_len Hp0.out (show Pol.len p ≤ Pol.len x by rw [← hx, ← HL.out]; exact hc)
      have hre := Pol.rem_step x Hp0.out (Pol.len x - Pol.len p)
      rw [← hx, ← HL.out, show lx - L = k by omega] at hst hre
      rw [hxr] at hre
      have hp1 := Pol.len_pow_mul p k Hp0.out
      rw [← HL.out] at hp1
      have hx64 : x < 18446744073709551616 := lt64 (by rw [← hx]; exact hlx)
      have hp64 : p * 2 ^ k < 18446744073709551616 := lt64 (by omega)
      have hv := u64_xor_nat x (p * 2 ^ k) hx64 hp64
      have h64' : x ^^^ p * 2 ^ k < 18446744073709551616 := lt64 (by omega)
      have hqe : ((p * 2 ^ k : Nat) : Int) = (p : Int) * 2 ^ k := by rw [Int.natCast_mul, Int.natCast_pow]; rfl
      rw [hqe] at hv
      obtain ⟨x', hx'⟩ : ∃ x', x' = x ^^^ p * 2 ^ k := ⟨_, rfl⟩
      rw [← hx'] at hv hre hst h64'
      have cx := fun u => deg_any x' h64' u
      have Cx := Lib.hid cx; clear cx
      have hw := wrap_u64_in ((p : Int) * 2 ^ k) (by omega) (by omega)
      have hk64 : k ≤ 63 := by omega
      clear hqe
      have hge : decide ((0 : Int) ≤ (k : Int)) = true := decide_eq_true (by omega)
      have Hv := Lib.hid hv; clear hv
      have Hre := Lib.hid hre; clear hre
      have Hst := Lib.hid hst; clear hst
      clear h64' hx64 hp64 hp1 hxr hx' hx hd
      go_wp2_with fail
      rw [Hv.out]
      refine (Cx.out _).mono ?_; rintro e w1 ⟨rfl, rfl⟩
      go_wp2_with fail
      refine (Cp.out _).mono ?_; rintro e w1 ⟨rfl, rfl⟩
      have hst := Hst.out
      go_wp2_with fail
      go_round
      case rel => exact ⟨x', Pol.len x', rfl, by omega, Hre.out, rfl, by go_num⟩
      case measure => simp [intOf]; omega
    · have hge : decide ((0 : Int) ≤ ((lx : Int) - L)) = false := decide_eq_false (by omega)
      have hxs := Pol.rem_small (show Pol.len x < Pol.len p by rw [← hx, ← HL.out]; omega)
      rw [hxr] at hxs
      subst hxs
      go_wp2_with fail
      go_ret
      exact ⟨rfl, rfl⟩

/-- 1 bit to the left -/
theorem shl_one (a : Nat) : a <<< 1 = 2 * a := by rw [Nat.shiftLeft_eq]; omega

theorem modulus_any (p : Nat) (hp : p < 18446744073709551616) (w : World) :
    Calls Try.prog 80 #[.int .u64 p] w fun e w' => e = .returned (.bool (decide (2 ≤ Pol.len p ∧ Pol.len p ≤ 57))) ∧ w = w' := by
  have cp := fun u => deg_any p hp u
  have Cp := Lib.hid cp; clear cp
  have hlp := len64 hp
  have Hp := Lib.hid hp; clear hp
  generalize Pol.len p = L at *
  go_enter Try.func80, Try.ntmps80
  go_wp2_with fail
  refine (Cp.out _).mono ?_; rintro e w1 ⟨rfl, rfl⟩
  by_cases h1 : 2 ≤ L
  · have g1 : decide ((1 : Int) ≤ ((L : Int) - 1)) = true := decide_eq_true (by omega)
    by_cases h2 : L ≤ 57
    · have g2 : decide (((L : Int) - 1) ≤ 56) = true := decide_eq_true (by omega)
      go_wp2_with fail
      go_ret
      exact ⟨by rw [decide_eq_true (⟨h1, h2⟩ : 2 ≤ L ∧ L ≤ 57)]; rfl, rfl⟩
    · have g2 : decide (((L : Int) - 1) ≤ 56) = false := decide_eq_false (by omega)
      go_wp2_with fail
      go_ret
      exact ⟨by rw [decide_eq_false (fun h => h2 h.2 : ¬ (2 ≤ L ∧ L ≤ 57))]; rfl, rfl⟩
  · have g1 : decide ((1 : Int) ≤ ((L : Int) - 1)) = false := decide_eq_false (by omega)
    go_wp2_with fail
    go_ret
    exact ⟨by rw [decide_eq_false (fun h => h1 h.1 : ¬ (2 ≤ L ∧ L ≤ 57))]; rfl, rfl⟩

theorem shifted_any (a p : Nat) (hp : p < 18446744073709551616) (hp0 : p ≠ 0) (ha : 2 * a < 18446744073709551616) (w : World) :
    Calls Try.prog 84 #[.int .u64 a, .int .u64 p] w fun e w' => e = .returned (.int .u64 (Pol.rem (2 * a) p : Nat)) ∧ w = w' := by
  have c := fun u => remainder_any (2 * a) p ha hp hp0 u
  rw [show ((2 * a : Nat) : Int) = (a : Int) * 2 by omega] at c
  have C := Lib.hid c; clear c
  have hwr := wrap_u64_in ((a : Int) * 2) (by omega) (by omega)
  have Hp := Lib.hid hp; clear hp
  have Hp0 := Lib.hid hp0; clear hp0
  have Ha := Lib.hid ha; clear ha
  go_enter Try.func84, Try.ntmps84
  go_wp2_with fail
  refine (C.out _).mono ?_; rintro e w1 ⟨rfl, rfl⟩
  go_wp2_with fail
  go_ret
  exact ⟨rfl, rfl⟩
end Go.Proofs.Ytcmlcpejlmlcfaa

/-
  What product, Mod, Mul and Gcd return.
-/
set_option linter.unusedVariables false
namespace Go.Proofs.Ytcmlcpejlmlcfaa
open Go.RowKit

/-- a bit of a number, as the walk writes it -/
theorem and_one (n : Nat) (h : n < 18446744073709551616) : bits .and .u64 (n : Int) 1 = ((n % 2 : Nat) : Int) := by
  have := u64_and_nat n 1 h (by decide)
  rw [show ((1 : Nat) : Int) = 1 from rfl] at this
  rw [this, Nat.and_one_is_mod]

/-- one step of the product, from above -/
theorem Pol.mul_shift (a b k : Nat) : Pol.mul a (b / 2 ^ k) = (if b / 2 ^ k % 2 = 1 then a else 0) ^^^ 2 * Pol.mul a (b / 2 ^ (k + 1)) := by
  rw [Pol.mul_bit a (b / 2 ^ k), Nat.div_div_eq_div_mul, Nat.pow_succ]
theorem Pol.rem_bit {a p : Nat} (hp : p ≠ 0) (ha : Pol.len a < Pol.len p) (b k : Nat) :
    (b / 2 ^ k % 2 = 1 → Pol.rem (Pol.mul a (b / 2 ^ k)) p = Pol.rem (2 * Pol.rem (Pol.mul a (b / 2 ^ (k + 1))) p) p ^^^ a) ∧
    (¬ b / 2 ^ k % 2 = 1 → Pol.rem (Pol.mul a (b / 2 ^ k)) p = Pol.rem (2 * Pol.rem (Pol.mul a (b / 2 ^ (k + 1))) p) p) := by
  rw [Pol.rem_two _ hp, Pol.mul_shift]
  refine ⟨fun h => ?_, fun h => ?_⟩
  · rw [if_pos h, Pol.rem_xor _ _ hp, Pol.rem_small ha, Nat.xor_comm]
  · rw [if_neg h, Nat.zero_xor]
theorem Pol.div_len (b : Nat) : b / 2 ^ Pol.len b = 0 := Nat.div_eq_of_lt ((Pol.len_le b _).1 (Nat.le_refl _))

theorem product_any (a b p : Nat) (hb : b < 18446744073709551616) (hp2 : 2 ≤ Pol.len p) (hp57 : Pol.len p ≤ 57) (ha : Pol.len a < Pol.len p) (w : World) :
    Calls Try.prog 82 #[.int .u64 a, .int .u64 b, .int .u64 p] w fun e w' => e = .returned (.int .u64 (Pol.rem (Pol.mul a b) p : Nat)) ∧ w = w' := by
  have hp0 : p ≠ 0 := fun e => by subst e; rw [Pol.len_zero] at hp2; omega
  have hp : p < 18446744073709551616 := lt64 (by omega)
  obtain ⟨r, hr⟩ : ∃ r, r = Pol.rem (Pol.mul a b) p := ⟨_, rfl⟩
  rw [← hr]
  have Hr := Lib.hid hr; clear hr
  have ha64 : a < 18446744073709551616 := lt64 (by omega)
  have cb := fun u => deg_any b hb u
  have Cb := Lib.hid cb; clear cb
  have hlb := len64 hb
  have hdl := Pol.div_len b
  have hbit := fun k => Pol.rem_bit hp0 ha b k
  have hsl : ∀ k, Pol.len (Pol.rem (Pol.mul a (b / 2 ^ k)) p) < Pol.len p := fun k => Pol.rem_len _ hp0
  have cs : ∀ x, Pol.len x < Pol.len p → ∀ u, _ := fun x hx u => shifted_any x p hp hp0 (lt64 (by
    by_cases h0 : x = 0
    · subst h0; rw [Nat.mul_zero, Pol.len_zero]; omega
    · rw [Pol.len_double x h0]; omega)) u
  have hrl : ∀ x, Pol.rem x p < 18446744073709551616 := fun x => lt64 (by have := Pol.rem_len x hp0; omega)
  have Hrl := Lib.hid hrl; clear hrl
  have Cs := Lib.hid cs; clear cs
  have Hsl := Lib.hid hsl; clear hsl
  have Hbit := Lib.hid hbit; clear hbit
  have Ha := Lib.hid ha; clear ha
  have Ha64 := Lib.hid ha64; clear ha64
  have Hb := Lib.hid hb; clear hb
  obtain ⟨lb, hl⟩ : ∃ lb, lb = Pol.len b := ⟨_, rfl⟩
  rw [← hl] at Cb hlb hdl
  clear hl hp57 hp2 hp hp0
  have h0 : Pol.rem (Pol.mul a 0) p = 0 := Pol.rem_small (by rw [Pol.mul_zero, Pol.len_zero]; have := Hsl.out 0; omega)
  have h1 : Pol.rem (Pol.mul a (b / 2 ^ lb)) p = 0 := by rw [hdl]; exact h0
  have H1 := Lib.hid h1; clear h1 h0 hdl
  go_enter Try.func82, Try.ntmps82
  go_wp2_with fail
  refine (Cb.out _).mono ?_; rintro e w1 ⟨rfl, rfl⟩
  go_wp2_with fail
  go_loop [7, 8] (fun s i => ∃ k : Nat, k ≤ lb ∧ i = .int .i64 ((k : Int) - 1) ∧ s = .int .u64 (Pol.rem (Pol.mul a (b / 2 ^ k)) p : Nat)) (fun _ i => (intOf i + 1).toNat)
  case atStart => exact ⟨lb, Nat.le_refl _, rfl, by rw [H1.out]; rfl⟩
  case round =>
    obtain ⟨k, hk, rfl, rfl⟩ := hrel
    by_cases hc : k = 0
    · subst hc
      have hge : decide ((0 : Int) ≤ (((0 : Nat) : Int) - 1)) = false := by decide
      have e0 : Pol.rem (Pol.mul a (b / 2 ^ 0)) p = r := by rw [Nat.pow_zero, Nat.div_one]; exact Hr.out.symm
      rw [e0]
      clear e0
      go_wp2_with fail
      go_ret
      exact ⟨rfl, rfl⟩
    · obtain ⟨j, rfl⟩ : ∃ j, k = j + 1 := ⟨k - 1, by omega⟩
      have hd : (((j + 1 : Nat) : Int) - 1) = (j : Int) := by omega
      rw [hd]
      have hge : decide ((0 : Int) ≤ (j : Int)) = true := decide_eq_true (by omega)
      have hs := Hsl.out (j + 1)
      obtain ⟨ho, hz⟩ := Hbit.out j
      have hs64 := Hrl.out (2 * Pol.rem (Pol.mul a (b / 2 ^ (j + 1))) p)
      generalize Pol.rem (Pol.mul a (b / 2 ^ (j + 1))) p = s at *
      have cs := Cs.out s hs
      generalize Pol.rem (2 * s) p = s2 at *
      have CS := Lib.hid cs; clear cs
      have hbk : b / 2 ^ j < 18446744073709551616 := Nat.lt_of_le_of_lt (Nat.div_le_self _ _) Hb.out
      have hba := and_one (b / 2 ^ j) hbk
      have hbe : ((b / 2 ^ j : Nat) : Int) = (b : Int) / 2 ^ j := by rw [Int.natCast_ediv, Int.natCast_pow]; rfl
      rw [hbe] at hba
      have hj64 : j ≤ 63 := by omega
      have hx := u64_xor_nat s2 a hs64 Ha64.out
      clear hbk hbe hs64 hs hd
      by_cases hb1 : b / 2 ^ j % 2 = 1
      · rw [hb1] at hba
        have e := ho hb1
        rw [← e] at hx
        have Hx := Lib.hid hx; clear hx
        clear ho hz hb1 e
        go_wp2_with fail
        refine (CS.out _).mono ?_; rintro e w1 ⟨rfl, rfl⟩
        go_wp2_with fail
        rw [Hx.out]
        go_round
        case rel => exact ⟨j, by omega, by go_num, rfl⟩
        case measure => simp [intOf]
      · rw [show b / 2 ^ j % 2 = 0 by omega] at hba
        have e := hz hb1
        have He := Lib.hid e
        clear ho hz hb1 e hx
        go_wp2_with fail
        refine (CS.out _).mono ?_; rintro e w1 ⟨rfl, rfl⟩
        go_wp2_with fail
        go_round
        case rel => exact ⟨j, by omega, by go_num, by rw [He.out]⟩
        case measure => simp [intOf]

theorem mod_any (a p : Nat) (ha : a < 18446744073709551616) (hp : p < 18446744073709551616) (w : World) :
    (p = 0 → Calls Try.prog 86 #[.int .u64 a, .int .u64 p] w fun e w' => e = .returned (.tuple #[.int .u64 0, .int .i64 2]) ∧ w = w') ∧
    (p ≠ 0 → Calls Try.prog 86 #[.int .u64 a, .int .u64 p] w fun e w' => e = .returned (.tuple #[.int .u64 (Pol.rem a p : Nat), .int .i64 0]) ∧ w = w') := by
  refine ⟨fun h => ?_, fun h => ?_⟩
  · subst h
    go_enter Try.func86, Try.ntmps86
    go_wp2_with fail
    go_ret2
    exact ⟨rfl, rfl⟩
  · have c := fun u => remainder_any a p ha hp h u
    have C := Lib.hid c; clear c
    have hd : decide (p = 0) = false := decide_eq_false h
    have Ha := Lib.hid ha; clear ha
    have Hp := Lib.hid hp; clear hp
    generalize Pol.rem a p = r at *
    go_enter Try.func86, Try.ntmps86
    go_wp2_with fail
    refine (C.out _).mono ?_; rintro e w1 ⟨rfl, rfl⟩
    go_wp2_with fail
    go_ret2
    exact ⟨rfl, rfl⟩

/-- may products be taken by it -/
def Pol.may (p : Nat) : Prop := 2 ≤ Pol.len p ∧ Pol.len p ≤ 57
instance (p : Nat) : Decidable (Pol.may p) := by unfold Pol.may; infer_instance
theorem mul_any (a b p : Nat) (ha : a < 18446744073709551616) (hb : b < 18446744073709551616) (hp : p < 18446744073709551616) (w : World) :
    (¬ Pol.may p → Calls Try.prog 73 #[.int .u64 a, .int .u64 b, .int .u64 p] w fun e w' => e = .returned (.tuple #[.int .u64 0, .int .i64 2]) ∧ w = w') ∧
    (Pol.may p → Calls Try.prog 73 #[.int .u64 a, .int .u64 b, .int .u64 p] w fun e w' => e = .returned (.tuple #[.int .u64 (Pol.rem (Pol.mul a b) p : Nat), .int .i64 0]) ∧ w = w') := by
  have cm := fun u => modulus_any p hp u
  refine ⟨fun h => ?_, fun h => ?_⟩
  · rw [decide_eq_false (show ¬ (2 ≤ Pol.len p ∧ Pol.len p ≤ 57) from h)] at cm
    have Cm := Lib.hid cm; clear cm
    clear ha hb hp h
    go_enter Try.func73, Try.ntmps73
    go_wp2_with fail
    refine (Cm.out _).mono ?_; rintro e w1 ⟨rfl, rfl⟩
    go_wp2_with fail
    go_ret2
    exact ⟨rfl, rfl⟩
  · rw [decide_eq_true (show 2 ≤ Pol.len p ∧ Pol.len p ≤ 57 from h)] at cm
    have Cm := Lib.hid cm; clear cm
    have hp0 : p ≠ 0 := fun e => by have := h.1; subst e; rw [Pol.len_zero] at this; omega
    have cr := fun u => remainder_any a p ha hp hp0 u
    have Cr := Lib.hid cr; clear cr
    have cp := fun u => product_any (Pol.rem a p) b p hb h.1 h.2 (Pol.rem_len a hp0) u
    rw [Pol.rem_mul_left a b hp0] at cp
    have Cp := Lib.hid cp; clear cp
    generalize Pol.rem (Pol.mul a b) p = r at *
    generalize Pol.rem a p = q at *
    clear ha hb hp h hp0
    go_enter Try.func73, Try.ntmps73
    go_wp2_with fail
    refine (Cm.out _).mono ?_; rintro e w1 ⟨rfl, rfl⟩
    go_wp2_with fail
    refine (Cr.out _).mono ?_; rintro e w1 ⟨rfl, rfl⟩
    go_wp2_with fail
    refine (Cp.out _).mono ?_; rintro e w1 ⟨rfl, rfl⟩
    go_wp2_with fail
    go_ret2
    exact ⟨rfl, rfl⟩

/-- powers of x, one by one -/
theorem Pol.pow_step (k : Nat) {p : Nat} (hp : p ≠ 0) : Pol.rem (2 * Pol.rem (2 ^ k) p) p = Pol.rem (2 ^ (k + 1)) p := by
  rw [Pol.rem_two _ hp, Nat.pow_succ, Nat.mul_comm]
end Go.Proofs.Ytcmlcpejlmlcfaa

/-
  What the document's Deg, rest, May, Mod, Mul and Gcd return.
-/
set_option linter.unusedVariables false
namespace Go.Proofs.Ytcmlcpejlmlcfaa
open Go.RowKit

theorem Pol.len_mod (a k : Nat) : (a / 2 ^ k % 2 = 1 → Pol.len (a % 2 ^ (k + 1)) = k + 1) ∧ (¬ a / 2 ^ k % 2 = 1 → Pol.len (a % 2 ^ (k + 1)) = Pol.len (a % 2 ^ k)) := by
  have hp : 0 < 2 ^ k := Nat.pow_pos (by decide)
  have h1 : a % 2 ^ (k + 1) = a % 2 ^ k + 2 ^ k * (a / 2 ^ k % 2) := by rw [Nat.pow_succ, Nat.mod_mul]
  have h2 := Nat.mod_lt a hp
  refine ⟨fun h => ?_, fun h => ?_⟩
  · rw [h, Nat.mul_one] at h1
    rw [h1]
    refine Pol.len_eq (Nat.le_add_left _ _) ?_
    rw [Nat.pow_succ]; omega
  · rw [show a / 2 ^ k % 2 = 0 by omega, Nat.mul_zero] at h1
    rw [h1, Nat.add_zero]
/-- a bit, as the walk writes it -/
theorem bit_tmod (a k : Nat) : ((a : Int) / 2 ^ k).tmod 2 = ((a / 2 ^ k % 2 : Nat) : Int) := by
  have hbe : ((a / 2 ^ k : Nat) : Int) = (a : Int) / 2 ^ k := by rw [Int.natCast_ediv, Int.natCast_pow]; rfl
  rw [← hbe, Int.tmod_eq_emod_of_nonneg (Int.natCast_nonneg _)]
  omega

theorem refDeg_any (a : Nat) (ha : a < 18446744073709551616) (w : World) :
    Calls Try.prog 51 #[.int .u64 a] w fun e w' => e = .returned (.int .i64 ((Pol.len a : Int) - 1)) ∧ w = w' := by
  have hm := fun k => Pol.len_mod a k
  have he : a % 2 ^ 64 = a := Nat.mod_eq_of_lt ha
  have h0 : Pol.len (a % 2 ^ 0) = 0 := by rw [Nat.pow_zero, Nat.mod_one]; rfl
  have Hm := Lib.hid hm; clear hm
  have He := Lib.hid he; clear he
  have H0 := Lib.hid h0; clear h0
  have Ha := Lib.hid ha; clear ha
  obtain ⟨n, hn⟩ : ∃ n, n = Pol.len a := ⟨_, rfl⟩
  rw [← hn]
  have Hn := Lib.hid hn; clear hn
  go_enter Try.func51, Try.ntmps51
  go_wp2_with fail
  go_loop [3, 4] (fun d i => ∃ k : Nat, k ≤ 64 ∧ i = .int .i64 (k : Int) ∧ d = .int .i64 ((Pol.len (a % 2 ^ k) : Int) - 1)) (fun _ i => 64 - (intOf i).toNat)
  case atStart => exact ⟨0, by omega, rfl, by rw [H0.out]; rfl⟩
  case round =>
    obtain ⟨k, hk, rfl, rfl⟩ := hrel
    by_cases hc : k = 64
    · subst hc
      rw [He.out, ← Hn.out]
      rw [show ((64 : Nat) : Int) = 64 from rfl]
      go_wp2_with fail
      go_ret
      exact ⟨rfl, rfl⟩
    · have hge : decide ((k : Int) < 64) = true := decide_eq_true (by omega)
      obtain ⟨h1, h2⟩ := Hm.out k
      have hbi := bit_tmod a k
      by_cases hb1 : a / 2 ^ k % 2 = 1
      · rw [hb1, show ((1 : Nat) : Int) = 1 from rfl] at hbi
        have hz := h1 hb1
        have Hz := Lib.hid hz
        clear h1 h2 hb1 hz
        go_wp2_with fail
        go_round
        case rel => exact ⟨k + 1, by omega, by go_num, by rw [Hz.out]; go_num⟩
        case measure => simp [intOf]; omega
      · rw [show a / 2 ^ k % 2 = 0 by omega, show ((0 : Nat) : Int) = 0 from rfl] at hbi
        have hz := h2 hb1
        have Hz := Lib.hid hz
        clear h1 h2 hb1 hz
        go_wp2_with fail
        go_round
        case rel => exact ⟨k + 1, by omega, by go_num, by rw [Hz.out]⟩
        case measure => simp [intOf]; omega

theorem rest_any (a p : Nat) (ha : a < 18446744073709551616) (hp : p < 18446744073709551616) (hp0 : p ≠ 0) (w : World) :
    Calls Try.prog 87 #[.int .u64 a, .int .u64 p] w fun e w' => e = .returned (.int .u64 (Pol.rem a p : Nat)) ∧ w = w' := by
  have hlp := len64 hp
  have hpp := Pol.len_pos hp0
  have cp := fun u => refDeg_any p hp u
  obtain ⟨d, hd⟩ : ∃ d, Pol.len p = d + 1 := ⟨Pol.len p - 1, by omega⟩
  rw [hd, show ((d + 1 : Nat) : Int) - 1 = (d : Int) by omega] at cp
  have Cp := Lib.hid cp; clear cp
  obtain ⟨r, hr⟩ : ∃ r, r = Pol.rem a p := ⟨_, rfl⟩
  rw [← hr]
  have Hr := Lib.hid hr; clear hr
  have Hla := Lib.hid (len64 ha)
  clear ha
  rw [hd] at hlp
  have Hd := Lib.hid hd; clear hd
  have Hp0 := Lib.hid hp0; clear hp0
  have Hp := Lib.hid hp; clear hp
  clear hpp
  go_enter Try.func87, Try.ntmps87
  go_wp2_with fail
  refine (Cp.out _).mono ?_; rintro e w1 ⟨rfl, rfl⟩
  go_wp2_with fail
  go_loop [0, 6] (fun a' i => ∃ x j : Nat, j ≤ 64 ∧ d ≤ j ∧ Pol.len x ≤ j ∧ Pol.rem x p = r ∧ a' = .int .u64 (x : Nat) ∧ i = .int .i64 ((j : Int) - 1)) (fun _ i => (intOf i + 1).toNat)
  case atStart => exact ⟨a, 64, by omega, by omega, Hla.out, Hr.out.symm, rfl, by go_num⟩
  case round =>
    obtain ⟨x, j, hj, hdj, hx, hxr, rfl, rfl⟩ := hrel
    by_cases hc : j = d
    · subst hc
      have hge : decide ((j : Int) ≤ ((j : Int) - 1)) = false := decide_eq_false (by omega)
      have hxs := Pol.rem_small (show Pol.len x < Pol.len p by rw [Hd.out]; omega)
      rw [hxr] at hxs
      subst hxs
      clear hx
      go_wp2_with fail
      go_ret
      exact ⟨rfl, rfl⟩
    · obtain ⟨i, rfl⟩ : ∃ i, j = i + 1 := ⟨j - 1, by omega⟩
      have hi : (((i + 1 : Nat) : Int) - 1) = (i : Int) := by omega
      rw [hi]
      have hdi : d ≤ i := by omega
      have hge : decide ((d : Int) ≤ (i : Int)) = true := decide_eq_true (by omega)
      have hbi := bit_tmod x i
      have hx64 : x < 18446744073709551616 := lt64 (by omega)
      by_cases hb1 : x / 2 ^ i % 2 = 1
      · rw [hb1, show ((1 : Nat) : Int) = 1 from rfl] at hbi
        have hlx : Pol.len x = i + 1 := by
          by_cases e : Pol.len x ≤ i
          · rw [Nat.div_eq_of_lt ((Pol.len_le x i).1 e)] at hb1; omega
          · omega
        obtain ⟨k, hk⟩ : ∃ k : Nat, i = d + k := ⟨i - d, by omega⟩
        have hst := Pol.step_len Hp0.out (show Pol.len p ≤ Pol.len x by rw [Hd.out, hlx]; omega)
        have hre := Pol.rem_step x Hp0.out (Pol.len x - Pol.len p)
        rw [hlx, Hd.out, show i + 1 - (d + 1) = k by omega] at hst hre
        rw [hxr] at hre
        have hp1 := Pol.len_pow_mul p k Hp0.out
        rw [Hd.out] at hp1
        have hp64 : p * 2 ^ k < 18446744073709551616 := lt64 (by omega)
        have hv := u64_xor_nat x (p * 2 ^ k) hx64 hp64
        have hqe : ((p * 2 ^ k : Nat) : Int) = (p : Int) * 2 ^ k := by rw [Int.natCast_mul, Int.natCast_pow]; rfl
        rw [hqe] at hv
        obtain ⟨x', hx'⟩ : ∃ x', x' = x ^^^ p * 2 ^ k := ⟨_, rfl⟩
        rw [← hx'] at hv hre hst
        have hw := wrap_u64_in ((p : Int) * 2 ^ k) (by omega) (by omega)
        have hdk : ((i : Int) - (d : Int)) = (k : Int) := by omega
        have hdk' : IntKind.i64.wrap ((i : Int) - (d : Int)) = (k : Int) := by rw [hdk]; exact IntWalk.i64_in _ (by omega)
        have hk63 : k ≤ 63 := by omega
        clear hqe hp64 hp1 hx64 hx' hi hlx hb1
        have Hv := Lib.hid hv; clear hv
        have Hre := Lib.hid hre; clear hre
        have Hst := Lib.hid hst; clear hst
        have Hk := Lib.hid hk; clear hk
        clear hxr hx
        go_wp2_with fail
        rw [Hv.out]
        have hst := Hst.out
        go_round
        case rel => exact ⟨x', i, by omega, by omega, by omega, Hre.out, rfl, by go_num⟩
        case measure => simp [intOf]
      · rw [show x / 2 ^ i % 2 = 0 by omega, show ((0 : Nat) : Int) = 0 from rfl] at hbi
        have hlx : Pol.len x ≤ i := by
          by_cases e : Pol.len x = i + 1
          · exfalso
            have h1 : 2 ^ i ≤ x := (Pol.lt_len x i).1 (by omega)
            have h2 : x < 2 ^ (i + 1) := (Pol.len_le x _).1 (by omega)
            rw [Nat.pow_succ] at h2
            have : x / 2 ^ i = 1 := Nat.div_eq_of_lt_le (by omega) (by omega)
            omega
          · omega
        have Hlx := Lib.hid hlx; clear hlx
        have Hxr := Lib.hid hxr; clear hxr
        clear hb1 hx hx64 hi
        go_wp2_with fail
        go_round
        case rel => exact ⟨x, i, by omega, by omega, Hlx.out, Hxr.out, rfl, by go_num⟩
        case measure => simp [intOf]

theorem refMod_any (a p : Nat) (ha : a < 18446744073709551616) (hp : p < 18446744073709551616) (w : World) :
    (p = 0 → Calls Try.prog 78 #[.int .u64 a, .int .u64 p] w fun e w' => e = .returned (.tuple #[.int .u64 0, .int .i64 2]) ∧ w = w') ∧
    (p ≠ 0 → Calls Try.prog 78 #[.int .u64 a, .int .u64 p] w fun e w' => e = .returned (.tuple #[.int .u64 (Pol.rem a p : Nat), .int .i64 0]) ∧ w = w') := by
  refine ⟨fun h => ?_, fun h => ?_⟩
  · subst h
    go_enter Try.func78, Try.ntmps78
    go_wp2_with fail
    go_ret2
    exact ⟨rfl, rfl⟩
  · have c := fun u => rest_any a p ha hp h u
    have C := Lib.hid c; clear c
    have hd : decide (p = 0) = false := decide_eq_false h
    have Ha := Lib.hid ha; clear ha
    have Hp := Lib.hid hp; clear hp
    generalize Pol.rem a p = r at *
    go_enter Try.func78, Try.ntmps78
    go_wp2_with fail
    refine (C.out _).mono ?_; rintro e w1 ⟨rfl, rfl⟩
    go_wp2_with fail
    go_ret2
    exact ⟨rfl, rfl⟩

end Go.Proofs.Ytcmlcpejlmlcfaa

/-
  What Up returns: a power of x, by squares.
-/
set_option linter.unusedVariables false
namespace Go.Proofs.Ytcmlcpejlmlcfaa
open Go.RowKit

/-- a cell of the call's own -/
structure Num (B : Nat) (v : Nat) (w : World) : Prop where
  cell : w.cell? ⟨B, 0, none⟩ = some (.int .u64 (v : Int))
  free : w.frozen? ⟨B, 0, none⟩ = false
theorem Num.of_block {B v : Nat} {w w' : World} (h : Num B v w) (e : w'.heap[B]? = w.heap[B]?) : Num B v w' :=
  ⟨by rw [World.cell?_of_block (w := w) e]; exact h.cell, by rw [World.frozen?_of_block (w := w) e]; exact h.free⟩
theorem Num.set {B v : Nat} {w : World} (h : Num B v w) (u : Nat) : Num B u (w.setCell ⟨B, 0, none⟩ (.int .u64 (u : Int))) :=
  ⟨World.cell?_setCell_same _ _ _ h.cell, by rw [World.frozen?_setCell]; exact h.free⟩
theorem Num.other {B C v : Nat} {w : World} (h : Num B v w) (hne : B ≠ C) (u : Value) : Num B v (w.setCell ⟨C, 0, none⟩ u) :=
  h.of_block (Below.heap_setCell _ _ _ _ hne)
theorem Num.new (w : World) (v : Nat) (T : TypeId) : Num w.heap.size v (w.alloc (.cells #[.int .u64 (v : Int)] T)) :=
  ⟨by rw [World.cell?_alloc_new]; rfl, World.frozen?_alloc_new w _ T 0⟩

theorem square_any (x p B C : Nat) (hp2 : 2 ≤ Pol.len p) (hp57 : Pol.len p ≤ 57) (hx : Pol.len x < Pol.len p) (w : World)
    (hB : Num B x w) (hC : Num C p w) :
    Calls Try.prog 81 #[.pointer (some ⟨B, 0, none⟩), .pointer (some ⟨C, 0, none⟩)] w fun e w' => e = .returned (.tuple #[]) ∧ w' = w.setCell ⟨B, 0, none⟩ (.int .u64 (Pol.rem (Pol.mul x x) p : Nat)) := by
  have c := fun u => product_any x x p (lt64 (by omega)) hp2 hp57 hx u
  have C := Lib.hid c; clear c
  obtain ⟨c1, f1⟩ := hB
  obtain ⟨c2, f2⟩ := hC
  generalize Pol.rem (Pol.mul x x) p = r at *
  clear hx hp2 hp57
  go_enter Try.func81, Try.ntmps81
  go_wp2_with fail
  refine (C.out _).mono ?_; rintro e w1 ⟨rfl, rfl⟩
  go_wp2_with fail
  go_end0
  exact ⟨rfl, rfl⟩

theorem and_i64_nat (a b : Nat) (ha : a < 9223372036854775808) (hb : b < 9223372036854775808) : bits .and .i64 (a : Int) (b : Int) = ((a &&& b : Nat) : Int) := by
  have hx : a &&& b < 2 ^ 63 := Nat.and_lt_two_pow _ (by omega)
  have ea : (BitVec.ofInt 64 (a : Int)).toNat = a := by simp; omega
  have eb : (BitVec.ofInt 64 (b : Int)).toNat = b := by simp; omega
  show IntKind.i64.wrap ((BitVec.ofInt 64 (a : Int) &&& BitVec.ofInt 64 (b : Int)).toNat : Int) = _
  rw [BitVec.toNat_and, ea, eb]
  exact IntWalk.i64_in _ (by omega)
theorem and_one_i64 (N j : Nat) (h : N < 9223372036854775808) : bits .and .i64 ((N : Int) / 2 ^ j) 1 = ((N / 2 ^ j % 2 : Nat) : Int) := by
  have hbe : ((N / 2 ^ j : Nat) : Int) = (N : Int) / 2 ^ j := by rw [Int.natCast_ediv, Int.natCast_pow]; rfl
  have := and_i64_nat (N / 2 ^ j) 1 (Nat.lt_of_le_of_lt (Nat.div_le_self _ _) h) (by decide)
  rw [show ((1 : Nat) : Int) = 1 from rfl] at this
  rw [← hbe, this, Nat.and_one_is_mod]
theorem Pol.up_step (N j : Nat) {p : Nat} (hp : p ≠ 0) :
    (N / 2 ^ j % 2 = 1 → Pol.rem (2 * Pol.rem (Pol.mul (Pol.rem (2 ^ (N / 2 ^ (j + 1))) p) (Pol.rem (2 ^ (N / 2 ^ (j + 1))) p)) p) p = Pol.rem (2 ^ (N / 2 ^ j)) p) ∧
    (¬ N / 2 ^ j % 2 = 1 → Pol.rem (Pol.mul (Pol.rem (2 ^ (N / 2 ^ (j + 1))) p) (Pol.rem (2 ^ (N / 2 ^ (j + 1))) p)) p = Pol.rem (2 ^ (N / 2 ^ j)) p) := by
  have e : N / 2 ^ (j + 1) = N / 2 ^ j / 2 := by rw [Nat.pow_succ, Nat.div_div_eq_div_mul]
  rw [Pol.rem_mul_left _ _ hp, Pol.rem_mul_right _ _ hp, Pol.mul_pow, ← Nat.pow_add, e]
  generalize N / 2 ^ j = m
  refine ⟨fun h => ?_, fun h => ?_⟩
  · rw [Pol.pow_step _ hp]; congr 2; omega
  · congr 2; omega
theorem up_any (n : Int) (p : Nat) (hp : p < 18446744073709551616) (hn : n < 9223372036854775807) (w : World) :
    (¬ (0 ≤ n ∧ Pol.may p) → Calls Try.prog 71 #[.int .i64 n, .int .u64 p] w fun e w' => e = .returned (.tuple #[.int .u64 0, .int .i64 2]) ∧ Below w.heap.size w w') ∧
    (0 ≤ n ∧ Pol.may p → Calls Try.prog 71 #[.int .i64 n, .int .u64 p] w fun e w' => e = .returned (.tuple #[.int .u64 (Pol.rem (2 ^ n.toNat) p : Nat), .int .i64 0]) ∧ Below w.heap.size w w') := by
  have cm := fun u => modulus_any p hp u
  refine ⟨fun h => ?_, fun ⟨h0, h⟩ => ?_⟩
  · by_cases h0 : n < 0
    · have g : decide (n < 0) = true := decide_eq_true h0
      clear cm hp hn h
      go_enter Try.func71, Try.ntmps71
      go_wp2_with fail
      go_ret2
      exact ⟨rfl, (Below.refl _ _).alloc (Nat.le_refl _) _⟩
    · have g : decide (n < 0) = false := decide_eq_false h0
      rw [decide_eq_false (show ¬ (2 ≤ Pol.len p ∧ Pol.len p ≤ 57) from fun c => h ⟨by omega, c⟩)] at cm
      have Cm := Lib.hid cm; clear cm
      clear hp hn h
      go_enter Try.func71, Try.ntmps71
      go_wp2_with fail
      refine (Cm.out _).mono ?_; rintro e w1 ⟨rfl, rfl⟩
      go_wp2_with fail
      go_ret2
      exact ⟨rfl, (Below.refl _ _).alloc (Nat.le_refl _) _⟩
  · have g : decide (n < 0) = false := decide_eq_false (by omega)
    rw [decide_eq_true (show 2 ≤ Pol.len p ∧ Pol.len p ≤ 57 from h)] at cm
    have Cm := Lib.hid cm; clear cm
    obtain ⟨N, rfl⟩ : ∃ N : Nat, n = (N : Int) := ⟨n.toNat, by omega⟩
    rw [Int.toNat_natCast]
    obtain ⟨R, hR⟩ : ∃ R, R = Pol.rem (2 ^ N) p := ⟨_, rfl⟩
    rw [← hR]
    have HR := Lib.hid hR; clear hR
    have hN64 : N < 18446744073709551616 := by omega
    have cl := fun u => Try.bits_Len (N : Int) u (by omega) (by omega)
    rw [Int.toNat_natCast, bitLen_len N hN64] at cl
    have Cl := Lib.hid cl; clear cl
    have hll := len64 hN64
    have hp2 := h.1
    have hp57 := h.2
    clear h
    have hp0 : p ≠ 0 := fun e => by subst e; rw [Pol.len_zero] at hp2; omega
    have hst := fun j => Pol.up_step N j hp0
    have Hst := Lib.hid hst; clear hst
    have hsl : ∀ k, Pol.len (Pol.rem (2 ^ k) p) < Pol.len p := fun k => Pol.rem_len _ hp0
    have Hsl := Lib.hid hsl; clear hsl
    have hrl : ∀ x, Pol.len (Pol.rem x p) < Pol.len p := fun k => Pol.rem_len _ hp0
    have Hrl := Lib.hid hrl; clear hrl
    have csq := fun x B C hx u => square_any x p B C hp2 hp57 hx u
    have Csq := Lib.hid csq; clear csq
    have cs : ∀ x, Pol.len x < Pol.len p → ∀ u, _ := fun x hx u => shifted_any x p hp hp0 (lt64 (by
      by_cases h0 : x = 0
      · subst h0; rw [Nat.mul_zero, Pol.len_zero]; omega
      · rw [Pol.len_double x h0]; omega)) u
    have Cs := Lib.hid cs; clear cs
    have hand := fun j => and_one_i64 N j (by omega)
    have Hand := Lib.hid hand; clear hand
    have h1 : Pol.rem (2 ^ (N / 2 ^ Pol.len N)) p = 1 := by
      rw [Pol.div_len, Nat.pow_zero]
      exact Pol.rem_small (by rw [Pol.len_one]; omega)
    have H1 := Lib.hid h1; clear h1
    obtain ⟨lN, hlN⟩ : ∃ lN, lN = Pol.len N := ⟨_, rfl⟩
    rw [← hlN] at H1 Cl hll
    clear hlN hp57 hp2 hp0 hp
    go_enter Try.func71, Try.ntmps71
    go_wp2_with fail
    refine (Cm.out _).mono ?_; rintro e w1 ⟨rfl, rfl⟩
    go_wp2_with fail
    refine (Cl.out _).mono ?_; rintro e w1 ⟨rfl, rfl⟩
    go_wp2_with fail
    go_loopw [8] (fun i wr => ∃ k : Nat, k ≤ lN ∧ i = .int .i64 ((k : Int) - 1) ∧ Num (w.heap.size + 1) (Pol.rem (2 ^ (N / 2 ^ k)) p) wr ∧ Num w.heap.size p wr ∧ Below w.heap.size w wr) (fun i _ => (intOf i + 1).toNat)
    case atStart =>
      refine ⟨lN, Nat.le_refl _, rfl, ?_, ?_, ?_⟩
      · rw [H1.out]
        have := Num.new (w.alloc (.cells #[.int .u64 (p : Int)] 36)) 1 36
        rw [World.size_alloc] at this
        exact this
      · exact (Num.new w p 36).of_block (Below.heap_alloc _ _ _ (by rw [World.size_alloc]; omega))
      · exact ((Below.refl _ _).alloc (Nat.le_refl _) _).alloc (by rw [World.size_alloc]; omega) _
    case round =>
      obtain ⟨k, hk, rfl, nB, nC, hb⟩ := hrel
      by_cases hc : k = 0
      · subst hc
        have hge : decide ((0 : Int) ≤ (((0 : Nat) : Int) - 1)) = false := by decide
        have c1 := nB.cell
        have e0 : Pol.rem (2 ^ (N / 2 ^ 0)) p = R := by rw [Nat.pow_zero, Nat.div_one]; exact HR.out.symm
        rw [e0] at c1
        clear e0 nB nC
        have Hb := Lib.hid hb; clear hb
        go_wp2_with fail
        go_ret2
        exact ⟨rfl, Hb.out⟩
      · obtain ⟨j, rfl⟩ : ∃ j, k = j + 1 := ⟨k - 1, by omega⟩
        have hd : (((j + 1 : Nat) : Int) - 1) = (j : Int) := by omega
        rw [hd]
        have hge : decide ((0 : Int) ≤ (j : Int)) = true := decide_eq_true (by omega)
        have hs := Hsl.out (N / 2 ^ (j + 1))
        obtain ⟨ho, hz⟩ := Hst.out j
        generalize Pol.rem (2 ^ (N / 2 ^ (j + 1))) p = s at *
        have hs2 := Hrl.out (Pol.mul s s)
        have csq := Csq.out s _ _ hs wr nB nC
        generalize Pol.rem (Pol.mul s s) p = s2 at *
        have cs := Cs.out s2 hs2
        have CS := Lib.hid cs; clear cs
        have CQ := Lib.hid csq; clear csq
        have nB2 := nB.set s2
        have nC2 := nC.other (show w.heap.size ≠ w.heap.size + 1 by omega) (.int .u64 (s2 : Int))
        have hb2 := hb.setCell (p := ⟨w.heap.size + 1, 0, none⟩) (show w.heap.size ≤ w.heap.size + 1 by omega) (.int .u64 (s2 : Int))
        have hand := Hand.out j
        have hj64 : j ≤ 63 := by omega
        clear nB nC hs hs2 hd hb
        go_wp2_with fail
        refine CQ.out.mono ?_; rintro e w1 ⟨rfl, hw1⟩
        rw [← hw1] at nB2 nC2 hb2
        clear hw1
        have Hb2 := Lib.hid hb2; clear hb2
        have HB := Lib.hid nB2
        have HC := Lib.hid nC2
        obtain ⟨c1, f1⟩ := nB2
        obtain ⟨c2, f2⟩ := nC2
        by_cases hb1 : N / 2 ^ j % 2 = 1
        · rw [hb1, show ((1 : Nat) : Int) = 1 from rfl] at hand
          have e := ho hb1
          rw [e] at CS
          clear ho hz hb1 e
          obtain ⟨z, hz'⟩ : ∃ z, z = Pol.rem (2 ^ (N / 2 ^ j)) p := ⟨_, rfl⟩
          rw [← hz'] at CS
          have Hz := Lib.hid hz'; clear hz'
          go_wp2_with fail
          refine (CS.out _).mono ?_; rintro e w2 ⟨rfl, rfl⟩
          go_wp2_with fail
          go_roundw
          case rel => exact ⟨j, by omega, by go_num, by rw [← Hz.out]; exact HB.out.set z, HC.out.other (by omega) _, Hb2.out.setCell (p := ⟨w.heap.size + 1, 0, none⟩) (show w.heap.size ≤ w.heap.size + 1 by omega) _⟩
          case measure => simp [intOf]
        · rw [show N / 2 ^ j % 2 = 0 by omega, show ((0 : Nat) : Int) = 0 from rfl] at hand
          have e := hz hb1
          have He := Lib.hid e
          clear ho hz hb1 e
          go_wp2_with fail
          go_roundw
          case rel => exact ⟨j, by omega, by go_num, by rw [← He.out]; exact HB.out, HC.out, Hb2.out⟩
          case measure => simp [intOf]
end Go.Proofs.Ytcmlcpejlmlcfaa
