/-
  What Up returns: a power of x, by squares.
-/
import Derived.Test.YtofiimkpbbiegaaPolProd
set_option linter.unusedVariables false
namespace Go.Proofs.Ytofiimkpbbiegaa
open Go.RowKit

/-- a cell of the call's own -/
structure Num (B : Nat) (v : Nat) (w : World) : Prop where
  cell : w.cell? ⟨B, 0, none⟩ = some (.int .u64 (v : Int))
  free : w.frozen? ⟨B, 0, none⟩ = false
theorem Num.of_block {B v : Nat} {w w' : World} (h : Num B v w) (e : w'.heap[B]? = w.heap[B]?) : Num B v w' :=
  ⟨by rw [World.cell?_of_block (w := w) e]; exact h.cell, by rw [World.frozen?_of_block (w := w) e]; exact h.free⟩
theorem Num.set {B v : Nat} {w : World} (h : Num B v w) (u : Nat) : Num B u (w.setCell ⟨B, 0, none⟩ (.int .u64 (u : Int))) :=
  ⟨World.cell?_setCell_same _ _ _ h.cell, by rw [World.frozen?_setCell]; exact h.free⟩
theorem Num.other {B C v : Nat} {w : World} (h : Num B v w) (hne : B ≠ C) (u : Value) : Num B v (w.setCell ⟨C, 0, none⟩ u) :=
  h.of_block (Below.heap_setCell _ _ _ _ hne)
theorem Num.new (w : World) (v : Nat) (T : TypeId) : Num w.heap.size v (w.alloc (.cells #[.int .u64 (v : Int)] T)) :=
  ⟨by rw [World.cell?_alloc_new]; rfl, World.frozen?_alloc_new w _ T 0⟩

theorem square_any (x p B C : Nat) (hp2 : 2 ≤ Pol.len p) (hp57 : Pol.len p ≤ 57) (hx : Pol.len x < Pol.len p) (w : World)
    (hB : Num B x w) (hC : Num C p w) :
    Calls Try.prog 52 #[.pointer (some ⟨B, 0, none⟩), .pointer (some ⟨C, 0, none⟩)] w fun e w' => e = .returned (.tuple #[]) ∧ w' = w.setCell ⟨B, 0, none⟩ (.int .u64 (Pol.rem (Pol.mul x x) p : Nat)) := by
  have c := fun u => product_any x x p (lt64 (by omega)) hp2 hp57 hx u
  have C := Lib.hid c; clear c
  obtain ⟨c1, f1⟩ := hB
  obtain ⟨c2, f2⟩ := hC
  generalize Pol.rem (Pol.mul x x) p = r at *
  clear hx hp2 hp57
  go_enter Try.func52, Try.ntmps52
  go_wp2_with fail
  refine (C.out _).mono ?_; rintro e w1 ⟨rfl, rfl⟩
  go_wp2_with fail
  go_end0
  exact ⟨rfl, rfl⟩

theorem and_i64_nat (a b : Nat) (ha : a < 9223372036854775808) (hb : b < 9223372036854775808) : bits .and .i64 (a : Int) (b : Int) = ((a &&& b : Nat) : Int) := by
  have hx : a &&& b < 2 ^ 63 := Nat.and_lt_two_pow _ (by omega)
  have ea : (BitVec.ofInt 64 (a : Int)).toNat = a := by simp; omega
  have eb : (BitVec.ofInt 64 (b : Int)).toNat = b := by simp; omega
  show IntKind.i64.wrap ((BitVec.ofInt 64 (a : Int) &&& BitVec.ofInt 64 (b : Int)).toNat : Int) = _
  rw [BitVec.toNat_and, ea, eb]
  exact IntWalk.i64_in _ (by omega)
theorem and_one_i64 (N j : Nat) (h : N < 9223372036854775808) : bits .and .i64 ((N : Int) / 2 ^ j) 1 = ((N / 2 ^ j % 2 : Nat) : Int) := by
  have hbe : ((N / 2 ^ j : Nat) : Int) = (N : Int) / 2 ^ j := by rw [Int.natCast_ediv, Int.natCast_pow]; rfl
  have := and_i64_nat (N / 2 ^ j) 1 (Nat.lt_of_le_of_lt (Nat.div_le_self _ _) h) (by decide)
  rw [show ((1 : Nat) : Int) = 1 from rfl] at this
  rw [← hbe, this, Nat.and_one_is_mod]
theorem Pol.up_step (N j : Nat) {p : Nat} (hp : p ≠ 0) :
    (N / 2 ^ j % 2 = 1 → Pol.rem (2 * Pol.rem (Pol.mul (Pol.rem (2 ^ (N / 2 ^ (j + 1))) p) (Pol.rem (2 ^ (N / 2 ^ (j + 1))) p)) p) p = Pol.rem (2 ^ (N / 2 ^ j)) p) ∧
    (¬ N / 2 ^ j % 2 = 1 → Pol.rem (Pol.mul (Pol.rem (2 ^ (N / 2 ^ (j + 1))) p) (Pol.rem (2 ^ (N / 2 ^ (j + 1))) p)) p = Pol.rem (2 ^ (N / 2 ^ j)) p) := by
  have e : N / 2 ^ (j + 1) = N / 2 ^ j / 2 := by rw [Nat.pow_succ, Nat.div_div_eq_div_mul]
  rw [Pol.rem_mul_left _ _ hp, Pol.rem_mul_right _ _ hp, Pol.mul_pow, ← Nat.pow_add, e]
  generalize N / 2 ^ j = m
  refine ⟨fun h => ?_, fun h => ?_⟩
  · rw [Pol.pow_step _ hp]; congr 2; omega
  · congr 2; omega
theorem up_any (n : Int) (p : Nat) (hp : p < 18446744073709551616) (hn : n < 9223372036854775807) (w : World) :
    (¬ (0 ≤ n ∧ Pol.may p) → Calls Try.prog 42 #[.int .i64 n, .int .u64 p] w fun e w' => e = .returned (.tuple #[.int .u64 0, .int .i64 2]) ∧ Below w.heap.size w w') ∧
    (0 ≤ n ∧ Pol.may p → Calls Try.prog 42 #[.int .i64 n, .int .u64 p] w fun e w' => e = .returned (.tuple #[.int .u64 (Pol.rem (2 ^ n.toNat) p : Nat), .int .i64 0]) ∧ Below w.heap.size w w') := by
  have cm := fun u => modulus_any p hp u
  refine ⟨fun h => ?_, fun ⟨h0, h⟩ => ?_⟩
  · by_cases h0 : n < 0
    · have g : decide (n < 0) = true := decide_eq_true h0
      clear cm hp hn h
      go_enter Try.func42, Try.ntmps42
      go_wp2_with fail
      go_ret2
      exact ⟨rfl, (Below.refl _ _).alloc (Nat.le_refl _) _⟩
    · have g : decide (n < 0) = false := decide_eq_false h0
      rw [decide_eq_false (show ¬ (2 ≤ Pol.len p ∧ Pol.len p ≤ 57) from fun c => h ⟨by omega, c⟩)] at cm
      have Cm := Lib.hid cm; clear cm
      clear hp hn h
      go_enter Try.func42, Try.ntmps42
      go_wp2_with fail
      refine (Cm.out _).mono ?_; rintro e w1 ⟨rfl, rfl⟩
      go_wp2_with fail
      go_ret2
      exact ⟨rfl, (Below.refl _ _).alloc (Nat.le_refl _) _⟩
  · have g : decide (n < 0) = false := decide_eq_false (by omega)
    rw [decide_eq_true (show 2 ≤ Pol.len p ∧ Pol.len p ≤ 57 from h)] at cm
    have Cm := Lib.hid cm; clear cm
    obtain ⟨N, rfl⟩ : ∃ N : Nat, n = (N : Int) := ⟨n.toNat, by omega⟩
    rw [Int.toNat_natCast]
    obtain ⟨R, hR⟩ : ∃ R, R = Pol.rem (2 ^ N) p := ⟨_, rfl⟩
    rw [← hR]
    have HR := Lib.hid hR; clear hR
    have hN64 : N < 18446744073709551616 := by omega
    have cl := fun u => Try.bits_Len (N : Int) u (by omega) (by omega)
    rw [Int.toNat_natCast, bitLen_len N hN64] at cl
    have Cl := Lib.hid cl; clear cl
    have hll := len64 hN64
    have hp2 := h.1
    have hp57 := h.2
    clear h
    have hp0 : p ≠ 0 := fun e => by subst e; rw [Pol.len_zero] at hp2; omega
    have hst := fun j => Pol.up_step N j hp0
    have Hst := Lib.hid hst; clear hst
    have hsl : ∀ k, Pol.len (Pol.rem (2 ^ k) p) < Pol.len p := fun k => Pol.rem_len _ hp0
    have Hsl := Lib.hid hsl; clear hsl
    have hrl : ∀ x, Pol.len (Pol.rem x p) < Pol.len p := fun k => Pol.rem_len _ hp0
    have Hrl := Lib.hid hrl; clear hrl
    have csq := fun x B C hx u => square_any x p B C hp2 hp57 hx u
    have Csq := Lib.hid csq; clear csq
    have cs : ∀ x, Pol.len x < Pol.len p → ∀ u, _ := fun x hx u => shifted_any x p hp hp0 (lt64 (by
      by_cases h0 : x = 0
      · subst h0; rw [Nat.mul_zero, Pol.len_zero]; omega
      · rw [Pol.len_double x h0]; omega)) u
    have Cs := Lib.hid cs; clear cs
    have hand := fun j => and_one_i64 N j (by omega)
    have Hand := Lib.hid hand; clear hand
    have h1 : Pol.rem (2 ^ (N / 2 ^ Pol.len N)) p = 1 := by
      rw [Pol.div_len, Nat.pow_zero]
      exact Pol.rem_small (by rw [Pol.len_one]; omega)
    have H1 := Lib.hid h1; clear h1
    obtain ⟨lN, hlN⟩ : ∃ lN, lN = Pol.len N := ⟨_, rfl⟩
    rw [← hlN] at H1 Cl hll
    clear hlN hp57 hp2 hp0 hp
    go_enter Try.func42, Try.ntmps42
    go_wp2_with fail
    refine (Cm.out _).mono ?_; rintro e w1 ⟨rfl, rfl⟩
    go_wp2_with fail
    refine (Cl.out _).mono ?_; rintro e w1 ⟨rfl, rfl⟩
    go_wp2_with fail
    go_loopw [8] (fun i wr => ∃ k : Nat, k ≤ lN ∧ i = .int .i64 ((k : Int) - 1) ∧ Num (w.heap.size + 1) (Pol.rem (2 ^ (N / 2 ^ k)) p) wr ∧ Num w.heap.size p wr ∧ Below w.heap.size w wr) (fun i _ => (intOf i + 1).toNat)
    case atStart =>
      refine ⟨lN, Nat.le_refl _, rfl, ?_, ?_, ?_⟩
      · rw [H1.out]
        have := Num.new (w.alloc (.cells #[.int .u64 (p : Int)] 22)) 1 22
        rw [World.size_alloc] at this
        exact this
      · exact (Num.new w p 22).of_block (Below.heap_alloc _ _ _ (by rw [World.size_alloc]; omega))
      · exact ((Below.refl _ _).alloc (Nat.le_refl _) _).alloc (by rw [World.size_alloc]; omega) _
    case round =>
      obtain ⟨k, hk, rfl, nB, nC, hb⟩ := hrel
      by_cases hc : k = 0
      · subst hc
        have hge : decide ((0 : Int) ≤ (((0 : Nat) : Int) - 1)) = false := by decide
        have c1 := nB.cell
        have e0 : Pol.rem (2 ^ (N / 2 ^ 0)) p = R := by rw [Nat.pow_zero, Nat.div_one]; exact HR.out.symm
        rw [e0] at c1
        clear e0 nB nC
        have Hb := Lib.hid hb; clear hb
        go_wp2_with fail
        go_ret2
        exact ⟨rfl, Hb.out⟩
      · obtain ⟨j, rfl⟩ : ∃ j, k = j + 1 := ⟨k - 1, by omega⟩
        have hd : (((j + 1 : Nat) : Int) - 1) = (j : Int) := by omega
        rw [hd]
        have hge : decide ((0 : Int) ≤ (j : Int)) = true := decide_eq_true (by omega)
        have hs := Hsl.out (N / 2 ^ (j + 1))
        obtain ⟨ho, hz⟩ := Hst.out j
        generalize Pol.rem (2 ^ (N / 2 ^ (j + 1))) p = s at *
        have hs2 := Hrl.out (Pol.mul s s)
        have csq := Csq.out s _ _ hs wr nB nC
        generalize Pol.rem (Pol.mul s s) p = s2 at *
        have cs := Cs.out s2 hs2
        have CS := Lib.hid cs; clear cs
        have CQ := Lib.hid csq; clear csq
        have nB2 := nB.set s2
        have nC2 := nC.other (show w.heap.size ≠ w.heap.size + 1 by omega) (.int .u64 (s2 : Int))
        have hb2 := hb.setCell (p := ⟨w.heap.size + 1, 0, none⟩) (show w.heap.size ≤ w.heap.size + 1 by omega) (.int .u64 (s2 : Int))
        have hand := Hand.out j
        have hj64 : j ≤ 63 := by omega
        clear nB nC hs hs2 hd hb
        go_wp2_with fail
        refine CQ.out.mono ?_; rintro e w1 ⟨rfl, hw1⟩
        rw [← hw1] at nB2 nC2 hb2
        clear hw1
        have Hb2 := Lib.hid hb2; clear hb2
        have HB := Lib.hid nB2
        have HC := Lib.hid nC2
        obtain ⟨c1, f1⟩ := nB2
        obtain ⟨c2, f2⟩ := nC2
        by_cases hb1 : N / 2 ^ j % 2 = 1
        · rw [hb1, show ((1 : Nat) : Int) = 1 from rfl] at hand
          have e := ho hb1
          rw [e] at CS
          clear ho hz hb1 e
          obtain ⟨z, hz'⟩ : ∃ z, z = Pol.rem (2 ^ (N / 2 ^ j)) p := ⟨_, rfl⟩
          rw [← hz'] at CS
          have Hz := Lib.hid hz'; clear hz'
          go_wp2_with fail
          refine (CS.out _).mono ?_; rintro e w2 ⟨rfl, rfl⟩
          go_wp2_with fail
          go_roundw
          case rel => exact ⟨j, by omega, by go_num, by rw [← Hz.out]; exact HB.out.set z, HC.out.other (by omega) _, Hb2.out.setCell (p := ⟨w.heap.size + 1, 0, none⟩) (show w.heap.size ≤ w.heap.size + 1 by omega) _⟩
          case measure => simp [intOf]
        · rw [show N / 2 ^ j % 2 = 0 by omega, show ((0 : Nat) : Int) = 0 from rfl] at hand
          have e := hz hb1
          have He := Lib.hid e
          clear ho hz hb1 e
          go_wp2_with fail
          go_roundw
          case rel => exact ⟨j, by omega, by go_num, by rw [← He.out]; exact HB.out, HC.out, Hb2.out⟩
          case measure => simp [intOf]
end Go.Proofs.Ytofiimkpbbiegaa
