/-
  files' short ones: which changes may not be; numbers and texts with their lengths ahead; a text cut off.
-/
import Derived.Test.YticcipgdjpoimaaGreatFilPure
import Derived.Test.YticcipgdjpoimaaGreatWalA
import Derived.BigQuiet
set_option linter.unusedVariables false
set_option maxRecDepth 100000
namespace Go.Proofs.YticcipgdjpoimaaGreat
open Go.RowKit

namespace Fil
/-- what stands behind its length at the beginning, and what is behind it -/
def cut (s : Txt) : Option (Txt × Txt) :=
  if s.length < 4 then none else if s.length - 4 < Oct.un (s.take 4) then none else some ((s.drop 4).take (Oct.un (s.take 4)), (s.drop 4).drop (Oct.un (s.take 4)))
end Fil
def chgV (n d : ByteArray) (g : Bool) : Value := .agg #[.string n, .string d, .bool g]
def chgB (n d : ByteArray) (g : Bool) : Bool := n.size == 0 || (decide (32 < n.size) || (decide (65535 < d.size) || (g && !(d.size == 0))))
theorem chgB_may (n d : ByteArray) (g : Bool) : chgB n d g = false ↔ Fil.Chg.May ⟨n.data.toList, d.data.toList, g⟩ := by
  unfold chgB
  have h1 := ba_len n
  have h2 := ba_len d
  constructor
  · intro h
    simp only [Bool.or_eq_false_iff, beq_eq_false_iff_ne, decide_eq_false_iff_not, Bool.and_eq_false_iff, Bool.not_eq_false'] at h
    obtain ⟨a, b, c, e⟩ := h
    refine ⟨by show 1 ≤ n.data.toList.length; omega, by show n.data.toList.length ≤ 32; omega, by show d.data.toList.length ≤ 65535; omega, fun hg => ?_⟩
    rcases e with e | e
    · rw [show g = true from hg] at e; cases e
    · have : d.size = 0 := by simpa using e
      exact List.eq_nil_of_length_eq_zero (by show d.data.toList.length = 0; omega)
  · intro h
    have a := h.lo
    have b := h.hi
    have c := h.data
    have e := h.gone
    simp only at a b c e
    simp only [Bool.or_eq_false_iff, beq_eq_false_iff_ne, decide_eq_false_iff_not, Bool.and_eq_false_iff, Bool.not_eq_false']
    refine ⟨by omega, by omega, by omega, ?_⟩
    cases g with
    | false => exact .inl rfl
    | true =>
      refine .inr ?_
      have := e rfl
      rw [this] at h2
      simp at h2
      simpa using h2.symm

theorem isEmpty_of (s : ByteArray) (h : s.size ≠ 0) : s.toList.isEmpty = false := by
  rw [Lib.toList_data]
  cases hl : s.data.toList with
  | nil => exact absurd (by rw [← ba_len, hl]; rfl) h
  | cons x r => rfl
theorem empty_of (s : ByteArray) (h : s.size = 0) : s = ⟨#[]⟩ := by
  have : s.data.toList = [] := List.eq_nil_of_length_eq_zero (by rw [ba_len]; exact h)
  rw [← ba_of s, this]; rfl

theorem invalid_any (n d : ByteArray) (g : Bool) (w : World) : Calls Tryz.prog 29 #[chgV n d g] w fun e w' => e = .returned (.bool (chgB n d g)) ∧ Below w.heap.size w w' := by
  have hr := heap_alloc_new w (.cells #[.string n, .string d, .bool g] 58)
  have hb : Below w.heap.size w (w.alloc (.cells #[.string n, .string d, .bool g] 58)) := (Below.refl _ w).alloc (Nat.le_refl _) _
  have Hb := Lib.hid hb; clear hb
  unfold chgV chgB
  by_cases h0 : n.size = 0
  · have e1 : (n.size == 0) = true := by simpa using h0
    rw [e1]
    obtain rfl := empty_of n h0
    clear h0 e1
    go_enter Tryz.func29, Tryz.ntmps29
    go_wp2
    go_ret
    exact ⟨rfl, Hb.out⟩
  have e1 : (n.size == 0) = false := by simpa using h0
  rw [e1, Bool.false_or]
  have hne := isEmpty_of n h0
  clear h0 e1
  by_cases h1 : 32 < n.size
  · rw [decide_eq_true h1, Bool.true_or]
    have x1 : decide ((32 : Int) < (n.size : Int)) = true := decide_eq_true (by omega)
    go_enter Tryz.func29, Tryz.ntmps29
    go_wp2
    go_ret
    exact ⟨rfl, Hb.out⟩
  rw [decide_eq_false h1, Bool.false_or]
  have x1 : decide ((32 : Int) < (n.size : Int)) = false := decide_eq_false (by omega)
  clear h1
  by_cases h2 : 65535 < d.size
  · rw [decide_eq_true h2, Bool.true_or]
    have x2 : decide ((65535 : Int) < (d.size : Int)) = true := decide_eq_true (by omega)
    go_enter Tryz.func29, Tryz.ntmps29
    go_wp2
    go_ret
    exact ⟨rfl, Hb.out⟩
  rw [decide_eq_false h2, Bool.false_or]
  have x2 : decide ((65535 : Int) < (d.size : Int)) = false := decide_eq_false (by omega)
  clear h2
  cases g with
  | false =>
    rw [Bool.false_and]
    go_enter Tryz.func29, Tryz.ntmps29
    go_wp2
    go_ret
    exact ⟨rfl, Hb.out⟩
  | true =>
    rw [Bool.true_and]
    by_cases h3 : d.size = 0
    · have e3 : (!(d.size == 0)) = false := by simpa using h3
      rw [e3]
      obtain rfl := empty_of d h3
      clear h3 e3
      go_enter Tryz.func29, Tryz.ntmps29
      go_wp2
      go_ret
      exact ⟨rfl, Hb.out⟩
    · have e3 : (!(d.size == 0)) = true := by simpa using h3
      rw [e3]
      have hne2 := isEmpty_of d h3
      clear h3 e3
      go_enter Tryz.func29, Tryz.ntmps29
      go_wp2
      go_ret
      exact ⟨rfl, Hb.out⟩

theorem count_any (n : Nat) (hn : n < 4294967296) (w : World) : Calls Tryz.prog 148 #[.int .i64 (n : Int)] w fun e w' => e = .returned (.string (ba (Oct.le 4 n))) ∧ Below w.heap.size w w' := by
  have hp := fun u => octPut_any n 4 u (by omega) (by decide) (by decide)
  have he : Oct.put n 4 = (Oct.le 4 n, 0) := by
    unfold Oct.put
    rw [if_pos ⟨by decide, by decide, by simpa using hn⟩]; rfl
  rw [he] at hp
  have hp' : ∀ u, Calls Tryz.prog 115 #[.int .u64 (n : Int), .int .i64 4] u fun e w' => e = .returned (.tuple #[.string (ba (Oct.le 4 n)), .int .i64 0]) ∧ Below u.heap.size u w' := hp
  have hwu : IntKind.u64.wrap (n : Int) = (n : Int) := by rw [IntKind.wrap_u64]; omega
  clear hp he
  generalize ba (Oct.le 4 n) = z at *
  have Hp := Lib.hid hp'; clear hp'
  go_enter Tryz.func148, Tryz.ntmps148
  go_wp2_with fail
  refine (Hp.out _).mono ?_; rintro e w1 ⟨rfl, h1⟩
  go_wp2_with fail
  go_ret
  exact ⟨rfl, h1⟩

theorem counted_any (s : ByteArray) (hs : s.size < 4294967296) (w : World) : Calls Tryz.prog 133 #[.string s] w fun e w' => e = .returned (.string (ba (Oct.le 4 s.size ++ s.data.toList))) ∧ Below w.heap.size w w' := by
  have hc := fun u => count_any s.size hs u
  have h4 : (ba (Oct.le 4 s.size)).size = 4 := by rw [ba_size, Oct.le_length]
  have he : ba (Oct.le 4 s.size) ++ s = ba (Oct.le 4 s.size ++ s.data.toList) := by rw [← ba_app, ba_of]
  generalize ba (Oct.le 4 s.size) = z at *
  generalize ba (Oct.le 4 s.size ++ s.data.toList) = r at *
  have Hc := Lib.hid hc; clear hc
  have He := Lib.hid he; clear he
  go_enter Tryz.func133, Tryz.ntmps133
  go_wp2_with fail
  refine (Hc.out _).mono ?_; rintro e w1 ⟨rfl, h1⟩
  go_wp2_with fail
  go_ret
  rw [← He.out]
  exact ⟨rfl, h1⟩

def cutR : Option (Fil.Txt × Fil.Txt) → Ending
  | none => .returned (.tuple #[.string ⟨#[]⟩, .string ⟨#[]⟩, .int .i64 50])
  | some x => .returned (.tuple #[.string (ba x.1), .string (ba x.2), .int .i64 0])
set_option maxHeartbeats 600000 in
theorem cut_any (s : ByteArray) (hs : s.size ≤ 1099511627776) (w : World) : Calls Tryz.prog 118 #[.string s] w fun e w' => e = cutR (Fil.cut s.data.toList) ∧ Below w.heap.size w w' := by
  have hL := ba_len s
  unfold Fil.cut
  rw [hL]
  by_cases h4 : s.size < 4
  · rw [if_pos h4]
    have x0 : decide ((s.size : Int) < 4) = true := decide_eq_true (by omega)
    go_enter Tryz.func118, Tryz.ntmps118
    go_wp2
    go_ret3
    exact ⟨rfl, Below.refl _ _⟩
  rw [if_neg h4]
  have x0 : decide ((s.size : Int) < 4) = false := decide_eq_false (by omega)
  have g1 := fun u => octGet_any (s.extract 0 4) u
  have e1 : (s.extract 0 4).data.toList = s.data.toList.take 4 := by
    rw [ByteArray.data_extract, Array.toList_extract, List.extract_eq_take_drop]; simp
  have l1 : (s.data.toList.take 4).length = 4 := by rw [List.length_take, hL]; omega
  rw [e1, show Oct.get (s.data.toList.take 4) = (Oct.un (s.data.toList.take 4), 0) from by unfold Oct.get; rw [if_pos (by omega)]] at g1
  have b1 := Oct.un_lt (s.data.toList.take 4)
  rw [l1] at b1
  have b1' : Oct.un (s.data.toList.take 4) < 4294967296 := b1
  clear e1 l1 b1
  have hr : (s.extract 4 s.size).data.toList = s.data.toList.drop 4 := by
    rw [ByteArray.data_extract, Array.toList_extract, List.extract_eq_take_drop, List.take_of_length_le (by rw [List.length_drop, hL]; exact Nat.le_refl _)]
  have hrs : (s.extract 4 s.size).size = s.size - 4 := by rw [ByteArray.size_extract]; omega
  generalize hz : Oct.un (s.data.toList.take 4) = z at *
  have hw1 : IntKind.u64.wrap ((s.size - 4 : Nat) : Int) = ((s.size - 4 : Nat) : Int) := by rw [IntKind.wrap_u64]; omega
  have Hr := Lib.hid hr; clear hr
  have G1 := Lib.hid g1; clear g1
  have x4 : (4 : Int) ≤ (s.size : Int) := by omega
  by_cases h5 : s.size - 4 < z
  · rw [if_pos h5]
    have x1 : decide (((s.size - 4 : Nat) : Int) < (z : Int)) = true := decide_eq_true (by omega)
    go_enter Tryz.func118, Tryz.ntmps118
    go_wp2_with fail
    refine (G1.out _).mono ?_; rintro e w1 ⟨rfl, rfl⟩
    go_wp2_with fail
    go_ret3
    exact ⟨rfl, Below.refl _ _⟩
  · rw [if_neg h5]
    have x1 : decide (((s.size - 4 : Nat) : Int) < (z : Int)) = false := decide_eq_false (by omega)
    have x2 : (z : Int) ≤ ((s.size - 4 : Nat) : Int) := by omega
    have hA : ((s.extract 4 s.size).extract 0 z).data.toList = (s.data.toList.drop 4).take z := by
      rw [ByteArray.data_extract, Array.toList_extract, List.extract_eq_take_drop, Hr.out]; simp
    have hB : ((s.extract 4 s.size).extract z (s.size - 4)).data.toList = (s.data.toList.drop 4).drop z := by
      rw [ByteArray.data_extract, Array.toList_extract, List.extract_eq_take_drop, Hr.out, List.take_of_length_le (by rw [List.length_drop, List.length_drop, hL]; exact Nat.le_refl _)]
    have HA := Lib.hid hA; clear hA
    have HB := Lib.hid hB; clear hB
    have hzT : (z : Int) ≤ ((s.extract 4 s.size).size : Int) := by omega
    go_enter Tryz.func118, Tryz.ntmps118
    go_wp2_with fail
    refine (G1.out _).mono ?_; rintro e w1 ⟨rfl, rfl⟩
    go_wp2_with fail
    go_quiet (fail)
    go_wp2_with fail
    go_ret3
    refine ⟨?_, drewN_below (Below.refl _ _) _⟩
    unfold cutR
    simp only []
    rw [← HA.out, ← HB.out, ba_of, ba_of]
    rfl
end Go.Proofs.YticcipgdjpoimaaGreat
