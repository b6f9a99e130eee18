/- Put together of: FilPure FilSmall FilMem FilApply FilSize -/
import Derived.Test.YtalklpnekbfehaaGreatWalA
import Derived.Maps.Views
import Derived.Sort.KeysCollected
import Derived.BigQuiet
import Derived.Test.YtalklpnekbfehaaGreatDskAll
import Derived.Maps.OwnSet
import Derived.StringKeys
import Derived.Test.YtalklpnekbfehaaGreatWalB
import Derived.Test.YtalklpnekbfehaaGreatOctAll
import Derived.Maps.RangeWalk
import Derived.Deep.LoopGhost
set_option maxRecDepth 100000
/-
  Plain mathematics of files: a row of them, rising by their names; changes; how a map of them reads; their encoding.
-/
set_option linter.unusedVariables false
namespace Go.Proofs.YtalklpnekbfehaaGreat
namespace Fil
open Go Go.Maps

abbrev Txt := List UInt8
abbrev Row := List (Txt × Txt)
structure Chg where
  name : Txt
  data : Txt
  gone : Bool
structure Chg.May (c : Chg) : Prop where
  lo : 1 ≤ c.name.length
  hi : c.name.length ≤ 32
  data : c.data.length ≤ 65535
  gone : c.gone = true → c.data = []
def Sorted (r : Row) : Prop := r.Pairwise fun a b => bytesBefore a.1 b.1 = true
def ins (x : Txt × Txt) : Row → Row
  | [] => [x]
  | y :: r => if bytesBefore x.1 y.1 then x :: y :: r else y :: ins x r
def del (r : Row) (n : Txt) : Row := r.filter fun p => !(p.1 == n)
def put1 (r : Row) (c : Chg) : Row := if c.gone = true then del r c.name else ins (c.name, c.data) (del r c.name)
def puts (r : Row) (l : List Chg) : Row := l.foldl put1 r
def get (r : Row) (n : Txt) : Option Txt := (r.find? fun p => p.1 == n).map (·.2)
def wt (x : Txt × Txt) : Nat := 8 + x.1.length + x.2.length
def sum (r : Row) : Nat := (r.map wt).sum
def used (r : Row) : Nat := 4 + sum r
def enc1 (x : Txt × Txt) : Txt := Oct.le 4 x.1.length ++ x.1 ++ (Oct.le 4 x.2.length ++ x.2)
def enc (r : Row) : Txt := Oct.le 4 r.length ++ r.flatMap enc1
theorem enc1_length (x : Txt × Txt) : (enc1 x).length = wt x := by simp [enc1, wt, Oct.le_length]; omega
theorem flat_length (r : Row) : (r.flatMap enc1).length = sum r := by
  induction r with
  | nil => rfl
  | cons x r ih => simp only [List.flatMap_cons, List.length_append, ih, enc1_length, sum, List.map_cons, List.sum_cons]
theorem enc_length (r : Row) : (enc r).length = used r := by rw [enc, List.length_append, Oct.le_length, flat_length, used]

/-- how a row reads as a map -/
def ent (x : Txt × Txt) : Lit × DataW Unit := (.string x.1, .lit (.string x.2))
def D (r : Row) : DataW Unit := .map (r.map ent)
theorem D_nil : D [] = .map [] := rfl
theorem ins_map (x : Txt × Txt) (r : Row) : DataW.insert (ent x) (r.map ent) = (ins x r).map ent := by
  induction r with
  | nil => rfl
  | cons y r ih =>
    simp only [List.map_cons, DataW.insert, ins]
    have e : (ent x).1.before (ent y).1 = bytesBefore x.1 y.1 := rfl
    rw [e]
    split
    · rfl
    · rw [ih]; rfl
theorem del_map (r : Row) (n : Txt) : (r.map ent).filter (fun p => !p.1.sameKey (.string n)) = (del r n).map ent := by
  induction r with
  | nil => rfl
  | cons y r ih =>
    have e : (ent y).1.sameKey (.string n) = (y.1 == n) := rfl
    simp only [List.map_cons, List.filter_cons, e, del, ih]
    cases y.1 == n <;> simp
theorem D_put (r : Row) (n d : Txt) : (D r).put (.string n) (.lit (.string d)) = D (ins (n, d) (del r n)) := by
  show DataW.map (DataW.insert (ent (n, d)) ((r.map ent).filter _)) = _
  rw [del_map, ins_map]; rfl
theorem D_del (r : Row) (n : Txt) : (D r).del (.string n) = D (del r n) := by
  show DataW.map ((r.map ent).filter _) = _
  rw [del_map]; rfl
theorem D_size (r : Row) : Maps.size (D r) = r.length := by simp [D, Maps.size]
theorem D_has (r : Row) (n : Txt) : Maps.has (D r) (.string n) = (get r n).isSome := by
  unfold D Maps.has get
  induction r with
  | nil => rfl
  | cons y r ih =>
    have e : (ent y).1.sameKey (.string n) = (y.1 == n) := rfl
    simp only [List.map_cons, List.any_cons, List.find?_cons, e]
    cases h : y.1 == n
    · simpa using ih
    · simp
theorem D_at (r : Row) (n : Txt) (z : DataW Unit) : (D r).atKey (.string n) z = match get r n with | some d => .lit (.string d) | none => z := by
  unfold D DataW.atKey get
  induction r with
  | nil => rfl
  | cons y r ih =>
    have e : (ent y).1.sameKey (.string n) = (y.1 == n) := rfl
    simp only [List.map_cons, List.find?_cons, e]
    cases h : y.1 == n
    · simpa using ih
    · simp [ent]
theorem D_keys (r : Row) : strKeys (D r) = r.map (·.1) := by
  simp [D, strKeys, ent, strOf]

theorem mem_ins {x y : Txt × Txt} {r : Row} : y ∈ ins x r ↔ y = x ∨ y ∈ r := by
  induction r with
  | nil => simp [ins]
  | cons z r ih =>
    simp only [ins]
    split
    · simp
    · simp only [List.mem_cons, ih]
      constructor
      · rintro (h | h | h)
        · exact .inr (.inl h)
        · exact .inl h
        · exact .inr (.inr h)
      · rintro (h | h | h)
        · exact .inr (.inl h)
        · exact .inl h
        · exact .inr (.inr h)
theorem Sorted.del {r : Row} (h : Sorted r) (n : Txt) : Sorted (del r n) := h.filter _
theorem Sorted.ins {r : Row} (h : Sorted r) (x : Txt × Txt) (hx : ∀ y ∈ r, y.1 ≠ x.1) : Sorted (ins x r) := by
  induction r with
  | nil => exact List.pairwise_singleton _ _
  | cons z r ih =>
    obtain ⟨h1, h2⟩ := List.pairwise_cons.1 h
    unfold Fil.ins
    split
    · rename_i hb
      refine List.pairwise_cons.2 ⟨fun y hy => ?_, h⟩
      rcases List.mem_cons.1 hy with rfl | hy
      · exact hb
      · exact WideShapes.bytes_trans _ _ _ hb (h1 y hy)
    · rename_i hb
      refine List.pairwise_cons.2 ⟨fun y hy => ?_, ih h2 (fun y hy => hx y (List.mem_cons_of_mem _ hy))⟩
      rcases mem_ins.1 hy with rfl | hy
      · rcases WideAt.bytes_total z.1 y.1 (hx z List.mem_cons_self) with h3 | h3
        · exact h3
        · exact absurd h3 hb
      · exact h1 y hy
theorem mem_del {r : Row} {n : Txt} {y : Txt × Txt} : y ∈ del r n ↔ y ∈ r ∧ y.1 ≠ n := by simp [del, List.mem_filter]
theorem Sorted.put1 {r : Row} (h : Sorted r) (c : Chg) : Sorted (put1 r c) := by
  unfold Fil.put1
  split
  · exact h.del _
  · exact (h.del _).ins _ (fun y hy => (mem_del.1 hy).2)
theorem Sorted.puts {r : Row} (h : Sorted r) (l : List Chg) : Sorted (puts r l) := by
  induction l generalizing r with
  | nil => exact h
  | cons c l ih => exact ih (h.put1 c)
theorem puts_append (r : Row) (a b : List Chg) : puts r (a ++ b) = puts (puts r a) b := List.foldl_append
/-- all files may be -/
def Fine (r : Row) : Prop := ∀ x ∈ r, 1 ≤ x.1.length ∧ x.1.length ≤ 32 ∧ x.2.length ≤ 65535
theorem Fine.put1 {r : Row} (h : Fine r) {c : Chg} (hc : c.May) : Fine (put1 r c) := by
  intro y hy
  unfold Fil.put1 at hy
  split at hy
  · exact h y (mem_del.1 hy).1
  · rcases mem_ins.1 hy with rfl | hy
    · exact ⟨hc.lo, hc.hi, hc.data⟩
    · exact h y (mem_del.1 hy).1
theorem Fine.puts {r : Row} (h : Fine r) {l : List Chg} (hl : ∀ c ∈ l, c.May) : Fine (puts r l) := by
  induction l generalizing r with
  | nil => exact h
  | cons c l ih => exact ih (h.put1 (hl c List.mem_cons_self)) (fun x hx => hl x (List.mem_cons_of_mem _ hx))
theorem ins_len (x : Txt × Txt) (r : Row) : (ins x r).length = r.length + 1 := by
  induction r with
  | nil => rfl
  | cons y r ih => unfold ins; split <;> simp [ih]
theorem del_len (r : Row) (n : Txt) : (del r n).length ≤ r.length := List.length_filter_le _ _
theorem put1_len (r : Row) (c : Chg) : (put1 r c).length ≤ r.length + 1 := by
  unfold put1
  have := del_len r c.name
  split
  · omega
  · rw [ins_len]; omega
theorem puts_len (r : Row) (l : List Chg) : (puts r l).length ≤ r.length + l.length := by
  induction l generalizing r with
  | nil => simp [puts]
  | cons c l ih =>
    have h1 := ih (put1 r c)
    have h2 := put1_len r c
    show (puts (put1 r c) l).length ≤ _
    simp only [List.length_cons]; omega
theorem len_used (r : Row) : 8 * r.length ≤ sum r := by
  induction r with
  | nil => simp [sum]
  | cons x r ih =>
    simp only [sum, List.map_cons, List.sum_cons, List.length_cons, wt] at ih ⊢
    omega
end Fil
end Go.Proofs.YtalklpnekbfehaaGreat

/-
  files' short ones: which changes may not be; numbers and texts with their lengths ahead; a text cut off.
-/
set_option linter.unusedVariables false
set_option maxRecDepth 100000
namespace Go.Proofs.YtalklpnekbfehaaGreat
open Go.RowKit

namespace Fil
/-- what stands behind its length at the beginning, and what is behind it -/
def cut (s : Txt) : Option (Txt × Txt) :=
  if s.length < 4 then none else if s.length - 4 < Oct.un (s.take 4) then none else some ((s.drop 4).take (Oct.un (s.take 4)), (s.drop 4).drop (Oct.un (s.take 4)))
end Fil
def chgV (n d : ByteArray) (g : Bool) : Value := .agg #[.string n, .string d, .bool g]
def chgB (n d : ByteArray) (g : Bool) : Bool := n.size == 0 || (decide (32 < n.size) || (decide (65535 < d.size) || (g && !(d.size == 0))))
theorem chgB_may (n d : ByteArray) (g : Bool) : chgB n d g = false ↔ Fil.Chg.May ⟨n.data.toList, d.data.toList, g⟩ := by
  unfold chgB
  have h1 := ba_len n
  have h2 := ba_len d
  constructor
  · intro h
    simp only [Bool.or_eq_false_iff, beq_eq_false_iff_ne, decide_eq_false_iff_not, Bool.and_eq_false_iff, Bool.not_eq_false'] at h
    obtain ⟨a, b, c, e⟩ := h
    refine ⟨by show 1 ≤ n.data.toList.length; omega, by show n.data.toList.length ≤ 32; omega, by show d.data.toList.length ≤ 65535; omega, fun hg => ?_⟩
    rcases e with e | e
    · rw [show g = true from hg] at e; cases e
    · have : d.size = 0 := by simpa using e
      exact List.eq_nil_of_length_eq_zero (by show d.data.toList.length = 0; omega)
  · intro h
    have a := h.lo
    have b := h.hi
    have c := h.data
    have e := h.gone
    simp only at a b c e
    simp only [Bool.or_eq_false_iff, beq_eq_false_iff_ne, decide_eq_false_iff_not, Bool.and_eq_false_iff, Bool.not_eq_false']
    refine ⟨by omega, by omega, by omega, ?_⟩
    cases g with
    | false => exact .inl rfl
    | true =>
      refine .inr ?_
      have := e rfl
      rw [this] at h2
      simp at h2
      simpa using h2.symm

theorem isEmpty_of (s : ByteArray) (h : s.size ≠ 0) : s.toList.isEmpty = false := by
  rw [Lib.toList_data]
  cases hl : s.data.toList with
  | nil => exact absurd (by rw [← ba_len, hl]; rfl) h
  | cons x r => rfl
theorem empty_of (s : ByteArray) (h : s.size = 0) : s = ⟨#[]⟩ := by
  have : s.data.toList = [] := List.eq_nil_of_length_eq_zero (by rw [ba_len]; exact h)
  rw [← ba_of s, this]; rfl

theorem invalid_any (n d : ByteArray) (g : Bool) (w : World) : Calls Tryz.prog 29 #[chgV n d g] w fun e w' => e = .returned (.bool (chgB n d g)) ∧ Below w.heap.size w w' := by
  have hr := heap_alloc_new w (.cells #[.string n, .string d, .bool g] 58)
  have hb : Below w.heap.size w (w.alloc (.cells #[.string n, .string d, .bool g] 58)) := (Below.refl _ w).alloc (Nat.le_refl _) _
  have Hb := Lib.hid hb; clear hb
  unfold chgV chgB
  by_cases h0 : n.size = 0
  · have e1 : (n.size == 0) = true := by simpa using h0
    rw [e1]
    obtain rfl := empty_of n h0
    clear h0 e1
    go_enter Tryz.func29, Tryz.ntmps29
    go_wp2
    go_ret
    exact ⟨rfl, Hb.out⟩
  have e1 : (n.size == 0) = false := by simpa using h0
  rw [e1, Bool.false_or]
  have hne := isEmpty_of n h0
  clear h0 e1
  by_cases h1 : 32 < n.size
  · rw [decide_eq_true h1, Bool.true_or]
    have x1 : decide ((32 : Int) < (n.size : Int)) = true := decide_eq_true (by omega)
    go_enter Tryz.func29, Tryz.ntmps29
    go_wp2
    go_ret
    exact ⟨rfl, Hb.out⟩
  rw [decide_eq_false h1, Bool.false_or]
  have x1 : decide ((32 : Int) < (n.size : Int)) = false := decide_eq_false (by omega)
  clear h1
  by_cases h2 : 65535 < d.size
  · rw [decide_eq_true h2, Bool.true_or]
    have x2 : decide ((65535 : Int) < (d.size : Int)) = true := decide_eq_true (by omega)
    go_enter Tryz.func29, Tryz.ntmps29
    go_wp2
    go_ret
    exact ⟨rfl, Hb.out⟩
  rw [decide_eq_false h2, Bool.false_or]
  have x2 : decide ((65535 : Int) < (d.size : Int)) = false := decide_eq_false (by omega)
  clear h2
  cases g with
  | false =>
    rw [Bool.false_and]
    go_enter Tryz.func29, Tryz.ntmps29
    go_wp2
    go_ret
    exact ⟨rfl, Hb.out⟩
  | true =>
    rw [Bool.true_and]
    by_cases h3 : d.size = 0
    · have e3 : (!(d.size == 0)) = false := by simpa using h3
      rw [e3]
      obtain rfl := empty_of d h3
      clear h3 e3
      go_enter Tryz.func29, Tryz.ntmps29
      go_wp2
      go_ret
      exact ⟨rfl, Hb.out⟩
    · have e3 : (!(d.size == 0)) = true := by simpa using h3
      rw [e3]
      have hne2 := isEmpty_of d h3
      clear h3 e3
      go_enter Tryz.func29, Tryz.ntmps29
      go_wp2
      go_ret
      exact ⟨rfl, Hb.out⟩

theorem count_any (n : Nat) (hn : n < 4294967296) (w : World) : Calls Tryz.prog 148 #[.int .i64 (n : Int)] w fun e w' => e = .returned (.string (ba (Oct.le 4 n))) ∧ Below w.heap.size w w' := by
  have hp := fun u => octPut_any n 4 u (by omega) (by decide) (by decide)
  have he : Oct.put n 4 = (Oct.le 4 n, 0) := by
    unfold Oct.put
    rw [if_pos ⟨by decide, by decide, by simpa using hn⟩]; rfl
  rw [he] at hp
  have hp' : ∀ u, Calls Tryz.prog 115 #[.int .u64 (n : Int), .int .i64 4] u fun e w' => e = .returned (.tuple #[.string (ba (Oct.le 4 n)), .int .i64 0]) ∧ Below u.heap.size u w' := hp
  have hwu : IntKind.u64.wrap (n : Int) = (n : Int) := by rw [IntKind.wrap_u64]; omega
  clear hp he
  generalize ba (Oct.le 4 n) = z at *
  have Hp := Lib.hid hp'; clear hp'
  go_enter Tryz.func148, Tryz.ntmps148
  go_wp2_with fail
  refine (Hp.out _).mono ?_; rintro e w1 ⟨rfl, h1⟩
  go_wp2_with fail
  go_ret
  exact ⟨rfl, h1⟩

theorem counted_any (s : ByteArray) (hs : s.size < 4294967296) (w : World) : Calls Tryz.prog 133 #[.string s] w fun e w' => e = .returned (.string (ba (Oct.le 4 s.size ++ s.data.toList))) ∧ Below w.heap.size w w' := by
  have hc := fun u => count_any s.size hs u
  have h4 : (ba (Oct.le 4 s.size)).size = 4 := by rw [ba_size, Oct.le_length]
  have he : ba (Oct.le 4 s.size) ++ s = ba (Oct.le 4 s.size ++ s.data.toList) := by rw [← ba_app, ba_of]
  generalize ba (Oct.le 4 s.size) = z at *
  generalize ba (Oct.le 4 s.size ++ s.data.toList) = r at *
  have Hc := Lib.hid hc; clear hc
  have He := Lib.hid he; clear he
  go_enter Tryz.func133, Tryz.ntmps133
  go_wp2_with fail
  refine (Hc.out _).mono ?_; rintro e w1 ⟨rfl, h1⟩
  go_wp2_with fail
  go_ret
  rw [← He.out]
  exact ⟨rfl, h1⟩

def cutR : Option (Fil.Txt × Fil.Txt) → Ending
  | none => .returned (.tuple #[.string ⟨#[]⟩, .string ⟨#[]⟩, .int .i64 50])
  | some x => .returned (.tuple #[.string (ba x.1), .string (ba x.2), .int .i64 0])
set_option maxHeartbeats 600000 in
theorem cut_any (s : ByteArray) (hs : s.size ≤ 1099511627776) (w : World) : Calls Tryz.prog 118 #[.string s] w fun e w' => e = cutR (Fil.cut s.data.toList) ∧ Below w.heap.size w w' := by
  have hL := ba_len s
  unfold Fil.cut
  rw [hL]
  by_cases h4 : s.size < 4
  · rw [if_pos h4]
    have x0 : decide ((s.size : Int) < 4) = true := decide_eq_true (by omega)
    go_enter Tryz.func118, Tryz.ntmps118
    go_wp2
    go_ret3
    exact ⟨rfl, Below.refl _ _⟩
  rw [if_neg h4]
  have x0 : decide ((s.size : Int) < 4) = false := decide_eq_false (by omega)
  have g1 := fun u => octGet_any (s.extract 0 4) u
  have e1 : (s.extract 0 4).data.toList = s.data.toList.take 4 := by
    rw [ByteArray.data_extract, Array.toList_extract, List.extract_eq_take_drop]; simp
  have l1 : (s.data.toList.take 4).length = 4 := by rw [List.length_take, hL]; omega
  rw [e1, show Oct.get (s.data.toList.take 4) = (Oct.un (s.data.toList.take 4), 0) from by unfold Oct.get; rw [if_pos (by omega)]] at g1
  have b1 := Oct.un_lt (s.data.toList.take 4)
  rw [l1] at b1
  have b1' : Oct.un (s.data.toList.take 4) < 4294967296 := b1
  clear e1 l1 b1
  have hr : (s.extract 4 s.size).data.toList = s.data.toList.drop 4 := by
    rw [ByteArray.data_extract, Array.toList_extract, List.extract_eq_take_drop, List.take_of_length_le (by rw [List.length_drop, hL]; exact Nat.le_refl _)]
  have hrs : (s.extract 4 s.size).size = s.size - 4 := by rw [ByteArray.size_extract]; omega
  generalize hz : Oct.un (s.data.toList.take 4) = z at *
  have hw1 : IntKind.u64.wrap ((s.size - 4 : Nat) : Int) = ((s.size - 4 : Nat) : Int) := by rw [IntKind.wrap_u64]; omega
  have Hr := Lib.hid hr; clear hr
  have G1 := Lib.hid g1; clear g1
  have x4 : (4 : Int) ≤ (s.size : Int) := by omega
  by_cases h5 : s.size - 4 < z
  · rw [if_pos h5]
    have x1 : decide (((s.size - 4 : Nat) : Int) < (z : Int)) = true := decide_eq_true (by omega)
    go_enter Tryz.func118, Tryz.ntmps118
    go_wp2_with fail
    refine (G1.out _).mono ?_; rintro e w1 ⟨rfl, rfl⟩
    go_wp2_with fail
    go_ret3
    exact ⟨rfl, Below.refl _ _⟩
  · rw [if_neg h5]
    have x1 : decide (((s.size - 4 : Nat) : Int) < (z : Int)) = false := decide_eq_false (by omega)
    have x2 : (z : Int) ≤ ((s.size - 4 : Nat) : Int) := by omega
    have hA : ((s.extract 4 s.size).extract 0 z).data.toList = (s.data.toList.drop 4).take z := by
      rw [ByteArray.data_extract, Array.toList_extract, List.extract_eq_take_drop, Hr.out]; simp
    have hB : ((s.extract 4 s.size).extract z (s.size - 4)).data.toList = (s.data.toList.drop 4).drop z := by
      rw [ByteArray.data_extract, Array.toList_extract, List.extract_eq_take_drop, Hr.out, List.take_of_length_le (by rw [List.length_drop, List.length_drop, hL]; exact Nat.le_refl _)]
    have HA := Lib.hid hA; clear hA
    have HB := Lib.hid hB; clear hB
    have hzT : (z : Int) ≤ ((s.extract 4 s.size).size : Int) := by omega
    go_enter Tryz.func118, Tryz.ntmps118
    go_wp2_with fail
    refine (G1.out _).mono ?_; rintro e w1 ⟨rfl, rfl⟩
    go_wp2_with fail
    go_quiet (fail)
    go_wp2_with fail
    go_ret3
    refine ⟨?_, drewN_below (Below.refl _ _) _⟩
    unfold cutR
    simp only []
    rw [← HA.out, ← HB.out, ba_of, ba_of]
    rfl
end Go.Proofs.YtalklpnekbfehaaGreat

/-
  How files lie in memory: a map of their contents by their names; a slice of changes.
-/
set_option linter.unusedVariables false
set_option maxRecDepth 100000
namespace Go.Proofs.YtalklpnekbfehaaGreat
open Go.RowKit Go.Maps

/-- how what a file has reads -/
def fileElem (v : Value) : Option (DataW Unit × List MemPlace) :=
  match v with
  | .agg a => match a.toList with
    | [.string s] => some (.lit (.string s.data.toList), [])
    | _ => none
  | _ => none
theorem fileElem_mk (s : ByteArray) : fileElem (.agg #[.string s]) = some (.lit (.string s.data.toList), []) := rfl
theorem fileElem_inv {v : Value} {z : DataW Unit × List MemPlace} (h : fileElem v = some z) : ∃ s : ByteArray, v = .agg #[.string s] ∧ z = (.lit (.string s.data.toList), []) := by
  unfold fileElem at h
  split at h
  · rename_i a
    split at h
    · rename_i s hs
      refine ⟨s, ?_, (Option.some.inj h).symm⟩
      have : a = #[.string s] := by
        rw [← Array.toArray_toList (xs := a), hs]
      rw [this]
    · cases h
  · cases h
theorem str_law : Keyed Tryz.prog 9 := string_keyed Tryz.underlying9
theorem key_str (s : ByteArray) (h : s.size ≤ maxLen) : keyOf Tryz.prog 9 (.string s) = some (.string s.data.toList) := Go.WideMaps.keyOf_string_mk Tryz.underlying9 h
/-- block b is a map of the files r -/
def ContAt (b n : Nat) (r : Fil.Row) (w : World) : Prop := w.ownsMap Tryz.prog 9 fileElem b n (Fil.D r)
theorem ContAt.new {b n : Nat} {r : Fil.Row} {w w' : World} (h : ContAt b n r w) (hb : Below w.heap.size w w') : ContAt b n r w' := ownsMap_same h (hb.block b h.lt)
theorem ContAt.drew {b n : Nat} {r : Fil.Row} {w : World} (h : ContAt b n r w) : ContAt b n r w.drew := h
theorem ContAt.turns {T : Nat → Prop} {b n : Nat} {r : Fil.Row} {w w' : World} (h : ContAt b n r w) (ht : Turns T w w') (hn : ¬ T b) : ContAt b n r w' := ownsMap_same h (ht.block b h.lt hn)

structure Chb where
  n : ByteArray
  d : ByteArray
  g : Bool
instance : Inhabited Chb := ⟨⟨.empty, .empty, false⟩⟩
def Chb.c (x : Chb) : Fil.Chg := ⟨x.n.data.toList, x.d.data.toList, x.g⟩
def Chb.bad (x : Chb) : Bool := chgB x.n x.d x.g
theorem Chb.bad_may (x : Chb) : x.bad = false ↔ x.c.May := chgB_may _ _ _
structure Chb.Ok (x : Chb) : Prop where
  n : x.n.size ≤ 140737488351232
  d : x.d.size ≤ 140737488351232
structure ChgAt (w : World) (b off : Nat) (x : Chb) : Prop where
  n : w.cell? ⟨b, off, none⟩ = some (.string x.n)
  d : w.cell? ⟨b, off + 1, none⟩ = some (.string x.d)
  g : w.cell? ⟨b, off + 2, none⟩ = some (.bool x.g)
/-- the slice's elements are the changes l -/
def Chgs (a : Option Addr) (len : Nat) (l : List Chb) (w : World) : Prop := l.length = len ∧ ∀ j, j < len → ∃ b off, a = some ⟨b, off, none⟩ ∧ ChgAt w b (off + j * 3) (l.getD j default)
theorem ChgAt.same {w w' : World} {b off : Nat} {x : Chb} (h : ChgAt w b off x) (e : w'.heap[b]? = w.heap[b]?) : ChgAt w' b off x :=
  ⟨by rw [World.cell?_of_block e]; exact h.n, by rw [World.cell?_of_block e]; exact h.d, by rw [World.cell?_of_block e]; exact h.g⟩
theorem Chgs.keep {a : Option Addr} {len : Nat} {l : List Chb} {w w' : World} (h : Chgs a len l w) (hb : Below w.heap.size w w') : Chgs a len l w' := by
  refine ⟨h.1, fun j hj => ?_⟩
  obtain ⟨b, off, rfl, hc⟩ := h.2 j hj
  exact ⟨b, off, rfl, hc.same (hb.block b (cell_lt hc.n))⟩
theorem Chgs.turns {T : Nat → Prop} {a : Option Addr} {len : Nat} {l : List Chb} {w w' : World} (h : Chgs a len l w) (ht : Turns T w w') (hn : ∀ b off, 0 < len → a = some ⟨b, off, none⟩ → ¬ T b) : Chgs a len l w' := by
  refine ⟨h.1, fun j hj => ?_⟩
  obtain ⟨b, off, rfl, hc⟩ := h.2 j hj
  exact ⟨b, off, rfl, hc.same (ht.block b (cell_lt hc.n) (hn b off (by omega) rfl))⟩
theorem Chgs.nil (a : Option Addr) (w : World) : Chgs a 0 [] w := ⟨rfl, fun j hj => by omega⟩
theorem cell_map {w : World} {b o : Nat} {v : Value} {es : Array MapEntry} {c : Nat} (hc : w.cell? ⟨b, o, none⟩ = some v) (hm : w.heap[b]? = some (.map es c)) : False := by
  simp [World.cell?, hm] at hc
theorem Chgs.off {a : Option Addr} {len bm n : Nat} {l : List Chb} {r : Fil.Row} {w : World} (h : Chgs a len l w) (hm : ContAt bm n r w) : ∀ b off, 0 < len → a = some ⟨b, off, none⟩ → b ≠ bm := by
  rintro b off hl rfl rfl
  obtain ⟨b', off', h1, hc⟩ := h.2 0 hl
  obtain ⟨es, c, hb⟩ := ownsMap_obj hm
  simp only [Option.some.injEq, Addr.mk.injEq] at h1
  obtain ⟨rfl, _⟩ := h1
  exact cell_map hc.n hb
/-- the changes as mathematics has them -/
def chs (l : List Chb) : List Fil.Chg := l.map Chb.c
theorem chs_take (l : List Chb) (k : Nat) (h : k < l.length) : chs (l.take (k + 1)) = chs (l.take k) ++ [(l.getD k default).c] := by
  unfold chs
  rw [List.take_add_one, List.getElem?_eq_getElem h, List.map_append]
  simp [List.getD_eq_getElem?_getD, h]
end Go.Proofs.YtalklpnekbfehaaGreat

/-
  Changes are applied to a map of files.
-/
set_option linter.unusedVariables false
set_option maxRecDepth 100000
namespace Go.Proofs.YtalklpnekbfehaaGreat
open Go.RowKit Go.Maps

theorem midk_map {P : Program} {ops : Array Oper} {Q : Exit → Act → World → Prop} {S : World → Prop} {K : Act → World → Prop} {o : Oper} {l : List Oper} {a : Act} {w w' : World} (ty : TypeId) (m x y : Operand) (mv xv vv : Value) (hw : Region.wanted o (yielded ops a.tmps) = true) (ho : o.op = .mapUpdate ty m x y) (hm : a.eval m = mv) (hx : a.eval x = xv) (hy : a.eval y = vv)
    (h : (Instr.mapUpdate ty mv xv vv).run P w = .ok () w') (hS : S w') (hK : wpMidK P ops Q S K l (a.put o.dst undef) w') : wpMidK P ops Q S K (o :: l) a w := by
  refine midk_wp hw ?_
  unfold Oper.wp execOp
  simp only [ho, hm, hx, hy, h, Sem.run_bind, Sem.run_pure, Result.andThen_ok]
  exact ⟨hS, hK⟩
set_option maxHeartbeats 1000000 in
theorem apply_any (bm n : Nat) (r : Fil.Row) (w : World) (hm : ContAt bm n r w) (a : Option Addr) (len cap : Nat) (l : List Chb) (hl : Chgs a len l w) (hok : ∀ x ∈ l, x.Ok) (hn : n ≤ 1099511627776) (hlen : len ≤ 1099511627776) :
    Calls Tryz.prog 31 #[.map (some bm), .slice a len cap] w fun e w' => e = .returned (.tuple #[]) ∧ Turns (fun j => j = bm) w w' ∧ ContAt bm (n + len) (Fil.puts r (chs l)) w' := by
  have hoff := hl.off hm
  have hll := hl.1
  have Hl := Lib.hid hl; clear hl
  have Hok := Lib.hid hok; clear hok
  have Hm := Lib.hid hm; clear hm
  have Hoff := Lib.hid hoff; clear hoff
  go_enter Tryz.func31, Tryz.ntmps31
  go_wp2
  go_loopw [8] (fun i wr => ∃ k n2 : Nat, k ≤ len ∧ n2 ≤ n + k ∧ i = .int .i64 (k : Int) ∧ Turns (fun j => j = bm) w wr ∧ ContAt bm n2 (Fil.puts r (chs (l.take k))) wr) (fun i _ => len - (intOf i).toNat)
  case atStart => exact ⟨0, n, by omega, by omega, rfl, Turns.refl _ _, Hm.out⟩
  case round =>
    obtain ⟨k, n2, hk, hn2, rfl, ht, hm⟩ := hrel
    by_cases hlt : k < len
    · have hlt2 : (k : Int) < (len : Int) := by omega
      have hkl : k < l.length := by omega
      obtain ⟨b, off, rfl, hx⟩ := Hl.out.2 k hlt
      have hbm := Hoff.out b off (by omega) rfl
      have hxw := hx.same (ht.block b (cell_lt hx.n) hbm)
      have hxo := Hok.out (l.getD k default) (by
        rw [List.getD_eq_getElem?_getD, List.getElem?_eq_getElem hkl]
        exact List.getElem_mem _)
      have hxe : ∃ x, x = l.getD k default := ⟨_, rfl⟩
      obtain ⟨x, hxe⟩ := hxe
      rw [← hxe] at hxw hxo
      obtain ⟨xn, xd, xg⟩ := x
      have c0 := hxw.n
      have c1 := hxw.d
      have c2 := hxw.g
      have z0 := hxo.n
      have z1 := hxo.d
      simp only at c0 c1 c2 z0 z1
      have HM := Lib.hid hm; clear hm
      have HT := Lib.hid ht; clear ht
      have Hxe := Lib.hid hxe; clear hxe
      clear hx hxw hxo
      have hxs : bm < wr.heap.size := HM.out.lt
      cases xg with
      | true =>
        have hmA := HM.out.new ((Below.refl _ wr).alloc (Nat.le_refl _) (.cells #[.string xn, .string xd, .bool true] 58))
        go_wp2_with (at_delete; go_loud (refine wpList_delete_own _ rfl (.tmp 14) (.tmp 16) 74 9 rfl 81 str_law Tryz.underlying74 fileElem bm n2 _ rfl hmA (.string xn) _ rfl (key_str xn (by unfold maxLen; omega)) ?_))
        intro w1 hown1 hturn1
        have htf : Turns (fun j => j = bm) w w1 := (HT.out.alloc _).trans (Turns.of_grown hturn1.grown) (fun j _ e => by cases e; rfl)
        have hcf : ContAt bm n2 (Fil.puts r (chs (l.take (k + 1)))) w1 := by
          rw [chs_take l k hkl, ← Hxe.out, Fil.puts_append]
          rw [Fil.D_del] at hown1
          exact hown1
        have Htf := Lib.hid htf; clear htf
        have Hcf := Lib.hid hcf; clear hcf
        clear hown1 hturn1 hmA
        go_wp2_with fail
        go_roundw
        case rel => exact ⟨k + 1, n2, by omega, by omega, by go_num, Htf.out, Hcf.out⟩
        case measure => simp [intOf]; omega
      | false =>
        go_wp2_with fail
        have hm := HM.out.new ((Below.refl _ wr).alloc (Nat.le_refl _) (.cells #[.string xn, .string xd, .bool false] 58))
        have hr0 := heap_alloc_new wr (.cells #[.string xn, .string xd, .bool false] 58)
        have htd := HT.out.alloc (.cells #[.string xn, .string xd, .bool false] 58)
        generalize wr.alloc (.cells #[.string xn, .string xd, .bool false] 58) = w0 at *
        obtain ⟨xb, hxb⟩ : ∃ xb, wr.heap.size = xb := ⟨_, rfl⟩
        rw [hxb] at hr0
        have hxm : xb ≠ bm := by omega
        have d0 : w0.drew.cell? ⟨xb, 0, none⟩ = some (.string xn) := by
          have := cell_of_row w0 xb 0 _ _ _ hr0
          exact this
        have d1 : w0.drew.cell? ⟨xb, 1, none⟩ = some (.string xd) := by
          have := cell_of_row w0 xb 1 _ _ _ hr0
          exact this
        have hxe := Hxe.out.symm
        rw [hxb]
        clear hr0
        refine wp_region_phases [([0, 1, 2, 4, 5], [3, 6, 7, 8])] (by kernel_rfl) (by kernel_rfl) (fun z => z.cell? ⟨xb, 0, none⟩ = some (.string xn) ∧ z.cell? ⟨xb, 1, none⟩ = some (.string xd)) ⟨d0, d1⟩ ?_
        simp only [wpPhases, pick, List.filterMap_cons, List.filterMap_nil, List.getElem?_toArray, List.getElem?_cons_zero, List.getElem?_cons_succ]
        refine take_move (.tmp 0) (.map (some bm)) rfl rfl rfl ?_
        simp only [Act.put, List.setIfInBounds_toArray, List.set_cons_zero, List.set_cons_succ]
        refine take_one (.pointer (some ⟨xb, 0, none⟩)) rfl (fun u _ => by go_simp) ?_
        simp only [Act.put, List.setIfInBounds_toArray, List.set_cons_zero, List.set_cons_succ]
        refine take_load 9 (.tmp 18) ⟨xb, 0, none⟩ (.string xn) rfl rfl rfl (fun u hu => load_any Tryz.underlying9 Tryz.isAgg9 hu.1) ?_
        simp only [Act.put, List.setIfInBounds_toArray, List.set_cons_zero, List.set_cons_succ]
        refine take_one (.pointer (some ⟨xb, 1, none⟩)) rfl (fun u _ => by go_simp) ?_
        simp only [Act.put, List.setIfInBounds_toArray, List.set_cons_zero, List.set_cons_succ]
        refine take_load 9 (.tmp 21) ⟨xb, 1, none⟩ (.string xd) rfl rfl rfl (fun u hu => load_any Tryz.underlying9 Tryz.isAgg9 hu.2) ?_
        simp only [Act.put, List.setIfInBounds_toArray, List.set_cons_zero, List.set_cons_succ]
        refine take_done ?_
        refine midk_wp rfl (call_wp 38 [.tmp 19] #[9] #[.string xn] rfl rfl rfl ?_)
        refine (clone_any xn _ (by omega)).mono ?_
        rintro e wA ⟨rfl, h1⟩
        have hc1 := hm.drew.new h1
        have hx1 : ∀ o v, w0.drew.cell? ⟨xb, o, none⟩ = some v → wA.cell? ⟨xb, o, none⟩ = some v := fun o v h => by rw [World.cell?_of_block (h1.block xb (cell_lt h))]; exact h
        refine ⟨_, rfl, ⟨hx1 _ _ (d0), hx1 _ _ (d1)⟩, ?_⟩
        refine midk_wp rfl (call_wp 38 [.tmp 22] #[9] #[.string xd] rfl rfl rfl ?_)
        refine (clone_any xd _ (by omega)).mono ?_
        rintro e wB ⟨rfl, h2⟩
        have hc2 := hc1.new h2
        have hx2 : ∀ o v, wA.cell? ⟨xb, o, none⟩ = some v → wB.cell? ⟨xb, o, none⟩ = some v := fun o v h => by rw [World.cell?_of_block (h2.block xb (cell_lt h))]; exact h
        refine ⟨_, rfl, ⟨hx2 _ _ (hx1 _ _ d0), hx2 _ _ (hx1 _ _ d1)⟩, ?_⟩
        refine midk_one (.agg #[.string xd]) rfl (by go_simp) ⟨hx2 _ _ (hx1 _ _ d0), hx2 _ _ (hx1 _ _ d1)⟩ ?_
        obtain ⟨wC, hrun, hown, hturn⟩ := World.ownsMap.store hc2 str_law Tryz.underlying74 (by unfold maxLen; omega) (key_str xn (by unfold maxLen; omega)) (fileElem_mk xd)
        have hxC : ∀ o v, wB.cell? ⟨xb, o, none⟩ = some v → wC.cell? ⟨xb, o, none⟩ = some v := fun o v h => by rw [World.cell?_of_block (hturn.grown.block xb (cell_lt h) (by simp; exact fun e => hxm e))]; exact h
        have hput : ContAt bm (n2 + 1) (Fil.puts r (chs (l.take (k + 1)))) wC := by
          rw [Fil.D_put] at hown
          rw [chs_take l k hkl, Fil.puts_append, hxe]
          exact hown
        refine midk_map 74 (.tmp 17) (.tmp 20) (.tmp 24) _ _ _ rfl rfl rfl rfl rfl hrun ⟨hxC _ _ (hx2 _ _ (hx1 _ _ d0)), hxC _ _ (hx2 _ _ (hx1 _ _ d1))⟩ ?_
        refine midk_end ?_
        have htf : Turns (fun j => j = bm) w wC := ((htd.drew.trans (Turns.of_new h1 (fun _ => False)) (fun _ _ e => e.elim)).trans (Turns.of_new h2 (fun _ => False)) (fun _ _ e => e.elim)).trans (Turns.of_grown hturn.grown) (fun j _ e => by cases e; rfl)
        have Htf := Lib.hid htf; clear htf
        have Hcf := Lib.hid hput; clear hput
        clear hown hturn hrun hxC hx1 hx2 hc1 hc2 h1 h2 htd d0 d1 hm
        go_wp2_with fail
        go_roundw
        case rel => exact ⟨k + 1, n2 + 1, by omega, by omega, by go_num, Htf.out, Hcf.out⟩
        case measure => simp [intOf]; omega
    · obtain rfl : k = len := by omega
      have hc : ContAt bm (n + k) (Fil.puts r (chs l)) wr := by
        have h2 : l.take k = l := List.take_of_length_le (by omega)
        rw [h2] at hm
        exact World.ownsMap.mono hm hn2
      have Hc := Lib.hid hc; clear hc hm
      go_wp2_with fail
      go_end0
      exact ⟨rfl, ht, Hc.out⟩
end Go.Proofs.YtalklpnekbfehaaGreat

/-
  How many bytes the encoding of a map of files has.
-/
set_option linter.unusedVariables false
set_option maxRecDepth 100000
namespace Go.Proofs.YtalklpnekbfehaaGreat
open Go.RowKit Go.Maps

namespace Fil
/-- the bytes of those that are no longer to come -/
def done (r : Row) (left : Lit → Bool) : Nat := ((r.filter fun x => !left (.string x.1)).map wt).sum
theorem done_le (r : Row) (left : Lit → Bool) : done r left ≤ sum r := by
  unfold done sum
  induction r with
  | nil => simp
  | cons x r ih =>
    simp only [List.filter_cons, List.map_cons, List.sum_cons]
    split
    · simp only [List.map_cons, List.sum_cons]; omega
    · omega
theorem done_end (r : Row) (left : Lit → Bool) (h : ∀ k, left k = false) : done r left = sum r := by
  unfold done sum
  rw [List.filter_eq_self.2 (fun x _ => by rw [h]; rfl)]
theorem get_mem {r : Row} {n d : Txt} (h : get r n = some d) : (n, d) ∈ r := by
  unfold get at h
  obtain ⟨p, hp, rfl⟩ := Option.map_eq_some_iff.1 h
  have h1 := List.mem_of_find?_eq_some hp
  have h2 := List.find?_some hp
  simp only [beq_iff_eq] at h2
  subst h2
  exact h1
theorem done_start (r : Row) : done r (Maps.has (D r)) = 0 := by
  unfold done
  rw [List.filter_eq_nil_iff.2 (fun x hx => ?_)]
  · rfl
  · rw [D_has]
    have : (get r x.1).isSome = true := by
      unfold get
      rw [Option.isSome_map, List.find?_isSome]
      exact ⟨x, hx, by simp⟩
    rw [this]; simp
theorem Sorted.apart {r : Row} (h : Sorted r) : r.Pairwise fun a b => a.1 ≠ b.1 := h.imp fun {a b} hb e => by rw [e, WideAt.bytes_irrefl] at hb; cases hb
theorem done_step {r : Row} (hs : r.Pairwise fun a b => a.1 ≠ b.1) {left : Lit → Bool} {n d : Txt} (hm : (n, d) ∈ r) (hl : left (.string n) = true) : done r (fun z => left z && !z.sameKey (.string n)) = done r left + wt (n, d) := by
  unfold done
  induction r with
  | nil => simp at hm
  | cons y r ih =>
    obtain ⟨h1, h2⟩ := List.pairwise_cons.1 hs
    have e : (Lit.string y.1).sameKey (.string n) = (y.1 == n) := rfl
    rcases List.mem_cons.1 hm with rfl | hm
    · have hr : r.filter (fun x => !(left (.string x.1) && !(Lit.string x.1).sameKey (.string n))) = r.filter fun x => !left (.string x.1) := by
        refine List.filter_congr fun x hx => ?_
        have : (Lit.string x.1).sameKey (.string n) = false := by
          show (x.1 == n) = false
          rw [beq_eq_false_iff_ne]; exact fun e => h1 x hx e.symm
        rw [this]; simp
      have e2 : (Lit.string n).sameKey (.string n) = true := by show (n == n) = true; simp
      have a1 : ((n, d) :: r).filter (fun x => !(left (.string x.1) && !(Lit.string x.1).sameKey (.string n))) = (n, d) :: r.filter (fun x => !left (.string x.1)) := by
        rw [List.filter_cons_of_pos (by simp [hl, e2]), hr]
      have a2 : ((n, d) :: r).filter (fun x => !left (.string x.1)) = r.filter (fun x => !left (.string x.1)) := List.filter_cons_of_neg (by simp [hl])
      rw [a1, a2, List.map_cons, List.sum_cons]
      omega
    · have hy : (Lit.string y.1).sameKey (.string n) = false := by rw [e, beq_eq_false_iff_ne]; exact h1 _ hm
      have := ih h2 hm
      cases hly : left (.string y.1) with
      | true =>
        rw [List.filter_cons_of_neg (by simp [hly, hy]), List.filter_cons_of_neg (by simp [hly])]
        exact this
      | false =>
        rw [List.filter_cons_of_pos (by simp [hly]), List.filter_cons_of_pos (by simp [hly]), List.map_cons, List.map_cons, List.sum_cons, List.sum_cons]
        omega
theorem wt_le {r : Row} {x : Txt × Txt} (h : x ∈ r) : wt x ≤ sum r := by
  unfold sum
  induction r with
  | nil => simp at h
  | cons y r ih =>
    simp only [List.map_cons, List.sum_cons]
    rcases List.mem_cons.1 h with rfl | h
    · omega
    · have := ih h; omega
end Fil

theorem keyOf_string_inv {P : Program} {k : TypeId} (hk : P.underlying k = some .string) {key : Value} {kl : Lit} (h : keyOf P k key = some kl) : ∃ x : ByteArray, key = .string x ∧ kl = .string x.data.toList := by
  cases key <;> simp [keyOf, hk, mapKey] at h
  obtain ⟨_, rfl⟩ := h
  exact ⟨_, rfl, rfl⟩

set_option maxHeartbeats 1000000 in
theorem size_any (b n : Nat) (r : Fil.Row) (w : World) (hm : ContAt b n r w) (hs : Fil.Sorted r) (hsum : Fil.sum r ≤ 1099511627776) :
    Calls Tryz.prog 32 #[.map (some b)] w fun e w' => e = .returned (.int .i64 ((Fil.used r : Nat) : Int)) ∧ Below w.heap.size w w' := by
  have Hs := Lib.hid hs.apart
  have Hm := Lib.hid hm
  have hm' : w.ownsMap Tryz.prog 9 fileElem b n (Fil.D r) := hm
  clear hm hs
  go_enter Tryz.func32, Tryz.ntmps32
  go_wp2_with (first
    | (at_range; refine wpList_range_own _ rfl _ 74 rfl 9 81 str_law Tryz.underlying74 fileElem b n _ rfl hm' ?_; intro w0 hrg0 hg0 hs0)
    | go_in)
  go_frame
  go_loopw [3] (fun s3 wr => ∃ (left : Lit → Bool) (cnt : Nat), s3 = .int .i64 (((4 + Fil.done r left : Nat)) : Int) ∧ wr.ranges Tryz.prog 9 fileElem b w.heap.size n (Fil.D r) left cnt ∧ w.grownBy wr none)
    (fun _ wr => wr.rangeLeft b w.heap.size)
  case atStart => exact ⟨_, _, by rw [Fil.done_start]; rfl, hrg0, hg0⟩
  case round =>
    clear hrg0 hg0 hs0 hm'
    obtain ⟨left, cnt, rfl, hrg, hgw⟩ := hrel
    have hdl := Fil.done_le r left
    go_wp2_with (first
      | (at_next; refine wpList_next_ranges _ rfl _ rfl 9 str_law fileElem Value.string (fun s => Value.agg #[.string s]) (fun key kl hk => by obtain ⟨x, rfl, _⟩ := keyOf_string_inv Tryz.underlying9 hk; exact ⟨x, rfl⟩) (fun v y hv => by obtain ⟨c, rfl, _⟩ := fileElem_inv hv; exact ⟨c, rfl⟩) b w.heap.size n _ _ _ rfl hrg ?_ ?_)
      | go_in)
    · intro _ hl0
      have hE := Fil.done_end r left hl0
      have hb : Below w.heap.size w wr := ⟨hgw.os, hgw.tape, hgw.output, hgw.size, fun j hj => hgw.block j hj (by simp)⟩
      have Hb := Lib.hid hb
      rw [hE]
      clear hrg hgw hl0 hb hE hdl
      go_wp2
      go_ret
      exact ⟨by unfold Fil.used; simp, Hb.out⟩
    · intro x c kl y ys w1 cnt1 hwx hlx hRc hat hrg1 hlt hg1 hs1 hen
      obtain ⟨x', hx', rfl⟩ := keyOf_string_inv Tryz.underlying9 hwx
      cases hx'
      obtain ⟨c', hc', hz⟩ := fileElem_inv hRc
      cases hc'
      obtain rfl : y = .lit (.string c.data.toList) := congrArg Prod.fst hz
      have hget : Fil.get r x.data.toList = some c.data.toList := by
        have h1 := hat (.lit (.bool true))
        rw [Fil.D_at] at h1
        cases hg : Fil.get r x.data.toList with
        | none => rw [hg] at h1; simp at h1
        | some z => rw [hg] at h1; simp at h1; rw [h1]
      have hmem := Fil.get_mem hget
      have hstep := Fil.done_step Hs.out hmem hlx
      have hwt := Fil.wt_le hmem
      have hdl2 := Fil.done_le r (fun z => left z && !z.sameKey (.string x.data.toList))
      have hwe : Fil.wt (x.data.toList, c.data.toList) = 8 + x.size + c.size := by unfold Fil.wt; rw [ba_len, ba_len]
      rw [hwe] at hstep hwt
      have hgw1 : w.grownBy w1 none := hgw.andThen hg1 (fun j hj => by cases hj; exact Or.inl (Nat.le_refl _))
      have Hrg1 := Lib.hid hrg1
      have Hrg := Lib.hid hrg
      have Hgw1 := Lib.hid hgw1
      have Hstep := Lib.hid hstep
      clear hrg1 hrg hgw1 hgw hg1 hget hmem hat hRc hwx hwe
      clear Hm
      go_wp2_with fail
      go_roundw
      case rel =>
        refine ⟨_, cnt1, ?_, Hrg1.out.alloc _, Hgw1.out.andThen (World.grownBy_alloc _ _ none) (fun j hj => by cases hj)⟩
        rw [Hstep.out]
        congr 1
        simp only [Int.natCast_add]
        omega
      case measure => rw [(Hrg1.out.alloc _).left_eq, Hrg.out.left_eq]; exact hlt
end Go.Proofs.YtalklpnekbfehaaGreat
