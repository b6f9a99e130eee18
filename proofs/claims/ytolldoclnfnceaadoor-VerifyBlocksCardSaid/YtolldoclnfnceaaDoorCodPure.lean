/-
  Plain mathematics of layer 12: programs and their bytes, instructions and their lines.
-/
import Derived.Test.YtolldoclnfnceaaDoorGoAll
set_option linter.unusedVariables false
namespace Cod
/-- an instruction: its op, its arg -/
abbrev In := UInt8 × UInt8
def has (op : UInt8) : Bool := op == 1 || op == 2 || op == 3 || op == 17 || op == 18 || op == 22
/-- may an instruction be so -/
def ins (x : In) : Bool := decide (1 ≤ x.1.toNat) && (decide (x.1.toNat ≤ 23) && (x.2 == 0 || has x.1))
structure Pr where
  ts : List (List UInt8)
  cs : List In
def Pr.May (p : Pr) : Prop := p.ts.length ≤ 16 ∧ (∀ t ∈ p.ts, t.length ≤ 64) ∧ p.cs.length ≤ 256 ∧ ∀ x ∈ p.cs, ins x = true
instance (p : Pr) : Decidable p.May := inferInstanceAs (Decidable (_ ∧ _ ∧ _ ∧ _))
def b8 (n : Nat) : UInt8 := UInt8.ofNat n
theorem b8_nat {n : Nat} (h : n ≤ 255) : (b8 n).toNat = n := by
  unfold b8
  rw [UInt8.toNat_ofNat']
  omega
def putT (t : List UInt8) : List UInt8 := b8 t.length :: t
def putC (x : In) : List UInt8 := [x.1, x.2]
def putN (n : Nat) : List UInt8 := [b8 (n % 256), b8 (n / 256)]
def put (p : Pr) : List UInt8 := b8 p.ts.length :: (p.ts.flatMap putT ++ (putN p.cs.length ++ p.cs.flatMap putC))
/-- n texts, and what is left -/
def getT : Nat → List UInt8 → Option (List (List UInt8) × List UInt8)
  | 0, l => some ([], l)
  | _ + 1, [] => none
  | n + 1, b :: l => if l.length < b.toNat then none else (getT n (l.drop b.toNat)).map fun x => (l.take b.toNat :: x.1, x.2)
/-- instructions, two bytes each -/
def getC : List UInt8 → List In
  | a :: b :: r => (a, b) :: getC r
  | _ => []
/-- what stands behind the texts -/
def getR (ts : List (List UInt8)) : List UInt8 → Option Pr
  | a :: b :: r => if r.length = 2 * (a.toNat + 256 * b.toNat) ∧ (⟨ts, getC r⟩ : Pr).May then some ⟨ts, getC r⟩ else none
  | _ => none
def get : List UInt8 → Option Pr
  | [] => none
  | n :: l => match getT n.toNat l with
    | none => none
    | some x => getR x.1 x.2
theorem getT_put : ∀ (ts : List (List UInt8)) (r : List UInt8), (∀ t ∈ ts, t.length ≤ 255) → getT ts.length (ts.flatMap putT ++ r) = some (ts, r)
  | [], r, _ => rfl
  | t :: ts, r, h => by
    have ht := h t (by simp)
    have ih := getT_put ts r (fun u hu => h u (by simp [hu]))
    rw [List.length_cons, List.flatMap_cons, List.append_assoc]
    show getT (ts.length + 1) (b8 t.length :: (t ++ (ts.flatMap putT ++ r))) = _
    rw [getT, b8_nat ht, if_neg (by simp), List.drop_append_of_le_length (Nat.le_refl _), List.drop_length, List.nil_append]
    rw [ih, List.take_append_of_le_length (Nat.le_refl _), List.take_length]
    rfl
theorem getT_is : ∀ (n : Nat) (l : List UInt8) (ts : List (List UInt8)) (r : List UInt8), getT n l = some (ts, r) → ts.length = n ∧ l = ts.flatMap putT ++ r ∧ ∀ t ∈ ts, t.length ≤ 255
  | 0, l, ts, r, h => by
    simp only [getT, Option.some.injEq, Prod.mk.injEq] at h
    obtain ⟨rfl, rfl⟩ := h
    exact ⟨rfl, rfl, by simp⟩
  | n + 1, [], ts, r, h => by simp [getT] at h
  | n + 1, b :: l, ts, r, h => by
    unfold getT at h
    by_cases g : l.length < b.toNat
    · rw [if_pos g] at h; cases h
    · rw [if_neg g] at h
      cases hg : getT n (l.drop b.toNat) with
      | none => rw [hg] at h; cases h
      | some x =>
        rw [hg] at h
        simp only [Option.map_some, Option.some.injEq, Prod.mk.injEq] at h
        obtain ⟨rfl, rfl⟩ := h
        obtain ⟨h1, h2, h3⟩ := getT_is n _ x.1 x.2 hg
        have hb : b.toNat ≤ 255 := by have := b.toNat_lt; omega
        have hl : (l.take b.toNat).length = b.toNat := by rw [List.length_take]; omega
        refine ⟨by simp [h1], ?_, fun t ht => ?_⟩
        · rw [List.flatMap_cons]
          unfold putT
          rw [hl, show b8 b.toNat = b from UInt8.toNat_inj.1 (by rw [b8_nat hb]), List.cons_append, List.cons_append, List.append_assoc]
          rw [← show l.drop b.toNat = List.flatMap (fun t => b8 t.length :: t) x.1 ++ x.2 from h2, List.take_append_drop]
        · rcases List.mem_cons.1 ht with rfl | ht
          · omega
          · exact h3 t ht
theorem getC_put : ∀ (cs : List In), getC (cs.flatMap putC) = cs
  | [] => rfl
  | x :: cs => by
    rw [List.flatMap_cons]
    show (x.1, x.2) :: getC (cs.flatMap putC) = x :: cs
    rw [getC_put cs]
theorem getC_is : ∀ (n : Nat) (r : List UInt8), r.length = 2 * n → (getC r).flatMap putC = r ∧ (getC r).length = n
  | 0, [], _ => ⟨rfl, rfl⟩
  | 0, a :: r, h => by simp at h
  | n + 1, [], h => by simp at h
  | n + 1, [a], h => by simp at h; omega
  | n + 1, a :: b :: r, h => by
    obtain ⟨h1, h2⟩ := getC_is n r (by simp at h; omega)
    refine ⟨?_, by simp [getC, h2]⟩
    rw [getC, List.flatMap_cons, h1]
    rfl
theorem putC_length : ∀ (cs : List In), (cs.flatMap putC).length = 2 * cs.length
  | [] => rfl
  | x :: cs => by
    rw [List.flatMap_cons, List.length_append, putC_length cs, List.length_cons]
    simp [putC]; omega
/-- what was put is got -/
theorem get_put {p : Pr} (h : p.May) : get (put p) = some p := by
  obtain ⟨h1, h2, h3, h4⟩ := h
  unfold put get
  simp only
  rw [b8_nat (by omega), getT_put p.ts _ (fun t ht => by have := h2 t ht; omega)]
  simp only [putN, List.cons_append, List.nil_append, getR]
  have e1 : (b8 (p.cs.length % 256)).toNat = p.cs.length % 256 := b8_nat (by omega)
  have e2 : (b8 (p.cs.length / 256)).toNat = p.cs.length / 256 := b8_nat (by omega)
  rw [e1, e2, getC_put, putC_length, if_pos ⟨by omega, h1, h2, h3, h4⟩]
/-- what is got is put as it stood -/
theorem put_get {l : List UInt8} {p : Pr} (h : get l = some p) : p.May ∧ put p = l := by
  cases l with
  | nil => cases h
  | cons n l =>
    unfold get at h
    simp only at h
    cases hg : getT n.toNat l with
    | none => rw [hg] at h; cases h
    | some x =>
      rw [hg] at h
      simp only at h
      obtain ⟨ts, r⟩ := x
      obtain ⟨g1, g2, g3⟩ := getT_is _ _ _ _ hg
      simp only at h
      match r, h, g2 with
      | [], h, _ => cases h
      | [a], h, _ => cases h
      | a :: b :: r, h, g2 =>
        unfold getR at h
        simp only at h
        by_cases hc : r.length = 2 * (a.toNat + 256 * b.toNat) ∧ (⟨ts, getC r⟩ : Pr).May
        · rw [if_pos hc] at h
          simp only [Option.some.injEq] at h
          subst h
          obtain ⟨c1, c2⟩ := hc
          obtain ⟨k1, k2⟩ := getC_is _ _ c1
          refine ⟨c2, ?_⟩
          have ha := a.toNat_lt
          unfold put putN
          simp only
          rw [k1, k2, g1, g2, show b8 n.toNat = n from UInt8.toNat_inj.1 (by rw [b8_nat (by have := n.toNat_lt; omega)])]
          rw [show b8 ((a.toNat + 256 * b.toNat) % 256) = a from UInt8.toNat_inj.1 (by rw [b8_nat (by omega)]; omega), show b8 ((a.toNat + 256 * b.toNat) / 256) = b from UInt8.toNat_inj.1 (by have := b.toNat_lt; rw [b8_nat (by omega)]; omega)]
          rfl
        · rw [if_neg hc] at h; cases h
theorem put_inj {p q : Pr} (hp : p.May) (hq : q.May) (h : put p = put q) : p = q := by
  have h1 := get_put hp
  rw [h, get_put hq] at h1
  exact (Option.some.inj h1).symm
theorem getT_more : ∀ (n : Nat) (l m : List UInt8) (ts : List (List UInt8)) (r : List UInt8), getT n l = some (ts, r) → getT n (l ++ m) = some (ts, r ++ m)
  | 0, l, m, ts, r, h => by
    simp only [getT, Option.some.injEq, Prod.mk.injEq] at h ⊢
    obtain ⟨rfl, rfl⟩ := h
    exact ⟨rfl, rfl⟩
  | n + 1, [], m, ts, r, h => by simp [getT] at h
  | n + 1, b :: l, m, ts, r, h => by
    unfold getT at h
    by_cases g : l.length < b.toNat
    · rw [if_pos g] at h; cases h
    · rw [if_neg g] at h
      cases hg : getT n (l.drop b.toNat) with
      | none => rw [hg] at h; cases h
      | some x =>
        rw [hg] at h
        simp only [Option.map_some, Option.some.injEq, Prod.mk.injEq] at h
        obtain ⟨rfl, rfl⟩ := h
        have ih := getT_more n _ m x.1 x.2 hg
        rw [List.cons_append, getT, if_neg (by rw [List.length_append]; omega), List.drop_append_of_le_length (by omega), ih, List.take_append_of_le_length (by omega)]
        rfl
/-- no program's bytes are the beginning of another one's -/
theorem put_begin {p q : Pr} {m : List UInt8} (hp : p.May) (hq : q.May) (h : put p ++ m = put q) : m = [] := by
  have hg := get_put hq
  rw [← h] at hg
  obtain ⟨h1, h2, h3, h4⟩ := hp
  unfold put get at hg
  simp only [List.cons_append] at hg
  rw [b8_nat (by omega), List.append_assoc, getT_put p.ts _ (fun t ht => by have := h2 t ht; omega)] at hg
  simp only [putN, List.cons_append, List.nil_append, getR] at hg
  have e1 : (b8 (p.cs.length % 256)).toNat = p.cs.length % 256 := b8_nat (by omega)
  have e2 : (b8 (p.cs.length / 256)).toNat = p.cs.length / 256 := b8_nat (by omega)
  rw [e1, e2] at hg
  by_cases hc : (List.flatMap putC p.cs ++ m).length = 2 * (p.cs.length % 256 + 256 * (p.cs.length / 256)) ∧ (⟨p.ts, getC (List.flatMap putC p.cs ++ m)⟩ : Pr).May
  · have := hc.1
    rw [List.length_append, putC_length] at this
    exact List.eq_nil_of_length_eq_zero (by omega)
  · rw [if_neg hc] at hg; cases hg
theorem get_more {p : Pr} {m : List UInt8} (hp : p.May) (hm : m ≠ []) : get (put p ++ m) = none := by
  cases h : get (put p ++ m) with
  | none => rfl
  | some q =>
    obtain ⟨h1, h2⟩ := put_get h
    exact absurd (put_begin hp h1 h2.symm) hm
theorem get_cut {p : Pr} {k : Nat} (hp : p.May) (hk : k < (put p).length) : get ((put p).take k) = none := by
  cases h : get ((put p).take k) with
  | none => rfl
  | some q =>
    obtain ⟨h1, h2⟩ := put_get h
    have := put_begin (m := (put p).drop k) h1 hp (by rw [h2]; exact List.take_append_drop _ _)
    have h3 := congrArg List.length this
    rw [List.length_drop, List.length_nil] at h3
    omega
theorem put_length (p : Pr) : 3 ≤ (put p).length := by unfold put putN; simp; omega
/-- an instruction's name -/
def names : List (List UInt8) := [[], [116, 101, 120, 116], [110, 117, 109], [105, 110], [99, 97, 116], [108, 101, 110], [112, 97, 114, 116], [112, 97, 114, 115, 101], [115, 104, 111, 119], [97, 100, 100], [109, 117, 108], [108, 101, 115, 115], [115, 97, 109, 101], [110, 111, 116], [100, 114, 111, 112], [100, 117, 112], [115, 119, 97, 112], [103, 101, 116], [115, 101, 116], [105, 102], [101, 108, 115, 101], [101, 110, 100], [101, 97, 99, 104], [101, 109, 105, 116]]
def name (op : UInt8) : List UInt8 := names.getD op.toNat []
/-- a number below 256 in decimal -/
def dec (n : Nat) : List UInt8 := if n < 10 then [b8 (48 + n)] else if n < 100 then [b8 (48 + n / 10), b8 (48 + n % 10)] else [b8 (48 + n / 100), b8 (48 + n / 10 % 10), b8 (48 + n % 10)]
/-- its line -/
def line (x : In) : List UInt8 := if has x.1 = true then name x.1 ++ 32 :: dec x.2.toNat else name x.1
/-- the number of its digits -/
def num (l : List UInt8) : Nat := l.foldl (fun a b => a * 10 + (b.toNat - 48)) 0
theorem num_dec : ∀ n, n < 256 → num (dec n) = n := by decide +kernel
theorem dec_inj {a b : UInt8} (h : dec a.toNat = dec b.toNat) : a = b := by
  have h1 := num_dec a.toNat a.toNat_lt
  rw [h, num_dec b.toNat b.toNat_lt] at h1
  exact UInt8.toNat_inj.1 h1.symm
theorem names_no32 : ∀ k, k < 24 → (names.getD k []).contains 32 = false := by decide +kernel
theorem names_inj : ∀ a, a < 24 → ∀ b, b < 24 → names.getD a [] = names.getD b [] → a = b := by decide +kernel
theorem cut32 : ∀ (a b c d : List UInt8), a.contains 32 = false → b.contains 32 = false → a ++ 32 :: c = b ++ 32 :: d → a = b ∧ c = d
  | [], [], c, d, _, _, h => ⟨rfl, by simpa using h⟩
  | [], y :: b, c, d, _, hb, h => by
    simp only [List.nil_append, List.cons_append, List.cons.injEq] at h
    rw [← h.1] at hb
    simp at hb
  | x :: a, [], c, d, ha, _, h => by
    simp only [List.nil_append, List.cons_append, List.cons.injEq] at h
    rw [h.1] at ha
    simp at ha
  | x :: a, y :: b, c, d, ha, hb, h => by
    simp only [List.cons_append, List.cons.injEq] at h
    obtain ⟨h1, h2⟩ := cut32 a b c d (by simp at ha ⊢; exact ha.2) (by simp at hb ⊢; exact hb.2) h.2
    exact ⟨by rw [h.1, h1], h2⟩
theorem ins_op {x : In} (h : ins x = true) : 1 ≤ x.1.toNat ∧ x.1.toNat < 24 := by
  unfold ins at h
  simp only [Bool.and_eq_true, decide_eq_true_eq] at h
  omega
/-- unlike instructions have unlike lines -/
theorem line_inj {x y : In} (hx : ins x = true) (hy : ins y = true) (h : line x = line y) : x = y := by
  have h1 := ins_op hx
  have h2 := ins_op hy
  have n1 := names_no32 _ h1.2
  have n2 := names_no32 _ h2.2
  have hop : ∀ {u v : In}, ins u = true → has u.1 = false → u.2 = 0 := fun {u v} hu hh => by
    unfold ins at hu
    rw [hh] at hu
    simp only [Bool.and_eq_true, Bool.or_false, beq_iff_eq] at hu
    exact hu.2.2
  unfold line name at h
  cases a : has x.1 <;> cases b : has y.1
  · rw [a, b] at h
    simp only [Bool.false_eq_true, if_false] at h
    have e := UInt8.toNat_inj.1 (names_inj _ h1.2 _ h2.2 h)
    exact Prod.ext e (by rw [hop (v := x) hx a, hop (v := x) hy b])
  · rw [a, b] at h
    simp only [Bool.false_eq_true, if_false, if_true] at h
    rw [h] at n1
    simp at n1
  · rw [a, b] at h
    simp only [Bool.false_eq_true, if_false, if_true] at h
    rw [← h] at n2
    simp at n2
  · rw [a, b] at h
    simp only [if_true] at h
    obtain ⟨e1, e2⟩ := cut32 _ _ _ _ n1 n2 h
    exact Prod.ext (UInt8.toNat_inj.1 (names_inj _ h1.2 _ h2.2 e1)) (dec_inj e2)
end Cod
