/-
  Plain mathematics of files: a row of them, rising by their names; changes; how a map of them reads; their encoding.
-/
import Derived.Test.YticcipgdjpoimaaGreatWalA
import Derived.Maps.Views
import Derived.Sort.KeysCollected
set_option linter.unusedVariables false
namespace Go.Proofs.YticcipgdjpoimaaGreat
namespace Fil
open Go Go.Maps

abbrev Txt := List UInt8
abbrev Row := List (Txt × Txt)
structure Chg where
  name : Txt
  data : Txt
  gone : Bool
structure Chg.May (c : Chg) : Prop where
  lo : 1 ≤ c.name.length
  hi : c.name.length ≤ 32
  data : c.data.length ≤ 65535
  gone : c.gone = true → c.data = []
def Sorted (r : Row) : Prop := r.Pairwise fun a b => bytesBefore a.1 b.1 = true
def ins (x : Txt × Txt) : Row → Row
  | [] => [x]
  | y :: r => if bytesBefore x.1 y.1 then x :: y :: r else y :: ins x r
def del (r : Row) (n : Txt) : Row := r.filter fun p => !(p.1 == n)
def put1 (r : Row) (c : Chg) : Row := if c.gone = true then del r c.name else ins (c.name, c.data) (del r c.name)
def puts (r : Row) (l : List Chg) : Row := l.foldl put1 r
def get (r : Row) (n : Txt) : Option Txt := (r.find? fun p => p.1 == n).map (·.2)
def wt (x : Txt × Txt) : Nat := 8 + x.1.length + x.2.length
def sum (r : Row) : Nat := (r.map wt).sum
def used (r : Row) : Nat := 4 + sum r
def enc1 (x : Txt × Txt) : Txt := Oct.le 4 x.1.length ++ x.1 ++ (Oct.le 4 x.2.length ++ x.2)
def enc (r : Row) : Txt := Oct.le 4 r.length ++ r.flatMap enc1
theorem enc1_length (x : Txt × Txt) : (enc1 x).length = wt x := by simp [enc1, wt, Oct.le_length]; omega
theorem flat_length (r : Row) : (r.flatMap enc1).length = sum r := by
  induction r with
  | nil => rfl
  | cons x r ih => simp only [List.flatMap_cons, List.length_append, ih, enc1_length, sum, List.map_cons, List.sum_cons]
theorem enc_length (r : Row) : (enc r).length = used r := by rw [enc, List.length_append, Oct.le_length, flat_length, used]

/-- how a row reads as a map -/
def ent (x : Txt × Txt) : Lit × DataW Unit := (.string x.1, .lit (.string x.2))
def D (r : Row) : DataW Unit := .map (r.map ent)
theorem D_nil : D [] = .map [] := rfl
theorem ins_map (x : Txt × Txt) (r : Row) : DataW.insert (ent x) (r.map ent) = (ins x r).map ent := by
  induction r with
  | nil => rfl
  | cons y r ih =>
    simp only [List.map_cons, DataW.insert, ins]
    have e : (ent x).1.before (ent y).1 = bytesBefore x.1 y.1 := rfl
    rw [e]
    split
    · rfl
    · rw [ih]; rfl
theorem del_map (r : Row) (n : Txt) : (r.map ent).filter (fun p => !p.1.sameKey (.string n)) = (del r n).map ent := by
  induction r with
  | nil => rfl
  | cons y r ih =>
    have e : (ent y).1.sameKey (.string n) = (y.1 == n) := rfl
    simp only [List.map_cons, List.filter_cons, e, del, ih]
    cases y.1 == n <;> simp
theorem D_put (r : Row) (n d : Txt) : (D r).put (.string n) (.lit (.string d)) = D (ins (n, d) (del r n)) := by
  show DataW.map (DataW.insert (ent (n, d)) ((r.map ent).filter _)) = _
  rw [del_map, ins_map]; rfl
theorem D_del (r : Row) (n : Txt) : (D r).del (.string n) = D (del r n) := by
  show DataW.map ((r.map ent).filter _) = _
  rw [del_map]; rfl
theorem D_size (r : Row) : Maps.size (D r) = r.length := by simp [D, Maps.size]
theorem D_has (r : Row) (n : Txt) : Maps.has (D r) (.string n) = (get r n).isSome := by
  unfold D Maps.has get
  induction r with
  | nil => rfl
  | cons y r ih =>
    have e : (ent y).1.sameKey (.string n) = (y.1 == n) := rfl
    simp only [List.map_cons, List.any_cons, List.find?_cons, e]
    cases h : y.1 == n
    · simpa using ih
    · simp
theorem D_at (r : Row) (n : Txt) (z : DataW Unit) : (D r).atKey (.string n) z = match get r n with | some d => .lit (.string d) | none => z := by
  unfold D DataW.atKey get
  induction r with
  | nil => rfl
  | cons y r ih =>
    have e : (ent y).1.sameKey (.string n) = (y.1 == n) := rfl
    simp only [List.map_cons, List.find?_cons, e]
    cases h : y.1 == n
    · simpa using ih
    · simp [ent]
theorem D_keys (r : Row) : strKeys (D r) = r.map (·.1) := by
  simp [D, strKeys, ent, strOf]

theorem mem_ins {x y : Txt × Txt} {r : Row} : y ∈ ins x r ↔ y = x ∨ y ∈ r := by
  induction r with
  | nil => simp [ins]
  | cons z r ih =>
    simp only [ins]
    split
    · simp
    · simp only [List.mem_cons, ih]
      constructor
      · rintro (h | h | h)
        · exact .inr (.inl h)
        · exact .inl h
        · exact .inr (.inr h)
      · rintro (h | h | h)
        · exact .inr (.inl h)
        · exact .inl h
        · exact .inr (.inr h)
theorem Sorted.del {r : Row} (h : Sorted r) (n : Txt) : Sorted (del r n) := h.filter _
theorem Sorted.ins {r : Row} (h : Sorted r) (x : Txt × Txt) (hx : ∀ y ∈ r, y.1 ≠ x.1) : Sorted (ins x r) := by
  induction r with
  | nil => exact List.pairwise_singleton _ _
  | cons z r ih =>
    obtain ⟨h1, h2⟩ := List.pairwise_cons.1 h
    unfold Fil.ins
    split
    · rename_i hb
      refine List.pairwise_cons.2 ⟨fun y hy => ?_, h⟩
      rcases List.mem_cons.1 hy with rfl | hy
      · exact hb
      · exact WideShapes.bytes_trans _ _ _ hb (h1 y hy)
    · rename_i hb
      refine List.pairwise_cons.2 ⟨fun y hy => ?_, ih h2 (fun y hy => hx y (List.mem_cons_of_mem _ hy))⟩
      rcases mem_ins.1 hy with rfl | hy
      · rcases WideAt.bytes_total z.1 y.1 (hx z List.mem_cons_self) with h3 | h3
        · exact h3
        · exact absurd h3 hb
      · exact h1 y hy
theorem mem_del {r : Row} {n : Txt} {y : Txt × Txt} : y ∈ del r n ↔ y ∈ r ∧ y.1 ≠ n := by simp [del, List.mem_filter]
theorem Sorted.put1 {r : Row} (h : Sorted r) (c : Chg) : Sorted (put1 r c) := by
  unfold Fil.put1
  split
  · exact h.del _
  · exact (h.del _).ins _ (fun y hy => (mem_del.1 hy).2)
theorem Sorted.puts {r : Row} (h : Sorted r) (l : List Chg) : Sorted (puts r l) := by
  induction l generalizing r with
  | nil => exact h
  | cons c l ih => exact ih (h.put1 c)
theorem puts_append (r : Row) (a b : List Chg) : puts r (a ++ b) = puts (puts r a) b := List.foldl_append
/-- all files may be -/
def Fine (r : Row) : Prop := ∀ x ∈ r, 1 ≤ x.1.length ∧ x.1.length ≤ 32 ∧ x.2.length ≤ 65535
theorem Fine.put1 {r : Row} (h : Fine r) {c : Chg} (hc : c.May) : Fine (put1 r c) := by
  intro y hy
  unfold Fil.put1 at hy
  split at hy
  · exact h y (mem_del.1 hy).1
  · rcases mem_ins.1 hy with rfl | hy
    · exact ⟨hc.lo, hc.hi, hc.data⟩
    · exact h y (mem_del.1 hy).1
theorem Fine.puts {r : Row} (h : Fine r) {l : List Chg} (hl : ∀ c ∈ l, c.May) : Fine (puts r l) := by
  induction l generalizing r with
  | nil => exact h
  | cons c l ih => exact ih (h.put1 (hl c List.mem_cons_self)) (fun x hx => hl x (List.mem_cons_of_mem _ hx))
theorem ins_len (x : Txt × Txt) (r : Row) : (ins x r).length = r.length + 1 := by
  induction r with
  | nil => rfl
  | cons y r ih => unfold ins; split <;> simp [ih]
theorem del_len (r : Row) (n : Txt) : (del r n).length ≤ r.length := List.length_filter_le _ _
theorem put1_len (r : Row) (c : Chg) : (put1 r c).length ≤ r.length + 1 := by
  unfold put1
  have := del_len r c.name
  split
  · omega
  · rw [ins_len]; omega
theorem puts_len (r : Row) (l : List Chg) : (puts r l).length ≤ r.length + l.length := by
  induction l generalizing r with
  | nil => simp [puts]
  | cons c l ih =>
    have h1 := ih (put1 r c)
    have h2 := put1_len r c
    show (puts (put1 r c) l).length ≤ _
    simp only [List.length_cons]; omega
theorem len_used (r : Row) : 8 * r.length ≤ sum r := by
  induction r with
  | nil => simp [sum]
  | cons x r ih =>
    simp only [sum, List.map_cons, List.sum_cons, List.length_cons, wt] at ih ⊢
    omega
end Fil
end Go.Proofs.YticcipgdjpoimaaGreat
