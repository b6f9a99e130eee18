/-
  Plain mathematics of layer 9: into which pieces a text is cut, by its marks.
-/
set_option linter.unusedVariables false
namespace Go.Proofs.Ytofiimkpbbiegaa
namespace Chu
/-- the first of f places from i on that is a mark, else e -/
def scan (mk : Nat → Bool) (e : Nat) : Nat → Nat → Nat
  | 0, _ => e
  | f + 1, i => if mk i = true then i else scan mk e f (i + 1)
theorem scan_is (mk : Nat → Bool) (e : Nat) : ∀ (f i : Nat), (scan mk e f i = e ∧ ∀ j, i ≤ j → j < i + f → mk j = false) ∨ (i ≤ scan mk e f i ∧ scan mk e f i < i + f ∧ mk (scan mk e f i) = true ∧ ∀ j, i ≤ j → j < scan mk e f i → mk j = false)
  | 0, i => .inl ⟨rfl, fun j h1 h2 => by omega⟩
  | f + 1, i => by
    unfold scan
    by_cases h : mk i = true
    · rw [if_pos h]
      exact .inr ⟨by omega, by omega, h, fun j h1 h2 => by omega⟩
    · rw [if_neg h]
      have h' : mk i = false := by simpa using h
      rcases scan_is mk e f (i + 1) with ⟨h1, h2⟩ | ⟨h1, h2, h3, h4⟩
      · refine .inl ⟨h1, fun j a b => ?_⟩
        rcases Nat.lt_or_ge i j with c | c
        · exact h2 j (by omega) (by omega)
        · rw [show j = i by omega]; exact h'
      · refine .inr ⟨by omega, by omega, h3, fun j a b => ?_⟩
        rcases Nat.lt_or_ge i j with c | c
        · exact h4 j (by omega) b
        · rw [show j = i by omega]; exact h'
/-- the cut behind one -/
def nxt (mk : Nat → Bool) (mn mx len at_ : Nat) : Nat := scan mk (min (at_ + mx) len) (min (at_ + mx) len + 1 - (at_ + mn)) (at_ + mn)
section
variable {mk : Nat → Bool} {mn mx len at_ : Nat}
theorem nxt_cases (mk : Nat → Bool) (mn mx len at_ : Nat) : (nxt mk mn mx len at_ = min (at_ + mx) len ∧ ∀ j, at_ + mn ≤ j → j ≤ min (at_ + mx) len → mk j = false) ∨
    (at_ + mn ≤ nxt mk mn mx len at_ ∧ nxt mk mn mx len at_ ≤ min (at_ + mx) len ∧ mk (nxt mk mn mx len at_) = true ∧ ∀ j, at_ + mn ≤ j → j < nxt mk mn mx len at_ → mk j = false) := by
  unfold nxt
  rcases scan_is mk (min (at_ + mx) len) (min (at_ + mx) len + 1 - (at_ + mn)) (at_ + mn) with ⟨h1, h2⟩ | ⟨h1, h2, h3, h4⟩
  · exact .inl ⟨h1, fun j a b => h2 j a (by omega)⟩
  · exact .inr ⟨h1, by omega, h3, h4⟩
/-- it lies behind, and not too far -/
theorem nxt_range (h1 : 1 ≤ mn) (h2 : mn ≤ mx) (h : at_ < len) : at_ < nxt mk mn mx len at_ ∧ nxt mk mn mx len at_ ≤ at_ + mx ∧ nxt mk mn mx len at_ ≤ len := by
  rcases nxt_cases mk mn mx len at_ with ⟨e, _⟩ | ⟨a, b, _⟩
  · omega
  · omega
theorem nxt_lo (h2 : mn ≤ mx) : nxt mk mn mx len at_ = len ∨ at_ + mn ≤ nxt mk mn mx len at_ := by
  rcases nxt_cases mk mn mx len at_ with ⟨e, _⟩ | ⟨a, b, _⟩
  · omega
  · exact .inr a
theorem nxt_mark (h1 : nxt mk mn mx len at_ < at_ + mx) (h2 : nxt mk mn mx len at_ < len) : mk (nxt mk mn mx len at_) = true := by
  rcases nxt_cases mk mn mx len at_ with ⟨e, _⟩ | ⟨_, _, c, _⟩
  · omega
  · exact c
/-- what the cut behind one is, told by what it is like -/
theorem nxt_eq {r : Nat} (hr : r ≤ min (at_ + mx) len) (hm : r = min (at_ + mx) len ∨ (at_ + mn ≤ r ∧ mk r = true)) (hno : ∀ j, at_ + mn ≤ j → j < r → mk j = false) : nxt mk mn mx len at_ = r := by
  rcases nxt_cases mk mn mx len at_ with ⟨e, h⟩ | ⟨a, b, c, h⟩
  · rcases hm with hm | ⟨g1, g2⟩
    · omega
    · rw [h r g1 hr] at g2; cases g2
  · rcases Nat.lt_or_ge (nxt mk mn mx len at_) r with g | g
    · rw [hno _ a g] at c; cases c
    · rcases hm with hm | ⟨g1, g2⟩
      · omega
      · rcases Nat.lt_or_ge r (nxt mk mn mx len at_) with g3 | g3
        · rw [h r g1 g3] at g2; cases g2
        · omega
/-- marks that are the same, n places further on -/
theorem nxt_shift {mk' : Nat → Bool} {n : Nat} (hmk : ∀ j, at_ + mn ≤ j → j ≤ len → mk' (n + j) = mk j) : nxt mk' mn mx (n + len) (n + at_) = n + nxt mk mn mx len at_ := by
  rcases nxt_cases mk mn mx len at_ with ⟨e, h⟩ | ⟨a, b, c, h⟩
  · refine nxt_eq (by omega) (.inl (by omega)) (fun j g1 g2 => ?_)
    obtain ⟨i, rfl⟩ : ∃ i, j = n + i := ⟨j - n, by omega⟩
    rw [hmk i (by omega) (by omega)]
    exact h i (by omega) (by omega)
  · refine nxt_eq (by omega) (.inr ⟨by omega, by rw [hmk _ a (by omega)]; exact c⟩) (fun j g1 g2 => ?_)
    obtain ⟨i, rfl⟩ : ∃ i, j = n + i := ⟨j - n, by omega⟩
    rw [hmk i (by omega) (by omega)]
    exact h i (by omega) (by omega)
/-- texts that begin alike, up to the place p -/
theorem nxt_begin {mk' : Nat → Bool} {len' p : Nat} (hp : p ≤ len) (hp' : p ≤ len') (hmk : ∀ j, j ≤ p → mk' j = mk j) (h : nxt mk mn mx len at_ ≤ p) (hq : nxt mk mn mx len at_ ≠ len ∨ len = len') : nxt mk' mn mx len' at_ = nxt mk mn mx len at_ := by
  rcases nxt_cases mk mn mx len at_ with ⟨e, g⟩ | ⟨a, b, c, g⟩
  · refine nxt_eq (by omega) (.inl (by omega)) (fun j g1 g2 => ?_)
    rw [hmk j (by omega)]
    exact g j g1 (by omega)
  · refine nxt_eq (by omega) (.inr ⟨a, by rw [hmk _ h]; exact c⟩) (fun j g1 g2 => ?_)
    rw [hmk j (by omega)]
    exact g j g1 g2
end
/-- the places where the pieces end, from one cut on; f: as many as there may be -/
def ends (mk : Nat → Bool) (mn mx len : Nat) : Nat → Nat → List Nat
  | 0, _ => []
  | f + 1, i => if i < len then nxt mk mn mx len i :: ends mk mn mx len f (nxt mk mn mx len i) else []
theorem ends_done (mk : Nat → Bool) (mn mx len f i : Nat) (h : len ≤ i) : ends mk mn mx len f i = [] := by
  cases f with
  | zero => rfl
  | succ f => unfold ends; rw [if_neg (by omega)]
/-- more steps than bytes change nothing -/
theorem ends_fuel {mk : Nat → Bool} {mn mx len : Nat} (h1 : 1 ≤ mn) (h2 : mn ≤ mx) : ∀ (f g i : Nat), len ≤ i + f → len ≤ i + g → ends mk mn mx len f i = ends mk mn mx len g i
  | 0, g, i, hf, _ => by rw [ends_done _ _ _ _ 0 i (by omega), ends_done _ _ _ _ g i (by omega)]
  | f + 1, 0, i, _, hg => by rw [ends_done _ _ _ _ 0 i (by omega), ends_done _ _ _ _ (f + 1) i (by omega)]
  | f + 1, g + 1, i, hf, hg => by
    unfold ends
    by_cases h : i < len
    · have := nxt_range (mk := mk) h1 h2 h
      rw [if_pos h, if_pos h, ends_fuel h1 h2 f g _ (by omega) (by omega)]
    · rw [if_neg h, if_neg h]
/-- the ends rise, from behind i to len -/
theorem ends_range {mk : Nat → Bool} {mn mx len : Nat} (h1 : 1 ≤ mn) (h2 : mn ≤ mx) : ∀ (f i : Nat), ∀ x ∈ ends mk mn mx len f i, i < x ∧ x ≤ len
  | 0, _, x, hx => by simp [ends] at hx
  | f + 1, i, x, hx => by
    unfold ends at hx
    by_cases h : i < len
    · have g := nxt_range (mk := mk) h1 h2 h
      rw [if_pos h] at hx
      rcases List.mem_cons.1 hx with rfl | hx
      · omega
      · have := ends_range h1 h2 f _ x hx
        omega
    · rw [if_neg h] at hx; simp at hx
/-- cut alike from one place on, whose marks lie n places apart: the rest is alike -/
theorem ends_shift {mk mk' : Nat → Bool} {mn mx len n : Nat} (h1 : 1 ≤ mn) (h2 : mn ≤ mx) (i0 : Nat) (hmk : ∀ j, i0 + mn ≤ j → j ≤ len → mk' (n + j) = mk j) : ∀ (f i : Nat), i0 ≤ i → ends mk' mn mx (n + len) f (n + i) = (ends mk mn mx len f i).map (n + ·)
  | 0, i, _ => rfl
  | f + 1, i, hi => by
    unfold ends
    by_cases h : i < len
    · have g := nxt_range (mk := mk) h1 h2 h
      rw [if_pos h, if_pos (by omega), nxt_shift (fun j a b => hmk j (by omega) b), ends_shift h1 h2 i0 hmk f _ (by omega)]
      rfl
    · rw [if_neg h, if_neg (by omega)]
      rfl
/-- no more pieces than Most tells -/
theorem ends_most {mk : Nat → Bool} {mn mx len : Nat} (h1 : 1 ≤ mn) (h2 : mn ≤ mx) : ∀ (f i : Nat), i ≤ len → (ends mk mn mx len f i).length * mn ≤ len - i + (mn - 1)
  | 0, i, _ => by simp [ends]
  | f + 1, i, hi => by
    unfold ends
    by_cases h : i < len
    · have g := nxt_range (mk := mk) (mn := mn) (mx := mx) (len := len) (at_ := i) h1 h2 h
      rw [if_pos h, List.length_cons, Nat.add_mul, Nat.one_mul]
      rcases nxt_lo (mk := mk) (mn := mn) (mx := mx) (len := len) (at_ := i) h2 with e | e
      · rw [ends_done mk mn mx len f (nxt mk mn mx len i) (by omega)]
        simp only [List.length_nil, Nat.zero_mul]
        omega
      · have ih := ends_most (mk := mk) (len := len) h1 h2 f (nxt mk mn mx len i) (by omega)
        omega
    · rw [if_neg h]; simp
end Chu
end Go.Proofs.Ytofiimkpbbiegaa
