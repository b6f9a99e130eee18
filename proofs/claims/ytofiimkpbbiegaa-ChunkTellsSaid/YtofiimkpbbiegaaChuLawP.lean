/-
  Plain mathematics of layer 9's laws: all cuts from one place on.
-/
import Derived.Test.YtofiimkpbbiegaaChuPcs
set_option linter.unusedVariables false
namespace Go.Proofs.Ytofiimkpbbiegaa
namespace Chu
/-- all cuts behind one -/
def all (mk : Nat → Bool) (mn mx len a : Nat) : List Nat := ends mk mn mx len len a
section
variable {mk mk' : Nat → Bool} {mn mx len len' : Nat} (h1 : 1 ≤ mn) (h2 : mn ≤ mx)
include h1 h2
theorem all_cons {a : Nat} (h : a < len) : all mk mn mx len a = nxt mk mn mx len a :: all mk mn mx len (nxt mk mn mx len a) := ends_next h1 h2 h
omit h1 h2 in
theorem all_nil {a : Nat} (h : len ≤ a) : all mk mn mx len a = [] := ends_done _ _ _ _ _ _ h
theorem all_drop : ∀ (i a : Nat), i < (all mk mn mx len a).length → (all mk mn mx len a).drop (i + 1) = all mk mn mx len ((all mk mn mx len a).getD i 0)
  | i, a, h => by
    by_cases ha : a < len
    · rw [all_cons h1 h2 ha] at h ⊢
      cases i with
      | zero => simp
      | succ i =>
        rw [List.drop_succ_cons, List.getD_cons_succ]
        exact all_drop i _ (by simpa using h)
    · rw [all_nil (by omega)] at h; simp at h
theorem all_get : ∀ (i a : Nat), i < (all mk mn mx len a).length → (all mk mn mx len a).getD i 0 = nxt mk mn mx len ((a :: all mk mn mx len a).getD i 0) ∧ (a :: all mk mn mx len a).getD i 0 < len
  | i, a, h => by
    by_cases ha : a < len
    · rw [all_cons h1 h2 ha] at h ⊢
      cases i with
      | zero => exact ⟨rfl, ha⟩
      | succ i =>
        rw [List.getD_cons_succ, List.getD_cons_succ]
        exact all_get i _ (by simpa using h)
    · rw [all_nil (by omega)] at h; simp at h
theorem all_le {i a : Nat} (h : i < (all mk mn mx len a).length) : (all mk mn mx len a).getD i 0 ≤ len := by
  obtain ⟨e, hl⟩ := all_get h1 h2 i a h
  rw [e]
  exact (nxt_range h1 h2 hl).2.2
theorem all_last {i a : Nat} (h : i < (all mk mn mx len a).length) : i + 1 = (all mk mn mx len a).length ↔ (all mk mn mx len a).getD i 0 = len := by
  have hd := all_drop h1 h2 i a h
  have hl := all_le h1 h2 h
  constructor
  · intro e
    rw [e, List.drop_length] at hd
    rcases Nat.lt_or_ge ((all mk mn mx len a).getD i 0) len with g | g
    · rw [all_cons h1 h2 g] at hd; cases hd
    · omega
  · intro e
    rw [e, all_nil (Nat.le_refl _)] at hd
    have := List.drop_eq_nil_iff.1 hd
    omega
/-- where two texts begin alike, up to p -/
theorem begins_at {p : Nat} (hp : p ≤ len) (hp' : p ≤ len') (hmk : ∀ j, j ≤ p → mk' j = mk j) : ∀ (i a : Nat), i < (all mk mn mx len a).length → i < (all mk' mn mx len' a).length →
    (∀ j, j < i → (all mk mn mx len a).getD j 0 ≤ p ∧ (all mk' mn mx len' a).getD j 0 ≤ p) →
    ((all mk mn mx len a).getD i 0 ≤ p → (all mk' mn mx len' a).getD i 0 ≤ p → (all mk mn mx len a).getD i 0 = (all mk' mn mx len' a).getD i 0) ∧
    (p < (all mk mn mx len a).getD i 0 ∨ p < (all mk' mn mx len' a).getD i 0 → (p < (all mk mn mx len a).getD i 0 ∨ (len = p ∧ i + 1 = (all mk mn mx len a).length)) ∧ (p < (all mk' mn mx len' a).getD i 0 ∨ (len' = p ∧ i + 1 = (all mk' mn mx len' a).length)))
  | i, a, hx, hy, hj => by
    have hlx := @all_last mk mn mx len h1 h2 i a hx
    have hly := @all_last mk' mn mx len' h1 h2 i a hy
    by_cases ha : a < len
    · by_cases hb : a < len'
      · -- the first ones
        have key : nxt mk mn mx len a ≤ p → nxt mk' mn mx len' a ≤ p → nxt mk mn mx len a = nxt mk' mn mx len' a := fun ex ey => by
          by_cases e : nxt mk mn mx len a = len
          · by_cases e' : nxt mk' mn mx len' a = len'
            · omega
            · exact nxt_begin hp' hp (fun j hj => (hmk j hj).symm) ey (.inl e')
          · exact (nxt_begin hp hp' hmk ex (.inl e)).symm
        have kx : nxt mk mn mx len a ≤ p → p < nxt mk' mn mx len' a → nxt mk mn mx len a = len := fun ex ey => by
          by_cases e : nxt mk mn mx len a = len
          · exact e
          · have := nxt_begin hp hp' hmk ex (.inl e); omega
        have ky : p < nxt mk mn mx len a → nxt mk' mn mx len' a ≤ p → nxt mk' mn mx len' a = len' := fun ex ey => by
          by_cases e : nxt mk' mn mx len' a = len'
          · exact e
          · have := nxt_begin hp' hp (fun j hj => (hmk j hj).symm) ey (.inl e); omega
        cases i with
        | zero =>
          have ex := all_cons (mk := mk) h1 h2 ha
          have ey := all_cons (mk := mk') h1 h2 hb
          have gx : (all mk mn mx len a).getD 0 0 = nxt mk mn mx len a := by rw [ex]; rfl
          have gy : (all mk' mn mx len' a).getD 0 0 = nxt mk' mn mx len' a := by rw [ey]; rfl
          rw [gx] at hlx ⊢
          rw [gy] at hly ⊢
          refine ⟨key, fun h => ⟨?_, ?_⟩⟩
          · rcases Nat.lt_or_ge p (nxt mk mn mx len a) with g | g
            · exact .inl g
            · have hy' : p < nxt mk' mn mx len' a := by omega
              have := kx g hy'
              exact .inr ⟨by omega, hlx.2 this⟩
          · rcases Nat.lt_or_ge p (nxt mk' mn mx len' a) with g | g
            · exact .inl g
            · have hx' : p < nxt mk mn mx len a := by omega
              have := ky hx' g
              exact .inr ⟨by omega, hly.2 this⟩
        | succ i =>
          have h0 := hj 0 (by omega)
          have ex := all_cons (mk := mk) h1 h2 ha
          have ey := all_cons (mk := mk') h1 h2 hb
          have gx : (all mk mn mx len a).getD 0 0 = nxt mk mn mx len a := by rw [ex]; rfl
          have gy : (all mk' mn mx len' a).getD 0 0 = nxt mk' mn mx len' a := by rw [ey]; rfl
          rw [gx, gy] at h0
          have e := key h0.1 h0.2
          have sx : ∀ j, (all mk mn mx len a).getD (j + 1) 0 = (all mk mn mx len (nxt mk mn mx len a)).getD j 0 := fun j => by rw [ex]; rfl
          have sy : ∀ j, (all mk' mn mx len' a).getD (j + 1) 0 = (all mk' mn mx len' (nxt mk mn mx len a)).getD j 0 := fun j => by rw [ey, e]; rfl
          have lx : (all mk mn mx len a).length = (all mk mn mx len (nxt mk mn mx len a)).length + 1 := by rw [ex]; rfl
          have ly : (all mk' mn mx len' a).length = (all mk' mn mx len' (nxt mk mn mx len a)).length + 1 := by rw [ey, e]; rfl
          have ih := begins_at hp hp' hmk i (nxt mk mn mx len a) (by omega) (by omega) (fun j hj' => by
            have := hj (j + 1) (by omega)
            rw [sx, sy] at this
            exact this)
          rw [sx, sy, lx, ly]
          refine ⟨ih.1, fun h => ?_⟩
          obtain ⟨a1, a2⟩ := ih.2 h
          exact ⟨a1.imp id (fun h => ⟨h.1, by omega⟩), a2.imp id (fun h => ⟨h.1, by omega⟩)⟩
      · rw [all_nil (by omega)] at hy; simp at hy
    · rw [all_nil (by omega)] at hx; simp at hx
end
/-- behind a common cut, all cuts are the same -/
theorem all_shift {mk mk' : Nat → Bool} {mn mx len n : Nat} (h1 : 1 ≤ mn) (h2 : mn ≤ mx) (j : Nat) (hmk : ∀ i, j + mn ≤ i → i ≤ len → mk' (n + i) = mk i) : all mk' mn mx (n + len) (n + j) = (all mk mn mx len j).map (n + ·) := by
  unfold all
  rw [ends_fuel h1 h2 (n + len) len _ (by omega) (by omega)]
  exact ends_shift h1 h2 j hmk len j (Nat.le_refl _)
end Chu
theorem Ctr.ends_all (c : Ctr) (l : List UInt8) : c.ends l = Chu.all (c.isMk l) c.mn.toNat c.mx.toNat l.length 0 := rfl
end Go.Proofs.Ytofiimkpbbiegaa
