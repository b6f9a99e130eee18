/-
  Plain mathematics: polynomials that are prime; powers; by a prime the power of 2^d - 1, d the degree, of what is no multiple is 1.
-/
import Derived.Test.YtofiimkpbbiegaaPolPure
set_option linter.unusedVariables false
namespace Pol

/-- prime: it has no factor but itself and 1 -/
def irr (q : Nat) : Prop := 2 ≤ len q ∧ ∀ a b, mul a b = q → a = 1 ∨ b = 1
theorem irr_ne {q : Nat} (h : irr q) : q ≠ 0 := fun e => by have := h.1; subst e; rw [len_zero] at this; omega
theorem euclid {q a b : Nat} (hq : irr q) (h : dv q (mul a b)) : dv q a ∨ dv q b := by
  obtain ⟨⟨x, hx⟩, h2⟩ := gcd_dv q a
  rcases hq.2 _ _ hx with e | e
  · right
    obtain ⟨u, v, hb⟩ := bezout q a
    rw [e] at hb
    have h3 : b = mul (mul u q) b ^^^ mul v (mul a b) := by
      rw [← mul_assoc, ← mul_xor_left, ← hb, one_mul]
    rw [h3]
    exact dv_xor (dv_times (dv_mul' q u) b) (dv_times' h v)
  · left
    rw [e, mul_one] at hx
    rw [hx] at h2; exact h2

/-- the factors of at most half the degree -/
def tri (p : Nat) : Prop := ∀ q, 2 ≤ q → 2 * (len q - 1) ≤ len p - 1 → rem p q ≠ 0
theorem two_le_len {a : Nat} (h0 : a ≠ 0) (h1 : a ≠ 1) : 2 ≤ len a := by
  have := (lt_len a 1).2 (by omega)
  omega
theorem irr_tri {p : Nat} (h : irr p) : tri p := by
  intro q hq hl e
  obtain ⟨c, hc⟩ := (rem_eq_zero (show q ≠ 0 by omega)).1 e
  rcases h.2 q c hc with e1 | e1
  · omega
  · subst e1
    rw [mul_one] at hc
    subst hc
    have := h.1
    omega
theorem tri_irr {p : Nat} (hp : 2 ≤ len p) (h : tri p) : irr p := by
  refine ⟨hp, fun a b hab => ?_⟩
  by_cases ha : a = 1
  · exact .inl ha
  by_cases hb : b = 1
  · exact .inr hb
  exfalso
  have hp0 : p ≠ 0 := fun e => by subst e; rw [len_zero] at hp; omega
  have ha0 : a ≠ 0 := fun e => hp0 (by rw [← hab, e, zero_mul])
  have hb0 : b ≠ 0 := fun e => hp0 (by rw [← hab, e, mul_zero])
  have hl := (len_mul ha0 hb0).2
  rw [hab] at hl
  by_cases hc : len a ≤ len b
  · exact h a (by omega) (by omega) ((rem_eq_zero ha0).2 ⟨b, hab⟩)
  · exact h b (by omega) (by omega) ((rem_eq_zero hb0).2 ⟨a, by rw [mul_comm]; exact hab⟩)
theorem irr_factor : ∀ (n p : Nat), len p ≤ n → 2 ≤ len p → ∃ q, irr q ∧ dv q p
  | 0, p, h, h2 => by omega
  | n + 1, p, h, h2 => by
    by_cases hp : irr p
    · exact ⟨p, hp, dv_self p⟩
    · have : ∃ a b, mul a b = p ∧ a ≠ 1 ∧ b ≠ 1 := by
        apply Classical.byContradiction
        intro hn
        apply hp
        refine ⟨h2, fun a b hab => ?_⟩
        apply Classical.byContradiction
        intro h3
        exact hn ⟨a, b, hab, fun e => h3 (.inl e), fun e => h3 (.inr e)⟩
      obtain ⟨a, b, hab, ha, hb⟩ := this
      have hp0 : p ≠ 0 := fun e => by subst e; rw [len_zero] at h2; omega
      have ha0 : a ≠ 0 := fun e => hp0 (by rw [← hab, e, zero_mul])
      have hb0 : b ≠ 0 := fun e => hp0 (by rw [← hab, e, mul_zero])
      have hl := (len_mul ha0 hb0).2
      rw [hab] at hl
      have := two_le_len ha0 ha
      have := two_le_len hb0 hb
      obtain ⟨q, h3, h4⟩ := irr_factor n a (by omega) (by omega)
      exact ⟨q, h3, dv_trans h4 ⟨b, hab⟩⟩

/-- powers -/
def pow (a : Nat) : Nat → Nat
  | 0 => 1
  | n + 1 => mul a (pow a n)
theorem pow_add (a m n : Nat) : pow a (m + n) = mul (pow a m) (pow a n) := by
  induction m with
  | zero => rw [Nat.zero_add, pow, one_mul]
  | succ m ih => rw [Nat.succ_add, pow, ih, pow, mul_assoc]
theorem pow_two (n : Nat) : pow 2 n = 2 ^ n := by
  induction n with
  | zero => rfl
  | succ n ih =>
    rw [pow, ih, mul_pow, Nat.pow_succ, Nat.mul_comm]
theorem cg_pow {p a b : Nat} (h : cg p a b) (n : Nat) : cg p (pow a n) (pow b n) := by
  induction n with
  | zero => exact cg_refl p _
  | succ n ih => exact cg_mul h ih

/-- the product of a row -/
def prod : List Nat → Nat
  | [] => 1
  | a :: l => mul a (prod l)
theorem prod_perm {l m : List Nat} (h : l.Perm m) : prod l = prod m := by
  induction h with
  | nil => rfl
  | cons x _ ih => rw [prod, prod, ih]
  | swap x y l => rw [prod, prod, prod, prod, mul_left_comm]
  | trans _ _ h1 h2 => rw [h1, h2]
theorem prod_times (a : Nat) (l : List Nat) : prod (l.map (mul a)) = mul (pow a l.length) (prod l) := by
  induction l with
  | nil => rw [List.map_nil, List.length_nil, pow, prod, mul_one]
  | cons x l ih =>
    rw [List.map_cons, List.length_cons, prod, prod, ih, pow, mul_assoc, mul_assoc, mul_left_comm x]
theorem prod_cg {p : Nat} (f g : Nat → Nat) (l : List Nat) (h : ∀ x ∈ l, cg p (f x) (g x)) : cg p (prod (l.map f)) (prod (l.map g)) := by
  induction l with
  | nil => exact cg_refl p _
  | cons x l ih => exact cg_mul (h x (List.mem_cons_self ..)) (ih fun y hy => h y (List.mem_cons_of_mem _ hy))
theorem euclid_prod {q : Nat} (hq : irr q) (l : List Nat) (h : dv q (prod l)) : ∃ x ∈ l, dv q x := by
  induction l with
  | nil =>
    exfalso
    have h1 := dv_len h (by decide : prod [] ≠ 0)
    have := hq.1
    have : len (prod []) = 1 := by decide
    omega
  | cons x l ih =>
    rcases euclid hq h with h1 | h1
    · exact ⟨x, List.mem_cons_self .., h1⟩
    · obtain ⟨y, hy, h2⟩ := ih h1
      exact ⟨y, List.mem_cons_of_mem _ hy, h2⟩

theorem perm_of {l m : List Nat} (h1 : l.Nodup) (h2 : ∀ x ∈ l, x ∈ m) (h3 : m.length ≤ l.length) : l.Perm m := by
  induction l generalizing m with
  | nil =>
    cases m with
    | nil => exact .refl _
    | cons y m => simp at h3
  | cons x l ih =>
    have hx : x ∈ m := h2 x (List.mem_cons_self ..)
    have hp := List.perm_cons_erase hx
    have hn := List.nodup_cons.1 h1
    have hlen := List.length_erase_of_mem hx
    refine ((ih (m := m.erase x) hn.2 (fun y hy => ?_) ?_).cons x).trans hp.symm
    · exact (List.mem_erase_of_ne (fun e => hn.1 (by rw [← e]; exact hy))).2 (h2 y (List.mem_cons_of_mem _ hy))
    · rw [hlen]; simp at h3; omega

/-- by a prime the power of 2^d - 1 of what is no multiple is 1 -/
theorem fermat {q a : Nat} (hq : irr q) (ha : ¬ dv q a) : cg q (pow a (2 ^ (len q - 1) - 1)) 1 := by
  have hq0 := irr_ne hq
  have hq2 := hq.1
  obtain ⟨k, hk⟩ : ∃ k, len q = k + 1 := ⟨len q - 1, by omega⟩
  rw [hk, Nat.add_sub_cancel]
  obtain ⟨n, hn⟩ : ∃ n, n = 2 ^ k - 1 := ⟨_, rfl⟩
  have hpos : 0 < 2 ^ k := Nat.pow_pos (by decide)
  obtain ⟨L, hL⟩ : ∃ L, L = List.range' 1 n := ⟨_, rfl⟩
  have hmem : ∀ x, x ∈ L ↔ 1 ≤ x ∧ x < 2 ^ k := by
    intro x; rw [hL, List.mem_range'_1]; omega
  have hno : ∀ x ∈ L, ¬ dv q x := by
    intro x hx hd
    have := (hmem x).1 hx
    have := dv_small hd (by have := (len_le x k).2 this.2; omega)
    omega
  have hnd : L.Nodup := by rw [hL]; exact List.nodup_range' (step := 1)
  have hlen : L.length = n := by rw [hL, List.length_range']
  have hp : (L.map fun c => rem (mul a c) q).Perm L := by
    refine perm_of ?_ ?_ (by rw [List.length_map]; exact Nat.le_refl _)
    · show List.Pairwise _ _
      rw [List.pairwise_map]
      refine List.Pairwise.imp_of_mem ?_ hnd
      intro x y hx hy hxy e
      have h1 : cg q (mul a x) (mul a y) := by
        refine cg_trans (rem_cg _ hq0) ?_
        rw [e]
        exact cg_symm (rem_cg _ hq0)
      unfold cg at h1
      rw [← mul_xor] at h1
      rcases euclid hq h1 with h2 | h2
      · exact ha h2
      · have hx' := (len_le x k).2 ((hmem x).1 hx).2
        have hy' := (len_le y k).2 ((hmem y).1 hy).2
        exact hxy (eq_of_xor (dv_small h2 (by have := len_xor_le hx' hy'; omega)))
    · intro y hy
      obtain ⟨x, hx, rfl⟩ := List.mem_map.1 hy
      rw [hmem]
      have h1 := rem_len (mul a x) hq0
      refine ⟨?_, (len_le _ _).1 (by omega)⟩
      by_cases e : rem (mul a x) q = 0
      · exfalso
        rcases euclid hq ((rem_eq_zero hq0).1 e) with h2 | h2
        · exact ha h2
        · exact hno x hx h2
      · omega
  have h1 : cg q (mul (pow a n) (prod L)) (prod L) := by
    have h2 := prod_cg (p := q) (mul a) (fun c => rem (mul a c) q) L (fun x _ => rem_cg _ hq0)
    rw [prod_perm hp, prod_times, hlen] at h2
    exact h2
  have h3 : dv q (mul (pow a n ^^^ 1) (prod L)) := by
    rw [mul_xor_left, one_mul]; exact h1
  rw [← hn]
  rcases euclid hq h3 with h4 | h4
  · exact h4
  · obtain ⟨x, hx, h5⟩ := euclid_prod hq L h4
    exact absurd h5 (hno x hx)
theorem fermat_x {q : Nat} (hq : irr q) : cg q (pow 2 (2 ^ (len q - 1))) 2 := by
  have hpos : 0 < 2 ^ (len q - 1) := Nat.pow_pos (by decide)
  obtain ⟨n, hn⟩ : ∃ n, 2 ^ (len q - 1) = n + 1 := ⟨2 ^ (len q - 1) - 1, by omega⟩
  by_cases h : dv q 2
  · refine dv_xor ?_ h
    rw [hn, pow]
    exact dv_times h _
  · have := fermat hq h
    rw [hn, Nat.add_sub_cancel] at this
    rw [hn, pow]
    have h2 := cg_mul (cg_refl q 2) this
    rw [mul_one] at h2; exact h2

/-- x^(2^i), squared in turn -/
def frob (p : Nat) : Nat → Nat
  | 0 => 2
  | i + 1 => rem (mul (frob p i) (frob p i)) p
theorem frob_cg {p : Nat} (hp : p ≠ 0) (i : Nat) : cg p (frob p i) (pow 2 (2 ^ i)) := by
  induction i with
  | zero => exact cg_refl p _
  | succ i ih =>
    refine cg_trans (cg_symm (rem_cg _ hp)) ?_
    rw [Nat.pow_succ, Nat.mul_two, pow_add]
    exact cg_mul ih ih
theorem frob_len {p : Nat} (hp : 3 ≤ len p) (i : Nat) : len (frob p i) < len p := by
  cases i with
  | zero => show len 2 < len p; rw [show len 2 = 2 by decide]; omega
  | succ i => exact rem_len _ (fun e => by subst e; rw [len_zero] at hp; omega)

/-- what the program asks of a prime -/
def bo (p : Nat) : Prop := ∀ i, 1 ≤ i → i ≤ (len p - 1) / 2 → gcd p (frob p i ^^^ 2) = 1
theorem bo_irr {p : Nat} (hp : 2 ≤ len p) (h : bo p) : irr p := by
  apply Classical.byContradiction
  intro hn
  have hp0 : p ≠ 0 := fun e => by subst e; rw [len_zero] at hp; omega
  have : ∃ a b, mul a b = p ∧ a ≠ 1 ∧ b ≠ 1 ∧ len a ≤ len b := by
    apply Classical.byContradiction
    intro hm
    apply hn
    refine ⟨hp, fun a b hab => ?_⟩
    apply Classical.byContradiction
    intro h3
    by_cases hl : len a ≤ len b
    · exact hm ⟨a, b, hab, fun e => h3 (.inl e), fun e => h3 (.inr e), hl⟩
    · exact hm ⟨b, a, by rw [mul_comm]; exact hab, fun e => h3 (.inr e), fun e => h3 (.inl e), by omega⟩
  obtain ⟨a, b, hab, ha, hb, hl⟩ := this
  have ha0 : a ≠ 0 := fun e => hp0 (by rw [← hab, e, zero_mul])
  have hb0 : b ≠ 0 := fun e => hp0 (by rw [← hab, e, mul_zero])
  have hlm := (len_mul ha0 hb0).2
  rw [hab] at hlm
  have ha2 := two_le_len ha0 ha
  obtain ⟨q, hq, hqa⟩ := irr_factor _ a (Nat.le_refl _) ha2
  have hqp : dv q p := dv_trans hqa ⟨b, hab⟩
  have hql := dv_len hqa ha0
  have hq2 := hq.1
  have h1 := h (len q - 1) (by omega) (by omega)
  have h2 : dv q (frob p (len q - 1) ^^^ 2) := cg_trans (cg_of_dv hqp (frob_cg hp0 _)) (fermat_x hq)
  have h3 := gcd_of_dv hqp h2
  rw [h1] at h3
  have := dv_len h3 (by decide)
  rw [len_one] at this
  omega
/-- the greatest that a prime and another one are multiples of -/
theorem gcd_irr {p a : Nat} (hp : irr p) (ha : ¬ dv p a) : gcd p a = 1 := by
  obtain ⟨⟨c, hc⟩, h2⟩ := gcd_dv p a
  rcases hp.2 _ _ hc with e | e
  · exact e
  · rw [e, mul_one] at hc
    rw [hc] at h2
    exact absurd h2 ha
theorem gcd_irr' {p a : Nat} (hp : irr p) (ha : ¬ dv p a) : gcd a p = 1 := by
  obtain ⟨h2, c, hc⟩ := gcd_dv a p
  rcases hp.2 _ _ hc with e | e
  · exact e
  · rw [e, mul_one] at hc
    rw [hc] at h2
    exact absurd h2 ha
/-- a row of factors of x^(2^i) + x -/
def small (i : Nat) (l : List Nat) : Bool := l.all fun x => x != 0 && decide (len x ≤ i + 1)
theorem irr_bo_of {p i : Nat} (hp : irr p) (l : List Nat) (h1 : prod l = 2 ^ 2 ^ i ^^^ 2) (h2 : small i l = true) (hi : i ≤ (len p - 1) / 2) : gcd p (frob p i ^^^ 2) = 1 := by
  apply gcd_irr hp
  intro hd
  have h3 : cg p (pow 2 (2 ^ i)) 2 := cg_trans (cg_symm (frob_cg (irr_ne hp) i)) hd
  unfold cg at h3
  rw [pow_two, ← h1] at h3
  obtain ⟨x, hx, h4⟩ := euclid_prod hp l h3
  have h5 := List.all_eq_true.1 h2 x hx
  simp at h5
  have h6 := dv_len h4 h5.1
  have := hp.1
  omega
end Pol
