/-
  Plain mathematics of layer 11's laws: pieces ahead of an edit stay; the pieces of two texts that are alike at the beginning, and at the end.
-/
import Derived.Test.YtcmlcpejlmlcfaaLinMeetP
import Derived.Test.YtcmlcpejlmlcfaaEdtMargin
set_option linter.unusedVariables false
namespace Go.Proofs.Ytcmlcpejlmlcfaa
open Go.RowKit
namespace Edt
theorem isE_begin (a x y : List UInt8) (j : Nat) (h : j < a.length) : Lin.isE (a ++ x) j = Lin.isE (a ++ y) j ∨ j = 0 := by
  rcases Nat.eq_zero_or_pos j with e | e
  · exact .inr e
  · refine .inl ?_
    unfold Lin.isE
    have g1 : ∀ z : List UInt8, (a ++ z).getD (j - 1) 0 = a.getD (j - 1) 0 := fun z => by
      rw [List.getD_eq_getElem?_getD, List.getElem?_append_left (by omega), List.getD_eq_getElem?_getD]
    have g2 : ∀ z : List UInt8, (j == (a ++ z).length) = false := fun z => by
      rw [List.length_append]; simp; omega
    rw [g1, g1, g2, g2]
/-- a place that is aligned within what is alike, ahead of the end -/
theorem al_begin (a x y : List UInt8) (c e : Nat) (hc : 1 ≤ c) (he : Lin.al (a ++ x) c = e) (h1 : e ≤ a.length) (h2 : e < (a ++ x).length) : Lin.al (a ++ y) c = e := by
  have hcl : c ≤ (a ++ x).length := by
    rcases Nat.lt_or_ge (a ++ x).length (max c 1) with h | h
    · have := Lin.al_big h; omega
    · omega
  obtain ⟨g1, g2, g3, g4⟩ := Lin.al_range (l := a ++ x) (a := c) (by omega)
  rw [he] at g1 g2 g3 g4
  have hb : (a ++ x).getD (e - 1) 0 = 10 := by
    unfold Lin.isE at g3
    have : (e == (a ++ x).length) = false := by simp at *; omega
    rw [this, Bool.false_or] at g3
    simpa using g3
  refine Lin.al_eq g1 (by rw [List.length_append]; omega) ?_ (fun j q1 q2 => ?_)
  · unfold Lin.isE
    have e1 : ∀ z : List UInt8, (a ++ z).getD (e - 1) 0 = a.getD (e - 1) 0 := fun z => by
      rw [List.getD_eq_getElem?_getD, List.getElem?_append_left (by omega), List.getD_eq_getElem?_getD]
    rw [e1] at hb
    rw [e1, hb]
    simp
  · rcases isE_begin a x y j (by omega) with q | q
    · rw [← q]; exact g4 j q1 q2
    · omega
/-- the next aligned cut is that of a cut -/
theorem acut_head : ∀ (l : List UInt8) (a : Nat) (cs : List Nat) (e : Nat) (r : List Nat), (∀ c ∈ cs, 1 ≤ c ∧ c ≤ l.length) → Lin.acut l a cs = e :: r → ∃ c ∈ cs, a < c ∧ c ≤ e
  | l, a, [], e, r, _, h => by simp [Lin.acut] at h
  | l, a, c :: cs, e, r, hc, h => by
    unfold Lin.acut at h
    by_cases g : a < c
    · rw [if_pos g] at h
      injection h with h1 _
      refine ⟨c, by simp, g, ?_⟩
      have := (Lin.al_range (l := l) (a := c) (by have := hc c (by simp); omega)).1
      omega
    · rw [if_neg g] at h
      obtain ⟨c', h1, h2, h3⟩ := acut_head l a cs e r (fun z hz => hc z (by simp [hz])) h
      exact ⟨c', by simp [h1], h2, h3⟩
section
variable {c : Ctr} (hm : c.May) (a x y : List UInt8)
include hm
/-- one aligned cut that stays -/
theorem stay1 : ∀ (f b i e : Nat) (r : List Nat), (a ++ x).length - i ≤ f → Lin.acut (a ++ x) b (Chu.all (c.isMk (a ++ x)) c.mn.toNat c.mx.toNat (a ++ x).length i) = e :: r → e ≤ a.length → e < (a ++ x).length →
    ∃ j, r = Lin.acut (a ++ x) e (Chu.all (c.isMk (a ++ x)) c.mn.toNat c.mx.toNat (a ++ x).length j) ∧ Lin.acut (a ++ y) b (Chu.all (c.isMk (a ++ y)) c.mn.toNat c.mx.toNat (a ++ y).length i) = e :: Lin.acut (a ++ y) e (Chu.all (c.isMk (a ++ y)) c.mn.toNat c.mx.toNat (a ++ y).length j)
  | f, b, i, e, r, hf, h, h1, h2 => by
    have hn1 := hm.nat.1
    have hn2 := hm.nat.2.1
    by_cases hi : i < (a ++ x).length
    · have hcons := Chu.all_cons (mk := c.isMk (a ++ x)) hn1 hn2 hi
      have hrg := Chu.nxt_range (mk := c.isMk (a ++ x)) hn1 hn2 hi
      have hall : ∀ z ∈ Chu.all (c.isMk (a ++ x)) c.mn.toNat c.mx.toNat (a ++ x).length i, 1 ≤ z ∧ z ≤ (a ++ x).length := fun z hz => by
        have := Chu.ends_range (mk := c.isMk (a ++ x)) hn1 hn2 _ _ z hz; omega
      obtain ⟨n, hn⟩ : ∃ n, Chu.nxt (c.isMk (a ++ x)) c.mn.toNat c.mx.toNat (a ++ x).length i = n := ⟨_, rfl⟩
      rw [hn] at hcons hrg
      have hhead := acut_head _ _ _ _ _ hall h
      rw [hcons] at h hhead
      -- the cut n lies at e or ahead of it
      have hne : n ≤ e := by
        obtain ⟨z, hz, g1, g2⟩ := hhead
        rcases List.mem_cons.1 hz with q | q
        · omega
        · have := Chu.ends_range (mk := c.isMk (a ++ x)) hn1 hn2 _ _ z q; omega
      have hny : Chu.nxt (c.isMk (a ++ y)) c.mn.toNat c.mx.toNat (a ++ y).length i = n := by
        rw [← hn]
        exact Chu.nxt_begin (p := a.length) (by simp) (by simp) (fun j hj => Chu.mark_begin c.p c.n.toNat c.b.toNat a y x j hj) (by omega) (.inl (by omega))
      have hiy : i < (a ++ y).length := by rw [List.length_append]; omega
      have hcy := Chu.all_cons (mk := c.isMk (a ++ y)) hn1 hn2 hiy
      rw [hny] at hcy
      rw [hcy]
      unfold Lin.acut at h
      by_cases g : b < n
      · rw [if_pos g] at h
        injection h with e1 e2
        refine ⟨n, by rw [← e2, e1], ?_⟩
        have hay := al_begin a x y n e (by omega) e1 h1 h2
        rw [Lin.acut, if_pos g, hay]
      · rw [if_neg g] at h
        match f, hf with
        | 0, hf => omega
        | f + 1, hf =>
          obtain ⟨j, q1, q2⟩ := stay1 f b n e r (by omega) h h1 h2
          refine ⟨j, q1, ?_⟩
          rw [Lin.acut, if_neg g]
          exact q2
    · rw [Chu.all_nil (by omega)] at h
      simp [Lin.acut] at h
/-- all aligned cuts up to one that stays -/
theorem stayN : ∀ (k b i : Nat), k < (Lin.acut (a ++ x) b (Chu.all (c.isMk (a ++ x)) c.mn.toNat c.mx.toNat (a ++ x).length i)).length →
    (Lin.acut (a ++ x) b (Chu.all (c.isMk (a ++ x)) c.mn.toNat c.mx.toNat (a ++ x).length i)).getD k 0 ≤ a.length → (Lin.acut (a ++ x) b (Chu.all (c.isMk (a ++ x)) c.mn.toNat c.mx.toNat (a ++ x).length i)).getD k 0 < (a ++ x).length →
    k < (Lin.acut (a ++ y) b (Chu.all (c.isMk (a ++ y)) c.mn.toNat c.mx.toNat (a ++ y).length i)).length ∧
    ∀ j, j ≤ k → (Lin.acut (a ++ y) b (Chu.all (c.isMk (a ++ y)) c.mn.toNat c.mx.toNat (a ++ y).length i)).getD j 0 = (Lin.acut (a ++ x) b (Chu.all (c.isMk (a ++ x)) c.mn.toNat c.mx.toNat (a ++ x).length i)).getD j 0
  | k, b, i, hk, h1, h2 => by
    have hpw := Lin.acut_pw (a ++ x) b (Chu.all (c.isMk (a ++ x)) c.mn.toNat c.mx.toNat (a ++ x).length i) (fun z hz => by
      have := Chu.ends_range (mk := c.isMk (a ++ x)) hm.nat.1 hm.nat.2.1 _ _ z hz; omega)
    obtain ⟨L, hL⟩ : ∃ L, Lin.acut (a ++ x) b (Chu.all (c.isMk (a ++ x)) c.mn.toNat c.mx.toNat (a ++ x).length i) = L := ⟨_, rfl⟩
    rw [hL] at hk h1 h2 hpw ⊢
    match L, hk with
    | e :: r, hk =>
      have hle : e ≤ (e :: r).getD k 0 := by
        cases k with
        | zero => simp
        | succ k =>
          rw [List.getD_cons_succ]
          have hk' : k < r.length := by simpa using hk
          rw [List.getD_eq_getElem?_getD, List.getElem?_eq_getElem hk']
          have := (List.pairwise_cons.1 (List.pairwise_cons.1 hpw).2).1 _ (List.getElem_mem hk')
          exact Nat.le_of_lt this
      obtain ⟨j, q1, q2⟩ := stay1 hm a x y _ b i e r (Nat.le_refl _) hL (by omega) (by omega)
      rw [q2]
      cases k with
      | zero =>
        refine ⟨by simp, fun j hj => ?_⟩
        obtain rfl : j = 0 := by omega
        rfl
      | succ k =>
        rw [List.getD_cons_succ] at h1 h2
        rw [q1] at h1 h2
        have hk' : k < r.length := by simpa using hk
        rw [q1] at hk'
        obtain ⟨g1, g2⟩ := stayN k e j hk' h1 h2
        refine ⟨by simpa using g1, fun n hn => ?_⟩
        cases n with
        | zero => rfl
        | succ n =>
          rw [List.getD_cons_succ, List.getD_cons_succ, g2 n (by omega), ← q1]
/-- .. of both texts, from the beginning on -/
theorem stays (k : Nat) (hk : k < (c.aends (a ++ x)).length) (h1 : (c.aends (a ++ x)).getD k 0 ≤ a.length) (h2 : (c.aends (a ++ x)).getD k 0 < (a ++ x).length) : k < (c.aends (a ++ y)).length ∧ ∀ j, j ≤ k → (c.aends (a ++ y)).getD j 0 = (c.aends (a ++ x)).getD j 0 :=
  stayN hm a x y k 0 0 hk h1 h2
end
end Edt
end Go.Proofs.Ytcmlcpejlmlcfaa
