/-
  The plain mathematics of package octet, fifth part: rows of texts.
-/
import Derived.Test.YtdaognkdglimeaaOctPure4
set_option linter.unusedVariables false
namespace Go.Proofs.Ytdaognkdglimeaa.Oct

/-- the texts of a row, each behind its length -/
def body : List (List UInt8) → List UInt8
  | [] => []
  | t :: r => le 2 t.length ++ (t ++ body r)

/-- Row -/
def row (l : List (List UInt8)) : List UInt8 × Int :=
  if l.length ≤ 65535 ∧ ∀ t ∈ l, t.length ≤ 65535 then (le 2 l.length ++ body l, 0) else ([], 5)

/-- n texts are read, and nothing is left -/
def readN : Nat → List UInt8 → Option (List (List UInt8))
  | 0, r => if r = [] then some [] else none
  | n + 1, r => if (read r).2.2 = 0 then (readN n (r.drop (read r).2.1)).map ((read r).1 :: ·) else none

/-- ReadRow: none is ErrForm -/
def readRow (l : List UInt8) : Option (List (List UInt8)) := if 2 ≤ l.length then readN (hd l) (l.drop 2) else none

theorem body_append (l r : List (List UInt8)) : body (l ++ r) = body l ++ body r := by
  induction l with
  | nil => rfl
  | cons t l ih => simp [body, ih]

theorem body_take_succ (l : List (List UInt8)) (k : Nat) (h : k < l.length) : body (l.take (k + 1)) = body (l.take k) ++ (le 2 l[k].length ++ l[k]) := by
  rw [List.take_succ_eq_append_getElem h, body_append]
  simp [body]

theorem body_length (l : List (List UInt8)) (h : ∀ t ∈ l, t.length ≤ 65535) : (body l).length ≤ 65537 * l.length := by
  induction l with
  | nil => simp [body]
  | cons t l ih =>
    have h1 := ih (fun x hx => h x (List.mem_cons_of_mem _ hx))
    have h2 := h t (List.mem_cons_self ..)
    simp only [body, List.length_append, le_length, List.length_cons]
    omega

theorem read_text (t r : List UInt8) (h : t.length ≤ 65535) : read (le 2 t.length ++ (t ++ r)) = (t, 2 + t.length, 0) := by
  have hh := hd_le t.length (t ++ r) h
  unfold read
  rw [hh, if_pos ⟨by simp [le_length], by simp [le_length]⟩]
  rw [List.drop_left' (le_length 2 _)]
  simp

theorem readN_body (l : List (List UInt8)) (h : ∀ t ∈ l, t.length ≤ 65535) : readN l.length (body l) = some l := by
  induction l with
  | nil => rfl
  | cons t l ih =>
    have h1 := ih (fun x hx => h x (List.mem_cons_of_mem _ hx))
    have h2 := h t (List.mem_cons_self ..)
    simp only [List.length_cons, body, readN]
    rw [read_text t _ h2]
    simp only [if_true]
    have e : (le 2 t.length ++ (t ++ body l)).drop (2 + t.length) = body l := by
      rw [← List.append_assoc, List.drop_left' (by simp [le_length])]
    rw [e, h1]
    rfl

theorem readRow_row (l : List (List UInt8)) (h : (row l).2 = 0) : readRow (row l).1 = some l := by
  unfold row at *
  split at h
  · rename_i hc
    rw [if_pos hc]
    simp only [readRow]
    rw [if_pos (by simp [le_length]), hd_le _ _ hc.1, List.drop_left' (le_length 2 _)]
    exact readN_body l hc.2
  · simp at h

theorem le_hd (l : List UInt8) (h : 2 ≤ l.length) : le 2 (hd l) = l.take 2 := by
  have := le_un (l.take 2)
  rw [show (l.take 2).length = 2 by simp; omega] at this
  exact this

theorem readN_back (n : Nat) (r : List UInt8) (l : List (List UInt8)) (h : readN n r = some l) : l.length = n ∧ (∀ t ∈ l, t.length ≤ 65535) ∧ body l = r := by
  induction n generalizing r l with
  | zero =>
    simp only [readN] at h
    split at h
    · rename_i hr
      simp at h
      subst h; subst hr
      simp [body]
    · simp at h
  | succ n ih =>
    simp only [readN] at h
    split at h
    · rename_i hz
      obtain ⟨l', hl', rfl⟩ := Option.map_eq_some_iff.1 h
      obtain ⟨h1, h2, h3⟩ := ih _ _ hl'
      unfold read at hz hl' h3 ⊢
      split at hz
      · rename_i hc
        rw [if_pos hc] at h3 ⊢
        have hhd := hd_lt r
        have hlen : ((r.drop 2).take (hd r)).length = hd r := by simp; omega
        refine ⟨by simp [h1], ?_, ?_⟩
        · intro t ht
          rcases List.mem_cons.1 ht with rfl | ht
          · rw [hlen]; omega
          · exact h2 t ht
        · simp only [body]
          rw [hlen, le_hd r hc.1, h3]
          have e : r.drop (2 + hd r) = (r.drop 2).drop (hd r) := by rw [List.drop_drop]
          rw [e, List.take_append_drop, List.take_append_drop]
      · simp at hz
    · simp at h

theorem row_readRow (s : List UInt8) (l : List (List UInt8)) (h : readRow s = some l) : row l = (s, 0) := by
  unfold readRow at h
  split at h
  · rename_i h2
    obtain ⟨h1, h3, h4⟩ := readN_back _ _ _ h
    have hhd := hd_lt s
    unfold row
    rw [if_pos ⟨by omega, h3⟩, h1, h4, le_hd s h2, List.take_append_drop]
  · simp at h

theorem row_inj (a b : List (List UInt8)) (ha : (row a).2 = 0) (hb : (row b).2 = 0) : (row a).1 = (row b).1 ↔ a = b := by
  constructor
  · intro h
    have h1 := readRow_row a ha
    have h2 := readRow_row b hb
    rw [h, h2] at h1
    exact (Option.some.inj h1).symm
  · rintro rfl; rfl

end Go.Proofs.Ytdaognkdglimeaa.Oct
