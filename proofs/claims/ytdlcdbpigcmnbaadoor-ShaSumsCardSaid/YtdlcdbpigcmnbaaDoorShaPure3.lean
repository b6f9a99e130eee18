/-
  Plain mathematics: what is left of a text behind its last full block; texts that are fed piece by piece.
-/
import Derived.Test.YtdlcdbpigcmnbaaDoorShaPure2
set_option linter.unusedVariables false
namespace Sha

theorem fo_append (K : List Nat) (s : St) (l e : List UInt8) : ∀ n, 64 * n ≤ l.length → fo K s (l ++ e) n = fo K s l n
  | 0, _ => rfl
  | n + 1, h => by
    simp only [fo]
    rw [fo_append K s l e n (by omega), List.drop_append_of_le_length (by omega), List.take_append_of_le_length (by simp; omega)]

/-- what lies in the buffer behind a text -/
structure Left (rest l : List UInt8) : Prop where
  len : rest.length = 64
  eq : rest.take (l.length % 64) = l.drop (64 * (l.length / 64))

def feed (rest : List UInt8) (k : Nat) (t : List UInt8) : List UInt8 := rest.take k ++ t ++ rest.drop (k + t.length)
theorem feed_length (rest : List UInt8) (k : Nat) (t : List UInt8) (h : rest.length = 64) (hk : k + t.length ≤ 64) : (feed rest k t).length = 64 := by
  simp [feed, h]; omega

theorem left_start : Left (zer 64) [] := ⟨by simp [zer], by simp⟩

theorem left_more {rest l : List UInt8} (h : Left rest l) (t : List UInt8) (ht : l.length % 64 + t.length < 64) : Left (feed rest (l.length % 64) t) (l ++ t) ∧ full (l ++ t) = full l := by
  have hd : (l ++ t).length / 64 = l.length / 64 := by rw [List.length_append]; omega
  have hm : (l ++ t).length % 64 = l.length % 64 + t.length := by rw [List.length_append]; omega
  refine ⟨⟨feed_length _ _ _ h.len (by omega), ?_⟩, ?_⟩
  · rw [hd, hm, feed, List.take_left' (by simp [h.len]; omega), h.eq, List.drop_append_of_le_length (by omega)]
  · unfold full
    rw [hd, fo_append _ _ _ _ _ (by omega)]

theorem left_block {rest l : List UInt8} (h : Left rest l) (t : List UInt8) (ht : l.length % 64 + t.length = 64) :
    Left (feed rest (l.length % 64) t) (l ++ t) ∧ full (l ++ t) = block K0 (full l) (feed rest (l.length % 64) t) := by
  have hd : (l ++ t).length / 64 = l.length / 64 + 1 := by rw [List.length_append]; omega
  have hm : (l ++ t).length % 64 = 0 := by rw [List.length_append]; omega
  have hf : feed rest (l.length % 64) t = (l ++ t).drop (64 * (l.length / 64)) := by
    have h0 : rest.drop 64 = [] := List.drop_of_length_le (Nat.le_of_eq h.len)
    rw [feed, h.eq, ht, h0, List.append_nil, List.drop_append_of_le_length (by omega)]
  refine ⟨⟨feed_length _ _ _ h.len (by omega), ?_⟩, ?_⟩
  · rw [hd, hm]
    rw [List.drop_of_length_le (by rw [List.length_append]; omega)]
    rfl
  · unfold full
    rw [hd, fo, fo_append _ _ _ _ _ (by omega), hf]
    congr 1
    exact List.take_of_length_le (by rw [List.length_drop, List.length_append]; omega)

/-- behind the padding there is nothing left, and the words are the digest's -/
theorem digest_pad (l : List UInt8) : digest l = (full (l ++ pad l.length)).text := rfl
theorem digest_length (l : List UInt8) : (digest l).length = 32 := by
  rw [digest, text_range]; simp
end Sha
