/-
  Plain mathematics: sealed texts, and what they are sealed of.
-/
import Derived.Test.YteddioaabhjjnaaCrcPure
import Derived.Test.YteddioaabhjjnaaOctPure2
import Derived.Test.YteddioaabhjjnaaGoBase
import Derived.Lib.Strings
set_option linter.unusedVariables false
namespace Go.Proofs.Yteddioaabhjjnaa
open Go.RowKit

theorem le4_eq (n : Nat) : Oct.le 4 n = Crc.le4 n := by
  simp only [Oct.le, Crc.le4, Nat.div_div_eq_div_mul]
theorem le4_length (n : Nat) : (Crc.le4 n).length = 4 := rfl

/-- the sealed form of a text -/
def sealB (s : ByteArray) : ByteArray := s ++ ⟨(Crc.le4 (Crc.sum s.data.toList)).toArray⟩
theorem sealB_list (s : ByteArray) : (sealB s).data.toList = Crc.sealT s.data.toList := by simp [sealB, Crc.sealT]
theorem sealB_size (s : ByteArray) : (sealB s).size = s.size + 4 := by
  unfold sealB
  rw [ByteArray.size_append]
  rfl
theorem sealB_front (s : ByteArray) : (sealB s).extract 0 ((sealB s).size - 4) = s := by
  rw [sealB_size, Lib.extract_eq, sealB_list]
  unfold Crc.sealT
  rw [show s.size + 4 - 4 - 0 = s.data.toList.length by rw [ba_len]; omega, List.drop_zero, List.take_left, ba_eta]

/-- what bytes are sealed of, and the error beside it -/
def opn (s : ByteArray) : ByteArray × Int :=
  if s.size < 4 then (.empty, 6) else if sealB (s.extract 0 (s.size - 4)) = s then (s.extract 0 (s.size - 4), 0) else (.empty, 7)
theorem opn_seal (s : ByteArray) : opn (sealB s) = (s, 0) := by
  unfold opn
  rw [if_neg (by rw [sealB_size]; omega), sealB_front, if_pos rfl]
theorem opn_ok (s : ByteArray) (h : (opn s).2 = 0) : sealB (opn s).1 = s := by
  unfold opn at h ⊢
  by_cases h4 : s.size < 4
  · rw [if_pos h4] at h; cases h
  · rw [if_neg h4] at h ⊢
    by_cases hq : sealB (s.extract 0 (s.size - 4)) = s
    · rw [if_pos hq]; exact hq
    · rw [if_neg hq] at h; cases h
theorem opn_cases (s : ByteArray) : (opn s).2 = 0 ∨ opn s = (.empty, 6) ∨ opn s = (.empty, 7) := by
  unfold opn
  by_cases h4 : s.size < 4
  · rw [if_pos h4]; exact .inr (.inl rfl)
  · rw [if_neg h4]
    by_cases hq : sealB (s.extract 0 (s.size - 4)) = s
    · rw [if_pos hq]; exact .inl rfl
    · rw [if_neg hq]; exact .inr (.inr rfl)
theorem opn_size (s : ByteArray) : (opn s).1.size ≤ s.size := by
  unfold opn
  by_cases h4 : s.size < 4
  · rw [if_pos h4]; exact Nat.zero_le _
  · rw [if_neg h4]
    by_cases hq : sealB (s.extract 0 (s.size - 4)) = s
    · rw [if_pos hq]
      show (s.extract 0 (s.size - 4)).size ≤ _
      rw [ByteArray.size_extract]; omega
    · rw [if_neg hq]; exact Nat.zero_le _
/-- a text of four bytes or more that is no sealed one -/
theorem opn_none (s : ByteArray) (h : 4 ≤ s.size) (hn : ∀ y, s ≠ sealB y) : opn s = (.empty, 7) := by
  unfold opn
  rw [if_neg (by omega), if_neg (fun e => hn _ e.symm)]

theorem cut4 (s : ByteArray) (h : 4 ≤ s.size) : s = s.extract 0 (s.size - 4) ++ s.extract (s.size - 4) s.size := by
  have e : s.data.toList = s.data.toList.take (s.size - 4) ++ (s.data.toList.drop (s.size - 4)).take 4 := by
    rw [List.take_of_length_le (l := s.data.toList.drop (s.size - 4)) (by rw [List.length_drop, ba_len]; omega), List.take_append_drop]
  rw [Lib.extract_eq, Lib.extract_eq, cat_list, show s.size - (s.size - 4) = 4 by omega, List.drop_zero, Nat.sub_zero, ← e, ba_eta]

/-- the last four bytes are the checksum of those ahead of them: then it is sealed -/
theorem seal_iff (s : ByteArray) (h : 4 ≤ s.size) :
    Oct.un (s.extract (s.size - 4) s.size).data.toList = Crc.sum (s.extract 0 (s.size - 4)).data.toList ↔ sealB (s.extract 0 (s.size - 4)) = s := by
  have hc := cut4 s h
  have ht : (s.extract (s.size - 4) s.size).data.toList.length = 4 := by rw [ba_len, ByteArray.size_extract]; omega
  generalize s.extract (s.size - 4) s.size = t at *
  generalize s.extract 0 (s.size - 4) = b at *
  constructor
  · intro e
    have hl := Oct.le_un t.data.toList
    rw [ht, e, le4_eq] at hl
    rw [hc]
    unfold sealB
    rw [hl, ba_eta]
  · intro e
    rw [← e] at hc
    have h2 : b.data.toList ++ Crc.le4 (Crc.sum b.data.toList) = b.data.toList ++ t.data.toList := by
      have := congrArg (·.data.toList) hc
      simp only [sealB_list] at this
      rw [show (b ++ t).data.toList = b.data.toList ++ t.data.toList by simp] at this
      exact this
    have h3 := List.append_cancel_left h2
    rw [← h3, ← le4_eq, Oct.un_le 4 _ (Crc.sum_lt _)]
end Go.Proofs.Yteddioaabhjjnaa
