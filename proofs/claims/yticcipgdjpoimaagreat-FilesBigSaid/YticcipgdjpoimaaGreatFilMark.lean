/-
  files' header: the sector's text, and what readMark returns.
-/
import Derived.Test.YticcipgdjpoimaaGreatFilSmall
import Derived.Test.YticcipgdjpoimaaGreatWalA
import Derived.Test.YticcipgdjpoimaaGreatRefAll
set_option linter.unusedVariables false
set_option maxRecDepth 100000
namespace Go.Proofs.YticcipgdjpoimaaGreat
open Go.RowKit

namespace Fil
def mtext (a q : Nat) : Txt := [70, 73, 76, 49] ++ Oct.le 1 a ++ Oct.le 8 q
def mark (a q : Nat) : Txt := Wal.fill (Crc.sealT (mtext a q))
theorem mtext_length (a q : Nat) : (mtext a q).length = 13 := by simp [mtext, Oct.le_length]
theorem mark_length (a q : Nat) : (mark a q).length = 64 := by
  rw [mark, Wal.fill_length, Wal.seal_length, mtext_length]; rfl
theorem mark_front (a q : Nat) : ∃ t : Txt, mark a q = [70, 73, 76, 49] ++ (Oct.le 1 a ++ (Oct.le 8 q ++ t)) := by
  refine ⟨Crc.le4 (Crc.sum (mtext a q)) ++ List.replicate (Wal.whole (Crc.sealT (mtext a q)).length * 64 - (Crc.sealT (mtext a q)).length) 0, ?_⟩
  simp only [mark, Wal.fill, Crc.sealT, List.append_assoc, mtext]
theorem mark_area (a q : Nat) (ha : a < 256) : ((mark a q).getD 4 0).toNat = a := by
  obtain ⟨t, ht⟩ := mark_front a q
  rw [ht]
  have : Oct.le 1 a = [UInt8.ofNat a] := by
    rw [Oct.le_snoc 0 a]
    simp [Oct.le]
  rw [this]
  simp
  omega
theorem mark_seq (a q : Nat) (hq : q < 18446744073709551616) : Oct.un (((mark a q).drop 5).take 8) = q := by
  obtain ⟨t, ht⟩ := mark_front a q
  have h1 : (Oct.le 1 a).length = 1 := Oct.le_length _ _
  have h8 : (Oct.le 8 q).length = 8 := Oct.le_length _ _
  rw [ht, ← List.append_assoc, List.drop_left' (by simp [h1]), List.take_left' h8]
  exact Oct.un_le 8 q (by omega)
theorem mark_not (a q : Nat) : ¬ Wal.nought (mark a q) := fun h => by
  unfold Wal.nought at h
  obtain ⟨t, ht⟩ := mark_front a q
  have h0 := congrArg (fun l => l[0]?) h
  rw [mark_length] at h0
  rw [ht] at h0
  simp at h0
/-- what a header's sector says -/
def readMark (s : Txt) : Option (Option (Nat × Nat)) :=
  if Wal.nought s then some none
  else if 2 ≤ (s.getD 4 0).toNat then none
  else if mark (s.getD 4 0).toNat (Oct.un ((s.drop 5).take 8)) = s then some (some ((s.getD 4 0).toNat, Oct.un ((s.drop 5).take 8))) else none
theorem readMark_mark (a q : Nat) (ha : a < 2) (hq : q < 18446744073709551616) : readMark (mark a q) = some (some (a, q)) := by
  rw [readMark, if_neg (mark_not a q), mark_area a q (by omega), mark_seq a q hq, if_neg (by omega), if_pos rfl]
theorem readMark_zero (n : Nat) : readMark (List.replicate n 0) = some none := by
  rw [readMark, if_pos]; unfold Wal.nought; rw [List.length_replicate]
theorem readMark_le {s : Txt} {a q : Nat} (h : readMark s = some (some (a, q))) : a < 2 ∧ q < 18446744073709551616 ∧ mark a q = s := by
  unfold readMark at h
  split at h
  · cases h
  split at h
  · cases h
  split at h
  · cases h
    refine ⟨by omega, ?_, ‹_›⟩
    have := Oct.un_lt ((s.drop 5).take 8)
    have hl : ((s.drop 5).take 8).length ≤ 8 := by rw [List.length_take]; omega
    exact Nat.lt_of_lt_of_le this (Nat.pow_le_pow_right (by decide) hl)
  · cases h
end Fil

theorem ftext_any (a q : Nat) (nm : Bool) (ha : a < 256) (hq : q < 18446744073709551616) (w : World) :
    Calls Tryz.prog 69 #[.agg #[.bool nm, .int .i64 (a : Int), .int .u64 (q : Int)]] w fun e w' => e = .returned (.string (ba (Fil.mark a q))) ∧ Below w.heap.size w w' := by
  have hp1 := fun x => octPut_any a 1 x (by omega) (by decide) (by decide)
  have he1 : Oct.put a 1 = (Oct.le 1 a, 0) := by
    unfold Oct.put
    rw [if_pos ⟨by decide, by decide, by simpa using ha⟩]; rfl
  have hp2 := fun x => octPut_any q 8 x hq (by decide) (by decide)
  have he2 : Oct.put q 8 = (Oct.le 8 q, 0) := by
    unfold Oct.put
    rw [if_pos ⟨by decide, by decide, by simpa using hq⟩]; rfl
  rw [he1] at hp1
  rw [he2] at hp2
  have l1 : (ba (Oct.le 1 a)).size = 1 := by rw [ba_size, Oct.le_length]
  have l8 : (ba (Oct.le 8 q)).size = 8 := by rw [ba_size, Oct.le_length]
  have hp1' : ∀ x, Calls Tryz.prog 115 #[.int .u64 (a : Int), .int .i64 1] x fun e w' => e = .returned (.tuple #[.string (ba (Oct.le 1 a)), .int .i64 0]) ∧ Below x.heap.size x w' := hp1
  have hp2' : ∀ x, Calls Tryz.prog 115 #[.int .u64 (q : Int), .int .i64 8] x fun e w' => e = .returned (.tuple #[.string (ba (Oct.le 8 q)), .int .i64 0]) ∧ Below x.heap.size x w' := hp2
  clear hp1 hp2 he1 he2
  have hT : (⟨#[70, 73, 76, 49]⟩ : ByteArray) ++ ba (Oct.le 1 a) ++ ba (Oct.le 8 q) = ba (Fil.mtext a q) := by
    have : (⟨#[70, 73, 76, 49]⟩ : ByteArray) = ba [70, 73, 76, 49] := rfl
    rw [this, ba_app, ba_app]; rfl
  have hTl : (ba (Fil.mtext a q)).size = 13 := by rw [ba_size, Fil.mtext_length]
  have hS := fun x => seal_any (ba (Fil.mtext a q)) (by omega) x
  have hSl : (sealB (ba (Fil.mtext a q))).size = 17 := by rw [sealB_size, hTl]
  have hF := fun x => filled_any (sealB (ba (Fil.mtext a q))) (by omega) x
  have hM : Wal.fill (sealB (ba (Fil.mtext a q))).data.toList = Fil.mark a q := by
    rw [sealB_list, ba_list]; rfl
  rw [hM] at hF
  generalize sealB (ba (Fil.mtext a q)) = S at *
  generalize ba (Fil.mark a q) = M at *
  generalize ba (Fil.mtext a q) = T at *
  generalize ba (Oct.le 1 a) = A1 at *
  generalize ba (Oct.le 8 q) = A8 at *
  have l12 : ((⟨#[70, 73, 76, 49]⟩ : ByteArray) ++ A1).size = 5 := by rw [ByteArray.size_append, l1]; rfl
  have hwu : IntKind.u64.wrap (a : Int) = (a : Int) := by rw [IntKind.wrap_u64]; omega
  have HT := Lib.hid hT; clear hT
  have H1 := Lib.hid hp1'; clear hp1'
  have H2 := Lib.hid hp2'; clear hp2'
  have HS := Lib.hid hS; clear hS
  have HF := Lib.hid hF; clear hF
  clear hM hTl hSl
  go_enter Tryz.func69, Tryz.ntmps69
  go_wp2_with fail
  refine (H1.out _).mono ?_; rintro e w1 ⟨rfl, h1⟩
  have hr1 : w1.heap[w.heap.size]? = some (.cells #[.bool nm, .int .i64 (a : Int), .int .u64 (q : Int)] 66 (0, 0)) := by
    rw [h1.block _ (by simp)]; exact heap_alloc_new _ _
  have c1 : w1.cell? ⟨w.heap.size, 2, none⟩ = some (.int .u64 (q : Int)) := by rw [cell_of_row _ _ 2 _ _ _ hr1]; rfl
  have k1 : Below w.heap.size w w1 := ((Below.refl w.heap.size w).alloc (Nat.le_refl _) _).trans (h1.mono (by simp))
  clear hr1 h1
  have K1 := Lib.hid k1; clear k1
  go_wp2_with fail
  refine (H2.out _).mono ?_; rintro e w2 ⟨rfl, h2⟩
  go_wp2_with fail
  rw [HT.out]
  refine (HS.out _).mono ?_; rintro e w3 ⟨rfl, h3⟩
  go_wp2_with fail
  refine (HF.out _).mono ?_; rintro e w4 ⟨rfl, h4⟩
  go_wp2_with fail
  go_ret
  have k2 := K1.out.trans (h2.mono K1.out.size)
  have k3 := k2.trans (h3.mono k2.size)
  exact ⟨rfl, k3.trans (h4.mono k3.size)⟩
end Go.Proofs.YticcipgdjpoimaaGreat
