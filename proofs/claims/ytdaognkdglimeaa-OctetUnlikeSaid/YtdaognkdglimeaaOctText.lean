/-
  What Text, Read and the document's answers for them return.
-/
import Derived.Test.YtdaognkdglimeaaOctNum
import Derived.Test.YtdaognkdglimeaaOctPure4
import Derived.Deep.QuietTactic
import Derived.BigQuiet
import Derived.Lib.Strings
import Derived.Test.YtdaognkdglimeaaShelf
set_option linter.unusedVariables false
namespace Go.Proofs.Ytdaognkdglimeaa
open Go.RowKit

set_option maxHeartbeats 400000 in
theorem head_any (n : Nat) (w : World) (h : n ≤ 65535) :
    Calls Try.prog 30 #[.int .i64 n] w fun e w' => e = .returned (.string ⟨(Oct.le 2 n).toArray⟩) ∧ Below w.heap.size w w' := by
  have hcv := conv_two (P := Try.prog) 47 9 5 Try.underlying47 Try.underlying5 Try.underlying9 w 64 (UInt8.ofNat n) (UInt8.ofNat (n / 256)) ((n : Int) % 256) ((n : Int) / 256) (by simp) (by simp; omega)
  have hle : (Oct.le 2 n).toArray = #[UInt8.ofNat n, UInt8.ofNat (n / 256)] := by simp [Oct.le]
  have Hle := Lib.hid hle; clear hle
  generalize UInt8.ofNat n = y at *
  generalize UInt8.ofNat (n / 256) = z at *
  go_enter Try.func30, Try.ntmps30
  go_wp2
  go_ret
  exact ⟨by rw [Hle.out]; rfl, (Below.refl _ _).alloc (Nat.le_refl _) _⟩

set_option maxHeartbeats 400000 in
theorem readHead_any (s : ByteArray) (w : World) (h : 2 ≤ s.size) :
    Calls Try.prog 32 #[.string s] w fun e w' => e = .returned (.int .i64 (Oct.hd s.data.toList)) ∧ ∃ n, w' = w.drewN n := by
  have hl : 1 < s.data.toList.length := by rw [ba_len]; omega
  have hh := Oct.hd_get s.data.toList hl
  rw [ba_get s 0 (by omega), ba_get s 1 (by omega)] at hh
  have b0 : s[0].toNat < 256 := s[0].toNat_lt
  have b1 : s[1].toNat < 256 := s[1].toNat_lt
  have e := two_bytes s[0].toNat s[1].toNat b0 b1
  have e1 : wrap64 (s[0].toNat : Int) = (s[0].toNat : Int) := IntWalk.wrap64_in _ ⟨by omega, by omega⟩
  have e2 : wrap64 (s[1].toNat : Int) = (s[1].toNat : Int) := IntWalk.wrap64_in _ ⟨by omega, by omega⟩
  have e3 : wrap64 ((s[1].toNat : Int) * 256) = (s[1].toNat : Int) * 256 := IntWalk.wrap64_in _ ⟨by omega, by omega⟩
  have Hh := Lib.hid hh; clear hh
  have E := Lib.hid e; clear e
  have E1 := Lib.hid e1; clear e1
  have E2 := Lib.hid e2; clear e2
  have E3 := Lib.hid e3; clear e3
  clear b0 b1
  go_enter Try.func32, Try.ntmps32
  go_wp2
  have h0 : (0 : Int) < (s.size : Int) := by omega
  have h1 : (1 : Int) < (s.size : Int) := by omega
  have h0' : 0 < s.size := by omega
  have h1' : 1 < s.size := by omega
  go_quiet (fail)
  go_wp2
  go_ret
  exact ⟨ret_int (by rw [E1.out, E2.out, E3.out, E.out, Hh.out]), _, rfl⟩

theorem clone_any (s : ByteArray) (w : World) (hm : s.size ≤ 281474976710656) :
    Calls Try.prog 34 #[.string s] w fun e w' => e = .returned (.string s) ∧ Below w.heap.size w w' := by
  go_enter Try.func34, Try.ntmps34
  go_wp2_with (go_at_call 37; refine (Try.stringslite_Clone s _ hm).mono ?_; rintro e w' ⟨rfl, hb⟩)
  go_ret
  exact ⟨rfl, hb⟩

set_option maxHeartbeats 400000 in
theorem octText_any (s : ByteArray) (w : World) (hm : s.size ≤ 9223372036854700000) :
    Calls Try.prog 23 #[.string s] w fun e w' => e = .returned (.tuple #[.string ⟨(Oct.text s.data.toList).1.toArray⟩, .int .i64 (Oct.text s.data.toList).2]) ∧ Below w.heap.size w w' := by
  by_cases h : s.size ≤ 65535
  · have hp : Oct.text s.data.toList = (Oct.le 2 s.size ++ s.data.toList, 0) := by unfold Oct.text; rw [ba_len, if_pos h]
    have Hp := Lib.hid hp; clear hp
    have hlen : (Oct.le 2 s.size).length ≤ 2 := Nat.le_of_eq (Oct.le_length _ _)
    go_enter Try.func23, Try.ntmps23
    go_wp2_with (go_at_call 30; refine (head_any s.size _ h).mono ?_; rintro e w' ⟨rfl, hb⟩)
    go_ret2
    exact ⟨by rw [Hp.out, ← cat_list, ba_eta]; rfl, hb⟩
  · have hp : Oct.text s.data.toList = ([], 5) := by unfold Oct.text; rw [ba_len, if_neg h]
    have Hp := Lib.hid hp; clear hp
    go_enter Try.func23, Try.ntmps23
    go_wp2
    go_ret2
    exact ⟨by rw [Hp.out]; rfl, Below.refl _ _⟩

set_option maxHeartbeats 400000 in
theorem octRead_any (s : ByteArray) (w : World) (hm : s.size ≤ 281474976710656) :
    Calls Try.prog 21 #[.string s] w fun e w' => e = .returned (.tuple #[.string ⟨(Oct.read s.data.toList).1.toArray⟩, .int .i64 (Oct.read s.data.toList).2.1, .int .i64 (Oct.read s.data.toList).2.2]) ∧ Below w.heap.size w w' := by
  by_cases h2 : 2 ≤ s.size
  · have hh := Oct.hd_lt s.data.toList
    have hrh := fun u => readHead_any s u h2
    by_cases hn : 2 + Oct.hd s.data.toList ≤ s.size
    · have hp : Oct.read s.data.toList = ((s.data.toList.drop 2).take (Oct.hd s.data.toList), 2 + Oct.hd s.data.toList, 0) := by
        unfold Oct.read; rw [ba_len, if_pos ⟨h2, hn⟩]
      have hex : s.extract 2 (2 + Oct.hd s.data.toList) = ⟨((s.data.toList.drop 2).take (Oct.hd s.data.toList)).toArray⟩ := by
        rw [Lib.extract_eq]; simp
      generalize Oct.hd s.data.toList = n at *
      have Hrh := Lib.hid hrh; clear hrh
      have Hp := Lib.hid hp; clear hp
      have Hex := Lib.hid hex; clear hex
      have hxs : (s.extract 2 (2 + n)).size ≤ 281474976710656 := by rw [ByteArray.size_extract]; omega
      have hsl : ∀ u : World, (Instr.slice 9 (.string s) (some (.int .i64 2)) (some (.int .i64 (2 + (n : Int)))) none).run Try.prog u = .ok (.string (s.extract 2 (2 + n))) u := fun u => by
        rw [run_slice_string (P := Try.prog) u 9 s .i64 .i64 2 (2 + (n : Int)) Try.underlying9 (by omega) (by omega) (by omega)]
        rw [show (2 + (n : Int)).toNat = 2 + n by omega]; rfl
      go_enter Try.func21, Try.ntmps21
      go_wp2_with (first | (go_at_call 32; refine (Hrh.out _).mono ?_; rintro e w' ⟨rfl, q, rfl⟩) | (go_at_call 34; refine (clone_any (s.extract 2 (2 + n)) _ hxs).mono ?_; rintro e w' ⟨rfl, hb⟩))
      go_ret3
      exact ⟨by rw [Hp.out, ← Hex.out]; go_num, (Below.refl _ w).trans (below_drewN_left hb)⟩
    · have hp : Oct.read s.data.toList = ([], 0, 6) := by unfold Oct.read; rw [ba_len, if_neg (by omega)]
      generalize Oct.hd s.data.toList = n at *
      have Hrh := Lib.hid hrh; clear hrh
      have Hp := Lib.hid hp; clear hp
      go_enter Try.func21, Try.ntmps21
      go_wp2_with (go_at_call 32; refine (Hrh.out _).mono ?_; rintro e w' ⟨rfl, q, rfl⟩)
      go_ret3
      exact ⟨by rw [Hp.out]; rfl, below_drewN_left (Below.refl _ _)⟩
  · have hp : Oct.read s.data.toList = ([], 0, 6) := by unfold Oct.read; rw [ba_len, if_neg (by omega)]
    have Hp := Lib.hid hp; clear hp
    go_enter Try.func21, Try.ntmps21
    go_wp2
    go_ret3
    exact ⟨by rw [Hp.out]; rfl, Below.refl _ _⟩

set_option maxHeartbeats 400000 in
theorem refText_any (s : ByteArray) (w : World) (hm : s.size ≤ 9223372036854700000) :
    Calls Try.prog 24 #[.string s] w fun e w' => e = .returned (.tuple #[.string ⟨(Oct.text s.data.toList).1.toArray⟩, .int .i64 (Oct.text s.data.toList).2]) ∧ Below w.heap.size w w' := by
  by_cases h : s.size ≤ 65535
  · have hp : Oct.text s.data.toList = (Oct.le 2 s.size ++ s.data.toList, 0) := by unfold Oct.text; rw [ba_len, if_pos h]
    have Hp := Lib.hid hp; clear hp
    have hlen : (Oct.le 2 s.size).length ≤ 2 := Nat.le_of_eq (Oct.le_length _ _)
    go_enter Try.func24, Try.ntmps24
    go_wp2_with (go_at_call 26; refine (refNum_any s.size 2 _ (by omega) (by omega)).mono ?_; rintro e w' ⟨rfl, hb⟩)
    go_ret2
    exact ⟨by rw [Hp.out, ← cat_list, ba_eta]; rfl, hb⟩
  · have hp : Oct.text s.data.toList = ([], 5) := by unfold Oct.text; rw [ba_len, if_neg h]
    have Hp := Lib.hid hp; clear hp
    go_enter Try.func24, Try.ntmps24
    go_wp2
    go_ret2
    exact ⟨by rw [Hp.out]; rfl, Below.refl _ _⟩

set_option maxHeartbeats 400000 in
theorem refRead_any (s : ByteArray) (w : World) (hm : s.size ≤ 281474976710656) :
    Calls Try.prog 22 #[.string s] w fun e w' => e = .returned (.tuple #[.string ⟨(Oct.read s.data.toList).1.toArray⟩, .int .i64 (Oct.read s.data.toList).2.1, .int .i64 (Oct.read s.data.toList).2.2]) ∧ w = w' := by
  by_cases h2 : 2 ≤ s.size
  · have hh := Oct.hd_lt s.data.toList
    have hrv : ∀ u, Calls Try.prog 27 #[.string (s.extract 0 2)] u fun e w' => e = .returned (.int .u64 (Oct.hd s.data.toList)) ∧ u = w' := fun u => by
      have h := refValue_any (s.extract 0 2) u (by rw [ByteArray.size_extract]; omega)
      rw [Lib.extract_data] at h
      exact h
    have hs0 : ∀ u : World, (Instr.slice 9 (.string s) none (some (.int .i64 2)) none).run Try.prog u = .ok (.string (s.extract 0 2)) u := fun u => by
      rw [run_slice_string_to_if (P := Try.prog) u 9 s .i64 2 Try.underlying9, if_pos ⟨by omega, by omega⟩]; rfl
    by_cases hn : 2 + Oct.hd s.data.toList ≤ s.size
    · have hp : Oct.read s.data.toList = ((s.data.toList.drop 2).take (Oct.hd s.data.toList), 2 + Oct.hd s.data.toList, 0) := by
        unfold Oct.read; rw [ba_len, if_pos ⟨h2, hn⟩]
      have hex : s.extract 2 (2 + Oct.hd s.data.toList) = ⟨((s.data.toList.drop 2).take (Oct.hd s.data.toList)).toArray⟩ := by
        rw [Lib.extract_eq]; simp
      generalize Oct.hd s.data.toList = n at *
      have Hrv := Lib.hid hrv; clear hrv
      have Hp := Lib.hid hp; clear hp
      have Hex := Lib.hid hex; clear hex
      have hsl : ∀ u : World, (Instr.slice 9 (.string s) (some (.int .i64 2)) (some (.int .i64 (2 + (n : Int)))) none).run Try.prog u = .ok (.string (s.extract 2 (2 + n))) u := fun u => by
        rw [run_slice_string (P := Try.prog) u 9 s .i64 .i64 2 (2 + (n : Int)) Try.underlying9 (by omega) (by omega) (by omega)]
        rw [show (2 + (n : Int)).toNat = 2 + n by omega]; rfl
      go_enter Try.func22, Try.ntmps22
      go_wp2_with (go_at_call 27; refine (Hrv.out _).mono ?_; rintro e w' ⟨rfl, rfl⟩)
      go_ret3
      exact ⟨by rw [Hp.out, ← Hex.out]; go_num, rfl⟩
    · have hp : Oct.read s.data.toList = ([], 0, 6) := by unfold Oct.read; rw [ba_len, if_neg (by omega)]
      generalize Oct.hd s.data.toList = n at *
      have Hrv := Lib.hid hrv; clear hrv
      have Hp := Lib.hid hp; clear hp
      go_enter Try.func22, Try.ntmps22
      go_wp2_with (go_at_call 27; refine (Hrv.out _).mono ?_; rintro e w' ⟨rfl, rfl⟩)
      go_ret3
      exact ⟨by rw [Hp.out]; rfl, rfl⟩
  · have hp : Oct.read s.data.toList = ([], 0, 6) := by unfold Oct.read; rw [ba_len, if_neg (by omega)]
    have Hp := Lib.hid hp; clear hp
    go_enter Try.func22, Try.ntmps22
    go_wp2
    go_ret3
    exact ⟨by rw [Hp.out]; rfl, rfl⟩

end Go.Proofs.Ytdaognkdglimeaa
