/-
  What readGroup returns.
-/
import Derived.Test.YtjmpagbjkehebaaWalFill
import Derived.Test.YtjmpagbjkehebaaWalMem
import Derived.OwnWalk
set_option linter.unusedVariables false
set_option maxRecDepth 100000
namespace Go.Proofs.Ytjmpagbjkehebaa
open Go.RowKit

def GroupR (r : Option (Wal.Grp × Nat)) (w : World) (e : Ending) (w' : World) : Prop :=
  Below w.heap.size w w' ∧ ((r = none ∧ e = .returned (.tuple #[.slice none 0 0, .int .i64 0, .int .i64 50])) ∨
    ∃ l n v, r = some (l, n) ∧ e = .returned (.tuple #[v, .int .i64 ((n : Nat) : Int), .int .i64 0]) ∧ Own w.heap.size v (bas l) w')

theorem hasPrefix_is (s p : List UInt8) : Lib.hasPrefix s p = p.isPrefixOf s := by
  rfl

set_option maxHeartbeats 800000 in
theorem readGroup_any (s : ByteArray) (h4 : 4 ≤ s.size) (hs : s.size ≤ 1048576) (w : World) :
    Calls Try.prog 56 #[.string s] w (GroupR (Wal.readGroup s.data.toList) w) := by
  unfold Wal.readGroup
  have g1 := fun u => octGet_any (s.extract 0 4) u
  have e1 : (s.extract 0 4).data.toList = s.data.toList.take 4 := by
    rw [ByteArray.data_extract, Array.toList_extract, List.extract_eq_take_drop]; simp
  have l1 : (s.data.toList.take 4).length = 4 := by rw [List.length_take, ba_len]; omega
  rw [e1, show Oct.get (s.data.toList.take 4) = (Oct.un (s.data.toList.take 4), 0) from by unfold Oct.get; rw [if_pos (by omega)]] at g1
  have b1 := Oct.un_lt (s.data.toList.take 4)
  rw [l1] at b1
  have b1' : Oct.un (s.data.toList.take 4) < 4294967296 := b1
  rw [ba_len]
  clear e1 l1 b1
  generalize Oct.un (s.data.toList.take 4) = z at *
  have G1 := Lib.hid g1; clear g1
  by_cases hlt : s.size - 4 < z
  · rw [if_pos hlt]
    have hx : decide ((s.size : Int) - 4 < (z : Int)) = true := decide_eq_true (by omega)
    go_enter Try.func56, Try.ntmps56
    go_wp2_with fail
    refine (G1.out _).mono ?_; rintro e w1 ⟨rfl, rfl⟩
    go_wp2_with fail
    go_ret3
    exact ⟨Below.refl _ _, .inl ⟨rfl, rfl⟩⟩
  · rw [if_neg hlt]
    have hx : decide ((s.size : Int) - 4 < (z : Int)) = false := decide_eq_false (by omega)
    have e2 : (s.extract 4 (4 + z)).data.toList = (s.data.toList.drop 4).take z := by
      rw [ByteArray.data_extract, Array.toList_extract, List.extract_eq_take_drop, show 4 + z - 4 = z by omega]
    have e3 : (s.extract 0 (4 + z)).data.toList = s.data.toList.take (4 + z) := by
      rw [ByteArray.data_extract, Array.toList_extract, List.extract_eq_take_drop]; simp
    have z2 : (s.extract 4 (4 + z)).size = z := by rw [ByteArray.size_extract]; omega
    have z3 : (s.extract 0 (4 + z)).size = 4 + z := by rw [ByteArray.size_extract]; omega
    have hrr := fun u => octReadRow_new (s.extract 4 (4 + z)) u (by omega)
    rw [e2] at hrr
    have hff := fun u => filled_any (s.extract 0 (4 + z)) (by omega) u
    rw [e3] at hff
    have hpl := fun u => Try.strings_HasPrefix s (ba (Wal.fill (s.data.toList.take (4 + z)))) u
    have hfl : (ba (Wal.fill (s.data.toList.take (4 + z)))).size = (Wal.fill (s.data.toList.take (4 + z))).length := ba_size _
    have hfb : (Wal.fill (s.data.toList.take (4 + z))).length ≤ 2097152 := by
      rw [Wal.fill_length]
      have := Wal.whole_hi (s.data.toList.take (4 + z)).length
      have h2 : (s.data.toList.take (4 + z)).length ≤ 1048576 := by rw [List.length_take, ba_len]; omega
      omega
    have hpe : Lib.hasPrefix s.data.toList (ba (Wal.fill (s.data.toList.take (4 + z)))).data.toList = (Wal.fill (s.data.toList.take (4 + z))).isPrefixOf s.data.toList := by
      rw [ba_list]; exact hasPrefix_is _ _
    rw [hpe] at hpl
    generalize hF : Wal.fill (s.data.toList.take (4 + z)) = F at *
    generalize hB : ba F = B at *
    have HR := Lib.hid hrr; clear hrr
    have HF := Lib.hid hff; clear hff
    have HP := Lib.hid hpl; clear hpl
    clear hF hB hpe e2 e3 z2 z3
    have hw1 : IntKind.i64.wrap (4 + (z : Int)) = 4 + (z : Int) := IntWalk.i64_in _ (by omega)
    have hle : (4 : Int) + (z : Int) ≤ (s.size : Int) := by omega
    have hle0 : (4 : Int) ≤ 4 + (z : Int) := by omega
    cases hcr : Oct.readRow ((s.data.toList.drop 4).take z) with
    | none =>
      rw [hcr] at HR
      go_enter Try.func56, Try.ntmps56
      go_wp2_with fail
      refine (G1.out _).mono ?_; rintro e w1 ⟨rfl, rfl⟩
      go_wp2_with fail
      refine (HR.out _).mono ?_; rintro e w2 ⟨h2, ⟨_, rfl⟩ | ⟨l, v, hl, _⟩⟩
      · go_wp2_with fail
        refine (HF.out _).mono ?_; rintro e w3 ⟨rfl, h3⟩
        go_wp2_with fail
        go_ret3
        exact ⟨h2.trans (h3.mono h2.size), .inl ⟨rfl, rfl⟩⟩
      · cases hl
    | some l0 =>
      rw [hcr] at HR
      simp only []
      cases hpre : F.isPrefixOf s.data.toList with
      | false =>
        rw [hpre] at HP
        rw [if_neg (by simp)]
        go_enter Try.func56, Try.ntmps56
        go_wp2_with fail
        refine (G1.out _).mono ?_; rintro e w1 ⟨rfl, rfl⟩
        go_wp2_with fail
        refine (HR.out _).mono ?_; rintro e w2 ⟨h2, ⟨hn, _⟩ | ⟨l, v, hl, rfl, ho⟩⟩
        · cases hn
        · have Ho := Lib.hid ho; clear ho
          go_wp2_with fail
          refine (HF.out _).mono ?_; rintro e w3 ⟨rfl, h3⟩
          go_wp2_with fail
          refine (HP.out _).mono ?_; rintro e w4 ⟨rfl, rfl⟩
          go_wp2_with fail
          go_ret3
          exact ⟨h2.trans (h3.mono h2.size), .inl ⟨rfl, rfl⟩⟩
      | true =>
        rw [hpre] at HP
        rw [if_pos rfl]
        go_enter Try.func56, Try.ntmps56
        go_wp2_with fail
        refine (G1.out _).mono ?_; rintro e w1 ⟨rfl, rfl⟩
        go_wp2_with fail
        refine (HR.out _).mono ?_; rintro e w2 ⟨h2, ⟨hn, _⟩ | ⟨l, v, hl, rfl, ho⟩⟩
        · cases hn
        · have Ho := Lib.hid ho; clear ho
          have Hl := Lib.hid hl; clear hl
          go_wp2_with fail
          refine (HF.out _).mono ?_; rintro e w3 ⟨rfl, h3⟩
          go_wp2_with fail
          refine (HP.out _).mono ?_; rintro e w4 ⟨rfl, rfl⟩
          go_wp2_with fail
          go_ret3
          refine ⟨h2.trans (h3.mono h2.size), .inr ⟨l0, _, v, rfl, by rw [← hfl]; rfl, ?_⟩⟩
          have hl := Hl.out
          cases hl
          rw [bas_lists]
          exact Ho.out.new h3
end Go.Proofs.Ytjmpagbjkehebaa
