/-
  What octet.Put returns.
-/
import Derived.Test.YteddioaabhjjnaaRows
import Derived.Test.YteddioaabhjjnaaGoBase
import Derived.Test.YteddioaabhjjnaaOctPure2
set_option linter.unusedVariables false
namespace Go.Proofs.Yteddioaabhjjnaa
open Go.RowKit

set_option maxHeartbeats 400000 in
theorem octPut_any (v : Nat) (n : Int) (w : World) (h1 : v < 18446744073709551616) (hn0 : -9223372036854775808 ≤ n) (hn1 : n ≤ 9223372036854775807) :
    Calls Try.prog 17 #[.int .u64 v, .int .i64 n] w fun e w' => e = .returned (.tuple #[.string ⟨(Oct.put v n).1.toArray⟩, .int .i64 (Oct.put v n).2]) ∧ Below w.heap.size w w' := by
  by_cases hlo : n < 1
  · have hp : Oct.put v n = ([], 2) := if_neg (by omega)
    rw [hp]
    have Hp := Lib.hid hp; clear hp
    go_enter Try.func17, Try.ntmps17
    go_wp2
    go_ret2
    exact ⟨rfl, Below.refl _ _⟩
  by_cases hhi : 8 < n
  · have hp : Oct.put v n = ([], 2) := if_neg (by omega)
    rw [hp]
    have Hp := Lib.hid hp; clear hp
    go_enter Try.func17, Try.ntmps17
    go_wp2
    go_ret2
    exact ⟨rfl, Below.refl _ _⟩
  obtain ⟨m, rfl⟩ := Int.eq_ofNat_of_zero_le (show 0 ≤ n by omega)
  go_enter Try.func17, Try.ntmps17
  go_wp2
  have hst := ArrB.start w 45 8
  go_loopw [0, 7, 15] (fun a i j wr => ∃ (k : Nat) (bs : List UInt8), k ≤ m ∧ j = .int .i64 k ∧ a = .int .u64 ((v / 256 ^ k : Nat) : Int) ∧ bs.length = 8 ∧ bs.take k = Oct.le k v ∧ ArrB w.heap.size bs wr ∧ Below w.heap.size w wr) (fun _ _ j _ => m - (intOf j).toNat)
  case atStart => exact ⟨0, _, by omega, rfl, by simp, List.length_replicate, rfl, hst, (Below.refl _ _).alloc (Nat.le_refl _) _⟩
  case round =>
    obtain ⟨k, bs, hk, rfl, rfl, hbl, hbt, ha, hb⟩ := hrel
    clear hst
    by_cases hlt : k < m
    · have hcell := ha.cell (k := k) (by omega)
      have hfree := ha.free (k := k) (by omega)
      have hnew := ha.store (k := k) (by omega) (UInt8.ofNat (v / 256 ^ k)) (((v / 256 ^ k : Nat) : Int) % 256) (by simp)
      have hq' : v / 256 ^ (k + 1) = v / 256 ^ k / 256 := by rw [Nat.pow_succ, Nat.div_div_eq_div_mul]
      have hle : Oct.le (k + 1) v = Oct.le k v ++ [UInt8.ofNat (v / 256 ^ k)] := Oct.le_snoc k v
      have htk : (bs.set k (UInt8.ofNat (v / 256 ^ k))).take (k + 1) = Oct.le (k + 1) v := by
        rw [hle, ← hbt, List.take_succ_eq_append_getElem (by simp; omega)]
        simp [List.take_set_of_le]
      have hqs : v / 256 ^ k ≤ v := Nat.div_le_self _ _
      generalize v / 256 ^ k = q at *
      have Hq' := Lib.hid hq'; clear hq'
      have Hle := Lib.hid hle; clear hle
      have Htk := Lib.hid htk; clear htk
      have Hbl := Lib.hid hbl; clear hbl
      have Hbt := Lib.hid hbt; clear hbt
      have Ha := Lib.hid ha; clear ha
      have Hnew := Lib.hid hnew; clear hnew
      go_wp2
      go_roundw
      case rel => exact ⟨k + 1, bs.set k (UInt8.ofNat q), by omega, by go_num, by rw [Hq'.out]; go_num, by rw [List.length_set]; exact Hbl.out, Htk.out, Hnew.out, hb.setCell (Nat.le_refl _) _⟩
      case measure => simp [intOf]; omega
    · obtain rfl : k = m := by omega
      have hcv := ha.conv (P := Try.prog) 35 9 5 Try.underlying35 Try.underlying5 Try.underlying9 k 8 (by omega)
      rw [hbt] at hcv
      by_cases hz : v < 256 ^ k
      · have hp : Oct.put v (k : Int) = (Oct.le k v, 0) := if_pos ⟨by omega, by omega, by simpa using hz⟩
        rw [Nat.div_eq_of_lt hz]
        have Hp := Lib.hid hp; clear hp
        have Hbl := Lib.hid hbl; clear hbl
        have Hbt := Lib.hid hbt; clear hbt
        have Ha := Lib.hid ha; clear ha
        go_wp2
        go_ret2
        exact ⟨by rw [Hp.out]; rfl, hb⟩
      · have hp : Oct.put v (k : Int) = ([], 2) := if_neg (by simpa using fun _ _ => hz)
        have hq1 : 1 ≤ v / 256 ^ k := (Nat.one_le_div_iff (Nat.pow_pos (by decide))).2 (Nat.le_of_not_lt hz)
        have hqs : v / 256 ^ k ≤ v := Nat.div_le_self _ _
        generalize v / 256 ^ k = q at *
        have hne : ((q : Int) != 0) = true := by rw [bne_iff_ne]; omega
        have Hp := Lib.hid hp; clear hp
        have Hbl := Lib.hid hbl; clear hbl
        have Hbt := Lib.hid hbt; clear hbt
        have Ha := Lib.hid ha; clear ha
        go_wp2
        go_ret2
        exact ⟨by rw [Hp.out]; rfl, hb⟩
end Go.Proofs.Yteddioaabhjjnaa
