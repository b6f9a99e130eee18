/-
  What the document's Num returns: the lowest bytes of a number.
-/
import Derived.Test.YteddioaabhjjnaaRows
import Derived.Test.YteddioaabhjjnaaGoBase
import Derived.Test.YteddioaabhjjnaaOctPure2
set_option linter.unusedVariables false
namespace Go.Proofs.Yteddioaabhjjnaa
open Go.RowKit

set_option maxHeartbeats 400000 in
theorem refNum_any (v n : Nat) (w : World) (h1 : v < 18446744073709551616) (hn' : n ≤ 8) :
    Calls Try.prog 18 #[.int .u64 v, .int .i64 n] w fun e w' => e = .returned (.string ⟨(Oct.le n v).toArray⟩) ∧ Below w.heap.size w w' := by
  go_enter Try.func18, Try.ntmps18
  go_wp2
  go_loopw [0, 5, 6] (fun a s i wr => ∃ k : Nat, k ≤ n ∧ i = .int .i64 k ∧ a = .int .u64 ((v / 256 ^ k : Nat) : Int) ∧ s = .string ⟨(Oct.le k v).toArray⟩ ∧ Below w.heap.size w wr) (fun _ _ i _ => n - (intOf i).toNat)
  case atStart => exact ⟨0, by omega, rfl, by simp, rfl, Below.refl _ _⟩
  case round =>
    obtain ⟨k, hk, rfl, rfl, rfl, hb⟩ := hrel
    by_cases hlt : k < n
    · have hq' : v / 256 ^ (k + 1) = v / 256 ^ k / 256 := by rw [Nat.pow_succ, Nat.div_div_eq_div_mul]
      have hle : Oct.le (k + 1) v = Oct.le k v ++ [UInt8.ofNat (v / 256 ^ k)] := Oct.le_snoc k v
      have hlen : (Oct.le k v).length + 1 ≤ 9 := by rw [Oct.le_length]; omega
      have hqs : v / 256 ^ k ≤ v := Nat.div_le_self _ _
      generalize hq : v / 256 ^ k = q at *
      have hcv := conv_byte (P := Try.prog) 35 9 5 Try.underlying35 Try.underlying5 Try.underlying9 wr (UInt8.ofNat q) ((q : Int) % 256) (by simp)
      have Hq := Lib.hid hq; clear hq
      have Hq' := Lib.hid hq'; clear hq'
      have Hle := Lib.hid hle; clear hle
      go_wp2
      go_roundw
      case rel => exact ⟨k + 1, by omega, by go_num, by rw [Hq'.out]; go_num, by rw [cat_one, Hle.out], hb.alloc (Below.size hb) _⟩
      case measure => simp [intOf]; omega
    · obtain rfl : k = n := by omega
      go_wp2
      go_ret
      exact ⟨rfl, hb⟩
end Go.Proofs.Yteddioaabhjjnaa
