/-
  What octet.Get returns.
-/
import Derived.Test.YteddioaabhjjnaaRows
import Derived.Test.YteddioaabhjjnaaGoBase
import Derived.Test.YteddioaabhjjnaaOctPure2
set_option linter.unusedVariables false
namespace Go.Proofs.Yteddioaabhjjnaa
open Go.RowKit

set_option maxHeartbeats 400000 in
theorem octGet_any (s : ByteArray) (w : World) :
    Calls Try.prog 20 #[.string s] w fun e w' => e = .returned (.tuple #[.int .u64 (Oct.get s.data.toList).1, .int .i64 (Oct.get s.data.toList).2]) ∧ w = w' := by
  have hl1 : s.data.toList.length ≤ s.size := Nat.le_of_eq (ba_len s)
  have hl2 : s.size ≤ s.data.toList.length := Nat.le_of_eq (ba_len s).symm
  unfold Oct.get
  rw [ba_len]
  by_cases hc : 1 ≤ s.size ∧ s.size ≤ 8
  · rw [if_pos hc]
    obtain ⟨h0, h8⟩ := hc
    go_enter Try.func20, Try.ntmps20
    go_wp2
    go_loop [4, 5, 16] (fun a j i => ∃ k : Nat, k ≤ s.size ∧ i = .int .i64 k ∧ a = .int .u64 (Oct.un (s.data.toList.take k))) (fun _ _ i => s.size - (intOf i).toNat)
    case atStart => exact ⟨0, by omega, rfl, by simp [Oct.un]⟩
    case round =>
      obtain ⟨k, hk, rfl, rfl⟩ := hrel
      by_cases hlt : k < s.size
      · have hd := Oct.un_take_succ s.data.toList k (by omega)
        have hql := Oct.un_take_lt s.data.toList k (by omega)
        have hpl := Oct.un_take_lt s.data.toList (k + 1) (by omega)
        have hps : 2 ^ (8 * (k + 1)) ≤ 2 ^ 64 := Nat.pow_le_pow_right (by decide) (by omega)
        rw [ba_get s k (by omega)] at hd
        have hbt : s[k].toNat < 256 := s[k].toNat_lt
        generalize hp : Oct.un (s.data.toList.take (k + 1)) = p at *
        generalize hq : Oct.un (s.data.toList.take k) = q at *
        have hor : bits .or .u64 (q : Int) (IntKind.u64.wrap ((s[k].toNat : Int) * 2 ^ (8 * k))) = (p : Int) := by
          have h2 : s[k].toNat * 2 ^ (8 * k) < 18446744073709551616 := by omega
          have e : ((s[k].toNat : Int) * 2 ^ (8 * k)) = ((s[k].toNat * 2 ^ (8 * k) : Nat) : Int) := by simp
          rw [e, wrap_u64_in _ (by omega) (by omega), or_add q _ _ hql (by omega), hd]
        clear hps hpl hql
        have Hor := Lib.hid hor; clear hor
        have Hp := Lib.hid hp; clear hp
        have Hq := Lib.hid hq; clear hq
        have Hd := Lib.hid hd; clear hd
        go_wp2
        go_round
        case rel => exact ⟨k + 1, by omega, by go_num, by rw [Hor.out, Hp.out]⟩
        case measure => simp [intOf]; omega
      · obtain rfl : k = s.size := by omega
        have he : s.data.toList.take s.size = s.data.toList := List.take_of_length_le (by omega)
        rw [he]
        have He := Lib.hid he; clear he
        go_wp2
        go_ret2
        exact ⟨rfl, rfl⟩
  · rw [if_neg hc]
    by_cases h0 : s.size < 1
    all_goals
      go_enter Try.func20, Try.ntmps20
      go_wp2
      go_ret2
      exact ⟨rfl, rfl⟩
end Go.Proofs.Yteddioaabhjjnaa
