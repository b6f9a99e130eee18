/-
  What Put, Get and the document's answers for them return: numbers as bytes.
-/
import Derived.Test.YtdaognkdglimeaaRows
import Derived.Test.YtdaognkdglimeaaGoBase
import Derived.Test.YtdaognkdglimeaaOctPure2
set_option linter.unusedVariables false
namespace Go.Proofs.Ytdaognkdglimeaa
open Go.RowKit

set_option maxHeartbeats 400000 in
theorem refNum_any (v n : Nat) (w : World) (h1 : v < 18446744073709551616) (hn' : n ≤ 8) :
    Calls Try.prog 26 #[.int .u64 v, .int .i64 n] w fun e w' => e = .returned (.string ⟨(Oct.le n v).toArray⟩) ∧ Below w.heap.size w w' := by
  go_enter Try.func26, Try.ntmps26
  go_wp2
  go_loopw [0, 5, 6] (fun a s i wr => ∃ k : Nat, k ≤ n ∧ i = .int .i64 k ∧ a = .int .u64 ((v / 256 ^ k : Nat) : Int) ∧ s = .string ⟨(Oct.le k v).toArray⟩ ∧ Below w.heap.size w wr) (fun _ _ i _ => n - (intOf i).toNat)
  case atStart => exact ⟨0, by omega, rfl, by simp, rfl, Below.refl _ _⟩
  case round =>
    obtain ⟨k, hk, rfl, rfl, rfl, hb⟩ := hrel
    by_cases hlt : k < n
    · have hq' : v / 256 ^ (k + 1) = v / 256 ^ k / 256 := by rw [Nat.pow_succ, Nat.div_div_eq_div_mul]
      have hle : Oct.le (k + 1) v = Oct.le k v ++ [UInt8.ofNat (v / 256 ^ k)] := Oct.le_snoc k v
      have hlen : (Oct.le k v).length + 1 ≤ 9 := by rw [Oct.le_length]; omega
      have hqs : v / 256 ^ k ≤ v := Nat.div_le_self _ _
      generalize hq : v / 256 ^ k = q at *
      have hcv := conv_byte (P := Try.prog) 47 9 5 Try.underlying47 Try.underlying5 Try.underlying9 wr (UInt8.ofNat q) ((q : Int) % 256) (by simp)
      have Hq := Lib.hid hq; clear hq
      have Hq' := Lib.hid hq'; clear hq'
      have Hle := Lib.hid hle; clear hle
      go_wp2
      go_roundw
      case rel => exact ⟨k + 1, by omega, by go_num, by rw [Hq'.out]; go_num, by rw [cat_one, Hle.out], hb.alloc (Below.size hb) _⟩
      case measure => simp [intOf]; omega
    · obtain rfl : k = n := by omega
      go_wp2
      go_ret
      exact ⟨rfl, hb⟩

set_option maxHeartbeats 400000 in
theorem refValue_any (s : ByteArray) (w : World) (h8 : s.size ≤ 8) :
    Calls Try.prog 27 #[.string s] w fun e w' => e = .returned (.int .u64 (Oct.un s.data.toList)) ∧ w = w' := by
  have hl1 : s.data.toList.length ≤ s.size := Nat.le_of_eq (ba_len s)
  have hl2 : s.size ≤ s.data.toList.length := Nat.le_of_eq (ba_len s).symm
  go_enter Try.func27, Try.ntmps27
  go_wp2
  go_loop [3, 4] (fun a i => ∃ k : Nat, k ≤ s.size ∧ i = .int .i64 ((k : Int) - 1) ∧ a = .int .u64 (Oct.un (s.data.toList.drop k))) (fun _ i => (intOf i + 1).toNat)
  case atStart => exact ⟨s.size, by omega, rfl, by rw [List.drop_of_length_le (by omega)]; simp [Oct.un]⟩
  case round =>
    obtain ⟨k, hk, rfl, rfl⟩ := hrel
    by_cases hlt : 0 < k
    · obtain ⟨j, rfl⟩ : ∃ j, k = j + 1 := ⟨k - 1, by omega⟩
      have hd := Oct.un_drop s.data.toList j (by omega)
      have hsm := Oct.un_small (s.data.toList.drop j) (by simp; omega)
      rw [ba_get s j (by omega)] at hd
      have hbt : s[j].toNat < 256 := s[j].toNat_lt
      generalize hp : Oct.un (s.data.toList.drop j) = p at *
      generalize hq : Oct.un (s.data.toList.drop (j + 1)) = q at *
      have Hp := Lib.hid hp; clear hp
      have Hq := Lib.hid hq; clear hq
      have hbd : 256 * q + s[j].toNat ≤ 18446744073709551615 := by omega
      have Hd := Lib.hid hd; clear hd
      go_wp2
      go_round
      case rel => exact ⟨j, by omega, by go_num, by rw [Hp.out, Hd.out]; go_num⟩
      case measure => simp [intOf]
    · obtain rfl : k = 0 := by omega
      go_wp2
      go_ret
      exact ⟨ret_int (by simp), rfl⟩

set_option maxHeartbeats 400000 in
theorem octGet_any (s : ByteArray) (w : World) :
    Calls Try.prog 10 #[.string s] w fun e w' => e = .returned (.tuple #[.int .u64 (Oct.get s.data.toList).1, .int .i64 (Oct.get s.data.toList).2]) ∧ w = w' := by
  have hl1 : s.data.toList.length ≤ s.size := Nat.le_of_eq (ba_len s)
  have hl2 : s.size ≤ s.data.toList.length := Nat.le_of_eq (ba_len s).symm
  unfold Oct.get
  rw [ba_len]
  by_cases hc : 1 ≤ s.size ∧ s.size ≤ 8
  · rw [if_pos hc]
    obtain ⟨h0, h8⟩ := hc
    go_enter Try.func10, Try.ntmps10
    go_wp2
    go_loop [4, 5, 16] (fun a j i => ∃ k : Nat, k ≤ s.size ∧ i = .int .i64 k ∧ a = .int .u64 (Oct.un (s.data.toList.take k))) (fun _ _ i => s.size - (intOf i).toNat)
    case atStart => exact ⟨0, by omega, rfl, by simp [Oct.un]⟩
    case round =>
      obtain ⟨k, hk, rfl, rfl⟩ := hrel
      by_cases hlt : k < s.size
      · have hd := Oct.un_take_succ s.data.toList k (by omega)
        have hql := Oct.un_take_lt s.data.toList k (by omega)
        have hpl := Oct.un_take_lt s.data.toList (k + 1) (by omega)
        have hps : 2 ^ (8 * (k + 1)) ≤ 2 ^ 64 := Nat.pow_le_pow_right (by decide) (by omega)
        rw [ba_get s k (by omega)] at hd
        have hbt : s[k].toNat < 256 := s[k].toNat_lt
        generalize hp : Oct.un (s.data.toList.take (k + 1)) = p at *
        generalize hq : Oct.un (s.data.toList.take k) = q at *
        have hor : bits .or .u64 (q : Int) (IntKind.u64.wrap ((s[k].toNat : Int) * 2 ^ (8 * k))) = (p : Int) := by
          have h2 : s[k].toNat * 2 ^ (8 * k) < 18446744073709551616 := by omega
          have e : ((s[k].toNat : Int) * 2 ^ (8 * k)) = ((s[k].toNat * 2 ^ (8 * k) : Nat) : Int) := by simp
          rw [e, wrap_u64_in _ (by omega) (by omega), or_add q _ _ hql (by omega), hd]
        clear hps hpl hql
        have Hor := Lib.hid hor; clear hor
        have Hp := Lib.hid hp; clear hp
        have Hq := Lib.hid hq; clear hq
        have Hd := Lib.hid hd; clear hd
        go_wp2
        go_round
        case rel => exact ⟨k + 1, by omega, by go_num, by rw [Hor.out, Hp.out]⟩
        case measure => simp [intOf]; omega
      · obtain rfl : k = s.size := by omega
        have he : s.data.toList.take s.size = s.data.toList := List.take_of_length_le (by omega)
        rw [he]
        have He := Lib.hid he; clear he
        go_wp2
        go_ret2
        exact ⟨rfl, rfl⟩
  · rw [if_neg hc]
    by_cases h0 : s.size < 1
    all_goals
      go_enter Try.func10, Try.ntmps10
      go_wp2
      go_ret2
      exact ⟨rfl, rfl⟩

set_option maxHeartbeats 400000 in
theorem refGet_any (s : ByteArray) (w : World) :
    Calls Try.prog 11 #[.string s] w fun e w' => e = .returned (.tuple #[.int .u64 (Oct.get s.data.toList).1, .int .i64 (Oct.get s.data.toList).2]) ∧ w = w' := by
  unfold Oct.get
  rw [ba_len]
  by_cases hc : 1 ≤ s.size ∧ s.size ≤ 8
  · rw [if_pos hc]
    obtain ⟨h0, h8⟩ := hc
    go_enter Try.func11, Try.ntmps11
    go_wp2_with (go_at_call 27; refine (refValue_any s _ h8).mono ?_; rintro e w' ⟨rfl, rfl⟩)
    go_ret2
    exact ⟨rfl, rfl⟩
  · rw [if_neg hc]
    by_cases h0 : s.size < 1
    all_goals
      go_enter Try.func11, Try.ntmps11
      go_wp2
      go_ret2
      exact ⟨rfl, rfl⟩

set_option maxHeartbeats 400000 in
theorem refPut_any (v : Nat) (n : Int) (w : World) (h1 : v < 18446744073709551616) (hn0 : -9223372036854775808 ≤ n) (hn1 : n ≤ 9223372036854775807) :
    Calls Try.prog 9 #[.int .u64 v, .int .i64 n] w fun e w' => e = .returned (.tuple #[.string ⟨(Oct.put v n).1.toArray⟩, .int .i64 (Oct.put v n).2]) ∧ Below w.heap.size w w' := by
  by_cases hlo : n < 1
  · have hp : Oct.put v n = ([], 2) := if_neg (by omega)
    rw [hp]
    have Hp := Lib.hid hp; clear hp
    go_enter Try.func9, Try.ntmps9
    go_wp2
    go_ret2
    exact ⟨rfl, Below.refl _ _⟩
  by_cases hhi : 8 < n
  · have hp : Oct.put v n = ([], 2) := if_neg (by omega)
    rw [hp]
    have Hp := Lib.hid hp; clear hp
    go_enter Try.func9, Try.ntmps9
    go_wp2
    go_ret2
    exact ⟨rfl, Below.refl _ _⟩
  obtain ⟨m, rfl⟩ := Int.eq_ofNat_of_zero_le (show 0 ≤ n by omega)
  by_cases h8 : m = 8
  · subst h8
    have hp : Oct.put v ((8 : Nat) : Int) = (Oct.le 8 v, 0) := if_pos ⟨by omega, by omega, by simpa using h1⟩
    rw [hp]
    have Hp := Lib.hid hp; clear hp
    go_enter Try.func9, Try.ntmps9
    go_wp2_with (go_at_call 26; refine (refNum_any v 8 _ h1 (by omega)).mono ?_; rintro e w' ⟨rfl, hb⟩)
    go_ret2
    exact ⟨rfl, hb⟩
  · have hlt : m < 8 := by omega
    have hlt' : (m : Int) < 8 := by omega
    have hpow : (2 : Nat) ^ (8 * m) ≤ 2 ^ 56 := Nat.pow_le_pow_right (by decide) (by omega)
    have e256 : (256 : Nat) ^ m = 2 ^ (8 * m) := by rw [Nat.pow_mul]
    have hwr : IntKind.u64.wrap (2 ^ (8 * m)) = ((2 ^ (8 * m) : Nat) : Int) := by
      rw [show ((2 : Int) ^ (8 * m)) = ((2 ^ (8 * m) : Nat) : Int) by simp]
      exact wrap_u64_in _ (Int.natCast_nonneg _) (Int.ofNat_lt.2 (Nat.lt_of_le_of_lt hpow (by decide)))
    have Hw := Lib.hid hwr; clear hwr
    by_cases hv : v < 256 ^ m
    · have hp : Oct.put v (m : Int) = (Oct.le m v, 0) := if_pos ⟨by omega, by omega, by simpa using hv⟩
      rw [hp]
      have Hp := Lib.hid hp; clear hp
      have hdec : (v : Int) < IntKind.u64.wrap (2 ^ (8 * m)) := by rw [Hw.out]; exact Int.ofNat_lt.2 (e256 ▸ hv)
      clear hpow
      have He := Lib.hid e256; clear e256
      go_enter Try.func9, Try.ntmps9
      go_wp2_with (go_at_call 26; refine (refNum_any v m _ h1 (by omega)).mono ?_; rintro e w' ⟨rfl, hb⟩)
      go_ret2
      exact ⟨rfl, hb⟩
    · have hp : Oct.put v (m : Int) = ([], 2) := if_neg (by simpa using fun _ _ => hv)
      rw [hp]
      have Hp := Lib.hid hp; clear hp
      have hdec : IntKind.u64.wrap (2 ^ (8 * m)) ≤ (v : Int) := by rw [Hw.out]; exact Int.ofNat_le.2 (e256 ▸ Nat.le_of_not_lt hv)
      clear hpow
      have He := Lib.hid e256; clear e256
      go_enter Try.func9, Try.ntmps9
      go_wp2
      go_ret2
      exact ⟨rfl, Below.refl _ _⟩

set_option maxHeartbeats 400000 in
theorem octPut_any (v : Nat) (n : Int) (w : World) (h1 : v < 18446744073709551616) (hn0 : -9223372036854775808 ≤ n) (hn1 : n ≤ 9223372036854775807) :
    Calls Try.prog 8 #[.int .u64 v, .int .i64 n] w fun e w' => e = .returned (.tuple #[.string ⟨(Oct.put v n).1.toArray⟩, .int .i64 (Oct.put v n).2]) ∧ Below w.heap.size w w' := by
  by_cases hlo : n < 1
  · have hp : Oct.put v n = ([], 2) := if_neg (by omega)
    rw [hp]
    have Hp := Lib.hid hp; clear hp
    go_enter Try.func8, Try.ntmps8
    go_wp2
    go_ret2
    exact ⟨rfl, Below.refl _ _⟩
  by_cases hhi : 8 < n
  · have hp : Oct.put v n = ([], 2) := if_neg (by omega)
    rw [hp]
    have Hp := Lib.hid hp; clear hp
    go_enter Try.func8, Try.ntmps8
    go_wp2
    go_ret2
    exact ⟨rfl, Below.refl _ _⟩
  obtain ⟨m, rfl⟩ := Int.eq_ofNat_of_zero_le (show 0 ≤ n by omega)
  go_enter Try.func8, Try.ntmps8
  go_wp2
  have hst := ArrB.start w 45 8
  go_loopw [0, 7, 15] (fun a i j wr => ∃ (k : Nat) (bs : List UInt8), k ≤ m ∧ j = .int .i64 k ∧ a = .int .u64 ((v / 256 ^ k : Nat) : Int) ∧ bs.length = 8 ∧ bs.take k = Oct.le k v ∧ ArrB w.heap.size bs wr ∧ Below w.heap.size w wr) (fun _ _ j _ => m - (intOf j).toNat)
  case atStart => exact ⟨0, _, by omega, rfl, by simp, List.length_replicate, rfl, hst, (Below.refl _ _).alloc (Nat.le_refl _) _⟩
  case round =>
    obtain ⟨k, bs, hk, rfl, rfl, hbl, hbt, ha, hb⟩ := hrel
    clear hst
    by_cases hlt : k < m
    · have hcell := ha.cell (k := k) (by omega)
      have hfree := ha.free (k := k) (by omega)
      have hnew := ha.store (k := k) (by omega) (UInt8.ofNat (v / 256 ^ k)) (((v / 256 ^ k : Nat) : Int) % 256) (by simp)
      have hq' : v / 256 ^ (k + 1) = v / 256 ^ k / 256 := by rw [Nat.pow_succ, Nat.div_div_eq_div_mul]
      have hle : Oct.le (k + 1) v = Oct.le k v ++ [UInt8.ofNat (v / 256 ^ k)] := Oct.le_snoc k v
      have htk : (bs.set k (UInt8.ofNat (v / 256 ^ k))).take (k + 1) = Oct.le (k + 1) v := by
        rw [hle, ← hbt, List.take_succ_eq_append_getElem (by simp; omega)]
        simp [List.take_set_of_le]
      have hqs : v / 256 ^ k ≤ v := Nat.div_le_self _ _
      generalize v / 256 ^ k = q at *
      have Hq' := Lib.hid hq'; clear hq'
      have Hle := Lib.hid hle; clear hle
      have Htk := Lib.hid htk; clear htk
      have Hbl := Lib.hid hbl; clear hbl
      have Hbt := Lib.hid hbt; clear hbt
      have Ha := Lib.hid ha; clear ha
      have Hnew := Lib.hid hnew; clear hnew
      go_wp2
      go_roundw
      case rel => exact ⟨k + 1, bs.set k (UInt8.ofNat q), by omega, by go_num, by rw [Hq'.out]; go_num, by rw [List.length_set]; exact Hbl.out, Htk.out, Hnew.out, hb.setCell (Nat.le_refl _) _⟩
      case measure => simp [intOf]; omega
    · obtain rfl : k = m := by omega
      have hcv := ha.conv (P := Try.prog) 47 9 5 Try.underlying47 Try.underlying5 Try.underlying9 k 8 (by omega)
      rw [hbt] at hcv
      by_cases hz : v < 256 ^ k
      · have hp : Oct.put v (k : Int) = (Oct.le k v, 0) := if_pos ⟨by omega, by omega, by simpa using hz⟩
        rw [Nat.div_eq_of_lt hz]
        have Hp := Lib.hid hp; clear hp
        have Hbl := Lib.hid hbl; clear hbl
        have Hbt := Lib.hid hbt; clear hbt
        have Ha := Lib.hid ha; clear ha
        go_wp2
        go_ret2
        exact ⟨by rw [Hp.out]; rfl, hb⟩
      · have hp : Oct.put v (k : Int) = ([], 2) := if_neg (by simpa using fun _ _ => hz)
        have hq1 : 1 ≤ v / 256 ^ k := (Nat.one_le_div_iff (Nat.pow_pos (by decide))).2 (Nat.le_of_not_lt hz)
        have hqs : v / 256 ^ k ≤ v := Nat.div_le_self _ _
        generalize v / 256 ^ k = q at *
        have hne : ((q : Int) != 0) = true := by rw [bne_iff_ne]; omega
        have Hp := Lib.hid hp; clear hp
        have Hbl := Lib.hid hbl; clear hbl
        have Hbt := Lib.hid hbt; clear hbt
        have Ha := Lib.hid ha; clear ha
        go_wp2
        go_ret2
        exact ⟨by rw [Hp.out]; rfl, hb⟩

end Go.Proofs.Ytdaognkdglimeaa
