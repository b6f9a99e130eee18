/-
  What More and Sum return: checksums by a table.
-/
import Derived.Test.YteddioaabhjjnaaCrcTable
set_option linter.unusedVariables false
namespace Go.Proofs.Yteddioaabhjjnaa
open Go.RowKit

theorem u32_compl (a : Nat) (h : a < 4294967296) : bits .xor .u32 IntKind.u32.max (a : Int) = ((Crc.ones ^^^ a : Nat) : Int) := u32_xor Crc.ones a (by decide) h

theorem Crc.crc_take (c : Nat) (l : List UInt8) (k : Nat) (h : k < l.length) : Crc.crc c (l.take (k + 1)) = Crc.byte (Crc.crc c (l.take k)) l[k] := by
  unfold Crc.crc
  rw [List.take_succ_eq_append_getElem h, List.foldl_append]
  rfl

/-- one byte by the table -/
theorem Crc.round (x : Nat) (b : UInt8) : ((x % 256) ^^^ b.toNat) < 256 ∧ Crc.byte x b = x / 256 ^^^ Crc.it 8 ((x % 256) ^^^ b.toNat) := by
  have hb := b.toNat_lt
  have e : (x ^^^ b.toNat) % 256 = (x % 256) ^^^ b.toNat := by
    have := Nat.xor_mod_two_pow (a := x) (b := b.toNat) (n := 8)
    rw [show (2 : Nat) ^ 8 = 256 from rfl, Nat.mod_eq_of_lt (show b.toNat < 256 by omega)] at this
    exact this
  refine ⟨Nat.xor_lt_two_pow (n := 8) (Nat.mod_lt _ (by decide)) hb, ?_⟩
  rw [Crc.byte_table, e, Nat.xor_comm]

set_option maxRecDepth 100000 in
set_option maxHeartbeats 1000000 in
theorem more_any (c : Nat) (hc : c < 4294967296) (s : ByteArray) (hs : s.size ≤ 140737488351232) (w : World) :
    Calls Try.prog 14 #[.int .u32 c, .string s] w fun e w' => e = .returned (.int .u32 (Crc.more c s.data.toList)) ∧ Below w.heap.size w w' := by
  have hz := zero256
  have hsz : (Try.prog.info? 41).map (·.size) = some (u32s (Crc.tab 256)).size := by rw [u32s_size, Crc.tab_length]; kernel_rfl
  have hss : (u32s (nils 256)).size = (u32s (Crc.tab 256)).size := by rw [u32s_size, u32s_size, Crc.tab_length, nils_length]
  have ct := table_any
  have hcl := Crc.tab_length 256
  have hget := fun j h => Crc.tab_get 256 j h
  have hcm := u32_compl c hc
  have hx0 : Crc.ones ^^^ c < 4294967296 := Nat.xor_lt_two_pow (n := 32) Crc.ones_lt hc
  generalize hT : Crc.tab 256 = T at *
  have HT := Lib.hid hT; clear hT
  have Hget := Lib.hid hget; clear hget
  have Hsz := Lib.hid hsz; clear hsz
  have Hss := Lib.hid hss; clear hss
  have Ct := Lib.hid ct; clear ct
  have Hcm := Lib.hid hcm; clear hcm
  have hm : Crc.more c s.data.toList = Crc.ones ^^^ Crc.crc (Crc.ones ^^^ c) s.data.toList := rfl
  have Hm := Lib.hid hm; clear hm
  go_enter Try.func14, Try.ntmps14
  go_wp2_with (first | (go_at_call 19; refine (Ct.out _).mono ?_; rintro e w1 ⟨rfl, h1⟩) | (with_reducible refine wpList_store_whole rfl 41 (.tmp 5) (.tmp 7) rfl w1.heap.size (u32s T) rfl rfl _ _ (heap_alloc_new _ _) Hsz.out Hss.out (u32s_one T) ?_))
  have e1 := World.setRow_alloc_new w1 (u32s (nils 256)) (u32s T) 41
  rw [e1]
  clear e1 hz
  rw [Hcm.out]
  obtain ⟨w2, hw2⟩ : ∃ w2, w2 = w1.alloc (.cells (u32s T) 41) := ⟨_, rfl⟩
  rw [← hw2]
  have hb2 : Below w.heap.size w w2 := by rw [hw2]; exact h1.alloc h1.size _
  have hrow2 : w2.heap[w1.heap.size]? = some (.cells (u32s T) 41 (0, 0)) := by rw [hw2]; exact heap_alloc_new _ _
  clear hw2
  have Hb2 := Lib.hid hb2; clear hb2
  have Hrow2 := Lib.hid hrow2; clear hrow2
  generalize Crc.ones ^^^ c = x0 at *
  have Hc := Lib.hid hcl; clear hcl
  clear h1
  generalize w1.heap.size = g at *
  go_loop [0, 12] (fun a i => ∃ k : Nat, k ≤ s.size ∧ i = .int .i64 k ∧ a = .int .u32 (Crc.crc x0 (s.data.toList.take k) : Nat)) (fun _ i => s.size - (intOf i).toNat)
  case atStart => exact ⟨0, by omega, rfl, by simp [Crc.crc]⟩
  case round =>
    obtain ⟨k, hk, rfl, rfl⟩ := hrel
    have hl := ba_len s
    by_cases hlt : k < s.size
    · have hnx := Crc.crc_take x0 s.data.toList k (by omega)
      rw [ba_get s k (by omega)] at hnx
      have hxl := Crc.crc_lt (s.data.toList.take k) x0 hx0
      generalize Crc.crc x0 (s.data.toList.take k) = x at *
      have hrd := Crc.round x s[k]
      rw [← hnx] at hrd
      have hbt : s[k].toNat < 256 := s[k].toNat_lt
      generalize hy : Crc.crc x0 (s.data.toList.take (k + 1)) = y at *
      have Hy := Lib.hid hy; clear hy
      generalize hsk : s[k].toNat = b at *
      have hx8 := u8_xor_nat (x % 256) b (Nat.mod_lt _ (by decide)) hbt
      rw [show ((x % 256 : Nat) : Int) = (x : Int) % 256 by simp] at hx8
      obtain ⟨q1, q2⟩ := hrd
      generalize (x % 256) ^^^ b = j at *
      have hcell := row_u32 Hrow2.out j (by rw [Hc.out]; exact q1)
      rw [Hget.out j q1] at hcell
      have ht := Crc.it_lt 8 j (by omega)
      have hv := u32_xor (x / 256) (Crc.it 8 j) (by omega) ht
      rw [← q2, show ((x / 256 : Nat) : Int) = (x : Int) / 256 by simp] at hv
      generalize Crc.it 8 j = z at *
      have i0 : (0 : Int) ≤ (j : Int) := by omega
      have i1 : (j : Int) < 256 := by omega
      have tj : ((j : Int)).toNat = j := by omega
      have Hv := Lib.hid hv; clear hv
      clear ht q2 hnx
      go_wp2
      go_round
      case rel => exact ⟨k + 1, by omega, by go_num, by rw [Hv.out, Hy.out]⟩
      case measure => simp [intOf]; omega
    · obtain rfl : k = s.size := by omega
      have he : s.data.toList.take s.size = s.data.toList := List.take_of_length_le (by omega)
      rw [he]
      have hxl := Crc.crc_lt s.data.toList x0 hx0
      have hv := u32_compl _ hxl
      rw [← Hm.out] at hv
      have Hv := Lib.hid hv; clear hv
      clear he
      go_wp2
      go_ret
      exact ⟨ret_int Hv.out, Hb2.out⟩

theorem sum_any (s : ByteArray) (hs : s.size ≤ 140737488351232) (w : World) :
    Calls Try.prog 9 #[.string s] w fun e w' => e = .returned (.int .u32 (Crc.sum s.data.toList)) ∧ Below w.heap.size w w' := by
  have h := fun u => more_any 0 (by decide) s hs u
  have e : Crc.more 0 s.data.toList = Crc.sum s.data.toList := by unfold Crc.more Crc.sum; rw [Nat.xor_zero]
  rw [e] at h
  rw [show (((0 : Nat) : Int)) = 0 from rfl] at h
  have H := Lib.hid h; clear h
  clear e
  go_enter Try.func9, Try.ntmps9
  go_wp2_with fail
  refine (H.out _).mono ?_; rintro e w1 ⟨rfl, h1⟩
  go_wp2_with fail
  go_ret
  exact ⟨rfl, h1⟩
end Go.Proofs.Yteddioaabhjjnaa
