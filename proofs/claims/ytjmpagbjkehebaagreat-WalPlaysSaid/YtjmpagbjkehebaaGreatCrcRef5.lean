/-
  What the document's answers Sum, Seal and Open return.
-/
import Derived.Test.YtjmpagbjkehebaaGreatCrcAll
import Derived.Test.YtjmpagbjkehebaaGreatOctAll
set_option linter.unusedVariables false
namespace Go.Proofs.YtjmpagbjkehebaaGreat
open Go.RowKit

set_option maxHeartbeats 1000000 in
theorem refSum_any (s : ByteArray) (hs : s.size ≤ 140737488351232) (w : World) :
    Calls Tryz.prog 163 #[.string s] w fun e w' => e = .returned (.int .u32 (Crc.sum s.data.toList)) ∧ w = w' := by
  have hm : Crc.sum s.data.toList = Crc.ones ^^^ Crc.crc Crc.ones s.data.toList := rfl
  have Hm := Lib.hid hm; clear hm
  go_enter Tryz.func163, Tryz.ntmps163
  go_wp2
  go_loop [3, 4] (fun a i => ∃ k : Nat, k ≤ s.size ∧ i = .int .i64 k ∧ a = .int .u32 (Crc.crc Crc.ones (s.data.toList.take k) : Nat)) (fun _ i => s.size - (intOf i).toNat)
  case atStart => exact ⟨0, by omega, rfl, rfl⟩
  case round =>
    obtain ⟨k, hk, rfl, rfl⟩ := hrel
    have hl := ba_len s
    by_cases hlt : k < s.size
    · have hnx := Crc.crc_take Crc.ones s.data.toList k (by omega)
      rw [ba_get s k (by omega)] at hnx
      have hxl := Crc.crc_lt (s.data.toList.take k) Crc.ones Crc.ones_lt
      generalize Crc.crc Crc.ones (s.data.toList.take k) = x at *
      have hbt : s[k].toNat < 256 := s[k].toNat_lt
      have hx32 := u32_xor x s[k].toNat hxl (by omega)
      have hy0 : Crc.byte x s[k] = Crc.it 8 (x ^^^ s[k].toNat) := rfl
      rw [hy0] at hnx
      have hxx : x ^^^ s[k].toNat < 2 ^ 32 := Nat.xor_lt_two_pow hxl (by omega)
      generalize hsk : s[k].toNat = b at *
      generalize x ^^^ b = z at *
      have hwb : IntKind.u32.wrap (b : Int) = (b : Int) := by rw [u32_wrap, Nat.mod_eq_of_lt (by omega)]
      have Hnx := Lib.hid hnx; clear hnx
      clear hy0
      go_wp2
      go_loop [3, 5] (fun a j => ∃ m : Nat, m ≤ 8 ∧ j = .int .i64 m ∧ a = .int .u32 (Crc.it m z : Nat)) (fun _ j => 8 - (intOf j).toNat)
      case atStart => exact ⟨0, by omega, rfl, rfl⟩
      case round =>
        clear hx32 hwb
        obtain ⟨m, hm, rfl, rfl⟩ := hrel
        by_cases hlm : m < 8
        · have hst := Crc.it_succ m z
          have hq := Crc.it_lt m z hxx
          generalize Crc.it m z = c at *
          have he : Crc.step c = c / 2 ^^^ (if c % 2 = 1 then Crc.poly else 0) := rfl
          rw [he] at hst
          by_cases ho : c % 2 = 1
          · have hv : bits .xor .u32 ((c : Int) / 2) 3988292384 = ((Crc.it (m + 1) z : Nat) : Int) := by
              rw [hst, if_pos ho]
              have := u32_xor (c / 2) Crc.poly (by omega) Crc.poly_lt
              exact this
            have ho2 : (c : Int) % 2 = 1 := by omega
            have Hv := Lib.hid hv; clear hv
            clear he hst ho
            go_wp2
            go_round
            case rel => exact ⟨m + 1, by omega, by go_num, by rw [← Hv.out]⟩
            case measure => simp [intOf]; omega
          · have hv : ((c : Int) / 2) = ((Crc.it (m + 1) z : Nat) : Int) := by
              rw [hst, if_neg ho]; simp
            have ho2 : (c : Int) % 2 = 0 := by omega
            have Hv := Lib.hid hv; clear hv
            clear he hst ho
            go_wp2
            go_round
            case rel => exact ⟨m + 1, by omega, by go_num, by rw [← Hv.out]⟩
            case measure => simp [intOf]; omega
        · obtain rfl : m = 8 := by omega
          rw [show ((8 : Nat) : Int) = 8 from rfl]
          go_wp2
          go_round
          case rel => exact ⟨k + 1, by omega, by go_num, by rw [Hnx.out]⟩
          case measure => simp [intOf]; omega
    · obtain rfl : k = s.size := by omega
      have he : s.data.toList.take s.size = s.data.toList := List.take_of_length_le (by omega)
      rw [he]
      have hxl := Crc.crc_lt s.data.toList Crc.ones Crc.ones_lt
      have hv := u32_compl _ hxl
      rw [← Hm.out] at hv
      have Hv := Lib.hid hv; clear hv
      clear he
      go_wp2
      go_ret
      exact ⟨ret_int Hv.out, rfl⟩

set_option maxHeartbeats 400000 in
theorem refSeal_any (s : ByteArray) (hs : s.size ≤ 140737488351232) (w : World) :
    Calls Tryz.prog 140 #[.string s] w fun e w' => e = .returned (.string (sealB s)) ∧ Below w.heap.size w w' := by
  have hsl := Crc.sum_lt s.data.toList
  have hp := fun u => refNum_any (Crc.sum s.data.toList) 4 u (by omega) (by decide)
  rw [le4_eq] at hp
  have hq : sealB s = s ++ ⟨(Crc.le4 (Crc.sum s.data.toList)).toArray⟩ := rfl
  have cs := fun u => refSum_any s hs u
  have hl := le4_length (Crc.sum s.data.toList)
  generalize Crc.le4 (Crc.sum s.data.toList) = t at *
  generalize Crc.sum s.data.toList = c at *
  rw [show ((4 : Nat) : Int) = 4 from rfl] at hp
  have hb : ¬ 9223372036854775807 < s.size + t.length := by omega
  have Hp := Lib.hid hp; clear hp
  have Cs := Lib.hid cs; clear cs
  have Hq := Lib.hid hq; clear hq
  go_enter Tryz.func140, Tryz.ntmps140
  go_wp2_with fail
  refine (Cs.out _).mono ?_; rintro e w1 ⟨rfl, rfl⟩
  go_wp2_with fail
  refine (Hp.out _).mono ?_; rintro e w2 ⟨rfl, h2⟩
  go_wp2_with fail
  go_ret
  exact ⟨by rw [Hq.out]; rfl, h2⟩

end Go.Proofs.YtjmpagbjkehebaaGreat
