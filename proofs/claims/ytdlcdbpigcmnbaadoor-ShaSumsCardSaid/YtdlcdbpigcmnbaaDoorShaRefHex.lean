/-
  What the document's answers Hex and Unhex return.
-/
import Derived.Test.YtdlcdbpigcmnbaaDoorShaUnhex
import Derived.Test.YtdlcdbpigcmnbaaDoorGoOwn
import Derived.Deep.RegionHeld3
set_option linter.unusedVariables false
namespace Go.Proofs.YtdlcdbpigcmnbaaDoor
open Go.RowKit

theorem infoByte : (Tryd.prog.info? 5).map (fun i => (i.zero, i.size, i.bytes)) = some (some (.int .u8 0), 1, 1) := by kernel_rfl

set_option maxHeartbeats 1000000 in
theorem refHex_any (s : ByteArray) (w : World) (hs : s.size ≤ 16777216) :
    Calls Tryd.prog 14 #[.string s] w fun e w' => e = .returned (.string ⟨(Hex.hex s.data.toList).toArray⟩) ∧ Below w.heap.size w w' := by
  obtain ⟨i0, hi, hz0, hz1, hz2⟩ := info_parts infoByte
  have Hi := Lib.hid hi; clear hi
  have Hz0 := Lib.hid hz0; clear hz0
  have Hz1 := Lib.hid hz1; clear hz1
  have Hz2 := Lib.hid hz2; clear hz2
  have hl1 : s.data.toList.length = s.size := ba_len s
  have Hl1 := Lib.hid hl1; clear hl1
  go_enter Tryd.func14, Tryd.ntmps14
  go_wp2
  go_loopw [3, 4] (fun vv i wr => ∃ (k : Nat) (v : Value), v = vv ∧ k ≤ s.size ∧ i = .int .i64 k ∧ Owns w.heap.size 5 v (u8s (Hex.hex (s.data.toList.take k))).toList wr ∧ Below w.heap.size w wr) (fun _ i _ => s.size - (intOf i).toNat)
  case atStart => exact ⟨0, _, rfl, by omega, rfl, Owns.nil _ _ _, Below.refl _ _⟩
  case round =>
    obtain ⟨k, v, rfl, hk, rfl, hown, hb⟩ := hrel
    have Hown := Lib.hid hown; clear hown
    have Hb := Lib.hid hb; clear hb
    by_cases hlt : k < s.size
    · have hts := Hex.hex_take_succ s.data.toList k (by rw [Hl1.out]; exact hlt)
      rw [ba_get s k hlt] at hts
      have hxl : (u8s (Hex.hex (s.data.toList.take k))).toList.length = 2 * k := by
        rw [Array.length_toList, u8s_size, Hex.hex_length, List.length_take, Hl1.out]; omega
      have hbt : s[k].toNat < 256 := s[k].toNat_lt
      obtain ⟨x, hx⟩ : ∃ x, x = s[k].toNat / 16 := ⟨_, rfl⟩
      obtain ⟨y, hy⟩ : ∃ y, y = s[k].toNat % 16 := ⟨_, rfl⟩
      have hx16 : x < 16 := by omega
      have hy16 : y < 16 := by omega
      have q1 : (s[k].toNat : Int).tdiv 16 = (x : Int) := by rw [Int.tdiv_eq_ediv_of_nonneg (by omega)]; omega
      have q2 : (s[k].toNat : Int).tmod 16 = (y : Int) := by rw [Int.tmod_eq_emod_of_nonneg (by omega)]; omega
      have i0' : (0 : Int) ≤ (x : Int) := by omega
      have i1 : (x : Int) < 16 := by omega
      have i2 : (0 : Int) ≤ (y : Int) := by omega
      have i3 : (y : Int) < 16 := by omega
      have wx : IntKind.u8.wrap (x : Int) = (x : Int) := wrap_u8_in _ (by omega) (by omega)
      have wy : IntKind.u8.wrap (y : Int) = (y : Int) := wrap_u8_in _ (by omega) (by omega)
      have t1 := table_get x hx16 (by show _ < 16; exact hx16)
      have t2 := table_get y hy16 (by show _ < 16; exact hy16)
      have j0 : (0 : Int) ≤ (k : Int) := by omega
      have j1 : (k : Int) < (s.size : Int) := by omega
      have htw : Hex.two s[k] = [Hex.dig (s[k].toNat / 16), Hex.dig (s[k].toNat % 16)] := rfl
      rw [htw, ← hx, ← hy] at hts
      have Hx := Lib.hid hx; clear hx
      have Hy := Lib.hid hy; clear hy
      have hown2 : wr.ownsRow w.heap.size 5 1 v (2 * k) (u8s (Hex.hex (s.data.toList.take k))).toList := by have h := Hown.out; unfold Owns at h; rw [hxl] at h; exact h
      have Hown2 := Lib.hid hown2; clear hown2
      have Hts := Lib.hid hts; clear hts
      have Hxl := Lib.hid hxl; clear hxl
      have Htw := Lib.hid htw; clear htw
      go_wp2
      go_region_held3 (fun w' => w.heap.size ≤ w'.heap.size) (first | exact Hb.out.size | (have := Hb.out.size; simp; omega) | (have := hgrow.size; have := Hb.out.size; simp at *; omega) | go_keep) ((refine step_append_lies _ (by rfl) (.tmp 11) (.tmp 22) 40 (by rfl) w.heap.size 5 i0 _ 1 1 Tryd.underlying40 Hi.out Hz0.out Hz1.out Hz2.out (by rfl) (by decide) v (2 * k) (u8s (Hex.hex (s.data.toList.take k))).toList (by rfl) ((Hown2.out.alloc _).drew) ⟨wr.heap.size, 0, none⟩ 2 2 [.int .u8 ((Hex.dig x).toNat : Int), .int .u8 ((Hex.dig y).toNat : Int)] (by rfl) (by rfl) (World.news_of_block (cs := #[.int .u8 ((Hex.dig x).toNat : Int), .int .u8 ((Hex.dig y).toNat : Int)]) (t := 5) (fr := (0, 0)) (heap_alloc_new wr _)) (by simp [Value.oneCell']) (by decide) (by unfold maxLen; omega) (by omega) (by have := Hb.out.size; simp; omega) (wr.heap.size + 1) (by simp) ?_; intro gg cap w1 hown1 hgrow hat hlt1))
      all_goals
        go_wp2
        go_roundw
        case rel =>
          refine ⟨k + 1, _, rfl, by omega, by go_num, ?_, ?_⟩
          · have e : (u8s (Hex.hex (s.data.toList.take (k + 1)))).toList = (u8s (Hex.hex (s.data.toList.take k))).toList ++ [.int .u8 ((Hex.dig x).toNat : Int), .int .u8 ((Hex.dig y).toNat : Int)] := by rw [Hts.out]; simp [u8s]
            rw [e]
            unfold Owns
            rw [List.length_append, Hxl.out]
            exact hown1
          · exact ((Hb.out.alloc Hb.out.size _).drew).grown hgrow (by have := Hb.out.size; simp; omega) (fun j hj => (Hown.out.lt j hj).1)
        case measure => simp [intOf]; omega
    · obtain rfl : k = s.size := by omega
      have ht : s.data.toList.take s.size = s.data.toList := List.take_of_length_le (by rw [Hl1.out]; exact Nat.le_refl _)
      have hcv := Hown.out
      rw [ht] at hcv
      have hcv2 := hcv.conv (P := Tryd.prog) 40 9 Tryd.underlying40 Tryd.underlying5 Tryd.underlying9
      clear ht hcv
      go_wp2
      go_ret
      exact ⟨rfl, Hb.out⟩
end Go.Proofs.YtdlcdbpigcmnbaaDoor
