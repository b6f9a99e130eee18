/-
  What the document's answers sum, told and Sum return.
-/
import Derived.Test.YtdlcdbpigcmnbaaDoorShaRefBlock
import Derived.Test.YtdlcdbpigcmnbaaDoorShaPure3
set_option linter.unusedVariables false
namespace Go.Proofs.YtdlcdbpigcmnbaaDoor
open Go.RowKit

/-- the bytes of the first words -/
def wb (s : Sha.St) (j : Nat) : List UInt8 := (s.list.take j).flatMap Sha.bytes4
theorem wb_zero (s : Sha.St) : wb s 0 = [] := by simp [wb]
theorem wb_succ (s : Sha.St) (j : Nat) (h : j < 8) : wb s (j + 1) = wb s j ++ Sha.bytes4 (s.list.getD j 0) := by
  have : j = 0 ∨ j = 1 ∨ j = 2 ∨ j = 3 ∨ j = 4 ∨ j = 5 ∨ j = 6 ∨ j = 7 := by omega
  rcases this with rfl | rfl | rfl | rfl | rfl | rfl | rfl | rfl <;> simp [wb, Sha.St.list]
theorem wb_full (s : Sha.St) : wb s 8 = s.text := rfl
theorem wb_length (s : Sha.St) (j : Nat) (h : j ≤ 8) : (wb s j).length = 4 * j := by
  have : j = 0 ∨ j = 1 ∨ j = 2 ∨ j = 3 ∨ j = 4 ∨ j = 5 ∨ j = 6 ∨ j = 7 ∨ j = 8 := by omega
  rcases this with rfl | rfl | rfl | rfl | rfl | rfl | rfl | rfl | rfl <;> simp [wb, Sha.St.list, Sha.bytes4]

set_option maxRecDepth 100000 in
set_option maxHeartbeats 2000000 in
theorem rsum_any (gh ch gk ck : Nat) (s0 : Sha.St) (K : List Nat) (s : ByteArray) (w : World) (hs : s0.Ok) (hh : Num .u32 gh s0.list w) (hk : Num .u32 gk K w) (hKl : K.length = 64) (hlen : s.size ≤ 1048576) :
    Calls Tryd.prog 19 #[.string s, .slice (some ⟨gk, 0, none⟩) 64 ck, .slice (some ⟨gh, 0, none⟩) 8 ch] w fun e w' => e = .returned (.string ⟨(Sha.fo K s0 (s.data.toList ++ Sha.pad s.size) ((s.data.toList ++ Sha.pad s.size).length / 64)).text.toArray⟩) ∧ Below w.heap.size w w' := by
  obtain ⟨i0, hi, hz0, hz1, hz2⟩ := info_parts infoByte
  have Hi := Lib.hid hi; clear hi
  have Hz0 := Lib.hid hz0; clear hz0
  have Hz1 := Lib.hid hz1; clear hz1
  have Hz2 := Lib.hid hz2; clear hz2
  have cp := rpad_any s w hlen
  have hPl : (s.data.toList ++ Sha.pad s.size).length = 64 * ((s.data.toList ++ Sha.pad s.size).length / 64) := by
    have h := Sha.pad_fits s.size
    rw [List.length_append, ba_len, Sha.pad_length]; omega
  have hPb : (s.data.toList ++ Sha.pad s.size).length ≤ 1048576 + 72 := by
    have h := Sha.padLen_bd s.size
    rw [List.length_append, ba_len, Sha.pad_length]; omega
  generalize s.data.toList ++ Sha.pad s.size = PL at *
  generalize PL.length / 64 = N at *
  obtain ⟨PT, hPT⟩ : ∃ PT : ByteArray, PT = ⟨PL.toArray⟩ := ⟨_, rfl⟩
  rw [← hPT] at cp
  have hPTl : PT.data.toList = PL := by rw [hPT]
  have hPTs : PT.size = 64 * N := by rw [← ba_len, hPTl, hPl]
  have hPb2 : 64 * N ≤ 1048648 := by omega
  clear hPT hPb
  have Cp := Lib.hid cp; clear cp
  have HPl := Lib.hid hPl; clear hPl
  have HPTl := Lib.hid hPTl; clear hPTl
  have HPTs := Lib.hid hPTs; clear hPTs
  have Hh := Lib.hid hh; clear hh
  have Hk := Lib.hid hk; clear hk
  have Hs := Lib.hid hs; clear hs
  go_enter Tryd.func19, Tryd.ntmps19
  go_wp2_with fail
  refine Cp.out.mono ?_; rintro e w1 ⟨rfl, hb1⟩
  have hh1 := Hh.out.below hb1
  have hk1 := Hk.out.below hb1
  go_wp2_with fail
  go_loopw [2, 7] (fun hv i wr => ∃ (n g c : Nat), n ≤ N ∧ i = .int .i64 ((64 * n : Nat) : Int) ∧ hv = .slice (some ⟨g, 0, none⟩) 8 c ∧ Num .u32 g (Sha.fo K s0 PL n).list wr ∧ Num .u32 gk K wr ∧ Below w.heap.size w wr) (fun _ i _ => 64 * N - (intOf i).toNat)
  case atStart => exact ⟨0, gh, ch, by omega, rfl, rfl, hh1, hk1, hb1⟩
  case round =>
    clear hh1 hk1 hb1
    obtain ⟨n, g, c, hn, rfl, rfl, hg, hkk, hbel⟩ := hrel
    have hok := Sha.fo_ok K Hs.out PL n
    have hnext : Sha.fo K s0 PL (n + 1) = Sha.block K (Sha.fo K s0 PL n) ((PL.drop (64 * n)).take 64) := rfl
    by_cases hlt : n < N
    · generalize Sha.fo K s0 PL n = r at *
      obtain ⟨B, hB⟩ : ∃ B, B = PT.extract (64 * n) (64 * n + 64) := ⟨_, rfl⟩
      have hBl : B.data.toList = (PL.drop (64 * n)).take 64 := by rw [hB, Lib.extract_data, HPTl.out, show 64 * n + 64 - 64 * n = 64 by omega]
      have hBs : B.size = 64 := by rw [hB, ByteArray.size_extract, HPTs.out]; omega
      obtain ⟨m, hm⟩ : ∃ m, m = 64 * n := ⟨_, rfl⟩
      rw [← hm] at hB
      have hPs := HPTs.out
      have hsl : ∀ u : World, (Instr.slice 9 (.string PT) (some (.int .i64 (m : Int))) (some (.int .i64 ((m : Int) + 64))) none).run Tryd.prog u = .ok (.string B) u := fun u => by
        rw [run_slice_string (P := Tryd.prog) (h := Tryd.underlying9) (h0 := by omega) (h1 := by omega) (h2 := by omega), hB]
        rfl
      have cb := fun u (h1 : Num .u32 g r.list u) (h2 : Num .u32 gk K u) => rblock_any g c gk ck r K B u hok h1 h2 hKl hBs
      rw [hBl, ← hnext] at cb
      rw [← hm]
      have hmb : m + 64 ≤ PT.size := by omega
      have hms : PT.size ≤ 1048648 := by omega
      have Cb := Lib.hid cb; clear cb
      have Hm := Lib.hid hm; clear hm
      have Hg := Lib.hid hg; clear hg
      have Hkk := Lib.hid hkk; clear hkk
      have Hbel := Lib.hid hbel; clear hbel
      have hd : decide ((m : Int) < (PT.size : Int)) = true := decide_eq_true (by omega)
      clear hB hBl hnext hok hPs
      go_wp2_with fail
      refine (Cb.out _ Hg.out Hkk.out).mono ?_; rintro e w2 ⟨⟨g2, c2, rfl, hg2⟩, hb2⟩
      have hk2 := Hkk.out.below hb2
      have hbel2 := Hbel.out.trans (hb2.mono Hbel.out.size)
      have Hg2 := Lib.hid hg2; clear hg2
      have Hk2 := Lib.hid hk2; clear hk2
      have Hbel2 := Lib.hid hbel2; clear hbel2
      clear hb2
      go_wp2_with fail
      go_roundw
      case rel => exact ⟨n + 1, g2, c2, by omega, by rw [Hm.out]; go_num, rfl, Hg2.out, Hk2.out, Hbel2.out⟩
      case measure => have := Hm.out; simp [intOf]; omega
    · obtain rfl : n = N := by omega
      have hPs := HPTs.out
      have hd : decide (((64 * n : Nat) : Int) < (PT.size : Int)) = false := decide_eq_false (by omega)
      have e64 : ((64 * n : Nat) : Int) = (PT.size : Int) := by omega
      rw [e64] at hd ⊢
      clear hPs e64 hnext
      obtain ⟨r, hR⟩ : ∃ r, r = Sha.fo K s0 PL n := ⟨_, rfl⟩
      rw [← hR] at hg hok
      have HR := Lib.hid hR; clear hR
      have Hg := Lib.hid hg; clear hg
      have Hbel := Lib.hid hbel; clear hbel
      have Hok := Lib.hid hok; clear hok
      clear hkk hlt
      generalize wr = wz at *
      go_wp2
      go_loopw [8, 9] (fun o i u => ∃ (j : Nat) (v : Value), v = o ∧ j ≤ 8 ∧ i = .int .i64 j ∧ Owns wz.heap.size 5 v (u8s (wb r j)).toList u ∧ Below wz.heap.size wz u) (fun _ i _ => 8 - (intOf i).toNat)
      case atStart => exact ⟨0, _, rfl, by omega, rfl, Owns.nil _ _ _, Below.refl _ _⟩
      case round =>
        obtain ⟨j, v, rfl, hj, rfl, hown, hbw⟩ := hrel
        have HO := Lib.hid hown; clear hown
        have HB := Lib.hid hbw; clear hbw
        by_cases hlt : j < 8
        · have hzg := Hg.out j hlt
          have hlg := block_lt_of_cell hzg
          have hg := (Hg.out.below HB.out) j hlt
          have hts := wb_succ r j hlt
          have hxl : (u8s (wb r j)).toList.length = 4 * j := by rw [Array.length_toList, u8s_size, wb_length _ _ hj]
          generalize r.list.getD j 0 = x at *
          have hkeep : ∀ u, Below wz.heap.size wz u → (u.cell? ⟨g, j, none⟩ = some (.int .u32 (x : Nat)) ∧ Below wz.heap.size wz u) := fun u hu => ⟨by rw [hu.cell (p := ⟨g, j, none⟩) hlg]; exact hzg, hu⟩
          have hown2 : wr.ownsRow wz.heap.size 5 1 v (4 * j) (u8s (wb r j)).toList := by have h := HO.out; unfold Owns at h; rw [hxl] at h; exact h
          have Hown2 := Lib.hid hown2; clear hown2
          have Hkeep := Lib.hid hkeep; clear hkeep
          have Hts := Lib.hid hts; clear hts
          have Hxl := Lib.hid hxl; clear hxl
          clear hlg hzg
          have j0 : (0 : Int) ≤ (j : Int) := by omega
          have j1 : (j : Int) < 8 := by omega
          go_wp2
          go_region_held3 (fun w' => w'.cell? ⟨g, j, none⟩ = some (.int .u32 (x : Nat)) ∧ Below wz.heap.size wz w') (first | exact Hkeep.out _ HB.out | exact Hkeep.out _ HB.out.drew | exact Hkeep.out _ (HB.out.alloc HB.out.size _) | exact Hkeep.out _ ((HB.out.alloc HB.out.size _).drew) | exact Hkeep.out _ (HB.out.drew.alloc HB.out.size _) | exact Hkeep.out _ (((HB.out.alloc HB.out.size _).drew).grown hgrow (by have := HB.out.size; simp; omega) (fun j hj => (HO.out.lt j hj).1)) | go_keep) ((refine step_append_lies _ (by rfl) (.tmp 30) (.tmp 54) 40 (by rfl) wz.heap.size 5 i0 _ 1 1 Tryd.underlying40 Hi.out Hz0.out Hz1.out Hz2.out (by rfl) (by decide) v (4 * j) (u8s (wb r j)).toList (by rfl) ((Hown2.out.alloc _).drew) ⟨wr.heap.size, 0, none⟩ 4 4 [.int .u8 ((x : Int) / 16777216 % 256), .int .u8 ((x : Int) / 65536 % 256), .int .u8 ((x : Int) / 256 % 256), .int .u8 ((x : Int) % 256)] (by rfl) (by rfl) (World.news_of_block (cs := #[.int .u8 ((x : Int) / 16777216 % 256), .int .u8 ((x : Int) / 65536 % 256), .int .u8 ((x : Int) / 256 % 256), .int .u8 ((x : Int) % 256)]) (t := 5) (fr := (0, 0)) (heap_alloc_new wr _)) (by simp [Value.oneCell']) (by decide) (by unfold maxLen; omega) (by omega) (by have := HB.out.size; simp; omega) (wr.heap.size + 1) (by simp) ?_; intro gg cap w4 hown4 hgrow hat hlt4))
          all_goals
            go_wp2
            have hbelow : Below wz.heap.size wz w4 := ((HB.out.alloc HB.out.size _).drew).grown hgrow (by have := HB.out.size; simp; omega) (fun j hj => (HO.out.lt j hj).1)
            go_roundw
            case rel =>
              refine ⟨j + 1, _, rfl, by omega, by go_num, ?_, hbelow⟩
              have e : (u8s (wb r (j + 1))).toList = (u8s (wb r j)).toList ++ [.int .u8 ((x : Int) / 16777216 % 256), .int .u8 ((x : Int) / 65536 % 256), .int .u8 ((x : Int) / 256 % 256), .int .u8 ((x : Int) % 256)] := by
                rw [Hts.out]; simp [u8s, Sha.bytes4]
              rw [e]
              unfold Owns
              rw [List.length_append, Hxl.out]
              exact hown4
            case measure => simp [intOf]; omega
        · obtain rfl : j = 8 := by omega
          rw [show ((8 : Nat) : Int) = 8 from rfl]
          have hcv := HO.out
          rw [wb_full] at hcv
          have hcv2 := hcv.conv (P := Tryd.prog) 40 9 Tryd.underlying40 Tryd.underlying5 Tryd.underlying9
          clear hcv HO
          go_wp2
          go_ret
          exact ⟨by rw [← HR.out]; rfl, Hbel.out.trans (HB.out.mono Hbel.out.size)⟩
end Go.Proofs.YtdlcdbpigcmnbaaDoor
