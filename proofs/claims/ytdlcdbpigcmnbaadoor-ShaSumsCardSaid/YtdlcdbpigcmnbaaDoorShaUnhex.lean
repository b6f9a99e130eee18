/-
  What Unhex returns.
-/
import Derived.Test.YtdlcdbpigcmnbaaDoorShaHex
set_option linter.unusedVariables false
namespace Go.Proofs.YtdlcdbpigcmnbaaDoor
open Go.RowKit

theorem digitValue_any (c : Nat) (w : World) (hc : c < 256) :
    Calls Tryd.prog 22 #[.int .u8 c] w fun e w' => e = .returned (.tuple #[.int .u8 (Hex.val c : Nat), .bool (Hex.isDig c)]) ∧ w = w' := by
  by_cases h1 : 48 ≤ c
  · by_cases h2 : c ≤ 57
    · have hv : Hex.val c = c - 48 := if_pos ⟨h1, h2⟩
      have hd : Hex.isDig c = true := by simp [Hex.isDig, h1, h2]
      rw [hv, hd]
      clear hv hd
      go_enter Tryd.func22, Tryd.ntmps22
      go_wp2
      rw [show ((c - 48 : Nat) : Int) = (c : Int) - 48 by omega]
      go_ret2
      exact ⟨rfl, rfl⟩
    · by_cases h3 : 97 ≤ c
      · by_cases h4 : c ≤ 102
        · have hv : Hex.val c = c - 87 := by unfold Hex.val; rw [if_neg (by omega), if_pos ⟨h3, h4⟩]
          have hd : Hex.isDig c = true := by simp [Hex.isDig, h3, h4]
          rw [hv, hd]
          clear hv hd
          go_enter Tryd.func22, Tryd.ntmps22
          go_wp2
          rw [show ((c - 87 : Nat) : Int) = (c : Int) - 97 + 10 by omega]
          go_ret2
          exact ⟨rfl, rfl⟩
        · have hv : Hex.val c = 0 := by unfold Hex.val; rw [if_neg (by omega), if_neg (by omega)]
          have hd : Hex.isDig c = false := by simp [Hex.isDig]; omega
          rw [hv, hd]
          clear hv hd
          go_enter Tryd.func22, Tryd.ntmps22
          go_wp2
          go_ret2
          exact ⟨rfl, rfl⟩
      · have hv : Hex.val c = 0 := by unfold Hex.val; rw [if_neg (by omega), if_neg (by omega)]
        have hd : Hex.isDig c = false := by simp [Hex.isDig]; omega
        rw [hv, hd]
        clear hv hd
        go_enter Tryd.func22, Tryd.ntmps22
        go_wp2
        go_ret2
        exact ⟨rfl, rfl⟩
  · have hv : Hex.val c = 0 := by unfold Hex.val; rw [if_neg (by omega), if_neg (by omega)]
    have hd : Hex.isDig c = false := by simp [Hex.isDig]; omega
    have h3 : ¬ 97 ≤ c := by omega
    rw [hv, hd]
    clear hv hd
    go_enter Tryd.func22, Tryd.ntmps22
    go_wp2
    go_ret2
    exact ⟨rfl, rfl⟩

theorem un_of {l acc : List UInt8} (h : Hex.unF l = some acc) : Hex.un l = (acc, 0) := by simp [Hex.un, h]
theorem un_none {l : List UInt8} (h : Hex.unF l = none) : Hex.un l = ([], 7) := by simp [Hex.un, h]

theorem nib (x y : Nat) (hx : x < 16) (hy : y < 16) : bits .or .u8 ((x : Int) * 16) (y : Int) = ((UInt8.ofNat (16 * x + y)).toNat : Int) := by
  rw [show (x : Int) * 16 = ((x * 16 : Nat) : Int) by simp, u8_or_nat _ _ (by omega) (by omega)]
  have h := Nat.two_pow_add_eq_or_of_lt (show y < 2 ^ 4 by omega) x
  rw [show (2 : Nat) ^ 4 = 16 from rfl] at h
  rw [UInt8.toNat_ofNat', Nat.mul_comm x 16, ← h]
  congr 1
  omega

set_option maxHeartbeats 1000000 in
theorem unhex_any (s : ByteArray) (w : World) (hs : s.size ≤ 33554432) :
    Calls Tryd.prog 11 #[.string s] w fun e w' => e = .returned (.tuple #[.string ⟨(Hex.un s.data.toList).1.toArray⟩, .int .i64 (Hex.un s.data.toList).2]) ∧ Below w.heap.size w w' := by
  have hl1 : s.data.toList.length = s.size := ba_len s
  by_cases hodd : s.size % 2 = 1
  · have hu := un_none (Hex.unF_odd s.data.toList.length s.data.toList (Nat.le_refl _) (by omega))
    have ho : ((s.size : Int) % 2 != 0) = true := by rw [bne_iff_ne]; omega
    have ho2 : ((s.size : Int) % 2 == 0) = false := by rw [beq_eq_false_iff_ne]; omega
    rw [hu]
    clear hu hl1
    go_enter Tryd.func11, Tryd.ntmps11
    go_wp2
    go_ret2
    exact ⟨rfl, Below.refl _ _⟩
  · have ho : ((s.size : Int) % 2 != 0) = false := by rw [bne_eq_false_iff_eq]; omega
    have ho2 : ((s.size : Int) % 2 == 0) = true := by rw [beq_iff_eq]; omega
    have ho3 : (s.size : Int) % 2 = 0 := by omega
    have hbk : (w.alloc (.cells #[.pointer none, .slice none 0 0] 42)).heap[w.heap.size]? = some (.cells #[.pointer none, .slice none 0 0] 42 (0, 0)) := heap_alloc_new _ _
    have hB0 : Below w.heap.size w (w.alloc (.cells #[.pointer none, .slice none 0 0] 42)) := (Below.refl _ _).alloc (Nat.le_refl _) _
    have hgr := grow_any w.heap.size (s.size / 2) _ hbk hB0.size (by omega)
    have Hgr := Lib.hid hgr; clear hgr
    have HB0 := Lib.hid hB0; clear hB0
    have Hl1 := Lib.hid hl1; clear hl1
    clear hbk
    go_enter Tryd.func11, Tryd.ntmps11
    go_wp2_with fail
    refine Hgr.out.mono ?_
    rintro e w1 ⟨rfl, h1, h2⟩
    have hb1 := HB0.out.trans h2
    clear h2
    go_wp2_with fail
    go_loopw [5] (fun i wr => ∃ (k : Nat) (acc : List UInt8), 2 * k ≤ s.size ∧ i = .int .i64 ((2 * k : Nat) : Int) ∧ acc.length = k ∧ Hex.unF (s.data.toList.take (2 * k)) = some acc ∧ Holds w.heap.size acc wr ∧ Below w.heap.size w wr) (fun i _ => s.size - (intOf i).toNat)
    case atStart => exact ⟨0, [], by omega, rfl, rfl, by simp [Hex.unF], h1, hb1⟩
    case round =>
      clear h1 hb1
      obtain ⟨k, acc, hk, rfl, hal, hun, hh, hb⟩ := hrel
      have Hh := Lib.hid hh; clear hh
      have Hb := Lib.hid hb; clear hb
      have Hun := Lib.hid hun; clear hun
      have Hal := Lib.hid hal; clear hal
      obtain ⟨n, hn⟩ : ∃ n, n = 2 * k := ⟨_, rfl⟩
      have hn2 : n % 2 = 0 := by omega
      have Hn := Lib.hid hn
      rw [← hn]
      by_cases hlt : n < s.size
      · have hlt1 : n + 1 < s.size := by
          have : s.size % 2 = 0 := by omega
          omega
        have hl := Hl1.out
        have hb0 : s[n].toNat < 256 := s[n].toNat_lt
        have hb1 : s[n + 1].toNat < 256 := s[n + 1].toNat_lt
        have hsplit : s.data.toList = s.data.toList.take n ++ s[n] :: s[n + 1] :: s.data.toList.drop (n + 2) := by
          have e1 : s.data.toList[n]'(by omega) = s[n] := ba_get s n hlt (by omega)
          have e2 : s.data.toList[n + 1]'(by omega) = s[n + 1] := ba_get s (n + 1) hlt1 (by omega)
          rw [← e1, ← e2, ← List.drop_eq_getElem_cons, ← List.drop_eq_getElem_cons, List.take_append_drop]
        have htk : s.data.toList.take (n + 2) = s.data.toList.take n ++ [s[n], s[n + 1]] := by
          have e1 : s.data.toList[n]'(by omega) = s[n] := ba_get s n hlt (by omega)
          have e2 : s.data.toList[n + 1]'(by omega) = s[n + 1] := ba_get s (n + 1) hlt1 (by omega)
          rw [← e1, ← e2, List.take_succ_eq_append_getElem (show n + 1 < _ by omega), List.take_succ_eq_append_getElem (show n < _ by omega), List.append_assoc]
          rfl
        have c1 := fun u => digitValue_any s[n].toNat u hb0
        have c2 := fun u => digitValue_any s[n + 1].toNat u hb1
        have C1 := Lib.hid c1; clear c1
        have C2 := Lib.hid c2; clear c2
        have hun := Hun.out
        rw [← hn] at hun
        by_cases hd : Hex.isDig s[n].toNat = true ∧ Hex.isDig s[n + 1].toNat = true
        · have hst := Hex.unF_step _ _ _ _ hun hd.1 hd.2
          rw [← htk] at hst
          have hv1 := Hex.val_lt _ hd.1
          have hv2 := Hex.val_lt _ hd.2
          have c3 := fun (u : World) (hH : Holds w.heap.size acc u) (hB : w.heap.size ≤ u.heap.size) => byte_any w.heap.size acc (UInt8.ofNat (16 * Hex.val s[n].toNat + Hex.val s[n + 1].toNat)) _ (nib _ _ hv1 hv2) u hH (by rw [Hal.out]; omega) hB
          have d1 := hd.1
          have d2 := hd.2
          rw [d1] at C1
          rw [d2] at C2
          have C3 := Lib.hid c3; clear c3
          have Hst := Lib.hid hst; clear hst
          have Htk := Lib.hid htk; clear htk
          have Hsp := Lib.hid hsplit; clear hsplit
          have Hun2 := Lib.hid hun; clear hun
          clear hd d1 d2 hl hn
          generalize Hex.val s[n].toNat = x at *
          generalize Hex.val s[n + 1].toNat = y at *
          go_wp2_with fail
          refine (C1.out _).mono ?_; rintro e w2 ⟨rfl, rfl⟩
          go_wp2_with fail
          refine (C2.out _).mono ?_; rintro e w2 ⟨rfl, rfl⟩
          go_wp2_with fail
          refine (C3.out _ Hh.out Hb.out.size).mono ?_; rintro e w2 ⟨rfl, h2, h3⟩
          have hb2 := Hb.out.trans h3
          have H2 := Lib.hid h2; clear h2
          have Hb2 := Lib.hid hb2; clear hb2
          clear h3
          go_wp2_with fail
          go_roundw
          case rel =>
            have := Hn.out
            exact ⟨k + 1, acc ++ [UInt8.ofNat (16 * x + y)], by omega, by rw [this]; go_num, by rw [List.length_append, Hal.out]; rfl, by rw [show 2 * (k + 1) = n + 2 by omega]; exact Hst.out, H2.out, Hb2.out⟩
          case measure => simp [intOf]; omega
        · have hbad := Hex.unF_bad _ _ _ _ (s.data.toList.drop (n + 2)) hun hd
          rw [← hsplit] at hbad
          have hu := un_none hbad
          have Hu := Lib.hid hu; clear hu
          clear hbad hun htk hsplit hl hn
          cases hd1 : Hex.isDig s[n].toNat with
          | false =>
            rw [hd1] at C1
            clear hd hd1
            go_wp2_with fail
            refine (C1.out _).mono ?_; rintro e w2 ⟨rfl, rfl⟩
            go_wp2_with fail
            refine (C2.out _).mono ?_; rintro e w2 ⟨rfl, rfl⟩
            go_wp2_with fail
            go_ret2
            rw [Hu.out]
            exact ⟨rfl, Hb.out⟩
          | true =>
            have hd2 : Hex.isDig s[n + 1].toNat = false := by
              cases h : Hex.isDig s[n + 1].toNat with
              | false => rfl
              | true => exact absurd ⟨hd1, h⟩ hd
            rw [hd1] at C1
            rw [hd2] at C2
            clear hd hd1 hd2
            go_wp2_with fail
            refine (C1.out _).mono ?_; rintro e w2 ⟨rfl, rfl⟩
            go_wp2_with fail
            refine (C2.out _).mono ?_; rintro e w2 ⟨rfl, rfl⟩
            go_wp2_with fail
            go_ret2
            rw [Hu.out]
            exact ⟨rfl, Hb.out⟩
      · have ht : s.data.toList.take n = s.data.toList := List.take_of_length_le (by rw [Hl1.out]; omega)
        have hun := Hun.out
        rw [← hn, ht] at hun
        have hu := un_of hun
        have hst := string_any w.heap.size _ wr Hh.out Hb.out.size
        have Hst := Lib.hid hst; clear hst
        have Hu := Lib.hid hu; clear hu
        clear ht hun hn
        go_wp2_with fail
        refine Hst.out.mono ?_
        rintro e w5 ⟨rfl, h5⟩
        go_wp2_with fail
        go_ret2
        rw [Hu.out]
        exact ⟨rfl, Hb.out.trans h5⟩
end Go.Proofs.YtdlcdbpigcmnbaaDoor
