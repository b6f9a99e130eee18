/-
  What the document's answer Unhex returns.
-/
import Derived.Test.YtdlcdbpigcmnbaaDoorShaRefHex
set_option linter.unusedVariables false
namespace Go.Proofs.YtdlcdbpigcmnbaaDoor
open Go.RowKit

theorem digit_yes (c : Nat) (w : World) (hc : c < 256) (h : Hex.isDig c = true) :
    Calls Tryd.prog 25 #[.int .u8 c] w fun e w' => e = .returned (.int .i64 (Hex.val c : Nat)) ∧ w' = w := by
  have h' : (48 ≤ c ∧ c ≤ 57) ∨ (97 ≤ c ∧ c ≤ 102) := by unfold Hex.isDig at h; simpa using h
  clear h
  rcases h' with ⟨h1, h2⟩ | ⟨h1, h2⟩
  · have hv : Hex.val c = c - 48 := if_pos ⟨h1, h2⟩
    rw [hv, show ((c - 48 : Nat) : Int) = (c : Int) - 48 by omega]
    clear hv
    go_enter Tryd.func25, Tryd.ntmps25
    go_wp2
    go_ret
    exact ⟨rfl, rfl⟩
  · have hv : Hex.val c = c - 87 := by unfold Hex.val; rw [if_neg (by omega), if_pos ⟨h1, h2⟩]
    have h3 : ¬ c ≤ 57 := by omega
    have h4 : 48 ≤ c := by omega
    rw [hv, show ((c - 87 : Nat) : Int) = (c : Int) - 97 + 10 by omega]
    clear hv
    go_enter Tryd.func25, Tryd.ntmps25
    go_wp2
    go_ret
    exact ⟨rfl, rfl⟩
theorem digit_no (c : Nat) (w : World) (hc : c < 256) (h : Hex.isDig c = false) :
    Calls Tryd.prog 25 #[.int .u8 c] w fun e w' => e = .returned (.int .i64 (-1)) ∧ w' = w := by
  have h1 : ¬ (48 ≤ c ∧ c ≤ 57) := by intro hh; simp [Hex.isDig, hh.1, hh.2] at h
  have h2 : ¬ (97 ≤ c ∧ c ≤ 102) := by intro hh; simp [Hex.isDig, hh.1, hh.2] at h
  clear h
  by_cases a1 : 48 ≤ c
  · have a2 : ¬ c ≤ 57 := by omega
    by_cases a3 : 97 ≤ c
    · have a4 : ¬ c ≤ 102 := by omega
      go_enter Tryd.func25, Tryd.ntmps25
      go_wp2
      go_ret
      exact ⟨rfl, rfl⟩
    · go_enter Tryd.func25, Tryd.ntmps25
      go_wp2
      go_ret
      exact ⟨rfl, rfl⟩
  · have a3 : ¬ 97 ≤ c := by omega
    go_enter Tryd.func25, Tryd.ntmps25
    go_wp2
    go_ret
    exact ⟨rfl, rfl⟩

def dg (c : Nat) : Int := if Hex.isDig c = true then ((Hex.val c : Nat) : Int) else -1
theorem digit_any (c : Nat) (w : World) (hc : c < 256) : Calls Tryd.prog 25 #[.int .u8 c] w fun e w' => e = .returned (.int .i64 (dg c)) ∧ w' = w := by
  unfold dg
  cases h : Hex.isDig c with
  | true => exact digit_yes c w hc h
  | false => exact digit_no c w hc h
theorem dg_yes {c : Nat} (h : Hex.isDig c = true) : dg c = ((Hex.val c : Nat) : Int) := if_pos h
theorem dg_no {c : Nat} (h : Hex.isDig c = false) : dg c = -1 := if_neg (by rw [h]; decide)

set_option maxHeartbeats 1000000 in
theorem refUnhex_any (s : ByteArray) (w : World) (hs : s.size ≤ 33554432) :
    Calls Tryd.prog 12 #[.string s] w fun e w' => e = .returned (.tuple #[.string ⟨(Hex.un s.data.toList).1.toArray⟩, .int .i64 (Hex.un s.data.toList).2]) ∧ Below w.heap.size w w' := by
  have hl1 : s.data.toList.length = s.size := ba_len s
  by_cases hodd : s.size % 2 = 1
  · have hu := un_none (Hex.unF_odd s.data.toList.length s.data.toList (Nat.le_refl _) (by omega))
    have ho : ((s.size : Int) % 2 != 0) = true := by rw [bne_iff_ne]; omega
    have ho2 : ((s.size : Int) % 2 == 0) = false := by rw [beq_eq_false_iff_ne]; omega
    rw [hu]
    clear hu hl1
    go_enter Tryd.func12, Tryd.ntmps12
    go_wp2
    go_ret2
    exact ⟨rfl, Below.refl _ _⟩
  · have ho : ((s.size : Int) % 2 != 0) = false := by rw [bne_eq_false_iff_eq]; omega
    have ho2 : ((s.size : Int) % 2 == 0) = true := by rw [beq_iff_eq]; omega
    have ho3 : (s.size : Int) % 2 = 0 := by omega
    have Hl1 := Lib.hid hl1; clear hl1
    obtain ⟨i0, hi, hz0, hz1, hz2⟩ := info_parts infoByte
    have Hi := Lib.hid hi; clear hi
    have Hz0 := Lib.hid hz0; clear hz0
    have Hz1 := Lib.hid hz1; clear hz1
    have Hz2 := Lib.hid hz2; clear hz2
    go_enter Tryd.func12, Tryd.ntmps12
    go_wp2
    go_loopw [4, 5] (fun vv i wr => ∃ (k : Nat) (acc : List UInt8) (v : Value), v = vv ∧ 2 * k ≤ s.size ∧ i = .int .i64 ((2 * k : Nat) : Int) ∧ acc.length = k ∧ Hex.unF (s.data.toList.take (2 * k)) = some acc ∧ Owns w.heap.size 5 v (u8s acc).toList wr ∧ Below w.heap.size w wr) (fun _ i _ => s.size - (intOf i).toNat)
    case atStart => exact ⟨0, [], _, rfl, by omega, rfl, rfl, by simp [Hex.unF], Owns.nil _ _ _, Below.refl _ _⟩
    case round =>
      obtain ⟨k, acc, v, rfl, hk, rfl, hal, hun, hown, hb⟩ := hrel
      have Hown := Lib.hid hown; clear hown
      have Hb := Lib.hid hb; clear hb
      have Hun := Lib.hid hun; clear hun
      have Hal := Lib.hid hal; clear hal
      obtain ⟨n, hn⟩ : ∃ n, n = 2 * k := ⟨_, rfl⟩
      have hn2 : n % 2 = 0 := by omega
      have Hn := Lib.hid hn
      rw [← hn]
      by_cases hlt : n < s.size
      · have hlt1 : n + 1 < s.size := by
          have : s.size % 2 = 0 := by omega
          omega
        have hl := Hl1.out
        have hb0 : s[n].toNat < 256 := s[n].toNat_lt
        have hb1 : s[n + 1].toNat < 256 := s[n + 1].toNat_lt
        have hsplit : s.data.toList = s.data.toList.take n ++ s[n] :: s[n + 1] :: s.data.toList.drop (n + 2) := by
          have e1 : s.data.toList[n]'(by omega) = s[n] := ba_get s n hlt (by omega)
          have e2 : s.data.toList[n + 1]'(by omega) = s[n + 1] := ba_get s (n + 1) hlt1 (by omega)
          rw [← e1, ← e2, ← List.drop_eq_getElem_cons, ← List.drop_eq_getElem_cons, List.take_append_drop]
        have htk : s.data.toList.take (n + 2) = s.data.toList.take n ++ [s[n], s[n + 1]] := by
          have e1 : s.data.toList[n]'(by omega) = s[n] := ba_get s n hlt (by omega)
          have e2 : s.data.toList[n + 1]'(by omega) = s[n + 1] := ba_get s (n + 1) hlt1 (by omega)
          rw [← e1, ← e2, List.take_succ_eq_append_getElem (show n + 1 < _ by omega), List.take_succ_eq_append_getElem (show n < _ by omega), List.append_assoc]
          rfl
        have hun := Hun.out
        rw [← hn] at hun
        have j0 : (0 : Int) ≤ (n : Int) := by omega
        have j1 : (n : Int) < (s.size : Int) := by omega
        have j2 : (0 : Int) ≤ (n : Int) + 1 := by omega
        have j3 : (n : Int) + 1 < (s.size : Int) := by omega
        have wn : IntKind.i64.wrap ((n : Int) + 1) = (n : Int) + 1 := IntWalk.i64_in _ (by omega)
        have tn : ((n : Int) + 1).toNat = n + 1 := by omega
        by_cases hd : Hex.isDig s[n].toNat = true ∧ Hex.isDig s[n + 1].toNat = true
        · have hst := Hex.unF_step _ _ _ _ hun hd.1 hd.2
          rw [← htk] at hst
          have hv1 := Hex.val_lt _ hd.1
          have hv2 := Hex.val_lt _ hd.2
          have hg1 := dg_yes hd.1
          have hg2 := dg_yes hd.2
          have hnib : (UInt8.ofNat (16 * Hex.val s[n].toNat + Hex.val s[n + 1].toNat)).toNat = 16 * Hex.val s[n].toNat + Hex.val s[n + 1].toNat := by rw [UInt8.toNat_ofNat']; omega
          have Hst := Lib.hid hst; clear hst
          have Htk := Lib.hid htk; clear htk
          have Hsp := Lib.hid hsplit; clear hsplit
          have Hun2 := Lib.hid hun; clear hun
          have Hnib := Lib.hid hnib; clear hnib
          clear hd hl hn
          generalize Hex.val s[n].toNat = x at *
          generalize Hex.val s[n + 1].toNat = y at *
          go_wp2
          go_quiet ((go_at_call 25; exact Calls.quiet_of_same (digit_any _ _ (by assumption))))
          rw [hg1, hg2]
          clear hg1 hg2
          obtain ⟨w2, hw2⟩ : ∃ w2, w2 = wr.drewN nq := ⟨_, rfl⟩
          rw [← hw2]
          have hown2 : Owns w.heap.size 5 v (u8s acc).toList w2 := by rw [hw2]; exact Hown.out.below ⟨rfl, rfl, rfl, Nat.le_refl _, fun _ _ => rfl⟩
          have hb2 : Below w.heap.size w w2 := by rw [hw2]; exact drewN_below Hb.out nq
          have hxl : (u8s acc).toList.length = k := by rw [Array.length_toList, u8s_size]; exact Hal.out
          have hown3 : w2.ownsRow w.heap.size 5 1 v k (u8s acc).toList := by unfold Owns at hown2; rw [hxl] at hown2; exact hown2
          obtain ⟨c, hc⟩ : ∃ c, c = UInt8.ofNat (16 * x + y) := ⟨_, rfl⟩
          have hcv : (16 : Int) * (x : Int) + (y : Int) = (c.toNat : Int) := by have := Hnib.out; rw [← hc] at this; omega
          have hcb : c.toNat < 256 := c.toNat_lt
          have hst := Hst.out
          rw [← hc] at hst
          have Hst2 := Lib.hid hst; clear hst Hst
          have Hc := Lib.hid hc; clear hc
          have Hown3 := Lib.hid hown3; clear hown3
          have Hown2 := Lib.hid hown2; clear hown2
          have Hb2 := Lib.hid hb2; clear hb2
          have Hw2 := Lib.hid hw2; clear hw2
          have Hxl := Lib.hid hxl; clear hxl
          have z1 : ¬ (x : Int) < 0 := by omega
          have z2 : ¬ (y : Int) < 0 := by omega
          go_wp2_with (at_builtin; refine wpList_append_lies _ rfl (.tmp 33) (.tmp 39) 40 rfl w.heap.size 5 i0 _ 1 1 Tryd.underlying40 Hi.out Hz0.out Hz1.out Hz2.out rfl (by decide) v k (u8s acc).toList rfl (Hown3.out.alloc _) ⟨w2.heap.size, 0, none⟩ 1 1 [.int .u8 (c.toNat : Int)] rfl rfl (World.news_of_block (cs := #[.int .u8 (c.toNat : Int)]) (t := 5) (fr := (0, 0)) (heap_alloc_new w2 _)) (by simp [Value.oneCell']) (by decide) (by unfold maxLen; omega) (by omega) (by have := Hb2.out.size; simp; omega) (w2.heap.size + 1) (by simp) ?_; intro gg cap w3 hown4 hgrow hat hlt4)
          have hb3 : Below w.heap.size w w3 := (Hb2.out.alloc Hb2.out.size _).grown hgrow (by have := Hb2.out.size; simp; omega) (fun j hj => (Hown2.out.lt j hj).1)
          have e : (u8s (acc ++ [c])).toList = (u8s acc).toList ++ [.int .u8 (c.toNat : Int)] := by simp [u8s]
          have ho5 : Owns w.heap.size 5 (.slice (some ⟨gg, 0, none⟩) (k + 1) cap) (u8s (acc ++ [c])).toList w3 := by
            rw [e]
            unfold Owns
            rw [List.length_append, Hxl.out]
            exact hown4
          refine ⟨⟨_, _, _, _, ⟨k + 1, by have := Hn.out; omega, by rw [Hn.out]; go_num, acc ++ [c], by rw [List.length_append, Hal.out]; rfl, by rw [show 2 * (k + 1) = n + 2 by have := Hn.out; omega]; exact Hst2.out, ho5, hb3⟩, rfl, rfl, rfl, rfl⟩, ?_⟩
          simp [intOf]; omega
        · have hbad := Hex.unF_bad _ _ _ _ (s.data.toList.drop (n + 2)) hun hd
          rw [← hsplit] at hbad
          have hu := un_none hbad
          have Hu := Lib.hid hu; clear hu
          clear hbad hun htk hsplit hl hn
          cases hd1 : Hex.isDig s[n].toNat with
          | false =>
            have hg1 := dg_no hd1
            have Hd1 := Lib.hid hd1; clear hd1
            clear hd
            go_wp2
            go_quiet ((go_at_call 25; exact Calls.quiet_of_same (digit_any _ _ (by assumption))))
            rw [hg1]
            clear hg1
            go_wp2
            go_ret2
            rw [Hu.out]
            exact ⟨rfl, drewN_below Hb.out _⟩
          | true =>
            have hd2 : Hex.isDig s[n + 1].toNat = false := by
              cases h : Hex.isDig s[n + 1].toNat with
              | false => rfl
              | true => exact absurd ⟨hd1, h⟩ hd
            have hg1 := dg_yes hd1
            have hg2 := dg_no hd2
            have Hd1 := Lib.hid hd1; clear hd1
            have Hd2 := Lib.hid hd2; clear hd2
            clear hd
            generalize Hex.val s[n].toNat = x at *
            have z1 : ¬ (x : Int) < 0 := by omega
            go_wp2
            go_quiet ((go_at_call 25; exact Calls.quiet_of_same (digit_any _ _ (by assumption))))
            rw [hg1, hg2]
            clear hg1 hg2
            go_wp2
            go_ret2
            rw [Hu.out]
            exact ⟨rfl, drewN_below Hb.out _⟩
      · have ht : s.data.toList.take n = s.data.toList := List.take_of_length_le (by rw [Hl1.out]; omega)
        have hun := Hun.out
        rw [← hn, ht] at hun
        have hu := un_of hun
        have hcv := Hown.out.conv (P := Tryd.prog) 40 9 Tryd.underlying40 Tryd.underlying5 Tryd.underlying9
        have Hu := Lib.hid hu; clear hu
        clear ht hun hn
        go_wp2
        go_ret2
        rw [Hu.out]
        exact ⟨rfl, Hb.out⟩
end Go.Proofs.YtdlcdbpigcmnbaaDoor
