/-
  What Short, ReadShort and the document's answers for them return.
-/
import Derived.Test.YtdaognkdglimeaaOctNum
import Derived.Test.YtdaognkdglimeaaOctPure3
set_option linter.unusedVariables false
namespace Go.Proofs.Ytdaognkdglimeaa
open Go.RowKit

set_option maxHeartbeats 400000 in
theorem refShort_any (v : Nat) (w : World) (h1 : v < 18446744073709551616) :
    Calls Try.prog 15 #[.int .u64 v] w fun e w' => e = .returned (.string ⟨(Oct.short v).toArray⟩) ∧ Below w.heap.size w w' := by
  go_enter Try.func15, Try.ntmps15
  go_wp2
  go_loopw [0, 3] (fun a s wr => ∃ (q : Nat) (acc : List UInt8), a = .int .u64 q ∧ s = .string ⟨acc.toArray⟩ ∧ q ≤ v ∧ acc.length ≤ 10 ∧ Oct.ShortAt v q acc ∧ Below w.heap.size w wr) (fun a _ _ => (intOf a).toNat)
  case atStart => exact ⟨v, [], rfl, rfl, Nat.le_refl _, by simp, Oct.ShortAt.start v h1, Below.refl _ _⟩
  case round =>
    obtain ⟨q, acc, rfl, rfl, hq, hl, hs, hb⟩ := hrel
    by_cases hlt : 128 ≤ q
    · have hcv := conv_byte (P := Try.prog) 47 9 5 Try.underlying47 Try.underlying5 Try.underlying9 wr (UInt8.ofNat (q % 128 + 128)) ((q : Int) % 128 + 128) (by simp; omega)
      have hn := hs.next hlt
      have hn2 := hs.len hlt
      have hs9 := hs.len9
      have Hs := Lib.hid hs; clear hs
      generalize UInt8.ofNat (q % 128 + 128) = y at *
      have Hn := Lib.hid hn; clear hn
      have hqb : q ≤ 18446744073709551615 := by omega
      clear h1
      have hlt2 : (128 : Int) ≤ q := by omega
      clear hlt
      go_wp2
      go_roundw
      case rel => exact ⟨q / 128, acc ++ [y], by go_num, by rw [cat_one], by omega, hn2, Hn.out, hb.alloc (Below.size hb) _⟩
      case measure => simp [intOf]; omega
    · have hcv := conv_byte (P := Try.prog) 47 9 5 Try.underlying47 Try.underlying5 Try.underlying9 wr (UInt8.ofNat q) (q : Int) (by simp; omega)
      have hlt2 : (q : Int) ≤ 127 := by omega
      have hd : decide ((128 : Int) ≤ (q : Int)) = false := decide_eq_false (by omega)
      have hla := hs.last (by omega)
      generalize UInt8.ofNat q = y at *
      have Hs := Lib.hid hs; clear hs
      have Hla := Lib.hid hla; clear hla
      clear hlt h1
      go_wp2
      go_ret
      exact ⟨ret_string (by rw [cat_one, Hla.out]), hb.alloc (Below.size hb) _⟩

set_option maxHeartbeats 400000 in
theorem octShort_any (v : Nat) (w : World) (h1 : v < 18446744073709551616) :
    Calls Try.prog 14 #[.int .u64 v] w fun e w' => e = .returned (.string ⟨(Oct.short v).toArray⟩) ∧ Below w.heap.size w w' := by
  go_enter Try.func14, Try.ntmps14
  go_wp2
  have hst := ArrB.start w 50 10
  go_loopw [0, 4] (fun a s wr => ∃ (q : Nat) (acc bs : List UInt8), a = .int .u64 q ∧ s = .int .i64 acc.length ∧ q ≤ v ∧ acc.length ≤ 10 ∧ Oct.ShortAt v q acc ∧ bs.length = 10 ∧ bs.take acc.length = acc ∧ ArrB w.heap.size bs wr ∧ Below w.heap.size w wr) (fun a _ _ => (intOf a).toNat)
  case atStart => exact ⟨v, [], _, rfl, rfl, Nat.le_refl _, by simp, Oct.ShortAt.start v h1, List.length_replicate, rfl, hst, (Below.refl _ _).alloc (Nat.le_refl _) _⟩
  case round =>
    obtain ⟨q, acc, bs, rfl, rfl, hq, hl, hs, hbl, htk, ha, hb⟩ := hrel
    clear hst
    have hl9 : acc.length ≤ 9 := hs.len9
    have hcell := ha.cell (k := acc.length) (by omega)
    have hfree := ha.free (k := acc.length) (by omega)
    have hqb : (q : Int) ≤ 18446744073709551615 := by omega
    clear h1
    by_cases hlt : 128 ≤ q
    · have hor : bits .or .u8 ((q : Int) % 128) 128 = (q : Int) % 128 + 128 := u8_or128_right _ (by omega) (by omega)
      have hand : bits .and .u64 (q : Int) 127 = (q : Int) % 128 := by
        have := u64_and_nat q 127 (by omega) (by decide)
        rw [show ((127 : Nat) : Int) = 127 from rfl] at this
        rw [this, Nat.and_two_pow_sub_one_eq_mod q 7]
        rfl
      have hnew := ha.store (k := acc.length) (by omega) (UInt8.ofNat (q % 128 + 128)) ((q : Int) % 128 + 128) (by simp; omega)
      have hn := hs.next hlt
      have hn2 := hs.next9 hlt
      have hlt2 : (128 : Int) ≤ q := by omega
      have htk2 : (bs.set acc.length (UInt8.ofNat (q % 128 + 128))).take (acc.length + 1) = acc ++ [UInt8.ofNat (q % 128 + 128)] := by
        rw [List.take_succ_eq_append_getElem (by simp; omega)]
        simp [List.take_set_of_le, htk]
      generalize UInt8.ofNat (q % 128 + 128) = y at *
      have Hbl := Lib.hid hbl; clear hbl
      have Htk := Lib.hid htk; clear htk
      have Htk2 := Lib.hid htk2; clear htk2
      have Ha := Lib.hid ha; clear ha
      have Hnew := Lib.hid hnew; clear hnew
      have Hs := Lib.hid hs; clear hs
      have Hn := Lib.hid hn; clear hn
      clear hlt
      go_wp2
      go_roundw
      case rel => exact ⟨q / 128, acc ++ [y], bs.set acc.length y, by go_num, by simp, by omega, by simp; omega, Hn.out, by rw [List.length_set]; exact Hbl.out, by rw [List.length_append]; exact Htk2.out, Hnew.out, hb.setCell (Nat.le_refl _) _⟩
      case measure => simp [intOf]; omega
    · have hnew := ha.store (k := acc.length) (by omega) (UInt8.ofNat q) (q : Int) (by simp; omega)
      have hla := hs.last (by omega)
      have hcv := hnew.conv (P := Try.prog) 47 9 5 Try.underlying47 Try.underlying5 Try.underlying9 (acc.length + 1) 10 (by rw [List.length_set]; omega)
      have htk2 : (bs.set acc.length (UInt8.ofNat q)).take (acc.length + 1) = acc ++ [UInt8.ofNat q] := by
        rw [List.take_succ_eq_append_getElem (by simp; omega)]
        simp [List.take_set_of_le, htk]
      rw [htk2, hla] at hcv
      have hsl := slice_arr (P := Try.prog) 50 10 (by kernel_rfl) (by kernel_rfl) (fun _ => by kernel_rfl) w.heap.size ((acc.length : Int) + 1) (acc.length + 1) (by omega) (by omega)
      have hlt2 : (q : Int) ≤ 127 := by omega
      have hd : decide ((128 : Int) ≤ (q : Int)) = false := decide_eq_false (by omega)
      generalize UInt8.ofNat q = y at *
      have Hbl := Lib.hid hbl; clear hbl
      have Htk := Lib.hid htk; clear htk
      have Htk2 := Lib.hid htk2; clear htk2
      have Ha := Lib.hid ha; clear ha
      have Hnew := Lib.hid hnew; clear hnew
      have Hs := Lib.hid hs; clear hs
      have Hla := Lib.hid hla; clear hla
      clear hlt
      go_wp2
      go_ret
      exact ⟨rfl, hb.setCell (Nat.le_refl _) _⟩

set_option maxHeartbeats 400000 in
theorem octReadShort_any (s : ByteArray) (w : World) (hm : s.size ≤ 9223372036854775807) :
    Calls Try.prog 12 #[.string s] w fun e w' => e = .returned (.tuple #[.int .u64 (Oct.rs 0 0 s.data.toList).1, .int .i64 (Oct.rs 0 0 s.data.toList).2.1, .int .i64 (Oct.rs 0 0 s.data.toList).2.2]) ∧ w = w' := by
  have hl1 : s.data.toList.length ≤ s.size := Nat.le_of_eq (ba_len s)
  have hl2 : s.size ≤ s.data.toList.length := Nat.le_of_eq (ba_len s).symm
  go_enter Try.func12, Try.ntmps12
  go_wp2
  go_loop [2, 9] (fun a i => ∃ k v : Nat, k ≤ s.size ∧ i = .int .i64 k ∧ a = .int .u64 v ∧ Oct.RsAt s.data.toList k v) (fun _ i => s.size - (intOf i).toNat)
  case atStart => exact ⟨0, 0, by omega, rfl, rfl, Oct.RsAt.start _⟩
  case round =>
    obtain ⟨k, v, hk, rfl, rfl, hr⟩ := hrel
    by_cases hlt : k < s.size
    · have hkl : k < s.data.toList.length := by omega
      have eg := ba_get s k hlt hkl
      have hc256 : s[k].toNat < 256 := s[k].toNat_lt
      have hand := and127 s[k].toNat hc256
      have hov := hr.over hkl
      have hnx := hr.next hkl
      have hno := hr.nought hkl
      have hla := hr.last hkl
      have hft := hr.fits
      have hsm := hr.small
      rw [eg] at hov hnx hno hla
      have hor : (k = 9 → s[k].toNat % 128 ≤ 1) → bits .or .u64 (v : Int) (IntKind.u64.wrap ((s[k].toNat : Int) % 128 * 2 ^ (7 * k))) = ((v + s[k].toNat % 128 * 2 ^ (7 * k) : Nat) : Int) := by
        intro h9
        have hf := hft (s[k].toNat % 128) (by omega) h9
        have e : ((s[k].toNat : Int) % 128 * 2 ^ (7 * k)) = ((s[k].toNat % 128 * 2 ^ (7 * k) : Nat) : Int) := by simp
        rw [e, wrap_u64_in _ (by omega) (by omega), or_add v _ _ hsm hf]
      have Hr := Lib.hid hr; clear hr
      have Hov := Lib.hid hov; clear hov
      have Hnx := Lib.hid hnx; clear hnx
      have Hno := Lib.hid hno; clear hno
      have Hla := Lib.hid hla; clear hla
      have Hor := Lib.hid hor; clear hor
      have hk9b : (k : Int) ≤ 9 := by have := Hr.out.1; omega
      clear hft hsm
      have Eg := Lib.hid eg; clear eg
      by_cases h9 : k = 9 ∧ 1 < s[k].toNat
      · have d1 : ((k : Int) == 9) = true := by rw [beq_iff_eq]; omega
        have d2 : decide ((1 : Int) < (s[k].toNat : Int)) = true := decide_eq_true (by omega)
        have hf := Hov.out h9.1 h9.2
        have Hf := Lib.hid hf; clear hf
        have H9 := Lib.hid h9; clear h9
        go_wp2
        go_ret3
        exact ⟨by rw [Hf.out]; rfl, rfl⟩
      · have d12 : ((k : Int) == 9) = false ∨ (((k : Int) == 9) = true ∧ decide ((1 : Int) < (s[k].toNat : Int)) = false) := by
          by_cases e : k = 9
          · exact .inr ⟨by rw [beq_iff_eq]; omega, decide_eq_false (by omega)⟩
          · exact .inl (beq_eq_false_iff_ne.2 (by omega))
        have h9' : k = 9 → s[k].toNat % 128 ≤ 1 := by intro e; omega
        by_cases hc : 128 ≤ s[k].toNat
        · have hk9 : k ≠ 9 := by omega
          have d1 : ((k : Int) == 9) = false := beq_eq_false_iff_ne.2 (by omega)
          have d3 : decide ((128 : Int) ≤ (s[k].toNat : Int)) = true := decide_eq_true (by omega)
          have hn := Hnx.out h9 hc
          have ho := Hor.out h9'
          have hc2 : (128 : Int) ≤ (s[k].toNat : Int) := by omega
          have Hn := Lib.hid hn; clear hn
          have Ho := Lib.hid ho; clear ho
          clear d12 h9' h9 hc hk9
          go_wp2
          go_round
          case rel => exact ⟨k + 1, _, by omega, by go_num, by rw [Ho.out], Hn.out⟩
          case measure => simp [intOf]; omega
        · have d3 : decide ((128 : Int) ≤ (s[k].toNat : Int)) = false := decide_eq_false (by omega)
          have ho := Hor.out h9'
          rw [show s[k].toNat % 128 = s[k].toNat from Nat.mod_eq_of_lt (by omega), show (s[k].toNat : Int) % 128 = s[k].toNat by omega] at ho
          have hand' : bits .and .u8 (s[k].toNat : Int) 127 = (s[k].toNat : Int) := by rw [hand, Nat.mod_eq_of_lt (by omega)]
          clear hand
          by_cases hz : s[k].toNat = 0 ∧ 0 < k
          · have hf := Hno.out hz.1 hz.2
            have d4 : ((s[k].toNat : Int) == 0) = true := by rw [beq_iff_eq]; omega
            have d5 : 0 < k := hz.2
            have hc2 : (s[k].toNat : Int) ≤ 127 := by omega
            have Hf := Lib.hid hf; clear hf
            have Ho := Lib.hid ho; clear ho
            clear h9' h9 hc hz
            rcases d12 with d1 | ⟨d1, d2⟩
            all_goals
              go_wp2
              go_ret3
              exact ⟨by rw [Hf.out]; rfl, rfl⟩
          · have hf := Hla.out h9 (by omega) hz
            have d45 : ((s[k].toNat : Int) == 0) = false ∨ (((s[k].toNat : Int) == 0) = true ∧ ¬ 0 < k) := by
              by_cases e : s[k].toNat = 0
              · exact .inr ⟨by rw [beq_iff_eq]; omega, by omega⟩
              · exact .inl (beq_eq_false_iff_ne.2 (by omega))
            have hc2 : (s[k].toNat : Int) ≤ 127 := by omega
            have Hf := Lib.hid hf; clear hf
            have Ho := Lib.hid ho; clear ho
            clear h9' h9 hc hz
            rcases d12 with d1 | ⟨d1, d2⟩
            all_goals
              rcases d45 with d4 | ⟨d4, d5⟩
              all_goals
                go_wp2
                go_ret3
                exact ⟨by rw [Hf.out]; simp only []; rw [← Ho.out]; rfl, rfl⟩
    · have hf := hr.stop (by omega)
      have Hf := Lib.hid hf; clear hf
      go_wp2
      go_ret3
      exact ⟨by rw [Hf.out]; rfl, rfl⟩

end Go.Proofs.Ytdaognkdglimeaa
