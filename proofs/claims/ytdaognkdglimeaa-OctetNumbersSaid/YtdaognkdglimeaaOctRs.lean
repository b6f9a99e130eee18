/-
  What the document's answer for ReadShort returns.
-/
import Derived.Test.YtdaognkdglimeaaOctShort
import Derived.Deep.QuietTactic
import Derived.BigQuiet
import Derived.Lib.Strings
import Derived.Deep.RegionWith
set_option linter.unusedVariables false
namespace Go.Proofs.Ytdaognkdglimeaa
open Go.RowKit

/-- where the second loop stands: the bytes from j on were taken -/
def HornAt (p : List UInt8) (j : Nat) : Int := ((Oct.dec (p.drop j) % 18446744073709551616 : Nat) : Int)

set_option maxHeartbeats 400000 in
theorem refReadShort_any (s : ByteArray) (w : World) (hm : s.size ≤ 9223372036854775807) :
    Calls Try.prog 13 #[.string s] w fun e w' => e = .returned (.tuple #[.int .u64 (Oct.rs 0 0 s.data.toList).1, .int .i64 (Oct.rs 0 0 s.data.toList).2.1, .int .i64 (Oct.rs 0 0 s.data.toList).2.2]) ∧ Below w.heap.size w w' := by
  have hl1 : s.data.toList.length ≤ s.size := Nat.le_of_eq (ba_len s)
  have hl2 : s.size ≤ s.data.toList.length := Nat.le_of_eq (ba_len s).symm
  go_enter Try.func13, Try.ntmps13
  go_wp2
  go_loop [5] (fun i => ∃ k : Nat, k ≤ s.size ∧ k ≤ 10 ∧ i = .int .i64 k ∧ Oct.Run s.data.toList k) (fun i => s.size - (intOf i).toNat)
  case atStart => exact ⟨0, by omega, by omega, rfl, Oct.Run.start _⟩
  case round =>
    obtain ⟨k, hk, hk10, rfl, hr⟩ := hrel
    by_cases hlt : k < s.size
    · have hkl : k < s.data.toList.length := by omega
      have eg := ba_get s k hlt hkl
      have hc256 : s[k].toNat < 256 := s[k].toNat_lt
      by_cases h10 : k = 10
      · subst h10
        have hf := hr.over (by omega)
        have Hf := Lib.hid hf; clear hf
        have Hr := Lib.hid hr; clear hr
        have Eg := Lib.hid eg; clear eg
        have hlt' : (10 : Int) < (s.size : Int) := by omega
        go_wp2
        go_ret3
        exact ⟨by rw [Hf.out]; rfl, Below.refl _ _⟩
      · have hk9 : (k : Int) < 10 := by omega
        have hne : ((k : Int) == (s.size : Int)) = false := beq_eq_false_iff_ne.2 (by omega)
        have hne10 : ((k : Int) == 10) = false := beq_eq_false_iff_ne.2 (by omega)
        by_cases hc : 128 ≤ s[k].toNat
        · have d1 : decide ((128 : Int) ≤ (s[k].toNat : Int)) = true := decide_eq_true (by omega)
          have hn := hr.next hkl (by rw [eg]; exact hc)
          have Hr := Lib.hid hr; clear hr
          have Hn := Lib.hid hn; clear hn
          have Eg := Lib.hid eg; clear eg
          go_wp2
          go_round
          case rel => exact ⟨k + 1, by omega, by omega, by go_num, Hn.out⟩
          case measure => simp [intOf]; omega
        · have d1 : decide ((128 : Int) ≤ (s[k].toNat : Int)) = false := decide_eq_false (by omega)
          have ha := hr.answer hkl (by omega) (by rw [eg]; omega)
          have Hr := Lib.hid hr; clear hr
          have Eg := Lib.hid eg; clear eg
          have Ha := Lib.hid ha; clear ha
          have htl : (s.data.toList.take (k + 1)).length ≤ k + 1 := by simp; omega
          have htl2 : k + 1 ≤ (s.data.toList.take (k + 1)).length := by simp; omega
          have htg : ∀ j (h : j < (s.data.toList.take (k + 1)).length) (h' : j < s.size), (s.data.toList.take (k + 1))[j] = s[j] := by
            intro j h h'
            rw [List.getElem_take, ba_get s j h']
          have Htg := Lib.hid htg; clear htg
          go_wp2
          go_loop [6, 7] (fun a i => ∃ j : Nat, j ≤ k + 1 ∧ i = .int .i64 ((j : Int) - 1) ∧ a = .int .u64 (HornAt (s.data.toList.take (k + 1)) j)) (fun _ i => (intOf i + 1).toNat)
          case atStart => exact ⟨k + 1, by omega, by go_num, by simp [HornAt, Oct.dec]⟩
          case round =>
            obtain ⟨j, hj, rfl, rfl⟩ := hrel
            by_cases hj0 : 0 < j
            · obtain ⟨j, rfl⟩ : ∃ i, j = i + 1 := ⟨j - 1, by omega⟩
              have hjs : j < s.size := by omega
              have hd := Oct.dec_drop (s.data.toList.take (k + 1)) j (by omega)
              rw [Htg.out j (by omega) hjs] at hd
              have hh0 : 0 ≤ HornAt (s.data.toList.take (k + 1)) (j + 1) := Int.natCast_nonneg _
              have hh1 : HornAt (s.data.toList.take (k + 1)) (j + 1) < 18446744073709551616 := by unfold HornAt; omega
              have hst : HornAt (s.data.toList.take (k + 1)) j = IntKind.u64.wrap (IntKind.u64.wrap (HornAt (s.data.toList.take (k + 1)) (j + 1) * 128) + (s[j].toNat : Int) % 128) := by
                unfold HornAt
                rw [hd, IntKind.wrap_u64, IntKind.wrap_u64]
                omega
              have hb : s[j].toNat < 256 := s[j].toNat_lt
              generalize HornAt (s.data.toList.take (k + 1)) (j + 1) = x at *
              have Hst := Lib.hid hst; clear hst
              have Hd := Lib.hid hd; clear hd
              go_wp2
              go_round
              case rel => exact ⟨j, by omega, by go_num, by rw [Hst.out]⟩
              case measure => simp [intOf]
            · obtain rfl : j = 0 := by omega
              have hv : HornAt (s.data.toList.take (k + 1)) 0 = ((Oct.dec (s.data.toList.take (k + 1)) % 18446744073709551616 : Nat) : Int) := by simp [HornAt]
              rw [hv]
              have hvb : Oct.dec (s.data.toList.take (k + 1)) % 18446744073709551616 < 18446744073709551616 := Nat.mod_lt _ (by decide)
              generalize Oct.dec (s.data.toList.take (k + 1)) % 18446744073709551616 = V at *
              have Hv := Lib.hid hv; clear hv
              have hsl : ∀ u : World, (Instr.slice 9 (.string s) none (some (.int .i64 ((k : Int) + 1))) none).run Try.prog u = .ok (.string (s.extract 0 (k + 1))) u := fun u => by
                rw [run_slice_string_to_if (P := Try.prog) u 9 s .i64 ((k : Int) + 1) Try.underlying9, if_pos ⟨by omega, by omega⟩]
                rfl
              have hex : (s.extract 0 (k + 1)).toList = s.data.toList.take (k + 1) := by rw [Lib.extract_toList]; simp
              by_cases hE : Oct.short V = s.data.toList.take (k + 1)
              · have hq : (Oct.short V == (s.extract 0 (k + 1)).toList) = true := by rw [hex, beq_iff_eq]; exact hE
                have hf := Ha.out
                rw [if_pos hE] at hf
                have Hf := Lib.hid hf; clear hf Ha
                have HE := Lib.hid hE; clear hE
                have Hex := Lib.hid hex; clear hex
                go_wp2
                have hsum : IntKind.i64.wrap ((k : Int) + 1) = (k : Int) + 1 := IntWalk.i64_in _ (by omega)
                go_region_with (go_at_call 15; refine (refShort_any V _ hvb).mono ?_; rintro e w' ⟨rfl, hb⟩)
                clear hsum
                go_wp2
                go_ret3
                exact ⟨by rw [Hf.out]; rfl, ((Below.refl _ w).drew).trans hb⟩
              · have hq : (Oct.short V == (s.extract 0 (k + 1)).toList) = false := by rw [hex, beq_eq_false_iff_ne]; exact hE
                have hf := Ha.out
                rw [if_neg hE] at hf
                have Hf := Lib.hid hf; clear hf Ha
                have HE := Lib.hid hE; clear hE
                have Hex := Lib.hid hex; clear hex
                go_wp2
                have hsum : IntKind.i64.wrap ((k : Int) + 1) = (k : Int) + 1 := IntWalk.i64_in _ (by omega)
                go_region_with (go_at_call 15; refine (refShort_any V _ hvb).mono ?_; rintro e w' ⟨rfl, hb⟩)
                clear hsum
                go_wp2
                go_ret3
                exact ⟨by rw [Hf.out]; rfl, ((Below.refl _ w).drew).trans hb⟩
    · obtain rfl : k = s.size := by omega
      by_cases h10 : s.size = 10
      · have hf : Oct.rs 0 0 s.data.toList = (0, 0, 7) := Oct.Run.over (h10 ▸ hr) (by omega)
        have Hf := Lib.hid hf; clear hf
        have Hr := Lib.hid hr; clear hr
        have hlt' : (10 : Int) ≤ (s.size : Int) := by omega
        have hlt2 : (s.size : Int) ≤ 10 := by omega
        have e1 : ((s.size : Int) == 10) = true := by rw [beq_iff_eq]; omega
        have H10 := Lib.hid h10; clear h10
        go_wp2
        go_ret3
        exact ⟨by rw [Hf.out]; rfl, Below.refl _ _⟩
      · have hf : Oct.rs 0 0 s.data.toList = (0, 0, 6) := hr.stop (by omega) (by omega)
        have Hf := Lib.hid hf; clear hf
        have Hr := Lib.hid hr; clear hr
        have hlt2 : (s.size : Int) < 10 := by omega
        go_wp2
        go_ret3
        exact ⟨by rw [Hf.out]; rfl, Below.refl _ _⟩

end Go.Proofs.Ytdaognkdglimeaa
