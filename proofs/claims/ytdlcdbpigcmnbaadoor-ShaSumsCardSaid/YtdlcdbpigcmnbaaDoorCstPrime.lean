/-
  What the document's answers prime, primes and digits return.
-/
import Derived.Test.YtdlcdbpigcmnbaaDoorCstPure
import Derived.Test.YtdlcdbpigcmnbaaDoorShaRefBlock
set_option linter.unusedVariables false
namespace Go.Proofs.YtdlcdbpigcmnbaaDoor
open Go.RowKit

set_option maxHeartbeats 1000000 in
theorem prime_any (n : Nat) (w : World) (hn : n ≤ 1000) :
    Calls Tryd.prog 40 #[.int .i64 n] w fun e w' => e = .returned (.bool (Cst.prim n)) ∧ w' = w := by
  have hR : Cst.prim n = Cst.pr n 2 (n + 2 - 2) := rfl
  generalize Cst.prim n = R at *
  have HR := Lib.hid hR; clear hR
  go_enter Tryd.func40, Tryd.ntmps40
  go_wp2
  go_loop [3] (fun i => ∃ k : Nat, 2 ≤ k ∧ k ≤ n + 2 ∧ i = .int .i64 k ∧ R = Cst.pr n k (n + 2 - k)) (fun i => n + 2 - (intOf i).toNat)
  case atStart => exact ⟨2, by omega, by omega, rfl, HR.out⟩
  case round =>
    obtain ⟨k, h2, hk, rfl, hR⟩ := hrel
    have hkk : k ≤ k * k := Nat.le_mul_self k
    have hkb : k * k ≤ 1002 * 1002 := Nat.mul_le_mul (by omega) (by omega)
    by_cases hlt : k * k ≤ n
    · rw [Cst.pr_step n k h2 hk hlt] at hR
      have hm : (n : Int).tmod (k : Int) = ((n % k : Nat) : Int) := by rw [Int.tmod_eq_emod_of_nonneg (by omega)]; rfl
      have hne : (k : Int) ≠ 0 := by omega
      have hd : decide ((k : Int) * (k : Int) ≤ (n : Int)) = true := by
        apply decide_eq_true
        exact_mod_cast hlt
      by_cases hz : n % k = 0
      · rw [if_pos hz] at hR
        rw [hz] at hm
        subst hR
        clear HR
        generalize hq : k * k = q at *
        have hqi : (k : Int) * (k : Int) = (q : Int) := by rw [← hq]; simp
        go_wp2
        go_ret
        exact ⟨rfl, rfl⟩
      · rw [if_neg hz] at hR
        have HR2 := Lib.hid hR; clear hR
        generalize n % k = r at *
        generalize hq : k * k = q at *
        have hqi : (k : Int) * (k : Int) = (q : Int) := by rw [← hq]; simp
        go_wp2
        go_round
        case rel => exact ⟨k + 1, by omega, by omega, by go_num, HR2.out⟩
        case measure => simp [intOf]; omega
    · rw [Cst.pr_stop n k hlt] at hR
      have hd : decide ((k : Int) * (k : Int) ≤ (n : Int)) = false := by
        apply decide_eq_false
        exact_mod_cast hlt
      generalize hq : k * k = q at *
      have hqi : (k : Int) * (k : Int) = (q : Int) := by rw [← hq]; simp
      have hR2 : R = decide ((1 : Int) < (n : Int)) := by
        rw [hR]
        by_cases h : 1 < n
        · rw [decide_eq_true h, decide_eq_true (by omega)]
        · rw [decide_eq_false h, decide_eq_false (by omega)]
      have HR2 := Lib.hid hR2; clear hR2 hR HR
      clear hkk
      go_wp2
      go_ret
      exact ⟨by rw [HR2.out]; rfl, rfl⟩

theorem infoI64 : (Tryd.prog.info? 3).map (fun i => (i.zero, i.size, i.bytes)) = some (some (.int .i64 0), 1, 8) := by kernel_rfl

set_option maxHeartbeats 1000000 in
theorem primes_any (w : World) :
    Calls Tryd.prog 30 #[.int .i64 64] w fun e w' => (∃ g c, e = .returned (.slice (some ⟨g, 0, none⟩) 64 c) ∧ Num .i64 g (Cst.upTo 312) w') ∧ Below w.heap.size w w' := by
  obtain ⟨i0, hi, hz0, hz1, hz2⟩ := info_parts infoI64
  have Hi := Lib.hid hi; clear hi
  have Hz0 := Lib.hid hz0; clear hz0
  have Hz1 := Lib.hid hz1; clear hz1
  have Hz2 := Lib.hid hz2; clear hz2
  go_enter Tryd.func30, Tryd.ntmps30
  go_wp2
  go_loopw [3, 4] (fun vv i wr => ∃ (k : Nat) (v : Value), v = vv ∧ 2 ≤ k ∧ k ≤ 312 ∧ i = .int .i64 k ∧ Owns w.heap.size 3 v (nums .i64 (Cst.upTo k)) wr ∧ Below w.heap.size w wr) (fun _ i _ => 312 - (intOf i).toNat)
  case atStart => exact ⟨2, _, rfl, by omega, by omega, rfl, by rw [show Cst.upTo 2 = [] by decide +kernel]; exact Owns.nil _ _ _, Below.refl _ _⟩
  case round =>
    obtain ⟨k, v, rfl, h2, hk, rfl, hown, hb⟩ := hrel
    by_cases hlt : k < 312
    · have hle := Cst.upTo_le k 311 (by omega)
      rw [Cst.sixtyThree] at hle
      have hs := Cst.upTo_succ k
      have cp := fun u => prime_any k u (by omega)
      generalize Cst.upTo k = l at *
      have hxl : (nums .i64 l).length = l.length := nums_length _ _
      have hlen : ∃ a c, v = .slice a l.length c := by
        rcases hown.form with ⟨rfl, h⟩ | ⟨g, c, rfl, _⟩
        · have : l = [] := by have := congrArg List.length h; simpa using this
          subst this
          exact ⟨none, 0, rfl⟩
        · exact ⟨_, c, by rw [nums_length]⟩
      obtain ⟨a, c, rfl⟩ := hlen
      have hown2 : wr.ownsRow w.heap.size 3 1 (.slice a l.length c) l.length (nums .i64 l) := by have h := hown; unfold Owns at h; rw [hxl] at h; exact h
      have Hown := Lib.hid hown; clear hown
      have Hown2 := Lib.hid hown2; clear hown2
      have Hb := Lib.hid hb; clear hb
      have Hxl := Lib.hid hxl; clear hxl
      have hd : decide ((l.length : Int) < 64) = true := decide_eq_true (by omega)
      generalize hm : l.length = m at *
      have Hm := Lib.hid hm; clear hm
      have hln : nums .i64 (l ++ [k]) = nums .i64 l ++ [.int .i64 (k : Nat)] := by simp [nums]
      have Hln := Lib.hid hln; clear hln
      cases hpk : Cst.prim k with
      | true =>
        rw [hpk] at hs cp
        rw [if_pos rfl] at hs
        have Hs := Lib.hid hs; clear hs
        go_wp2_with fail
        refine (cp _).mono ?_; rintro e w' ⟨rfl, rfl⟩
        clear cp
        go_wp2_with (at_builtin; refine wpList_append_lies _ rfl (.tmp 13) (.tmp 15) 64 rfl w.heap.size 3 i0 _ 1 8 Tryd.underlying64 Hi.out Hz0.out Hz1.out Hz2.out rfl (by decide) (.slice a m c) m (nums .i64 l) rfl (Hown2.out.alloc _) ⟨w'.heap.size, 0, none⟩ 1 1 [.int .i64 (k : Nat)] rfl rfl (World.news_of_block (cs := #[.int .i64 (k : Nat)]) (t := 3) (fr := (0, 0)) (heap_alloc_new w' _)) (by simp [Value.oneCell']) (by decide) (by unfold maxLen; omega) (by omega) (by have := Hb.out.size; simp; omega) (w'.heap.size + 1) (by simp) ?_; intro gg cap w3 hown4 hgrow hat hlt4)
        have hb3 : Below w.heap.size w w3 := (Hb.out.alloc Hb.out.size _).grown hgrow (by have := Hb.out.size; simp; omega) (fun j hj => (Hown.out.lt j hj).1)
        go_roundw
        case rel =>
          refine ⟨k + 1, _, rfl, by omega, by omega, by go_num, ?_, hb3⟩
          rw [Hs.out, Hln.out]
          unfold Owns
          rw [List.length_append, Hxl.out]
          exact hown4
        case measure => simp [intOf]; omega
      | false =>
        rw [hpk] at hs cp
        rw [if_neg (by decide), List.append_nil] at hs
        have Hs := Lib.hid hs; clear hs
        go_wp2_with fail
        refine (cp _).mono ?_; rintro e w' ⟨rfl, rfl⟩
        clear cp
        go_wp2_with fail
        go_roundw
        case rel => exact ⟨k + 1, _, rfl, by omega, by omega, by go_num, by rw [Hs.out]; exact Hown.out, Hb.out⟩
        case measure => simp [intOf]; omega
    · obtain rfl : k = 312 := by omega
      rw [show ((312 : Nat) : Int) = 312 from rfl]
      have hl64 := Cst.sixtyFour
      obtain ⟨l, hl⟩ : ∃ l, l = Cst.upTo 312 := ⟨_, rfl⟩
      rw [← hl] at hown hl64
      have HL := Lib.hid hl; clear hl
      rcases hown.form with ⟨_, h⟩ | ⟨g, c, rfl, _⟩
      · exact absurd (congrArg List.length h) (by simp [hl64])
      · have hn := hown.num
        rw [nums_length, hl64]
        have Hn := Lib.hid hn; clear hn hown
        have Hb := Lib.hid hb; clear hb
        go_wp2
        go_ret
        exact ⟨⟨g, c, rfl, by rw [← HL.out]; exact Hn.out⟩, Hb.out⟩

theorem digits_any (y : Nat) (w : World) (hy : y < 18446744073709551616) :
    Calls Tryd.prog 42 #[.int .u64 y] w fun e w' => (∃ g, e = .returned (.slice (some ⟨g, 0, none⟩) 3 3) ∧ Num .u64 g (Cst.dg y) w') ∧ Below w.heap.size w w' := by
  go_enter Tryd.func42, Tryd.ntmps42
  go_wp2
  trace_state
  go_ret
  exact ⟨⟨w.heap.size, rfl, Num.of_cells (heap_alloc_new _ _) rfl⟩, (Below.refl _ w).alloc (Nat.le_refl _) _⟩
end Go.Proofs.YtdlcdbpigcmnbaaDoor
