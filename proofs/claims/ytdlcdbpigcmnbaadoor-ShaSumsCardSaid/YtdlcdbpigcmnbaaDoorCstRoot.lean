/-
  What the document's answers root and constants return.
-/
import Derived.Test.YtdlcdbpigcmnbaaDoorCstTimes
set_option linter.unusedVariables false
namespace Go.Proofs.YtdlcdbpigcmnbaaDoor
open Go.RowKit

set_option maxHeartbeats 2000000 in
theorem root_any (n : Nat) (c : Bool) (w : World) (hn : n ≤ 1000) :
    Calls Tryd.prog 31 #[.int .i64 n, .bool c] w fun e w' => e = .returned (.int .u64 (Cst.root n c : Nat)) ∧ Below w.heap.size w w' := by
  have hR : Cst.root n c = Cst.rt n c 41 % 4294967296 := rfl
  have hlt := Cst.rt_lt n c
  have hz : Cst.rt n c 0 = 0 := rfl
  have hnx : ∀ j, Cst.rt n c (j + 1) = if Cst.test n c (Cst.rt n c j ||| 2 ^ (40 - j)) then Cst.rt n c j ||| 2 ^ (40 - j) else Cst.rt n c j := fun j => rfl
  have HR := Lib.hid hR; clear hR
  have Hlt := Lib.hid hlt; clear hlt
  have Hz := Lib.hid hz; clear hz
  have Hnx := Lib.hid hnx; clear hnx
  go_enter Tryd.func31, Tryd.ntmps31
  go_wp2
  go_loopw [5, 6] (fun x b wr => ∃ q : Nat, q ≤ 41 ∧ b = .int .i64 ((q : Int) - 1) ∧ x = .int .u64 (Cst.rt n c (41 - q) : Nat) ∧ Below w.heap.size w wr) (fun _ b _ => (intOf b + 1).toNat)
  case atStart => exact ⟨41, by omega, rfl, by rw [Nat.sub_self, Hz.out]; rfl, Below.refl _ _⟩
  case round =>
    obtain ⟨q, hq, rfl, rfl, hbel⟩ := hrel
    have Hbel := Lib.hid hbel; clear hbel
    by_cases hlt : 0 < q
    · obtain ⟨q', rfl⟩ : ∃ q', q = q' + 1 := ⟨q - 1, by omega⟩
      rw [show (((q' + 1 : Nat) : Int) - 1) = (q' : Int) by omega]
      have hnx := Hnx.out (41 - (q' + 1))
      rw [show 41 - (q' + 1) + 1 = 41 - q' by omega, show 40 - (41 - (q' + 1)) = q' by omega] at hnx
      have hl := Hlt.out (41 - (q' + 1))
      generalize Cst.rt n c (41 - (q' + 1)) = x at *
      have h2 : 2 ^ q' < 2 ^ 41 := Nat.pow_lt_pow_of_lt (by decide) (by omega)
      have hor : bits .or .u64 (x : Int) (IntKind.u64.wrap (2 ^ q')) = ((x ||| 2 ^ q' : Nat) : Int) := by
        have e : ((2 : Int) ^ q') = ((2 ^ q' : Nat) : Int) := by simp
        rw [e]
        generalize 2 ^ q' = z at *
        rw [wrap_u64_in _ (by omega) (by omega)]
        exact u64_or_nat _ _ (by omega) (by omega)
      have hyl : x ||| 2 ^ q' < 2 ^ 41 := Nat.or_lt_two_pow hl h2
      have Hnx2 := Lib.hid hnx; clear hnx
      have q0 : (0 : Int) ≤ (q' : Int) := by omega
      have q1 : (q' : Int) ≤ 40 := by omega
      go_wp2_with fail
      clear hor h2
      generalize x ||| 2 ^ q' = y at *
      have cd := fun u => digits_any y u (by omega)
      have hdl : (Cst.dg y).length = 3 := rfl
      have htl : (Cst.tm (Cst.dg y) (Cst.dg y)).length = 6 := Cst.tout_length _ _ _
      have Cd := Lib.hid cd; clear cd
      refine (Cd.out _).mono ?_; rintro e w1 ⟨⟨g1, rfl, hg1⟩, hb1⟩
      have hbel1 := Hbel.out.trans (hb1.mono Hbel.out.size)
      have Hg1 := Lib.hid hg1; clear hg1
      have Hb1 := Lib.hid hbel1; clear hbel1 hb1 Hbel
      go_wp2_with fail
      refine (Cd.out _).mono ?_; rintro e w2 ⟨⟨g2, rfl, hg2⟩, hb2⟩
      have hbel2 := Hb1.out.trans (hb2.mono Hb1.out.size)
      have hg12 := Hg1.out.below hb2
      have Hg1' := Lib.hid hg12; clear hg12 Hg1
      have Hg2 := Lib.hid hg2; clear hg2
      have Hb2 := Lib.hid hbel2; clear hbel2 hb2 Hb1
      go_wp2_with fail
      refine (times3 g1 3 g2 3 _ _ _ hdl hdl Hg1'.out Hg2.out).mono ?_; rintro e w3 ⟨⟨rfl, hg3⟩, hb3⟩
      have hbel3 := Hb2.out.trans (hb3.mono Hb2.out.size)
      have Hg3 := Lib.hid hg3; clear hg3
      have Hb3 := Lib.hid hbel3; clear hbel3 hb3 Hb2 Hg1' Hg2
      generalize w2.heap.size = g3 at *
      cases c with
      | false =>
        have ht : Cst.test n false y = Cst.ms (Cst.tm (Cst.dg y) (Cst.dg y)) 6 n 4 := rfl
        rw [ht] at Hnx2
        have cm := most_any g3 6 6 n 4 _ w3 htl (by decide) (by decide) hn Hg3.out
        clear ht hdl htl Cd
        generalize Cst.ms (Cst.tm (Cst.dg y) (Cst.dg y)) 6 n 4 = r at *
        have Cm := Lib.hid cm; clear cm
        go_wp2_with fail
        refine Cm.out.mono ?_; rintro e w4 ⟨rfl, m4, rfl⟩
        have hb4 := drewN_below Hb3.out m4
        have Hb4 := Lib.hid hb4; clear hb4
        cases r with
        | true =>
          go_wp2_with fail
          go_roundw
          case rel => exact ⟨q', by omega, rfl, by rw [Hnx2.out]; rfl, Hb4.out⟩
          case measure => simp [intOf]
        | false =>
          go_wp2_with fail
          go_roundw
          case rel => exact ⟨q', by omega, rfl, by rw [Hnx2.out]; rfl, Hb4.out⟩
          case measure => simp [intOf]
      | true =>
        have ht : Cst.test n true y = Cst.ms (Cst.tm (Cst.tm (Cst.dg y) (Cst.dg y)) (Cst.dg y)) 9 n 6 := rfl
        rw [ht] at Hnx2
        clear ht
        go_wp2_with fail
        refine (Cd.out _).mono ?_; rintro e w4 ⟨⟨g4, rfl, hg4⟩, hb4⟩
        have hbel4 := Hb3.out.trans (hb4.mono Hb3.out.size)
        have hg34 := Hg3.out.below hb4
        have Hg3' := Lib.hid hg34; clear hg34 Hg3
        have Hg4 := Lib.hid hg4; clear hg4
        have Hb4 := Lib.hid hbel4; clear hbel4 hb4 Hb3
        go_wp2_with fail
        refine (times6 g3 6 g4 3 _ _ _ htl hdl Hg3'.out Hg4.out).mono ?_; rintro e w5 ⟨⟨rfl, hg5⟩, hb5⟩
        have hbel5 := Hb4.out.trans (hb5.mono Hb4.out.size)
        have htl9 : (Cst.tm (Cst.tm (Cst.dg y) (Cst.dg y)) (Cst.dg y)).length = 9 := by
          show (Cst.tout _ _ _).length = 9
          rw [Cst.tout_length, htl, hdl]
        have cm := most_any w4.heap.size 9 9 n 6 _ w5 htl9 (by decide) (by decide) hn hg5
        clear hdl htl htl9 Cd hg5
        generalize Cst.ms (Cst.tm (Cst.tm (Cst.dg y) (Cst.dg y)) (Cst.dg y)) 9 n 6 = r at *
        have Cm := Lib.hid cm; clear cm
        have Hb5 := Lib.hid hbel5; clear hbel5 hb5 Hb4 Hg3' Hg4
        generalize w4.heap.size = g5 at *
        go_wp2_with fail
        refine Cm.out.mono ?_; rintro e w6 ⟨rfl, m6, rfl⟩
        have hb6 := drewN_below Hb5.out m6
        have Hb6 := Lib.hid hb6; clear hb6
        cases r with
        | true =>
          go_wp2_with fail
          go_roundw
          case rel => exact ⟨q', by omega, rfl, by rw [Hnx2.out]; rfl, Hb6.out⟩
          case measure => simp [intOf]
        | false =>
          go_wp2_with fail
          go_roundw
          case rel => exact ⟨q', by omega, rfl, by rw [Hnx2.out]; rfl, Hb6.out⟩
          case measure => simp [intOf]
    · obtain rfl : q = 0 := by omega
      have hl := Hlt.out 41
      have hr := HR.out
      rw [show 41 - 0 = 41 from rfl]
      generalize Cst.rt n c 41 = x at *
      have Hr := Lib.hid hr; clear hr
      rw [show (((0 : Nat) : Int) - 1) = -1 from rfl]
      go_wp2
      go_ret
      exact ⟨by rw [Hr.out]; rfl, Hbel.out⟩
end Go.Proofs.YtdlcdbpigcmnbaaDoor
