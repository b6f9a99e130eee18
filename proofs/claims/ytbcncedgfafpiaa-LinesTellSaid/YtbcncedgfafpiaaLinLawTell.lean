/-
  LinesTell: which records a text has, to which place any place is aligned, and into which pieces it is cut: as the document says, for every cutter, every text, every place.
  Conditions: none.
-/
import Derived.Test.YtbcncedgfafpiaaLinB
import Derived.Test.YtbcncedgfafpiaaChuC
import Derived.BigQuiet
import Derived.StillTailTactics
import Derived.ProofKit
import Derived.OpenShut
import Derived.ShutString
import Derived.ChangeOld
import Derived.SizedLaws
namespace Go.Proofs.Ytbcncedgfafpiaa.linesTell
open Go.ChangeShapes Go.WideShapes Go.ChangeAt Go.RowKit
open Go.ChangeMaps (open_string shut_string)
set_option linter.unusedVariables false
set_option maxRecDepth 100000

theorem own : ownKnob Try.prog.godebug = none := by kernel_rfl
theorem laidOut : laidOutB Try.prog = true := by kernel_rfl
theorem nothing (s : ByteArray) (h : s.size = 0) : s = ⟨#[]⟩ := by
  obtain ⟨a⟩ := s
  rw [Array.eq_empty_of_size_eq_zero (show a.size = 0 from h)]

set_option maxHeartbeats 2000000 in
theorem walk (c0 : Ctr) (s1 : ByteArray) (n2 : Int) (w : World) (wc0 : c0.Wf) (z1 : s1.size ≤ 140737488351232) (wf2 : (Lit.int .i64 n2).wf = true) :
    Calls Try.prog 3 #[c0.v, .string s1, .int .i64 n2] w fun e w' => e = .returned (.bool true) ∧ Below w.heap.size w w' := by
  have hn64 := wf64 wf2
  clear wf2
  have hbw := box_below w (.cells #[.int .u64 c0.p, .int .i64 c0.n, .int .i64 c0.mn, .int .i64 c0.mx, .int .i64 c0.b] 24)
  have hrow := CtrAt.box c0 w
  have Hb0 := Lib.hid hbw; clear hbw
  by_cases hl : 500 < s1.size
  · have hd : decide ((500 : Int) < (s1.size : Int)) = true := decide_eq_true (by omega)
    have HB := Lib.hid Hb0.out
    unfold Ctr.v
    clear hrow
    go_enter Try.func3, Try.ntmps3
    go_wp2_with fail
    refine (linAlive_any _).mono ?_; rintro e wz ⟨rfl, hz⟩
    have Hbz := Lib.hid (HB.out.trans (hz.mono HB.out.size)); clear hz
    go_wp2_with fail
    go_ret
    exact ⟨rfl, Hbz.out⟩
  have hd : decide ((500 : Int) < (s1.size : Int)) = false := decide_eq_false (by omega)
  have hd2 : decide (500 < s1.size) = false := decide_eq_false hl
  have kr := fun u => records_any s1 (by omega) u
  have kq := fun u => refRecords_any s1 (by omega) u
  have ka := fun u => align_any s1 (by omega) n2 hn64 u
  have kb := fun u => refAlign_any s1 (by omega) n2 hn64 u
  have kl := fun u => longest_any s1 (by omega) u
  have km := fun u => refLongest_any s1 (by omega) u
  have k2 := fun u => lcut_any c0 wc0.p s1 (by omega) u
  have k3 := fun u => ltexts_any c0 wc0.p s1 (by omega) u
  have k5 := fun u => refMay9_any c0 wc0.p u
  have hrl : (recs s1).length ≤ s1.size := recsF_len s1 0
  generalize alI s1 n2 = x at *
  generalize lg (recs s1) = y at *
  generalize recs s1 = Rr at *
  obtain ⟨nr, hnr⟩ : ∃ nr, nr = Rr.length := ⟨_, rfl⟩
  rw [← hnr] at hrl
  have Hnr := Lib.hid hnr; clear hnr
  have qx : ((x : Int) == (x : Int)) = true := by simp
  have qy : ((y : Int) == (y : Int)) = true := by simp
  have Kr := Lib.hid kr; clear kr
  have Kq := Lib.hid kq; clear kq
  have Ka := Lib.hid ka; clear ka
  have Kb := Lib.hid kb; clear kb
  have Kl := Lib.hid kl; clear kl
  have Km := Lib.hid km; clear km
  by_cases hm : c0.May
  rotate_left
  · simp only [if_neg hm] at k2 k3
    rw [decide_eq_false hm] at k5
    unfold Ctr.v at *
    have K2 := Lib.hid k2; clear k2
    have K3 := Lib.hid k3; clear k3
    have K5 := Lib.hid k5; clear k5
    clear hm
    have e0 := hrow.c0
    have e1 := hrow.c1
    have e2 := hrow.c2
    have e3 := hrow.c3
    have e4 := hrow.c4
    have Hrow0 := Lib.hid hrow; clear hrow
    go_enter Try.func3, Try.ntmps3
    go_wp2_with fail
    refine (Kr.out _).mono ?_; rintro e w1 ⟨v1, rfl, hv1, h1⟩
    have hrow1 := Hrow0.out.new h1
    have Hb1 := Lib.hid (Hb0.out.trans (h1.mono Hb0.out.size))
    clear h1
    clear e0 e1 e2 e3 e4
    have e0 := hrow1.c0
    have e1 := hrow1.c1
    have e2 := hrow1.c2
    have e3 := hrow1.c3
    have e4 := hrow1.c4
    have Hrow1 := Lib.hid hrow1; clear hrow1
    have hv1r := hv1.reads
    obtain ⟨a1, k1, hve, hk1, _⟩ := hv1r
    rw [← Hnr.out] at hve hk1
    have HR1 := Lib.hid hv1.reads; clear hv1
    subst hve
    go_wp2_with fail
    refine (Kq.out _).mono ?_; rintro e w2 ⟨v2, rfl, hv2, h2⟩
    have hrow2 := Hrow1.out.new h2
    have Hb2 := Lib.hid (Hb1.out.trans (h2.mono Hb1.out.size))
    have HR2 := Lib.hid (HR1.out.new h2)
    clear h2
    clear e0 e1 e2 e3 e4
    have e0 := hrow2.c0
    have e1 := hrow2.c1
    have e2 := hrow2.c2
    have e3 := hrow2.c3
    have e4 := hrow2.c4
    have Hrow2 := Lib.hid hrow2; clear hrow2
    have hv2r := hv2.reads
    obtain ⟨a2, k2, hve, hk2, _⟩ := hv2r
    rw [← Hnr.out] at hve hk2
    have cs := tsame_any _ _ Rr w2 HR2.out hv2.reads (by have := Hnr.out; omega)
    subst hve
    have Cs := Lib.hid cs; clear cs hv2
    go_wp2_with fail
    refine Cs.out.mono ?_; rintro e w3 ⟨rfl, h3⟩
    have hrow3 := Hrow2.out.new h3
    have Hb3 := Lib.hid (Hb2.out.trans (h3.mono Hb2.out.size))
    clear h3
    clear e0 e1 e2 e3 e4
    have e0 := hrow3.c0
    have e1 := hrow3.c1
    have e2 := hrow3.c2
    have e3 := hrow3.c3
    have e4 := hrow3.c4
    have Hrow3 := Lib.hid hrow3; clear hrow3
    go_wp2_with fail
    refine (Ka.out _).mono ?_; rintro e w4 ⟨rfl, rfl⟩
    go_wp2_with fail
    refine (Kb.out _).mono ?_; rintro e w5 ⟨rfl, hw5⟩
    have hw5' := hw5.symm
    subst hw5'
    go_wp2_with fail
    refine (Kl.out _).mono ?_; rintro e w4 ⟨rfl, h4⟩
    have hrow4 := Hrow3.out.new h4
    have Hb4 := Lib.hid (Hb3.out.trans (h4.mono Hb3.out.size))
    clear h4
    clear e0 e1 e2 e3 e4
    have e0 := hrow4.c0
    have e1 := hrow4.c1
    have e2 := hrow4.c2
    have e3 := hrow4.c3
    have e4 := hrow4.c4
    have Hrow4 := Lib.hid hrow4; clear hrow4
    go_wp2_with fail
    refine (Km.out _).mono ?_; rintro e w5 ⟨rfl, h5⟩
    have hrow5 := Hrow4.out.new h5
    have Hb5 := Lib.hid (Hb4.out.trans (h5.mono Hb4.out.size))
    clear h5
    clear e0 e1 e2 e3 e4
    have e0 := hrow5.c0
    have e1 := hrow5.c1
    have e2 := hrow5.c2
    have e3 := hrow5.c3
    have e4 := hrow5.c4
    have Hrow5 := Lib.hid hrow5; clear hrow5
    go_wp2_with fail
    refine (K2.out _).mono ?_; rintro e w6 ⟨h6, rfl⟩
    have hrow6 := Hrow5.out.new h6
    have Hb6 := Lib.hid (Hb5.out.trans (h6.mono Hb5.out.size))
    clear h6
    clear e0 e1 e2 e3 e4
    have e0 := hrow6.c0
    have e1 := hrow6.c1
    have e2 := hrow6.c2
    have e3 := hrow6.c3
    have e4 := hrow6.c4
    have Hrow6 := Lib.hid hrow6; clear hrow6
    go_wp2_with fail
    refine (K3.out _).mono ?_; rintro e w7 ⟨h7, rfl⟩
    have hrow7 := Hrow6.out.new h7
    have Hb7 := Lib.hid (Hb6.out.trans (h7.mono Hb6.out.size))
    clear h7
    clear e0 e1 e2 e3 e4
    have e0 := hrow7.c0
    have e1 := hrow7.c1
    have e2 := hrow7.c2
    have e3 := hrow7.c3
    have e4 := hrow7.c4
    have Hrow7 := Lib.hid hrow7; clear hrow7
    go_wp2_with fail
    refine (K5.out _).mono ?_; rintro e w8 ⟨rfl, h8⟩
    have hrow8 := Hrow7.out.new h8
    have Hb8 := Lib.hid (Hb7.out.trans (h8.mono Hb7.out.size))
    clear h8
    clear e0 e1 e2 e3 e4
    have e0 := hrow8.c0
    have e1 := hrow8.c1
    have e2 := hrow8.c2
    have e3 := hrow8.c3
    have e4 := hrow8.c4
    have Hrow8 := Lib.hid hrow8; clear hrow8
    have HB := Lib.hid Hb8.out
    clear e0 e1 e2 e3 e4
    go_wp2_with fail
    refine (linAlive_any _).mono ?_; rintro e wz ⟨rfl, hz⟩
    have Hbz := Lib.hid (HB.out.trans (hz.mono HB.out.size)); clear hz
    go_wp2_with fail
    go_ret
    exact ⟨rfl, Hbz.out⟩
  · simp only [if_pos hm] at k2 k3
    rw [decide_eq_true hm] at k5
    have k6 := fun u => refLCut_any c0 hm s1 (by omega) u
    have hcl := Ctr.acut_len hm s1.data.toList
    have hok := Ctr.acut_ok hm s1.data.toList
    rw [ba_len] at hcl hok
    have htx : c0.atexts s1 = pcTexts s1 (c0.acut s1.data.toList) := rfl
    unfold TxR at k3
    rw [htx] at k3
    simp only [pcTexts_length] at k3
    generalize c0.acut s1.data.toList = C at *
    obtain ⟨nc, hnc⟩ : ∃ nc, nc = C.length := ⟨_, rfl⟩
    have hok2 : ∀ k, k < nc → (C.getD k (0, 0)).1 + (C.getD k (0, 0)).2 ≤ s1.size := fun k hk => by
      rw [List.getD_eq_getElem?_getD, List.getElem?_eq_getElem (by omega)]
      exact (hok _ (List.getElem_mem _)).2
    have hget := fun (u : World) (g : Nat) (h : u.heap[g]? = some (.cells ((pcTexts s1 C).map Value.string).toArray 9 (0, 0))) j (hj : j < nc) => TRd.cell (L := pcTexts s1 C) h j (by rw [pcTexts_length, ← hnc]; exact hj)
    have hpg : ∀ j, j < nc → (pcTexts s1 C).getD j .empty = s1.extract (C.getD j (0, 0)).1 ((C.getD j (0, 0)).1 + (C.getD j (0, 0)).2) := fun j hj => by
      have hj' : j < C.length := by omega
      unfold pcTexts
      simp [List.getD_eq_getElem?_getD, hj']
    simp only [← hnc] at k3 hcl
    unfold Ctr.v at *
    have K2 := Lib.hid k2; clear k2
    have K3 := Lib.hid k3; clear k3
    have K5 := Lib.hid k5; clear k5
    have K6 := Lib.hid k6; clear k6
    have Hok2 := Lib.hid hok2; clear hok2 hok
    have Hget := Lib.hid hget; clear hget
    have Hpg := Lib.hid hpg; clear hpg
    have Hnc := Lib.hid hnc; clear hnc
    clear htx hm
    have e0 := hrow.c0
    have e1 := hrow.c1
    have e2 := hrow.c2
    have e3 := hrow.c3
    have e4 := hrow.c4
    have Hrow0 := Lib.hid hrow; clear hrow
    go_enter Try.func3, Try.ntmps3
    go_wp2_with fail
    refine (Kr.out _).mono ?_; rintro e w1 ⟨v1, rfl, hv1, h1⟩
    have hrow1 := Hrow0.out.new h1
    have Hb1 := Lib.hid (Hb0.out.trans (h1.mono Hb0.out.size))
    clear h1
    clear e0 e1 e2 e3 e4
    have e0 := hrow1.c0
    have e1 := hrow1.c1
    have e2 := hrow1.c2
    have e3 := hrow1.c3
    have e4 := hrow1.c4
    have Hrow1 := Lib.hid hrow1; clear hrow1
    have hv1r := hv1.reads
    obtain ⟨a1, k1, hve, hk1, _⟩ := hv1r
    rw [← Hnr.out] at hve hk1
    have HR1 := Lib.hid hv1.reads; clear hv1
    subst hve
    go_wp2_with fail
    refine (Kq.out _).mono ?_; rintro e w2 ⟨v2, rfl, hv2, h2⟩
    have hrow2 := Hrow1.out.new h2
    have Hb2 := Lib.hid (Hb1.out.trans (h2.mono Hb1.out.size))
    have HR2 := Lib.hid (HR1.out.new h2)
    clear h2
    clear e0 e1 e2 e3 e4
    have e0 := hrow2.c0
    have e1 := hrow2.c1
    have e2 := hrow2.c2
    have e3 := hrow2.c3
    have e4 := hrow2.c4
    have Hrow2 := Lib.hid hrow2; clear hrow2
    have hv2r := hv2.reads
    obtain ⟨a2, k2, hve, hk2, _⟩ := hv2r
    rw [← Hnr.out] at hve hk2
    have cs := tsame_any _ _ Rr w2 HR2.out hv2.reads (by have := Hnr.out; omega)
    subst hve
    have Cs := Lib.hid cs; clear cs hv2
    go_wp2_with fail
    refine Cs.out.mono ?_; rintro e w3 ⟨rfl, h3⟩
    have hrow3 := Hrow2.out.new h3
    have Hb3 := Lib.hid (Hb2.out.trans (h3.mono Hb2.out.size))
    clear h3
    clear e0 e1 e2 e3 e4
    have e0 := hrow3.c0
    have e1 := hrow3.c1
    have e2 := hrow3.c2
    have e3 := hrow3.c3
    have e4 := hrow3.c4
    have Hrow3 := Lib.hid hrow3; clear hrow3
    go_wp2_with fail
    refine (Ka.out _).mono ?_; rintro e w4 ⟨rfl, rfl⟩
    go_wp2_with fail
    refine (Kb.out _).mono ?_; rintro e w5 ⟨rfl, hw5⟩
    have hw5' := hw5.symm
    subst hw5'
    go_wp2_with fail
    refine (Kl.out _).mono ?_; rintro e w4 ⟨rfl, h4⟩
    have hrow4 := Hrow3.out.new h4
    have Hb4 := Lib.hid (Hb3.out.trans (h4.mono Hb3.out.size))
    clear h4
    clear e0 e1 e2 e3 e4
    have e0 := hrow4.c0
    have e1 := hrow4.c1
    have e2 := hrow4.c2
    have e3 := hrow4.c3
    have e4 := hrow4.c4
    have Hrow4 := Lib.hid hrow4; clear hrow4
    go_wp2_with fail
    refine (Km.out _).mono ?_; rintro e w5 ⟨rfl, h5⟩
    have hrow5 := Hrow4.out.new h5
    have Hb5 := Lib.hid (Hb4.out.trans (h5.mono Hb4.out.size))
    clear h5
    clear e0 e1 e2 e3 e4
    have e0 := hrow5.c0
    have e1 := hrow5.c1
    have e2 := hrow5.c2
    have e3 := hrow5.c3
    have e4 := hrow5.c4
    have Hrow5 := Lib.hid hrow5; clear hrow5
    go_wp2_with fail
    refine (K2.out _).mono ?_; rintro e w6 ⟨h6, v6, rfl, hv6⟩
    have hrow6 := Hrow5.out.new h6
    have Hb6 := Lib.hid (Hb5.out.trans (h6.mono Hb5.out.size))
    clear h6
    clear e0 e1 e2 e3 e4
    have e0 := hrow6.c0
    have e1 := hrow6.c1
    have e2 := hrow6.c2
    have e3 := hrow6.c3
    have e4 := hrow6.c4
    have Hrow6 := Lib.hid hrow6; clear hrow6
    have hv6r := hv6.reads
    obtain ⟨a6, k6, rfl, hk6⟩ : ∃ a cap, v6 = .slice a nc cap ∧ True := by
      obtain ⟨a, cap, h, _⟩ := hv6r
      exact ⟨a, cap, by rw [Hnc.out]; exact h, trivial⟩
    have HP6 := Lib.hid hv6r; clear hv6r hv6
    go_wp2_with fail
    refine (K3.out _).mono ?_; rintro e w7 ⟨h7, g, hg, rfl, hr7⟩
    have hrow7 := Hrow6.out.new h7
    have Hb7 := Lib.hid (Hb6.out.trans (h7.mono Hb6.out.size))
    have HP7 := Lib.hid (HP6.out.new h7)
    clear h7
    clear e0 e1 e2 e3 e4
    have e0 := hrow7.c0
    have e1 := hrow7.c1
    have e2 := hrow7.c2
    have e3 := hrow7.c3
    have e4 := hrow7.c4
    have Hrow7 := Lib.hid hrow7; clear hrow7
    have HT7 := Lib.hid (show TRd (.slice (some ⟨g, 0, none⟩) (pcTexts s1 C).length (pcTexts s1 C).length) (pcTexts s1 C) w7 from ⟨g, rfl, hr7⟩); clear hr7 hg
    go_wp2_with fail
    refine (K5.out _).mono ?_; rintro e w8 ⟨rfl, h8⟩
    have hrow8 := Hrow7.out.new h8
    have Hb8 := Lib.hid (Hb7.out.trans (h8.mono Hb7.out.size))
    have HP8 := Lib.hid (HP7.out.new h8)
    have HT8 := Lib.hid (HT7.out.new h8)
    clear h8
    clear e0 e1 e2 e3 e4
    have e0 := hrow8.c0
    have e1 := hrow8.c1
    have e2 := hrow8.c2
    have e3 := hrow8.c3
    have e4 := hrow8.c4
    have Hrow8 := Lib.hid hrow8; clear hrow8
    go_wp2_with fail
    refine (K6.out _).mono ?_; rintro e w9 ⟨v9, rfl, hv9, h9⟩
    have hrow9 := Hrow8.out.new h9
    have Hb9 := Lib.hid (Hb8.out.trans (h9.mono Hb8.out.size))
    have HP9 := Lib.hid (HP8.out.new h9)
    have HT9 := Lib.hid (HT8.out.new h9)
    clear h9
    clear e0 e1 e2 e3 e4
    have e0 := hrow9.c0
    have e1 := hrow9.c1
    have e2 := hrow9.c2
    have e3 := hrow9.c3
    have e4 := hrow9.c4
    have Hrow9 := Lib.hid hrow9; clear hrow9
    have hv9r := hv9.reads
    have hsp := rsame_any _ _ C w9 HP9.out hv9r (by have := Hnc.out; omega)
    obtain ⟨a9, k9, rfl, hk9⟩ : ∃ a cap, v9 = .slice a nc cap ∧ True := by
      obtain ⟨a, cap, h, _⟩ := hv9r
      exact ⟨a, cap, by rw [Hnc.out]; exact h, trivial⟩
    have HW9 := Lib.hid hv9r; clear hv9r hv9
    have Hsp := Lib.hid hsp; clear hsp
    clear e0 e1 e2 e3 e4
    go_wp2_with fail
    refine Hsp.out.mono ?_; rintro e w10 ⟨rfl, h10⟩
    have Hb10 := Lib.hid (Hb9.out.trans (h10.mono Hb9.out.size))
    have HW10 := Lib.hid (HW9.out.new h10)
    have HT10 := Lib.hid (HT9.out.new h10)
    clear h10
    go_wp2_with fail
    go_loopw [12] (fun x wr => ∃ k : Nat, k ≤ nc ∧ x = .int .i64 (k : Int) ∧ Below w10.heap.size w10 wr) (fun x _ => nc - (intOf x).toNat)
    case atStart => exact ⟨0, Nat.zero_le _, rfl, Below.refl _ _⟩
    case round =>
      obtain ⟨k, hk, rfl, hb⟩ := hrel
      have hbe := Hb10.out.trans (hb.mono Hb10.out.size)
      by_cases hlt : k < nc
      · have g1 : decide (k < nc) = true := decide_eq_true hlt
        have g1' : (k : Int) < (nc : Int) := by omega
        obtain ⟨a, cap, hva, hcap, hcs⟩ := HW10.out.new hb
        injection hva with q1 q2 q3
        obtain ⟨bv, hbv, dA, dM⟩ := hcs k (by rw [← q2]; exact hlt)
        rw [← q1] at hbv
        subst hbv
        obtain ⟨g', hgv, hrg⟩ := HT10.out.new hb
        injection hgv with q4 _ _
        injection q4 with q5
        injection q5 with q6
        subst q6
        have dT := Hget.out wr g hrg k hlt
        rw [Hpg.out k hlt] at dT
        have hok := Hok2.out k hlt
        clear q1 q3 hcs hrg
        generalize (C.getD k (0, 0)).1 = A at *
        generalize (C.getD k (0, 0)).2 = N at *
        have hself : ((s1.extract A (A + N)).toList == (s1.extract A (A + N)).toList) = true := by simp
        have Hb := Lib.hid hb; clear hb
        clear hbe q2 hcap
        go_wp2_with fail
        go_quiet (fail)
        go_wp2_with fail
        go_roundw
        case rel => exact ⟨k + 1, by omega, by go_num, drewN_below Hb.out _⟩
        case measure => simp [intOf]; omega
      · have g1 : decide (k < nc) = false := decide_eq_false hlt
        have HB := Lib.hid hbe; clear hbe hb
        go_wp2_with fail
        refine (linAlive_any _).mono ?_; rintro e wz ⟨rfl, hz⟩
        have Hbz := Lib.hid (HB.out.trans (hz.mono HB.out.size)); clear hz
        go_wp2_with fail
        go_ret
        exact ⟨rfl, Hbz.out⟩

theorem contract (H : Type) (enc : TypeId × Value → H) (W : World) (base : Nat) (args : Array Value) (ds gs : List (DataW H)) (before : List MemPlace)
    (hval : ∀ (j : Nat) t v, Try.f3.params[j]? = some t → args[j]? = some v → Value.okWide Try.prog W .any base t v)
    (hW : DataW.Whole enc Try.prog Try.f3.params.toList Rows.linesTellSpec.vars false W args.toList ds gs before)
    (hsz : (DataW.weightsEach Try.prog (Try.f3.params.toList ++ Rows.linesTellSpec.plain.varTypes Try.prog) (ds ++ gs)).all (· ≤ reachBytes) = true) :
    Calls Try.prog 3 args W fun e W' => ∃ v, e = .returned v ∧ Rows.linesTellSpec.post enc Try.prog Try.f3 false true false false W args v W' := by
  have hW' := hW
  obtain ⟨p, q, hA0, hV, rfl, hfz, hnd⟩ := hW
  have hA : DataW.TrodAll enc Try.prog W 0 (fun _ => true) true Try.f3.params.toList args.toList ds p := hA0
  rw [Try.params3] at hA hval hsz
  obtain ⟨v0, vs0, d0, ds0, p0, q0, hargs, rfl, rfl, h0, r0⟩ := trodAll_cons hA
  obtain ⟨v1, vs1, d1, ds1, p1, q1, rfl, rfl, rfl, h1, r1⟩ := trodAll_cons r0
  obtain ⟨v2, vs2, d2, ds2, p2, q2, rfl, rfl, rfl, h2, r2⟩ := trodAll_cons r1
  obtain ⟨rfl, rfl, rfl⟩ := trodAll_nil r2
  obtain rfl : args = #[v0, v1, v2] := Array.ext' hargs
  obtain ⟨rfl, rfl⟩ := trodVars_none hV
  have k0 := h0
  have lt0 : ∀ x ∈ p0, x.block < W.heap.size := by obtain ⟨m, hm⟩ := k0; exact DataW.trod_lt m _ _ _ hm
  obtain ⟨c0, rfl, wc0⟩ := open_cutter Try.underlying24 rfl rfl rfl rfl rfl Try.underlying22 Try.underlying3 (by kernel_rfl) (by kernel_rfl) (hval 0 24 v0 rfl rfl) h0
  obtain ⟨s1, rfl, rfl, rfl, m1⟩ := open_string Try.underlying9 (hval 1 9 v1 rfl rfl) h1
  obtain ⟨n2, rfl, rfl, rfl, w2⟩ := open_int Try.underlying3 (hval 2 3 v2 rfl rfl) h2
  clear hA0
  have z1 : s1.size ≤ 140737488351232 := by
    have := List.all_eq_true.1 hsz s1.data.toList.length (by simp [DataW.weightsEach, DataW.weights])
    rw [ba_len] at this
    exact of_decide_eq_true this
  refine (walk c0 s1 n2 W wc0 z1 w2).mono fun e W' ⟨he, bel⟩ => ?_
  subst he
  exact ⟨_, rfl, _, _, _, [], _, [], hW', trodAll_mk1 (shut_bool Try.underlying4 _), (trodAll_cons_mk (Below.trod laidOut (by kernel_rfl) (of_decide_eq_true (by kernel_rfl)) k0 bel lt0) (trodAll_cons_mk (shut_string Try.underlying9 m1) (trodAll_cons_mk (shut_int Try.underlying3 w2) trodAll_mk0))), rfl, bel.frame _, fun h => by cases h⟩

set_option maxRecDepth 100000 in
theorem lifted (os : Os) (started : os.Started) (H : Type) (enc : TypeId × Value → H) :
    ReturnsInHanded {} Try.checked os 3 .any (Rows.linesTellSpec.pre6 enc Try.prog Try.f3 Rows.linesTellRow.domain false) (Rows.linesTellSpec.post enc Try.prog Try.f3 false true false false) := by
  refine returnsInHanded_of_change_sized (C := Try.checked) own started (by kernel_rfl) Try.func3
    (ChangeSpec.witness6 (enc := enc) (C := Try.checked) false ⟨#[], #[.agg #[.int .u64 0, .int .i64 0, .int .i64 0, .int .i64 0, .int .i64 0], .string .empty, .int .i64 0], []⟩ 8 (by kernel_rfl) (by kernel_rfl) (by kernel_rfl) (by kernel_rfl)) ?_
  intro W base args ds gs before hval hW hcnd hsz _
  exact contract H enc W base args ds gs before hval hW hsz

theorem over : Rows.linesTellRow.holds Try.pinned (OpenSpec.ofChange Rows.linesTellSpec) :=
  OpenClaim.holds_of_wide 3 Try.f3 rfl rfl rfl rfl rfl rfl rfl ⟨rfl, rfl, rfl, rfl, rfl⟩ rfl rfl rfl rfl rfl (by kernel_rfl) Try.func3 (by kernel_rfl)
    (of_decide_eq_true (by kernel_rfl)) (by unfold Func.isWrapper; first | (rw [if_pos (by decide +kernel)]; kernel_rfl) | (rw [if_neg (by decide +kernel)]; exact ⟨rfl, rfl⟩))
    (fun os started H enc _ => lifted os started H enc)

theorem proved : Rows.LinesTellSaid := over

end Go.Proofs.Ytbcncedgfafpiaa.linesTell
