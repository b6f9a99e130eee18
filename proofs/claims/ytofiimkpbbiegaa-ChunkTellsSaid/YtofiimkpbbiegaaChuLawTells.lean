/-
  ChunkTells: which cutters may be, which marks a text has, into which pieces it is cut, which texts these are, how many there are at most: as the document says, for every cutter, every text, every length.
  Conditions: none.
-/
import Derived.Test.YtofiimkpbbiegaaChuAlive
import Derived.Test.YtofiimkpbbiegaaChuLawP
import Derived.Test.YtofiimkpbbiegaaGoPhase
import Derived.Test.YtofiimkpbbiegaaGoPh2
import Derived.Test.YtofiimkpbbiegaaChuArg
import Derived.BigQuiet
import Derived.StillTailTactics
import Derived.ProofKit
import Derived.OpenShut
import Derived.ShutString
import Derived.ChangeOld
import Derived.SizedLaws
namespace Go.Proofs.Ytofiimkpbbiegaa.chunkTells
open Go.ChangeShapes Go.WideShapes Go.ChangeAt Go.RowKit
open Go.ChangeMaps (open_string shut_string)
set_option linter.unusedVariables false
set_option maxRecDepth 100000

theorem own : ownKnob Try.prog.godebug = none := by kernel_rfl
theorem laidOut : laidOutB Try.prog = true := by kernel_rfl
theorem nothing (s : ByteArray) (h : s.size = 0) : s = ⟨#[]⟩ := by
  obtain ⟨a⟩ := s
  rw [Array.eq_empty_of_size_eq_zero (show a.size = 0 from h)]

set_option maxHeartbeats 2000000 in
theorem walk (c0 : Ctr) (s1 : ByteArray) (n2 : Int) (w : World) (wc0 : c0.Wf) (z1 : s1.size ≤ 140737488351232) (wf2 : (Lit.int .i64 n2).wf = true) :
    Calls Try.prog 3 #[c0.v, .string s1, .int .i64 n2] w fun e w' => e = .returned (.bool true) ∧ Below w.heap.size w w' := by
  have hn64 := wf64 wf2
  clear wf2
  have hbw := box_below w (.cells #[.int .u64 c0.p, .int .i64 c0.n, .int .i64 c0.mn, .int .i64 c0.mx, .int .i64 c0.b] 24)
  have hrow := CtrAt.box c0 w
  have Hb0 := Lib.hid hbw; clear hbw
  by_cases hl : 500 < s1.size
  · have hd : decide ((500 : Int) < (s1.size : Int)) = true := decide_eq_true (by omega)
    have HB := Lib.hid Hb0.out
    unfold Ctr.v
    clear hrow
    go_enter Try.func3, Try.ntmps3
    go_wp2_with fail
    refine (chuAlive_any _).mono ?_; rintro e wz ⟨rfl, hz⟩
    have Hbz := Lib.hid (HB.out.trans (hz.mono HB.out.size)); clear hz
    go_wp2_with fail
    go_ret
    exact ⟨rfl, Hbz.out⟩
  have hd : decide ((500 : Int) < (s1.size : Int)) = false := decide_eq_false (by omega)
  have k0 := fun u => ccheck_any c0 wc0.p u
  have k1 := fun u => chMarks_any c0 wc0.p s1 (by omega) u
  have k2 := fun u => chCut_any c0 wc0.p s1 (by omega) u
  have k3 := fun u => chTexts_any c0 wc0.p s1 (by omega) u
  have k4 := fun u => most_any c0 wc0.p n2 (by omega) u
  have k5 := fun u => refMay9_any c0 wc0.p u
  by_cases hm : c0.May
  rotate_left
  · simp only [if_neg hm] at k0 k1 k2 k3
    simp only [if_neg (fun h => hm h.1 : ¬ (c0.May ∧ 0 ≤ n2))] at k4
    rw [decide_eq_false hm] at k5
    unfold Ctr.v at *
    have K0 := Lib.hid k0; clear k0
    have K1 := Lib.hid k1; clear k1
    have K2 := Lib.hid k2; clear k2
    have K3 := Lib.hid k3; clear k3
    have K4 := Lib.hid k4; clear k4
    have K5 := Lib.hid k5; clear k5
    clear hm
    have e0 := hrow.c0
    have e1 := hrow.c1
    have e2 := hrow.c2
    have e3 := hrow.c3
    have e4 := hrow.c4
    have Hrow0 := Lib.hid hrow; clear hrow
    go_enter Try.func3, Try.ntmps3
    go_wp2_with fail
    refine (K0.out _).mono ?_; rintro e w1 ⟨rfl, h1⟩
    have hrow1 := Hrow0.out.new h1
    have Hb1 := Lib.hid (Hb0.out.trans (h1.mono Hb0.out.size))
    clear h1
    clear e0 e1 e2 e3 e4
    have e0 := hrow1.c0
    have e1 := hrow1.c1
    have e2 := hrow1.c2
    have e3 := hrow1.c3
    have e4 := hrow1.c4
    have Hrow1 := Lib.hid hrow1; clear hrow1
    go_wp2_with fail
    refine (K1.out _).mono ?_; rintro e w2 ⟨h2, rfl⟩
    have hrow2 := Hrow1.out.new h2
    have Hb2 := Lib.hid (Hb1.out.trans (h2.mono Hb1.out.size))
    clear h2
    clear e0 e1 e2 e3 e4
    have e0 := hrow2.c0
    have e1 := hrow2.c1
    have e2 := hrow2.c2
    have e3 := hrow2.c3
    have e4 := hrow2.c4
    have Hrow2 := Lib.hid hrow2; clear hrow2
    go_wp2_with fail
    refine (K2.out _).mono ?_; rintro e w3 ⟨h3, rfl⟩
    have hrow3 := Hrow2.out.new h3
    have Hb3 := Lib.hid (Hb2.out.trans (h3.mono Hb2.out.size))
    clear h3
    clear e0 e1 e2 e3 e4
    have e0 := hrow3.c0
    have e1 := hrow3.c1
    have e2 := hrow3.c2
    have e3 := hrow3.c3
    have e4 := hrow3.c4
    have Hrow3 := Lib.hid hrow3; clear hrow3
    go_wp2_with fail
    refine (K3.out _).mono ?_; rintro e w4 ⟨h4, rfl⟩
    have hrow4 := Hrow3.out.new h4
    have Hb4 := Lib.hid (Hb3.out.trans (h4.mono Hb3.out.size))
    clear h4
    clear e0 e1 e2 e3 e4
    have e0 := hrow4.c0
    have e1 := hrow4.c1
    have e2 := hrow4.c2
    have e3 := hrow4.c3
    have e4 := hrow4.c4
    have Hrow4 := Lib.hid hrow4; clear hrow4
    go_wp2_with fail
    refine (K4.out _).mono ?_; rintro e w5 ⟨rfl, h5⟩
    have hrow5 := Hrow4.out.new h5
    have Hb5 := Lib.hid (Hb4.out.trans (h5.mono Hb4.out.size))
    clear h5
    clear e0 e1 e2 e3 e4
    have e0 := hrow5.c0
    have e1 := hrow5.c1
    have e2 := hrow5.c2
    have e3 := hrow5.c3
    have e4 := hrow5.c4
    have Hrow5 := Lib.hid hrow5; clear hrow5
    go_wp2_with fail
    refine (K5.out _).mono ?_; rintro e w6 ⟨rfl, h6⟩
    have hrow6 := Hrow5.out.new h6
    have Hb6 := Lib.hid (Hb5.out.trans (h6.mono Hb5.out.size))
    clear h6
    clear e0 e1 e2 e3 e4
    have e0 := hrow6.c0
    have e1 := hrow6.c1
    have e2 := hrow6.c2
    have e3 := hrow6.c3
    have e4 := hrow6.c4
    have Hrow6 := Lib.hid hrow6; clear hrow6
    have HB := Lib.hid Hb6.out
    clear e0 e1 e2 e3 e4
    go_wp2_with fail
    refine (chuAlive_any _).mono ?_; rintro e wz ⟨rfl, hz⟩
    have Hbz := Lib.hid (HB.out.trans (hz.mono HB.out.size)); clear hz
    go_wp2_with fail
    go_ret
    exact ⟨rfl, Hbz.out⟩
  · simp only [if_pos hm] at k0 k1 k2 k3
    rw [decide_eq_true hm] at k5
    have k6 := fun u => refCut_any c0 hm s1 (by omega) u
    have k7 := fun u => refMarks_any c0 hm s1 (by omega) u
    have hcl := Ctr.cut_len hm s1.data.toList
    have hok := Ctr.cut_ok hm s1.data.toList
    have hmn1 : 1 ≤ c0.mn := by have := hm.1.2.1; have := hm.2.1.1; omega
    have hml : (c0.marks s1.data.toList).length ≤ s1.size := by unfold Ctr.marks; rw [ba_len]; exact Nat.le_trans (Chu.mks_length _ _ _) (by omega)
    rw [ba_len] at hcl hok
    have htx : c0.texts s1 = pcTexts s1 (c0.cut s1.data.toList) := rfl
    unfold TxR at k3
    rw [htx] at k3
    simp only [pcTexts_length] at k3
    generalize c0.cut s1.data.toList = C at *
    generalize c0.marks s1.data.toList = M at *
    obtain ⟨nc, hnc⟩ : ∃ nc, nc = C.length := ⟨_, rfl⟩
    obtain ⟨nm, hnm⟩ : ∃ nm, nm = M.length := ⟨_, rfl⟩
    have hok2 : ∀ k, k < nc → (C.getD k (0, 0)).1 + (C.getD k (0, 0)).2 ≤ s1.size := fun k hk => by
      rw [List.getD_eq_getElem?_getD, List.getElem?_eq_getElem (by omega)]
      exact (hok _ (List.getElem_mem _)).2
    have hget := fun (u : World) (g : Nat) (h : u.heap[g]? = some (.cells ((pcTexts s1 C).map Value.string).toArray 9 (0, 0))) j (hj : j < nc) => TRd.cell (L := pcTexts s1 C) h j (by rw [pcTexts_length, ← hnc]; exact hj)
    have hpg : ∀ j, j < nc → (pcTexts s1 C).getD j .empty = s1.extract (C.getD j (0, 0)).1 ((C.getD j (0, 0)).1 + (C.getD j (0, 0)).2) := fun j hj => by
      have hj' : j < C.length := by omega
      unfold pcTexts
      simp [List.getD_eq_getElem?_getD, hj']
    simp only [← hnc] at k3 hcl
    rw [← hnm] at hml
    unfold Ctr.v at *
    have K0 := Lib.hid k0; clear k0
    have K1 := Lib.hid k1; clear k1
    have K2 := Lib.hid k2; clear k2
    have K3 := Lib.hid k3; clear k3
    have K4 := Lib.hid k4; clear k4
    have K5 := Lib.hid k5; clear k5
    have K6 := Lib.hid k6; clear k6
    have K7 := Lib.hid k7; clear k7
    have Hok2 := Lib.hid hok2; clear hok2 hok
    have Hget := Lib.hid hget; clear hget
    have Hpg := Lib.hid hpg; clear hpg
    have Hnc := Lib.hid hnc; clear hnc
    have Hnm := Lib.hid hnm; clear hnm
    have Hm := Lib.hid hm; clear hm
    clear htx
    have e0 := hrow.c0
    have e1 := hrow.c1
    have e2 := hrow.c2
    have e3 := hrow.c3
    have e4 := hrow.c4
    have Hrow0 := Lib.hid hrow; clear hrow
    obtain ⟨V4, hV4⟩ : ∃ V4, V4 = (if c0.May ∧ 0 ≤ n2 then .tuple #[.int .i64 (c0.most n2), .int .i64 0] else .tuple #[.int .i64 0, .int .i64 2] : Value) := ⟨_, rfl⟩
    obtain ⟨mo, er, hme⟩ : ∃ mo er : Int, V4 = .tuple #[.int .i64 mo, .int .i64 er] ∧ (0 ≤ n2 → er = 0 ∧ mo = c0.most n2) ∧ (¬ 0 ≤ n2 → er = 2 ∧ mo = 0) := by
      by_cases h0 : 0 ≤ n2
      · exact ⟨_, _, by rw [hV4, if_pos ⟨Hm.out, h0⟩], fun _ => ⟨rfl, rfl⟩, fun h => absurd h0 h⟩
      · exact ⟨_, _, by rw [hV4, if_neg (fun h => h0 h.2)], fun h => absurd h h0, fun _ => ⟨rfl, rfl⟩⟩
    obtain ⟨hV, hme1, hme2⟩ := hme
    have k4 := K4.out
    rw [← hV4, hV] at k4
    have K4 := Lib.hid k4; clear k4 hV4 hV
    have Hme1 := Lib.hid hme1; clear hme1
    have Hme2 := Lib.hid hme2; clear hme2
    go_enter Try.func3, Try.ntmps3
    go_wp2_with fail
    refine (K0.out _).mono ?_; rintro e w1 ⟨rfl, h1⟩
    have hrow1 := Hrow0.out.new h1
    have Hb1 := Lib.hid (Hb0.out.trans (h1.mono Hb0.out.size))
    clear h1
    clear e0 e1 e2 e3 e4
    have e0 := hrow1.c0
    have e1 := hrow1.c1
    have e2 := hrow1.c2
    have e3 := hrow1.c3
    have e4 := hrow1.c4
    have Hrow1 := Lib.hid hrow1; clear hrow1
    go_wp2_with fail
    refine (K1.out _).mono ?_; rintro e w2 ⟨h2, v1, rfl, hv1⟩
    have hrow2 := Hrow1.out.new h2
    have Hb2 := Lib.hid (Hb1.out.trans (h2.mono Hb1.out.size))
    clear h2
    clear e0 e1 e2 e3 e4
    have e0 := hrow2.c0
    have e1 := hrow2.c1
    have e2 := hrow2.c2
    have e3 := hrow2.c3
    have e4 := hrow2.c4
    have Hrow2 := Lib.hid hrow2; clear hrow2
    have hv1r := hv1.reads
    obtain ⟨a1, k1, rfl, hk1⟩ : ∃ a cap, v1 = .slice a nm cap ∧ True := by
      obtain ⟨a, cap, h, _⟩ := hv1r
      exact ⟨a, cap, by rw [Hnm.out]; exact h, trivial⟩
    have HA2 := Lib.hid hv1r; clear hv1r hv1
    go_wp2_with fail
    refine (K2.out _).mono ?_; rintro e w3 ⟨h3, v2, rfl, hv2⟩
    have hrow3 := Hrow2.out.new h3
    have Hb3 := Lib.hid (Hb2.out.trans (h3.mono Hb2.out.size))
    have HA3 := Lib.hid (HA2.out.new h3)
    clear h3
    clear e0 e1 e2 e3 e4
    have e0 := hrow3.c0
    have e1 := hrow3.c1
    have e2 := hrow3.c2
    have e3 := hrow3.c3
    have e4 := hrow3.c4
    have Hrow3 := Lib.hid hrow3; clear hrow3
    have hv2r := hv2.reads
    obtain ⟨a2, k2, rfl, hk2⟩ : ∃ a cap, v2 = .slice a nc cap ∧ True := by
      obtain ⟨a, cap, h, _⟩ := hv2r
      exact ⟨a, cap, by rw [Hnc.out]; exact h, trivial⟩
    have HP3 := Lib.hid hv2r; clear hv2r hv2
    go_wp2_with fail
    refine (K3.out _).mono ?_; rintro e w4 ⟨h4, g, hg, rfl, hr4⟩
    have hrow4 := Hrow3.out.new h4
    have Hb4 := Lib.hid (Hb3.out.trans (h4.mono Hb3.out.size))
    have HA4 := Lib.hid (HA3.out.new h4)
    have HP4 := Lib.hid (HP3.out.new h4)
    clear h4
    clear e0 e1 e2 e3 e4
    have e0 := hrow4.c0
    have e1 := hrow4.c1
    have e2 := hrow4.c2
    have e3 := hrow4.c3
    have e4 := hrow4.c4
    have Hrow4 := Lib.hid hrow4; clear hrow4
    have HT4 := Lib.hid (show TRd (.slice (some ⟨g, 0, none⟩) (pcTexts s1 C).length (pcTexts s1 C).length) (pcTexts s1 C) w4 from ⟨g, rfl, hr4⟩); clear hr4 hg
    go_wp2_with fail
    refine (K4.out _).mono ?_; rintro e w5 ⟨rfl, h5⟩
    have hrow5 := Hrow4.out.new h5
    have Hb5 := Lib.hid (Hb4.out.trans (h5.mono Hb4.out.size))
    have HA5 := Lib.hid (HA4.out.new h5)
    have HP5 := Lib.hid (HP4.out.new h5)
    have HT5 := Lib.hid (HT4.out.new h5)
    clear h5
    clear e0 e1 e2 e3 e4
    have e0 := hrow5.c0
    have e1 := hrow5.c1
    have e2 := hrow5.c2
    have e3 := hrow5.c3
    have e4 := hrow5.c4
    have Hrow5 := Lib.hid hrow5; clear hrow5
    go_wp2_with fail
    refine (K5.out _).mono ?_; rintro e w6 ⟨rfl, h6⟩
    have hrow6 := Hrow5.out.new h6
    have Hb6 := Lib.hid (Hb5.out.trans (h6.mono Hb5.out.size))
    have HA6 := Lib.hid (HA5.out.new h6)
    have HP6 := Lib.hid (HP5.out.new h6)
    have HT6 := Lib.hid (HT5.out.new h6)
    clear h6
    clear e0 e1 e2 e3 e4
    have e0 := hrow6.c0
    have e1 := hrow6.c1
    have e2 := hrow6.c2
    have e3 := hrow6.c3
    have e4 := hrow6.c4
    have Hrow6 := Lib.hid hrow6; clear hrow6
    go_wp2_with fail
    refine (K6.out _).mono ?_; rintro e w7 ⟨v7, rfl, hv7, h7⟩
    have hrow7 := Hrow6.out.new h7
    have Hb7 := Lib.hid (Hb6.out.trans (h7.mono Hb6.out.size))
    have HA7 := Lib.hid (HA6.out.new h7)
    have HP7 := Lib.hid (HP6.out.new h7)
    have HT7 := Lib.hid (HT6.out.new h7)
    clear h7
    clear e0 e1 e2 e3 e4
    have e0 := hrow7.c0
    have e1 := hrow7.c1
    have e2 := hrow7.c2
    have e3 := hrow7.c3
    have e4 := hrow7.c4
    have Hrow7 := Lib.hid hrow7; clear hrow7
    have hv7r := hv7.reads
    obtain ⟨a7, k7, rfl, hk7⟩ : ∃ a cap, v7 = .slice a nc cap ∧ True := by
      obtain ⟨a, cap, h, _⟩ := hv7r
      exact ⟨a, cap, by rw [Hnc.out]; exact h, trivial⟩
    have HW7 := Lib.hid hv7r; clear hv7r hv7
    go_wp2_with fail
    refine (K7.out _).mono ?_; rintro e w8 ⟨v8, rfl, hv8, h8⟩
    have hrow8 := Hrow7.out.new h8
    have Hb8 := Lib.hid (Hb7.out.trans (h8.mono Hb7.out.size))
    have HA8 := Lib.hid (HA7.out.new h8)
    have HP8 := Lib.hid (HP7.out.new h8)
    have HT8 := Lib.hid (HT7.out.new h8)
    have HW8 := Lib.hid (HW7.out.new h8)
    clear h8
    clear e0 e1 e2 e3 e4
    have e0 := hrow8.c0
    have e1 := hrow8.c1
    have e2 := hrow8.c2
    have e3 := hrow8.c3
    have e4 := hrow8.c4
    have Hrow8 := Lib.hid hrow8; clear hrow8
    have hv8r := hv8.reads
    have hsm := lints_any _ _ M w8 HA8.out hv8r (by have := Hnm.out; omega)
    obtain ⟨a8, k8, rfl, hk8⟩ : ∃ a cap, v8 = .slice a nm cap ∧ True := by
      obtain ⟨a, cap, h, _⟩ := hv8r
      exact ⟨a, cap, by rw [Hnm.out]; exact h, trivial⟩
    have Hsm := Lib.hid hsm; clear hsm hv8r hv8
    go_wp2_with fail
    refine Hsm.out.mono ?_; rintro e w9 ⟨rfl, h9⟩
    have Hrow9 := Lib.hid (Hrow8.out.new h9)
    have Hb9 := Lib.hid (Hb8.out.trans (h9.mono Hb8.out.size))
    have HP9 := Lib.hid (HP8.out.new h9)
    have HW9 := Lib.hid (HW8.out.new h9)
    have HT9 := Lib.hid (HT8.out.new h9)
    clear h9 e0 e1 e2 e3 e4
    have hsp := rsame_any _ _ C w9 HP9.out HW9.out (by have := Hnc.out; omega)
    have Hsp := Lib.hid hsp; clear hsp
    go_wp2_with fail
    refine Hsp.out.mono ?_; rintro e w10 ⟨rfl, h10⟩
    have Hrow10 := Lib.hid (Hrow9.out.new h10)
    have Hb10 := Lib.hid (Hb9.out.trans (h10.mono Hb9.out.size))
    have HW10 := Lib.hid (HW9.out.new h10)
    have HT10 := Lib.hid (HT9.out.new h10)
    clear h10
    go_wp2_with fail
    go_loopw [17] (fun x wr => ∃ k : Nat, k ≤ nc ∧ x = .int .i64 (k : Int) ∧ Below w10.heap.size w10 wr) (fun x _ => nc - (intOf x).toNat)
    case atStart => exact ⟨0, Nat.zero_le _, rfl, Below.refl _ _⟩
    case round =>
      obtain ⟨k, hk, rfl, hb⟩ := hrel
      have hbe := Hb10.out.trans (hb.mono Hb10.out.size)
      by_cases hlt : k < nc
      · have g1 : decide (k < nc) = true := decide_eq_true hlt
        have g1' : (k : Int) < (nc : Int) := by omega
        obtain ⟨a, cap, hva, hcap, hcs⟩ := HW10.out.new hb
        injection hva with q1 q2 q3
        obtain ⟨bv, hbv, dA, dM⟩ := hcs k (by rw [← q2]; exact hlt)
        rw [← q1] at hbv
        subst hbv
        obtain ⟨g', hgv, hrg⟩ := HT10.out.new hb
        injection hgv with q4 _ _
        injection q4 with q5
        injection q5 with q6
        subst q6
        have dT := Hget.out wr g hrg k hlt
        rw [Hpg.out k hlt] at dT
        have hok := Hok2.out k hlt
        clear q1 q3 hcs hrg
        generalize (C.getD k (0, 0)).1 = A at *
        generalize (C.getD k (0, 0)).2 = N at *
        have hself : ((s1.extract A (A + N)).toList == (s1.extract A (A + N)).toList) = true := by simp
        have Hb := Lib.hid hb; clear hb
        clear hbe q2 hcap
        go_wp2_with fail
        go_quiet (fail)
        go_wp2_with fail
        go_roundw
        case rel => exact ⟨k + 1, by omega, by go_num, drewN_below Hb.out _⟩
        case measure => simp [intOf]; omega
      · have g1 : decide (k < nc) = false := decide_eq_false hlt
        have HB := Lib.hid hbe; clear hbe
        have hrw := Hrow10.out.new hb
        clear hb
        by_cases h0 : 0 ≤ n2
        · have g3 : decide (n2 < 0) = false := decide_eq_false (by omega)
          obtain ⟨rfl, hmo⟩ := Hme1.out h0
          have m2 := hrw.c2
          have Hrw := Lib.hid hrw; clear hrw
          have e1 : n2.tdiv c0.mn = n2 / c0.mn := Int.tdiv_eq_ediv_of_nonneg h0
          have e2 : n2.tmod c0.mn = n2 % c0.mn := Int.tmod_eq_emod_of_nonneg h0
          have hn0 : ¬ c0.mn = 0 := by omega
          have b1 : 0 ≤ n2 / c0.mn := Int.ediv_nonneg h0 (by omega)
          have b2 : n2 / c0.mn ≤ n2 := Int.ediv_le_self _ h0
          have b3 : 0 ≤ n2 % c0.mn := Int.emod_nonneg _ hn0
          have hsum : n2 / c0.mn + min (n2 % c0.mn) 1 = mo := by
            rw [hmo]
            unfold Ctr.most
            by_cases h1 : 0 < n2 % c0.mn
            · rw [if_pos h1]; omega
            · rw [if_neg h1]; omega
          have b4 : n2 / c0.mn + min (n2 % c0.mn) 1 ≤ 9223372036854775807 := by
            rcases (by omega : c0.mn = 1 ∨ 2 ≤ c0.mn) with h2 | h2
            · rw [h2, Int.emod_one, Int.ediv_one]; omega
            · have h3 := Int.mul_ediv_add_emod n2 c0.mn
              have h4 : 2 * (n2 / c0.mn) ≤ c0.mn * (n2 / c0.mn) := Int.mul_le_mul_of_nonneg_right h2 b1
              omega
          generalize n2 / c0.mn = q at *
          generalize n2 % c0.mn = r at *
          obtain ⟨x, hx⟩ : ∃ x, x = min r 1 := ⟨_, rfl⟩
          have hx' : min r 1 = x := hx.symm
          rw [hx'] at hsum b4
          have hw : IntKind.i64.wrap (q + x) = mo := by rw [hsum]; simp only [IntKind.wrap_i64]; omega
          clear hx hmo
          have hqw : IntKind.i64.wrap q = q := by simp only [IntKind.wrap_i64]; omega
          have HQw := Lib.hid hqw; clear hqw
          have Hsum := Lib.hid hsum; clear hsum
          have HE1 := Lib.hid e1; clear e1
          have HE2 := Lib.hid e2; clear e2
          have HX := Lib.hid hx'; clear hx'
          have HWr := Lib.hid hw; clear hw
          clear b1 b2 b3 b4
          go_wp2_with fail
          refine wp_region_phases [([0, 1, 2, 3, 4, 5, 6, 7, 8, 9, 10, 11, 12, 13, 14, 15, 16], [17, 18, 19])] (by kernel_rfl) (by kernel_rfl) (fun z => z.cell? ⟨w.heap.size, 2, none⟩ = some (.int .i64 c0.mn)) m2 ?_
          simp only [wpPhases, pick, List.filterMap_cons, List.filterMap_nil, List.getElem?_toArray, List.getElem?_cons_zero, List.getElem?_cons_succ]
          refine take_move (.tmp 15) (.int .i64 0) rfl rfl rfl ?_
          simp only [Act.put, List.setIfInBounds_toArray, List.set_cons_zero, List.set_cons_succ]
          refine take_one (.bool true) rfl (fun u hu => by go_simp) ?_
          simp only [Act.put, List.setIfInBounds_toArray, List.set_cons_zero, List.set_cons_succ]
          refine take_move (.tmp 170) (.bool true) rfl rfl rfl ?_
          simp only [Act.put, List.setIfInBounds_toArray, List.set_cons_zero, List.set_cons_succ]
          refine take_move (.tmp 14) (.int .i64 mo) rfl rfl rfl ?_
          simp only [Act.put, List.setIfInBounds_toArray, List.set_cons_zero, List.set_cons_succ]
          refine take_move (.tmp 2) (.int .i64 n2) rfl rfl rfl ?_
          simp only [Act.put, List.setIfInBounds_toArray, List.set_cons_zero, List.set_cons_succ]
          refine take_one (.pointer (some ⟨w.heap.size, 2, none⟩)) rfl (fun u _ => by go_simp) ?_
          simp only [Act.put, List.setIfInBounds_toArray, List.set_cons_zero, List.set_cons_succ]
          refine take_load 3 (.tmp 174) ⟨w.heap.size, 2, none⟩ (.int .i64 c0.mn) rfl rfl rfl (fun u hu => load_at Try.underlying3 Try.isAgg3 hu) ?_
          simp only [Act.put, List.setIfInBounds_toArray, List.set_cons_zero, List.set_cons_succ]
          refine take_one (.int .i64 q) rfl (fun u hu => by go_simp; simp [HE1.out, HQw.out]) ?_
          simp only [Act.put, List.setIfInBounds_toArray, List.set_cons_zero, List.set_cons_succ]
          refine take_move (.tmp 2) (.int .i64 n2) rfl rfl rfl ?_
          simp only [Act.put, List.setIfInBounds_toArray, List.set_cons_zero, List.set_cons_succ]
          refine take_one (.pointer (some ⟨w.heap.size, 2, none⟩)) rfl (fun u _ => by go_simp) ?_
          simp only [Act.put, List.setIfInBounds_toArray, List.set_cons_zero, List.set_cons_succ]
          refine take_load 3 (.tmp 178) ⟨w.heap.size, 2, none⟩ (.int .i64 c0.mn) rfl rfl rfl (fun u hu => load_at Try.underlying3 Try.isAgg3 hu) ?_
          simp only [Act.put, List.setIfInBounds_toArray, List.set_cons_zero, List.set_cons_succ]
          refine take_one (.int .i64 r) rfl (fun u hu => by go_simp; simp [HE2.out]) ?_
          simp only [Act.put, List.setIfInBounds_toArray, List.set_cons_zero, List.set_cons_succ]
          refine take_one (.int .i64 x) rfl (fun u hu => by go_simp; rw [HX.out]) ?_
          simp only [Act.put, List.setIfInBounds_toArray, List.set_cons_zero, List.set_cons_succ]
          refine take_one (.int .i64 mo) rfl (fun u hu => by go_simp; rw [HWr.out]) ?_
          simp only [Act.put, List.setIfInBounds_toArray, List.set_cons_zero, List.set_cons_succ]
          refine take_one (.bool true) rfl (fun u hu => by go_simp) ?_
          simp only [Act.put, List.setIfInBounds_toArray, List.set_cons_zero, List.set_cons_succ]
          refine take_one (.bool true) rfl (fun u hu => by go_simp) ?_
          simp only [Act.put, List.setIfInBounds_toArray, List.set_cons_zero, List.set_cons_succ]
          refine take_move (.tmp 184) (.bool true) rfl rfl rfl ?_
          simp only [Act.put, List.setIfInBounds_toArray, List.set_cons_zero, List.set_cons_succ]
          refine take_done ?_
          refine midk_wp rfl (call_wp 7 [] #[] #[] rfl rfl rfl ?_)
          refine (chuAlive_any _).mono ?_
          rintro e wz ⟨rfl, hz⟩
          have Hbz := Lib.hid (HB.out.trans ((below_undrew hz).mono HB.out.size))
          have m2z := (Hrw.out.new (below_undrew hz)).c2
          refine ⟨_, rfl, m2z, ?_⟩
          simp only [Act.put, List.setIfInBounds_toArray, List.set_cons_zero, List.set_cons_succ]
          refine midk_one (.bool true) rfl (by go_simp) m2z ?_
          simp only [Act.put, List.setIfInBounds_toArray, List.set_cons_zero, List.set_cons_succ]
          refine midk_one (.bool true) rfl (by go_simp) m2z ?_
          simp only [Act.put, List.setIfInBounds_toArray, List.set_cons_zero, List.set_cons_succ]
          refine midk_end ?_
          go_wp2_with fail
          go_ret
          exact ⟨rfl, Hbz.out⟩
        · have g3 : decide (n2 < 0) = true := decide_eq_true (by omega)
          obtain ⟨rfl, rfl⟩ := Hme2.out (by omega)
          clear hrw
          go_wp2_with fail
          refine (chuAlive_any _).mono ?_; rintro e wz ⟨rfl, hz⟩
          have Hbz := Lib.hid (HB.out.trans (hz.mono HB.out.size)); clear hz
          go_wp2_with fail
          go_ret
          exact ⟨rfl, Hbz.out⟩

theorem contract (H : Type) (enc : TypeId × Value → H) (W : World) (base : Nat) (args : Array Value) (ds gs : List (DataW H)) (before : List MemPlace)
    (hval : ∀ (j : Nat) t v, Try.f3.params[j]? = some t → args[j]? = some v → Value.okWide Try.prog W .any base t v)
    (hW : DataW.Whole enc Try.prog Try.f3.params.toList Rows.chunkTellsSpec.vars false W args.toList ds gs before)
    (hsz : (DataW.weightsEach Try.prog (Try.f3.params.toList ++ Rows.chunkTellsSpec.plain.varTypes Try.prog) (ds ++ gs)).all (· ≤ reachBytes) = true) :
    Calls Try.prog 3 args W fun e W' => ∃ v, e = .returned v ∧ Rows.chunkTellsSpec.post enc Try.prog Try.f3 false true false false W args v W' := by
  have hW' := hW
  obtain ⟨p, q, hA0, hV, rfl, hfz, hnd⟩ := hW
  have hA : DataW.TrodAll enc Try.prog W 0 (fun _ => true) true Try.f3.params.toList args.toList ds p := hA0
  rw [Try.params3] at hA hval hsz
  obtain ⟨v0, vs0, d0, ds0, p0, q0, hargs, rfl, rfl, h0, r0⟩ := trodAll_cons hA
  obtain ⟨v1, vs1, d1, ds1, p1, q1, rfl, rfl, rfl, h1, r1⟩ := trodAll_cons r0
  obtain ⟨v2, vs2, d2, ds2, p2, q2, rfl, rfl, rfl, h2, r2⟩ := trodAll_cons r1
  obtain ⟨rfl, rfl, rfl⟩ := trodAll_nil r2
  obtain rfl : args = #[v0, v1, v2] := Array.ext' hargs
  obtain ⟨rfl, rfl⟩ := trodVars_none hV
  have k0 := h0
  have lt0 : ∀ x ∈ p0, x.block < W.heap.size := by obtain ⟨m, hm⟩ := k0; exact DataW.trod_lt m _ _ _ hm
  obtain ⟨c0, rfl, wc0⟩ := open_cutter Try.underlying24 rfl rfl rfl rfl rfl Try.underlying22 Try.underlying3 (by kernel_rfl) (by kernel_rfl) (hval 0 24 v0 rfl rfl) h0
  obtain ⟨s1, rfl, rfl, rfl, m1⟩ := open_string Try.underlying9 (hval 1 9 v1 rfl rfl) h1
  obtain ⟨n2, rfl, rfl, rfl, w2⟩ := open_int Try.underlying3 (hval 2 3 v2 rfl rfl) h2
  clear hA0
  have z1 : s1.size ≤ 140737488351232 := by
    have := List.all_eq_true.1 hsz s1.data.toList.length (by simp [DataW.weightsEach, DataW.weights])
    rw [ba_len] at this
    exact of_decide_eq_true this
  refine (walk c0 s1 n2 W wc0 z1 w2).mono fun e W' ⟨he, bel⟩ => ?_
  subst he
  exact ⟨_, rfl, _, _, _, [], _, [], hW', trodAll_mk1 (shut_bool Try.underlying4 _), (trodAll_cons_mk (Below.trod laidOut (by kernel_rfl) (of_decide_eq_true (by kernel_rfl)) k0 bel lt0) (trodAll_cons_mk (shut_string Try.underlying9 m1) (trodAll_cons_mk (shut_int Try.underlying3 w2) trodAll_mk0))), rfl, bel.frame _, fun h => by cases h⟩

set_option maxRecDepth 100000 in
theorem lifted (os : Os) (started : os.Started) (H : Type) (enc : TypeId × Value → H) :
    ReturnsInHanded {} Try.checked os 3 .any (Rows.chunkTellsSpec.pre6 enc Try.prog Try.f3 Rows.chunkTellsRow.domain false) (Rows.chunkTellsSpec.post enc Try.prog Try.f3 false true false false) := by
  refine returnsInHanded_of_change_sized (C := Try.checked) own started (by kernel_rfl) Try.func3
    (ChangeSpec.witness6 (enc := enc) (C := Try.checked) false ⟨#[], #[.agg #[.int .u64 0, .int .i64 0, .int .i64 0, .int .i64 0, .int .i64 0], .string .empty, .int .i64 0], []⟩ 8 (by kernel_rfl) (by kernel_rfl) (by kernel_rfl) (by kernel_rfl)) ?_
  intro W base args ds gs before hval hW hcnd hsz _
  exact contract H enc W base args ds gs before hval hW hsz

theorem over : Rows.chunkTellsRow.holds Try.pinned (OpenSpec.ofChange Rows.chunkTellsSpec) :=
  OpenClaim.holds_of_wide 3 Try.f3 rfl rfl rfl rfl rfl rfl rfl ⟨rfl, rfl, rfl, rfl, rfl⟩ rfl rfl rfl rfl rfl (by kernel_rfl) Try.func3 (by kernel_rfl)
    (of_decide_eq_true (by kernel_rfl)) (by unfold Func.isWrapper; first | (rw [if_pos (by decide +kernel)]; kernel_rfl) | (rw [if_neg (by decide +kernel)]; exact ⟨rfl, rfl⟩))
    (fun os started H enc _ => lifted os started H enc)

theorem proved : Rows.ChunkTellsSaid := over

end Go.Proofs.Ytofiimkpbbiegaa.chunkTells
