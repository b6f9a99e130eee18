/-
  LinesMeet: where two texts end alike, and layer 9 cuts both at one place within what is alike, all aligned cuts from there on are the same: for every cutter, every two beginnings, every end.
  Conditions: none.
-/
import Derived.Test.YtbcncedgfafpiaaLinB
import Derived.Test.YtbcncedgfafpiaaChuC
import Derived.Test.YtbcncedgfafpiaaLinMeetP
import Derived.BigQuiet
import Derived.StillTailTactics
import Derived.ProofKit
import Derived.OpenShut
import Derived.ShutString
import Derived.ChangeOld
import Derived.SizedLaws
namespace Go.Proofs.Ytbcncedgfafpiaa.linesMeet
open Go.ChangeShapes Go.WideShapes Go.ChangeAt Go.RowKit
open Go.ChangeMaps (open_string shut_string)
set_option linter.unusedVariables false
set_option maxRecDepth 100000

theorem own : ownKnob Try.prog.godebug = none := by kernel_rfl
theorem laidOut : laidOutB Try.prog = true := by kernel_rfl
theorem nothing (s : ByteArray) (h : s.size = 0) : s = ⟨#[]⟩ := by
  obtain ⟨a⟩ := s
  rw [Array.eq_empty_of_size_eq_zero (show a.size = 0 from h)]

set_option maxHeartbeats 2000000 in
theorem walk (c0 : Ctr) (s1 s2 s3 : ByteArray) (w : World) (wc0 : c0.Wf) (z1 : s1.size ≤ 140737488351232) (z2 : s2.size ≤ 140737488351232) (z3 : s3.size ≤ 140737488351232) :
    Calls Try.prog 5 #[c0.v, .string s1, .string s2, .string s3] w fun e w' => e = .returned (.bool true) ∧ Below w.heap.size w w' := by
  have hbw := box_below w (.cells #[.int .u64 c0.p, .int .i64 c0.n, .int .i64 c0.mn, .int .i64 c0.mx, .int .i64 c0.b] 24)
  have hrow := CtrAt.box c0 w
  have Hb0 := Lib.hid hbw; clear hbw
  by_cases hl : 2000 < s1.size + s2.size + s3.size
  · have hd : decide ((2000 : Int) < (s1.size : Int) + (s2.size : Int) + (s3.size : Int)) = true := decide_eq_true (by omega)
    have HB := Lib.hid Hb0.out
    unfold Ctr.v
    clear hrow
    go_enter Try.func5, Try.ntmps5
    go_wp2_with fail
    refine (linAlive_any _).mono ?_; rintro e wz ⟨rfl, hz⟩
    have Hbz := Lib.hid (HB.out.trans (hz.mono HB.out.size)); clear hz
    go_wp2_with fail
    go_ret
    exact ⟨rfl, Hbz.out⟩
  have hd : decide ((2000 : Int) < (s1.size : Int) + (s2.size : Int) + (s3.size : Int)) = false := decide_eq_false (by omega)
  have hz12 : (s1 ++ s3).size = s1.size + s3.size := ByteArray.size_append
  have hz13 : (s2 ++ s3).size = s2.size + s3.size := ByteArray.size_append
  have k1 := fun u => chTexts_any c0 wc0.p (s1 ++ s3) (by omega) u
  have k2 := fun u => chTexts_any c0 wc0.p (s2 ++ s3) (by omega) u
  have k3 := fun u => ltexts_any c0 wc0.p (s1 ++ s3) (by omega) u
  have k4 := fun u => ltexts_any c0 wc0.p (s2 ++ s3) (by omega) u
  by_cases hm : c0.May
  rotate_left
  · simp only [if_neg hm] at k1 k2 k3 k4
    unfold Ctr.v at *
    have K1 := Lib.hid k1; clear k1
    have K2 := Lib.hid k2; clear k2
    have K3 := Lib.hid k3; clear k3
    have K4 := Lib.hid k4; clear k4
    clear hm hz12 hz13
    have e0 := hrow.c0
    have e1 := hrow.c1
    have e2 := hrow.c2
    have e3 := hrow.c3
    have e4 := hrow.c4
    have Hrow0 := Lib.hid hrow; clear hrow
    go_enter Try.func5, Try.ntmps5
    go_wp2_with fail
    refine (K1.out _).mono ?_; rintro e w1 ⟨h1, rfl⟩
    have hrow1 := Hrow0.out.new h1
    have Hb1 := Lib.hid (Hb0.out.trans (h1.mono Hb0.out.size))
    clear h1
    clear e0 e1 e2 e3 e4
    have e0 := hrow1.c0
    have e1 := hrow1.c1
    have e2 := hrow1.c2
    have e3 := hrow1.c3
    have e4 := hrow1.c4
    have Hrow1 := Lib.hid hrow1; clear hrow1
    go_wp2_with fail
    refine (K2.out _).mono ?_; rintro e w2 ⟨h2, rfl⟩
    have hrow2 := Hrow1.out.new h2
    have Hb2 := Lib.hid (Hb1.out.trans (h2.mono Hb1.out.size))
    clear h2
    clear e0 e1 e2 e3 e4
    have e0 := hrow2.c0
    have e1 := hrow2.c1
    have e2 := hrow2.c2
    have e3 := hrow2.c3
    have e4 := hrow2.c4
    have Hrow2 := Lib.hid hrow2; clear hrow2
    go_wp2_with fail
    refine (K3.out _).mono ?_; rintro e w3 ⟨h3, rfl⟩
    have hrow3 := Hrow2.out.new h3
    have Hb3 := Lib.hid (Hb2.out.trans (h3.mono Hb2.out.size))
    clear h3
    clear e0 e1 e2 e3 e4
    have e0 := hrow3.c0
    have e1 := hrow3.c1
    have e2 := hrow3.c2
    have e3 := hrow3.c3
    have e4 := hrow3.c4
    have Hrow3 := Lib.hid hrow3; clear hrow3
    go_wp2_with fail
    refine (K4.out _).mono ?_; rintro e w4 ⟨h4, rfl⟩
    have hrow4 := Hrow3.out.new h4
    have Hb4 := Lib.hid (Hb3.out.trans (h4.mono Hb3.out.size))
    clear h4
    clear e0 e1 e2 e3 e4
    have e0 := hrow4.c0
    have e1 := hrow4.c1
    have e2 := hrow4.c2
    have e3 := hrow4.c3
    have e4 := hrow4.c4
    have Hrow4 := Lib.hid hrow4; clear hrow4
    have HB := Lib.hid Hb4.out
    clear e0 e1 e2 e3 e4
    go_wp2_with fail
    refine (linAlive_any _).mono ?_; rintro e wz ⟨rfl, hz⟩
    have Hbz := Lib.hid (HB.out.trans (hz.mono HB.out.size)); clear hz
    go_wp2_with fail
    go_ret
    exact ⟨rfl, Hbz.out⟩
  · simp only [if_pos hm] at k1 k2 k3 k4
    have hmeet := fun m => meet_is10 hm s1 s2 s3 m
    have hx1 := fun x => endsF_le hm (s1 ++ s3) s1.size x
    have hx2 := fun x => endsF_le hm (s2 ++ s3) s2.size x
    have hl1 := Ctr.texts_len hm (s1 ++ s3)
    have hl2 := Ctr.texts_len hm (s2 ++ s3)
    have hl3 := Ctr.atexts_len hm (s1 ++ s3)
    have hl4 := Ctr.atexts_len hm (s2 ++ s3)
    have ht1 := Ctr.tot_le hm (s1 ++ s3)
    have ht2 := Ctr.tot_le hm (s2 ++ s3)
    have ht3 := Ctr.atot_le hm (s1 ++ s3)
    have ht4 := Ctr.atot_le hm (s2 ++ s3)
    have hnx := endsF_len (c0.texts (s1 ++ s3)) s1.size (c0.texts (s1 ++ s3)).length
    have hny := endsF_len (c0.texts (s2 ++ s3)) s2.size (c0.texts (s2 ++ s3)).length
    have hnu := fun f => endsF_len (c0.atexts (s1 ++ s3)) f (c0.atexts (s1 ++ s3)).length
    rw [hz12] at hx1 hl1 hl3 ht1 ht3
    rw [hz13] at hx2 hl2 hl4 ht2 ht4
    unfold TxR at k1 k2 k3 k4
    generalize c0.texts (s1 ++ s3) = A1 at *
    generalize c0.texts (s2 ++ s3) = A2 at *
    generalize c0.atexts (s1 ++ s3) = A3 at *
    generalize c0.atexts (s2 ++ s3) = A4 at *
    have q1 := fun v u h => lends_any v A1 s1.size u h (by omega) (by omega) (fun k hk => by have := ht1 k hk; omega)
    have q2 := fun v u h => lends_any v A2 s2.size u h (by omega) (by omega) (fun k hk => by have := ht2 k hk; omega)
    have q3 := fun v u m (hm : m ≤ 2000) h => lends_any v A3 (s1.size + m) u h (by omega) (by omega) (fun k hk => by have := ht3 k hk; omega)
    have q4 := fun v u m (hm : m ≤ 2000) h => lends_any v A4 (s2.size + m) u h (by omega) (by omega) (fun k hk => by have := ht4 k hk; omega)
    obtain ⟨U, hU⟩ : ∃ U : Nat → List Nat, U = fun m => endsF A3 (s1.size + m) A3.length := ⟨_, rfl⟩
    obtain ⟨V, hV⟩ : ∃ V : Nat → List Nat, V = fun m => endsF A4 (s2.size + m) A4.length := ⟨_, rfl⟩
    have hU' : ∀ m, endsF A3 (s1.size + m) A3.length = U m := fun m => by rw [hU]
    have hV' : ∀ m, endsF A4 (s2.size + m) A4.length = V m := fun m => by rw [hV]
    simp only [hU', hV'] at hmeet q3 q4
    have hul : ∀ m, (U m).length ≤ 2000 := fun m => by rw [← hU']; have := hnu (s1.size + m); omega
    generalize endsF A1 s1.size A1.length = X at *
    generalize endsF A2 s2.size A2.length = Y at *
    obtain ⟨n1, hn1⟩ : ∃ n1, n1 = A1.length := ⟨_, rfl⟩
    obtain ⟨n2, hn2⟩ : ∃ n2, n2 = A2.length := ⟨_, rfl⟩
    obtain ⟨n3, hn3⟩ : ∃ n3, n3 = A3.length := ⟨_, rfl⟩
    obtain ⟨n4, hn4⟩ : ∃ n4, n4 = A4.length := ⟨_, rfl⟩
    obtain ⟨nx, hnx'⟩ : ∃ nx, nx = X.length := ⟨_, rfl⟩
    obtain ⟨ny, hny'⟩ : ∃ ny, ny = Y.length := ⟨_, rfl⟩
    simp only [← hn1] at k1 hl1 hnx
    simp only [← hn2] at k2 hl2 hny
    simp only [← hn3] at k3 hl3
    simp only [← hn4] at k4 hl4
    rw [← hnx'] at hnx
    rw [← hny'] at hny
    have hxm : ∀ j, j < nx → X.getD j 0 ∈ X ∧ X.getD j 0 ≤ 2000 := fun j hj => by
      have h0 : X.getD j 0 ∈ X := by rw [List.getD_eq_getElem?_getD, List.getElem?_eq_getElem (by omega)]; exact List.getElem_mem _
      exact ⟨h0, by have := hx1 _ h0; omega⟩
    have hym : ∀ j, j < ny → Y.getD j 0 ∈ Y ∧ Y.getD j 0 ≤ 2000 := fun j hj => by
      have h0 : Y.getD j 0 ∈ Y := by rw [List.getD_eq_getElem?_getD, List.getElem?_eq_getElem (by omega)]; exact List.getElem_mem _
      exact ⟨h0, by have := hx2 _ h0; omega⟩
    have Hxm := Lib.hid hxm; clear hxm
    have Hym := Lib.hid hym; clear hym
    have Hmeet := Lib.hid hmeet; clear hmeet
    have Hul := Lib.hid hul; clear hul
    have Hn1 := Lib.hid hn1; clear hn1
    have Hn2 := Lib.hid hn2; clear hn2
    have Hn3 := Lib.hid hn3; clear hn3
    have Hn4 := Lib.hid hn4; clear hn4
    have Hnx := Lib.hid hnx'; clear hnx'
    have Hny := Lib.hid hny'; clear hny'
    have Q1 := Lib.hid q1; clear q1
    have Q2 := Lib.hid q2; clear q2
    have Q3 := Lib.hid q3; clear q3
    have Q4 := Lib.hid q4; clear q4
    unfold Ctr.v at *
    have K1 := Lib.hid k1; clear k1
    have K2 := Lib.hid k2; clear k2
    have K3 := Lib.hid k3; clear k3
    have K4 := Lib.hid k4; clear k4
    clear hm hz12 hz13 hx1 hx2 ht1 ht2 ht3 ht4 hnu hU hV hU' hV'
    have e0 := hrow.c0
    have e1 := hrow.c1
    have e2 := hrow.c2
    have e3 := hrow.c3
    have e4 := hrow.c4
    have Hrow0 := Lib.hid hrow; clear hrow
    go_enter Try.func5, Try.ntmps5
    go_wp2_with fail
    refine (K1.out _).mono ?_; rintro e w1 ⟨h1, g1, hg1, rfl, hr1⟩
    have hrow1 := Hrow0.out.new h1
    have Hb1 := Lib.hid (Hb0.out.trans (h1.mono Hb0.out.size))
    clear h1
    clear e0 e1 e2 e3 e4
    have e0 := hrow1.c0
    have e1 := hrow1.c1
    have e2 := hrow1.c2
    have e3 := hrow1.c3
    have e4 := hrow1.c4
    have Hrow1 := Lib.hid hrow1; clear hrow1
    have HA1 := Lib.hid (SRd.made hr1); clear hr1 hg1
    go_wp2_with fail
    refine (K2.out _).mono ?_; rintro e w2 ⟨h2, g2, hg2, rfl, hr2⟩
    have hrow2 := Hrow1.out.new h2
    have Hb2 := Lib.hid (Hb1.out.trans (h2.mono Hb1.out.size))
    have HA2 := Lib.hid (HA1.out.new h2)
    clear h2
    clear e0 e1 e2 e3 e4
    have e0 := hrow2.c0
    have e1 := hrow2.c1
    have e2 := hrow2.c2
    have e3 := hrow2.c3
    have e4 := hrow2.c4
    have Hrow2 := Lib.hid hrow2; clear hrow2
    have HC2 := Lib.hid (SRd.made hr2); clear hr2 hg2
    go_wp2_with fail
    refine (K3.out _).mono ?_; rintro e w3 ⟨h3, g3, hg3, rfl, hr3⟩
    have hrow3 := Hrow2.out.new h3
    have Hb3 := Lib.hid (Hb2.out.trans (h3.mono Hb2.out.size))
    have HA3 := Lib.hid (HA2.out.new h3)
    have HC3 := Lib.hid (HC2.out.new h3)
    clear h3
    clear e0 e1 e2 e3 e4
    have e0 := hrow3.c0
    have e1 := hrow3.c1
    have e2 := hrow3.c2
    have e3 := hrow3.c3
    have e4 := hrow3.c4
    have Hrow3 := Lib.hid hrow3; clear hrow3
    have HL3 := Lib.hid (SRd.made hr3); clear hr3 hg3
    go_wp2_with fail
    refine (K4.out _).mono ?_; rintro e w4 ⟨h4, g4, hg4, rfl, hr4⟩
    have hrow4 := Hrow3.out.new h4
    have Hb4 := Lib.hid (Hb3.out.trans (h4.mono Hb3.out.size))
    have HA4 := Lib.hid (HA3.out.new h4)
    have HC4 := Lib.hid (HC3.out.new h4)
    have HL4 := Lib.hid (HL3.out.new h4)
    clear h4
    clear e0 e1 e2 e3 e4
    have e0 := hrow4.c0
    have e1 := hrow4.c1
    have e2 := hrow4.c2
    have e3 := hrow4.c3
    have e4 := hrow4.c4
    have Hrow4 := Lib.hid hrow4; clear hrow4
    have HM4 := Lib.hid (SRd.made hr4); clear hr4 hg4
    rw [← Hn1.out] at HA4
    rw [← Hn2.out] at HC4
    rw [← Hn3.out] at HL4
    rw [← Hn4.out] at HM4
    clear e0 e1 e2 e3 e4
    go_wp2_with fail
    refine (Q1.out _ _ HA4.out).mono ?_; rintro e w5 ⟨v5, rfl, hv5, h5⟩
    have HC5 := Lib.hid (HC4.out.new h5)
    have HL5 := Lib.hid (HL4.out.new h5)
    have HM5 := Lib.hid (HM4.out.new h5)
    have Hb5 := Lib.hid (Hb4.out.trans (h5.mono Hb4.out.size)); clear h5
    have Hv5 := Lib.hid hv5.reads; clear hv5
    go_wp2_with fail
    refine (Q2.out _ _ HC5.out).mono ?_; rintro e w6 ⟨v6, rfl, hv6, h6⟩
    have HL6 := Lib.hid (HL5.out.new h6)
    have HM6 := Lib.hid (HM5.out.new h6)
    have hv5 := Hv5.out.new h6
    have Hb6 := Lib.hid (Hb5.out.trans (h6.mono Hb5.out.size)); clear h6
    have hv6 := hv6.reads
    obtain ⟨a5, k5, rfl, hk5, hf5⟩ := hv5
    obtain ⟨a6, k6, rfl, hk6, hf6⟩ := hv6
    rw [← Hnx.out] at hk5 hf5 ⊢
    rw [← Hny.out] at hk6 hf6 ⊢
    have Hf5 := Lib.hid hf5; clear hf5
    have Hf6 := Lib.hid hf6; clear hf6
    clear Hrow0 Hrow1 Hrow2 Hrow3 Hrow4 HA1 HA2 HA3 HA4 HC2 HC3 HC4 HC5 HL3 HL4 HL5 HM4 HM5 Hb0 Hb1 Hb2 Hb3 Hb4 Hb5 Hv5
    go_wp2_with fail
    go_loopw [19, 20] (fun mt i wr => ∃ (k m : Nat), k ≤ nx ∧ i = .int .i64 (k : Int) ∧ mt = .int .i64 (m : Int) ∧ (0 < m → m ∈ X ∧ m ∈ Y ∧ m ≤ 2000) ∧ Below w6.heap.size w6 wr) (fun mt i _ => nx - (intOf i).toNat)
    case atStart => exact ⟨0, 0, Nat.zero_le _, rfl, rfl, fun h => by omega, Below.refl _ _⟩
    case round =>
      obtain ⟨i, m, hi, rfl, rfl, hmm, hb⟩ := hrel
      by_cases hgo : i < nx ∧ m = 0
      · obtain ⟨hlt, rfl⟩ := hgo
        have g1 : decide (i < nx) = true := decide_eq_true hlt
        have g1' : (i : Int) < (nx : Int) := by omega
        obtain ⟨bx, hbx, dx⟩ := Hf5.out i hlt
        have hx := Hxm.out i hlt
        generalize X.getD i 0 = x at *
        subst hbx
        have Hb := Lib.hid hb; clear hb hmm
        have Hx := Lib.hid hx.1
        have hx2 := hx.2
        clear hx
        go_wp2_with fail
        go_loopw [19, 21] (fun mt y wr2 => ∃ (k m : Nat), k ≤ ny ∧ y = .int .i64 (k : Int) ∧ mt = .int .i64 (m : Int) ∧ (0 < m → m ∈ X ∧ m ∈ Y ∧ m ≤ 2000) ∧ Below w6.heap.size w6 wr2) (fun mt y _ => ny - (intOf y).toNat)
        case atStart => exact ⟨0, 0, Nat.zero_le _, rfl, rfl, fun h => by omega, Hb.out⟩
        case round =>
          obtain ⟨k, m, hk, rfl, rfl, hmm, hb⟩ := hrel
          have Hmm := Lib.hid hmm; clear hmm
          by_cases hlt2 : k < ny
          · have g2 : decide (k < ny) = true := decide_eq_true hlt2
            have g2' : (k : Int) < (ny : Int) := by omega
            obtain ⟨by_, hby, dy⟩ := Hf6.out k hlt2
            have hy := Hym.out k hlt2
            generalize Y.getD k 0 = y at *
            subst hby
            have d1 := hb.cell (p := ⟨bx, i, none⟩) (cell_lt dx)
            rw [dx] at d1
            have d2 := hb.cell (p := ⟨by_, k, none⟩) (cell_lt dy)
            rw [dy] at d2
            have Hb2 := Lib.hid hb; clear hb
            have Hy := Lib.hid hy.1; clear hy
            have Hdx := Lib.hid dx; have Hdy := Lib.hid dy
            clear dy
            by_cases hxy : x = y
            · subst hxy
              have p1 : ((x : Int) == (x : Int)) = true := by simp
              by_cases hx0 : 0 < x
              · have p2 : decide (0 < x) = true := decide_eq_true hx0
                clear dx
                go_wp2_with fail
                go_quiet (fail)
                have HbQ := Lib.hid (drewN_below Hb2.out nq)
                go_wp2_with fail
                go_roundw
                case rel => exact ⟨k + 1, x, by omega, by go_num, rfl, fun _ => ⟨Hx.out, Hy.out, hx2⟩, HbQ.out⟩
                case measure => simp [intOf]; omega
              · have p2 : decide (0 < x) = false := decide_eq_false hx0
                clear dx
                go_wp2_with fail
                go_quiet (fail)
                have HbQ := Lib.hid (drewN_below Hb2.out nq)
                go_wp2_with fail
                go_roundw
                case rel => exact ⟨k + 1, m, by omega, by go_num, rfl, Hmm.out, HbQ.out⟩
                case measure => simp [intOf]; omega
            · have p1 : ((x : Int) == (y : Int)) = false := by simp; omega
              have p3 : decide (x = y) = false := decide_eq_false hxy
              clear dx
              go_wp2_with fail
              go_quiet (fail)
              have HbQ := Lib.hid (drewN_below Hb2.out nq)
              go_wp2_with fail
              go_roundw
              case rel => exact ⟨k + 1, m, by omega, by go_num, rfl, Hmm.out, HbQ.out⟩
              case measure => simp [intOf]; omega
          · have g2 : decide (k < ny) = false := decide_eq_false hlt2
            have Hb2 := Lib.hid hb; clear hb
            go_wp2_with fail
            go_roundw
            case rel => exact ⟨i + 1, m, by omega, by go_num, rfl, Hmm.out, Hb2.out⟩
            case measure => simp [intOf]; omega
      · have hexit : ¬ i < nx ∨ ¬ m = 0 := by omega
        have HB := Lib.hid (Hb6.out.trans (hb.mono Hb6.out.size))
        by_cases hm0 : m = 0
        · have g1 : decide (i < nx) = false := decide_eq_false (by omega)
          subst hm0
          clear hmm hgo hexit hb
          go_wp2_with fail
          refine (linAlive_any _).mono ?_; rintro e wz ⟨rfl, hz⟩
          have Hbz := Lib.hid (HB.out.trans (hz.mono HB.out.size)); clear hz
          go_wp2_with fail
          go_ret
          exact ⟨rfl, Hbz.out⟩
        · obtain ⟨hmX, hmY, hm2⟩ := hmm (by omega)
          have hm1 : 0 < m := by omega
          have hUV := Hmeet.out m hm1 hmX hmY
          have hul := Hul.out m
          have q3 := fun v u h => Q3.out v u m hm2 h
          have q4 := fun v u h => Q4.out v u m hm2 h
          rw [← hUV] at q4
          generalize U m = W at *
          obtain ⟨nw, hnw⟩ : ∃ nw, nw = W.length := ⟨_, rfl⟩
          rw [← hnw] at hul
          have hc1 : ((s1.size + m : Nat) : Int) = (s1.size : Int) + (m : Int) := by omega
          have hc2 : ((s2.size + m : Nat) : Int) = (s2.size : Int) + (m : Int) := by omega
          rw [hc1] at q3
          rw [hc2] at q4
          have p2 : ((m : Int) == 0) = false := by simp; omega
          have p3 : decide (m = 0) = false := decide_eq_false hm0
          have HL7 := Lib.hid (HL6.out.new hb)
          have HM7 := Lib.hid (HM6.out.new hb)
          have hw1 : IntKind.i64.wrap ((s1.size : Int) + (m : Int)) = (s1.size : Int) + (m : Int) := by simp only [IntKind.wrap_i64]; omega
          have hw2 : IntKind.i64.wrap ((s2.size : Int) + (m : Int)) = (s2.size : Int) + (m : Int) := by simp only [IntKind.wrap_i64]; omega
          have R3 := Lib.hid q3; clear q3
          have R4 := Lib.hid q4; clear q4
          have Hnw := Lib.hid hnw; clear hnw
          clear hc1 hc2 hmX hmY hUV hmm hgo hexit hb Hmeet
          obtain ⟨t, ht⟩ : ∃ t, t = decide (i < nx) := ⟨_, rfl⟩
          have STEP : True := trivial
          by_cases hix : i < nx
          · have g1 : decide (i < nx) = true := decide_eq_true hix
            clear ht t
            go_wp2_with fail
            refine (R3.out _ _ HL7.out).mono ?_; rintro e w8 ⟨v8, rfl, hv8, h8⟩
            have HM8 := Lib.hid (HM7.out.new h8)
            have Hb8 := Lib.hid (HB.out.trans (h8.mono HB.out.size)); clear h8
            have Hv8 := Lib.hid hv8.reads
            clear hv8
            go_wp2_with fail
            refine (R4.out _ _ HM8.out).mono ?_; rintro e w9 ⟨v9, rfl, hv9, h9⟩
            have hv8 := Hv8.out.new h9
            have Hb9 := Lib.hid (Hb8.out.trans (h9.mono Hb8.out.size)); clear h9 Hv8
            have hv9 := hv9.reads
            obtain ⟨a8, c8, rfl, hk8, hf8⟩ := hv8
            obtain ⟨a9, c9, rfl, hk9, hf9⟩ := hv9
            rw [← Hnw.out] at hk8 hf8 hk9 hf9 ⊢
            have Hf8 := Lib.hid hf8; clear hf8
            have Hf9 := Lib.hid hf9; clear hf9
            have pn : ((nw : Int) == (nw : Int)) = true := by simp
            go_wp2_with fail
            go_loopw [24] (fun x wr => ∃ k : Nat, k ≤ nw ∧ x = .int .i64 (k : Int) ∧ Below w9.heap.size w9 wr) (fun x _ => nw - (intOf x).toNat)
            case atStart => exact ⟨0, Nat.zero_le _, rfl, Below.refl _ _⟩
            case round =>
              obtain ⟨k, hk, rfl, hb⟩ := hrel
              by_cases hlt : k < nw
              · have g2 : decide (k < nw) = true := decide_eq_true hlt
                have g2' : (k : Int) < (nw : Int) := by omega
                obtain ⟨b1, rfl, d1⟩ := Hf8.out k hlt
                obtain ⟨b2, rfl, d2⟩ := Hf9.out k hlt
                generalize W.getD k 0 = y at *
                have e1 := hb.cell (p := ⟨b1, k, none⟩) (cell_lt d1)
                rw [d1] at e1
                have e2 := hb.cell (p := ⟨b2, k, none⟩) (cell_lt d2)
                rw [d2] at e2
                have Hb := Lib.hid hb; clear hb d1 d2
                go_wp2_with fail
                go_quiet (fail)
                go_wp2_with fail
                go_roundw
                case rel => exact ⟨k + 1, by omega, by go_num, drewN_below Hb.out _⟩
                case measure => simp [intOf]; omega
              · have g2 : decide (k < nw) = false := decide_eq_false hlt
                have HB := Lib.hid (Hb9.out.trans (hb.mono Hb9.out.size)); clear hb
                go_wp2_with fail
                refine (linAlive_any _).mono ?_; rintro e wz ⟨rfl, hz⟩
                have Hbz := Lib.hid (HB.out.trans (hz.mono HB.out.size)); clear hz
                go_wp2_with fail
                go_ret
                exact ⟨rfl, Hbz.out⟩
          · have g1 : decide (i < nx) = false := decide_eq_false hix
            clear ht t
            go_wp2_with fail
            refine (R3.out _ _ HL7.out).mono ?_; rintro e w8 ⟨v8, rfl, hv8, h8⟩
            have HM8 := Lib.hid (HM7.out.new h8)
            have Hb8 := Lib.hid (HB.out.trans (h8.mono HB.out.size)); clear h8
            have Hv8 := Lib.hid hv8.reads
            clear hv8
            go_wp2_with fail
            refine (R4.out _ _ HM8.out).mono ?_; rintro e w9 ⟨v9, rfl, hv9, h9⟩
            have hv8 := Hv8.out.new h9
            have Hb9 := Lib.hid (Hb8.out.trans (h9.mono Hb8.out.size)); clear h9 Hv8
            have hv9 := hv9.reads
            obtain ⟨a8, c8, rfl, hk8, hf8⟩ := hv8
            obtain ⟨a9, c9, rfl, hk9, hf9⟩ := hv9
            rw [← Hnw.out] at hk8 hf8 hk9 hf9 ⊢
            have Hf8 := Lib.hid hf8; clear hf8
            have Hf9 := Lib.hid hf9; clear hf9
            have pn : ((nw : Int) == (nw : Int)) = true := by simp
            go_wp2_with fail
            go_loopw [24] (fun x wr => ∃ k : Nat, k ≤ nw ∧ x = .int .i64 (k : Int) ∧ Below w9.heap.size w9 wr) (fun x _ => nw - (intOf x).toNat)
            case atStart => exact ⟨0, Nat.zero_le _, rfl, Below.refl _ _⟩
            case round =>
              obtain ⟨k, hk, rfl, hb⟩ := hrel
              by_cases hlt : k < nw
              · have g2 : decide (k < nw) = true := decide_eq_true hlt
                have g2' : (k : Int) < (nw : Int) := by omega
                obtain ⟨b1, rfl, d1⟩ := Hf8.out k hlt
                obtain ⟨b2, rfl, d2⟩ := Hf9.out k hlt
                generalize W.getD k 0 = y at *
                have e1 := hb.cell (p := ⟨b1, k, none⟩) (cell_lt d1)
                rw [d1] at e1
                have e2 := hb.cell (p := ⟨b2, k, none⟩) (cell_lt d2)
                rw [d2] at e2
                have Hb := Lib.hid hb; clear hb d1 d2
                go_wp2_with fail
                go_quiet (fail)
                go_wp2_with fail
                go_roundw
                case rel => exact ⟨k + 1, by omega, by go_num, drewN_below Hb.out _⟩
                case measure => simp [intOf]; omega
              · have g2 : decide (k < nw) = false := decide_eq_false hlt
                have HB := Lib.hid (Hb9.out.trans (hb.mono Hb9.out.size)); clear hb
                go_wp2_with fail
                refine (linAlive_any _).mono ?_; rintro e wz ⟨rfl, hz⟩
                have Hbz := Lib.hid (HB.out.trans (hz.mono HB.out.size)); clear hz
                go_wp2_with fail
                go_ret
                exact ⟨rfl, Hbz.out⟩

theorem contract (H : Type) (enc : TypeId × Value → H) (W : World) (base : Nat) (args : Array Value) (ds gs : List (DataW H)) (before : List MemPlace)
    (hval : ∀ (j : Nat) t v, Try.f5.params[j]? = some t → args[j]? = some v → Value.okWide Try.prog W .any base t v)
    (hW : DataW.Whole enc Try.prog Try.f5.params.toList Rows.linesMeetSpec.vars false W args.toList ds gs before)
    (hsz : (DataW.weightsEach Try.prog (Try.f5.params.toList ++ Rows.linesMeetSpec.plain.varTypes Try.prog) (ds ++ gs)).all (· ≤ reachBytes) = true) :
    Calls Try.prog 5 args W fun e W' => ∃ v, e = .returned v ∧ Rows.linesMeetSpec.post enc Try.prog Try.f5 false true false false W args v W' := by
  have hW' := hW
  obtain ⟨p, q, hA0, hV, rfl, hfz, hnd⟩ := hW
  have hA : DataW.TrodAll enc Try.prog W 0 (fun _ => true) true Try.f5.params.toList args.toList ds p := hA0
  rw [Try.params5] at hA hval hsz
  obtain ⟨v0, vs0, d0, ds0, p0, q0, hargs, rfl, rfl, h0, r0⟩ := trodAll_cons hA
  obtain ⟨v1, vs1, d1, ds1, p1, q1, rfl, rfl, rfl, h1, r1⟩ := trodAll_cons r0
  obtain ⟨v2, vs2, d2, ds2, p2, q2, rfl, rfl, rfl, h2, r2⟩ := trodAll_cons r1
  obtain ⟨v3, vs3, d3, ds3, p3, q3, rfl, rfl, rfl, h3, r3⟩ := trodAll_cons r2
  obtain ⟨rfl, rfl, rfl⟩ := trodAll_nil r3
  obtain rfl : args = #[v0, v1, v2, v3] := Array.ext' hargs
  obtain ⟨rfl, rfl⟩ := trodVars_none hV
  have k0 := h0
  have lt0 : ∀ x ∈ p0, x.block < W.heap.size := by obtain ⟨m, hm⟩ := k0; exact DataW.trod_lt m _ _ _ hm
  obtain ⟨c0, rfl, wc0⟩ := open_cutter Try.underlying24 rfl rfl rfl rfl rfl Try.underlying22 Try.underlying3 (by kernel_rfl) (by kernel_rfl) (hval 0 24 v0 rfl rfl) h0
  obtain ⟨s1, rfl, rfl, rfl, m1⟩ := open_string Try.underlying9 (hval 1 9 v1 rfl rfl) h1
  obtain ⟨s2, rfl, rfl, rfl, m2⟩ := open_string Try.underlying9 (hval 2 9 v2 rfl rfl) h2
  obtain ⟨s3, rfl, rfl, rfl, m3⟩ := open_string Try.underlying9 (hval 3 9 v3 rfl rfl) h3
  clear hA0
  have z1 : s1.size ≤ 140737488351232 := by
    have := List.all_eq_true.1 hsz s1.data.toList.length (by simp [DataW.weightsEach, DataW.weights])
    rw [ba_len] at this
    exact of_decide_eq_true this
  have z2 : s2.size ≤ 140737488351232 := by
    have := List.all_eq_true.1 hsz s2.data.toList.length (by simp [DataW.weightsEach, DataW.weights])
    rw [ba_len] at this
    exact of_decide_eq_true this
  have z3 : s3.size ≤ 140737488351232 := by
    have := List.all_eq_true.1 hsz s3.data.toList.length (by simp [DataW.weightsEach, DataW.weights])
    rw [ba_len] at this
    exact of_decide_eq_true this
  refine (walk c0 s1 s2 s3 W wc0 z1 z2 z3).mono fun e W' ⟨he, bel⟩ => ?_
  subst he
  exact ⟨_, rfl, _, _, _, [], _, [], hW', trodAll_mk1 (shut_bool Try.underlying4 _), (trodAll_cons_mk (Below.trod laidOut (by kernel_rfl) (of_decide_eq_true (by kernel_rfl)) k0 bel lt0) (trodAll_cons_mk (shut_string Try.underlying9 m1) (trodAll_cons_mk (shut_string Try.underlying9 m2) (trodAll_cons_mk (shut_string Try.underlying9 m3) trodAll_mk0)))), rfl, bel.frame _, fun h => by cases h⟩

set_option maxRecDepth 100000 in
theorem lifted (os : Os) (started : os.Started) (H : Type) (enc : TypeId × Value → H) :
    ReturnsInHanded {} Try.checked os 5 .any (Rows.linesMeetSpec.pre6 enc Try.prog Try.f5 Rows.linesMeetRow.domain false) (Rows.linesMeetSpec.post enc Try.prog Try.f5 false true false false) := by
  refine returnsInHanded_of_change_sized (C := Try.checked) own started (by kernel_rfl) Try.func5
    (ChangeSpec.witness6 (enc := enc) (C := Try.checked) false ⟨#[], #[.agg #[.int .u64 0, .int .i64 0, .int .i64 0, .int .i64 0, .int .i64 0], .string .empty, .string .empty, .string .empty], []⟩ 8 (by kernel_rfl) (by kernel_rfl) (by kernel_rfl) (by kernel_rfl)) ?_
  intro W base args ds gs before hval hW hcnd hsz _
  exact contract H enc W base args ds gs before hval hW hsz

theorem over : Rows.linesMeetRow.holds Try.pinned (OpenSpec.ofChange Rows.linesMeetSpec) :=
  OpenClaim.holds_of_wide 5 Try.f5 rfl rfl rfl rfl rfl rfl rfl ⟨rfl, rfl, rfl, rfl, rfl⟩ rfl rfl rfl rfl rfl (by kernel_rfl) Try.func5 (by kernel_rfl)
    (of_decide_eq_true (by kernel_rfl)) (by unfold Func.isWrapper; first | (rw [if_pos (by decide +kernel)]; kernel_rfl) | (rw [if_neg (by decide +kernel)]; exact ⟨rfl, rfl⟩))
    (fun os started H enc _ => lifted os started H enc)

theorem proved : Rows.LinesMeetSaid := over

end Go.Proofs.Ytbcncedgfafpiaa.linesMeet
