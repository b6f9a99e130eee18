/-
  EditStays: all pieces of a text that end at or ahead of an edit, but its last one, are ahead of its margin, and each piece outside of it is one of the pieces of the text ahead: for any cutter, any text, any edit.
  Conditions: none.
-/
import Derived.Test.YtcmlcpejlmlcfaaEdtAlive
import Derived.Test.YtcmlcpejlmlcfaaEdtArg
import Derived.Test.YtcmlcpejlmlcfaaEdtMgP
import Derived.BigQuiet
import Derived.StillTailTactics
import Derived.ProofKit
import Derived.OpenShut
import Derived.ShutString
import Derived.ChangeOld
import Derived.SizedLaws
namespace Go.Proofs.Ytcmlcpejlmlcfaa.editStays
open Go.ChangeShapes Go.WideShapes Go.ChangeAt Go.RowKit
open Go.ChangeMaps (open_string shut_string)
set_option linter.unusedVariables false
set_option maxRecDepth 100000

theorem own : ownKnob Try.prog.godebug = none := by kernel_rfl
theorem laidOut : laidOutB Try.prog = true := by kernel_rfl
theorem nothing (s : ByteArray) (h : s.size = 0) : s = ⟨#[]⟩ := by
  obtain ⟨a⟩ := s
  rw [Array.eq_empty_of_size_eq_zero (show a.size = 0 from h)]

set_option maxHeartbeats 4000000 in
theorem walk (c : Ctr) (s : ByteArray) (e : Ed) (w : World) (wc : c.Wf) (zs : s.size ≤ 140737488351232) (hw : e.Wf) (zp : e.p.size ≤ 140737488351232) :
    Calls Try.prog 6 #[c.v, .string s, e.v] w fun x w' => x = .returned (.bool true) ∧ Below w.heap.size w w' := by
  obtain ⟨u0, hu0⟩ : ∃ u0, (w.alloc (.cells #[.int .u64 c.p, .int .i64 c.n, .int .i64 c.mn, .int .i64 c.mx, .int .i64 c.b] 38)).alloc (.cells #[.int .i64 e.a, .int .i64 e.c, .string e.p] 23) = u0 := ⟨_, rfl⟩
  have hbw : Below w.heap.size w u0 := by rw [← hu0]; exact (box_below w _).alloc (by simp) _
  have hcx : CtrAt c w.heap.size u0 := by rw [← hu0]; exact row_alloc (CtrAt.box c w) _
  have hex : EdAt (w.heap.size + 1) e u0 := by
    rw [← hu0]
    have := EdAt.box e (w.alloc (.cells #[.int .u64 c.p, .int .i64 c.n, .int .i64 c.mn, .int .i64 c.mx, .int .i64 c.b] 38))
    rw [World.size_alloc] at this; exact this
  have d0 := hcx.c0
  have d1 := hcx.c1
  have d2 := hcx.c2
  have d3 := hcx.c3
  have d4 := hcx.c4
  have e0 := hex.c0
  have e1 := hex.c1
  have e2 := hex.c2
  have Hb0 := Lib.hid hbw; clear hbw
  have Hcx0 := Lib.hid hcx; clear hcx
  have Hex0 := Lib.hid hex; clear hex
  have Hu0 := Lib.hid hu0; clear hu0
  have w1 : IntKind.i64.wrap ((s.size : Int) + (e.p.size : Int)) = (s.size : Int) + (e.p.size : Int) := by simp only [IntKind.wrap_i64]; omega
  by_cases hl : 1500 < s.size + e.p.size
  · have hd : decide ((1500 : Int) < (s.size : Int) + (e.p.size : Int)) = true := decide_eq_true (by omega)
    have HB := Lib.hid Hb0.out
    unfold Ctr.v Ed.v
    go_enter Try.func6, Try.ntmps6
    go_wp2_with fail
    rw [Hu0.out]
    go_wp2_with fail
    refine (edtAlive_any _).mono ?_; rintro e wz ⟨rfl, hz⟩
    have Hbz := Lib.hid (HB.out.trans (hz.mono HB.out.size)); clear hz
    go_wp2_with fail
    go_ret
    exact ⟨rfl, Hbz.out⟩
  have hd : decide ((1500 : Int) < (s.size : Int) + (e.p.size : Int)) = false := decide_eq_false (by omega)
  have c1 := fun u => apply_any s (by omega) e hw (by omega) u
  have c2 := fun u => margin_any c wc.p s e hw ⟨by omega, by omega⟩ (by omega) u
  have c3 := fun u => ltexts_any c wc.p s (by omega) u
  by_cases hm : e.May s.size
  · simp only [if_pos hm] at c1
    have hos := Ed.on_size hm
    have hbeg := Edt.on_begin hm
    have c4 := fun u => ltexts_any c wc.p (e.on s) (by omega) u
    by_cases hc : c.May
    · simp only [if_pos hc] at c3 c4
      have hR : MgR c s e = .tuple #[.int .i64 (mg1 c s (e.on s) : Nat), .int .i64 (mg2 c s (e.on s) : Nat), .int .i64 0] := if_pos ⟨hm, hc⟩
      rw [hR] at c2
      have hMg := Edt.mgF c s (e.on s)
      have hkeep := fun k hk h1 => Edt.mg1_keeps hc hbeg.1 hbeg.2.1 hbeg.2.2 k hk h1
      have htA := Ctr.atot_le hc s
      have hlA := atexts_le hc s
      have hlB := atexts_le hc (e.on s)
      obtain ⟨i, hi⟩ : ∃ i : Nat, e.a = (i : Int) := ⟨e.a.toNat, by have := hm.1; omega⟩
      rw [hi, Int.toNat_natCast] at hkeep
      simp only [hi] at c1 e0 e1 e2
      clear hR hbeg hm hc hw
      unfold TxR at c3 c4
      generalize mg1 c s (e.on s) = P at *
      generalize mg2 c s (e.on s) = L at *
      generalize c.atexts s = A at *
      generalize c.atexts (e.on s) = B at *
      generalize e.on s = T at *
      obtain ⟨n1, hn1⟩ : ∃ n1, n1 = A.length := ⟨_, rfl⟩
      obtain ⟨n2, hn2⟩ : ∃ n2, n2 = B.length := ⟨_, rfl⟩
      have hle := hMg.le
      rw [← hn2] at hle
      rw [← hn1] at hkeep hlA
      rw [← hn2] at hlB
      simp only [← hn1] at c3
      simp only [← hn2] at c4
      have hzA : ∀ k, k ≤ A.length → tot A k ≤ 1500 := fun k hk => by have := htA k hk; omega
      have p1 : decide ((P : Int) < 0) = false := decide_eq_false (by omega)
      have p2 : decide (L < P) = false := decide_eq_false (by omega)
      have p3 : decide ((L : Int) < (P : Int)) = false := decide_eq_false (by omega)
      have p4 : decide (n2 < L) = false := decide_eq_false (by omega)
      have p5 : decide ((n2 : Int) < (L : Int)) = false := decide_eq_false (by omega)
      unfold Ctr.v Ed.v at *
      simp only [hi] at c1 c2 ⊢
      have C1 := Lib.hid c1; clear c1
      have C2 := Lib.hid c2; clear c2
      have C3 := Lib.hid c3; clear c3
      have C4 := Lib.hid c4; clear c4
      have HMg := Lib.hid hMg; clear hMg
      have Hkeep := Lib.hid hkeep; clear hkeep
      have HtA := Lib.hid hzA; clear hzA htA
      have Hn1 := Lib.hid hn1; clear hn1
      have Hn2 := Lib.hid hn2; clear hn2
      obtain ⟨ea, ec, ep⟩ := e
      simp only at hi
      subst hi
      simp only at *
      clear hle
      go_enter Try.func6, Try.ntmps6
      go_wp2_with fail
      rw [Hu0.out]
      go_wp2_with fail
      refine (C1.out _).mono ?_; rintro z w1 ⟨rfl, h1⟩
      have hcx1 := Hcx0.out.new h1
      have hex1 := Hex0.out.new h1
      have hb1 := Hb0.out.trans (h1.mono Hb0.out.size)
      clear d0 d1 d2 d3 d4 e0 e1 e2
      have d0 := hcx1.c0
      have d1 := hcx1.c1
      have d2 := hcx1.c2
      have d3 := hcx1.c3
      have d4 := hcx1.c4
      have e0 := hex1.c0
      have e1 := hex1.c1
      have e2 := hex1.c2
      have Hcx1 := Lib.hid hcx1; clear hcx1
      have Hex1 := Lib.hid hex1; clear hex1
      have Hb1 := Lib.hid hb1; clear hb1 h1
      go_wp2_with fail
      refine (C2.out _).mono ?_; rintro z w2 ⟨rfl, h2⟩
      have hcx2 := Hcx1.out.new h2
      have hex2 := Hex1.out.new h2
      have hb2 := Hb1.out.trans (h2.mono Hb1.out.size)
      clear d0 d1 d2 d3 d4 e0 e1 e2
      have d0 := hcx2.c0
      have d1 := hcx2.c1
      have d2 := hcx2.c2
      have d3 := hcx2.c3
      have d4 := hcx2.c4
      have e0 := hex2.c0
      have e1 := hex2.c1
      have e2 := hex2.c2
      have Hcx2 := Lib.hid hcx2; clear hcx2
      have Hex2 := Lib.hid hex2; clear hex2
      have Hb2 := Lib.hid hb2; clear hb2 h2
      go_wp2_with fail
      refine (C3.out _).mono ?_; rintro z w3 ⟨h3, gb3, hg3, rfl, hr3⟩
      have hcx3 := Hcx2.out.new h3
      have hex3 := Hex2.out.new h3
      have hb3 := Hb2.out.trans (h3.mono Hb2.out.size)
      clear d0 d1 d2 d3 d4 e0 e1 e2
      have d0 := hcx3.c0
      have d1 := hcx3.c1
      have d2 := hcx3.c2
      have d3 := hcx3.c3
      have d4 := hcx3.c4
      have e0 := hex3.c0
      have e1 := hex3.c1
      have e2 := hex3.c2
      have Hcx3 := Lib.hid hcx3; clear hcx3
      have Hex3 := Lib.hid hex3; clear hex3
      have Hb3 := Lib.hid hb3; clear hb3 h3
      have HA3 := Lib.hid (SRd.made hr3); clear hr3 hg3
      go_wp2_with fail
      refine (C4.out _).mono ?_; rintro z w4 ⟨h4, gb4, hg4, rfl, hr4⟩
      have hcx4 := Hcx3.out.new h4
      have hex4 := Hex3.out.new h4
      have hb4 := Hb3.out.trans (h4.mono Hb3.out.size)
      have HA4 := Lib.hid (HA3.out.new h4)
      clear d0 d1 d2 d3 d4 e0 e1 e2
      have d0 := hcx4.c0
      have d1 := hcx4.c1
      have d2 := hcx4.c2
      have d3 := hcx4.c3
      have d4 := hcx4.c4
      have e0 := hex4.c0
      have e1 := hex4.c1
      have e2 := hex4.c2
      have Hcx4 := Lib.hid hcx4; clear hcx4
      have Hex4 := Lib.hid hex4; clear hex4
      have Hb4 := Lib.hid hb4; clear hb4 h4
      have HBB := Lib.hid (SRd.made hr4); clear hr4 hg4
      obtain ⟨aA, cA, hvA, hcA, hfA⟩ := HA4.out
      obtain ⟨aB, cB, hvB, hcB, hfB⟩ := HBB.out
      rw [← Hn1.out] at hvA hcA hfA
      rw [← Hn2.out] at hvB hcB hfB
      injection hvA with qa1 qa2 qa3
      subst qa1
      subst qa3
      injection hvB with qb1 qb2 qb3
      subst qb1
      subst qb3
      clear qa2 qb2 hcA hcB
      have HfA := Lib.hid hfA; clear hfA
      have HfB := Lib.hid hfB; clear hfB
      have HAt := Lib.hid HA4.out
      go_wp2_with fail
      go_loopw [16, 17] (fun x y wr => ∃ k : Nat, (k = 0 ∨ k + 1 ≤ n1) ∧ x = .int .i64 (tot A k : Nat) ∧ y = .int .i64 (k : Int) ∧ Below w4.heap.size w4 wr) (fun _ y _ => n1 - (intOf y).toNat)
      case atStart => exact ⟨0, .inl rfl, rfl, rfl, Below.refl _ _⟩
      case round =>
        clear d0 d1 d2 d3 d4 e0 e1 e2
        obtain ⟨k, hk, rfl, rfl, hb⟩ := hrel
        have wk : IntKind.i64.wrap ((k : Int) + 1) = (k : Int) + 1 := by simp only [IntKind.wrap_i64]; omega
        by_cases hlt : k + 1 < n1
        · have g1 : decide (k + 1 < n1) = true := decide_eq_true hlt
          have g2 : decide ((k : Int) + 1 < (n1 : Int)) = true := decide_eq_true (by omega)
          obtain ⟨bA, hbA, dA⟩ := HfA.out k (by omega)
          injection hbA with hbA
          injection hbA with hbA _ _
          subst hbA
          have f1 : wr.cell? ⟨gb3, k, none⟩ = some (.string (A.getD k .empty)) := by rw [hb.cell (p := ⟨gb3, k, none⟩) (cell_lt dA)]; exact dA
          have hsu := tot_succ A k (by have := Hn1.out; omega)
          have htl := HtA.out (k + 1) (by have := Hn1.out; omega)
          have htk := HtA.out k (by have := Hn1.out; omega)
          have hkp := Hkeep.out k hlt
          have hhd := HMg.out.head k
          have hex5 := (Hex4.out.new hb).c0
          simp only at hex5
          obtain ⟨X, hX⟩ : ∃ X, A.getD k .empty = X := ⟨_, rfl⟩
          rw [hX] at f1 hsu hhd
          have hs1 : ((tot A (k + 1) : Nat) : Int) = (tot A k : Nat) + (X.size : Int) := by rw [hsu]; omega
          obtain ⟨y, hy⟩ : ∃ y, tot A (k + 1) = y := ⟨_, rfl⟩
          rw [hy] at hkp hs1 hsu htl
          have hys : IntKind.i64.wrap ((tot A k : Nat) + (X.size : Int)) = (y : Int) := by simp only [IntKind.wrap_i64]; omega
          have Hs1 := Lib.hid hs1; clear hs1
          have Hy := Lib.hid hy; clear hy hX
          generalize tot A k = q at *
          have Hb := Lib.hid hb; clear hb
          by_cases hle : y ≤ i
          · have g3 : decide (y ≤ i) = true := decide_eq_true hle
            have hkP := hkp hle
            obtain ⟨hh1, hh2⟩ := hhd hkP
            have g4 : decide (P ≤ k) = false := decide_eq_false (by omega)
            have g5 : decide ((P : Int) ≤ (k : Int)) = false := decide_eq_false (by omega)
            obtain ⟨bB, hbB, dB⟩ := HfB.out k (by have := HMg.out.le; have := Hn2.out; omega)
            injection hbB with hbB
            injection hbB with hbB _ _
            subst hbB
            have f2 : wr.cell? ⟨gb4, k, none⟩ = some (.string X) := by rw [Hb.out.cell (p := ⟨gb4, k, none⟩) (cell_lt dB), hh2]; exact dB
            have qX : (X.toList == X.toList) = true := by simp
            have kB : k < n2 := by have := HMg.out.le; have := Hn2.out; omega
            have kA : k < n1 := by omega
            clear dA dB hhd hkp hh1 hh2 hkP hsu
            go_wp2_with fail
            go_quiet (fail)
            go_wp2_with fail
            go_roundw
            case rel => exact ⟨k + 1, .inr (by omega), by rw [Hy.out], by go_num, drewN_below Hb.out _⟩
            case measure => simp [intOf]; omega
          · have g3 : decide (y ≤ i) = false := decide_eq_false hle
            have g4 : decide ((y : Int) ≤ (i : Int)) = false := decide_eq_false (by omega)
            have kA : k < n1 := by omega
            clear dA hhd hkp hsu
            go_wp2_with fail
            go_quiet (fail)
            go_wp2_with fail
            go_roundw
            case rel => exact ⟨k + 1, .inr (by omega), by rw [Hy.out], by go_num, drewN_below Hb.out _⟩
            case measure => simp [intOf]; omega
        · have g1 : decide (k + 1 < n1) = false := decide_eq_false hlt
          have g2 : decide ((k : Int) + 1 < (n1 : Int)) = false := decide_eq_false (by omega)
          have Hb5 := Lib.hid hb; clear hb
          generalize wr = wm at *
          generalize tot A k = q at *
          go_wp2_with fail
          go_loopw [18] (fun x wr => ∃ j : Nat, j ≤ n2 ∧ x = .int .i64 (j : Int) ∧ Below wm.heap.size wm wr) (fun x _ => n2 - (intOf x).toNat)
          case atStart => exact ⟨0, Nat.zero_le _, rfl, Below.refl _ _⟩
          case round =>
            clear g1 g2
            obtain ⟨j, hj, rfl, hb⟩ := hrel
            have hle := HMg.out.le
            have hn2 := Hn2.out
            rw [← hn2] at hle
            by_cases hlj : j < n2
            · have g1 : decide (j < n2) = true := decide_eq_true hlj
              have g2 : (j : Int) < (n2 : Int) := by omega
              have hbe := Hb5.out.trans (hb.mono Hb5.out.size)
              obtain ⟨bB, hbB, dB⟩ := HfB.out j hlj
              injection hbB with hbB
              injection hbB with hbB _ _
              subst hbB
              have f2 : wr.cell? ⟨gb4, j, none⟩ = some (.string (B.getD j .empty)) := by rw [hbe.cell (p := ⟨gb4, j, none⟩) (cell_lt dB)]; exact dB
              rcases (by omega : j < P ∨ (P ≤ j ∧ j < L) ∨ (P ≤ j ∧ L ≤ j)) with c1 | ⟨c1, c2⟩ | ⟨c1, c2⟩
              · have a1 : decide (P ≤ j) = false := decide_eq_false (by omega)
                have a2 : decide ((P : Int) ≤ (j : Int)) = false := decide_eq_false (by omega)
                have a3 : decide (L ≤ j) = false := decide_eq_false (by omega)
                have a4 : decide ((L : Int) ≤ (j : Int)) = false := decide_eq_false (by omega)
                obtain ⟨hh1, hh2⟩ := HMg.out.head j c1
                rw [← Hn1.out] at hh1
                obtain ⟨bA, hbA, dA⟩ := HfA.out j hh1
                injection hbA with hbA
                injection hbA with hbA _ _
                subst hbA
                have f1 : wr.cell? ⟨gb3, j, none⟩ = some (.string (B.getD j .empty)) := by rw [hbe.cell (p := ⟨gb3, j, none⟩) (cell_lt dA), ← hh2]; exact dA
                generalize B.getD j .empty = X at *
                have qX : (X.toList == X.toList) = true := by simp
                have a5 : decide ((j : Int) < 0) = false := decide_eq_false (by omega)
                have a6 : decide (n1 ≤ j) = false := decide_eq_false (by omega)
                have a7 : decide ((n1 : Int) ≤ (j : Int)) = false := decide_eq_false (by omega)
                have Hb := Lib.hid hb; clear hb
                clear dA dB hh2 c1 hbe hn2 hle
                go_wp2_with fail
                go_quiet (fail)
                go_wp2_with fail
                go_roundw
                case rel => exact ⟨j + 1, by omega, by go_num, drewN_below Hb.out _⟩
                case measure => simp [intOf]; omega
              · have a1 : decide (P ≤ j) = true := decide_eq_true c1
                have a2 : decide ((P : Int) ≤ (j : Int)) = true := decide_eq_true (by omega)
                have a3 : decide (j < L) = true := decide_eq_true c2
                have a4 : decide ((j : Int) < (L : Int)) = true := decide_eq_true (by omega)
                have Hb := Lib.hid hb; clear hb
                clear dB hbe hn2 hle f2
                go_wp2_with fail
                go_roundw
                case rel => exact ⟨j + 1, by omega, by go_num, Hb.out⟩
                case measure => simp [intOf]; omega
              · have a1 : decide (P ≤ j) = true := decide_eq_true c1
                have a2 : decide ((P : Int) ≤ (j : Int)) = true := decide_eq_true (by omega)
                have a3 : decide (j < L) = false := decide_eq_false (by omega)
                have a4 : decide ((j : Int) < (L : Int)) = false := decide_eq_false (by omega)
                have a8 : decide (L ≤ j) = true := decide_eq_true c2
                have a9 : decide ((L : Int) ≤ (j : Int)) = true := decide_eq_true (by omega)
                obtain ⟨hh1, hh2⟩ := HMg.out.tail j c2 (by omega)
                rw [← Hn1.out, ← hn2] at hh1
                rw [← Hn1.out, ← hn2] at hh2
                obtain ⟨r, hr⟩ : ∃ r, n1 - (n2 - j) = r := ⟨_, rfl⟩
                rw [hr] at hh2
                have hrl : r < n1 := by omega
                obtain ⟨bA, hbA, dA⟩ := HfA.out r hrl
                injection hbA with hbA
                injection hbA with hbA _ _
                subst hbA
                have f1 : wr.cell? ⟨gb3, r, none⟩ = some (.string (B.getD j .empty)) := by rw [hbe.cell (p := ⟨gb3, r, none⟩) (cell_lt dA), ← hh2]; exact dA
                generalize B.getD j .empty = X at *
                have qX : (X.toList == X.toList) = true := by simp
                have v1 : IntKind.i64.wrap ((n2 : Int) - (j : Int)) = (n2 : Int) - (j : Int) := by simp only [IntKind.wrap_i64]; omega
                have v2 : IntKind.i64.wrap ((n1 : Int) - ((n2 : Int) - (j : Int))) = (r : Int) := by simp only [IntKind.wrap_i64]; omega
                have a5 : decide ((r : Int) < 0) = false := decide_eq_false (by omega)
                have a6 : decide (n1 ≤ r) = false := decide_eq_false (by omega)
                have a7 : decide ((n1 : Int) ≤ (r : Int)) = false := decide_eq_false (by omega)
                have Hb := Lib.hid hb; clear hb
                clear dA dB hh2 hbe hn2 hle hr hh1 c1 c2
                go_wp2_with fail
                go_quiet (fail)
                go_wp2_with fail
                go_roundw
                case rel => exact ⟨j + 1, by omega, by go_num, drewN_below Hb.out _⟩
                case measure => simp [intOf]; omega
            · have g1 : decide (j < n2) = false := decide_eq_false hlj
              have HB := Lib.hid (Hb4.out.trans ((Hb5.out.trans (hb.mono Hb5.out.size)).mono Hb4.out.size)); clear hb
              clear hle hn2
              go_wp2_with fail
              refine (edtAlive_any _).mono ?_; rintro e wz ⟨rfl, hz⟩
              have Hbz := Lib.hid (HB.out.trans (hz.mono HB.out.size)); clear hz
              go_wp2_with fail
              go_ret
              exact ⟨rfl, Hbz.out⟩
    · simp only [if_neg hc] at c3 c4
      have hR : MgR c s e = .tuple #[.int .i64 0, .int .i64 0, .int .i64 2] := if_neg (fun h => hc h.2)
      rw [hR] at c2
      generalize e.on s = T at *
      clear hR hbeg hm hc hw
      unfold Ctr.v Ed.v at *
      have C1 := Lib.hid c1; clear c1
      have C2 := Lib.hid c2; clear c2
      have C3 := Lib.hid c3; clear c3
      have C4 := Lib.hid c4; clear c4
      go_enter Try.func6, Try.ntmps6
      go_wp2_with fail
      rw [Hu0.out]
      go_wp2_with fail
      refine (C1.out _).mono ?_; rintro z w1 ⟨rfl, h1⟩
      have hcx1 := Hcx0.out.new h1
      have hex1 := Hex0.out.new h1
      have hb1 := Hb0.out.trans (h1.mono Hb0.out.size)
      clear d0 d1 d2 d3 d4 e0 e1 e2
      have d0 := hcx1.c0
      have d1 := hcx1.c1
      have d2 := hcx1.c2
      have d3 := hcx1.c3
      have d4 := hcx1.c4
      have e0 := hex1.c0
      have e1 := hex1.c1
      have e2 := hex1.c2
      have Hcx1 := Lib.hid hcx1; clear hcx1
      have Hex1 := Lib.hid hex1; clear hex1
      have Hb1 := Lib.hid hb1; clear hb1 h1
      go_wp2_with fail
      refine (C2.out _).mono ?_; rintro z w2 ⟨rfl, h2⟩
      have hcx2 := Hcx1.out.new h2
      have hex2 := Hex1.out.new h2
      have hb2 := Hb1.out.trans (h2.mono Hb1.out.size)
      clear d0 d1 d2 d3 d4 e0 e1 e2
      have d0 := hcx2.c0
      have d1 := hcx2.c1
      have d2 := hcx2.c2
      have d3 := hcx2.c3
      have d4 := hcx2.c4
      have e0 := hex2.c0
      have e1 := hex2.c1
      have e2 := hex2.c2
      have Hcx2 := Lib.hid hcx2; clear hcx2
      have Hex2 := Lib.hid hex2; clear hex2
      have Hb2 := Lib.hid hb2; clear hb2 h2
      go_wp2_with fail
      refine (C3.out _).mono ?_; rintro z w3 ⟨h3, rfl⟩
      have hcx3 := Hcx2.out.new h3
      have hex3 := Hex2.out.new h3
      have hb3 := Hb2.out.trans (h3.mono Hb2.out.size)
      clear d0 d1 d2 d3 d4 e0 e1 e2
      have d0 := hcx3.c0
      have d1 := hcx3.c1
      have d2 := hcx3.c2
      have d3 := hcx3.c3
      have d4 := hcx3.c4
      have e0 := hex3.c0
      have e1 := hex3.c1
      have e2 := hex3.c2
      have Hcx3 := Lib.hid hcx3; clear hcx3
      have Hex3 := Lib.hid hex3; clear hex3
      have Hb3 := Lib.hid hb3; clear hb3 h3
      go_wp2_with fail
      refine (C4.out _).mono ?_; rintro z w4 ⟨h4, rfl⟩
      have hcx4 := Hcx3.out.new h4
      have hex4 := Hex3.out.new h4
      have hb4 := Hb3.out.trans (h4.mono Hb3.out.size)
      clear d0 d1 d2 d3 d4 e0 e1 e2
      have d0 := hcx4.c0
      have d1 := hcx4.c1
      have d2 := hcx4.c2
      have d3 := hcx4.c3
      have d4 := hcx4.c4
      have e0 := hex4.c0
      have e1 := hex4.c1
      have e2 := hex4.c2
      have Hcx4 := Lib.hid hcx4; clear hcx4
      have Hex4 := Lib.hid hex4; clear hex4
      have Hb4 := Lib.hid hb4; clear hb4 h4
      have HB := Lib.hid Hb4.out
      clear d0 d1 d2 d3 d4 e0 e1 e2
      go_wp2_with fail
      refine (edtAlive_any _).mono ?_; rintro e wz ⟨rfl, hz⟩
      have Hbz := Lib.hid (HB.out.trans (hz.mono HB.out.size)); clear hz
      go_wp2_with fail
      go_ret
      exact ⟨rfl, Hbz.out⟩
  · simp only [if_neg hm] at c1
    have hR : MgR c s e = .tuple #[.int .i64 0, .int .i64 0, .int .i64 2] := if_neg (fun h => hm h.1)
    rw [hR] at c2
    have c4 := fun u => ltexts_any c wc.p ⟨#[]⟩ (by decide +kernel) u
    clear hR hm hw
    by_cases hc : c.May
    · simp only [if_pos hc] at c3 c4
      unfold TxR at c3 c4
      unfold Ctr.v Ed.v at *
      have C1 := Lib.hid c1; clear c1
      have C2 := Lib.hid c2; clear c2
      have C3 := Lib.hid c3; clear c3
      have C4 := Lib.hid c4; clear c4
      go_enter Try.func6, Try.ntmps6
      go_wp2_with fail
      rw [Hu0.out]
      go_wp2_with fail
      refine (C1.out _).mono ?_; rintro z w1 ⟨rfl, h1⟩
      have hcx1 := Hcx0.out.new h1
      have hex1 := Hex0.out.new h1
      have hb1 := Hb0.out.trans (h1.mono Hb0.out.size)
      clear d0 d1 d2 d3 d4 e0 e1 e2
      have d0 := hcx1.c0
      have d1 := hcx1.c1
      have d2 := hcx1.c2
      have d3 := hcx1.c3
      have d4 := hcx1.c4
      have e0 := hex1.c0
      have e1 := hex1.c1
      have e2 := hex1.c2
      have Hcx1 := Lib.hid hcx1; clear hcx1
      have Hex1 := Lib.hid hex1; clear hex1
      have Hb1 := Lib.hid hb1; clear hb1 h1
      go_wp2_with fail
      refine (C2.out _).mono ?_; rintro z w2 ⟨rfl, h2⟩
      have hcx2 := Hcx1.out.new h2
      have hex2 := Hex1.out.new h2
      have hb2 := Hb1.out.trans (h2.mono Hb1.out.size)
      clear d0 d1 d2 d3 d4 e0 e1 e2
      have d0 := hcx2.c0
      have d1 := hcx2.c1
      have d2 := hcx2.c2
      have d3 := hcx2.c3
      have d4 := hcx2.c4
      have e0 := hex2.c0
      have e1 := hex2.c1
      have e2 := hex2.c2
      have Hcx2 := Lib.hid hcx2; clear hcx2
      have Hex2 := Lib.hid hex2; clear hex2
      have Hb2 := Lib.hid hb2; clear hb2 h2
      go_wp2_with fail
      refine (C3.out _).mono ?_; rintro z w3 ⟨h3, gb3, hg3, rfl, hr3⟩
      have hcx3 := Hcx2.out.new h3
      have hex3 := Hex2.out.new h3
      have hb3 := Hb2.out.trans (h3.mono Hb2.out.size)
      clear d0 d1 d2 d3 d4 e0 e1 e2
      have d0 := hcx3.c0
      have d1 := hcx3.c1
      have d2 := hcx3.c2
      have d3 := hcx3.c3
      have d4 := hcx3.c4
      have e0 := hex3.c0
      have e1 := hex3.c1
      have e2 := hex3.c2
      have Hcx3 := Lib.hid hcx3; clear hcx3
      have Hex3 := Lib.hid hex3; clear hex3
      have Hb3 := Lib.hid hb3; clear hb3 h3
      go_wp2_with fail
      refine (C4.out _).mono ?_; rintro z w4 ⟨h4, gb4, hg4, rfl, hr4⟩
      have hcx4 := Hcx3.out.new h4
      have hex4 := Hex3.out.new h4
      have hb4 := Hb3.out.trans (h4.mono Hb3.out.size)
      clear d0 d1 d2 d3 d4 e0 e1 e2
      have d0 := hcx4.c0
      have d1 := hcx4.c1
      have d2 := hcx4.c2
      have d3 := hcx4.c3
      have d4 := hcx4.c4
      have e0 := hex4.c0
      have e1 := hex4.c1
      have e2 := hex4.c2
      have Hcx4 := Lib.hid hcx4; clear hcx4
      have Hex4 := Lib.hid hex4; clear hex4
      have Hb4 := Lib.hid hb4; clear hb4 h4
      have HB := Lib.hid Hb4.out
      clear d0 d1 d2 d3 d4 e0 e1 e2
      go_wp2_with fail
      refine (edtAlive_any _).mono ?_; rintro e wz ⟨rfl, hz⟩
      have Hbz := Lib.hid (HB.out.trans (hz.mono HB.out.size)); clear hz
      go_wp2_with fail
      go_ret
      exact ⟨rfl, Hbz.out⟩
    · simp only [if_neg hc] at c3 c4
      unfold Ctr.v Ed.v at *
      have C1 := Lib.hid c1; clear c1
      have C2 := Lib.hid c2; clear c2
      have C3 := Lib.hid c3; clear c3
      have C4 := Lib.hid c4; clear c4
      go_enter Try.func6, Try.ntmps6
      go_wp2_with fail
      rw [Hu0.out]
      go_wp2_with fail
      refine (C1.out _).mono ?_; rintro z w1 ⟨rfl, h1⟩
      have hcx1 := Hcx0.out.new h1
      have hex1 := Hex0.out.new h1
      have hb1 := Hb0.out.trans (h1.mono Hb0.out.size)
      clear d0 d1 d2 d3 d4 e0 e1 e2
      have d0 := hcx1.c0
      have d1 := hcx1.c1
      have d2 := hcx1.c2
      have d3 := hcx1.c3
      have d4 := hcx1.c4
      have e0 := hex1.c0
      have e1 := hex1.c1
      have e2 := hex1.c2
      have Hcx1 := Lib.hid hcx1; clear hcx1
      have Hex1 := Lib.hid hex1; clear hex1
      have Hb1 := Lib.hid hb1; clear hb1 h1
      go_wp2_with fail
      refine (C2.out _).mono ?_; rintro z w2 ⟨rfl, h2⟩
      have hcx2 := Hcx1.out.new h2
      have hex2 := Hex1.out.new h2
      have hb2 := Hb1.out.trans (h2.mono Hb1.out.size)
      clear d0 d1 d2 d3 d4 e0 e1 e2
      have d0 := hcx2.c0
      have d1 := hcx2.c1
      have d2 := hcx2.c2
      have d3 := hcx2.c3
      have d4 := hcx2.c4
      have e0 := hex2.c0
      have e1 := hex2.c1
      have e2 := hex2.c2
      have Hcx2 := Lib.hid hcx2; clear hcx2
      have Hex2 := Lib.hid hex2; clear hex2
      have Hb2 := Lib.hid hb2; clear hb2 h2
      go_wp2_with fail
      refine (C3.out _).mono ?_; rintro z w3 ⟨h3, rfl⟩
      have hcx3 := Hcx2.out.new h3
      have hex3 := Hex2.out.new h3
      have hb3 := Hb2.out.trans (h3.mono Hb2.out.size)
      clear d0 d1 d2 d3 d4 e0 e1 e2
      have d0 := hcx3.c0
      have d1 := hcx3.c1
      have d2 := hcx3.c2
      have d3 := hcx3.c3
      have d4 := hcx3.c4
      have e0 := hex3.c0
      have e1 := hex3.c1
      have e2 := hex3.c2
      have Hcx3 := Lib.hid hcx3; clear hcx3
      have Hex3 := Lib.hid hex3; clear hex3
      have Hb3 := Lib.hid hb3; clear hb3 h3
      go_wp2_with fail
      refine (C4.out _).mono ?_; rintro z w4 ⟨h4, rfl⟩
      have hcx4 := Hcx3.out.new h4
      have hex4 := Hex3.out.new h4
      have hb4 := Hb3.out.trans (h4.mono Hb3.out.size)
      clear d0 d1 d2 d3 d4 e0 e1 e2
      have d0 := hcx4.c0
      have d1 := hcx4.c1
      have d2 := hcx4.c2
      have d3 := hcx4.c3
      have d4 := hcx4.c4
      have e0 := hex4.c0
      have e1 := hex4.c1
      have e2 := hex4.c2
      have Hcx4 := Lib.hid hcx4; clear hcx4
      have Hex4 := Lib.hid hex4; clear hex4
      have Hb4 := Lib.hid hb4; clear hb4 h4
      have HB := Lib.hid Hb4.out
      clear d0 d1 d2 d3 d4 e0 e1 e2
      go_wp2_with fail
      refine (edtAlive_any _).mono ?_; rintro e wz ⟨rfl, hz⟩
      have Hbz := Lib.hid (HB.out.trans (hz.mono HB.out.size)); clear hz
      go_wp2_with fail
      go_ret
      exact ⟨rfl, Hbz.out⟩
theorem contract (H : Type) (enc : TypeId × Value → H) (W : World) (base : Nat) (args : Array Value) (ds gs : List (DataW H)) (before : List MemPlace)
    (hval : ∀ (j : Nat) t v, Try.f6.params[j]? = some t → args[j]? = some v → Value.okWide Try.prog W .any base t v)
    (hW : DataW.Whole enc Try.prog Try.f6.params.toList Rows.editStaysSpec.vars false W args.toList ds gs before)
    (hsz : (DataW.weightsEach Try.prog (Try.f6.params.toList ++ Rows.editStaysSpec.plain.varTypes Try.prog) (ds ++ gs)).all (· ≤ reachBytes) = true) :
    Calls Try.prog 6 args W fun e W' => ∃ v, e = .returned v ∧ Rows.editStaysSpec.post enc Try.prog Try.f6 false true false false W args v W' := by
  have hW' := hW
  obtain ⟨p, q, hA0, hV, rfl, hfz, hnd⟩ := hW
  have hA : DataW.TrodAll enc Try.prog W 0 (fun _ => true) true Try.f6.params.toList args.toList ds p := hA0
  rw [Try.params6] at hA hval hsz
  obtain ⟨v0, vs0, d0, ds0, p0, q0, hargs, rfl, rfl, h0, r0⟩ := trodAll_cons hA
  obtain ⟨v1, vs1, d1, ds1, p1, q1, rfl, rfl, rfl, h1, r1⟩ := trodAll_cons r0
  obtain ⟨v2, vs2, d2, ds2, p2, q2, rfl, rfl, rfl, h2, r2⟩ := trodAll_cons r1
  obtain ⟨rfl, rfl, rfl⟩ := trodAll_nil r2
  obtain rfl : args = #[v0, v1, v2] := Array.ext' hargs
  obtain ⟨rfl, rfl⟩ := trodVars_none hV
  have k0 := h0
  have lt0 : ∀ x ∈ p0, x.block < W.heap.size := by obtain ⟨m, hm⟩ := k0; exact DataW.trod_lt m _ _ _ hm
  obtain ⟨c0, rfl, wc0⟩ := open_cutter Try.underlying38 rfl rfl rfl rfl rfl Try.underlying36 Try.underlying3 (by kernel_rfl) (by kernel_rfl) (hval 0 38 v0 rfl rfl) h0
  obtain ⟨s1, rfl, rfl, rfl, m1⟩ := open_string Try.underlying9 (hval 1 9 v1 rfl rfl) h1
  have k2 := h2
  have lt2 : ∀ x ∈ p2, x.block < W.heap.size := by obtain ⟨m, hm⟩ := k2; exact DataW.trod_lt m _ _ _ hm
  obtain ⟨e2, rfl, we2, ze2⟩ := open_edit Try.underlying23 rfl rfl rfl Try.underlying3 Try.underlying9 (by kernel_rfl) (by kernel_rfl) (hval 2 23 v2 rfl rfl) h2 (fun n hn => by
    have := List.all_eq_true.1 hsz n (by
      simp only [List.cons_append, DataW.weightsEach]
      exact List.mem_append_right _ (List.mem_append_right _ (List.mem_append_left _ hn)))
    simpa using this)
  clear hA0
  have z1 : s1.size ≤ 140737488351232 := by
    have := List.all_eq_true.1 hsz s1.data.toList.length (by simp [DataW.weightsEach, DataW.weights])
    rw [ba_len] at this
    exact of_decide_eq_true this
  refine (walk c0 s1 e2 W wc0 z1 we2 ze2).mono fun e W' ⟨he, bel⟩ => ?_
  subst he
  exact ⟨_, rfl, _, _, _, [], _, [], hW', trodAll_mk1 (shut_bool Try.underlying4 _), (trodAll_cons_mk (Below.trod laidOut (by kernel_rfl) (of_decide_eq_true (by kernel_rfl)) k0 bel lt0) (trodAll_cons_mk (shut_string Try.underlying9 m1) (trodAll_cons_mk (Below.trod laidOut (by kernel_rfl) (of_decide_eq_true (by kernel_rfl)) k2 bel lt2) trodAll_mk0))), rfl, bel.frame _, fun h => by cases h⟩

set_option maxRecDepth 100000 in
theorem lifted (os : Os) (started : os.Started) (H : Type) (enc : TypeId × Value → H) :
    ReturnsInHanded {} Try.checked os 6 .any (Rows.editStaysSpec.pre6 enc Try.prog Try.f6 Rows.editStaysRow.domain false) (Rows.editStaysSpec.post enc Try.prog Try.f6 false true false false) := by
  refine returnsInHanded_of_change_sized (C := Try.checked) own started (by kernel_rfl) Try.func6
    (ChangeSpec.witness6 (enc := enc) (C := Try.checked) false ⟨#[], #[.agg #[.int .u64 0, .int .i64 0, .int .i64 0, .int .i64 0, .int .i64 0], .string .empty, .agg #[.int .i64 0, .int .i64 0, .string .empty]], []⟩ 8 (by kernel_rfl) (by kernel_rfl) (by kernel_rfl) (by kernel_rfl)) ?_
  intro W base args ds gs before hval hW hcnd hsz _
  exact contract H enc W base args ds gs before hval hW hsz

theorem over : Rows.editStaysRow.holds Try.pinned (OpenSpec.ofChange Rows.editStaysSpec) :=
  OpenClaim.holds_of_wide 6 Try.f6 rfl rfl rfl rfl rfl rfl rfl ⟨rfl, rfl, rfl, rfl, rfl⟩ rfl rfl rfl rfl rfl (by kernel_rfl) Try.func6 (by kernel_rfl)
    (of_decide_eq_true (by kernel_rfl)) (by unfold Func.isWrapper; first | (rw [if_pos (by decide +kernel)]; kernel_rfl) | (rw [if_neg (by decide +kernel)]; exact ⟨rfl, rfl⟩))
    (fun os started H enc _ => lifted os started H enc)

theorem proved : Rows.EditStaysSaid := over

end Go.Proofs.Ytcmlcpejlmlcfaa.editStays
