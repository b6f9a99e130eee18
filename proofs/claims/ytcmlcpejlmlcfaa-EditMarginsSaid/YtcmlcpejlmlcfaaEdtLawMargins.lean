/-
  EditMargins: what the margin of an edit is; all fresh pieces of the text behind the edit are in it: for any cutter, any text, any edit.
  Conditions: none.
-/
import Derived.Test.YtcmlcpejlmlcfaaEdtAlive
import Derived.Test.YtcmlcpejlmlcfaaEdtArg
import Derived.Test.YtcmlcpejlmlcfaaEdtRefMg
import Derived.Test.YtcmlcpejlmlcfaaEdtRef
import Derived.BigQuiet
import Derived.StillTailTactics
import Derived.ProofKit
import Derived.OpenShut
import Derived.ShutString
import Derived.ChangeOld
import Derived.SizedLaws
namespace Go.Proofs.Ytcmlcpejlmlcfaa.editMargins
open Go.ChangeShapes Go.WideShapes Go.ChangeAt Go.RowKit
open Go.ChangeMaps (open_string shut_string)
set_option linter.unusedVariables false
set_option maxRecDepth 100000

theorem own : ownKnob Try.prog.godebug = none := by kernel_rfl
theorem laidOut : laidOutB Try.prog = true := by kernel_rfl
theorem nothing (s : ByteArray) (h : s.size = 0) : s = ⟨#[]⟩ := by
  obtain ⟨a⟩ := s
  rw [Array.eq_empty_of_size_eq_zero (show a.size = 0 from h)]

theorem fresh_in {A B : List ByteArray} {P L : Nat} (h : Edt.MgF A B P L) {x : Nat} (hx : x ∈ freshL A B B.length) : P ≤ x ∧ x < L := by
  unfold freshL at hx
  rw [List.mem_filter] at hx
  obtain ⟨h1, h2⟩ := hx
  have hxl := List.mem_range.1 h1
  have hno : ¬ B.getD x .empty ∈ A := fun hm => by
    rw [(hasT_iff A _).2 hm] at h2
    simp at h2
  have hin : ∀ k, k < A.length → A.getD k .empty ∈ A := fun k hk => by
    rw [List.getD_eq_getElem?_getD, List.getElem?_eq_getElem hk]; exact List.getElem_mem hk
  refine ⟨?_, ?_⟩
  · rcases Nat.lt_or_ge x P with g | g
    · obtain ⟨a1, a2⟩ := h.head x g
      exact absurd (a2 ▸ hin x a1) hno
    · exact g
  · rcases Nat.lt_or_ge x L with g | g
    · exact g
    · obtain ⟨a1, a2⟩ := h.tail x g hxl
      exact absurd (a2 ▸ hin _ (by omega)) hno

set_option maxHeartbeats 4000000 in
theorem walk (c : Ctr) (s : ByteArray) (e : Ed) (w : World) (wc : c.Wf) (zs : s.size ≤ 140737488351232) (hw : e.Wf) (zp : e.p.size ≤ 140737488351232) :
    Calls Try.prog 5 #[c.v, .string s, e.v] w fun x w' => x = .returned (.bool true) ∧ Below w.heap.size w w' := by
  obtain ⟨u0, hu0⟩ : ∃ u0, (w.alloc (.cells #[.int .u64 c.p, .int .i64 c.n, .int .i64 c.mn, .int .i64 c.mx, .int .i64 c.b] 38)).alloc (.cells #[.int .i64 e.a, .int .i64 e.c, .string e.p] 23) = u0 := ⟨_, rfl⟩
  have hbw : Below w.heap.size w u0 := by rw [← hu0]; exact (box_below w _).alloc (by simp) _
  have hcx : CtrAt c w.heap.size u0 := by rw [← hu0]; exact row_alloc (CtrAt.box c w) _
  have hex : EdAt (w.heap.size + 1) e u0 := by
    rw [← hu0]
    have := EdAt.box e (w.alloc (.cells #[.int .u64 c.p, .int .i64 c.n, .int .i64 c.mn, .int .i64 c.mx, .int .i64 c.b] 38))
    rw [World.size_alloc] at this; exact this
  have d0 := hcx.c0
  have d1 := hcx.c1
  have d2 := hcx.c2
  have d3 := hcx.c3
  have d4 := hcx.c4
  have e0 := hex.c0
  have e1 := hex.c1
  have e2 := hex.c2
  have Hb0 := Lib.hid hbw; clear hbw
  have Hcx0 := Lib.hid hcx; clear hcx
  have Hex0 := Lib.hid hex; clear hex
  have Hu0 := Lib.hid hu0; clear hu0
  have w1 : IntKind.i64.wrap ((s.size : Int) + (e.p.size : Int)) = (s.size : Int) + (e.p.size : Int) := by simp only [IntKind.wrap_i64]; omega
  by_cases hl : 600 < s.size + e.p.size
  · have hd : decide ((600 : Int) < (s.size : Int) + (e.p.size : Int)) = true := decide_eq_true (by omega)
    have HB := Lib.hid Hb0.out
    unfold Ctr.v Ed.v
    go_enter Try.func5, Try.ntmps5
    go_wp2_with fail
    rw [Hu0.out]
    go_wp2_with fail
    refine (edtAlive_any _).mono ?_; rintro e wz ⟨rfl, hz⟩
    have Hbz := Lib.hid (HB.out.trans (hz.mono HB.out.size)); clear hz
    go_wp2_with fail
    go_ret
    exact ⟨rfl, Hbz.out⟩
  have hd : decide ((600 : Int) < (s.size : Int) + (e.p.size : Int)) = false := decide_eq_false (by omega)
  have c1 := fun u => margin_any c wc.p s e hw ⟨by omega, by omega⟩ (by omega) u
  have c2 := fun u => refMay9_any c wc.p u
  have c3 := fun u => refMay11_any s (by omega) e hw u
  by_cases hc : c.May
  · rw [decide_eq_true hc] at c2
    by_cases hm : e.May s.size
    · rw [decide_eq_true hm] at c3
      have hR : MgR c s e = .tuple #[.int .i64 (mg1 c s (e.on s) : Nat), .int .i64 (mg2 c s (e.on s) : Nat), .int .i64 0] := if_pos ⟨hm, hc⟩
      rw [hR] at c1
      have hos := Ed.on_size hm
      have hzT : (e.on s).size ≤ 1099511627776 := by omega
      have c4 := fun u => refApply11_any s (by omega) e hw (by omega) u
      simp only [if_pos hm] at c4
      have c5 := fun u => refMargin_any c wc.p hc s (e.on s) (by omega) hzT u
      have c6 := fun u => refCut11_any c wc.p hc s (by omega) u
      have c7 := fun u => refCut11_any c wc.p hc (e.on s) hzT u
      have hMg := Edt.mgF c s (e.on s)
      have hin := fun x hx => fresh_in hMg (x := x) hx
      have hlA := atexts_le hc s
      have hlB := atexts_le hc (e.on s)
      have hle := hMg.le
      clear hR hm hc hw hMg
      generalize mg1 c s (e.on s) = P at *
      generalize mg2 c s (e.on s) = L at *
      generalize c.atexts s = A at *
      generalize c.atexts (e.on s) = B at *
      generalize e.on s = T at *
      obtain ⟨F0, hF0⟩ : ∃ F0, freshL A B B.length = F0 := ⟨_, rfl⟩
      have hfl := freshL_length A B B.length
      rw [hF0] at hin hfl
      obtain ⟨n0, hn0⟩ : ∃ n0, n0 = F0.length := ⟨_, rfl⟩
      have hget : ∀ k, k < n0 → P ≤ F0.getD k 0 ∧ F0.getD k 0 < L := fun k hk => by
        refine hin _ ?_
        rw [List.getD_eq_getElem?_getD, List.getElem?_eq_getElem (by omega)]
        exact List.getElem_mem _
      obtain ⟨n1, hn1⟩ : ∃ n1, n1 = A.length := ⟨_, rfl⟩
      obtain ⟨n2, hn2⟩ : ∃ n2, n2 = B.length := ⟨_, rfl⟩
      rw [← hn0] at hfl
      rw [← hn1] at hlA
      rw [← hn2] at hlB hle hfl
      have p1 : decide (P ≤ L) = true := decide_eq_true hle.1
      have p2 : decide ((P : Int) ≤ (L : Int)) = true := decide_eq_true (by omega)
      have qP : ((P : Int) == (P : Int)) = true := by simp
      have qL : ((L : Int) == (L : Int)) = true := by simp
      unfold Ctr.v Ed.v at *
      have C1 := Lib.hid c1; clear c1
      have C2 := Lib.hid c2; clear c2
      have C3 := Lib.hid c3; clear c3
      have C4 := Lib.hid c4; clear c4
      have C5 := Lib.hid c5; clear c5
      have C6 := Lib.hid c6; clear c6
      have C7 := Lib.hid c7; clear c7
      have HF0 := Lib.hid hF0; clear hF0
      have Hget := Lib.hid hget; clear hget hin
      have Hn0 := Lib.hid hn0; clear hn0
      have Hn1 := Lib.hid hn1; clear hn1
      have Hn2 := Lib.hid hn2; clear hn2
      clear hle hos
      go_enter Try.func5, Try.ntmps5
      go_wp2_with fail
      rw [Hu0.out]
      go_wp2_with fail
      refine (C1.out _).mono ?_; rintro z w1 ⟨rfl, h1⟩
      have hcx1 := Hcx0.out.new h1
      have hex1 := Hex0.out.new h1
      have hb1 := Hb0.out.trans (h1.mono Hb0.out.size)
      clear d0 d1 d2 d3 d4 e0 e1 e2
      have d0 := hcx1.c0
      have d1 := hcx1.c1
      have d2 := hcx1.c2
      have d3 := hcx1.c3
      have d4 := hcx1.c4
      have e0 := hex1.c0
      have e1 := hex1.c1
      have e2 := hex1.c2
      have Hcx1 := Lib.hid hcx1; clear hcx1
      have Hex1 := Lib.hid hex1; clear hex1
      have Hb1 := Lib.hid hb1; clear hb1 h1
      go_wp2_with fail
      refine (C2.out _).mono ?_; rintro z w2 ⟨rfl, h2⟩
      have hcx2 := Hcx1.out.new h2
      have hex2 := Hex1.out.new h2
      have hb2 := Hb1.out.trans (h2.mono Hb1.out.size)
      clear d0 d1 d2 d3 d4 e0 e1 e2
      have d0 := hcx2.c0
      have d1 := hcx2.c1
      have d2 := hcx2.c2
      have d3 := hcx2.c3
      have d4 := hcx2.c4
      have e0 := hex2.c0
      have e1 := hex2.c1
      have e2 := hex2.c2
      have Hcx2 := Lib.hid hcx2; clear hcx2
      have Hex2 := Lib.hid hex2; clear hex2
      have Hb2 := Lib.hid hb2; clear hb2 h2
      go_wp2_with fail
      refine (C3.out _).mono ?_; rintro z w3 ⟨rfl, h3⟩
      have hcx3 := Hcx2.out.new h3
      have hex3 := Hex2.out.new h3
      have hb3 := Hb2.out.trans (h3.mono Hb2.out.size)
      clear d0 d1 d2 d3 d4 e0 e1 e2
      have d0 := hcx3.c0
      have d1 := hcx3.c1
      have d2 := hcx3.c2
      have d3 := hcx3.c3
      have d4 := hcx3.c4
      have e0 := hex3.c0
      have e1 := hex3.c1
      have e2 := hex3.c2
      have Hcx3 := Lib.hid hcx3; clear hcx3
      have Hex3 := Lib.hid hex3; clear hex3
      have Hb3 := Lib.hid hb3; clear hb3 h3
      go_wp2_with fail
      refine (C4.out _).mono ?_; rintro z w4 ⟨rfl, h4⟩
      have hcx4 := Hcx3.out.new h4
      have hex4 := Hex3.out.new h4
      have hb4 := Hb3.out.trans (h4.mono Hb3.out.size)
      clear d0 d1 d2 d3 d4 e0 e1 e2
      have d0 := hcx4.c0
      have d1 := hcx4.c1
      have d2 := hcx4.c2
      have d3 := hcx4.c3
      have d4 := hcx4.c4
      have e0 := hex4.c0
      have e1 := hex4.c1
      have e2 := hex4.c2
      have Hcx4 := Lib.hid hcx4; clear hcx4
      have Hex4 := Lib.hid hex4; clear hex4
      have Hb4 := Lib.hid hb4; clear hb4 h4
      go_wp2_with fail
      refine (C5.out _).mono ?_; rintro z w5 ⟨rfl, h5⟩
      have hcx5 := Hcx4.out.new h5
      have hex5 := Hex4.out.new h5
      have hb5 := Hb4.out.trans (h5.mono Hb4.out.size)
      clear d0 d1 d2 d3 d4 e0 e1 e2
      have d0 := hcx5.c0
      have d1 := hcx5.c1
      have d2 := hcx5.c2
      have d3 := hcx5.c3
      have d4 := hcx5.c4
      have e0 := hex5.c0
      have e1 := hex5.c1
      have e2 := hex5.c2
      have Hcx5 := Lib.hid hcx5; clear hcx5
      have Hex5 := Lib.hid hex5; clear hex5
      have Hb5 := Lib.hid hb5; clear hb5 h5
      clear d0 d1 d2 d3 d4 e0 e1 e2
      go_wp2_with fail
      refine wp_region_phases [([0, 1, 3, 4], [2, 5, 6, 7])] (by kernel_rfl) (by kernel_rfl) (fun z => CtrAt c w.heap.size z) Hcx5.out ?_
      simp only [wpPhases, pick, List.filterMap_cons, List.filterMap_nil, List.getElem?_toArray, List.getElem?_cons_zero, List.getElem?_cons_succ]
      refine take_load 38 (.tmp 3) ⟨w.heap.size, 0, none⟩ (.agg #[.int .u64 c.p, .int .i64 c.n, .int .i64 c.mn, .int .i64 c.mx, .int .i64 c.b]) rfl rfl rfl (fun u hu => load_row (P := Try.prog) u w.heap.size 38 38 _ (0, 0) _ hu Try.underlying38 rfl (by kernel_rfl)) ?_
      simp only [Act.put, List.setIfInBounds_toArray, List.set_cons_zero, List.set_cons_succ]
      refine take_move (.tmp 1) (.string s) rfl rfl rfl ?_
      simp only [Act.put, List.setIfInBounds_toArray, List.set_cons_zero, List.set_cons_succ]
      refine take_load 38 (.tmp 3) ⟨w.heap.size, 0, none⟩ (.agg #[.int .u64 c.p, .int .i64 c.n, .int .i64 c.mn, .int .i64 c.mx, .int .i64 c.b]) rfl rfl rfl (fun u hu => load_row (P := Try.prog) u w.heap.size 38 38 _ (0, 0) _ hu Try.underlying38 rfl (by kernel_rfl)) ?_
      simp only [Act.put, List.setIfInBounds_toArray, List.set_cons_zero, List.set_cons_succ]
      refine take_move (.tmp 10) (.string T) rfl rfl rfl ?_
      simp only [Act.put, List.setIfInBounds_toArray, List.set_cons_zero, List.set_cons_succ]
      refine take_done ?_
      refine midk_wp rfl (call_wp 19 [.tmp 79, .tmp 80] #[38, 9] #[.agg #[.int .u64 c.p, .int .i64 c.n, .int .i64 c.mn, .int .i64 c.mx, .int .i64 c.b], .string s] rfl rfl rfl ?_)
      refine (C6.out _).mono ?_
      rintro z w6 ⟨v6, rfl, hv6, h6⟩
      have hr6 : CtrAt c w.heap.size w6 := (show CtrAt c w.heap.size w5.drew from Hcx5.out).new h6
      refine ⟨_, rfl, hr6, ?_⟩
      simp only [Act.put, List.setIfInBounds_toArray, List.set_cons_zero, List.set_cons_succ]
      refine midk_wp rfl (call_wp 19 [.tmp 82, .tmp 83] #[38, 9] #[.agg #[.int .u64 c.p, .int .i64 c.n, .int .i64 c.mn, .int .i64 c.mx, .int .i64 c.b], .string T] rfl rfl rfl ?_)
      refine (C7.out _).mono ?_
      rintro z w7 ⟨v7, rfl, hv7, h7⟩
      have hr7 := hr6.new h7
      refine ⟨_, rfl, hr7, ?_⟩
      simp only [Act.put, List.setIfInBounds_toArray, List.set_cons_zero, List.set_cons_succ]
      have hbe7 : Below w.heap.size w w7 := (Hb5.out.drew.trans (h6.mono (by have := Hb5.out.size; simpa using this))).trans (h7.mono (by have h3 := h6.size; have h4 := Hb5.out.size; simp at h3; omega))
      obtain ⟨aA, cA, rfl, sA⟩ := ((hv6.reads).new h7).strs
      obtain ⟨aB, cB, rfl, sB⟩ := hv7.reads.strs
      have cf := refFresh_any aA aB A.length B.length cA cB A B w7 sA sB (by rw [← Hn1.out]; omega) (by rw [← Hn2.out]; omega)
      rw [HF0.out] at cf
      clear hv6 hv7 h6 h7 sA sB
      refine midk_wp rfl (call_wp 14 [.tmp 81, .tmp 84] #[24, 24] #[.slice aA A.length cA, .slice aB B.length cB] rfl rfl rfl ?_)
      refine cf.mono ?_
      rintro z w8 ⟨v8, rfl, hv8, h8⟩
      refine ⟨_, rfl, hr7.new h8, ?_⟩
      simp only [Act.put, List.setIfInBounds_toArray, List.set_cons_zero, List.set_cons_succ]
      refine midk_one v8 rfl rfl (hr7.new h8) ?_
      simp only [Act.put, List.setIfInBounds_toArray, List.set_cons_zero, List.set_cons_succ]
      refine midk_end ?_
      have hbe8 := hbe7.trans (h8.mono hbe7.size)
      obtain ⟨a8, k8, rfl, hk8, hf8⟩ := hv8
      rw [← Hn0.out] at hk8 hf8 ⊢
      have Hf8 := Lib.hid hf8; clear hf8
      have Hb8 := Lib.hid hbe8; clear hbe8 hbe7 h8 hr6 hr7 cf
      go_wp2_with fail
      go_loopw [15] (fun x wr => ∃ k : Nat, k ≤ n0 ∧ x = .int .i64 (k : Int) ∧ Below w8.heap.size w8 wr) (fun x _ => n0 - (intOf x).toNat)
      case atStart => exact ⟨0, Nat.zero_le _, rfl, Below.refl _ _⟩
      case round =>
        obtain ⟨k, hk, rfl, hb⟩ := hrel
        by_cases hlt : k < n0
        · have g1 : decide (k < n0) = true := decide_eq_true hlt
          have g2 : (k : Int) < (n0 : Int) := by omega
          obtain ⟨b1, rfl, d1⟩ := Hf8.out k hlt
          have f1 : wr.cell? ⟨b1, k, none⟩ = some (.int .i64 ((F0.getD k 0 : Nat) : Int)) := by rw [hb.cell (p := ⟨b1, k, none⟩) (cell_lt d1)]; exact d1
          obtain ⟨r1, r2⟩ := Hget.out k hlt
          generalize F0.getD k 0 = y at *
          have r3 : k < k8 := by omega
          have q1 : decide (y < P) = false := decide_eq_false (by omega)
          have q2 : decide ((y : Int) < (P : Int)) = false := decide_eq_false (by omega)
          have q3 : decide (L ≤ y) = false := decide_eq_false (by omega)
          have q4 : decide ((L : Int) ≤ (y : Int)) = false := decide_eq_false (by omega)
          have Hb := Lib.hid hb; clear hb
          clear d1 r1 r2
          go_wp2_with fail
          try go_quiet (fail)
          try go_wp2_with fail
          go_roundw
          case rel => exact ⟨k + 1, by omega, by go_num, by first | exact Hb.out | exact drewN_below Hb.out _⟩
          case measure => simp [intOf]; omega
        · have g1 : decide (k < n0) = false := decide_eq_false hlt
          have HB := Lib.hid (Hb8.out.trans (hb.mono Hb8.out.size)); clear hb
          go_wp2_with fail
          refine (edtAlive_any _).mono ?_; rintro e wz ⟨rfl, hz⟩
          have Hbz := Lib.hid (HB.out.trans (hz.mono HB.out.size)); clear hz
          go_wp2_with fail
          go_ret
          exact ⟨rfl, Hbz.out⟩
    · rw [decide_eq_false hm] at c3
      have hR : MgR c s e = .tuple #[.int .i64 0, .int .i64 0, .int .i64 2] := if_neg (fun h => hm h.1)
      rw [hR] at c1
      clear hR hm hc hw
      unfold Ctr.v Ed.v at *
      have C1 := Lib.hid c1; clear c1
      have C2 := Lib.hid c2; clear c2
      have C3 := Lib.hid c3; clear c3
      go_enter Try.func5, Try.ntmps5
      go_wp2_with fail
      rw [Hu0.out]
      go_wp2_with fail
      refine (C1.out _).mono ?_; rintro z w1 ⟨rfl, h1⟩
      have hcx1 := Hcx0.out.new h1
      have hex1 := Hex0.out.new h1
      have hb1 := Hb0.out.trans (h1.mono Hb0.out.size)
      clear d0 d1 d2 d3 d4 e0 e1 e2
      have d0 := hcx1.c0
      have d1 := hcx1.c1
      have d2 := hcx1.c2
      have d3 := hcx1.c3
      have d4 := hcx1.c4
      have e0 := hex1.c0
      have e1 := hex1.c1
      have e2 := hex1.c2
      have Hcx1 := Lib.hid hcx1; clear hcx1
      have Hex1 := Lib.hid hex1; clear hex1
      have Hb1 := Lib.hid hb1; clear hb1 h1
      go_wp2_with fail
      refine (C2.out _).mono ?_; rintro z w2 ⟨rfl, h2⟩
      have hcx2 := Hcx1.out.new h2
      have hex2 := Hex1.out.new h2
      have hb2 := Hb1.out.trans (h2.mono Hb1.out.size)
      clear d0 d1 d2 d3 d4 e0 e1 e2
      have d0 := hcx2.c0
      have d1 := hcx2.c1
      have d2 := hcx2.c2
      have d3 := hcx2.c3
      have d4 := hcx2.c4
      have e0 := hex2.c0
      have e1 := hex2.c1
      have e2 := hex2.c2
      have Hcx2 := Lib.hid hcx2; clear hcx2
      have Hex2 := Lib.hid hex2; clear hex2
      have Hb2 := Lib.hid hb2; clear hb2 h2
      go_wp2_with fail
      refine (C3.out _).mono ?_; rintro z w3 ⟨rfl, h3⟩
      have hcx3 := Hcx2.out.new h3
      have hex3 := Hex2.out.new h3
      have hb3 := Hb2.out.trans (h3.mono Hb2.out.size)
      clear d0 d1 d2 d3 d4 e0 e1 e2
      have d0 := hcx3.c0
      have d1 := hcx3.c1
      have d2 := hcx3.c2
      have d3 := hcx3.c3
      have d4 := hcx3.c4
      have e0 := hex3.c0
      have e1 := hex3.c1
      have e2 := hex3.c2
      have Hcx3 := Lib.hid hcx3; clear hcx3
      have Hex3 := Lib.hid hex3; clear hex3
      have Hb3 := Lib.hid hb3; clear hb3 h3
      have HB := Lib.hid Hb3.out
      clear d0 d1 d2 d3 d4 e0 e1 e2
      go_wp2_with fail
      refine (edtAlive_any _).mono ?_; rintro e wz ⟨rfl, hz⟩
      have Hbz := Lib.hid (HB.out.trans (hz.mono HB.out.size)); clear hz
      go_wp2_with fail
      go_ret
      exact ⟨rfl, Hbz.out⟩
  · rw [decide_eq_false hc] at c2
    have hR : MgR c s e = .tuple #[.int .i64 0, .int .i64 0, .int .i64 2] := if_neg (fun h => hc h.2)
    rw [hR] at c1
    clear hR hc hw c3
    unfold Ctr.v Ed.v at *
    have C1 := Lib.hid c1; clear c1
    have C2 := Lib.hid c2; clear c2
    go_enter Try.func5, Try.ntmps5
    go_wp2_with fail
    rw [Hu0.out]
    go_wp2_with fail
    refine (C1.out _).mono ?_; rintro z w1 ⟨rfl, h1⟩
    have hcx1 := Hcx0.out.new h1
    have hex1 := Hex0.out.new h1
    have hb1 := Hb0.out.trans (h1.mono Hb0.out.size)
    clear d0 d1 d2 d3 d4 e0 e1 e2
    have d0 := hcx1.c0
    have d1 := hcx1.c1
    have d2 := hcx1.c2
    have d3 := hcx1.c3
    have d4 := hcx1.c4
    have e0 := hex1.c0
    have e1 := hex1.c1
    have e2 := hex1.c2
    have Hcx1 := Lib.hid hcx1; clear hcx1
    have Hex1 := Lib.hid hex1; clear hex1
    have Hb1 := Lib.hid hb1; clear hb1 h1
    go_wp2_with fail
    refine (C2.out _).mono ?_; rintro z w2 ⟨rfl, h2⟩
    have hcx2 := Hcx1.out.new h2
    have hex2 := Hex1.out.new h2
    have hb2 := Hb1.out.trans (h2.mono Hb1.out.size)
    clear d0 d1 d2 d3 d4 e0 e1 e2
    have d0 := hcx2.c0
    have d1 := hcx2.c1
    have d2 := hcx2.c2
    have d3 := hcx2.c3
    have d4 := hcx2.c4
    have e0 := hex2.c0
    have e1 := hex2.c1
    have e2 := hex2.c2
    have Hcx2 := Lib.hid hcx2; clear hcx2
    have Hex2 := Lib.hid hex2; clear hex2
    have Hb2 := Lib.hid hb2; clear hb2 h2
    have HB := Lib.hid Hb2.out
    clear d0 d1 d2 d3 d4 e0 e1 e2
    go_wp2_with fail
    refine (edtAlive_any _).mono ?_; rintro e wz ⟨rfl, hz⟩
    have Hbz := Lib.hid (HB.out.trans (hz.mono HB.out.size)); clear hz
    go_wp2_with fail
    go_ret
    exact ⟨rfl, Hbz.out⟩
theorem contract (H : Type) (enc : TypeId × Value → H) (W : World) (base : Nat) (args : Array Value) (ds gs : List (DataW H)) (before : List MemPlace)
    (hval : ∀ (j : Nat) t v, Try.f5.params[j]? = some t → args[j]? = some v → Value.okWide Try.prog W .any base t v)
    (hW : DataW.Whole enc Try.prog Try.f5.params.toList Rows.editMarginsSpec.vars false W args.toList ds gs before)
    (hsz : (DataW.weightsEach Try.prog (Try.f5.params.toList ++ Rows.editMarginsSpec.plain.varTypes Try.prog) (ds ++ gs)).all (· ≤ reachBytes) = true) :
    Calls Try.prog 5 args W fun e W' => ∃ v, e = .returned v ∧ Rows.editMarginsSpec.post enc Try.prog Try.f5 false true false false W args v W' := by
  have hW' := hW
  obtain ⟨p, q, hA0, hV, rfl, hfz, hnd⟩ := hW
  have hA : DataW.TrodAll enc Try.prog W 0 (fun _ => true) true Try.f5.params.toList args.toList ds p := hA0
  rw [Try.params5] at hA hval hsz
  obtain ⟨v0, vs0, d0, ds0, p0, q0, hargs, rfl, rfl, h0, r0⟩ := trodAll_cons hA
  obtain ⟨v1, vs1, d1, ds1, p1, q1, rfl, rfl, rfl, h1, r1⟩ := trodAll_cons r0
  obtain ⟨v2, vs2, d2, ds2, p2, q2, rfl, rfl, rfl, h2, r2⟩ := trodAll_cons r1
  obtain ⟨rfl, rfl, rfl⟩ := trodAll_nil r2
  obtain rfl : args = #[v0, v1, v2] := Array.ext' hargs
  obtain ⟨rfl, rfl⟩ := trodVars_none hV
  have k0 := h0
  have lt0 : ∀ x ∈ p0, x.block < W.heap.size := by obtain ⟨m, hm⟩ := k0; exact DataW.trod_lt m _ _ _ hm
  obtain ⟨c0, rfl, wc0⟩ := open_cutter Try.underlying38 rfl rfl rfl rfl rfl Try.underlying36 Try.underlying3 (by kernel_rfl) (by kernel_rfl) (hval 0 38 v0 rfl rfl) h0
  obtain ⟨s1, rfl, rfl, rfl, m1⟩ := open_string Try.underlying9 (hval 1 9 v1 rfl rfl) h1
  have k2 := h2
  have lt2 : ∀ x ∈ p2, x.block < W.heap.size := by obtain ⟨m, hm⟩ := k2; exact DataW.trod_lt m _ _ _ hm
  obtain ⟨e2, rfl, we2, ze2⟩ := open_edit Try.underlying23 rfl rfl rfl Try.underlying3 Try.underlying9 (by kernel_rfl) (by kernel_rfl) (hval 2 23 v2 rfl rfl) h2 (fun n hn => by
    have := List.all_eq_true.1 hsz n (by
      simp only [List.cons_append, DataW.weightsEach]
      exact List.mem_append_right _ (List.mem_append_right _ (List.mem_append_left _ hn)))
    simpa using this)
  clear hA0
  have z1 : s1.size ≤ 140737488351232 := by
    have := List.all_eq_true.1 hsz s1.data.toList.length (by simp [DataW.weightsEach, DataW.weights])
    rw [ba_len] at this
    exact of_decide_eq_true this
  refine (walk c0 s1 e2 W wc0 z1 we2 ze2).mono fun e W' ⟨he, bel⟩ => ?_
  subst he
  exact ⟨_, rfl, _, _, _, [], _, [], hW', trodAll_mk1 (shut_bool Try.underlying4 _), (trodAll_cons_mk (Below.trod laidOut (by kernel_rfl) (of_decide_eq_true (by kernel_rfl)) k0 bel lt0) (trodAll_cons_mk (shut_string Try.underlying9 m1) (trodAll_cons_mk (Below.trod laidOut (by kernel_rfl) (of_decide_eq_true (by kernel_rfl)) k2 bel lt2) trodAll_mk0))), rfl, bel.frame _, fun h => by cases h⟩

set_option maxRecDepth 100000 in
theorem lifted (os : Os) (started : os.Started) (H : Type) (enc : TypeId × Value → H) :
    ReturnsInHanded {} Try.checked os 5 .any (Rows.editMarginsSpec.pre6 enc Try.prog Try.f5 Rows.editMarginsRow.domain false) (Rows.editMarginsSpec.post enc Try.prog Try.f5 false true false false) := by
  refine returnsInHanded_of_change_sized (C := Try.checked) own started (by kernel_rfl) Try.func5
    (ChangeSpec.witness6 (enc := enc) (C := Try.checked) false ⟨#[], #[.agg #[.int .u64 0, .int .i64 0, .int .i64 0, .int .i64 0, .int .i64 0], .string .empty, .agg #[.int .i64 0, .int .i64 0, .string .empty]], []⟩ 8 (by kernel_rfl) (by kernel_rfl) (by kernel_rfl) (by kernel_rfl)) ?_
  intro W base args ds gs before hval hW hcnd hsz _
  exact contract H enc W base args ds gs before hval hW hsz

theorem over : Rows.editMarginsRow.holds Try.pinned (OpenSpec.ofChange Rows.editMarginsSpec) :=
  OpenClaim.holds_of_wide 5 Try.f5 rfl rfl rfl rfl rfl rfl rfl ⟨rfl, rfl, rfl, rfl, rfl⟩ rfl rfl rfl rfl rfl (by kernel_rfl) Try.func5 (by kernel_rfl)
    (of_decide_eq_true (by kernel_rfl)) (by unfold Func.isWrapper; first | (rw [if_pos (by decide +kernel)]; kernel_rfl) | (rw [if_neg (by decide +kernel)]; exact ⟨rfl, rfl⟩))
    (fun os started H enc _ => lifted os started H enc)

theorem proved : Rows.EditMarginsSaid := over

end Go.Proofs.Ytcmlcpejlmlcfaa.editMargins
