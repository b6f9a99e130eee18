/-
  LinesTile: the aligned pieces are the text, each is whole records and has fewer bytes than Max and the longest record have together, and the records of the pieces are the text's: for every cutter, every text.
  Conditions: none.
-/
import Derived.Test.YtbcncedgfafpiaaLinB
import Derived.Test.YtbcncedgfafpiaaChuC
import Derived.Test.YtbcncedgfafpiaaLinTil
import Derived.Test.YtbcncedgfafpiaaRabA
import Derived.Test.YtbcncedgfafpiaaGoSkip
import Derived.BigQuiet
import Derived.StillTailTactics
import Derived.ProofKit
import Derived.OpenShut
import Derived.ShutString
import Derived.ChangeOld
import Derived.SizedLaws
namespace Go.Proofs.Ytbcncedgfafpiaa.linesTile
open Go.ChangeShapes Go.WideShapes Go.ChangeAt Go.RowKit
open Go.ChangeMaps (open_string shut_string)
set_option linter.unusedVariables false
set_option maxRecDepth 100000

theorem own : ownKnob Try.prog.godebug = none := by kernel_rfl
theorem laidOut : laidOutB Try.prog = true := by kernel_rfl
theorem nothing (s : ByteArray) (h : s.size = 0) : s = ⟨#[]⟩ := by
  obtain ⟨a⟩ := s
  rw [Array.eq_empty_of_size_eq_zero (show a.size = 0 from h)]

theorem run_index_at {P : Program} {o : Oper} {a : Act} {u : World} (t : TypeId) (x i : Operand) (ho : o.op = .index t x i) (xv iv v : Value) (hx : a.eval x = xv) (hi : a.eval i = iv) (hr : (Instr.index t xv iv).run P u = .ok v u) : (execOp a.eval o).run P u = .ok (.value v) u := by
  unfold execOp
  simp only [ho, hx, hi, Sem.run_bind, hr, Result.andThen_ok, Sem.run_pure]
set_option maxHeartbeats 2000000 in
theorem walk (c0 : Ctr) (s : ByteArray) (w : World) (wc0 : c0.Wf) (z1 : s.size ≤ 140737488351232) :
    Calls Try.prog 4 #[c0.v, .string s] w fun e w' => e = .returned (.bool true) ∧ Below w.heap.size w w' := by
  obtain ⟨i0, hi0, hz0, hz1, hz2⟩ := info_parts tstr_info
  have hbw := box_below w (.cells #[.int .u64 c0.p, .int .i64 c0.n, .int .i64 c0.mn, .int .i64 c0.mx, .int .i64 c0.b] 24)
  have hrow := CtrAt.box c0 w
  have Hbw := Lib.hid hbw; clear hbw
  by_cases hl : 3000 < s.size
  · have hd : decide ((3000 : Int) < (s.size : Int)) = true := decide_eq_true (by omega)
    have HB := Lib.hid Hbw.out
    unfold Ctr.v
    clear hrow
    go_enter Try.func4, Try.ntmps4
    go_wp2_with fail
    refine (linAlive_any _).mono ?_; rintro e wz ⟨rfl, hz⟩
    have Hbz := Lib.hid (HB.out.trans (hz.mono HB.out.size)); clear hz
    go_wp2_with fail
    go_ret
    exact ⟨rfl, Hbz.out⟩
  have hd : decide ((3000 : Int) < (s.size : Int)) = false := decide_eq_false (by omega)
  have hd2 : decide (3000 < s.size) = false := decide_eq_false hl
  have k1 := fun u => ltexts_any c0 wc0.p s (by omega) u
  by_cases hm : c0.May
  rotate_left
  · simp only [if_neg hm] at k1
    unfold Ctr.v at *
    have K1 := Lib.hid k1; clear k1
    clear hm
    have e0 := hrow.c0
    have e1 := hrow.c1
    have e2 := hrow.c2
    have e3 := hrow.c3
    have e4 := hrow.c4
    clear hrow
    go_enter Try.func4, Try.ntmps4
    go_wp2_with fail
    refine (K1.out _).mono ?_; rintro e w1 ⟨h1, rfl⟩
    have HB := Lib.hid (Hbw.out.trans (h1.mono Hbw.out.size)); clear h1
    clear e0 e1 e2 e3 e4
    go_wp2_with fail
    refine (linAlive_any _).mono ?_; rintro e wz ⟨rfl, hz⟩
    have Hbz := Lib.hid (HB.out.trans (hz.mono HB.out.size)); clear hz
    go_wp2_with fail
    go_ret
    exact ⟨rfl, Hbz.out⟩
  · simp only [if_pos hm] at k1
    have ht := til10_is hm s
    have hlen : (c0.atexts s).length ≤ s.size := by
      have := Ctr.acut_len hm s.data.toList
      rw [ba_len] at this
      unfold Ctr.atexts; rw [pcTexts_length]; exact this
    have cl := fun u => longest_any s (by omega) u
    have cr := fun u => records_any s (by omega) u
    have hrl : (recs s).length ≤ s.size := recsF_len s 0
    have hG := lg_le s s.size 0 (by omega)
    rw [show recsF s 0 = recs s from rfl] at hG
    obtain ⟨mx, hmx⟩ : ∃ mx : Nat, c0.mx = (mx : Int) := ⟨c0.mx.toNat, by have := hm.2.2.1.1; omega⟩
    have hmx4 : mx ≤ 4096 := by have := hm.2.2.1.2; omega
    rw [show c0.mx.toNat = mx by omega] at ht
    generalize (fun i => (0 :: c0.aends s.data.toList).getD i 0) = T at ht
    generalize (fun i => s.extract 0 ((0 :: c0.aends s.data.toList).getD i 0)) = P at ht
    generalize (fun i => ((c0.atexts s).take i).flatMap recs) = RS at ht
    unfold TxR at k1
    generalize c0.atexts s = A at *
    obtain ⟨D, hD⟩ : ∃ D : Nat → ByteArray, D = fun i => A.getD i .empty := ⟨_, rfl⟩
    rw [← hD] at ht
    have hDk : ∀ k, A.getD k .empty = D k := fun k => by rw [hD]
    generalize lg (recs s) = G at *
    obtain ⟨n, hn⟩ : ∃ n, n = A.length := ⟨_, rfl⟩
    rw [← hn] at ht hlen
    simp only [← hn] at k1
    have cs := fun v1 v2 u h1 h2 => tsame_any v1 v2 (recs s) u h1 h2 (by omega)
    unfold Ctr.v at *
    have Ht := Lib.hid ht; clear ht
    have HDk := Lib.hid hDk; clear hDk hD
    have Hn := Lib.hid hn; clear hn
    have Cl := Lib.hid cl; clear cl
    have Cr := Lib.hid cr; clear cr
    have Cs := Lib.hid cs; clear cs
    have K1 := Lib.hid k1; clear k1
    clear hm
    have e0 := hrow.c0
    have e1 := hrow.c1
    have e2 := hrow.c2
    have e3 := hrow.c3
    have e4 := hrow.c4
    have Hrow := Lib.hid hrow; clear hrow
    have Hmx := Lib.hid hmx; clear hmx
    go_enter Try.func4, Try.ntmps4
    go_wp2_with fail
    refine (K1.out _).mono ?_; rintro e w1 ⟨h1, g, hg, rfl, hr1⟩
    have hsr := SRd.made hr1
    rw [← Hn.out] at hsr
    obtain ⟨a0, c00, hve, hcap0, hcells⟩ := hsr
    injection hve with q1 q2 q3
    subst q1
    have hcells' : ∀ j, j < n → w1.cell? ⟨g, j, none⟩ = some (.string (D j)) := fun j hj => by
      obtain ⟨b, hb, e⟩ := hcells j (by rw [← Hn.out]; exact hj)
      injection hb with hb
      injection hb with hb
      subst hb
      rw [HDk.out] at e; exact e
    have Hcells := Lib.hid hcells'; clear hcells' hcells hcap0 hr1 q2 q3
    have hrow1 := Hrow.out.new h1
    have hm3 := hrow1.c3
    rw [Hmx.out] at hm3
    have Hb1 := Lib.hid (Hbw.out.trans (h1.mono Hbw.out.size)); clear h1
    have Hm3 := Lib.hid hm3; clear hm3 hrow1
    have hgl : w.heap.size < w1.heap.size := cell_lt Hm3.out
    clear e0 e1 e2 e3 e4 hg
    obtain ⟨b, hbg⟩ : ∃ b, b = g := ⟨_, rfl⟩
    rw [← hbg] at Hcells ⊢
    clear hbg
    have hp0 := Ht.out.p0
    have Hp0 := Lib.hid hp0; clear hp0
    go_wp2_with fail
    obtain ⟨cap, hcap⟩ : ∃ cap, cap = n := ⟨_, rfl⟩
    go_loopw [7, 8, 9] (fun t v i wr => ∃ k : Nat, k ≤ n ∧ i = .int .i64 (k : Int) ∧ t = .string (P k) ∧ TOwn w1.heap.size v (RS k) wr ∧ Below w1.heap.size w1 wr) (fun t v i _ => n - (intOf i).toNat)
    case atStart => exact ⟨0, Nat.zero_le _, rfl, by rw [Hp0.out], by rw [Ht.out.r0]; exact World.ownsRow_nil _ _ 9 1, Below.refl _ _⟩
    case round =>
      obtain ⟨k, hk, rfl, rfl, hv, hb⟩ := hrel
      have HB := Lib.hid (Hb1.out.trans (hb.mono Hb1.out.size))
      by_cases hlt : k < n
      · have g1 : decide (k < n) = true := decide_eq_true hlt
        have g1' : (k : Int) < (n : Int) := by omega
        have d := Hcells.out k hlt
        rw [← hb.cell (p := ⟨b, k, none⟩) (cell_lt d)] at d
        have m3 := Hm3.out
        rw [← hb.cell (p := ⟨w.heap.size, 3, none⟩) (cell_lt m3)] at m3
        obtain ⟨t1, t2, t3, t4⟩ := Ht.out.d1 k hlt
        have hps := Ht.out.ps k hlt
        have hpz := Ht.out.pz k (by omega)
        have hpz2 := Ht.out.pz (k + 1) (by omega)
        have hrs := Ht.out.rs k hlt
        have hrl1 := Ht.out.rl k (by omega)
        have hrl2 := Ht.out.rl (k + 1) (by omega)
        have hd2 := Ht.out.d2 k
        have czz := fun u => records_any (D k) (by omega) u
        have hix0 := fun u => text_index (D k) ((D k).size - 1) (by omega) u
        generalize D k = z at *
        have hix : k + 1 < n → ∀ u, (Instr.index 9 (.string z) (.int .i64 ((z.size : Int) - 1))).run Try.prog u = .ok (.int .u8 10) u := fun h u => by
          have := hix0 u
          rw [hd2 h, show ((z.size - 1 : Nat) : Int) = (z.size : Int) - 1 by omega] at this
          exact this
        have hrz : (recs z).length ≤ 3000 := by
          rw [hrs, List.length_append] at hrl2; omega
        generalize recs z = RZ at *
        have hne : z.toList.isEmpty = false := by
          rw [Lib.toList_data]
          cases hh : z.data.toList with
          | nil => have := ba_len z; rw [hh] at this; simp at this; omega
          | cons _ _ => rfl
        have hpsz : (P k).size = T k := hpz
        have hk1 : IntKind.i64.wrap ((k : Int) + 1) = (k : Int) + 1 := by simp only [IntKind.wrap_i64]; omega
        have hzw : IntKind.i64.wrap ((z.size : Int) - 1) = (z.size : Int) - 1 := by simp only [IntKind.wrap_i64]; omega
        have hzm : IntKind.i64.wrap ((z.size : Int) - (mx : Int)) = (z.size : Int) - (mx : Int) := by simp only [IntKind.wrap_i64]; omega
        have hps3 : (P k).size + z.size ≤ 3000 := by omega
        have hbk0 : b < wr.drew.heap.size := cell_lt d
        have hwk0 : w.heap.size < wr.drew.heap.size := cell_lt m3
        have Hps := Lib.hid hps; clear hps hpz hpz2 hpsz
        have Hrs := Lib.hid hrs; clear hrs
        have Hne := Lib.hid hne; clear hne
        have Hk1 := Lib.hid hk1; clear hk1
        have Hz1 := Lib.hid hzw; clear hzw
        have Hzm := Lib.hid hzm; clear hzm
        have Cz := Lib.hid czz; clear czz
        have Hv := Lib.hid hv; clear hv
        have Hb := Lib.hid hb; clear hb
        clear t3 hd2 hix0 HB hrl2
        obtain ⟨RL, hRL⟩ : ∃ RL, RL = (RS k).length := ⟨_, rfl⟩
        go_wp2_with fail
        by_cases hk2 : k + 1 < n
        · have Hix := Lib.hid (hix hk2); clear hix
          refine wp_region_phases [([0, 1, 2, 3, 4, 5, 6, 7, 8, 9, 10, 11, 12, 13, 14, 15, 16, 17, 18, 19, 20, 21, 22, 23, 24, 25, 26, 27, 28, 29, 30, 31, 32, 33, 34, 35], [36, 37, 38])] (by kernel_rfl) (by kernel_rfl) (fun z1 => z1.cell? ⟨b, k, none⟩ = some (.string z) ∧ z1.cell? ⟨w.heap.size, 3, none⟩ = some (.int .i64 (mx : Int))) ⟨d, m3⟩ ?_
          simp only [wpPhases, pick, List.filterMap_cons, List.filterMap_nil, List.getElem?_toArray, List.getElem?_cons_zero, List.getElem?_cons_succ]
          refine take_move (.tmp 5) (.slice (some ⟨b, 0, none⟩) n n) rfl rfl rfl ?_
          simp only [Act.put, List.setIfInBounds_toArray, List.set_cons_zero, List.set_cons_succ]
          refine take_move (.tmp 9) (.int .i64 (k : Int)) rfl rfl rfl ?_
          simp only [Act.put, List.setIfInBounds_toArray, List.set_cons_zero, List.set_cons_succ]
          refine take_one (.pointer (some ⟨b, k, none⟩)) rfl (fun u hu => by go_simp) ?_
          simp only [Act.put, List.setIfInBounds_toArray, List.set_cons_zero, List.set_cons_succ]
          refine take_load 9 (.tmp 42) ⟨b, k, none⟩ (.string z) rfl rfl rfl (fun u hu => load_at Try.underlying9 Try.isAgg9 hu.1) ?_
          simp only [Act.put, List.setIfInBounds_toArray, List.set_cons_zero, List.set_cons_succ]
          refine take_one (.bool false) rfl (fun u hu => by go_simp; simpa using Hne.out) ?_
          simp only [Act.put, List.setIfInBounds_toArray, List.set_cons_zero, List.set_cons_succ]
          refine take_move (.tmp 44) (.bool false) rfl rfl rfl ?_
          simp only [Act.put, List.setIfInBounds_toArray, List.set_cons_zero, List.set_cons_succ]
          refine take_move (.tmp 9) (.int .i64 (k : Int)) rfl rfl rfl ?_
          simp only [Act.put, List.setIfInBounds_toArray, List.set_cons_zero, List.set_cons_succ]
          refine take_one (.int .i64 ((k : Int) + 1)) rfl (fun u hu => by go_simp; exact Hk1.out) ?_
          simp only [Act.put, List.setIfInBounds_toArray, List.set_cons_zero, List.set_cons_succ]
          refine take_move (.tmp 5) (.slice (some ⟨b, 0, none⟩) n n) rfl rfl rfl ?_
          simp only [Act.put, List.setIfInBounds_toArray, List.set_cons_zero, List.set_cons_succ]
          refine take_one (.int .i64 (n : Int)) rfl (fun u hu => by go_simp) ?_
          simp only [Act.put, List.setIfInBounds_toArray, List.set_cons_zero, List.set_cons_succ]
          refine take_one (.bool true) rfl (fun u hu => by go_simp; omega) ?_
          simp only [Act.put, List.setIfInBounds_toArray, List.set_cons_zero, List.set_cons_succ]
          refine take_move (.tmp 50) (.bool true) rfl rfl rfl ?_
          simp only [Act.put, List.setIfInBounds_toArray, List.set_cons_zero, List.set_cons_succ]
          refine take_move (.tmp 5) (.slice (some ⟨b, 0, none⟩) n n) rfl rfl rfl ?_
          simp only [Act.put, List.setIfInBounds_toArray, List.set_cons_zero, List.set_cons_succ]
          refine take_move (.tmp 9) (.int .i64 (k : Int)) rfl rfl rfl ?_
          simp only [Act.put, List.setIfInBounds_toArray, List.set_cons_zero, List.set_cons_succ]
          refine take_one (.pointer (some ⟨b, k, none⟩)) rfl (fun u hu => by go_simp) ?_
          simp only [Act.put, List.setIfInBounds_toArray, List.set_cons_zero, List.set_cons_succ]
          refine take_load 9 (.tmp 54) ⟨b, k, none⟩ (.string z) rfl rfl rfl (fun u hu => load_at Try.underlying9 Try.isAgg9 hu.1) ?_
          simp only [Act.put, List.setIfInBounds_toArray, List.set_cons_zero, List.set_cons_succ]
          refine take_move (.tmp 5) (.slice (some ⟨b, 0, none⟩) n n) rfl rfl rfl ?_
          simp only [Act.put, List.setIfInBounds_toArray, List.set_cons_zero, List.set_cons_succ]
          refine take_move (.tmp 9) (.int .i64 (k : Int)) rfl rfl rfl ?_
          simp only [Act.put, List.setIfInBounds_toArray, List.set_cons_zero, List.set_cons_succ]
          refine take_one (.pointer (some ⟨b, k, none⟩)) rfl (fun u hu => by go_simp) ?_
          simp only [Act.put, List.setIfInBounds_toArray, List.set_cons_zero, List.set_cons_succ]
          refine take_load 9 (.tmp 58) ⟨b, k, none⟩ (.string z) rfl rfl rfl (fun u hu => load_at Try.underlying9 Try.isAgg9 hu.1) ?_
          simp only [Act.put, List.setIfInBounds_toArray, List.set_cons_zero, List.set_cons_succ]
          refine take_one (.int .i64 (z.size : Int)) rfl (fun u hu => by go_simp) ?_
          simp only [Act.put, List.setIfInBounds_toArray, List.set_cons_zero, List.set_cons_succ]
          refine take_one (.int .i64 ((z.size : Int) - 1)) rfl (fun u hu => by go_simp; exact Hz1.out) ?_
          simp only [Act.put, List.setIfInBounds_toArray, List.set_cons_zero, List.set_cons_succ]
          refine take_one (.int .u8 10) rfl (fun u hu => run_index_at 9 (.tmp 55) (.tmp 61) rfl _ _ _ rfl rfl (Hix.out u)) ?_
          simp only [Act.put, List.setIfInBounds_toArray, List.set_cons_zero, List.set_cons_succ]
          refine take_one (.bool false) rfl (fun u hu => by go_simp) ?_
          simp only [Act.put, List.setIfInBounds_toArray, List.set_cons_zero, List.set_cons_succ]
          refine take_one (.bool false) rfl (fun u hu => by go_simp) ?_
          simp only [Act.put, List.setIfInBounds_toArray, List.set_cons_zero, List.set_cons_succ]
          refine take_one (.bool false) rfl (fun u hu => by go_simp) ?_
          simp only [Act.put, List.setIfInBounds_toArray, List.set_cons_zero, List.set_cons_succ]
          refine take_move (.tmp 65) (.bool false) rfl rfl rfl ?_
          simp only [Act.put, List.setIfInBounds_toArray, List.set_cons_zero, List.set_cons_succ]
          refine take_move (.tmp 5) (.slice (some ⟨b, 0, none⟩) n n) rfl rfl rfl ?_
          simp only [Act.put, List.setIfInBounds_toArray, List.set_cons_zero, List.set_cons_succ]
          refine take_move (.tmp 9) (.int .i64 (k : Int)) rfl rfl rfl ?_
          simp only [Act.put, List.setIfInBounds_toArray, List.set_cons_zero, List.set_cons_succ]
          refine take_one (.pointer (some ⟨b, k, none⟩)) rfl (fun u hu => by go_simp) ?_
          simp only [Act.put, List.setIfInBounds_toArray, List.set_cons_zero, List.set_cons_succ]
          refine take_load 9 (.tmp 69) ⟨b, k, none⟩ (.string z) rfl rfl rfl (fun u hu => load_at Try.underlying9 Try.isAgg9 hu.1) ?_
          simp only [Act.put, List.setIfInBounds_toArray, List.set_cons_zero, List.set_cons_succ]
          refine take_one (.int .i64 (z.size : Int)) rfl (fun u hu => by go_simp) ?_
          simp only [Act.put, List.setIfInBounds_toArray, List.set_cons_zero, List.set_cons_succ]
          refine take_one (.pointer (some ⟨w.heap.size, 3, none⟩)) rfl (fun u _ => by go_simp) ?_
          simp only [Act.put, List.setIfInBounds_toArray, List.set_cons_zero, List.set_cons_succ]
          refine take_load 3 (.tmp 72) ⟨w.heap.size, 3, none⟩ (.int .i64 (mx : Int)) rfl rfl rfl (fun u hu => load_at Try.underlying3 Try.isAgg3 hu.2) ?_
          simp only [Act.put, List.setIfInBounds_toArray, List.set_cons_zero, List.set_cons_succ]
          refine take_one (.int .i64 ((z.size : Int) - (mx : Int))) rfl (fun u hu => by go_simp; exact Hzm.out) ?_
          simp only [Act.put, List.setIfInBounds_toArray, List.set_cons_zero, List.set_cons_succ]
          refine take_move (.tmp 1) (.string s) rfl rfl rfl ?_
          simp only [Act.put, List.setIfInBounds_toArray, List.set_cons_zero, List.set_cons_succ]
          refine take_done ?_
          refine midk_wp rfl (call_wp 13 [.tmp 75] #[9] #[.string s] rfl rfl rfl ?_)
          refine (Cl.out _).mono ?_
          rintro e wl ⟨rfl, hbl⟩
          have hdz := hbl.cell (p := ⟨b, k, none⟩) hbk0
          have hdm := hbl.cell (p := ⟨w.heap.size, 3, none⟩) hwk0
          rw [show wr.drew.cell? ⟨b, k, none⟩ = wr.cell? ⟨b, k, none⟩ from rfl, d] at hdz
          rw [show wr.drew.cell? ⟨w.heap.size, 3, none⟩ = wr.cell? ⟨w.heap.size, 3, none⟩ from rfl, m3] at hdm
          refine ⟨_, rfl, ⟨hdz, hdm⟩, ?_⟩
          simp only [Act.put, List.setIfInBounds_toArray, List.set_cons_zero, List.set_cons_succ]
          refine midk_one (.bool false) rfl (by go_simp; omega) ⟨hdz, hdm⟩ ?_
          simp only [Act.put, List.setIfInBounds_toArray, List.set_cons_zero, List.set_cons_succ]
          refine midk_one (.bool false) rfl (by go_simp) ⟨hdz, hdm⟩ ?_
          simp only [Act.put, List.setIfInBounds_toArray, List.set_cons_zero, List.set_cons_succ]
          refine midk_end ?_
          have hblw : Below wr.heap.size wr wl := below_undrew hbl
          have Hbl := Lib.hid (Hb.out.trans (hblw.mono Hb.out.size))
          have Hvl := Lib.hid (Hv.out.new hblw)
          clear hdm hblw hbl
          go_wp2_with fail
          refine (Cz.out _).mono ?_; rintro e wm ⟨v2, rfl, hv2, hbm⟩
          have hbm2 := Hbl.out.trans (hbm.mono Hbl.out.size)
          have hv3 := Hvl.out.new hbm
          obtain ⟨a3, c3, e3⟩ := hv3.form
          have hs3 := hbm2.size
          have Hbm2 := Lib.hid hbm2; clear hbm2
          have Hv2 := Lib.hid hv2; clear hv2
          have Hv3 := Lib.hid hv3; clear hv3 e3 hbm
          go_wp2_with (at_builtin; go_loud (refine wpList_append_row rfl _ _ 27 rfl w1.heap.size 9 i0 (.string ⟨#[]⟩) 1 16 Try.underlying27 hi0 hz0 hz1 hz2 rfl (by decide) _ _ _ rfl Hv3.out wl.heap.size _ _ _ rfl Hv2.out ?c1 ?c3 ?c4 ?c5 ?_))
          case c1 => intro u hu; obtain ⟨x, _, rfl⟩ := List.mem_map.1 hu; rfl
          case c3 => unfold maxLen; omega
          case c4 => omega
          case c5 => exact hs3
          intro v' w5 hown5 hgrow _
          have hb5 : Below w1.heap.size w1 w5 := (Hbm2.out).grown hgrow hs3 (fun b' h => (World.ownsRow.lt Hv3.out b' h).1)
          have hv5 : TOwn w1.heap.size v' (RS (k + 1)) w5 := by
            unfold TOwn
            rw [Hrs.out, List.length_append, List.map_append]
            exact hown5
          have Hb5 := Lib.hid hb5; clear hb5
          have Hv5 := Lib.hid hv5; clear hv5
          clear hown5 hgrow hs3
          go_wp2_with fail
          go_roundw
          case rel => exact ⟨k + 1, by omega, by go_num, by rw [Hps.out], Hv5.out, Hb5.out⟩
          case measure => simp [intOf]; omega
        · clear hix
          refine wp_region_phases [([0, 1, 2, 3, 4, 5, 6, 7, 8, 9, 10, 11, 12, 13, 14, 15, 16, 17, 18, 19, 20, 21, 22, 23, 24, 25, 26, 27, 28, 29, 30, 31, 32, 33, 34, 35], [36, 37, 38])] (by kernel_rfl) (by kernel_rfl) (fun z1 => z1.cell? ⟨b, k, none⟩ = some (.string z) ∧ z1.cell? ⟨w.heap.size, 3, none⟩ = some (.int .i64 (mx : Int))) ⟨d, m3⟩ ?_
          simp only [wpPhases, pick, List.filterMap_cons, List.filterMap_nil, List.getElem?_toArray, List.getElem?_cons_zero, List.getElem?_cons_succ]
          refine take_move (.tmp 5) (.slice (some ⟨b, 0, none⟩) n n) rfl rfl rfl ?_
          simp only [Act.put, List.setIfInBounds_toArray, List.set_cons_zero, List.set_cons_succ]
          refine take_move (.tmp 9) (.int .i64 (k : Int)) rfl rfl rfl ?_
          simp only [Act.put, List.setIfInBounds_toArray, List.set_cons_zero, List.set_cons_succ]
          refine take_one (.pointer (some ⟨b, k, none⟩)) rfl (fun u hu => by go_simp) ?_
          simp only [Act.put, List.setIfInBounds_toArray, List.set_cons_zero, List.set_cons_succ]
          refine take_load 9 (.tmp 42) ⟨b, k, none⟩ (.string z) rfl rfl rfl (fun u hu => load_at Try.underlying9 Try.isAgg9 hu.1) ?_
          simp only [Act.put, List.setIfInBounds_toArray, List.set_cons_zero, List.set_cons_succ]
          refine take_one (.bool false) rfl (fun u hu => by go_simp; simpa using Hne.out) ?_
          simp only [Act.put, List.setIfInBounds_toArray, List.set_cons_zero, List.set_cons_succ]
          refine take_move (.tmp 44) (.bool false) rfl rfl rfl ?_
          simp only [Act.put, List.setIfInBounds_toArray, List.set_cons_zero, List.set_cons_succ]
          refine take_move (.tmp 9) (.int .i64 (k : Int)) rfl rfl rfl ?_
          simp only [Act.put, List.setIfInBounds_toArray, List.set_cons_zero, List.set_cons_succ]
          refine take_one (.int .i64 ((k : Int) + 1)) rfl (fun u hu => by go_simp; exact Hk1.out) ?_
          simp only [Act.put, List.setIfInBounds_toArray, List.set_cons_zero, List.set_cons_succ]
          refine take_move (.tmp 5) (.slice (some ⟨b, 0, none⟩) n n) rfl rfl rfl ?_
          simp only [Act.put, List.setIfInBounds_toArray, List.set_cons_zero, List.set_cons_succ]
          refine take_one (.int .i64 (n : Int)) rfl (fun u hu => by go_simp) ?_
          simp only [Act.put, List.setIfInBounds_toArray, List.set_cons_zero, List.set_cons_succ]
          refine take_one (.bool false) rfl (fun u hu => by go_simp; omega) ?_
          simp only [Act.put, List.setIfInBounds_toArray, List.set_cons_zero, List.set_cons_succ]
          refine take_move (.tmp 50) (.bool false) rfl rfl rfl ?_
          simp only [Act.put, List.setIfInBounds_toArray, List.set_cons_zero, List.set_cons_succ]
          refine take_skip rfl ?_
          simp only [Act.put, List.setIfInBounds_toArray, List.set_cons_zero, List.set_cons_succ]
          refine take_skip rfl ?_
          simp only [Act.put, List.setIfInBounds_toArray, List.set_cons_zero, List.set_cons_succ]
          refine take_skip rfl ?_
          simp only [Act.put, List.setIfInBounds_toArray, List.set_cons_zero, List.set_cons_succ]
          refine take_skip rfl ?_
          simp only [Act.put, List.setIfInBounds_toArray, List.set_cons_zero, List.set_cons_succ]
          refine take_skip rfl ?_
          simp only [Act.put, List.setIfInBounds_toArray, List.set_cons_zero, List.set_cons_succ]
          refine take_skip rfl ?_
          simp only [Act.put, List.setIfInBounds_toArray, List.set_cons_zero, List.set_cons_succ]
          refine take_skip rfl ?_
          simp only [Act.put, List.setIfInBounds_toArray, List.set_cons_zero, List.set_cons_succ]
          refine take_skip rfl ?_
          simp only [Act.put, List.setIfInBounds_toArray, List.set_cons_zero, List.set_cons_succ]
          refine take_skip rfl ?_
          simp only [Act.put, List.setIfInBounds_toArray, List.set_cons_zero, List.set_cons_succ]
          refine take_skip rfl ?_
          simp only [Act.put, List.setIfInBounds_toArray, List.set_cons_zero, List.set_cons_succ]
          refine take_skip rfl ?_
          simp only [Act.put, List.setIfInBounds_toArray, List.set_cons_zero, List.set_cons_succ]
          refine take_skip rfl ?_
          simp only [Act.put, List.setIfInBounds_toArray, List.set_cons_zero, List.set_cons_succ]
          refine take_one (.bool false) rfl (fun u hu => by go_simp) ?_
          simp only [Act.put, List.setIfInBounds_toArray, List.set_cons_zero, List.set_cons_succ]
          refine take_one (.bool false) rfl (fun u hu => by go_simp) ?_
          simp only [Act.put, List.setIfInBounds_toArray, List.set_cons_zero, List.set_cons_succ]
          refine take_move (.tmp 65) (.bool false) rfl rfl rfl ?_
          simp only [Act.put, List.setIfInBounds_toArray, List.set_cons_zero, List.set_cons_succ]
          refine take_move (.tmp 5) (.slice (some ⟨b, 0, none⟩) n n) rfl rfl rfl ?_
          simp only [Act.put, List.setIfInBounds_toArray, List.set_cons_zero, List.set_cons_succ]
          refine take_move (.tmp 9) (.int .i64 (k : Int)) rfl rfl rfl ?_
          simp only [Act.put, List.setIfInBounds_toArray, List.set_cons_zero, List.set_cons_succ]
          refine take_one (.pointer (some ⟨b, k, none⟩)) rfl (fun u hu => by go_simp) ?_
          simp only [Act.put, List.setIfInBounds_toArray, List.set_cons_zero, List.set_cons_succ]
          refine take_load 9 (.tmp 69) ⟨b, k, none⟩ (.string z) rfl rfl rfl (fun u hu => load_at Try.underlying9 Try.isAgg9 hu.1) ?_
          simp only [Act.put, List.setIfInBounds_toArray, List.set_cons_zero, List.set_cons_succ]
          refine take_one (.int .i64 (z.size : Int)) rfl (fun u hu => by go_simp) ?_
          simp only [Act.put, List.setIfInBounds_toArray, List.set_cons_zero, List.set_cons_succ]
          refine take_one (.pointer (some ⟨w.heap.size, 3, none⟩)) rfl (fun u _ => by go_simp) ?_
          simp only [Act.put, List.setIfInBounds_toArray, List.set_cons_zero, List.set_cons_succ]
          refine take_load 3 (.tmp 72) ⟨w.heap.size, 3, none⟩ (.int .i64 (mx : Int)) rfl rfl rfl (fun u hu => load_at Try.underlying3 Try.isAgg3 hu.2) ?_
          simp only [Act.put, List.setIfInBounds_toArray, List.set_cons_zero, List.set_cons_succ]
          refine take_one (.int .i64 ((z.size : Int) - (mx : Int))) rfl (fun u hu => by go_simp; exact Hzm.out) ?_
          simp only [Act.put, List.setIfInBounds_toArray, List.set_cons_zero, List.set_cons_succ]
          refine take_move (.tmp 1) (.string s) rfl rfl rfl ?_
          simp only [Act.put, List.setIfInBounds_toArray, List.set_cons_zero, List.set_cons_succ]
          refine take_done ?_
          refine midk_wp rfl (call_wp 13 [.tmp 75] #[9] #[.string s] rfl rfl rfl ?_)
          refine (Cl.out _).mono ?_
          rintro e wl ⟨rfl, hbl⟩
          have hdz := hbl.cell (p := ⟨b, k, none⟩) hbk0
          have hdm := hbl.cell (p := ⟨w.heap.size, 3, none⟩) hwk0
          rw [show wr.drew.cell? ⟨b, k, none⟩ = wr.cell? ⟨b, k, none⟩ from rfl, d] at hdz
          rw [show wr.drew.cell? ⟨w.heap.size, 3, none⟩ = wr.cell? ⟨w.heap.size, 3, none⟩ from rfl, m3] at hdm
          refine ⟨_, rfl, ⟨hdz, hdm⟩, ?_⟩
          simp only [Act.put, List.setIfInBounds_toArray, List.set_cons_zero, List.set_cons_succ]
          refine midk_one (.bool false) rfl (by go_simp; omega) ⟨hdz, hdm⟩ ?_
          simp only [Act.put, List.setIfInBounds_toArray, List.set_cons_zero, List.set_cons_succ]
          refine midk_one (.bool false) rfl (by go_simp) ⟨hdz, hdm⟩ ?_
          simp only [Act.put, List.setIfInBounds_toArray, List.set_cons_zero, List.set_cons_succ]
          refine midk_end ?_
          have hblw : Below wr.heap.size wr wl := below_undrew hbl
          have Hbl := Lib.hid (Hb.out.trans (hblw.mono Hb.out.size))
          have Hvl := Lib.hid (Hv.out.new hblw)
          clear hdm hblw hbl
          go_wp2_with fail
          refine (Cz.out _).mono ?_; rintro e wm ⟨v2, rfl, hv2, hbm⟩
          have hbm2 := Hbl.out.trans (hbm.mono Hbl.out.size)
          have hv3 := Hvl.out.new hbm
          obtain ⟨a3, c3, e3⟩ := hv3.form
          have hs3 := hbm2.size
          have Hbm2 := Lib.hid hbm2; clear hbm2
          have Hv2 := Lib.hid hv2; clear hv2
          have Hv3 := Lib.hid hv3; clear hv3 e3 hbm
          go_wp2_with (at_builtin; go_loud (refine wpList_append_row rfl _ _ 27 rfl w1.heap.size 9 i0 (.string ⟨#[]⟩) 1 16 Try.underlying27 hi0 hz0 hz1 hz2 rfl (by decide) _ _ _ rfl Hv3.out wl.heap.size _ _ _ rfl Hv2.out ?c1 ?c3 ?c4 ?c5 ?_))
          case c1 => intro u hu; obtain ⟨x, _, rfl⟩ := List.mem_map.1 hu; rfl
          case c3 => unfold maxLen; omega
          case c4 => omega
          case c5 => exact hs3
          intro v' w5 hown5 hgrow _
          have hb5 : Below w1.heap.size w1 w5 := (Hbm2.out).grown hgrow hs3 (fun b' h => (World.ownsRow.lt Hv3.out b' h).1)
          have hv5 : TOwn w1.heap.size v' (RS (k + 1)) w5 := by
            unfold TOwn
            rw [Hrs.out, List.length_append, List.map_append]
            exact hown5
          have Hb5 := Lib.hid hb5; clear hb5
          have Hv5 := Lib.hid hv5; clear hv5
          clear hown5 hgrow hs3
          go_wp2_with fail
          go_roundw
          case rel => exact ⟨k + 1, by omega, by go_num, by rw [Hps.out], Hv5.out, Hb5.out⟩
          case measure => simp [intOf]; omega
      · have g1 : decide (k < n) = false := decide_eq_false hlt
        have hkn : k = n := by omega
        have e1 : P k = s := by rw [hkn]; exact Ht.out.pn
        have e2 : RS k = recs s := by rw [hkn]; exact Ht.out.rn
        rw [e2] at hv
        rw [e1]
        have hself : (s.toList == s.toList) = true := by simp
        obtain ⟨a4, c4, e4⟩ := hv.form
        have Hv := Lib.hid hv; clear hv
        clear e1 e2 hkn hb
        subst e4
        go_wp2_with fail
        refine (Cr.out _).mono ?_; rintro e wm ⟨v2, rfl, hv2, hbm⟩
        have hv3 := Hv.out.new hbm
        have css := Cs.out _ _ _ hv3.reads hv2.reads
        have HB2 := Lib.hid (HB.out.trans (hbm.mono HB.out.size)); clear hbm HB
        obtain ⟨a5, c5, e5⟩ := hv2.form
        have Css := Lib.hid css; clear css hv3 hv2
        subst e5
        go_wp2_with fail
        refine Css.out.mono ?_; rintro e wn ⟨rfl, hbn⟩
        have HB := Lib.hid (HB2.out.trans (hbn.mono HB2.out.size)); clear hbn HB2
        go_wp2_with fail
        refine (linAlive_any _).mono ?_; rintro e wz ⟨rfl, hz⟩
        have Hbz := Lib.hid (HB.out.trans (hz.mono HB.out.size)); clear hz
        go_wp2_with fail
        go_ret
        exact ⟨rfl, Hbz.out⟩

theorem contract (H : Type) (enc : TypeId × Value → H) (W : World) (base : Nat) (args : Array Value) (ds gs : List (DataW H)) (before : List MemPlace)
    (hval : ∀ (j : Nat) t v, Try.f4.params[j]? = some t → args[j]? = some v → Value.okWide Try.prog W .any base t v)
    (hW : DataW.Whole enc Try.prog Try.f4.params.toList Rows.linesTileSpec.vars false W args.toList ds gs before)
    (hsz : (DataW.weightsEach Try.prog (Try.f4.params.toList ++ Rows.linesTileSpec.plain.varTypes Try.prog) (ds ++ gs)).all (· ≤ reachBytes) = true) :
    Calls Try.prog 4 args W fun e W' => ∃ v, e = .returned v ∧ Rows.linesTileSpec.post enc Try.prog Try.f4 false true false false W args v W' := by
  have hW' := hW
  obtain ⟨p, q, hA0, hV, rfl, hfz, hnd⟩ := hW
  have hA : DataW.TrodAll enc Try.prog W 0 (fun _ => true) true Try.f4.params.toList args.toList ds p := hA0
  rw [Try.params4] at hA hval hsz
  obtain ⟨v0, vs0, d0, ds0, p0, q0, hargs, rfl, rfl, h0, r0⟩ := trodAll_cons hA
  obtain ⟨v1, vs1, d1, ds1, p1, q1, rfl, rfl, rfl, h1, r1⟩ := trodAll_cons r0
  obtain ⟨rfl, rfl, rfl⟩ := trodAll_nil r1
  obtain rfl : args = #[v0, v1] := Array.ext' hargs
  obtain ⟨rfl, rfl⟩ := trodVars_none hV
  have k0 := h0
  have lt0 : ∀ x ∈ p0, x.block < W.heap.size := by obtain ⟨m, hm⟩ := k0; exact DataW.trod_lt m _ _ _ hm
  obtain ⟨c0, rfl, wc0⟩ := open_cutter Try.underlying24 rfl rfl rfl rfl rfl Try.underlying22 Try.underlying3 (by kernel_rfl) (by kernel_rfl) (hval 0 24 v0 rfl rfl) h0
  obtain ⟨s1, rfl, rfl, rfl, m1⟩ := open_string Try.underlying9 (hval 1 9 v1 rfl rfl) h1
  clear hA0
  have z1 : s1.size ≤ 140737488351232 := by
    have := List.all_eq_true.1 hsz s1.data.toList.length (by simp [DataW.weightsEach, DataW.weights])
    rw [ba_len] at this
    exact of_decide_eq_true this
  refine (walk c0 s1 W wc0 z1).mono fun e W' ⟨he, bel⟩ => ?_
  subst he
  exact ⟨_, rfl, _, _, _, [], _, [], hW', trodAll_mk1 (shut_bool Try.underlying4 _), (trodAll_cons_mk (Below.trod laidOut (by kernel_rfl) (of_decide_eq_true (by kernel_rfl)) k0 bel lt0) (trodAll_cons_mk (shut_string Try.underlying9 m1) trodAll_mk0)), rfl, bel.frame _, fun h => by cases h⟩

set_option maxRecDepth 100000 in
theorem lifted (os : Os) (started : os.Started) (H : Type) (enc : TypeId × Value → H) :
    ReturnsInHanded {} Try.checked os 4 .any (Rows.linesTileSpec.pre6 enc Try.prog Try.f4 Rows.linesTileRow.domain false) (Rows.linesTileSpec.post enc Try.prog Try.f4 false true false false) := by
  refine returnsInHanded_of_change_sized (C := Try.checked) own started (by kernel_rfl) Try.func4
    (ChangeSpec.witness6 (enc := enc) (C := Try.checked) false ⟨#[], #[.agg #[.int .u64 0, .int .i64 0, .int .i64 0, .int .i64 0, .int .i64 0], .string .empty], []⟩ 8 (by kernel_rfl) (by kernel_rfl) (by kernel_rfl) (by kernel_rfl)) ?_
  intro W base args ds gs before hval hW hcnd hsz _
  exact contract H enc W base args ds gs before hval hW hsz

theorem over : Rows.linesTileRow.holds Try.pinned (OpenSpec.ofChange Rows.linesTileSpec) :=
  OpenClaim.holds_of_wide 4 Try.f4 rfl rfl rfl rfl rfl rfl rfl ⟨rfl, rfl, rfl, rfl, rfl⟩ rfl rfl rfl rfl rfl (by kernel_rfl) Try.func4 (by kernel_rfl)
    (of_decide_eq_true (by kernel_rfl)) (by unfold Func.isWrapper; first | (rw [if_pos (by decide +kernel)]; kernel_rfl) | (rw [if_neg (by decide +kernel)]; exact ⟨rfl, rfl⟩))
    (fun os started H enc _ => lifted os started H enc)

theorem proved : Rows.LinesTileSaid := over

end Go.Proofs.Ytbcncedgfafpiaa.linesTile
