/-
  What the document's May and Mark of layer 9 return.
-/
import Derived.Test.YtofiimkpbbiegaaChuPcs
import Derived.Test.YtofiimkpbbiegaaRabRef
import Derived.Test.YtofiimkpbbiegaaChuIter
set_option linter.unusedVariables false
set_option maxRecDepth 100000
namespace Go.Proofs.Ytofiimkpbbiegaa
open Go.RowKit
attribute [local go_sem] Oper.semAt_some

theorem below_undrew {w w' : World} (h : Below w.drew.heap.size w.drew w') : Below w.heap.size w w' := ⟨h.os, h.tape, h.output, h.size, h.block⟩
set_option maxHeartbeats 1000000 in
theorem refMay9_any (c : Ctr) (hp : c.p < 18446744073709551616) (w : World) :
    Calls Try.prog 13 #[c.v] w fun e w' => e = .returned (.bool (decide c.May)) ∧ Below w.heap.size w w' := by
  have hd : decide c.May = decide (rabMay c.p c.n ∧ (c.n ≤ c.mn ∧ c.mn ≤ c.mx) ∧ (1 ≤ c.mx ∧ c.mx ≤ 4096) ∧ (0 ≤ c.b ∧ c.b ≤ 16)) := rfl
  rw [hd]
  clear hd
  obtain ⟨p, n, mn, mx, b⟩ := c
  unfold Ctr.v
  simp only at hp ⊢
  have hb := box_below w (.cells #[.int .u64 p, .int .i64 n, .int .i64 mn, .int .i64 mx, .int .i64 b] 24)
  have Hb := Lib.hid hb; clear hb
  have cm := fun u => rmay_any p n hp u
  by_cases h0 : rabMay p n
  rotate_left
  · rw [decide_eq_false (fun h => h0 h.1 : ¬ (rabMay p n ∧ (n ≤ mn ∧ mn ≤ mx) ∧ (1 ≤ mx ∧ mx ≤ 4096) ∧ (0 ≤ b ∧ b ≤ 16)))]
    rw [decide_eq_false h0] at cm
    have Cm := Lib.hid cm; clear cm
    clear h0
    go_enter Try.func13, Try.ntmps13
    go_wp2_with fail
    refine (Cm.out _).mono ?_; rintro e w1 ⟨rfl, rfl⟩
    go_wp2_with fail
    go_ret
    exact ⟨rfl, Hb.out⟩
  rw [decide_eq_true h0] at cm
  have Cm := Lib.hid cm; clear cm
  by_cases h1 : n ≤ mn
  rotate_left
  · rw [decide_eq_false (fun h => h1 h.2.1.1 : ¬ (rabMay p n ∧ (n ≤ mn ∧ mn ≤ mx) ∧ (1 ≤ mx ∧ mx ≤ 4096) ∧ (0 ≤ b ∧ b ≤ 16)))]
    have g1 : decide (n ≤ mn) = false := decide_eq_false h1
    clear h1
    go_enter Try.func13, Try.ntmps13
    go_wp2_with fail
    refine (Cm.out _).mono ?_; rintro e w1 ⟨rfl, rfl⟩
    go_wp2_with fail
    go_ret
    exact ⟨rfl, Hb.out⟩
  have g1 : decide (n ≤ mn) = true := decide_eq_true h1
  by_cases h2 : mn ≤ mx
  rotate_left
  · rw [decide_eq_false (fun h => h2 h.2.1.2 : ¬ (rabMay p n ∧ (n ≤ mn ∧ mn ≤ mx) ∧ (1 ≤ mx ∧ mx ≤ 4096) ∧ (0 ≤ b ∧ b ≤ 16)))]
    have g2 : decide (mn ≤ mx) = false := decide_eq_false h2
    clear h2
    go_enter Try.func13, Try.ntmps13
    go_wp2_with fail
    refine (Cm.out _).mono ?_; rintro e w1 ⟨rfl, rfl⟩
    go_wp2_with fail
    go_ret
    exact ⟨rfl, Hb.out⟩
  have g2 : decide (mn ≤ mx) = true := decide_eq_true h2
  by_cases h3 : 1 ≤ mx
  rotate_left
  · rw [decide_eq_false (fun h => h3 h.2.2.1.1 : ¬ (rabMay p n ∧ (n ≤ mn ∧ mn ≤ mx) ∧ (1 ≤ mx ∧ mx ≤ 4096) ∧ (0 ≤ b ∧ b ≤ 16)))]
    have g3 : decide (1 ≤ mx) = false := decide_eq_false h3
    clear h3
    go_enter Try.func13, Try.ntmps13
    go_wp2_with fail
    refine (Cm.out _).mono ?_; rintro e w1 ⟨rfl, rfl⟩
    go_wp2_with fail
    go_ret
    exact ⟨rfl, Hb.out⟩
  have g3 : decide (1 ≤ mx) = true := decide_eq_true h3
  by_cases h4 : mx ≤ 4096
  rotate_left
  · rw [decide_eq_false (fun h => h4 h.2.2.1.2 : ¬ (rabMay p n ∧ (n ≤ mn ∧ mn ≤ mx) ∧ (1 ≤ mx ∧ mx ≤ 4096) ∧ (0 ≤ b ∧ b ≤ 16)))]
    have g4 : decide (mx ≤ 4096) = false := decide_eq_false h4
    clear h4
    go_enter Try.func13, Try.ntmps13
    go_wp2_with fail
    refine (Cm.out _).mono ?_; rintro e w1 ⟨rfl, rfl⟩
    go_wp2_with fail
    go_ret
    exact ⟨rfl, Hb.out⟩
  have g4 : decide (mx ≤ 4096) = true := decide_eq_true h4
  by_cases h5 : 0 ≤ b
  rotate_left
  · rw [decide_eq_false (fun h => h5 h.2.2.2.1 : ¬ (rabMay p n ∧ (n ≤ mn ∧ mn ≤ mx) ∧ (1 ≤ mx ∧ mx ≤ 4096) ∧ (0 ≤ b ∧ b ≤ 16)))]
    have g5 : decide (0 ≤ b) = false := decide_eq_false h5
    clear h5
    go_enter Try.func13, Try.ntmps13
    go_wp2_with fail
    refine (Cm.out _).mono ?_; rintro e w1 ⟨rfl, rfl⟩
    go_wp2_with fail
    go_ret
    exact ⟨rfl, Hb.out⟩
  have g5 : decide (0 ≤ b) = true := decide_eq_true h5
  by_cases h6 : b ≤ 16
  rotate_left
  · rw [decide_eq_false (fun h => h6 h.2.2.2.2 : ¬ (rabMay p n ∧ (n ≤ mn ∧ mn ≤ mx) ∧ (1 ≤ mx ∧ mx ≤ 4096) ∧ (0 ≤ b ∧ b ≤ 16)))]
    have g6 : decide (b ≤ 16) = false := decide_eq_false h6
    clear h6
    go_enter Try.func13, Try.ntmps13
    go_wp2_with fail
    refine (Cm.out _).mono ?_; rintro e w1 ⟨rfl, rfl⟩
    go_wp2_with fail
    go_ret
    exact ⟨rfl, Hb.out⟩
  have g6 : decide (b ≤ 16) = true := decide_eq_true h6
  rw [decide_eq_true (⟨h0, ⟨h1, h2⟩, ⟨h3, h4⟩, ⟨h5, h6⟩⟩ : rabMay p n ∧ (n ≤ mn ∧ mn ≤ mx) ∧ (1 ≤ mx ∧ mx ≤ 4096) ∧ (0 ≤ b ∧ b ≤ 16))]
  clear h0 h1 h2 h3 h4 h5 h6
  go_enter Try.func13, Try.ntmps13
  go_wp2_with fail
  refine (Cm.out _).mono ?_; rintro e w1 ⟨rfl, rfl⟩
  go_wp2_with fail
  go_ret
  exact ⟨rfl, Hb.out⟩

set_option maxHeartbeats 1000000 in
theorem refMark_any (c : Ctr) (hm : c.May) (s : ByteArray) (hsz : s.size ≤ 140737488351232) (i : Nat) (hi : i ≤ s.size) (w : World) :
    Calls Try.prog 30 #[c.v, .string s, .int .i64 (i : Int)] w fun e w' => e = .returned (.bool (c.isMk s.data.toList i)) ∧ Below w.heap.size w w' := by
  have hb0 := hm.2.2.2.1
  have hb1 := hm.2.2.2.2
  obtain ⟨k, hk⟩ : ∃ k : Nat, c.b = (k : Int) := ⟨c.b.toNat, by omega⟩
  obtain ⟨n, hn⟩ : ∃ n : Nat, c.n = (n : Int) := ⟨c.n.toNat, by have := hm.1.2.1; omega⟩
  have hk16 : k ≤ 16 := by omega
  have hn64 : n ≤ 64 := by have := hm.1.2.2; omega
  have hfine := hm.1.1
  have hmk : c.isMk s.data.toList i = (Pol.fp c.p (Pol.last n (s.data.toList.take i)) &&& (2 ^ k - 1) == 2 ^ k - 1) := by
    unfold Ctr.isMk
    rw [Chu.mark_is, hk, hn, Int.toNat_natCast, Int.toNat_natCast]
  have hz : (s.extract 0 i).size ≤ 140737488351232 := by rw [ByteArray.size_extract]; omega
  have cl := fun u => rlast_any (s.extract 0 i) n hn64 hz u
  have hly : (⟨(Pol.last n (s.extract 0 i).data.toList).toArray⟩ : ByteArray).size ≤ 9223372036854775807 := by
    have := Pol.last_length n (s.extract 0 i).data.toList
    simp only [ByteArray.size, List.size_toArray, this]
    omega
  have co := fun u => rof_any c.p ⟨(Pol.last n (s.extract 0 i).data.toList).toArray⟩ hfine hly u
  have hy64 := fp_room hfine (Pol.fp_len (Pol.fine_ne hfine) (Pol.last n (s.data.toList.take i)))
  have htk := text_take s i
  obtain ⟨y, hy⟩ : ∃ y, Pol.fp c.p (Pol.last n (s.data.toList.take i)) = y := ⟨_, rfl⟩
  have e1 : Pol.fp c.p (Pol.last n (s.extract 0 i).data.toList) = y := by rw [htk]; exact hy
  simp only [e1] at co
  rw [hy] at hmk hy64
  have hbw := box_below w (.cells #[.int .u64 c.p, .int .i64 c.n, .int .i64 c.mn, .int .i64 c.mx, .int .i64 c.b] 24)
  have hrow := CtrAt.box c w
  have e0 := hrow.c0
  have e1 := hrow.c1.trans (show some (Value.int .i64 c.n) = some (Value.int .i64 (n : Int)) by rw [hn])
  have e4 := hrow.c4.trans (show some (Value.int .i64 c.b) = some (Value.int .i64 (k : Int)) by rw [hk])
  have hsl := text_head s i hi
  have Hsl := Lib.hid hsl; clear hsl
  have Cl := Lib.hid cl; clear cl
  have Co := Lib.hid co; clear co
  have Hn := Lib.hid hn; clear hn
  have Hk := Lib.hid hk; clear hk
  have Hmk := Lib.hid hmk; clear hmk
  have Hbw := Lib.hid hbw; clear hbw
  clear hb0 hb1 hz hly htk hy hm
  unfold Ctr.v at *
  go_enter Try.func30, Try.ntmps30
  go_wp2_with fail
  refine wp_region_phases [([0, 1, 2, 3, 4, 5, 6], [7, 8, 9])] (by kernel_rfl) (by kernel_rfl) (fun z => z.cell? ⟨w.heap.size, 0, none⟩ = some (.int .u64 (c.p : Int)) ∧ z.cell? ⟨w.heap.size, 1, none⟩ = some (.int .i64 (n : Int))) ⟨e0, e1⟩ ?_
  simp only [wpPhases, pick, List.filterMap_cons, List.filterMap_nil, List.getElem?_toArray, List.getElem?_cons_zero, List.getElem?_cons_succ]
  refine take_one (.pointer (some ⟨w.heap.size, 0, none⟩)) rfl (fun u _ => by go_simp) ?_
  simp only [Act.put, List.setIfInBounds_toArray, List.set_cons_zero, List.set_cons_succ]
  refine take_load 22 (.tmp 9) ⟨w.heap.size, 0, none⟩ (.int .u64 (c.p : Int)) rfl rfl rfl (fun u hu => load_at Try.underlying22 Try.isAgg22 hu.1) ?_
  simp only [Act.put, List.setIfInBounds_toArray, List.set_cons_zero, List.set_cons_succ]
  refine take_move (.tmp 1) (.string s) rfl rfl rfl ?_
  simp only [Act.put, List.setIfInBounds_toArray, List.set_cons_zero, List.set_cons_succ]
  refine take_move (.tmp 2) (.int .i64 (i : Int)) rfl rfl rfl ?_
  simp only [Act.put, List.setIfInBounds_toArray, List.set_cons_zero, List.set_cons_succ]
  refine take_one (.string (s.extract 0 i)) rfl (fun u hu => run_sub_hi 9 (.tmp 11) (.tmp 12) rfl _ _ _ rfl rfl (Hsl.out u)) ?_
  simp only [Act.put, List.setIfInBounds_toArray, List.set_cons_zero, List.set_cons_succ]
  refine take_one (.pointer (some ⟨w.heap.size, 1, none⟩)) rfl (fun u _ => by go_simp) ?_
  simp only [Act.put, List.setIfInBounds_toArray, List.set_cons_zero, List.set_cons_succ]
  refine take_load 3 (.tmp 14) ⟨w.heap.size, 1, none⟩ (.int .i64 (n : Int)) rfl rfl rfl (fun u hu => load_at Try.underlying3 Try.isAgg3 hu.2) ?_
  simp only [Act.put, List.setIfInBounds_toArray, List.set_cons_zero, List.set_cons_succ]
  refine take_done ?_
  refine midk_wp rfl (call_wp 40 [.tmp 13, .tmp 15] #[9, 3] #[.string (s.extract 0 i), .int .i64 (n : Int)] rfl rfl rfl ?_)
  refine (Cl.out _).mono ?_
  rintro e w3 ⟨rfl, h3⟩
  have h3' := below_undrew h3
  have d0' := hrow.new h3'
  refine ⟨_, rfl, ⟨d0'.c0, d0'.c1.trans (show some (Value.int .i64 c.n) = some (Value.int .i64 (n : Int)) by rw [Hn.out])⟩, ?_⟩
  simp only [Act.put, List.setIfInBounds_toArray, List.set_cons_zero, List.set_cons_succ]
  refine midk_wp rfl (call_wp 39 [.tmp 10, .tmp 16] #[22, 9] #[.int .u64 (c.p : Int), .string ⟨(Pol.last n (s.extract 0 i).data.toList).toArray⟩] rfl rfl rfl ?_)
  refine (Co.out _).mono ?_
  rintro e w4 ⟨rfl, hw4⟩
  subst hw4
  refine ⟨_, rfl, ⟨d0'.c0, d0'.c1.trans (show some (Value.int .i64 c.n) = some (Value.int .i64 (n : Int)) by rw [Hn.out])⟩, ?_⟩
  simp only [Act.put, List.setIfInBounds_toArray, List.set_cons_zero, List.set_cons_succ]
  refine midk_one (.int .u64 (y : Int)) rfl (by go_simp) ⟨d0'.c0, d0'.c1.trans (show some (Value.int .i64 c.n) = some (Value.int .i64 (n : Int)) by rw [Hn.out])⟩ ?_
  simp only [Act.put, List.setIfInBounds_toArray, List.set_cons_zero, List.set_cons_succ]
  refine midk_end ?_
  have hbe := Hbw.out.trans (h3'.mono Hbw.out.size)
  have e4' := d0'.c4.trans (show some (Value.int .i64 c.b) = some (Value.int .i64 (k : Int)) by rw [Hk.out])
  have hlow := low_bits k hk16
  have hq64 : 2 ^ k ≤ 2 ^ 16 := Nat.pow_le_pow_right (by omega) hk16
  have hkw : IntKind.u64.wrap (k : Int) = (k : Int) := wrap_u64_in _ (by omega) (by omega)
  obtain ⟨q, hq⟩ : ∃ q, q = 2 ^ k - 1 := ⟨_, rfl⟩
  have hand := u64_and_nat y q (by omega) (by omega)
  have hres := Hmk.out
  rw [← hq] at hlow hres
  have hbeq : ((((y &&& q : Nat) : Int)) == (q : Int)) = (y &&& q == q) := by
    rw [Bool.eq_iff_iff]
    simp only [beq_iff_eq]
    omega
  rw [← hbeq] at hres
  generalize (y &&& q) = r at *
  have Hres := Lib.hid hres; clear hres Hmk hbeq
  have Hbe := Lib.hid hbe; clear hbe
  clear e0 e1 e4 hrow h3 h3' d0' hq hq64 Cl Co Hsl hy64
  go_wp2_with fail
  go_ret
  exact ⟨by rw [Hres.out]; rfl, Hbe.out⟩
end Go.Proofs.Ytofiimkpbbiegaa
