/- Put together of: ChuRef ChuRef2 ChuSame ChuAlive ChuLawP ChuArg ChuTil -/
import Derived.Test.YtcmlcpejlmlcfaaChuB
import Derived.Test.YtcmlcpejlmlcfaaRabA
import Derived.Test.YtcmlcpejlmlcfaaChuA
import Derived.BigQuiet
import Derived.Lib.SmallJoins
import Derived.Deep.Fields
import Derived.ChangeSame
import Derived.SizedLaws
import Derived.Lib.Explode
set_option maxRecDepth 100000
/-
  What the document's May and Mark of layer 9 return.
-/
set_option linter.unusedVariables false
set_option maxRecDepth 100000
namespace Go.Proofs.Ytcmlcpejlmlcfaa
open Go.RowKit
attribute [local go_sem] Oper.semAt_some

theorem below_undrew {w w' : World} (h : Below w.drew.heap.size w.drew w') : Below w.heap.size w w' := ⟨h.os, h.tape, h.output, h.size, h.block⟩
set_option maxHeartbeats 1000000 in
theorem refMay9_any (c : Ctr) (hp : c.p < 18446744073709551616) (w : World) :
    Calls Try.prog 16 #[c.v] w fun e w' => e = .returned (.bool (decide c.May)) ∧ Below w.heap.size w w' := by
  have hd : decide c.May = decide (rabMay c.p c.n ∧ (c.n ≤ c.mn ∧ c.mn ≤ c.mx) ∧ (1 ≤ c.mx ∧ c.mx ≤ 4096) ∧ (0 ≤ c.b ∧ c.b ≤ 16)) := rfl
  rw [hd]
  clear hd
  obtain ⟨p, n, mn, mx, b⟩ := c
  unfold Ctr.v
  simp only at hp ⊢
  have hb := box_below w (.cells #[.int .u64 p, .int .i64 n, .int .i64 mn, .int .i64 mx, .int .i64 b] 38)
  have Hb := Lib.hid hb; clear hb
  have cm := fun u => rmay_any p n hp u
  by_cases h0 : rabMay p n
  rotate_left
  · rw [decide_eq_false (fun h => h0 h.1 : ¬ (rabMay p n ∧ (n ≤ mn ∧ mn ≤ mx) ∧ (1 ≤ mx ∧ mx ≤ 4096) ∧ (0 ≤ b ∧ b ≤ 16)))]
    rw [decide_eq_false h0] at cm
    have Cm := Lib.hid cm; clear cm
    clear h0
    go_enter Try.func16, Try.ntmps16
    go_wp2_with fail
    refine (Cm.out _).mono ?_; rintro e w1 ⟨rfl, rfl⟩
    go_wp2_with fail
    go_ret
    exact ⟨rfl, Hb.out⟩
  rw [decide_eq_true h0] at cm
  have Cm := Lib.hid cm; clear cm
  by_cases h1 : n ≤ mn
  rotate_left
  · rw [decide_eq_false (fun h => h1 h.2.1.1 : ¬ (rabMay p n ∧ (n ≤ mn ∧ mn ≤ mx) ∧ (1 ≤ mx ∧ mx ≤ 4096) ∧ (0 ≤ b ∧ b ≤ 16)))]
    have g1 : decide (n ≤ mn) = false := decide_eq_false h1
    clear h1
    go_enter Try.func16, Try.ntmps16
    go_wp2_with fail
    refine (Cm.out _).mono ?_; rintro e w1 ⟨rfl, rfl⟩
    go_wp2_with fail
    go_ret
    exact ⟨rfl, Hb.out⟩
  have g1 : decide (n ≤ mn) = true := decide_eq_true h1
  by_cases h2 : mn ≤ mx
  rotate_left
  · rw [decide_eq_false (fun h => h2 h.2.1.2 : ¬ (rabMay p n ∧ (n ≤ mn ∧ mn ≤ mx) ∧ (1 ≤ mx ∧ mx ≤ 4096) ∧ (0 ≤ b ∧ b ≤ 16)))]
    have g2 : decide (mn ≤ mx) = false := decide_eq_false h2
    clear h2
    go_enter Try.func16, Try.ntmps16
    go_wp2_with fail
    refine (Cm.out _).mono ?_; rintro e w1 ⟨rfl, rfl⟩
    go_wp2_with fail
    go_ret
    exact ⟨rfl, Hb.out⟩
  have g2 : decide (mn ≤ mx) = true := decide_eq_true h2
  by_cases h3 : 1 ≤ mx
  rotate_left
  · rw [decide_eq_false (fun h => h3 h.2.2.1.1 : ¬ (rabMay p n ∧ (n ≤ mn ∧ mn ≤ mx) ∧ (1 ≤ mx ∧ mx ≤ 4096) ∧ (0 ≤ b ∧ b ≤ 16)))]
    have g3 : decide (1 ≤ mx) = false := decide_eq_false h3
    clear h3
    go_enter Try.func16, Try.ntmps16
    go_wp2_with fail
    refine (Cm.out _).mono ?_; rintro e w1 ⟨rfl, rfl⟩
    go_wp2_with fail
    go_ret
    exact ⟨rfl, Hb.out⟩
  have g3 : decide (1 ≤ mx) = true := decide_eq_true h3
  by_cases h4 : mx ≤ 4096
  rotate_left
  · rw [decide_eq_false (fun h => h4 h.2.2.1.2 : ¬ (rabMay p n ∧ (n ≤ mn ∧ mn ≤ mx) ∧ (1 ≤ mx ∧ mx ≤ 4096) ∧ (0 ≤ b ∧ b ≤ 16)))]
    have g4 : decide (mx ≤ 4096) = false := decide_eq_false h4
    clear h4
    go_enter Try.func16, Try.ntmps16
    go_wp2_with fail
    refine (Cm.out _).mono ?_; rintro e w1 ⟨rfl, rfl⟩
    go_wp2_with fail
    go_ret
    exact ⟨rfl, Hb.out⟩
  have g4 : decide (mx ≤ 4096) = true := decide_eq_true h4
  by_cases h5 : 0 ≤ b
  rotate_left
  · rw [decide_eq_false (fun h => h5 h.2.2.2.1 : ¬ (rabMay p n ∧ (n ≤ mn ∧ mn ≤ mx) ∧ (1 ≤ mx ∧ mx ≤ 4096) ∧ (0 ≤ b ∧ b ≤ 16)))]
    have g5 : decide (0 ≤ b) = false := decide_eq_false h5
    clear h5
    go_enter Try.func16, Try.ntmps16
    go_wp2_with fail
    refine (Cm.out _).mono ?_; rintro e w1 ⟨rfl, rfl⟩
    go_wp2_with fail
    go_ret
    exact ⟨rfl, Hb.out⟩
  have g5 : decide (0 ≤ b) = true := decide_eq_true h5
  by_cases h6 : b ≤ 16
  rotate_left
  · rw [decide_eq_false (fun h => h6 h.2.2.2.2 : ¬ (rabMay p n ∧ (n ≤ mn ∧ mn ≤ mx) ∧ (1 ≤ mx ∧ mx ≤ 4096) ∧ (0 ≤ b ∧ b ≤ 16)))]
    have g6 : decide (b ≤ 16) = false := decide_eq_false h6
    clear h6
    go_enter Try.func16, Try.ntmps16
    go_wp2_with fail
    refine (Cm.out _).mono ?_; rintro e w1 ⟨rfl, rfl⟩
    go_wp2_with fail
    go_ret
    exact ⟨rfl, Hb.out⟩
  have g6 : decide (b ≤ 16) = true := decide_eq_true h6
  rw [decide_eq_true (⟨h0, ⟨h1, h2⟩, ⟨h3, h4⟩, ⟨h5, h6⟩⟩ : rabMay p n ∧ (n ≤ mn ∧ mn ≤ mx) ∧ (1 ≤ mx ∧ mx ≤ 4096) ∧ (0 ≤ b ∧ b ≤ 16))]
  clear h0 h1 h2 h3 h4 h5 h6
  go_enter Try.func16, Try.ntmps16
  go_wp2_with fail
  refine (Cm.out _).mono ?_; rintro e w1 ⟨rfl, rfl⟩
  go_wp2_with fail
  go_ret
  exact ⟨rfl, Hb.out⟩

set_option maxHeartbeats 1000000 in
theorem refMark_any (c : Ctr) (hm : c.May) (s : ByteArray) (hsz : s.size ≤ 140737488351232) (i : Nat) (hi : i ≤ s.size) (w : World) :
    Calls Try.prog 57 #[c.v, .string s, .int .i64 (i : Int)] w fun e w' => e = .returned (.bool (c.isMk s.data.toList i)) ∧ Below w.heap.size w w' := by
  have hb0 := hm.2.2.2.1
  have hb1 := hm.2.2.2.2
  obtain ⟨k, hk⟩ : ∃ k : Nat, c.b = (k : Int) := ⟨c.b.toNat, by omega⟩
  obtain ⟨n, hn⟩ : ∃ n : Nat, c.n = (n : Int) := ⟨c.n.toNat, by have := hm.1.2.1; omega⟩
  have hk16 : k ≤ 16 := by omega
  have hn64 : n ≤ 64 := by have := hm.1.2.2; omega
  have hfine := hm.1.1
  have hmk : c.isMk s.data.toList i = (Pol.fp c.p (Pol.last n (s.data.toList.take i)) &&& (2 ^ k - 1) == 2 ^ k - 1) := by
    unfold Ctr.isMk
    rw [Chu.mark_is, hk, hn, Int.toNat_natCast, Int.toNat_natCast]
  have hz : (s.extract 0 i).size ≤ 140737488351232 := by rw [ByteArray.size_extract]; omega
  have cl := fun u => rlast_any (s.extract 0 i) n hn64 hz u
  have hly : (⟨(Pol.last n (s.extract 0 i).data.toList).toArray⟩ : ByteArray).size ≤ 9223372036854775807 := by
    have := Pol.last_length n (s.extract 0 i).data.toList
    simp only [ByteArray.size, List.size_toArray, this]
    omega
  have co := fun u => rof_any c.p ⟨(Pol.last n (s.extract 0 i).data.toList).toArray⟩ hfine hly u
  have hy64 := fp_room hfine (Pol.fp_len (Pol.fine_ne hfine) (Pol.last n (s.data.toList.take i)))
  have htk := text_take s i
  obtain ⟨y, hy⟩ : ∃ y, Pol.fp c.p (Pol.last n (s.data.toList.take i)) = y := ⟨_, rfl⟩
  have e1 : Pol.fp c.p (Pol.last n (s.extract 0 i).data.toList) = y := by rw [htk]; exact hy
  simp only [e1] at co
  rw [hy] at hmk hy64
  have hbw := box_below w (.cells #[.int .u64 c.p, .int .i64 c.n, .int .i64 c.mn, .int .i64 c.mx, .int .i64 c.b] 38)
  have hrow := CtrAt.box c w
  have e0 := hrow.c0
  have e1 := hrow.c1.trans (show some (Value.int .i64 c.n) = some (Value.int .i64 (n : Int)) by rw [hn])
  have e4 := hrow.c4.trans (show some (Value.int .i64 c.b) = some (Value.int .i64 (k : Int)) by rw [hk])
  have hsl := text_head s i hi
  have Hsl := Lib.hid hsl; clear hsl
  have Cl := Lib.hid cl; clear cl
  have Co := Lib.hid co; clear co
  have Hn := Lib.hid hn; clear hn
  have Hk := Lib.hid hk; clear hk
  have Hmk := Lib.hid hmk; clear hmk
  have Hbw := Lib.hid hbw; clear hbw
  clear hb0 hb1 hz hly htk hy hm
  unfold Ctr.v at *
  go_enter Try.func57, Try.ntmps57
  go_wp2_with fail
  refine wp_region_phases [([0, 1, 2, 3, 4, 5, 6], [7, 8, 9])] (by kernel_rfl) (by kernel_rfl) (fun z => z.cell? ⟨w.heap.size, 0, none⟩ = some (.int .u64 (c.p : Int)) ∧ z.cell? ⟨w.heap.size, 1, none⟩ = some (.int .i64 (n : Int))) ⟨e0, e1⟩ ?_
  simp only [wpPhases, pick, List.filterMap_cons, List.filterMap_nil, List.getElem?_toArray, List.getElem?_cons_zero, List.getElem?_cons_succ]
  refine take_one (.pointer (some ⟨w.heap.size, 0, none⟩)) rfl (fun u _ => by go_simp) ?_
  simp only [Act.put, List.setIfInBounds_toArray, List.set_cons_zero, List.set_cons_succ]
  refine take_load 36 (.tmp 9) ⟨w.heap.size, 0, none⟩ (.int .u64 (c.p : Int)) rfl rfl rfl (fun u hu => load_at Try.underlying36 Try.isAgg36 hu.1) ?_
  simp only [Act.put, List.setIfInBounds_toArray, List.set_cons_zero, List.set_cons_succ]
  refine take_move (.tmp 1) (.string s) rfl rfl rfl ?_
  simp only [Act.put, List.setIfInBounds_toArray, List.set_cons_zero, List.set_cons_succ]
  refine take_move (.tmp 2) (.int .i64 (i : Int)) rfl rfl rfl ?_
  simp only [Act.put, List.setIfInBounds_toArray, List.set_cons_zero, List.set_cons_succ]
  refine take_one (.string (s.extract 0 i)) rfl (fun u hu => run_sub_hi 9 (.tmp 11) (.tmp 12) rfl _ _ _ rfl rfl (Hsl.out u)) ?_
  simp only [Act.put, List.setIfInBounds_toArray, List.set_cons_zero, List.set_cons_succ]
  refine take_one (.pointer (some ⟨w.heap.size, 1, none⟩)) rfl (fun u _ => by go_simp) ?_
  simp only [Act.put, List.setIfInBounds_toArray, List.set_cons_zero, List.set_cons_succ]
  refine take_load 3 (.tmp 14) ⟨w.heap.size, 1, none⟩ (.int .i64 (n : Int)) rfl rfl rfl (fun u hu => load_at Try.underlying3 Try.isAgg3 hu.2) ?_
  simp only [Act.put, List.setIfInBounds_toArray, List.set_cons_zero, List.set_cons_succ]
  refine take_done ?_
  refine midk_wp rfl (call_wp 65 [.tmp 13, .tmp 15] #[9, 3] #[.string (s.extract 0 i), .int .i64 (n : Int)] rfl rfl rfl ?_)
  refine (Cl.out _).mono ?_
  rintro e w3 ⟨rfl, h3⟩
  have h3' := below_undrew h3
  have d0' := hrow.new h3'
  refine ⟨_, rfl, ⟨d0'.c0, d0'.c1.trans (show some (Value.int .i64 c.n) = some (Value.int .i64 (n : Int)) by rw [Hn.out])⟩, ?_⟩
  simp only [Act.put, List.setIfInBounds_toArray, List.set_cons_zero, List.set_cons_succ]
  refine midk_wp rfl (call_wp 64 [.tmp 10, .tmp 16] #[36, 9] #[.int .u64 (c.p : Int), .string ⟨(Pol.last n (s.extract 0 i).data.toList).toArray⟩] rfl rfl rfl ?_)
  refine (Co.out _).mono ?_
  rintro e w4 ⟨rfl, hw4⟩
  subst hw4
  refine ⟨_, rfl, ⟨d0'.c0, d0'.c1.trans (show some (Value.int .i64 c.n) = some (Value.int .i64 (n : Int)) by rw [Hn.out])⟩, ?_⟩
  simp only [Act.put, List.setIfInBounds_toArray, List.set_cons_zero, List.set_cons_succ]
  refine midk_one (.int .u64 (y : Int)) rfl (by go_simp) ⟨d0'.c0, d0'.c1.trans (show some (Value.int .i64 c.n) = some (Value.int .i64 (n : Int)) by rw [Hn.out])⟩ ?_
  simp only [Act.put, List.setIfInBounds_toArray, List.set_cons_zero, List.set_cons_succ]
  refine midk_end ?_
  have hbe := Hbw.out.trans (h3'.mono Hbw.out.size)
  have e4' := d0'.c4.trans (show some (Value.int .i64 c.b) = some (Value.int .i64 (k : Int)) by rw [Hk.out])
  have hlow := low_bits k hk16
  have hq64 : 2 ^ k ≤ 2 ^ 16 := Nat.pow_le_pow_right (by omega) hk16
  have hkw : IntKind.u64.wrap (k : Int) = (k : Int) := wrap_u64_in _ (by omega) (by omega)
  obtain ⟨q, hq⟩ : ∃ q, q = 2 ^ k - 1 := ⟨_, rfl⟩
  have hand := u64_and_nat y q (by omega) (by omega)
  have hres := Hmk.out
  rw [← hq] at hlow hres
  have hbeq : ((((y &&& q : Nat) : Int)) == (q : Int)) = (y &&& q == q) := by
    rw [Bool.eq_iff_iff]
    simp only [beq_iff_eq]
    omega
  rw [← hbeq] at hres
  generalize (y &&& q) = r at *
  have Hres := Lib.hid hres; clear hres Hmk hbeq
  have Hbe := Lib.hid hbe; clear hbe
  clear e0 e1 e4 hrow h3 h3' d0' hq hq64 Cl Co Hsl hy64
  go_wp2_with fail
  go_ret
  exact ⟨by rw [Hres.out]; rfl, Hbe.out⟩
end Go.Proofs.Ytcmlcpejlmlcfaa

/-
  What the document's next, Marks and Cut of layer 9 return.
-/
set_option linter.unusedVariables false
set_option maxRecDepth 100000
namespace Go.Proofs.Ytcmlcpejlmlcfaa
open Go.RowKit

set_option maxHeartbeats 1000000 in
theorem refNext_any (c : Ctr) (hm : c.May) (s : ByteArray) (hsz : s.size ≤ 1099511627776) (a : Nat) (ha : a ≤ s.size) (w : World) :
    Calls Try.prog 52 #[c.v, .string s, .int .i64 (a : Int)] w fun e w' => e = .returned (.int .i64 (Chu.nxt (c.isMk s.data.toList) c.mn.toNat c.mx.toNat s.size a : Nat)) ∧ Below w.heap.size w w' := by
  have cm := fun i hi u => refMark_any c hm s (by omega) i hi u
  have h1 := hm.nat
  have hpos : 0 ≤ c.mn ∧ 0 ≤ c.mx := by have := hm.1.2.1; have := hm.2.1; omega
  obtain ⟨mk, hmk⟩ : ∃ mk, mk = c.isMk s.data.toList := ⟨_, rfl⟩
  rw [← hmk]
  simp only [← hmk] at cm
  clear hm hmk
  obtain ⟨p, n, mn0, mx0, b⟩ := c
  simp only at h1 hpos
  obtain ⟨mn, rfl⟩ : ∃ mn : Nat, mn0 = (mn : Int) := ⟨mn0.toNat, by omega⟩
  obtain ⟨mx, rfl⟩ : ∃ mx : Nat, mx0 = (mx : Int) := ⟨mx0.toNat, by omega⟩
  simp only [Int.toNat_natCast] at h1 ⊢
  have hmm : mn ≤ mx := by omega
  have hmx4 : mx ≤ 4096 := by omega
  obtain ⟨t, ht⟩ : ∃ t, t = min (a + mx) s.size := ⟨_, rfl⟩
  have htm : min ((a : Int) + (mx : Int)) (s.size : Int) = (t : Int) := by omega
  have hnx := fun r (hr : r ≤ t) (h2 : r = t ∨ (a + mn ≤ r ∧ mk r = true)) h3 => Chu.nxt_eq (mk := mk) (mn := mn) (mx := mx) (len := s.size) (at_ := a) (r := r) (by omega) (by rw [ht] at h2; exact h2) h3
  obtain ⟨R, hR⟩ : ∃ R, Chu.nxt mk mn mx s.size a = R := ⟨_, rfl⟩
  simp only [hR] at hnx ⊢
  have Hnx := Lib.hid hnx; clear hnx hR
  have Ht := Lib.hid ht; clear ht
  unfold Ctr.v at *
  simp only at cm
  have Cm := Lib.hid cm; clear cm
  clear h1 hpos
  have hbw := box_below w (.cells #[.int .u64 p, .int .i64 n, .int .i64 (mn : Int), .int .i64 (mx : Int), .int .i64 b] 38)
  have hrow := CtrAt.box ⟨p, n, mn, mx, b⟩ w
  have Hbw := Lib.hid hbw; clear hbw
  have Hrow := Lib.hid hrow; clear hrow
  go_enter Try.func52, Try.ntmps52
  go_wp2_with fail
  go_loopw [7] (fun x wr => ∃ j : Nat, a + mn ≤ j ∧ j ≤ max (a + mn) (t + 1) ∧ x = .int .i64 (j : Int) ∧ (∀ i, a + mn ≤ i → i < j → mk i = false) ∧ Below w.heap.size w wr ∧ CtrAt ⟨p, n, mn, mx, b⟩ w.heap.size wr) (fun x _ => max (a + mn) (t + 1) + 1 - (intOf x).toNat)
  case atStart => exact ⟨a + mn, Nat.le_refl _, Nat.le_max_left _ _, by go_num, fun i x y => by omega, Hbw.out, Hrow.out⟩
  case round =>
    clear Hbw Hrow
    obtain ⟨j, hj1, hj2, rfl, hno, hbw, hrow⟩ := hrel
    have e0 := hrow.c0
    have e1 := hrow.c1
    have e2 := hrow.c2
    have e3 := hrow.c3
    have e4 := hrow.c4
    simp only at e0 e1 e2 e3 e4
    have Hbw := Lib.hid hbw; clear hbw
    have Hno := Lib.hid hno; clear hno
    have Hrow := Lib.hid hrow; clear hrow
    by_cases hjt : j ≤ t
    · have hts := Ht.out
      have hjs : j ≤ s.size := by omega
      have g1 : decide (j ≤ s.size) = true := decide_eq_true hjs
      have g2 : decide ((j : Int) ≤ (a : Int) + (mx : Int)) = true := decide_eq_true (by omega)
      have cj := fun u => Cm.out j (by omega) u
      have Cj := Lib.hid cj; clear cj hts
      go_wp2_with fail
      refine (Cj.out _).mono ?_; rintro e w1 ⟨rfl, h1⟩
      have hb1 := Hbw.out.trans (h1.mono Hbw.out.size)
      have hr1 := Hrow.out.new h1
      have Hb1 := Lib.hid hb1; clear hb1
      have Hr1 := Lib.hid hr1; clear hr1 h1 e0 e1 e2 e3 e4
      obtain ⟨m, hmj⟩ : ∃ m, mk j = m := ⟨_, rfl⟩
      rw [hmj]
      have Hmj := Lib.hid hmj; clear hmj
      cases m with
      | true =>
        have hfin := Hnx.out j hjt (.inr ⟨hj1, Hmj.out⟩) Hno.out
        have Hfin := Lib.hid hfin; clear hfin
        go_wp2_with fail
        go_ret
        exact ⟨by rw [Hfin.out]; rfl, Hb1.out⟩
      | false =>
        go_wp2_with fail
        go_roundw
        case rel =>
          refine ⟨j + 1, by omega, by omega, by go_num, fun i x y => ?_, Hb1.out, Hr1.out⟩
          rcases Nat.lt_or_ge i j with hij | hij
          · exact Hno.out i x hij
          · rw [show i = j by omega]; exact Hmj.out
        case measure => simp [intOf]; omega
    · have hts := Ht.out
      have hfin := Hnx.out t (Nat.le_refl _) (.inl rfl) (fun i x y => Hno.out i x (by omega))
      have Hfin := Lib.hid hfin; clear hfin
      by_cases hjs : j ≤ s.size
      · have g1 : decide (j ≤ s.size) = true := decide_eq_true hjs
        have g2 : decide ((j : Int) ≤ (a : Int) + (mx : Int)) = false := decide_eq_false (by omega)
        clear hts
        go_wp2_with fail
        go_ret
        exact ⟨by rw [Hfin.out]; rfl, Hbw.out⟩
      · have g1 : decide (j ≤ s.size) = false := decide_eq_false hjs
        clear hts
        go_wp2_with fail
        go_ret
        exact ⟨by rw [Hfin.out]; rfl, Hbw.out⟩

theorem Ctr.marks_is (c : Ctr) (l : List UInt8) : c.marks l = Chu.mks (c.isMk l) 1 (l.length + 1) := rfl
theorem Ctr.cut_is (c : Ctr) (l : List UInt8) : c.cut l = Chu.pcs 0 (Chu.ends (c.isMk l) c.mn.toNat c.mx.toNat l.length l.length 0) := rfl
set_option maxHeartbeats 1000000 in
theorem refCut_any (c : Ctr) (hm : c.May) (s : ByteArray) (hsz : s.size ≤ 1099511627776) (w : World) :
    Calls Try.prog 44 #[c.v, .string s] w fun e w' => ∃ v, e = .returned v ∧ POwn w.heap.size v (c.cut s.data.toList) w' ∧ Below w.heap.size w w' := by
  obtain ⟨i0, hi0, hz0, hz1, hz2⟩ := info_parts piece_info
  have cm := fun a ha u => refNext_any c hm s hsz a ha u
  have h1 := hm.nat
  obtain ⟨mn, hmn⟩ : ∃ mn, mn = c.mn.toNat := ⟨_, rfl⟩
  obtain ⟨mx, hmx⟩ : ∃ mx, mx = c.mx.toNat := ⟨_, rfl⟩
  obtain ⟨mk, hmk⟩ : ∃ mk, mk = c.isMk s.data.toList := ⟨_, rfl⟩
  obtain ⟨Z, hZ⟩ : ∃ Z, Z = c.cut s.data.toList := ⟨_, rfl⟩
  have hZ0 : Z = [] ++ Chu.pcs 0 (Chu.ends mk mn mx s.size s.size 0) := by
    rw [hZ, Ctr.cut_is, ba_len, hmk, hmn, hmx]; rfl
  rw [← hZ]
  simp only [← hmk, ← hmn, ← hmx] at cm
  rw [← hmn, ← hmx] at h1
  have hm1 : 1 ≤ mn := h1.1
  have hm2 : mn ≤ mx := h1.2.1
  clear hm hmk hmn hmx hZ h1
  unfold Ctr.v at *
  have Cm := Lib.hid cm; clear cm
  have HZ0 := Lib.hid hZ0; clear hZ0
  have hbw := box_below w (.cells #[.int .u64 c.p, .int .i64 c.n, .int .i64 c.mn, .int .i64 c.mx, .int .i64 c.b] 38)
  have hrow := CtrAt.box c w
  have Hbw := Lib.hid hbw; clear hbw
  have Hrow := Lib.hid hrow; clear hrow
  go_enter Try.func44, Try.ntmps44
  go_wp2_with fail
  go_loopw [5, 6] (fun v x wr => ∃ a ps, a ≤ s.size ∧ ps.length ≤ a ∧ x = .int .i64 (a : Int) ∧ Z = ps ++ Chu.pcs a (Chu.ends mk mn mx s.size s.size a) ∧ POwn w.heap.size v ps wr ∧ Below w.heap.size w wr ∧ CtrAt c w.heap.size wr) (fun v x _ => s.size - (intOf x).toNat)
  case atStart => exact ⟨0, [], Nat.zero_le _, Nat.le_refl _, rfl, HZ0.out, World.ownsRow_nil _ _ 68 2, Hbw.out, Hrow.out⟩
  case round =>
    clear Hbw Hrow HZ0
    obtain ⟨a, ps, ha, hpl, rfl, hz, hv, hbw, hrow⟩ := hrel
    have e0 := hrow.c0
    have e1 := hrow.c1
    have e2 := hrow.c2
    have e3 := hrow.c3
    have e4 := hrow.c4
    have Hbw := Lib.hid hbw; clear hbw
    have Hrow := Lib.hid hrow; clear hrow
    have Hv := Lib.hid hv; clear hv
    by_cases hlt : a < s.size
    · have g1 : decide (a < s.size) = true := decide_eq_true hlt
      have hz2 := Chu.cut_step (Z := Z) (ps := ps) hm1 hm2 hlt rfl hz
      have hrg := Chu.nxt_range (mk := mk) hm1 hm2 hlt
      have cj := fun u => Cm.out a ha u
      generalize Chu.nxt mk mn mx s.size a = r at *
      have hw1 : IntKind.i64.wrap ((r : Int) - (a : Int)) = ((r - a : Nat) : Int) := by simp only [IntKind.wrap_i64]; omega
      have Hz2 := Lib.hid hz2; clear hz2 hz
      have Cj := Lib.hid cj; clear cj
      go_wp2_with fail
      refine (Cj.out _).mono ?_; rintro e w1 ⟨rfl, h1⟩
      have hb1 := Hbw.out.trans (h1.mono Hbw.out.size)
      have hr1 := Hrow.out.new h1
      have hv1 := Hv.out.new h1
      have Hb1 := Lib.hid hb1; clear hb1
      have Hr1 := Lib.hid hr1; clear hr1 h1 e0 e1 e2 e3 e4 Hv
      have Hv1 := Lib.hid hv1; clear hv1
      go_wp2_with (at_builtin; go_loud (refine wpList_append_own_at _ rfl _ _ 65 rfl w.heap.size 68 i0 (.agg #[.int .i64 0, .int .i64 0]) 2 16 Try.underlying65 hi0 hz0 hz1 hz2 rfl (by decide) _ _ _ rfl (World.ownsRow.alloc Hv1.out _) ⟨w1.heap.size, 0, none⟩ 1 1 [.int .i64 (a : Int), .int .i64 ((r - a : Nat) : Int)] rfl rfl (cell_new_row w1 [.int .i64 (a : Int), .int .i64 ((r - a : Nat) : Int)] 68) ?c2 ?c3 ?c4 ?c5 ?_))
      case c2 => intro z hz; simp at hz; rcases hz with rfl | rfl <;> rfl
      case c3 => unfold maxLen; omega
      case c4 => omega
      case c5 => have := Hb1.out.size; simp; omega
      intro v' w5 hown5 hgrow _ hvb
      have hs := Hb1.out.size
      have hbY := box_below w1 (.cells #[.int .i64 (a : Int), .int .i64 ((r - a : Nat) : Int)] 68)
      have hb5 : Below w.heap.size w w5 := ((Hb1.out).trans (hbY.mono hs)).grown hgrow (by have := hbY.size; omega) (fun b' h => (World.ownsRow.lt Hv1.out b' h).1)
      have hv5 : POwn w.heap.size v' (ps ++ [(a, r - a)]) w5 := by
        unfold POwn
        rw [List.length_append, List.flatMap_append]
        exact hown5
      have hr5 : CtrAt c w.heap.size w5 := by
        unfold CtrAt
        rw [hgrow.block _ (by have := row_lt Hr1.out; have := hbY.size; omega) (fun e => ?_), hbY.block _ (row_lt Hr1.out)]
        · exact Hr1.out
        · exact Hv1.out.off (by decide) (show w1.heap[w.heap.size]? = _ from Hr1.out) e.symm
      have Hb5 := Lib.hid hb5; clear hb5
      have Hv5 := Lib.hid hv5; clear hv5
      have Hr5 := Lib.hid hr5; clear hr5
      clear hown5 hgrow hvb hbY hs
      go_wp2_with fail
      go_roundw
      case rel => exact ⟨r, _, hrg.2.2, by rw [List.length_append]; exact (by omega : ps.length + 1 ≤ r), rfl, Hz2.out, Hv5.out, Hb5.out, Hr5.out⟩
      case measure => simp [intOf]; omega
    · have g1 : decide (a < s.size) = false := decide_eq_false hlt
      have hzz : Z = ps := by
        rw [hz, show a = s.size by omega, Chu.ends_done _ _ _ _ _ _ (Nat.le_refl _)]
        simp [Chu.pcs]
      have Hzz := Lib.hid hzz; clear hzz hz e0 e1 e2 e3 e4
      go_wp2_with fail
      go_ret
      exact ⟨_, rfl, by rw [Hzz.out]; exact Hv.out, Hbw.out⟩
end Go.Proofs.Ytcmlcpejlmlcfaa

/-
  Rows of numbers, rows of pieces, read; what the document's Same and the law's ints answer to rows that are the same.
-/
set_option linter.unusedVariables false
set_option maxRecDepth 100000
namespace Go.Proofs.Ytcmlcpejlmlcfaa
open Go.RowKit

/-- the slice reads as these numbers -/
def IRd (v : Value) (l : List Nat) (w : World) : Prop := ∃ a cap, v = .slice a l.length cap ∧ l.length ≤ cap ∧ ∀ j, j < l.length → ∃ b, a = some ⟨b, 0, none⟩ ∧ w.cell? ⟨b, j, none⟩ = some (.int .i64 ((l.getD j 0 : Nat) : Int))
/-- .. as these pieces -/
def PRd (v : Value) (l : List Pc) (w : World) : Prop := ∃ a cap, v = .slice a l.length cap ∧ l.length ≤ cap ∧ ∀ j, j < l.length → ∃ b, a = some ⟨b, 0, none⟩ ∧ w.cell? ⟨b, j * 2, none⟩ = some (.int .i64 ((l.getD j (0, 0)).1 : Int)) ∧ w.cell? ⟨b, j * 2 + 1, none⟩ = some (.int .i64 ((l.getD j (0, 0)).2 : Int))
theorem IRd.new {v : Value} {l : List Nat} {w w' : World} (h : IRd v l w) (hb : Below w.heap.size w w') : IRd v l w' := by
  obtain ⟨a, cap, rfl, hc, hf⟩ := h
  refine ⟨a, cap, rfl, hc, fun j hj => ?_⟩
  obtain ⟨b, rfl, e⟩ := hf j hj
  exact ⟨b, rfl, by rw [hb.cell (p := ⟨b, j, none⟩) (cell_lt e)]; exact e⟩
theorem PRd.new {v : Value} {l : List Pc} {w w' : World} (h : PRd v l w) (hb : Below w.heap.size w w') : PRd v l w' := by
  obtain ⟨a, cap, rfl, hc, hf⟩ := h
  refine ⟨a, cap, rfl, hc, fun j hj => ?_⟩
  obtain ⟨b, rfl, e, e2⟩ := hf j hj
  exact ⟨b, rfl, by rw [hb.cell (p := ⟨b, j * 2, none⟩) (cell_lt e)]; exact e, by rw [hb.cell (p := ⟨b, j * 2 + 1, none⟩) (cell_lt e2)]; exact e2⟩
theorem IOwn.reads {B : Nat} {v : Value} {l : List Nat} {w : World} (h : IOwn B v l w) : IRd v l w := by
  rcases h.2 with ⟨rfl, h0⟩ | ⟨g, cap, cur, rfl, hb, hg, hn, hm, hc, ht⟩
  · exact ⟨none, 0, by rw [h0], by omega, fun j hj => by omega⟩
  · refine ⟨_, cap, rfl, hn, fun j hj => ⟨g, rfl, ?_⟩⟩
    rw [cell_of_row _ _ j _ _ _ hg]
    have hu : (ints l)[j]? = some (.int .i64 ((l.getD j 0 : Nat) : Int)) := by
      simp [ints, List.getD_eq_getElem?_getD, hj]
    rw [← ht, List.getElem?_take] at hu
    split at hu
    · simpa using hu
    · cases hu
theorem POwn.reads {B : Nat} {v : Value} {l : List Pc} {w : World} (h : POwn B v l w) : PRd v l w := by
  by_cases h0 : l.length = 0
  · obtain ⟨a, cap, rfl⟩ := h.form
    rcases h.2 with ⟨hv, _⟩ | ⟨g, cap', cur, hv, hb, hg, hn, hm, hc, ht⟩
    · exact ⟨a, cap, rfl, by omega, fun j hj => by omega⟩
    · exact ⟨a, cap, rfl, by omega, fun j hj => by omega⟩
  · obtain ⟨g, cap, hv, _, _, hc, hf⟩ := h.at_ 0 (by omega)
    exact ⟨_, cap, hv, hc, fun j hj => ⟨g, rfl, (hf j hj).1, (hf j hj).2⟩⟩

end Go.Proofs.Ytcmlcpejlmlcfaa

/-
  The places where texts of a row end; the chapter's examples.
-/
set_option linter.unusedVariables false
set_option maxRecDepth 100000
namespace Go.Proofs.Ytcmlcpejlmlcfaa
open Go.RowKit

/-- the slice reads as these texts -/
def TRd (v : Value) (L : List ByteArray) (w : World) : Prop := ∃ g, v = .slice (some ⟨g, 0, none⟩) L.length L.length ∧ w.heap[g]? = some (.cells (L.map Value.string).toArray 9 (0, 0))
theorem TRd.new {v : Value} {L : List ByteArray} {w w' : World} (h : TRd v L w) (hb : Below w.heap.size w w') : TRd v L w' := by
  obtain ⟨g, rfl, h2⟩ := h
  exact ⟨g, rfl, by rw [hb.block _ (row_lt h2)]; exact h2⟩
theorem TRd.cell {g : Nat} {L : List ByteArray} {w : World} (h : w.heap[g]? = some (.cells (L.map Value.string).toArray 9 (0, 0))) (j : Nat) (hj : j < L.length) : w.cell? ⟨g, j, none⟩ = some (.string (L.getD j .empty)) := by
  rw [cell_of_row _ _ j _ _ _ h]
  simp [List.getD_eq_getElem?_getD, hj]
/-- where the texts end, one behind the other -/
def endsT (L : List ByteArray) (k : Nat) : List Nat := (List.range k).map fun j => tot L (j + 1)
theorem endsT_succ (L : List ByteArray) (k : Nat) : endsT L (k + 1) = endsT L k ++ [tot L (k + 1)] := by
  unfold endsT; rw [List.range_succ, List.map_append]; rfl
theorem tot_cons (x : ByteArray) (r : List ByteArray) (j : Nat) : tot (x :: r) (j + 1) = x.size + tot r j := by simp [tot]
theorem tot_pcs (s : ByteArray) : ∀ (a : Nat) (l : List Nat) (j : Nat), (∀ x ∈ l, x ≤ s.size) → (a :: l).Pairwise (· ≤ ·) → j < l.length → tot (pcTexts s (Chu.pcs a l)) (j + 1) + a = l.getD j 0
  | a, [], j, _, _, h => by simp at h
  | a, e :: r, 0, h1, h2, _ => by
    have he := h1 e (by simp)
    have hae : a ≤ e := (List.pairwise_cons.1 h2).1 e (by simp)
    simp only [Chu.pcs, pcTexts, List.map_cons, tot_cons, tot_zero, List.getD_cons_zero]
    rw [ByteArray.size_extract]
    omega
  | a, e :: r, j + 1, h1, h2, h3 => by
    have he := h1 e (by simp)
    have hae : a ≤ e := (List.pairwise_cons.1 h2).1 e (by simp)
    have ih := tot_pcs s e r j (fun x hx => h1 x (by simp [hx])) (List.pairwise_cons.1 h2).2 (by simpa using h3)
    simp only [Chu.pcs, List.getD_cons_succ]
    have e1 : pcTexts s ((a, e - a) :: Chu.pcs e r) = s.extract a (a + (e - a)) :: pcTexts s (Chu.pcs e r) := rfl
    rw [e1, tot_cons, ByteArray.size_extract]
    omega
theorem ends_pw {mk : Nat → Bool} {mn mx len : Nat} (h1 : 1 ≤ mn) (h2 : mn ≤ mx) : ∀ (f i : Nat), (i :: Chu.ends mk mn mx len f i).Pairwise (· ≤ ·)
  | 0, i => by simp [Chu.ends]
  | f + 1, i => by
    have hr := Chu.ends_range (mk := mk) (len := len) h1 h2 (f + 1) i
    refine List.pairwise_cons.2 ⟨fun x hx => Nat.le_of_lt (hr x hx).1, ?_⟩
    unfold Chu.ends
    by_cases h : i < len
    · rw [if_pos h]
      exact ends_pw h1 h2 f _
    · rw [if_neg h]; exact List.Pairwise.nil
theorem Ctr.ends_is (c : Ctr) (l : List UInt8) : c.ends l = Chu.ends (c.isMk l) c.mn.toNat c.mx.toNat l.length l.length 0 := rfl
theorem Ctr.ends_range {c : Ctr} (h : c.May) (l : List UInt8) : ∀ x ∈ c.ends l, 0 < x ∧ x ≤ l.length := Chu.ends_range h.nat.1 h.nat.2.1 _ _
/-- the texts' ends are the cuts -/
theorem Ctr.endsT_is {c : Ctr} (h : c.May) (s : ByteArray) : endsT (c.texts s) (c.texts s).length = c.ends s.data.toList := by
  have hl : (c.texts s).length = (c.ends s.data.toList).length := by
    unfold Ctr.texts Ctr.cut
    rw [pcTexts_length, Chu.pcs_length]
  rw [hl]
  apply List.ext_getElem
  · simp [endsT]
  · intro j h1 h2
    have ht := tot_pcs s 0 (c.ends s.data.toList) j (fun x hx => by rw [← ba_len]; exact (Ctr.ends_range h _ x hx).2) (ends_pw h.nat.1 h.nat.2.1 _ _) h2
    simp only [endsT, List.getElem_map, List.getElem_range]
    unfold Ctr.texts Ctr.cut
    rw [List.getD_eq_getElem?_getD, List.getElem?_eq_getElem h2] at ht
    simpa using ht
theorem Ctr.tot_le {c : Ctr} (h : c.May) (s : ByteArray) (k : Nat) (hk : k ≤ (c.texts s).length) : tot (c.texts s) k ≤ s.size := by
  cases k with
  | zero => simp [tot]
  | succ j =>
    have h1 : tot (c.texts s) (j + 1) ∈ endsT (c.texts s) (c.texts s).length := List.mem_map.2 ⟨j, List.mem_range.2 hk, rfl⟩
    rw [Ctr.endsT_is h] at h1
    have := (Ctr.ends_range h _ _ h1).2
    rwa [ba_len] at this

def cut0 : Ctr := ⟨0, 0, 0, 0, 0⟩
def cutA : Ctr := ⟨283, 2, 2, 4, 0⟩
def cutB : Ctr := ⟨283, 2, 2, 3, 16⟩
def txA : ByteArray := ⟨#[97, 98, 99, 100, 101]⟩
def txB : ByteArray := ⟨#[0, 0, 0, 0, 0, 0]⟩
theorem cut0_not : ¬ cut0.May := fun h => absurd h.1.1.1 (by decide +kernel)
theorem cutA_may : cutA.May := by decide +kernel
theorem cutB_may : cutB.May := by decide +kernel
theorem cutA_cut : cutA.cut txA.data.toList = [(0, 2), (2, 2), (4, 1)] := by decide +kernel
theorem cutB_cut : cutB.cut txB.data.toList = [(0, 3), (3, 3)] := by decide +kernel
theorem cutA_texts : cutA.texts txA = [⟨#[97, 98]⟩, ⟨#[99, 100]⟩, ⟨#[101]⟩] := by
  unfold Ctr.texts
  rw [cutA_cut]
  rfl

end Go.Proofs.Ytcmlcpejlmlcfaa

/-
  Plain mathematics of layer 9's laws: all cuts from one place on.
-/
set_option linter.unusedVariables false
namespace Go.Proofs.Ytcmlcpejlmlcfaa
namespace Chu
/-- all cuts behind one -/
def all (mk : Nat → Bool) (mn mx len a : Nat) : List Nat := ends mk mn mx len len a
section
variable {mk mk' : Nat → Bool} {mn mx len len' : Nat} (h1 : 1 ≤ mn) (h2 : mn ≤ mx)
include h1 h2
theorem all_cons {a : Nat} (h : a < len) : all mk mn mx len a = nxt mk mn mx len a :: all mk mn mx len (nxt mk mn mx len a) := ends_next h1 h2 h
omit h1 h2 in
theorem all_nil {a : Nat} (h : len ≤ a) : all mk mn mx len a = [] := ends_done _ _ _ _ _ _ h
theorem all_drop : ∀ (i a : Nat), i < (all mk mn mx len a).length → (all mk mn mx len a).drop (i + 1) = all mk mn mx len ((all mk mn mx len a).getD i 0)
  | i, a, h => by
    by_cases ha : a < len
    · rw [all_cons h1 h2 ha] at h ⊢
      cases i with
      | zero => simp
      | succ i =>
        rw [List.drop_succ_cons, List.getD_cons_succ]
        exact all_drop i _ (by simpa using h)
    · rw [all_nil (by omega)] at h; simp at h
theorem all_get : ∀ (i a : Nat), i < (all mk mn mx len a).length → (all mk mn mx len a).getD i 0 = nxt mk mn mx len ((a :: all mk mn mx len a).getD i 0) ∧ (a :: all mk mn mx len a).getD i 0 < len
  | i, a, h => by
    by_cases ha : a < len
    · rw [all_cons h1 h2 ha] at h ⊢
      cases i with
      | zero => exact ⟨rfl, ha⟩
      | succ i =>
        rw [List.getD_cons_succ, List.getD_cons_succ]
        exact all_get i _ (by simpa using h)
    · rw [all_nil (by omega)] at h; simp at h
theorem all_le {i a : Nat} (h : i < (all mk mn mx len a).length) : (all mk mn mx len a).getD i 0 ≤ len := by
  obtain ⟨e, hl⟩ := all_get h1 h2 i a h
  rw [e]
  exact (nxt_range h1 h2 hl).2.2
theorem all_last {i a : Nat} (h : i < (all mk mn mx len a).length) : i + 1 = (all mk mn mx len a).length ↔ (all mk mn mx len a).getD i 0 = len := by
  have hd := all_drop h1 h2 i a h
  have hl := all_le h1 h2 h
  constructor
  · intro e
    rw [e, List.drop_length] at hd
    rcases Nat.lt_or_ge ((all mk mn mx len a).getD i 0) len with g | g
    · rw [all_cons h1 h2 g] at hd; cases hd
    · omega
  · intro e
    rw [e, all_nil (Nat.le_refl _)] at hd
    have := List.drop_eq_nil_iff.1 hd
    omega
/-- where two texts begin alike, up to p -/
theorem begins_at {p : Nat} (hp : p ≤ len) (hp' : p ≤ len') (hmk : ∀ j, j ≤ p → mk' j = mk j) : ∀ (i a : Nat), i < (all mk mn mx len a).length → i < (all mk' mn mx len' a).length →
    (∀ j, j < i → (all mk mn mx len a).getD j 0 ≤ p ∧ (all mk' mn mx len' a).getD j 0 ≤ p) →
    ((all mk mn mx len a).getD i 0 ≤ p → (all mk' mn mx len' a).getD i 0 ≤ p → (all mk mn mx len a).getD i 0 = (all mk' mn mx len' a).getD i 0) ∧
    (p < (all mk mn mx len a).getD i 0 ∨ p < (all mk' mn mx len' a).getD i 0 → (p < (all mk mn mx len a).getD i 0 ∨ (len = p ∧ i + 1 = (all mk mn mx len a).length)) ∧ (p < (all mk' mn mx len' a).getD i 0 ∨ (len' = p ∧ i + 1 = (all mk' mn mx len' a).length)))
  | i, a, hx, hy, hj => by
    have hlx := @all_last mk mn mx len h1 h2 i a hx
    have hly := @all_last mk' mn mx len' h1 h2 i a hy
    by_cases ha : a < len
    · by_cases hb : a < len'
      · -- the first ones
        have key : nxt mk mn mx len a ≤ p → nxt mk' mn mx len' a ≤ p → nxt mk mn mx len a = nxt mk' mn mx len' a := fun ex ey => by
          by_cases e : nxt mk mn mx len a = len
          · by_cases e' : nxt mk' mn mx len' a = len'
            · omega
            · exact nxt_begin hp' hp (fun j hj => (hmk j hj).symm) ey (.inl e')
          · exact (nxt_begin hp hp' hmk ex (.inl e)).symm
        have kx : nxt mk mn mx len a ≤ p → p < nxt mk' mn mx len' a → nxt mk mn mx len a = len := fun ex ey => by
          by_cases e : nxt mk mn mx len a = len
          · exact e
          · have := nxt_begin hp hp' hmk ex (.inl e); omega
        have ky : p < nxt mk mn mx len a → nxt mk' mn mx len' a ≤ p → nxt mk' mn mx len' a = len' := fun ex ey => by
          by_cases e : nxt mk' mn mx len' a = len'
          · exact e
          · have := nxt_begin hp' hp (fun j hj => (hmk j hj).symm) ey (.inl e); omega
        cases i with
        | zero =>
          have ex := all_cons (mk := mk) h1 h2 ha
          have ey := all_cons (mk := mk') h1 h2 hb
          have gx : (all mk mn mx len a).getD 0 0 = nxt mk mn mx len a := by rw [ex]; rfl
          have gy : (all mk' mn mx len' a).getD 0 0 = nxt mk' mn mx len' a := by rw [ey]; rfl
          rw [gx] at hlx ⊢
          rw [gy] at hly ⊢
          refine ⟨key, fun h => ⟨?_, ?_⟩⟩
          · rcases Nat.lt_or_ge p (nxt mk mn mx len a) with g | g
            · exact .inl g
            · have hy' : p < nxt mk' mn mx len' a := by omega
              have := kx g hy'
              exact .inr ⟨by omega, hlx.2 this⟩
          · rcases Nat.lt_or_ge p (nxt mk' mn mx len' a) with g | g
            · exact .inl g
            · have hx' : p < nxt mk mn mx len a := by omega
              have := ky hx' g
              exact .inr ⟨by omega, hly.2 this⟩
        | succ i =>
          have h0 := hj 0 (by omega)
          have ex := all_cons (mk := mk) h1 h2 ha
          have ey := all_cons (mk := mk') h1 h2 hb
          have gx : (all mk mn mx len a).getD 0 0 = nxt mk mn mx len a := by rw [ex]; rfl
          have gy : (all mk' mn mx len' a).getD 0 0 = nxt mk' mn mx len' a := by rw [ey]; rfl
          rw [gx, gy] at h0
          have e := key h0.1 h0.2
          have sx : ∀ j, (all mk mn mx len a).getD (j + 1) 0 = (all mk mn mx len (nxt mk mn mx len a)).getD j 0 := fun j => by rw [ex]; rfl
          have sy : ∀ j, (all mk' mn mx len' a).getD (j + 1) 0 = (all mk' mn mx len' (nxt mk mn mx len a)).getD j 0 := fun j => by rw [ey, e]; rfl
          have lx : (all mk mn mx len a).length = (all mk mn mx len (nxt mk mn mx len a)).length + 1 := by rw [ex]; rfl
          have ly : (all mk' mn mx len' a).length = (all mk' mn mx len' (nxt mk mn mx len a)).length + 1 := by rw [ey, e]; rfl
          have ih := begins_at hp hp' hmk i (nxt mk mn mx len a) (by omega) (by omega) (fun j hj' => by
            have := hj (j + 1) (by omega)
            rw [sx, sy] at this
            exact this)
          rw [sx, sy, lx, ly]
          refine ⟨ih.1, fun h => ?_⟩
          obtain ⟨a1, a2⟩ := ih.2 h
          exact ⟨a1.imp id (fun h => ⟨h.1, by omega⟩), a2.imp id (fun h => ⟨h.1, by omega⟩)⟩
      · rw [all_nil (by omega)] at hy; simp at hy
    · rw [all_nil (by omega)] at hx; simp at hx
end
/-- behind a common cut, all cuts are the same -/
theorem all_shift {mk mk' : Nat → Bool} {mn mx len n : Nat} (h1 : 1 ≤ mn) (h2 : mn ≤ mx) (j : Nat) (hmk : ∀ i, j + mn ≤ i → i ≤ len → mk' (n + i) = mk i) : all mk' mn mx (n + len) (n + j) = (all mk mn mx len j).map (n + ·) := by
  unfold all
  rw [ends_fuel h1 h2 (n + len) len _ (by omega) (by omega)]
  exact ends_shift h1 h2 j hmk len j (Nat.le_refl _)
end Chu
theorem Ctr.ends_all (c : Ctr) (l : List UInt8) : c.ends l = Chu.all (c.isMk l) c.mn.toNat c.mx.toNat l.length 0 := rfl
end Go.Proofs.Ytcmlcpejlmlcfaa

/-
  An argument that is a cutter (a struct of five numbers, by value).
-/
set_option linter.unusedVariables false
namespace Go.Proofs.Ytcmlcpejlmlcfaa
open Go.ChangeShapes Go.WideShapes Go.Deep Go.RowKit

structure Ctr.Wf (c : Ctr) : Prop where
  p : c.p < 18446744073709551616
  n : -9223372036854775808 ≤ c.n ∧ c.n ≤ 9223372036854775807
  mn : -9223372036854775808 ≤ c.mn ∧ c.mn ≤ 9223372036854775807
  mx : -9223372036854775808 ≤ c.mx ∧ c.mx ≤ 9223372036854775807
  b : -9223372036854775808 ≤ c.b ∧ c.b ≤ 9223372036854775807
theorem wf64 {n : Int} (h : (Lit.int .i64 n).wf = true) : -9223372036854775808 ≤ n ∧ n ≤ 9223372036854775807 := by
  simp [Lit.wf] at h
  have h1 : (-9223372036854775808 : Int) ≤ n := h.1
  exact ⟨h1, h.2⟩
theorem array5 {α : Type} {cs : Array α} (h : cs.size = 5) : ∃ c0 c1 c2 c3 c4, cs = #[c0, c1, c2, c3, c4] := by
  obtain ⟨l⟩ := cs
  match l, h with
  | [c0, c1, c2, c3, c4], _ => exact ⟨c0, c1, c2, c3, c4, rfl⟩
section
variable {H : Type} {enc : TypeId × Value → H} {P : Program} {w : World} {base : Nat} {spare : Nat → Bool} {held : Bool}
theorem open_cutter {r : Reach} {b0 : Nat} {t tu ti : TypeId} {f0 f1 f2 f3 f4 : Field} {v : Value} {d : DataW H} {p : List MemPlace} (hs : P.underlying t = some (.struct #[f0, f1, f2, f3, f4]))
    (h0 : f0.type = tu) (h1 : f1.type = ti) (h2 : f2.type = ti) (h3 : f3.type = ti) (h4 : f4.type = ti) (htu : P.underlying tu = some (.int .u64)) (hti : P.underlying ti = some (.int .i64))
    (hone : oneCellFields P #[f0, f1, f2, f3, f4] = true) (hC : P.cellsOf t = 5) (hv : Value.okWide P w r b0 t v) (h : DataW.Trod enc P w base spare held t v d p) :
    ∃ c : Ctr, v = c.v ∧ c.Wf := by
  obtain ⟨cs, rfl, hsz⟩ := okWide_struct hs hv
  obtain ⟨c0, c1, c2, c3, c4, rfl⟩ := array5 (hsz.trans hC)
  obtain ⟨fuel, hf⟩ := h
  obtain ⟨xs, n, _, hx, _, hlen, hfl⟩ := DataW.trod_struct hs hf
  have t0 := hfl 0 f0 rfl
  have t1 := hfl 1 f1 rfl
  have t2 := hfl 2 f2 rfl
  have t3 := hfl 3 f3 rfl
  have t4 := hfl 4 f4 rfl
  obtain ⟨o0, k0⟩ := hone_of hone 0 f0 rfl
  obtain ⟨o1, k1⟩ := hone_of hone 1 f1 rfl
  obtain ⟨o2, k2⟩ := hone_of hone 2 f2 rfl
  obtain ⟨o3, k3⟩ := hone_of hone 3 f3 rfl
  obtain ⟨o4, k4⟩ := hone_of hone 4 f4 rfl
  match xs, hlen with
  | [y0, y1, y2, y3, y4], _ =>
    rw [h0] at t0 k0; rw [h1] at t1 k1; rw [h2] at t2 k2; rw [h3] at t3 k3; rw [h4] at t4 k4
    simp [Value.cells, o0, k0] at t0
    simp [Value.cells, o1, k1] at t1
    simp [Value.cells, o2, k2] at t2
    simp [Value.cells, o3, k3] at t3
    simp [Value.cells, o4, k4] at t4
    obtain ⟨n0, e0, _, w0⟩ := DataW.trod_int htu t0
    obtain ⟨n1, e1, _, w1⟩ := DataW.trod_int hti t1
    obtain ⟨n2, e2, _, w2⟩ := DataW.trod_int hti t2
    obtain ⟨n3, e3, _, w3⟩ := DataW.trod_int hti t3
    obtain ⟨n4, e4, _, w4⟩ := DataW.trod_int hti t4
    obtain rfl : c0 = .int .u64 n0 := by simpa using e0
    obtain rfl : c1 = .int .i64 n1 := by simpa using e1
    obtain rfl : c2 = .int .i64 n2 := by simpa using e2
    obtain rfl : c3 = .int .i64 n3 := by simpa using e3
    obtain rfl : c4 = .int .i64 n4 := by simpa using e4
    have hw0 : 0 ≤ n0 ∧ n0 ≤ 18446744073709551615 := by
      simp [Lit.wf] at w0
      exact ⟨w0.1, w0.2⟩
    refine ⟨⟨n0.toNat, n1, n2, n3, n4⟩, ?_, ⟨by simp only; omega, wf64 w1, wf64 w2, wf64 w3, wf64 w4⟩⟩
    unfold Ctr.v
    simp only [Int.toNat_of_nonneg hw0.1]
end
end Go.Proofs.Ytcmlcpejlmlcfaa

/-
  Plain mathematics of layer 9: the pieces are the text, none is too long, none but the last one too short, each cut that is less than Max behind the one ahead is a mark.
-/
set_option linter.unusedVariables false
namespace Go.Proofs.Ytcmlcpejlmlcfaa
open Go.RowKit
namespace Chu
theorem pcs_get : ∀ (a : Nat) (l : List Nat) (i : Nat), i < l.length → (pcs a l).getD i (0, 0) = ((a :: l).getD i 0, l.getD i 0 - (a :: l).getD i 0)
  | a, [], i, h => by simp at h
  | a, e :: r, 0, h => rfl
  | a, e :: r, i + 1, h => by
    rw [pcs, List.getD_cons_succ, List.getD_cons_succ, List.getD_cons_succ]
    exact pcs_get e r i (by simpa using h)
theorem mks_mem (mk : Nat → Bool) (f i x : Nat) : x ∈ mks mk f i ↔ (f ≤ x ∧ x < i) ∧ mk x = true := by
  unfold mks
  rw [List.mem_filter, List.mem_range'_1]
  constructor
  · rintro ⟨⟨a, b⟩, c⟩; exact ⟨⟨a, by omega⟩, c⟩
  · rintro ⟨⟨a, b⟩, c⟩; exact ⟨⟨a, by omega⟩, c⟩
theorem mks_pw (mk : Nat → Bool) (f i : Nat) : (mks mk f i).Pairwise (· < ·) := by
  unfold mks
  exact List.Pairwise.filter _ List.pairwise_lt_range'
end Chu
theorem nothingT (s : ByteArray) (h : s.size = 0) : s = ⟨#[]⟩ := by
  obtain ⟨a⟩ := s
  rw [Array.eq_empty_of_size_eq_zero (show a.size = 0 from h)]
structure Til (s : ByteArray) (M : List Nat) (mn mx n nm : Nat) (T : Nat → Nat) (D P : Nat → ByteArray) : Prop where
  d1 : ∀ i, i < n → 1 ≤ (D i).size ∧ (D i).size ≤ mx ∧ T (i + 1) = T i + (D i).size ∧ T (i + 1) ≤ s.size
  d2 : ∀ i, i + 1 < n → mn ≤ (D i).size
  d3 : ∀ i, i + 1 < n → (D i).size < mx → ∀ k, k ≤ nm → (∀ j, j < k → M.getD j 0 < T (i + 1)) → (k < nm → T (i + 1) ≤ M.getD k 0) → k < nm ∧ M.getD k 0 = T (i + 1)
  p0 : P 0 = ⟨#[]⟩
  ps : ∀ i, i < n → P i ++ D i = P (i + 1)
  pz : ∀ i, i ≤ n → (P i).size = T i
  pn : P n = s
theorem extract_cat (s : ByteArray) (i j : Nat) (h : i ≤ j) (hj : j ≤ s.size) : s.extract 0 i ++ s.extract i j = s.extract 0 j := by
  have h1 := text_take s i
  have h2 := text_take s j
  have h3 : (s.extract i j).data.toList = (s.data.toList.take j).drop i := by
    rw [Lib.extract_eq]
    simp only []
    rw [← List.drop_take]
  have h4 : (s.extract 0 i ++ s.extract i j).data.toList = (s.extract 0 j).data.toList := by
    rw [show (s.extract 0 i ++ s.extract i j).data.toList = (s.extract 0 i).data.toList ++ (s.extract i j).data.toList from Go.Joins.data_append _ _, h1, h2, h3]
    have := List.take_append_drop i (s.data.toList.take j)
    rw [List.take_take, Nat.min_eq_left h] at this
    exact this
  rw [← ba_eta (s.extract 0 i ++ s.extract i j), h4, ba_eta]
theorem til_is {c : Ctr} (h : c.May) (s : ByteArray) : Til s (c.marks s.data.toList) c.mn.toNat c.mx.toNat (c.texts s).length (c.marks s.data.toList).length (tot (c.texts s)) (fun i => (c.texts s).getD i .empty) (fun i => s.extract 0 (tot (c.texts s) i)) := by
  obtain ⟨h1, h2, _, _, _⟩ := h.nat
  have hl : (c.texts s).length = (c.ends s.data.toList).length := by
    unfold Ctr.texts Ctr.cut
    rw [pcTexts_length, Chu.pcs_length]
  have hE := Ctr.endsT_is h s
  have hT : ∀ i, i < (c.texts s).length → tot (c.texts s) (i + 1) = (c.ends s.data.toList).getD i 0 := fun i hi => by
    rw [← hE]; simp [endsT, List.getD_eq_getElem?_getD, hi]
  have hT0 : ∀ i, i ≤ (c.texts s).length → tot (c.texts s) i = (0 :: c.ends s.data.toList).getD i 0 := fun i hi => by
    cases i with
    | zero => rw [tot_zero]; rfl
    | succ i => rw [hT i (by omega), List.getD_cons_succ]
  have hall : c.ends s.data.toList = Chu.all (c.isMk s.data.toList) c.mn.toNat c.mx.toNat s.size 0 := by rw [Ctr.ends_all, ba_len]
  have hnx : ∀ i, i < (c.texts s).length → tot (c.texts s) (i + 1) = Chu.nxt (c.isMk s.data.toList) c.mn.toNat c.mx.toNat s.size (tot (c.texts s) i) ∧ tot (c.texts s) i < s.size := fun i hi => by
    have := Chu.all_get (mk := c.isMk s.data.toList) (len := s.size) h1 h2 i 0 (by rw [← hall, ← hl]; exact hi)
    rw [← hall] at this
    rw [hT i hi, hT0 i (by omega)]
    exact this
  have hrg : ∀ i, i < (c.texts s).length → tot (c.texts s) i < tot (c.texts s) (i + 1) ∧ tot (c.texts s) (i + 1) ≤ tot (c.texts s) i + c.mx.toNat ∧ tot (c.texts s) (i + 1) ≤ s.size := fun i hi => by
    obtain ⟨e, hlt⟩ := hnx i hi
    rw [e]
    exact Chu.nxt_range h1 h2 hlt
  have hlast : ∀ i, i < (c.texts s).length → (i + 1 = (c.texts s).length ↔ tot (c.texts s) (i + 1) = s.size) := fun i hi => by
    have := Chu.all_last (mk := c.isMk s.data.toList) (len := s.size) h1 h2 (i := i) (a := 0) (by rw [← hall, ← hl]; exact hi)
    rw [← hall, ← hl] at this
    rw [hT i hi]; exact this
  have hD : ∀ i, i < (c.texts s).length → (c.texts s).getD i .empty = s.extract (tot (c.texts s) i) (tot (c.texts s) (i + 1)) := fun i hi => by
    have hp := Chu.pcs_get 0 (c.ends s.data.toList) i (by rw [← hl]; exact hi)
    rw [← hT0 i (by omega), ← hT i hi] at hp
    have e : (c.texts s).getD i .empty = s.extract ((c.cut s.data.toList).getD i (0, 0)).1 (((c.cut s.data.toList).getD i (0, 0)).1 + ((c.cut s.data.toList).getD i (0, 0)).2) := by
      have hi' : i < (c.cut s.data.toList).length := by unfold Ctr.cut; rw [Chu.pcs_length, ← hl]; exact hi
      unfold Ctr.texts pcTexts
      simp [List.getD_eq_getElem?_getD, hi']
    rw [e]
    unfold Ctr.cut
    rw [hp]
    have := hrg i hi
    simp only
    rw [show tot (c.texts s) i + (tot (c.texts s) (i + 1) - tot (c.texts s) i) = tot (c.texts s) (i + 1) by omega]
  have hDz : ∀ i, i < (c.texts s).length → ((c.texts s).getD i .empty).size = tot (c.texts s) (i + 1) - tot (c.texts s) i := fun i hi => by
    have := hrg i hi
    rw [hD i hi, ByteArray.size_extract]
    omega
  have hTle := Ctr.tot_le h s
  refine ⟨fun i hi => ?_, fun i hi => ?_, fun i hi hd k hk hb hg => ?_, ?_, fun i hi => ?_, fun i hi => ?_, ?_⟩
  · have := hrg i hi
    rw [hDz i hi]
    omega
  · have a := hnx i (by omega)
    have b := hlast i (by omega)
    rw [hDz i (by omega)]
    rcases Chu.nxt_lo (mk := c.isMk s.data.toList) (mn := c.mn.toNat) (mx := c.mx.toNat) (len := s.size) (at_ := tot (c.texts s) i) h2 with e | e
    · rw [← a.1] at e
      have := b.2 e
      omega
    · rw [← a.1] at e
      omega
  · show k < _ ∧ _
    have a := hnx i (by omega)
    have b := hlast i (by omega)
    have r := hrg i (by omega)
    rw [hDz i (by omega)] at hd
    have hm : c.isMk s.data.toList (tot (c.texts s) (i + 1)) = true := by
      have e1 : tot (c.texts s) (i + 1) ≠ s.size := fun e => by have := b.2 e; omega
      rw [a.1] at hd r e1 ⊢
      exact Chu.nxt_mark (by omega) (by omega)
    have hmem : tot (c.texts s) (i + 1) ∈ c.marks s.data.toList := by
      rw [show c.marks s.data.toList = Chu.mks (c.isMk s.data.toList) 1 (s.size + 1) by unfold Ctr.marks; rw [ba_len], Chu.mks_mem]
      exact ⟨⟨by omega, by omega⟩, hm⟩
    have hpw : (c.marks s.data.toList).Pairwise (· < ·) := Chu.mks_pw _ _ _
    generalize c.marks s.data.toList = M at *
    generalize tot (c.texts s) (i + 1) = x at *
    obtain ⟨j, hj, rfl⟩ := List.getElem_of_mem hmem
    have hkj : k ≤ j := by
      rcases Nat.lt_or_ge j k with q | q
      · have := hb j q
        rw [List.getD_eq_getElem?_getD, List.getElem?_eq_getElem hj] at this
        simp at this
      · exact q
    refine ⟨by omega, ?_⟩
    have hk' : k < M.length := by omega
    have h5 := hg hk'
    rw [List.getD_eq_getElem?_getD, List.getElem?_eq_getElem hk'] at h5 ⊢
    simp only [Option.getD_some] at h5 ⊢
    rcases Nat.lt_or_ge k j with q | q
    · have := List.pairwise_iff_getElem.1 hpw k j hk' hj q
      omega
    · have : k = j := by omega
      subst this
      rfl
  · simp only [tot_zero]
    exact nothingT _ (by rw [ByteArray.size_extract]; omega)
  · have r := hrg i hi
    show s.extract 0 (tot (c.texts s) i) ++ (c.texts s).getD i .empty = s.extract 0 (tot (c.texts s) (i + 1))
    rw [hD i hi]
    exact extract_cat s _ _ (by omega) r.2.2
  · have := hTle i hi
    show (s.extract 0 (tot (c.texts s) i)).size = _
    rw [ByteArray.size_extract]
    omega
  · show s.extract 0 (tot (c.texts s) (c.texts s).length) = s
    have hn : tot (c.texts s) (c.texts s).length = s.size := by
      rcases Nat.eq_zero_or_pos (c.texts s).length with e | e
      · rw [e, tot_zero]
        have e2 : (Chu.all (c.isMk s.data.toList) c.mn.toNat c.mx.toNat s.size 0).length = 0 := by rw [← hall, ← hl, e]
        rcases Nat.eq_zero_or_pos s.size with q | q
        · exact q.symm
        · rw [Chu.all_cons h1 h2 q] at e2; simp at e2
      · have := (hlast ((c.texts s).length - 1) (by omega)).1 (by omega)
        rw [show (c.texts s).length - 1 + 1 = (c.texts s).length by omega] at this
        exact this
    rw [hn]
    exact Go.Lib.whole_piece s
end Go.Proofs.Ytcmlcpejlmlcfaa
