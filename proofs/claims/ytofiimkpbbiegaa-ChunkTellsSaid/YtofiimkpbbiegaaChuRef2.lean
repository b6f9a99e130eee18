/-
  What the document's next, Marks and Cut of layer 9 return.
-/
import Derived.Test.YtofiimkpbbiegaaChuRef
import Derived.Test.YtofiimkpbbiegaaChuCut
set_option linter.unusedVariables false
set_option maxRecDepth 100000
namespace Go.Proofs.Ytofiimkpbbiegaa
open Go.RowKit

set_option maxHeartbeats 1000000 in
theorem refNext_any (c : Ctr) (hm : c.May) (s : ByteArray) (hsz : s.size ≤ 1099511627776) (a : Nat) (ha : a ≤ s.size) (w : World) :
    Calls Try.prog 29 #[c.v, .string s, .int .i64 (a : Int)] w fun e w' => e = .returned (.int .i64 (Chu.nxt (c.isMk s.data.toList) c.mn.toNat c.mx.toNat s.size a : Nat)) ∧ Below w.heap.size w w' := by
  have cm := fun i hi u => refMark_any c hm s (by omega) i hi u
  have h1 := hm.nat
  have hpos : 0 ≤ c.mn ∧ 0 ≤ c.mx := by have := hm.1.2.1; have := hm.2.1; omega
  obtain ⟨mk, hmk⟩ : ∃ mk, mk = c.isMk s.data.toList := ⟨_, rfl⟩
  rw [← hmk]
  simp only [← hmk] at cm
  clear hm hmk
  obtain ⟨p, n, mn0, mx0, b⟩ := c
  simp only at h1 hpos
  obtain ⟨mn, rfl⟩ : ∃ mn : Nat, mn0 = (mn : Int) := ⟨mn0.toNat, by omega⟩
  obtain ⟨mx, rfl⟩ : ∃ mx : Nat, mx0 = (mx : Int) := ⟨mx0.toNat, by omega⟩
  simp only [Int.toNat_natCast] at h1 ⊢
  have hmm : mn ≤ mx := by omega
  have hmx4 : mx ≤ 4096 := by omega
  obtain ⟨t, ht⟩ : ∃ t, t = min (a + mx) s.size := ⟨_, rfl⟩
  have htm : min ((a : Int) + (mx : Int)) (s.size : Int) = (t : Int) := by omega
  have hnx := fun r (hr : r ≤ t) (h2 : r = t ∨ (a + mn ≤ r ∧ mk r = true)) h3 => Chu.nxt_eq (mk := mk) (mn := mn) (mx := mx) (len := s.size) (at_ := a) (r := r) (by omega) (by rw [ht] at h2; exact h2) h3
  obtain ⟨R, hR⟩ : ∃ R, Chu.nxt mk mn mx s.size a = R := ⟨_, rfl⟩
  simp only [hR] at hnx ⊢
  have Hnx := Lib.hid hnx; clear hnx hR
  have Ht := Lib.hid ht; clear ht
  unfold Ctr.v at *
  simp only at cm
  have Cm := Lib.hid cm; clear cm
  clear h1 hpos
  have hbw := box_below w (.cells #[.int .u64 p, .int .i64 n, .int .i64 (mn : Int), .int .i64 (mx : Int), .int .i64 b] 24)
  have hrow := CtrAt.box ⟨p, n, mn, mx, b⟩ w
  have Hbw := Lib.hid hbw; clear hbw
  have Hrow := Lib.hid hrow; clear hrow
  go_enter Try.func29, Try.ntmps29
  go_wp2_with fail
  go_loopw [7] (fun x wr => ∃ j : Nat, a + mn ≤ j ∧ j ≤ max (a + mn) (t + 1) ∧ x = .int .i64 (j : Int) ∧ (∀ i, a + mn ≤ i → i < j → mk i = false) ∧ Below w.heap.size w wr ∧ CtrAt ⟨p, n, mn, mx, b⟩ w.heap.size wr) (fun x _ => max (a + mn) (t + 1) + 1 - (intOf x).toNat)
  case atStart => exact ⟨a + mn, Nat.le_refl _, Nat.le_max_left _ _, by go_num, fun i x y => by omega, Hbw.out, Hrow.out⟩
  case round =>
    clear Hbw Hrow
    obtain ⟨j, hj1, hj2, rfl, hno, hbw, hrow⟩ := hrel
    have e0 := hrow.c0
    have e1 := hrow.c1
    have e2 := hrow.c2
    have e3 := hrow.c3
    have e4 := hrow.c4
    simp only at e0 e1 e2 e3 e4
    have Hbw := Lib.hid hbw; clear hbw
    have Hno := Lib.hid hno; clear hno
    have Hrow := Lib.hid hrow; clear hrow
    by_cases hjt : j ≤ t
    · have hts := Ht.out
      have hjs : j ≤ s.size := by omega
      have g1 : decide (j ≤ s.size) = true := decide_eq_true hjs
      have g2 : decide ((j : Int) ≤ (a : Int) + (mx : Int)) = true := decide_eq_true (by omega)
      have cj := fun u => Cm.out j (by omega) u
      have Cj := Lib.hid cj; clear cj hts
      go_wp2_with fail
      refine (Cj.out _).mono ?_; rintro e w1 ⟨rfl, h1⟩
      have hb1 := Hbw.out.trans (h1.mono Hbw.out.size)
      have hr1 := Hrow.out.new h1
      have Hb1 := Lib.hid hb1; clear hb1
      have Hr1 := Lib.hid hr1; clear hr1 h1 e0 e1 e2 e3 e4
      obtain ⟨m, hmj⟩ : ∃ m, mk j = m := ⟨_, rfl⟩
      rw [hmj]
      have Hmj := Lib.hid hmj; clear hmj
      cases m with
      | true =>
        have hfin := Hnx.out j hjt (.inr ⟨hj1, Hmj.out⟩) Hno.out
        have Hfin := Lib.hid hfin; clear hfin
        go_wp2_with fail
        go_ret
        exact ⟨by rw [Hfin.out]; rfl, Hb1.out⟩
      | false =>
        go_wp2_with fail
        go_roundw
        case rel =>
          refine ⟨j + 1, by omega, by omega, by go_num, fun i x y => ?_, Hb1.out, Hr1.out⟩
          rcases Nat.lt_or_ge i j with hij | hij
          · exact Hno.out i x hij
          · rw [show i = j by omega]; exact Hmj.out
        case measure => simp [intOf]; omega
    · have hts := Ht.out
      have hfin := Hnx.out t (Nat.le_refl _) (.inl rfl) (fun i x y => Hno.out i x (by omega))
      have Hfin := Lib.hid hfin; clear hfin
      by_cases hjs : j ≤ s.size
      · have g1 : decide (j ≤ s.size) = true := decide_eq_true hjs
        have g2 : decide ((j : Int) ≤ (a : Int) + (mx : Int)) = false := decide_eq_false (by omega)
        clear hts
        go_wp2_with fail
        go_ret
        exact ⟨by rw [Hfin.out]; rfl, Hbw.out⟩
      · have g1 : decide (j ≤ s.size) = false := decide_eq_false hjs
        clear hts
        go_wp2_with fail
        go_ret
        exact ⟨by rw [Hfin.out]; rfl, Hbw.out⟩

theorem Ctr.marks_is (c : Ctr) (l : List UInt8) : c.marks l = Chu.mks (c.isMk l) 1 (l.length + 1) := rfl
set_option maxHeartbeats 1000000 in
theorem refMarks_any (c : Ctr) (hm : c.May) (s : ByteArray) (hsz : s.size ≤ 1099511627776) (w : World) :
    Calls Try.prog 16 #[c.v, .string s] w fun e w' => ∃ v, e = .returned v ∧ IOwn w.heap.size v (c.marks s.data.toList) w' ∧ Below w.heap.size w w' := by
  obtain ⟨i0, hi0, hz0, hz1, hz2⟩ := info_parts int_info
  have cm := fun i hi u => refMark_any c hm s (by omega) i hi u
  obtain ⟨mk, hmk⟩ : ∃ mk, mk = c.isMk s.data.toList := ⟨_, rfl⟩
  have hL : c.marks s.data.toList = Chu.mks mk 1 (s.size + 1) := by rw [Ctr.marks_is, ba_len, hmk]
  rw [hL]
  simp only [← hmk] at cm
  clear hm hmk hL
  unfold Ctr.v at *
  have Cm := Lib.hid cm; clear cm
  have hbw := box_below w (.cells #[.int .u64 c.p, .int .i64 c.n, .int .i64 c.mn, .int .i64 c.mx, .int .i64 c.b] 24)
  have hrow := CtrAt.box c w
  have Hbw := Lib.hid hbw; clear hbw
  have Hrow := Lib.hid hrow; clear hrow
  go_enter Try.func16, Try.ntmps16
  go_wp2_with fail
  go_loopw [5, 6] (fun v x wr => ∃ j : Nat, 1 ≤ j ∧ j ≤ s.size + 1 ∧ x = .int .i64 (j : Int) ∧ IOwn w.heap.size v (Chu.mks mk 1 j) wr ∧ Below w.heap.size w wr ∧ CtrAt c w.heap.size wr) (fun v x _ => s.size + 1 - (intOf x).toNat)
  case atStart => exact ⟨1, Nat.le_refl _, by omega, rfl, by rw [Chu.mks_zero]; exact World.ownsRow_nil _ _ 3 1, Hbw.out, Hrow.out⟩
  case round =>
    clear Hbw Hrow
    obtain ⟨j, hj1, hj2, rfl, hv, hbw, hrow⟩ := hrel
    have e0 := hrow.c0
    have e1 := hrow.c1
    have e2 := hrow.c2
    have e3 := hrow.c3
    have e4 := hrow.c4
    have Hbw := Lib.hid hbw; clear hbw
    have Hrow := Lib.hid hrow; clear hrow
    have Hv := Lib.hid hv; clear hv
    by_cases hjs : j ≤ s.size
    · have g1 : decide (j ≤ s.size) = true := decide_eq_true hjs
      have cj := fun u => Cm.out j hjs u
      have Cj := Lib.hid cj; clear cj
      go_wp2_with fail
      refine (Cj.out _).mono ?_; rintro e w1 ⟨rfl, h1⟩
      have hb1 := Hbw.out.trans (h1.mono Hbw.out.size)
      have hr1 := Hrow.out.new h1
      have hv1 := Hv.out.new h1
      have Hb1 := Lib.hid hb1; clear hb1
      have Hr1 := Lib.hid hr1; clear hr1 h1 e0 e1 e2 e3 e4 Hv
      have hl := Chu.mks_length mk 1 j
      have hst := Chu.mks_step mk 1 j hj1
      obtain ⟨m, hmj⟩ : ∃ m, mk j = m := ⟨_, rfl⟩
      rw [hmj] at hst ⊢
      have Hst := Lib.hid hst; clear hst hmj
      cases m with
      | true =>
        have hn := Hst.out
        rw [if_pos rfl] at hn
        have Hn := Lib.hid hn; clear hn Hst
        have Hv1 := Lib.hid hv1; clear hv1
        go_wp2_with (at_builtin; go_loud (refine wpList_append_own_at _ rfl _ _ 28 rfl w.heap.size 3 i0 (.int .i64 0) 1 8 Try.underlying28 hi0 hz0 hz1 hz2 rfl (by decide) _ _ _ rfl (World.ownsRow.alloc Hv1.out _) ⟨w1.heap.size, 0, none⟩ 1 1 [.int .i64 (j : Int)] rfl rfl (cell_new_row w1 [.int .i64 (j : Int)] 3) ?c2 ?c3 ?c4 ?c5 ?_))
        case c2 => intro z hz; simp at hz; subst hz; rfl
        case c3 => unfold maxLen; omega
        case c4 => omega
        case c5 => have := Hb1.out.size; simp; omega
        intro v' w5 hown5 hgrow _ hvb
        have hs := Hb1.out.size
        have hbY := box_below w1 (.cells #[.int .i64 (j : Int)] 3)
        have hb5 : Below w.heap.size w w5 := ((Hb1.out).trans (hbY.mono hs)).grown hgrow (by have := hbY.size; omega) (fun b' h => (World.ownsRow.lt Hv1.out b' h).1)
        have hv5 : IOwn w.heap.size v' (Chu.mks mk 1 (j + 1)) w5 := by
          unfold IOwn ints
          rw [Hn.out, List.length_append, List.map_append]
          exact hown5
        have hr5 : CtrAt c w.heap.size w5 := by
          unfold CtrAt
          rw [hgrow.block _ (by have := row_lt Hr1.out; have := hbY.size; omega) (fun e => ?_), hbY.block _ (row_lt Hr1.out)]
          · exact Hr1.out
          · obtain ⟨cur, hcur⟩ := ownsRow_block Hv1.out e.symm
            rw [show w1.heap[w.heap.size]? = _ from Hr1.out] at hcur
            simp only [Option.some.injEq, Obj.cells.injEq] at hcur
            exact absurd hcur.2.1 (by decide)
        have Hb5 := Lib.hid hb5; clear hb5
        have Hv5 := Lib.hid hv5; clear hv5
        have Hr5 := Lib.hid hr5; clear hr5
        clear hown5 hgrow hvb hbY hs
        go_wp2_with fail
        go_roundw
        case rel => exact ⟨j + 1, by omega, by omega, by go_num, Hv5.out, Hb5.out, Hr5.out⟩
        case measure => simp [intOf]; omega
      | false =>
        have hn := Hst.out
        rw [if_neg (by simp)] at hn
        rw [← hn] at hv1
        have Hv1 := Lib.hid hv1; clear hv1 hn Hst
        go_wp2_with fail
        go_roundw
        case rel => exact ⟨j + 1, by omega, by omega, by go_num, Hv1.out, Hb1.out, Hr1.out⟩
        case measure => simp [intOf]; omega
    · have g1 : decide (j ≤ s.size) = false := decide_eq_false hjs
      have hjl : j = s.size + 1 := by omega
      have Hjl := Lib.hid hjl; clear hjl e0 e1 e2 e3 e4
      go_wp2_with fail
      go_ret
      exact ⟨_, rfl, by rw [← Hjl.out]; exact Hv.out, Hbw.out⟩

theorem Ctr.cut_is (c : Ctr) (l : List UInt8) : c.cut l = Chu.pcs 0 (Chu.ends (c.isMk l) c.mn.toNat c.mx.toNat l.length l.length 0) := rfl
set_option maxHeartbeats 1000000 in
theorem refCut_any (c : Ctr) (hm : c.May) (s : ByteArray) (hsz : s.size ≤ 1099511627776) (w : World) :
    Calls Try.prog 14 #[c.v, .string s] w fun e w' => ∃ v, e = .returned v ∧ POwn w.heap.size v (c.cut s.data.toList) w' ∧ Below w.heap.size w w' := by
  obtain ⟨i0, hi0, hz0, hz1, hz2⟩ := info_parts piece_info
  have cm := fun a ha u => refNext_any c hm s hsz a ha u
  have h1 := hm.nat
  obtain ⟨mn, hmn⟩ : ∃ mn, mn = c.mn.toNat := ⟨_, rfl⟩
  obtain ⟨mx, hmx⟩ : ∃ mx, mx = c.mx.toNat := ⟨_, rfl⟩
  obtain ⟨mk, hmk⟩ : ∃ mk, mk = c.isMk s.data.toList := ⟨_, rfl⟩
  obtain ⟨Z, hZ⟩ : ∃ Z, Z = c.cut s.data.toList := ⟨_, rfl⟩
  have hZ0 : Z = [] ++ Chu.pcs 0 (Chu.ends mk mn mx s.size s.size 0) := by
    rw [hZ, Ctr.cut_is, ba_len, hmk, hmn, hmx]; rfl
  rw [← hZ]
  simp only [← hmk, ← hmn, ← hmx] at cm
  rw [← hmn, ← hmx] at h1
  have hm1 : 1 ≤ mn := h1.1
  have hm2 : mn ≤ mx := h1.2.1
  clear hm hmk hmn hmx hZ h1
  unfold Ctr.v at *
  have Cm := Lib.hid cm; clear cm
  have HZ0 := Lib.hid hZ0; clear hZ0
  have hbw := box_below w (.cells #[.int .u64 c.p, .int .i64 c.n, .int .i64 c.mn, .int .i64 c.mx, .int .i64 c.b] 24)
  have hrow := CtrAt.box c w
  have Hbw := Lib.hid hbw; clear hbw
  have Hrow := Lib.hid hrow; clear hrow
  go_enter Try.func14, Try.ntmps14
  go_wp2_with fail
  go_loopw [5, 6] (fun v x wr => ∃ a ps, a ≤ s.size ∧ ps.length ≤ a ∧ x = .int .i64 (a : Int) ∧ Z = ps ++ Chu.pcs a (Chu.ends mk mn mx s.size s.size a) ∧ POwn w.heap.size v ps wr ∧ Below w.heap.size w wr ∧ CtrAt c w.heap.size wr) (fun v x _ => s.size - (intOf x).toNat)
  case atStart => exact ⟨0, [], Nat.zero_le _, Nat.le_refl _, rfl, HZ0.out, World.ownsRow_nil _ _ 45 2, Hbw.out, Hrow.out⟩
  case round =>
    clear Hbw Hrow HZ0
    obtain ⟨a, ps, ha, hpl, rfl, hz, hv, hbw, hrow⟩ := hrel
    have e0 := hrow.c0
    have e1 := hrow.c1
    have e2 := hrow.c2
    have e3 := hrow.c3
    have e4 := hrow.c4
    have Hbw := Lib.hid hbw; clear hbw
    have Hrow := Lib.hid hrow; clear hrow
    have Hv := Lib.hid hv; clear hv
    by_cases hlt : a < s.size
    · have g1 : decide (a < s.size) = true := decide_eq_true hlt
      have hz2 := Chu.cut_step (Z := Z) (ps := ps) hm1 hm2 hlt rfl hz
      have hrg := Chu.nxt_range (mk := mk) hm1 hm2 hlt
      have cj := fun u => Cm.out a ha u
      generalize Chu.nxt mk mn mx s.size a = r at *
      have hw1 : IntKind.i64.wrap ((r : Int) - (a : Int)) = ((r - a : Nat) : Int) := by simp only [IntKind.wrap_i64]; omega
      have Hz2 := Lib.hid hz2; clear hz2 hz
      have Cj := Lib.hid cj; clear cj
      go_wp2_with fail
      refine (Cj.out _).mono ?_; rintro e w1 ⟨rfl, h1⟩
      have hb1 := Hbw.out.trans (h1.mono Hbw.out.size)
      have hr1 := Hrow.out.new h1
      have hv1 := Hv.out.new h1
      have Hb1 := Lib.hid hb1; clear hb1
      have Hr1 := Lib.hid hr1; clear hr1 h1 e0 e1 e2 e3 e4 Hv
      have Hv1 := Lib.hid hv1; clear hv1
      go_wp2_with (at_builtin; go_loud (refine wpList_append_own_at _ rfl _ _ 31 rfl w.heap.size 45 i0 (.agg #[.int .i64 0, .int .i64 0]) 2 16 Try.underlying31 hi0 hz0 hz1 hz2 rfl (by decide) _ _ _ rfl (World.ownsRow.alloc Hv1.out _) ⟨w1.heap.size, 0, none⟩ 1 1 [.int .i64 (a : Int), .int .i64 ((r - a : Nat) : Int)] rfl rfl (cell_new_row w1 [.int .i64 (a : Int), .int .i64 ((r - a : Nat) : Int)] 45) ?c2 ?c3 ?c4 ?c5 ?_))
      case c2 => intro z hz; simp at hz; rcases hz with rfl | rfl <;> rfl
      case c3 => unfold maxLen; omega
      case c4 => omega
      case c5 => have := Hb1.out.size; simp; omega
      intro v' w5 hown5 hgrow _ hvb
      have hs := Hb1.out.size
      have hbY := box_below w1 (.cells #[.int .i64 (a : Int), .int .i64 ((r - a : Nat) : Int)] 45)
      have hb5 : Below w.heap.size w w5 := ((Hb1.out).trans (hbY.mono hs)).grown hgrow (by have := hbY.size; omega) (fun b' h => (World.ownsRow.lt Hv1.out b' h).1)
      have hv5 : POwn w.heap.size v' (ps ++ [(a, r - a)]) w5 := by
        unfold POwn
        rw [List.length_append, List.flatMap_append]
        exact hown5
      have hr5 : CtrAt c w.heap.size w5 := by
        unfold CtrAt
        rw [hgrow.block _ (by have := row_lt Hr1.out; have := hbY.size; omega) (fun e => ?_), hbY.block _ (row_lt Hr1.out)]
        · exact Hr1.out
        · exact Hv1.out.off (by decide) (show w1.heap[w.heap.size]? = _ from Hr1.out) e.symm
      have Hb5 := Lib.hid hb5; clear hb5
      have Hv5 := Lib.hid hv5; clear hv5
      have Hr5 := Lib.hid hr5; clear hr5
      clear hown5 hgrow hvb hbY hs
      go_wp2_with fail
      go_roundw
      case rel => exact ⟨r, _, hrg.2.2, by rw [List.length_append]; exact (by omega : ps.length + 1 ≤ r), rfl, Hz2.out, Hv5.out, Hb5.out, Hr5.out⟩
      case measure => simp [intOf]; omega
    · have g1 : decide (a < s.size) = false := decide_eq_false hlt
      have hzz : Z = ps := by
        rw [hz, show a = s.size by omega, Chu.ends_done _ _ _ _ _ _ (Nat.le_refl _)]
        simp [Chu.pcs]
      have Hzz := Lib.hid hzz; clear hzz hz e0 e1 e2 e3 e4
      go_wp2_with fail
      go_ret
      exact ⟨_, rfl, by rw [Hzz.out]; exact Hv.out, Hbw.out⟩
end Go.Proofs.Ytofiimkpbbiegaa
