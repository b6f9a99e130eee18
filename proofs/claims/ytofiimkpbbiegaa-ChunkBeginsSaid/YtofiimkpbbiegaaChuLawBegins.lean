/-
  ChunkBegins: where two texts begin alike, all cuts within that are the same, but an end of one of both: for every cutter, every beginning, every two ends.
  Conditions: none.
-/
import Derived.Test.YtofiimkpbbiegaaChuAlive
import Derived.Test.YtofiimkpbbiegaaChuLawP
import Derived.Test.YtofiimkpbbiegaaChuArg
import Derived.BigQuiet
import Derived.StillTailTactics
import Derived.ProofKit
import Derived.OpenShut
import Derived.ShutString
import Derived.ChangeOld
import Derived.SizedLaws
namespace Go.Proofs.Ytofiimkpbbiegaa.chunkBegins
open Go.ChangeShapes Go.WideShapes Go.ChangeAt Go.RowKit
open Go.ChangeMaps (open_string shut_string)
set_option linter.unusedVariables false
set_option maxRecDepth 100000

theorem own : ownKnob Try.prog.godebug = none := by kernel_rfl
theorem laidOut : laidOutB Try.prog = true := by kernel_rfl
theorem nothing (s : ByteArray) (h : s.size = 0) : s = ⟨#[]⟩ := by
  obtain ⟨a⟩ := s
  rw [Array.eq_empty_of_size_eq_zero (show a.size = 0 from h)]

/-- what holds of the cuts of two texts that begin alike -/
def Beg (p n1 n2 : Nat) (e1 e2 : Prop) (X Y : Nat → Nat) : Prop := ∀ i, i < n1 → i < n2 → (∀ j, j < i → X j ≤ p ∧ Y j ≤ p) → (X i ≤ p → Y i ≤ p → X i = Y i) ∧ (p < X i ∨ p < Y i → (p < X i ∨ (e1 ∧ i + 1 = n1)) ∧ (p < Y i ∨ (e2 ∧ i + 1 = n2)))
theorem beg_is {c : Ctr} (h : c.May) (a x y : ByteArray) : Beg a.size (c.ends (a ++ x).data.toList).length (c.ends (a ++ y).data.toList).length (x.size = 0) (y.size = 0) (fun i => (c.ends (a ++ x).data.toList).getD i 0) (fun i => (c.ends (a ++ y).data.toList).getD i 0) := by
  intro i h1 h2 h3
  have e1 : (a ++ x).data.toList = a.data.toList ++ x.data.toList := Go.Joins.data_append a x
  have e2 : (a ++ y).data.toList = a.data.toList ++ y.data.toList := Go.Joins.data_append a y
  rw [e1] at h1
  rw [e2] at h2
  simp only [e1, e2] at h3 ⊢
  simp only [Ctr.ends_all] at h1 h2 h3 ⊢
  have l1 : (a.data.toList ++ x.data.toList).length = a.size + x.size := by rw [List.length_append, ba_len, ba_len]
  have l2 : (a.data.toList ++ y.data.toList).length = a.size + y.size := by rw [List.length_append, ba_len, ba_len]
  rw [l1] at h1
  rw [l2] at h2
  simp only [l1, l2] at h3 ⊢
  have hb := Chu.begins_at (mk := c.isMk (a.data.toList ++ x.data.toList)) (mk' := c.isMk (a.data.toList ++ y.data.toList)) (len := a.size + x.size) (len' := a.size + y.size) h.nat.1 h.nat.2.1 (p := a.size) (by omega) (by omega)
    (fun j hj => Chu.mark_begin _ _ _ _ _ _ j (by rw [ba_len]; exact hj)) i 0 h1 h2 h3
  refine ⟨hb.1, fun hh => ?_⟩
  obtain ⟨q1, q2⟩ := hb.2 hh
  exact ⟨q1.imp id (fun hx => ⟨by omega, hx.2⟩), q2.imp id (fun hx => ⟨by omega, hx.2⟩)⟩

set_option maxHeartbeats 2000000 in
theorem walk (c0 : Ctr) (s1 s2 s3 : ByteArray) (w : World) (wc0 : c0.Wf) (z1 : s1.size ≤ 140737488351232) (z2 : s2.size ≤ 140737488351232) (z3 : s3.size ≤ 140737488351232) :
    Calls Try.prog 6 #[c0.v, .string s1, .string s2, .string s3] w fun e w' => e = .returned (.bool true) ∧ Below w.heap.size w w' := by
  have hbw := box_below w (.cells #[.int .u64 c0.p, .int .i64 c0.n, .int .i64 c0.mn, .int .i64 c0.mx, .int .i64 c0.b] 24)
  have hrow := CtrAt.box c0 w
  have Hbw := Lib.hid hbw; clear hbw
  by_cases hl : 3000 < s2.size + s3.size + s1.size
  · have hd : decide ((3000 : Int) < (s2.size : Int) + (s3.size : Int) + (s1.size : Int)) = true := decide_eq_true (by omega)
    unfold Ctr.v
    clear hrow
    go_enter Try.func6, Try.ntmps6
    go_wp2_with fail
    refine (chuAlive_any _).mono ?_; rintro e w1 ⟨rfl, hb1⟩
    have hbe := Hbw.out.trans (hb1.mono Hbw.out.size)
    have Hbe := Lib.hid hbe; clear hbe hb1
    go_wp2_with fail
    go_ret
    exact ⟨rfl, Hbe.out⟩
  have hd : decide ((3000 : Int) < (s2.size : Int) + (s3.size : Int) + (s1.size : Int)) = false := decide_eq_false (by omega)
  have hz12 : (s1 ++ s2).size = s1.size + s2.size := ByteArray.size_append
  have hz13 : (s1 ++ s3).size = s1.size + s3.size := ByteArray.size_append
  have c1 := fun u => chTexts_any c0 wc0.p (s1 ++ s2) (by omega) u
  have c2 := fun u => chTexts_any c0 wc0.p (s1 ++ s3) (by omega) u
  by_cases hm : c0.May
  rotate_left
  · simp only [if_neg hm] at c1 c2
    unfold Ctr.v at *
    have C1 := Lib.hid c1; clear c1
    have C2 := Lib.hid c2; clear c2
    clear hm hz12 hz13
    have e0 := hrow.c0
    have e1 := hrow.c1
    have e2 := hrow.c2
    have e3 := hrow.c3
    have e4 := hrow.c4
    have Hrow := Lib.hid hrow; clear hrow
    go_enter Try.func6, Try.ntmps6
    go_wp2_with fail
    refine (C1.out _).mono ?_; rintro e w1 ⟨h1, rfl⟩
    have hrow1 := Hrow.out.new h1
    have Hb1 := Lib.hid (Hbw.out.trans (h1.mono Hbw.out.size)); clear h1
    clear e0 e1 e2 e3 e4
    have e0 := hrow1.c0
    have e1 := hrow1.c1
    have e2 := hrow1.c2
    have e3 := hrow1.c3
    have e4 := hrow1.c4
    clear hrow1
    go_wp2_with fail
    refine (C2.out _).mono ?_; rintro e w2 ⟨h2, rfl⟩
    have Hb2 := Lib.hid (Hb1.out.trans (h2.mono Hb1.out.size)); clear h2
    clear e0 e1 e2 e3 e4
    go_wp2_with fail
    refine (chuAlive_any _).mono ?_; rintro e w3 ⟨rfl, h3⟩
    have Hb3 := Lib.hid (Hb2.out.trans (h3.mono Hb2.out.size)); clear h3
    go_wp2_with fail
    go_ret
    exact ⟨rfl, Hb3.out⟩
  · simp only [if_pos hm] at c1 c2
    have hbeg := beg_is hm s1 s2 s3
    have ht1 := Ctr.endsT_is hm (s1 ++ s2)
    have ht2 := Ctr.endsT_is hm (s1 ++ s3)
    have hto1 := Ctr.tot_le hm (s1 ++ s2)
    have hto2 := Ctr.tot_le hm (s1 ++ s3)
    have hl1 : (c0.texts (s1 ++ s2)).length ≤ (s1 ++ s2).size := by unfold Ctr.texts; rw [pcTexts_length, ← ba_len]; exact Ctr.cut_len hm _
    have hl2 : (c0.texts (s1 ++ s3)).length ≤ (s1 ++ s3).size := by unfold Ctr.texts; rw [pcTexts_length, ← ba_len]; exact Ctr.cut_len hm _
    have hn1 : (c0.ends (s1 ++ s2).data.toList).length = (c0.texts (s1 ++ s2)).length := by rw [← ht1]; simp [endsT]
    have hn2 : (c0.ends (s1 ++ s3).data.toList).length = (c0.texts (s1 ++ s3)).length := by rw [← ht2]; simp [endsT]
    rw [hn1, hn2] at hbeg
    rw [hz12] at hto1 hl1
    rw [hz13] at hto2 hl2
    generalize c0.ends (s1 ++ s2).data.toList = E1 at *
    generalize c0.ends (s1 ++ s3).data.toList = E2 at *
    generalize c0.texts (s1 ++ s2) = L1 at *
    generalize c0.texts (s1 ++ s3) = L2 at *
    obtain ⟨n1, hn1'⟩ : ∃ n1, n1 = L1.length := ⟨_, rfl⟩
    obtain ⟨n2, hn2'⟩ : ∃ n2, n2 = L2.length := ⟨_, rfl⟩
    have cc1 := fun v u h => lcuts_any v L1 u h (by omega) (fun k hk => by have := hto1 k hk; omega)
    have cc2 := fun v u h => lcuts_any v L2 u h (by omega) (fun k hk => by have := hto2 k hk; omega)
    simp only [ht1] at cc1
    simp only [ht2] at cc2
    unfold TxR at c1 c2
    simp only [← hn1'] at c1 hbeg hl1 hn1
    simp only [← hn2'] at c2 hbeg hl2 hn2
    have Hbeg := Lib.hid hbeg; clear hbeg
    have Cc1 := Lib.hid cc1; clear cc1
    have Cc2 := Lib.hid cc2; clear cc2
    have Hn1' := Lib.hid hn1'; clear hn1'
    have Hn2' := Lib.hid hn2'; clear hn2'
    have Hn1 := Lib.hid hn1; clear hn1
    have Hn2 := Lib.hid hn2; clear hn2
    unfold Ctr.v at *
    have C1 := Lib.hid c1; clear c1
    have C2 := Lib.hid c2; clear c2
    clear hm ht1 ht2 hto1 hto2 hz12 hz13
    have e0 := hrow.c0
    have e1 := hrow.c1
    have e2 := hrow.c2
    have e3 := hrow.c3
    have e4 := hrow.c4
    have Hrow := Lib.hid hrow; clear hrow
    go_enter Try.func6, Try.ntmps6
    go_wp2_with fail
    refine (C1.out _).mono ?_; rintro e w1 ⟨h1, g1, hg1, rfl, hr1⟩
    have hrow1 := Hrow.out.new h1
    have Hb1 := Lib.hid (Hbw.out.trans (h1.mono Hbw.out.size)); clear h1
    clear e0 e1 e2 e3 e4
    have e0 := hrow1.c0
    have e1 := hrow1.c1
    have e2 := hrow1.c2
    have e3 := hrow1.c3
    have e4 := hrow1.c4
    have Hr1 := Lib.hid hr1; clear hr1 hrow1 hg1
    go_wp2_with fail
    refine (C2.out _).mono ?_; rintro e w2 ⟨h2, g2, hg2, rfl, hr2⟩
    have hr12 : w2.heap[g1]? = some (.cells (L1.map Value.string).toArray 9 (0, 0)) := by rw [h2.block _ (row_lt Hr1.out)]; exact Hr1.out
    have Hb2 := Lib.hid (Hb1.out.trans (h2.mono Hb1.out.size)); clear h2
    have hT1 : TRd (.slice (some ⟨g1, 0, none⟩) n1 n1) L1 w2 := ⟨g1, by rw [Hn1'.out], hr12⟩
    have hT2 : TRd (.slice (some ⟨g2, 0, none⟩) n2 n2) L2 w2 := ⟨g2, by rw [Hn2'.out], hr2⟩
    have HT1 := Lib.hid hT1; clear hT1 hr12
    have HT2 := Lib.hid hT2; clear hT2 hr2 hg2
    clear e0 e1 e2 e3 e4
    go_wp2_with fail
    refine (Cc1.out _ _ HT1.out).mono ?_; rintro e w3 ⟨v1, rfl, hv1, h3⟩
    have hT2 := HT2.out.new h3
    have Hb3 := Lib.hid (Hb2.out.trans (h3.mono Hb2.out.size)); clear h3
    have HT3 := Lib.hid hT2; clear hT2
    have Hv1 := Lib.hid hv1; clear hv1
    go_wp2_with fail
    refine (Cc2.out _ _ HT3.out).mono ?_; rintro e w4 ⟨v2, rfl, hv2, h4⟩
    have hv1 := (Hv1.out.new h4).reads
    have hv2 := hv2.reads
    have Hb4 := Lib.hid (Hb3.out.trans (h4.mono Hb3.out.size)); clear h4
    obtain ⟨a1, k1, rfl, hk1, hf1⟩ := hv1
    obtain ⟨a2, k2, rfl, hk2, hf2⟩ := hv2
    rw [Hn1.out] at hk1 hf1 ⊢
    rw [Hn2.out] at hk2 hf2 ⊢
    generalize hX : (fun i => E1.getD i 0) = X at *
    generalize hY : (fun i => E2.getD i 0) = Y at *
    have hX' : ∀ i, E1.getD i 0 = X i := fun i => by rw [← hX]
    have hY' : ∀ i, E2.getD i 0 = Y i := fun i => by rw [← hY]
    simp only [hX'] at hf1
    simp only [hY'] at hf2
    have Hf1 := Lib.hid hf1; clear hf1
    have Hf2 := Lib.hid hf2; clear hf2
    clear hX hY hX' hY' Hv1 HT1 HT2 HT3 Cc1 Cc2 C1 C2 Hr1 Hrow Hb1 Hb2 Hb3
    go_wp2_with fail
    go_loopw [15] (fun x wr => ∃ i : Nat, i ≤ n1 ∧ i ≤ n2 ∧ x = .int .i64 (i : Int) ∧ (∀ j, j < i → X j ≤ s1.size ∧ Y j ≤ s1.size) ∧ Below w4.heap.size w4 wr) (fun x _ => n1 - (intOf x).toNat)
    case atStart => exact ⟨0, Nat.zero_le _, Nat.zero_le _, rfl, fun j hj => by omega, Below.refl _ _⟩
    case round =>
      obtain ⟨i, hi1, hi2, rfl, hj, hb⟩ := hrel
      have hbe := Hb4.out.trans (hb.mono Hb4.out.size)
      have al := chuAlive_any wr
      have Al := Lib.hid al; clear al
      by_cases hlt1 : i < n1
      · by_cases hlt2 : i < n2
        · have g1 : decide (i < n1) = true := decide_eq_true hlt1
          have g2 : decide (i < n2) = true := decide_eq_true hlt2
          have g1' : (i : Int) < (n1 : Int) := by omega
          have g2' : (i : Int) < (n2 : Int) := by omega
          obtain ⟨b1, rfl, d1⟩ := Hf1.out i hlt1
          obtain ⟨b2, rfl, d2⟩ := Hf2.out i hlt2
          have d1 : wr.cell? ⟨b1, i, none⟩ = some (.int .i64 (X i : Nat)) := by rw [hb.cell (p := ⟨b1, i, none⟩) (cell_lt d1)]; exact d1
          have d2 : wr.cell? ⟨b2, i, none⟩ = some (.int .i64 (Y i : Nat)) := by rw [hb.cell (p := ⟨b2, i, none⟩) (cell_lt d2)]; exact d2
          obtain ⟨hB1, hB2⟩ := Hbeg.out i hlt1 hlt2 hj
          have hjj := hj
          have hxy : ∀ p, p = s1.size → ∀ x y, x = X i → y = Y i → (∀ j, j < i + 1 → x ≤ p → y ≤ p → X j ≤ p ∧ Y j ≤ p) := fun p hp x y hx hy j h1 h2 h3 => by
            subst hp hx hy
            rcases Nat.lt_or_ge j i with q | q
            · exact hj j q
            · rw [show j = i by omega]; exact ⟨h2, h3⟩
          have hnext := fun h2 h3 j h1 => hxy _ rfl _ _ rfl rfl j h1 h2 h3
          clear hxy hjj
          obtain ⟨x, hx⟩ : ∃ x, x = X i := ⟨_, rfl⟩
          obtain ⟨y, hy⟩ : ∃ y, y = Y i := ⟨_, rfl⟩
          rw [← hx] at d1 hB1 hB2 hnext
          rw [← hy] at d2 hB1 hB2 hnext
          have Hj := Lib.hid hj; clear hj hx hy
          have Hbe := Lib.hid hbe; clear hbe
          have Hb := Lib.hid hb; clear hb
          have Hnext := Lib.hid hnext; clear hnext
          by_cases hxp : s1.size < x
          · obtain ⟨-, hq⟩ := hB2 (.inl hxp)
            have p1 : decide (s1.size < x) = true := decide_eq_true hxp
            clear hB1 hB2
            by_cases hyp : s1.size < y
            · have p2 : decide (s1.size < y) = true := decide_eq_true hyp
              clear hq
              go_wp2_with fail
              refine Al.out.mono ?_; rintro e w5 ⟨rfl, h5⟩
              have Hb5 := Lib.hid (Hbe.out.trans (h5.mono Hbe.out.size)); clear h5
              go_wp2_with fail
              go_ret
              exact ⟨rfl, Hb5.out⟩
            · have p2 : decide (s1.size < y) = false := decide_eq_false hyp
              obtain ⟨q1, q2⟩ := hq.resolve_left hyp
              obtain rfl := nothing s3 q1
              have q3 : ((i : Int) == (n2 : Int) - 1) = true := by simp; omega
              clear q1 q2
              go_wp2_with fail
              refine Al.out.mono ?_; rintro e w5 ⟨rfl, h5⟩
              have Hb5 := Lib.hid (Hbe.out.trans (h5.mono Hbe.out.size)); clear h5
              go_wp2_with fail
              go_ret
              exact ⟨rfl, Hb5.out⟩
          · have p1 : decide (s1.size < x) = false := decide_eq_false hxp
            by_cases hyp : s1.size < y
            · obtain ⟨hq, -⟩ := hB2 (.inr hyp)
              have p2 : decide (s1.size < y) = true := decide_eq_true hyp
              obtain ⟨q1, q2⟩ := hq.resolve_left hxp
              obtain rfl := nothing s2 q1
              have q3 : ((i : Int) == (n1 : Int) - 1) = true := by simp; omega
              clear q1 q2 hB1 hB2 hq
              go_wp2_with fail
              refine Al.out.mono ?_; rintro e w5 ⟨rfl, h5⟩
              have Hb5 := Lib.hid (Hbe.out.trans (h5.mono Hbe.out.size)); clear h5
              go_wp2_with fail
              go_ret
              exact ⟨rfl, Hb5.out⟩
            · have p2 : decide (s1.size < y) = false := decide_eq_false hyp
              obtain rfl := hB1 (by omega) (by omega)
              have hnx := Hnext.out (by omega) (by omega)
              have Hnx := Lib.hid hnx; clear hnx hB1 hB2
              go_wp2_with fail
              go_quiet (fail)
              go_wp2_with fail
              go_roundw
              case rel => exact ⟨i + 1, by omega, by omega, by go_num, Hnx.out, drewN_below Hb.out _⟩
              case measure => simp [intOf]; omega
        · have g1 : decide (i < n1) = true := decide_eq_true hlt1
          have g2 : decide (i < n2) = false := decide_eq_false hlt2
          have Hbe := Lib.hid hbe; clear hbe
          have Hb := Lib.hid hb; clear hb hj
          go_wp2_with fail
          refine Al.out.mono ?_; rintro e w5 ⟨rfl, h5⟩
          have Hb5 := Lib.hid (Hbe.out.trans (h5.mono Hbe.out.size)); clear h5
          go_wp2_with fail
          go_ret
          exact ⟨rfl, Hb5.out⟩
      · have g1 : decide (i < n1) = false := decide_eq_false hlt1
        have Hbe := Lib.hid hbe; clear hbe
        have Hb := Lib.hid hb; clear hb hj
        go_wp2_with fail
        refine Al.out.mono ?_; rintro e w5 ⟨rfl, h5⟩
        have Hb5 := Lib.hid (Hbe.out.trans (h5.mono Hbe.out.size)); clear h5
        go_wp2_with fail
        go_ret
        exact ⟨rfl, Hb5.out⟩

theorem contract (H : Type) (enc : TypeId × Value → H) (W : World) (base : Nat) (args : Array Value) (ds gs : List (DataW H)) (before : List MemPlace)
    (hval : ∀ (j : Nat) t v, Try.f6.params[j]? = some t → args[j]? = some v → Value.okWide Try.prog W .any base t v)
    (hW : DataW.Whole enc Try.prog Try.f6.params.toList Rows.chunkBeginsSpec.vars false W args.toList ds gs before)
    (hsz : (DataW.weightsEach Try.prog (Try.f6.params.toList ++ Rows.chunkBeginsSpec.plain.varTypes Try.prog) (ds ++ gs)).all (· ≤ reachBytes) = true) :
    Calls Try.prog 6 args W fun e W' => ∃ v, e = .returned v ∧ Rows.chunkBeginsSpec.post enc Try.prog Try.f6 false true false false W args v W' := by
  have hW' := hW
  obtain ⟨p, q, hA0, hV, rfl, hfz, hnd⟩ := hW
  have hA : DataW.TrodAll enc Try.prog W 0 (fun _ => true) true Try.f6.params.toList args.toList ds p := hA0
  rw [Try.params6] at hA hval hsz
  obtain ⟨v0, vs0, d0, ds0, p0, q0, hargs, rfl, rfl, h0, r0⟩ := trodAll_cons hA
  obtain ⟨v1, vs1, d1, ds1, p1, q1, rfl, rfl, rfl, h1, r1⟩ := trodAll_cons r0
  obtain ⟨v2, vs2, d2, ds2, p2, q2, rfl, rfl, rfl, h2, r2⟩ := trodAll_cons r1
  obtain ⟨v3, vs3, d3, ds3, p3, q3, rfl, rfl, rfl, h3, r3⟩ := trodAll_cons r2
  obtain ⟨rfl, rfl, rfl⟩ := trodAll_nil r3
  obtain rfl : args = #[v0, v1, v2, v3] := Array.ext' hargs
  obtain ⟨rfl, rfl⟩ := trodVars_none hV
  have k0 := h0
  have lt0 : ∀ x ∈ p0, x.block < W.heap.size := by obtain ⟨m, hm⟩ := k0; exact DataW.trod_lt m _ _ _ hm
  obtain ⟨c0, rfl, wc0⟩ := open_cutter Try.underlying24 rfl rfl rfl rfl rfl Try.underlying22 Try.underlying3 (by kernel_rfl) (by kernel_rfl) (hval 0 24 v0 rfl rfl) h0
  obtain ⟨s1, rfl, rfl, rfl, m1⟩ := open_string Try.underlying9 (hval 1 9 v1 rfl rfl) h1
  obtain ⟨s2, rfl, rfl, rfl, m2⟩ := open_string Try.underlying9 (hval 2 9 v2 rfl rfl) h2
  obtain ⟨s3, rfl, rfl, rfl, m3⟩ := open_string Try.underlying9 (hval 3 9 v3 rfl rfl) h3
  clear hA0
  have z1 : s1.size ≤ 140737488351232 := by
    have := List.all_eq_true.1 hsz s1.data.toList.length (by simp [DataW.weightsEach, DataW.weights])
    rw [ba_len] at this
    exact of_decide_eq_true this
  have z2 : s2.size ≤ 140737488351232 := by
    have := List.all_eq_true.1 hsz s2.data.toList.length (by simp [DataW.weightsEach, DataW.weights])
    rw [ba_len] at this
    exact of_decide_eq_true this
  have z3 : s3.size ≤ 140737488351232 := by
    have := List.all_eq_true.1 hsz s3.data.toList.length (by simp [DataW.weightsEach, DataW.weights])
    rw [ba_len] at this
    exact of_decide_eq_true this
  refine (walk c0 s1 s2 s3 W wc0 z1 z2 z3).mono fun e W' ⟨he, bel⟩ => ?_
  subst he
  exact ⟨_, rfl, _, _, _, [], _, [], hW', trodAll_mk1 (shut_bool Try.underlying4 _), (trodAll_cons_mk (Below.trod laidOut (by kernel_rfl) (of_decide_eq_true (by kernel_rfl)) k0 bel lt0) (trodAll_cons_mk (shut_string Try.underlying9 m1) (trodAll_cons_mk (shut_string Try.underlying9 m2) (trodAll_cons_mk (shut_string Try.underlying9 m3) trodAll_mk0)))), rfl, bel.frame _, fun h => by cases h⟩

set_option maxRecDepth 100000 in
theorem lifted (os : Os) (started : os.Started) (H : Type) (enc : TypeId × Value → H) :
    ReturnsInHanded {} Try.checked os 6 .any (Rows.chunkBeginsSpec.pre6 enc Try.prog Try.f6 Rows.chunkBeginsRow.domain false) (Rows.chunkBeginsSpec.post enc Try.prog Try.f6 false true false false) := by
  refine returnsInHanded_of_change_sized (C := Try.checked) own started (by kernel_rfl) Try.func6
    (ChangeSpec.witness6 (enc := enc) (C := Try.checked) false ⟨#[], #[.agg #[.int .u64 0, .int .i64 0, .int .i64 0, .int .i64 0, .int .i64 0], .string .empty, .string .empty, .string .empty], []⟩ 8 (by kernel_rfl) (by kernel_rfl) (by kernel_rfl) (by kernel_rfl)) ?_
  intro W base args ds gs before hval hW hcnd hsz _
  exact contract H enc W base args ds gs before hval hW hsz

theorem over : Rows.chunkBeginsRow.holds Try.pinned (OpenSpec.ofChange Rows.chunkBeginsSpec) :=
  OpenClaim.holds_of_wide 6 Try.f6 rfl rfl rfl rfl rfl rfl rfl ⟨rfl, rfl, rfl, rfl, rfl⟩ rfl rfl rfl rfl rfl (by kernel_rfl) Try.func6 (by kernel_rfl)
    (of_decide_eq_true (by kernel_rfl)) (by unfold Func.isWrapper; first | (rw [if_pos (by decide +kernel)]; kernel_rfl) | (rw [if_neg (by decide +kernel)]; exact ⟨rfl, rfl⟩))
    (fun os started H enc _ => lifted os started H enc)

theorem proved : Rows.ChunkBeginsSaid := over

end Go.Proofs.Ytofiimkpbbiegaa.chunkBegins
