/-
  ChunkMeets: where two texts end alike, and both are cut at one place of what is alike, all cuts behind it are the same: for every cutter, every two beginnings, every end.
  Conditions: none.
-/
import Derived.Test.YtofiimkpbbiegaaChuAlive
import Derived.Test.YtofiimkpbbiegaaChuLawP
import Derived.Test.YtofiimkpbbiegaaChuArg
import Derived.BigQuiet
import Derived.StillTailTactics
import Derived.ProofKit
import Derived.OpenShut
import Derived.ShutString
import Derived.ChangeOld
import Derived.SizedLaws
namespace Go.Proofs.Ytofiimkpbbiegaa.chunkMeets
open Go.ChangeShapes Go.WideShapes Go.ChangeAt Go.RowKit
open Go.ChangeMaps (open_string shut_string)
set_option linter.unusedVariables false
set_option maxRecDepth 100000

theorem own : ownKnob Try.prog.godebug = none := by kernel_rfl
theorem laidOut : laidOutB Try.prog = true := by kernel_rfl
theorem nothing (s : ByteArray) (h : s.size = 0) : s = ⟨#[]⟩ := by
  obtain ⟨a⟩ := s
  rw [Array.eq_empty_of_size_eq_zero (show a.size = 0 from h)]

/-- from these places on the cuts are the same, p and q places apart -/
def Mt (p q : Nat) (E1 E2 : List Nat) (i k : Nat) : Prop := ∃ R : List Nat, E1.drop i = R.map (p + ·) ∧ E2.drop k = R.map (q + ·)
def Meet (p q n1 n2 : Nat) (E1 E2 : List Nat) (X Y : Nat → Nat) : Prop :=
  (∀ i k, i < n1 → k < n2 → p ≤ X i → q ≤ Y k → X i - p = Y k - q → Mt p q E1 E2 (i + 1) (k + 1)) ∧
  (∀ i k, i < n1 → k < n2 → Mt p q E1 E2 i k → p ≤ X i ∧ q ≤ Y k ∧ X i - p = Y k - q) ∧
  (∀ i k, i ≤ n1 → k ≤ n2 → Mt p q E1 E2 i k → ¬ (i < n1 ∧ k < n2) → i = n1 ∧ k = n2)
theorem mt_len {p q : Nat} {E1 E2 : List Nat} {i k : Nat} (h : Mt p q E1 E2 i k) : E1.length - i = E2.length - k := by
  obtain ⟨R, h1, h2⟩ := h
  have := congrArg List.length h1
  have := congrArg List.length h2
  simp at *
  omega
theorem mt_get {p q : Nat} {E1 E2 : List Nat} {i k : Nat} (h : Mt p q E1 E2 i k) (hi : i < E1.length) (hk : k < E2.length) : ∃ r, E1.getD i 0 = p + r ∧ E2.getD k 0 = q + r := by
  obtain ⟨R, h1, h2⟩ := h
  rw [List.drop_eq_getElem_cons hi] at h1
  rw [List.drop_eq_getElem_cons hk] at h2
  cases R with
  | nil => cases h1
  | cons r R =>
    rw [List.map_cons] at h1 h2
    injection h1 with a1 _
    injection h2 with a2 _
    refine ⟨r, ?_, ?_⟩
    · rw [List.getD_eq_getElem?_getD, List.getElem?_eq_getElem hi]; exact a1
    · rw [List.getD_eq_getElem?_getD, List.getElem?_eq_getElem hk]; exact a2
theorem drop_shift {c : Ctr} (h : c.May) (a e : ByteArray) (i j : Nat) (hi : i < (c.ends (a ++ e).data.toList).length) (hj : (c.ends (a ++ e).data.toList).getD i 0 = a.size + j) :
    (c.ends (a ++ e).data.toList).drop (i + 1) = (Chu.all (c.isMk e.data.toList) c.mn.toNat c.mx.toNat e.size j).map (a.size + ·) := by
  have e1 : (a ++ e).data.toList = a.data.toList ++ e.data.toList := Go.Joins.data_append a e
  rw [e1] at hi hj ⊢
  simp only [Ctr.ends_all] at hi hj ⊢
  have l1 : (a.data.toList ++ e.data.toList).length = a.size + e.size := by rw [List.length_append, ba_len, ba_len]
  rw [l1] at hi hj ⊢
  rw [Chu.all_drop h.nat.1 h.nat.2.1 i 0 hi, hj]
  refine Chu.all_shift h.nat.1 h.nat.2.1 j (fun x h1 h2 => ?_)
  have hw := h.nat.2.2.1
  have := Chu.mark_shift c.p c.n.toNat c.b.toNat a.data.toList e.data.toList x (by omega) (by rw [ba_len]; exact h2)
  rw [ba_len] at this
  exact this
theorem meet_is {c : Ctr} (h : c.May) (a b e : ByteArray) : Meet a.size b.size (c.ends (a ++ e).data.toList).length (c.ends (b ++ e).data.toList).length (c.ends (a ++ e).data.toList) (c.ends (b ++ e).data.toList) (fun i => (c.ends (a ++ e).data.toList).getD i 0) (fun i => (c.ends (b ++ e).data.toList).getD i 0) := by
  refine ⟨fun i k hi hk h1 h2 h3 => ?_, fun i k hi hk hm => ?_, fun i k hi hk hm hn => ?_⟩
  · simp only at h1 h2 h3
    obtain ⟨j, hj⟩ : ∃ j, (c.ends (a ++ e).data.toList).getD i 0 = a.size + j := ⟨_, (Nat.add_sub_cancel' h1).symm⟩
    have hj2 : (c.ends (b ++ e).data.toList).getD k 0 = b.size + j := by omega
    exact ⟨_, drop_shift h a e i j hi hj, drop_shift h b e k j hk hj2⟩
  · obtain ⟨r, e1, e2⟩ := mt_get hm hi hk
    simp only [e1, e2]
    omega
  · have := mt_len hm
    omega

set_option maxHeartbeats 2000000 in
theorem walk (c0 : Ctr) (s1 s2 s3 : ByteArray) (w : World) (wc0 : c0.Wf) (z1 : s1.size ≤ 140737488351232) (z2 : s2.size ≤ 140737488351232) (z3 : s3.size ≤ 140737488351232) :
    Calls Try.prog 5 #[c0.v, .string s1, .string s2, .string s3] w fun e w' => e = .returned (.bool true) ∧ Below w.heap.size w w' := by
  have hbw := box_below w (.cells #[.int .u64 c0.p, .int .i64 c0.n, .int .i64 c0.mn, .int .i64 c0.mx, .int .i64 c0.b] 24)
  have hrow := CtrAt.box c0 w
  have Hbw := Lib.hid hbw; clear hbw
  by_cases hl : 3000 < s1.size + s2.size + s3.size
  · have hd : decide ((3000 : Int) < (s1.size : Int) + (s2.size : Int) + (s3.size : Int)) = true := decide_eq_true (by omega)
    unfold Ctr.v
    clear hrow
    go_enter Try.func5, Try.ntmps5
    go_wp2_with fail
    refine (chuAlive_any _).mono ?_; rintro e w1 ⟨rfl, hb1⟩
    have hbe := Hbw.out.trans (hb1.mono Hbw.out.size)
    have Hbe := Lib.hid hbe; clear hbe hb1
    go_wp2_with fail
    go_ret
    exact ⟨rfl, Hbe.out⟩
  have hd : decide ((3000 : Int) < (s1.size : Int) + (s2.size : Int) + (s3.size : Int)) = false := decide_eq_false (by omega)
  have hz12 : (s1 ++ s3).size = s1.size + s3.size := ByteArray.size_append
  have hz13 : (s2 ++ s3).size = s2.size + s3.size := ByteArray.size_append
  have c1 := fun u => chTexts_any c0 wc0.p (s1 ++ s3) (by omega) u
  have c2 := fun u => chTexts_any c0 wc0.p (s2 ++ s3) (by omega) u
  by_cases hm : c0.May
  rotate_left
  · simp only [if_neg hm] at c1 c2
    unfold Ctr.v at *
    have C1 := Lib.hid c1; clear c1
    have C2 := Lib.hid c2; clear c2
    clear hm hz12 hz13
    have e0 := hrow.c0
    have e1 := hrow.c1
    have e2 := hrow.c2
    have e3 := hrow.c3
    have e4 := hrow.c4
    have Hrow := Lib.hid hrow; clear hrow
    go_enter Try.func5, Try.ntmps5
    go_wp2_with fail
    refine (C1.out _).mono ?_; rintro e w1 ⟨h1, rfl⟩
    have hrow1 := Hrow.out.new h1
    have Hb1 := Lib.hid (Hbw.out.trans (h1.mono Hbw.out.size)); clear h1
    clear e0 e1 e2 e3 e4
    have e0 := hrow1.c0
    have e1 := hrow1.c1
    have e2 := hrow1.c2
    have e3 := hrow1.c3
    have e4 := hrow1.c4
    clear hrow1
    go_wp2_with fail
    refine (C2.out _).mono ?_; rintro e w2 ⟨h2, rfl⟩
    have Hb2 := Lib.hid (Hb1.out.trans (h2.mono Hb1.out.size)); clear h2
    clear e0 e1 e2 e3 e4
    go_wp2_with fail
    refine (chuAlive_any _).mono ?_; rintro e w3 ⟨rfl, h3⟩
    have Hb3 := Lib.hid (Hb2.out.trans (h3.mono Hb2.out.size)); clear h3
    go_wp2_with fail
    go_ret
    exact ⟨rfl, Hb3.out⟩
  · simp only [if_pos hm] at c1 c2
    have hbeg := meet_is hm s1 s2 s3
    have ht1 := Ctr.endsT_is hm (s1 ++ s3)
    have ht2 := Ctr.endsT_is hm (s2 ++ s3)
    have hto1 := Ctr.tot_le hm (s1 ++ s3)
    have hto2 := Ctr.tot_le hm (s2 ++ s3)
    have hxl : ∀ x ∈ c0.ends (s1 ++ s3).data.toList, x ≤ s1.size + s3.size := fun x hx => by have := (Ctr.ends_range hm _ x hx).2; rw [ba_len, hz12] at this; exact this
    have hyl : ∀ x ∈ c0.ends (s2 ++ s3).data.toList, x ≤ s2.size + s3.size := fun x hx => by have := (Ctr.ends_range hm _ x hx).2; rw [ba_len, hz13] at this; exact this
    have hl1 : (c0.texts (s1 ++ s3)).length ≤ (s1 ++ s3).size := by unfold Ctr.texts; rw [pcTexts_length, ← ba_len]; exact Ctr.cut_len hm _
    have hl2 : (c0.texts (s2 ++ s3)).length ≤ (s2 ++ s3).size := by unfold Ctr.texts; rw [pcTexts_length, ← ba_len]; exact Ctr.cut_len hm _
    have hn1 : (c0.ends (s1 ++ s3).data.toList).length = (c0.texts (s1 ++ s3)).length := by rw [← ht1]; simp [endsT]
    have hn2 : (c0.ends (s2 ++ s3).data.toList).length = (c0.texts (s2 ++ s3)).length := by rw [← ht2]; simp [endsT]
    rw [hn1, hn2] at hbeg
    rw [hz12] at hto1 hl1
    rw [hz13] at hto2 hl2
    generalize c0.ends (s1 ++ s3).data.toList = E1 at *
    generalize c0.ends (s2 ++ s3).data.toList = E2 at *
    generalize c0.texts (s1 ++ s3) = L1 at *
    generalize c0.texts (s2 ++ s3) = L2 at *
    obtain ⟨n1, hn1'⟩ : ∃ n1, n1 = L1.length := ⟨_, rfl⟩
    obtain ⟨n2, hn2'⟩ : ∃ n2, n2 = L2.length := ⟨_, rfl⟩
    have cc1 := fun v u h => lcuts_any v L1 u h (by omega) (fun k hk => by have := hto1 k hk; omega)
    have cc2 := fun v u h => lcuts_any v L2 u h (by omega) (fun k hk => by have := hto2 k hk; omega)
    simp only [ht1] at cc1
    simp only [ht2] at cc2
    unfold TxR at c1 c2
    simp only [← hn1'] at c1 hbeg hl1 hn1
    simp only [← hn2'] at c2 hbeg hl2 hn2
    have hxl2 : ∀ i, i < n1 → E1.getD i 0 ≤ s1.size + s3.size := fun i hi => by
      rw [List.getD_eq_getElem?_getD, List.getElem?_eq_getElem (by omega)]; exact hxl _ (List.getElem_mem _)
    have hyl2 : ∀ i, i < n2 → E2.getD i 0 ≤ s2.size + s3.size := fun i hi => by
      rw [List.getD_eq_getElem?_getD, List.getElem?_eq_getElem (by omega)]; exact hyl _ (List.getElem_mem _)
    have Hxl := Lib.hid hxl2; clear hxl2 hxl
    have Hyl := Lib.hid hyl2; clear hyl2 hyl
    have Hbeg := Lib.hid hbeg; clear hbeg
    have Cc1 := Lib.hid cc1; clear cc1
    have Cc2 := Lib.hid cc2; clear cc2
    have Hn1' := Lib.hid hn1'; clear hn1'
    have Hn2' := Lib.hid hn2'; clear hn2'
    have Hn1 := Lib.hid hn1; clear hn1
    have Hn2 := Lib.hid hn2; clear hn2
    unfold Ctr.v at *
    have C1 := Lib.hid c1; clear c1
    have C2 := Lib.hid c2; clear c2
    clear hm ht1 ht2 hto1 hto2 hz12 hz13
    have e0 := hrow.c0
    have e1 := hrow.c1
    have e2 := hrow.c2
    have e3 := hrow.c3
    have e4 := hrow.c4
    have Hrow := Lib.hid hrow; clear hrow
    go_enter Try.func5, Try.ntmps5
    go_wp2_with fail
    refine (C1.out _).mono ?_; rintro e w1 ⟨h1, g1, hg1, rfl, hr1⟩
    have hrow1 := Hrow.out.new h1
    have Hb1 := Lib.hid (Hbw.out.trans (h1.mono Hbw.out.size)); clear h1
    clear e0 e1 e2 e3 e4
    have e0 := hrow1.c0
    have e1 := hrow1.c1
    have e2 := hrow1.c2
    have e3 := hrow1.c3
    have e4 := hrow1.c4
    have Hr1 := Lib.hid hr1; clear hr1 hrow1 hg1
    go_wp2_with fail
    refine (C2.out _).mono ?_; rintro e w2 ⟨h2, g2, hg2, rfl, hr2⟩
    have hr12 : w2.heap[g1]? = some (.cells (L1.map Value.string).toArray 9 (0, 0)) := by rw [h2.block _ (row_lt Hr1.out)]; exact Hr1.out
    have Hb2 := Lib.hid (Hb1.out.trans (h2.mono Hb1.out.size)); clear h2
    have hT1 : TRd (.slice (some ⟨g1, 0, none⟩) n1 n1) L1 w2 := ⟨g1, by rw [Hn1'.out], hr12⟩
    have hT2 : TRd (.slice (some ⟨g2, 0, none⟩) n2 n2) L2 w2 := ⟨g2, by rw [Hn2'.out], hr2⟩
    have HT1 := Lib.hid hT1; clear hT1 hr12
    have HT2 := Lib.hid hT2; clear hT2 hr2 hg2
    clear e0 e1 e2 e3 e4
    go_wp2_with fail
    refine (Cc1.out _ _ HT1.out).mono ?_; rintro e w3 ⟨v1, rfl, hv1, h3⟩
    have hT2 := HT2.out.new h3
    have Hb3 := Lib.hid (Hb2.out.trans (h3.mono Hb2.out.size)); clear h3
    have HT3 := Lib.hid hT2; clear hT2
    have Hv1 := Lib.hid hv1; clear hv1
    go_wp2_with fail
    refine (Cc2.out _ _ HT3.out).mono ?_; rintro e w4 ⟨v2, rfl, hv2, h4⟩
    have hv1 := (Hv1.out.new h4).reads
    have hv2 := hv2.reads
    have Hb4 := Lib.hid (Hb3.out.trans (h4.mono Hb3.out.size)); clear h4
    obtain ⟨a1, k1, rfl, hk1, hf1⟩ := hv1
    obtain ⟨a2, k2, rfl, hk2, hf2⟩ := hv2
    rw [Hn1.out] at hk1 hf1 ⊢
    rw [Hn2.out] at hk2 hf2 ⊢
    generalize hX : (fun i => E1.getD i 0) = X at *
    generalize hY : (fun i => E2.getD i 0) = Y at *
    have hX' : ∀ i, E1.getD i 0 = X i := fun i => by rw [← hX]
    have hY' : ∀ i, E2.getD i 0 = Y i := fun i => by rw [← hY]
    have hxl3 := Hxl.out
    have hyl3 := Hyl.out
    simp only [hX'] at hf1 hxl3
    simp only [hY'] at hyl3
    have Hxl3 := Lib.hid hxl3; clear hxl3 Hxl
    have Hyl3 := Lib.hid hyl3; clear hyl3 Hyl
    simp only [hY'] at hf2
    have Hf1 := Lib.hid hf1; clear hf1
    have Hf2 := Lib.hid hf2; clear hf2
    clear hX hY hX' hY' Hv1 HT1 HT2 HT3 Cc1 Cc2 C1 C2 Hr1 Hrow Hb1 Hb2 Hb3
    go_wp2_with fail
    go_loopw [15, 16, 17] (fun x y z wr => ∃ (i k : Nat) (m : Bool), i ≤ n1 ∧ k ≤ n2 ∧ x = .int .i64 (i : Int) ∧ y = .int .i64 (k : Int) ∧ z = .bool m ∧ (m = true → Mt s1.size s2.size E1 E2 i k) ∧ Below w4.heap.size w4 wr) (fun x y z _ => (n1 - (intOf x).toNat) + (n2 - (intOf y).toNat))
    case atStart => exact ⟨0, 0, false, Nat.zero_le _, Nat.zero_le _, rfl, rfl, rfl, fun h => (by cases h), Below.refl _ _⟩
    case round =>
      obtain ⟨i, k, m, hi1, hi2, rfl, rfl, rfl, hj, hb⟩ := hrel
      have hbe := Hb4.out.trans (hb.mono Hb4.out.size)
      have al := chuAlive_any wr
      have Al := Lib.hid al; clear al
      have hend := fun hn hmm => Hbeg.out.2.2 i k hi1 hi2 (hj hmm) hn
      by_cases hlt1 : i < n1
      · by_cases hlt2 : k < n2
        · have g1 : decide (i < n1) = true := decide_eq_true hlt1
          have g2 : decide (k < n2) = true := decide_eq_true hlt2
          have g1' : (i : Int) < (n1 : Int) := by omega
          have g2' : (k : Int) < (n2 : Int) := by omega
          obtain ⟨b1, rfl, d1⟩ := Hf1.out i hlt1
          obtain ⟨b2, rfl, d2⟩ := Hf2.out k hlt2
          have d1 : wr.cell? ⟨b1, i, none⟩ = some (.int .i64 (X i : Nat)) := by rw [hb.cell (p := ⟨b1, i, none⟩) (cell_lt d1)]; exact d1
          have d2 : wr.cell? ⟨b2, k, none⟩ = some (.int .i64 (Y k : Nat)) := by rw [hb.cell (p := ⟨b2, k, none⟩) (cell_lt d2)]; exact d2
          have hM1 := Hbeg.out.1 i k hlt1 hlt2
          have hM2 := fun hmm => Hbeg.out.2.1 i k hlt1 hlt2 (hj hmm)
          have hxb := Hxl3.out i hlt1
          have hyb := Hyl3.out k hlt2
          generalize X i = x at *
          generalize Y k = y at *
          have Hj := Lib.hid hj; clear hj hend
          have Hbe := Lib.hid hbe; clear hbe
          have Hb := Lib.hid hb; clear hb
          have HM1 := Lib.hid hM1; clear hM1
          have HM2 := Lib.hid hM2; clear hM2
          go_wp2_with fail
          go_quiet (fail)
          have HbQ := Lib.hid (drewN_below Hb.out nq)
          generalize hdx : ((x : Int) - (s1.size : Int)) = dx
          generalize hdy : ((y : Int) - (s2.size : Int)) = dy
          by_cases hx0 : dx < 0
          · have p1 : decide (dx < 0) = true := decide_eq_true hx0
            have hjn : m = true → Mt s1.size s2.size E1 E2 (i + 1) k := fun hmm => by
              have := HM2.out hmm; omega
            have Hjn := Lib.hid hjn; clear hjn hdx hdy
            go_wp2_with fail
            go_roundw
            case rel => exact ⟨i + 1, k, m, by omega, by omega, by go_num, rfl, rfl, Hjn.out, HbQ.out⟩
            case measure => simp [intOf]; omega
          have p1 : decide (dx < 0) = false := decide_eq_false hx0
          by_cases hy0 : dy < 0
          · have p2 : decide (dy < 0) = true := decide_eq_true hy0
            have hjn : m = true → Mt s1.size s2.size E1 E2 i (k + 1) := fun hmm => by
              have := HM2.out hmm; omega
            have Hjn := Lib.hid hjn; clear hjn hdx hdy
            go_wp2_with fail
            go_roundw
            case rel => exact ⟨i, k + 1, m, by omega, by omega, rfl, by go_num, rfl, Hjn.out, HbQ.out⟩
            case measure => simp [intOf]; omega
          have p2 : decide (dy < 0) = false := decide_eq_false hy0
          by_cases hxy : dx = dy
          · have hjn := HM1.out (by omega) (by omega) (by omega)
            have Hjn := Lib.hid hjn; clear hjn hdx hdy
            subst hxy
            go_wp2_with fail
            go_roundw
            case rel => exact ⟨i + 1, k + 1, true, by omega, by omega, by go_num, by go_num, rfl, fun _ => Hjn.out, HbQ.out⟩
            case measure => simp [intOf]; omega
          have p3 : (dx == dy) = false := by simpa using hxy
          have p3' : decide (dx = dy) = false := decide_eq_false hxy
          cases m with
          | true =>
            have := HM2.out rfl
            omega
          | false =>
            by_cases hlt : dx < dy
            · have p4 : decide (dx < dy) = true := decide_eq_true hlt
              clear hdx hdy
              go_wp2_with fail
              go_roundw
              case rel => exact ⟨i + 1, k, false, by omega, by omega, by go_num, rfl, rfl, fun h => (by cases h), HbQ.out⟩
              case measure => simp [intOf]; omega
            · have p4 : decide (dx < dy) = false := decide_eq_false hlt
              clear hdx hdy
              go_wp2_with fail
              go_roundw
              case rel => exact ⟨i, k + 1, false, by omega, by omega, rfl, by go_num, rfl, fun h => (by cases h), HbQ.out⟩
              case measure => simp [intOf]; omega
        · have g1 : decide (i < n1) = true := decide_eq_true hlt1
          have g2 : decide (k < n2) = false := decide_eq_false hlt2
          have Hbe := Lib.hid hbe; clear hbe
          have Hb := Lib.hid hb; clear hb hj
          cases m with
          | false =>
            clear hend
            go_wp2_with fail
            refine Al.out.mono ?_; rintro e w5 ⟨rfl, h5⟩
            have Hb5 := Lib.hid (Hbe.out.trans (h5.mono Hbe.out.size)); clear h5
            go_wp2_with fail
            go_ret
            exact ⟨rfl, Hb5.out⟩
          | true =>
            obtain ⟨q1, q2⟩ := hend (fun h => hlt2 h.2) rfl
            omega
      · have g1 : decide (i < n1) = false := decide_eq_false hlt1
        have Hbe := Lib.hid hbe; clear hbe
        have Hb := Lib.hid hb; clear hb hj
        cases m with
        | false =>
          clear hend
          go_wp2_with fail
          refine Al.out.mono ?_; rintro e w5 ⟨rfl, h5⟩
          have Hb5 := Lib.hid (Hbe.out.trans (h5.mono Hbe.out.size)); clear h5
          go_wp2_with fail
          go_ret
          exact ⟨rfl, Hb5.out⟩
        | true =>
          obtain ⟨q1, q2⟩ := hend (fun h => hlt1 h.1) rfl
          have q3 : ((i : Int) == (n1 : Int)) = true := by rw [q1]; simp
          have q4 : ((k : Int) == (n2 : Int)) = true := by rw [q2]; simp
          have q5 : (i == n1) = true := by rw [q1]; simp
          have q6 : (k == n2) = true := by rw [q2]; simp
          clear hend q1 q2
          go_wp2_with fail
          refine Al.out.mono ?_; rintro e w5 ⟨rfl, h5⟩
          have Hb5 := Lib.hid (Hbe.out.trans (h5.mono Hbe.out.size)); clear h5
          go_wp2_with fail
          go_ret
          exact ⟨rfl, Hb5.out⟩

theorem contract (H : Type) (enc : TypeId × Value → H) (W : World) (base : Nat) (args : Array Value) (ds gs : List (DataW H)) (before : List MemPlace)
    (hval : ∀ (j : Nat) t v, Try.f5.params[j]? = some t → args[j]? = some v → Value.okWide Try.prog W .any base t v)
    (hW : DataW.Whole enc Try.prog Try.f5.params.toList Rows.chunkMeetsSpec.vars false W args.toList ds gs before)
    (hsz : (DataW.weightsEach Try.prog (Try.f5.params.toList ++ Rows.chunkMeetsSpec.plain.varTypes Try.prog) (ds ++ gs)).all (· ≤ reachBytes) = true) :
    Calls Try.prog 5 args W fun e W' => ∃ v, e = .returned v ∧ Rows.chunkMeetsSpec.post enc Try.prog Try.f5 false true false false W args v W' := by
  have hW' := hW
  obtain ⟨p, q, hA0, hV, rfl, hfz, hnd⟩ := hW
  have hA : DataW.TrodAll enc Try.prog W 0 (fun _ => true) true Try.f5.params.toList args.toList ds p := hA0
  rw [Try.params5] at hA hval hsz
  obtain ⟨v0, vs0, d0, ds0, p0, q0, hargs, rfl, rfl, h0, r0⟩ := trodAll_cons hA
  obtain ⟨v1, vs1, d1, ds1, p1, q1, rfl, rfl, rfl, h1, r1⟩ := trodAll_cons r0
  obtain ⟨v2, vs2, d2, ds2, p2, q2, rfl, rfl, rfl, h2, r2⟩ := trodAll_cons r1
  obtain ⟨v3, vs3, d3, ds3, p3, q3, rfl, rfl, rfl, h3, r3⟩ := trodAll_cons r2
  obtain ⟨rfl, rfl, rfl⟩ := trodAll_nil r3
  obtain rfl : args = #[v0, v1, v2, v3] := Array.ext' hargs
  obtain ⟨rfl, rfl⟩ := trodVars_none hV
  have k0 := h0
  have lt0 : ∀ x ∈ p0, x.block < W.heap.size := by obtain ⟨m, hm⟩ := k0; exact DataW.trod_lt m _ _ _ hm
  obtain ⟨c0, rfl, wc0⟩ := open_cutter Try.underlying24 rfl rfl rfl rfl rfl Try.underlying22 Try.underlying3 (by kernel_rfl) (by kernel_rfl) (hval 0 24 v0 rfl rfl) h0
  obtain ⟨s1, rfl, rfl, rfl, m1⟩ := open_string Try.underlying9 (hval 1 9 v1 rfl rfl) h1
  obtain ⟨s2, rfl, rfl, rfl, m2⟩ := open_string Try.underlying9 (hval 2 9 v2 rfl rfl) h2
  obtain ⟨s3, rfl, rfl, rfl, m3⟩ := open_string Try.underlying9 (hval 3 9 v3 rfl rfl) h3
  clear hA0
  have z1 : s1.size ≤ 140737488351232 := by
    have := List.all_eq_true.1 hsz s1.data.toList.length (by simp [DataW.weightsEach, DataW.weights])
    rw [ba_len] at this
    exact of_decide_eq_true this
  have z2 : s2.size ≤ 140737488351232 := by
    have := List.all_eq_true.1 hsz s2.data.toList.length (by simp [DataW.weightsEach, DataW.weights])
    rw [ba_len] at this
    exact of_decide_eq_true this
  have z3 : s3.size ≤ 140737488351232 := by
    have := List.all_eq_true.1 hsz s3.data.toList.length (by simp [DataW.weightsEach, DataW.weights])
    rw [ba_len] at this
    exact of_decide_eq_true this
  refine (walk c0 s1 s2 s3 W wc0 z1 z2 z3).mono fun e W' ⟨he, bel⟩ => ?_
  subst he
  exact ⟨_, rfl, _, _, _, [], _, [], hW', trodAll_mk1 (shut_bool Try.underlying4 _), (trodAll_cons_mk (Below.trod laidOut (by kernel_rfl) (of_decide_eq_true (by kernel_rfl)) k0 bel lt0) (trodAll_cons_mk (shut_string Try.underlying9 m1) (trodAll_cons_mk (shut_string Try.underlying9 m2) (trodAll_cons_mk (shut_string Try.underlying9 m3) trodAll_mk0)))), rfl, bel.frame _, fun h => by cases h⟩

set_option maxRecDepth 100000 in
theorem lifted (os : Os) (started : os.Started) (H : Type) (enc : TypeId × Value → H) :
    ReturnsInHanded {} Try.checked os 5 .any (Rows.chunkMeetsSpec.pre6 enc Try.prog Try.f5 Rows.chunkMeetsRow.domain false) (Rows.chunkMeetsSpec.post enc Try.prog Try.f5 false true false false) := by
  refine returnsInHanded_of_change_sized (C := Try.checked) own started (by kernel_rfl) Try.func5
    (ChangeSpec.witness6 (enc := enc) (C := Try.checked) false ⟨#[], #[.agg #[.int .u64 0, .int .i64 0, .int .i64 0, .int .i64 0, .int .i64 0], .string .empty, .string .empty, .string .empty], []⟩ 8 (by kernel_rfl) (by kernel_rfl) (by kernel_rfl) (by kernel_rfl)) ?_
  intro W base args ds gs before hval hW hcnd hsz _
  exact contract H enc W base args ds gs before hval hW hsz

theorem over : Rows.chunkMeetsRow.holds Try.pinned (OpenSpec.ofChange Rows.chunkMeetsSpec) :=
  OpenClaim.holds_of_wide 5 Try.f5 rfl rfl rfl rfl rfl rfl rfl ⟨rfl, rfl, rfl, rfl, rfl⟩ rfl rfl rfl rfl rfl (by kernel_rfl) Try.func5 (by kernel_rfl)
    (of_decide_eq_true (by kernel_rfl)) (by unfold Func.isWrapper; first | (rw [if_pos (by decide +kernel)]; kernel_rfl) | (rw [if_neg (by decide +kernel)]; exact ⟨rfl, rfl⟩))
    (fun os started H enc _ => lifted os started H enc)

theorem proved : Rows.ChunkMeetsSaid := over

end Go.Proofs.Ytofiimkpbbiegaa.chunkMeets
