/-
  LinesAlign: each place is aligned to one that is not below it and is a record's end, what is aligned is aligned to itself, and aligning keeps the order: for every text, every two places.
  Conditions: none.
-/
import Derived.Test.YtbcncedgfafpiaaLinB
import Derived.Test.YtbcncedgfafpiaaChuC
import Derived.BigQuiet
import Derived.StillTailTactics
import Derived.ProofKit
import Derived.OpenShut
import Derived.ShutString
import Derived.ChangeOld
import Derived.SizedLaws
namespace Go.Proofs.Ytbcncedgfafpiaa.linesAlign
open Go.ChangeShapes Go.WideShapes Go.ChangeAt Go.RowKit
open Go.ChangeMaps (open_string shut_string)
set_option linter.unusedVariables false
set_option maxRecDepth 100000

theorem own : ownKnob Try.prog.godebug = none := by kernel_rfl
theorem laidOut : laidOutB Try.prog = true := by kernel_rfl
theorem nothing (s : ByteArray) (h : s.size = 0) : s = ⟨#[]⟩ := by
  obtain ⟨a⟩ := s
  rw [Array.eq_empty_of_size_eq_zero (show a.size = 0 from h)]

set_option maxHeartbeats 2000000 in
theorem walk (s : ByteArray) (a b : Int) (w : World) (zs : s.size ≤ 140737488351232) (wa : (Lit.int .i64 a).wf = true) (wb : (Lit.int .i64 b).wf = true) :
    Calls Try.prog 6 #[.string s, .int .i64 a, .int .i64 b] w fun e w' => e = .returned (.bool true) ∧ Below w.heap.size w w' := by
  have ha := wf64 wa
  have hb := wf64 wb
  clear wa wb
  by_cases hl : 3000 < s.size
  · have hd : decide ((3000 : Int) < (s.size : Int)) = true := decide_eq_true (by omega)
    have HB := Lib.hid (Below.refl w.heap.size w)
    go_enter Try.func6, Try.ntmps6
    go_wp2_with fail
    refine (linAlive_any _).mono ?_; rintro e wz ⟨rfl, hz⟩
    have Hbz := Lib.hid (HB.out.trans (hz.mono HB.out.size)); clear hz
    go_wp2_with fail
    go_ret
    exact ⟨rfl, Hbz.out⟩
  have hd : decide ((3000 : Int) < (s.size : Int)) = false := decide_eq_false (by omega)
  have hd2 : decide (3000 < s.size) = false := decide_eq_false hl
  have ca := fun u => align_any s (by omega) a ha u
  have cb := fun u => align_any s (by omega) b hb u
  have fa := alF s a
  have hmono : a ≤ b → alI s a ≤ alI s b := fun h => al_mono s h
  have cax := fun u => align_any s (by omega) (alI s a : Nat) (by have := fa.le; omega) u
  rw [fa.again] at cax
  have hMn := seen_all s a
  have hts := fun k (h : k < (recs s).length) => recs_tot (s := s) h
  have htsucc := fun k (h : k < (recs s).length) => tot_succ (recs s) k h
  have hall := recs_all s
  have hle := fa.le
  have hge := fa.ge
  have hleast := fa.least
  have cr := fun u => records_any s (by omega) u
  have hrl : (recs s).length ≤ s.size := recsF_len s 0
  have hybnd := (alF s b).le
  clear fa
  generalize alI s a = x at *
  generalize alI s b = y' at *
  generalize recs s = R at *
  obtain ⟨n, hn⟩ : ∃ n, n = R.length := ⟨_, rfl⟩
  have hn30 : n ≤ 3000 := by have := hrl; omega
  rw [← hn] at hMn hall hts htsucc
  obtain ⟨T, hT⟩ : ∃ T, T = tot R := ⟨_, rfl⟩
  obtain ⟨D, hD⟩ : ∃ D : Nat → ByteArray, D = fun k => R.getD k .empty := ⟨_, rfl⟩
  obtain ⟨M, hM⟩ : ∃ M, M = seen (decide (s.size = 0)) T x := ⟨_, rfl⟩
  rw [← hT] at hMn hall hts htsucc
  rw [← hM] at hMn
  have hT' : ∀ k, k < n → T (k + 1) = T k + (D k).size ∧ T (k + 1) ≤ s.size ∧ (T (k + 1) < x → (T (k + 1) : Int) < a) := fun k hk => by
    have h1 := hts k hk
    refine ⟨by rw [hD]; exact htsucc k hk, ?_, fun h => hleast _ h1 h⟩
    have := ((Lin.ee_mem _ _ _).1 h1).2.1
    rw [ba_len] at this; exact this
  have hM0 : M 0 = decide (s.size = 0) := by rw [hM]; rfl
  have hMs : ∀ k, M (k + 1) = (M k || T (k + 1) == x) := fun k => by rw [hM]; rfl
  have hT0 : T 0 = 0 := by rw [hT, tot_zero]
  have hD' : ∀ k, k < n → R.getD k .empty = D k := fun k _ => by rw [hD]
  have Ca := Lib.hid ca; clear ca
  have Cb := Lib.hid cb; clear cb
  have Cax := Lib.hid cax; clear cax
  have Cr := Lib.hid cr; clear cr
  have Hn := Lib.hid hn; clear hn
  have HT := Lib.hid hT'; clear hT' hT
  have HD := Lib.hid hD'; clear hD' hD
  have HM := Lib.hid hMs; clear hMs hM
  have HM0 := Lib.hid hM0; clear hM0
  have HT0 := Lib.hid hT0; clear hT0
  have HMn := Lib.hid hMn; clear hMn
  have HTn := Lib.hid hall; clear hall
  have Hmono := Lib.hid hmono; clear hmono
  have hz : ((s.size : Int) == 0) = decide (s.size = 0) := by generalize s.size = z; rw [Bool.eq_iff_iff]; simp
  have HZ := Lib.hid hz; clear hz
  clear hts htsucc hleast
  have hx0 : ((x : Int) == (x : Int)) = true := by simp
  have p1 : decide ((x : Int) < 0) = false := decide_eq_false (by omega)
  have p2 : decide (s.size < x) = false := decide_eq_false (by omega)
  go_enter Try.func6, Try.ntmps6
  go_wp2_with fail
  refine (Ca.out _).mono ?_; rintro e w1 ⟨rfl, rfl⟩
  go_wp2_with fail
  refine (Cb.out _).mono ?_; rintro e w2 ⟨rfl, rfl⟩
  by_cases has : a ≤ (s.size : Int)
  · have p3 : decide (a ≤ (s.size : Int)) = true := decide_eq_true has
    have p4 : decide ((x : Int) < a) = false := decide_eq_false (by have := hge has; omega)
    clear hge
    by_cases hab : a ≤ b
    · have p5 : decide (a ≤ b) = true := decide_eq_true hab
      have p6 : decide (y' < x) = false := decide_eq_false (by have := Hmono.out hab; omega)
      go_wp2_with fail
      refine (Cax.out _).mono ?_; rintro e w3 ⟨rfl, rfl⟩
      go_wp2_with fail
      refine (Cr.out _).mono ?_; rintro e w4 ⟨v, rfl, hv, h4⟩
      obtain ⟨va, vcap, rfl, hcap, hf⟩ := hv.reads
      rw [← Hn.out] at hcap hf ⊢
      have Hf := Lib.hid hf; clear hf hv
      have H4 := Lib.hid h4; clear h4 Cax Cr Ca Cb
      go_wp2_with fail
      go_loopw [10, 11, 12] (fun c m i wr => ∃ k : Nat, k ≤ n ∧ i = .int .i64 (k : Int) ∧ c = .int .i64 (T k : Nat) ∧ m = .bool (M k) ∧ wr = w4) (fun c m i _ => n - (intOf i).toNat)
      case atStart => exact ⟨0, Nat.zero_le _, rfl, by rw [HT0.out]; rfl, by rw [HM0.out, ← HZ.out], rfl⟩
      case round =>
        obtain ⟨k, hk, rfl, rfl, rfl, rfl⟩ := hrel
        have HB := Lib.hid H4.out
        by_cases hlt : k < n
        · have g1 : decide (k < n) = true := decide_eq_true hlt
          have g2 : (k : Int) < (n : Int) := by omega
          obtain ⟨b, rfl, d⟩ := Hf.out k hlt
          obtain ⟨t1, t2, t3⟩ := HT.out k hlt
          have hD := HD.out k hlt
          rw [hD] at d
          generalize D k = z at *
          have hm1 := HM.out k
          have HY := Lib.hid (rfl : T (k + 1) = T (k + 1))
          have hnx : ∀ q, q = T (k + 1) → (Value.int .i64 (q : Int)) = .int .i64 (T (k + 1) : Nat) := fun q h => by rw [h]
          have Hnx := Lib.hid hnx; clear hnx
          obtain ⟨y, hy⟩ : ∃ y, y = T (k + 1) := ⟨_, rfl⟩
          rw [← hy] at t1 t2 t3 hm1
          have Hy := Lib.hid hy; clear hy HY
          generalize T k = q at *
          have hw : IntKind.i64.wrap ((q : Int) + (z.size : Int)) = (y : Int) := by simp only [IntKind.wrap_i64]; omega
          have hyz : ((q : Int) + (z.size : Int)) = (y : Int) := by omega
          have hend : (y : Int) < (x : Int) → ¬ ((a : Int) ≤ (y : Int)) := fun h => by have := t3 (by omega); omega
          clear t3 hD
          have Hm1 := Lib.hid hm1; clear hm1
          have Ht1 := Lib.hid t1; clear t1
          have goal2 : ∀ m', m' = M (k + 1) → (∃ k_1 : Nat, k_1 ≤ n ∧ (Value.int .i64 ((k : Int) + 1)) = .int .i64 (k_1 : Int) ∧ (Value.int .i64 (y : Int)) = .int .i64 (T k_1 : Nat) ∧ (Value.bool m') = .bool (M k_1) ∧ True) := fun m' h => ⟨k + 1, by omega, by go_num, by rw [Hy.out], by rw [h], trivial⟩
          have Hg2 := Lib.hid goal2; clear goal2
          by_cases hM : M k = true
          · have hM2 : true = M (k + 1) := by rw [Hm1.out, hM]; rfl
            rw [hM]
            have HM2 := Lib.hid hM2; clear hM2
            by_cases hyx : y < x
            · have q1 : decide (y < x) = true := decide_eq_true hyx
              have q2 : decide (a ≤ (y : Int)) = false := decide_eq_false (hend (by omega))
              clear hend
              go_wp2_with fail
              go_roundw
              case rel => exact Hg2.out _ HM2.out
              case measure => simp [intOf]; omega
            · have q1 : decide (y < x) = false := decide_eq_false hyx
              clear hend
              go_wp2_with fail
              go_roundw
              case rel => exact Hg2.out _ HM2.out
              case measure => simp [intOf]; omega
          · have hMf : M k = false := by simpa using hM
            rw [hMf]
            by_cases hyx : y = x
            · have hM2 : true = M (k + 1) := by rw [Hm1.out, hyx]; simp
              have HM2 := Lib.hid hM2; clear hM2
              have q1 : decide (y < x) = false := decide_eq_false (by omega)
              have q3 : ((y : Int) == (x : Int)) = true := by rw [hyx]; simp
              have q4 : decide (y = x) = true := decide_eq_true hyx
              clear hend hM hMf hyx
              go_wp2_with fail
              go_roundw
              case rel => exact Hg2.out _ HM2.out
              case measure => simp [intOf]; omega
            · have hM2 : false = M (k + 1) := by rw [Hm1.out, hMf]; simpa using hyx
              have HM2 := Lib.hid hM2; clear hM2
              have q3 : ((y : Int) == (x : Int)) = false := by simp; omega
              have q4 : decide (y = x) = false := decide_eq_false hyx
              clear hM hMf
              by_cases hyx : y < x
              · have q1 : decide (y < x) = true := decide_eq_true hyx
                have q2 : decide (a ≤ (y : Int)) = false := decide_eq_false (hend (by omega))
                clear hend
                go_wp2_with fail
                go_roundw
                case rel => exact Hg2.out _ HM2.out
                case measure => simp [intOf]; omega
              · have q1 : decide (y < x) = false := decide_eq_false hyx
                clear hend
                go_wp2_with fail
                go_roundw
                case rel => exact Hg2.out _ HM2.out
                case measure => simp [intOf]; omega
        · have g1 : decide (k < n) = false := decide_eq_false hlt
          have hkn : k = n := by omega
          have e1 : T k = s.size := by rw [hkn]; exact HTn.out
          have e2 : M k = true := by rw [hkn]; exact HMn.out
          rw [e1, e2]
          clear e1 e2 hkn
          go_wp2_with fail
          refine (linAlive_any _).mono ?_; rintro e wz ⟨rfl, hz⟩
          have Hbz := Lib.hid (HB.out.trans (hz.mono HB.out.size)); clear hz
          go_wp2_with fail
          go_ret
          exact ⟨rfl, Hbz.out⟩
    · have p5 : decide (a ≤ b) = false := decide_eq_false hab
      go_wp2_with fail
      refine (Cax.out _).mono ?_; rintro e w3 ⟨rfl, rfl⟩
      go_wp2_with fail
      refine (Cr.out _).mono ?_; rintro e w4 ⟨v, rfl, hv, h4⟩
      obtain ⟨va, vcap, rfl, hcap, hf⟩ := hv.reads
      rw [← Hn.out] at hcap hf ⊢
      have Hf := Lib.hid hf; clear hf hv
      have H4 := Lib.hid h4; clear h4 Cax Cr Ca Cb
      go_wp2_with fail
      go_loopw [10, 11, 12] (fun c m i wr => ∃ k : Nat, k ≤ n ∧ i = .int .i64 (k : Int) ∧ c = .int .i64 (T k : Nat) ∧ m = .bool (M k) ∧ wr = w4) (fun c m i _ => n - (intOf i).toNat)
      case atStart => exact ⟨0, Nat.zero_le _, rfl, by rw [HT0.out]; rfl, by rw [HM0.out, ← HZ.out], rfl⟩
      case round =>
        obtain ⟨k, hk, rfl, rfl, rfl, rfl⟩ := hrel
        have HB := Lib.hid H4.out
        by_cases hlt : k < n
        · have g1 : decide (k < n) = true := decide_eq_true hlt
          have g2 : (k : Int) < (n : Int) := by omega
          obtain ⟨b, rfl, d⟩ := Hf.out k hlt
          obtain ⟨t1, t2, t3⟩ := HT.out k hlt
          have hD := HD.out k hlt
          rw [hD] at d
          generalize D k = z at *
          have hm1 := HM.out k
          have HY := Lib.hid (rfl : T (k + 1) = T (k + 1))
          have hnx : ∀ q, q = T (k + 1) → (Value.int .i64 (q : Int)) = .int .i64 (T (k + 1) : Nat) := fun q h => by rw [h]
          have Hnx := Lib.hid hnx; clear hnx
          obtain ⟨y, hy⟩ : ∃ y, y = T (k + 1) := ⟨_, rfl⟩
          rw [← hy] at t1 t2 t3 hm1
          have Hy := Lib.hid hy; clear hy HY
          generalize T k = q at *
          have hw : IntKind.i64.wrap ((q : Int) + (z.size : Int)) = (y : Int) := by simp only [IntKind.wrap_i64]; omega
          have hyz : ((q : Int) + (z.size : Int)) = (y : Int) := by omega
          have hend : (y : Int) < (x : Int) → ¬ ((a : Int) ≤ (y : Int)) := fun h => by have := t3 (by omega); omega
          clear t3 hD
          have Hm1 := Lib.hid hm1; clear hm1
          have Ht1 := Lib.hid t1; clear t1
          have goal2 : ∀ m', m' = M (k + 1) → (∃ k_1 : Nat, k_1 ≤ n ∧ (Value.int .i64 ((k : Int) + 1)) = .int .i64 (k_1 : Int) ∧ (Value.int .i64 (y : Int)) = .int .i64 (T k_1 : Nat) ∧ (Value.bool m') = .bool (M k_1) ∧ True) := fun m' h => ⟨k + 1, by omega, by go_num, by rw [Hy.out], by rw [h], trivial⟩
          have Hg2 := Lib.hid goal2; clear goal2
          by_cases hM : M k = true
          · have hM2 : true = M (k + 1) := by rw [Hm1.out, hM]; rfl
            rw [hM]
            have HM2 := Lib.hid hM2; clear hM2
            by_cases hyx : y < x
            · have q1 : decide (y < x) = true := decide_eq_true hyx
              have q2 : decide (a ≤ (y : Int)) = false := decide_eq_false (hend (by omega))
              clear hend
              go_wp2_with fail
              go_roundw
              case rel => exact Hg2.out _ HM2.out
              case measure => simp [intOf]; omega
            · have q1 : decide (y < x) = false := decide_eq_false hyx
              clear hend
              go_wp2_with fail
              go_roundw
              case rel => exact Hg2.out _ HM2.out
              case measure => simp [intOf]; omega
          · have hMf : M k = false := by simpa using hM
            rw [hMf]
            by_cases hyx : y = x
            · have hM2 : true = M (k + 1) := by rw [Hm1.out, hyx]; simp
              have HM2 := Lib.hid hM2; clear hM2
              have q1 : decide (y < x) = false := decide_eq_false (by omega)
              have q3 : ((y : Int) == (x : Int)) = true := by rw [hyx]; simp
              have q4 : decide (y = x) = true := decide_eq_true hyx
              clear hend hM hMf hyx
              go_wp2_with fail
              go_roundw
              case rel => exact Hg2.out _ HM2.out
              case measure => simp [intOf]; omega
            · have hM2 : false = M (k + 1) := by rw [Hm1.out, hMf]; simpa using hyx
              have HM2 := Lib.hid hM2; clear hM2
              have q3 : ((y : Int) == (x : Int)) = false := by simp; omega
              have q4 : decide (y = x) = false := decide_eq_false hyx
              clear hM hMf
              by_cases hyx : y < x
              · have q1 : decide (y < x) = true := decide_eq_true hyx
                have q2 : decide (a ≤ (y : Int)) = false := decide_eq_false (hend (by omega))
                clear hend
                go_wp2_with fail
                go_roundw
                case rel => exact Hg2.out _ HM2.out
                case measure => simp [intOf]; omega
              · have q1 : decide (y < x) = false := decide_eq_false hyx
                clear hend
                go_wp2_with fail
                go_roundw
                case rel => exact Hg2.out _ HM2.out
                case measure => simp [intOf]; omega
        · have g1 : decide (k < n) = false := decide_eq_false hlt
          have hkn : k = n := by omega
          have e1 : T k = s.size := by rw [hkn]; exact HTn.out
          have e2 : M k = true := by rw [hkn]; exact HMn.out
          rw [e1, e2]
          clear e1 e2 hkn
          go_wp2_with fail
          refine (linAlive_any _).mono ?_; rintro e wz ⟨rfl, hz⟩
          have Hbz := Lib.hid (HB.out.trans (hz.mono HB.out.size)); clear hz
          go_wp2_with fail
          go_ret
          exact ⟨rfl, Hbz.out⟩
  · have p3 : decide (a ≤ (s.size : Int)) = false := decide_eq_false has
    clear hge
    by_cases hab : a ≤ b
    · have p5 : decide (a ≤ b) = true := decide_eq_true hab
      have p6 : decide (y' < x) = false := decide_eq_false (by have := Hmono.out hab; omega)
      go_wp2_with fail
      refine (Cax.out _).mono ?_; rintro e w3 ⟨rfl, rfl⟩
      go_wp2_with fail
      refine (Cr.out _).mono ?_; rintro e w4 ⟨v, rfl, hv, h4⟩
      obtain ⟨va, vcap, rfl, hcap, hf⟩ := hv.reads
      rw [← Hn.out] at hcap hf ⊢
      have Hf := Lib.hid hf; clear hf hv
      have H4 := Lib.hid h4; clear h4 Cax Cr Ca Cb
      go_wp2_with fail
      go_loopw [10, 11, 12] (fun c m i wr => ∃ k : Nat, k ≤ n ∧ i = .int .i64 (k : Int) ∧ c = .int .i64 (T k : Nat) ∧ m = .bool (M k) ∧ wr = w4) (fun c m i _ => n - (intOf i).toNat)
      case atStart => exact ⟨0, Nat.zero_le _, rfl, by rw [HT0.out]; rfl, by rw [HM0.out, ← HZ.out], rfl⟩
      case round =>
        obtain ⟨k, hk, rfl, rfl, rfl, rfl⟩ := hrel
        have HB := Lib.hid H4.out
        by_cases hlt : k < n
        · have g1 : decide (k < n) = true := decide_eq_true hlt
          have g2 : (k : Int) < (n : Int) := by omega
          obtain ⟨b, rfl, d⟩ := Hf.out k hlt
          obtain ⟨t1, t2, t3⟩ := HT.out k hlt
          have hD := HD.out k hlt
          rw [hD] at d
          generalize D k = z at *
          have hm1 := HM.out k
          have HY := Lib.hid (rfl : T (k + 1) = T (k + 1))
          have hnx : ∀ q, q = T (k + 1) → (Value.int .i64 (q : Int)) = .int .i64 (T (k + 1) : Nat) := fun q h => by rw [h]
          have Hnx := Lib.hid hnx; clear hnx
          obtain ⟨y, hy⟩ : ∃ y, y = T (k + 1) := ⟨_, rfl⟩
          rw [← hy] at t1 t2 t3 hm1
          have Hy := Lib.hid hy; clear hy HY
          generalize T k = q at *
          have hw : IntKind.i64.wrap ((q : Int) + (z.size : Int)) = (y : Int) := by simp only [IntKind.wrap_i64]; omega
          have hyz : ((q : Int) + (z.size : Int)) = (y : Int) := by omega
          have hend : (y : Int) < (x : Int) → ¬ ((a : Int) ≤ (y : Int)) := fun h => by have := t3 (by omega); omega
          clear t3 hD
          have Hm1 := Lib.hid hm1; clear hm1
          have Ht1 := Lib.hid t1; clear t1
          have goal2 : ∀ m', m' = M (k + 1) → (∃ k_1 : Nat, k_1 ≤ n ∧ (Value.int .i64 ((k : Int) + 1)) = .int .i64 (k_1 : Int) ∧ (Value.int .i64 (y : Int)) = .int .i64 (T k_1 : Nat) ∧ (Value.bool m') = .bool (M k_1) ∧ True) := fun m' h => ⟨k + 1, by omega, by go_num, by rw [Hy.out], by rw [h], trivial⟩
          have Hg2 := Lib.hid goal2; clear goal2
          by_cases hM : M k = true
          · have hM2 : true = M (k + 1) := by rw [Hm1.out, hM]; rfl
            rw [hM]
            have HM2 := Lib.hid hM2; clear hM2
            by_cases hyx : y < x
            · have q1 : decide (y < x) = true := decide_eq_true hyx
              have q2 : decide (a ≤ (y : Int)) = false := decide_eq_false (hend (by omega))
              clear hend
              go_wp2_with fail
              go_roundw
              case rel => exact Hg2.out _ HM2.out
              case measure => simp [intOf]; omega
            · have q1 : decide (y < x) = false := decide_eq_false hyx
              clear hend
              go_wp2_with fail
              go_roundw
              case rel => exact Hg2.out _ HM2.out
              case measure => simp [intOf]; omega
          · have hMf : M k = false := by simpa using hM
            rw [hMf]
            by_cases hyx : y = x
            · have hM2 : true = M (k + 1) := by rw [Hm1.out, hyx]; simp
              have HM2 := Lib.hid hM2; clear hM2
              have q1 : decide (y < x) = false := decide_eq_false (by omega)
              have q3 : ((y : Int) == (x : Int)) = true := by rw [hyx]; simp
              have q4 : decide (y = x) = true := decide_eq_true hyx
              clear hend hM hMf hyx
              go_wp2_with fail
              go_roundw
              case rel => exact Hg2.out _ HM2.out
              case measure => simp [intOf]; omega
            · have hM2 : false = M (k + 1) := by rw [Hm1.out, hMf]; simpa using hyx
              have HM2 := Lib.hid hM2; clear hM2
              have q3 : ((y : Int) == (x : Int)) = false := by simp; omega
              have q4 : decide (y = x) = false := decide_eq_false hyx
              clear hM hMf
              by_cases hyx : y < x
              · have q1 : decide (y < x) = true := decide_eq_true hyx
                have q2 : decide (a ≤ (y : Int)) = false := decide_eq_false (hend (by omega))
                clear hend
                go_wp2_with fail
                go_roundw
                case rel => exact Hg2.out _ HM2.out
                case measure => simp [intOf]; omega
              · have q1 : decide (y < x) = false := decide_eq_false hyx
                clear hend
                go_wp2_with fail
                go_roundw
                case rel => exact Hg2.out _ HM2.out
                case measure => simp [intOf]; omega
        · have g1 : decide (k < n) = false := decide_eq_false hlt
          have hkn : k = n := by omega
          have e1 : T k = s.size := by rw [hkn]; exact HTn.out
          have e2 : M k = true := by rw [hkn]; exact HMn.out
          rw [e1, e2]
          clear e1 e2 hkn
          go_wp2_with fail
          refine (linAlive_any _).mono ?_; rintro e wz ⟨rfl, hz⟩
          have Hbz := Lib.hid (HB.out.trans (hz.mono HB.out.size)); clear hz
          go_wp2_with fail
          go_ret
          exact ⟨rfl, Hbz.out⟩
    · have p5 : decide (a ≤ b) = false := decide_eq_false hab
      go_wp2_with fail
      refine (Cax.out _).mono ?_; rintro e w3 ⟨rfl, rfl⟩
      go_wp2_with fail
      refine (Cr.out _).mono ?_; rintro e w4 ⟨v, rfl, hv, h4⟩
      obtain ⟨va, vcap, rfl, hcap, hf⟩ := hv.reads
      rw [← Hn.out] at hcap hf ⊢
      have Hf := Lib.hid hf; clear hf hv
      have H4 := Lib.hid h4; clear h4 Cax Cr Ca Cb
      go_wp2_with fail
      go_loopw [10, 11, 12] (fun c m i wr => ∃ k : Nat, k ≤ n ∧ i = .int .i64 (k : Int) ∧ c = .int .i64 (T k : Nat) ∧ m = .bool (M k) ∧ wr = w4) (fun c m i _ => n - (intOf i).toNat)
      case atStart => exact ⟨0, Nat.zero_le _, rfl, by rw [HT0.out]; rfl, by rw [HM0.out, ← HZ.out], rfl⟩
      case round =>
        obtain ⟨k, hk, rfl, rfl, rfl, rfl⟩ := hrel
        have HB := Lib.hid H4.out
        by_cases hlt : k < n
        · have g1 : decide (k < n) = true := decide_eq_true hlt
          have g2 : (k : Int) < (n : Int) := by omega
          obtain ⟨b, rfl, d⟩ := Hf.out k hlt
          obtain ⟨t1, t2, t3⟩ := HT.out k hlt
          have hD := HD.out k hlt
          rw [hD] at d
          generalize D k = z at *
          have hm1 := HM.out k
          have HY := Lib.hid (rfl : T (k + 1) = T (k + 1))
          have hnx : ∀ q, q = T (k + 1) → (Value.int .i64 (q : Int)) = .int .i64 (T (k + 1) : Nat) := fun q h => by rw [h]
          have Hnx := Lib.hid hnx; clear hnx
          obtain ⟨y, hy⟩ : ∃ y, y = T (k + 1) := ⟨_, rfl⟩
          rw [← hy] at t1 t2 t3 hm1
          have Hy := Lib.hid hy; clear hy HY
          generalize T k = q at *
          have hw : IntKind.i64.wrap ((q : Int) + (z.size : Int)) = (y : Int) := by simp only [IntKind.wrap_i64]; omega
          have hyz : ((q : Int) + (z.size : Int)) = (y : Int) := by omega
          have hend : (y : Int) < (x : Int) → ¬ ((a : Int) ≤ (y : Int)) := fun h => by have := t3 (by omega); omega
          clear t3 hD
          have Hm1 := Lib.hid hm1; clear hm1
          have Ht1 := Lib.hid t1; clear t1
          have goal2 : ∀ m', m' = M (k + 1) → (∃ k_1 : Nat, k_1 ≤ n ∧ (Value.int .i64 ((k : Int) + 1)) = .int .i64 (k_1 : Int) ∧ (Value.int .i64 (y : Int)) = .int .i64 (T k_1 : Nat) ∧ (Value.bool m') = .bool (M k_1) ∧ True) := fun m' h => ⟨k + 1, by omega, by go_num, by rw [Hy.out], by rw [h], trivial⟩
          have Hg2 := Lib.hid goal2; clear goal2
          by_cases hM : M k = true
          · have hM2 : true = M (k + 1) := by rw [Hm1.out, hM]; rfl
            rw [hM]
            have HM2 := Lib.hid hM2; clear hM2
            by_cases hyx : y < x
            · have q1 : decide (y < x) = true := decide_eq_true hyx
              have q2 : decide (a ≤ (y : Int)) = false := decide_eq_false (hend (by omega))
              clear hend
              go_wp2_with fail
              go_roundw
              case rel => exact Hg2.out _ HM2.out
              case measure => simp [intOf]; omega
            · have q1 : decide (y < x) = false := decide_eq_false hyx
              clear hend
              go_wp2_with fail
              go_roundw
              case rel => exact Hg2.out _ HM2.out
              case measure => simp [intOf]; omega
          · have hMf : M k = false := by simpa using hM
            rw [hMf]
            by_cases hyx : y = x
            · have hM2 : true = M (k + 1) := by rw [Hm1.out, hyx]; simp
              have HM2 := Lib.hid hM2; clear hM2
              have q1 : decide (y < x) = false := decide_eq_false (by omega)
              have q3 : ((y : Int) == (x : Int)) = true := by rw [hyx]; simp
              have q4 : decide (y = x) = true := decide_eq_true hyx
              clear hend hM hMf hyx
              go_wp2_with fail
              go_roundw
              case rel => exact Hg2.out _ HM2.out
              case measure => simp [intOf]; omega
            · have hM2 : false = M (k + 1) := by rw [Hm1.out, hMf]; simpa using hyx
              have HM2 := Lib.hid hM2; clear hM2
              have q3 : ((y : Int) == (x : Int)) = false := by simp; omega
              have q4 : decide (y = x) = false := decide_eq_false hyx
              clear hM hMf
              by_cases hyx : y < x
              · have q1 : decide (y < x) = true := decide_eq_true hyx
                have q2 : decide (a ≤ (y : Int)) = false := decide_eq_false (hend (by omega))
                clear hend
                go_wp2_with fail
                go_roundw
                case rel => exact Hg2.out _ HM2.out
                case measure => simp [intOf]; omega
              · have q1 : decide (y < x) = false := decide_eq_false hyx
                clear hend
                go_wp2_with fail
                go_roundw
                case rel => exact Hg2.out _ HM2.out
                case measure => simp [intOf]; omega
        · have g1 : decide (k < n) = false := decide_eq_false hlt
          have hkn : k = n := by omega
          have e1 : T k = s.size := by rw [hkn]; exact HTn.out
          have e2 : M k = true := by rw [hkn]; exact HMn.out
          rw [e1, e2]
          clear e1 e2 hkn
          go_wp2_with fail
          refine (linAlive_any _).mono ?_; rintro e wz ⟨rfl, hz⟩
          have Hbz := Lib.hid (HB.out.trans (hz.mono HB.out.size)); clear hz
          go_wp2_with fail
          go_ret
          exact ⟨rfl, Hbz.out⟩

theorem contract (H : Type) (enc : TypeId × Value → H) (W : World) (base : Nat) (args : Array Value) (ds gs : List (DataW H)) (before : List MemPlace)
    (hval : ∀ (j : Nat) t v, Try.f6.params[j]? = some t → args[j]? = some v → Value.okWide Try.prog W .any base t v)
    (hW : DataW.Whole enc Try.prog Try.f6.params.toList Rows.linesAlignSpec.vars false W args.toList ds gs before)
    (hsz : (DataW.weightsEach Try.prog (Try.f6.params.toList ++ Rows.linesAlignSpec.plain.varTypes Try.prog) (ds ++ gs)).all (· ≤ reachBytes) = true) :
    Calls Try.prog 6 args W fun e W' => ∃ v, e = .returned v ∧ Rows.linesAlignSpec.post enc Try.prog Try.f6 false true false false W args v W' := by
  have hW' := hW
  obtain ⟨p, q, hA0, hV, rfl, hfz, hnd⟩ := hW
  have hA : DataW.TrodAll enc Try.prog W 0 (fun _ => true) true Try.f6.params.toList args.toList ds p := hA0
  rw [Try.params6] at hA hval hsz
  obtain ⟨v0, vs0, d0, ds0, p0, q0, hargs, rfl, rfl, h0, r0⟩ := trodAll_cons hA
  obtain ⟨v1, vs1, d1, ds1, p1, q1, rfl, rfl, rfl, h1, r1⟩ := trodAll_cons r0
  obtain ⟨v2, vs2, d2, ds2, p2, q2, rfl, rfl, rfl, h2, r2⟩ := trodAll_cons r1
  obtain ⟨rfl, rfl, rfl⟩ := trodAll_nil r2
  obtain rfl : args = #[v0, v1, v2] := Array.ext' hargs
  obtain ⟨rfl, rfl⟩ := trodVars_none hV
  obtain ⟨s0, rfl, rfl, rfl, m0⟩ := open_string Try.underlying9 (hval 0 9 v0 rfl rfl) h0
  obtain ⟨n1, rfl, rfl, rfl, w1⟩ := open_int Try.underlying3 (hval 1 3 v1 rfl rfl) h1
  obtain ⟨n2, rfl, rfl, rfl, w2⟩ := open_int Try.underlying3 (hval 2 3 v2 rfl rfl) h2
  clear hA0
  have z0 : s0.size ≤ 140737488351232 := by
    have := List.all_eq_true.1 hsz s0.data.toList.length (by simp [DataW.weightsEach, DataW.weights])
    rw [ba_len] at this
    exact of_decide_eq_true this
  refine (walk s0 n1 n2 W z0 w1 w2).mono fun e W' ⟨he, bel⟩ => ?_
  subst he
  exact ⟨_, rfl, _, _, _, [], _, [], hW', trodAll_mk1 (shut_bool Try.underlying4 _), (trodAll_cons_mk (shut_string Try.underlying9 m0) (trodAll_cons_mk (shut_int Try.underlying3 w1) (trodAll_cons_mk (shut_int Try.underlying3 w2) trodAll_mk0))), rfl, bel.frame _, fun h => by cases h⟩

set_option maxRecDepth 100000 in
theorem lifted (os : Os) (started : os.Started) (H : Type) (enc : TypeId × Value → H) :
    ReturnsInHanded {} Try.checked os 6 .any (Rows.linesAlignSpec.pre6 enc Try.prog Try.f6 Rows.linesAlignRow.domain false) (Rows.linesAlignSpec.post enc Try.prog Try.f6 false true false false) := by
  refine returnsInHanded_of_change_sized (C := Try.checked) own started (by kernel_rfl) Try.func6
    (ChangeSpec.witness6 (enc := enc) (C := Try.checked) false ⟨#[], #[.string .empty, .int .i64 0, .int .i64 0], []⟩ 8 (by kernel_rfl) (by kernel_rfl) (by kernel_rfl) (by kernel_rfl)) ?_
  intro W base args ds gs before hval hW hcnd hsz _
  exact contract H enc W base args ds gs before hval hW hsz

theorem over : Rows.linesAlignRow.holds Try.pinned (OpenSpec.ofChange Rows.linesAlignSpec) :=
  OpenClaim.holds_of_wide 6 Try.f6 rfl rfl rfl rfl rfl rfl rfl ⟨rfl, rfl, rfl, rfl, rfl⟩ rfl rfl rfl rfl rfl (by kernel_rfl) Try.func6 (by kernel_rfl)
    (of_decide_eq_true (by kernel_rfl)) (by unfold Func.isWrapper; first | (rw [if_pos (by decide +kernel)]; kernel_rfl) | (rw [if_neg (by decide +kernel)]; exact ⟨rfl, rfl⟩))
    (fun os started H enc _ => lifted os started H enc)

theorem proved : Rows.LinesAlignSaid := over

end Go.Proofs.Ytbcncedgfafpiaa.linesAlign
