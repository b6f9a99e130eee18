/-
  What the document's answer times returns.
-/
import Derived.Test.YtdlcdbpigcmnbaaDoorCstPrime
set_option linter.unusedVariables false
namespace Go.Proofs.YtdlcdbpigcmnbaaDoor
open Go.RowKit

theorem num_row {k : IntKind} {g : Nat} {ns : List Nat} {w : World} {T : TypeId} {fr : Nat × Nat} (h : w.heap[g]? = some (.cells (nums k ns).toArray T fr)) : Num k g ns w :=
  Num.of_cells h (by rw [List.toList_toArray, List.take_of_length_le (by rw [nums_length]; exact Nat.le_refl _)])
theorem row_setn {k : IntKind} {g : Nat} {ns : List Nat} {w : World} {T : TypeId} (h : w.heap[g]? = some (.cells (nums k ns).toArray T (0, 0))) (j x : Nat) :
    (w.setCell ⟨g, j, none⟩ (.int k (x : Int))).heap[g]? = some (.cells (nums k (ns.set j x)).toArray T (0, 0)) := by
  rw [heap_setCell_same w g j _ T _ h]
  congr 2
  apply Array.ext'
  simp [nums, List.map_set]

theorem make6 : ∀ w, (Instr.makeSlice 77 (.int .i64 (((3 : Nat) : Int) + 3)) (.int .i64 (((3 : Nat) : Int) + 3))).run Tryd.prog w = .ok (.slice (some ⟨w.heap.size, 0, none⟩) 6 6) (w.alloc (.cells (nums .u64 (Cst.zs (3 + 3))).toArray 55)) := fun _ => by kernel_rfl
theorem make9 : ∀ w, (Instr.makeSlice 77 (.int .i64 (((6 : Nat) : Int) + 3)) (.int .i64 (((6 : Nat) : Int) + 3))).run Tryd.prog w = .ok (.slice (some ⟨w.heap.size, 0, none⟩) 9 9) (w.alloc (.cells (nums .u64 (Cst.zs (6 + 3))).toArray 55)) := fun _ => by kernel_rfl

set_option maxRecDepth 100000 in
set_option maxHeartbeats 4000000 in
theorem times_of (la ga ca gb cb : Nat) (A B : List Nat) (w : World) (hla : la ≤ 6) (hA : A.length = la) (hB : B.length = 3) (ha : Num .u64 ga A w) (hb : Num .u64 gb B w)
    (hmk : ∀ w, (Instr.makeSlice 77 (.int .i64 ((la : Int) + 3)) (.int .i64 ((la : Int) + 3))).run Tryd.prog w = .ok (.slice (some ⟨w.heap.size, 0, none⟩) (la + 3) (la + 3)) (w.alloc (.cells (nums .u64 (Cst.zs (la + 3))).toArray 55))) :
    Calls Tryd.prog 41 #[.slice (some ⟨ga, 0, none⟩) la ca, .slice (some ⟨gb, 0, none⟩) 3 cb] w fun e w' => (e = .returned (.slice (some ⟨w.heap.size, 0, none⟩) (la + 3) (la + 3)) ∧ Num .u64 w.heap.size (Cst.tm A B) w') ∧ Below w.heap.size w w' := by
  have hz : Cst.tout A B 0 = Cst.zs (la + 3) := by rw [Cst.tout, hA, hB]
  have hlen : ∀ n, (Cst.tout A B n).length = la + 3 := fun n => by rw [Cst.tout_length, hA, hB]
  have hnext : ∀ n, Cst.tout A B (n + 1) = Cst.fin (Cst.tin (A.getD n 0) B n (Cst.tout A B n) 3) (n + 3) := fun n => by rw [Cst.tout, hB]
  have hend : Cst.tm A B = Cst.tout A B la := by rw [Cst.tm, hA]
  have Hz := Lib.hid hz; clear hz
  have Hlen := Lib.hid hlen; clear hlen
  have Hnext := Lib.hid hnext; clear hnext
  have Hend := Lib.hid hend; clear hend
  have Ha := Lib.hid ha; clear ha
  have Hb := Lib.hid hb; clear hb
  have HA := Lib.hid hA; clear hA
  have HB := Lib.hid hB; clear hB
  go_enter Tryd.func41, Tryd.ntmps41
  go_wp2
  clear hmk
  go_loopw [6] (fun i wr => ∃ n : Nat, n ≤ la ∧ i = .int .i64 n ∧ wr.heap[w.heap.size]? = some (.cells (nums .u64 (Cst.tout A B n)).toArray 55 (0, 0)) ∧ Below w.heap.size w wr) (fun i _ => la - (intOf i).toNat)
  case atStart => exact ⟨0, by omega, rfl, by rw [Hz.out]; exact heap_alloc_new _ _, (Below.refl _ w).alloc (Nat.le_refl _) _⟩
  case round =>
    obtain ⟨n, hn, rfl, hrow, hbel⟩ := hrel
    have Hrow := Lib.hid hrow; clear hrow
    have Hbel := Lib.hid hbel; clear hbel
    by_cases hlt : n < la
    · have hl := Hlen.out n
      have hx := Hnext.out n
      generalize Cst.tout A B n = O at *
      have Hl := Lib.hid hl; clear hl
      have Hx := Lib.hid hx; clear hx
      generalize wr = wz at *
      go_wp2
      go_loopw [7, 8] (fun c k u => ∃ m : Nat, m ≤ 3 ∧ k = .int .i64 m ∧ c = .int .u64 (Cst.tin (A.getD n 0) B n O m).2 ∧ u.heap[w.heap.size]? = some (.cells (nums .u64 (Cst.tin (A.getD n 0) B n O m).1).toArray 55 (0, 0)) ∧ Below w.heap.size w u) (fun _ k _ => 3 - (intOf k).toNat)
      case atStart => exact ⟨0, by omega, rfl, rfl, Hrow.out, Hbel.out⟩
      case round =>
        clear Hrow Hbel
        obtain ⟨m, hm, rfl, rfl, hrow, hbel⟩ := hrel
        have Hrow := Lib.hid hrow; clear hrow
        have Hbel := Lib.hid hbel; clear hbel
        have hpl : (Cst.tin (A.getD n 0) B n O m).1.length = la + 3 := by rw [Cst.tin_length, Hl.out]
        have hnx : Cst.tin (A.getD n 0) B n O (m + 1) = Cst.stp (A.getD n 0) B n m (Cst.tin (A.getD n 0) B n O m) := rfl
        have hfin : m = 3 → Cst.tout A B (n + 1) = Cst.fin (Cst.tin (A.getD n 0) B n O m) (n + 3) := fun e => by rw [Hx.out, e]
        have Hfin := Lib.hid hfin; clear hfin
        have hstp : Cst.stp (A.getD n 0) B n m (Cst.tin (A.getD n 0) B n O m) = ((Cst.tin (A.getD n 0) B n O m).1.set (n + m) (((Cst.tin (A.getD n 0) B n O m).1.getD (n + m) 0 + A.getD n 0 * B.getD m 0 + (Cst.tin (A.getD n 0) B n O m).2) % 18446744073709551616 % 65536), ((Cst.tin (A.getD n 0) B n O m).1.getD (n + m) 0 + A.getD n 0 * B.getD m 0 + (Cst.tin (A.getD n 0) B n O m).2) % 18446744073709551616 / 65536) := rfl
        by_cases hlm : m < 3
        · rw [hstp] at hnx
          clear hstp
          have ca := (Ha.out.below Hbel.out) n (by rw [HA.out]; exact hlt)
          have cb := (Hb.out.below Hbel.out) m (by rw [HB.out]; exact hlm)
          have co := (num_row Hrow.out) (n + m) (by rw [hpl]; omega)
          have hf := row_free Hrow.out (n + m)
          generalize Cst.tin (A.getD n 0) B n O m = p at *
          obtain ⟨O1, c⟩ := p
          simp only at *
          generalize O1.getD (n + m) 0 = o at *
          generalize A.getD n 0 = x at *
          generalize B.getD m 0 = y at *
          have hv : IntKind.u64.wrap (IntKind.u64.wrap ((o : Int) + IntKind.u64.wrap ((x : Int) * (y : Int))) + (c : Int)) = (((o + x * y + c) % 18446744073709551616 : Nat) : Int) := by
            rw [show (x : Int) * (y : Int) = ((x * y : Nat) : Int) by simp]
            generalize x * y = q
            simp only [IntKind.wrap_u64]
            omega
          have Hv := Lib.hid hv; clear hv
          have Hnx := Lib.hid hnx; clear hnx
          have Hpl := Lib.hid hpl; clear hpl
          go_wp2
          go_quiet (fail)
          rw [Hv.out]
          clear Hv ca cb
          have Hrow2 : Hid ((wr.drewN nq).heap[w.heap.size]? = some (.cells (nums .u64 O1).toArray 55 (0, 0))) := Lib.hid Hrow.out
          have Hbel2 : Hid (Below w.heap.size w (wr.drewN nq)) := Lib.hid (drewN_below Hbel.out nq)
          have hf2 : (wr.drewN nq).frozen? ⟨w.heap.size, n + m, none⟩ = false := hf
          have co2 : (wr.drewN nq).cell? ⟨w.heap.size, n + m, none⟩ = some (.int .u64 (o : Nat)) := co
          clear hf co Hrow Hbel
          generalize wr.drewN nq = w5 at *
          have hVl : (o + x * y + c) % 18446744073709551616 < 18446744073709551616 := Nat.mod_lt _ (by decide)
          generalize (o + x * y + c) % 18446744073709551616 = V at *
          go_wp2
          go_roundw
          case rel =>
            refine ⟨m + 1, by omega, by go_num, by rw [Hnx.out]; go_num, ?_, Hbel2.out.setCell (p := ⟨w.heap.size, n + m, none⟩) (Nat.le_refl _) _⟩
            rw [Hnx.out]
            exact row_setn Hrow2.out (n + m) (V % 65536)
          case measure => simp [intOf]; omega
        · obtain rfl : m = 3 := by omega
          rw [show ((3 : Nat) : Int) = 3 from rfl]
          have hfin := Hfin.out rfl
          have co := (num_row Hrow.out) (n + 3) (by rw [hpl]; omega)
          have hf := row_free Hrow.out (n + 3)
          generalize Cst.tin (A.getD n 0) B n O 3 = p at *
          obtain ⟨O1, c⟩ := p
          simp only at *
          have hfin2 : Cst.tout A B (n + 1) = O1.set (n + 3) c := hfin
          have Hf2 := Lib.hid hfin2; clear hfin2 hfin Hfin hnx hstp
          have Hpl := Lib.hid hpl; clear hpl
          go_wp2
          go_roundw
          case rel =>
            refine ⟨n + 1, by omega, by go_num, ?_, Hbel.out.setCell (p := ⟨w.heap.size, n + 3, none⟩) (Nat.le_refl _) _⟩
            rw [Hf2.out]
            exact row_setn Hrow.out (n + 3) c
          case measure => simp [intOf]; omega
    · obtain rfl : n = la := by omega
      have hnum := num_row Hrow.out
      rw [← Hend.out] at hnum
      have Hnum := Lib.hid hnum; clear hnum
      go_wp2
      go_ret
      exact ⟨⟨rfl, Hnum.out⟩, Hbel.out⟩

theorem times3 (ga ca gb cb : Nat) (A B : List Nat) (w : World) (hA : A.length = 3) (hB : B.length = 3) (ha : Num .u64 ga A w) (hb : Num .u64 gb B w) :
    Calls Tryd.prog 41 #[.slice (some ⟨ga, 0, none⟩) 3 ca, .slice (some ⟨gb, 0, none⟩) 3 cb] w fun e w' => (e = .returned (.slice (some ⟨w.heap.size, 0, none⟩) 6 6) ∧ Num .u64 w.heap.size (Cst.tm A B) w') ∧ Below w.heap.size w w' :=
  times_of 3 ga ca gb cb A B w (by decide) hA hB ha hb make6
theorem times6 (ga ca gb cb : Nat) (A B : List Nat) (w : World) (hA : A.length = 6) (hB : B.length = 3) (ha : Num .u64 ga A w) (hb : Num .u64 gb B w) :
    Calls Tryd.prog 41 #[.slice (some ⟨ga, 0, none⟩) 6 ca, .slice (some ⟨gb, 0, none⟩) 3 cb] w fun e w' => (e = .returned (.slice (some ⟨w.heap.size, 0, none⟩) 9 9) ∧ Num .u64 w.heap.size (Cst.tm A B) w') ∧ Below w.heap.size w w' :=
  times_of 6 ga ca gb cb A B w (by decide) hA hB ha hb make9

/-- Go's test 'most' -/
theorem ms_all (P : List Nat) (L n k : Nat) (h : ∀ j, j < k → P.getD j 0 = 0) (hk : k ≤ P.length) : Cst.ms P L n k = decide (Cst.hiF P L (L - k) ≤ n) := by
  unfold Cst.ms
  rw [if_pos]
  rw [List.all_eq_true]
  intro x hx
  obtain ⟨j, hj, rfl⟩ := List.mem_iff_getElem.1 hx
  have hj2 : j < k := by simp at hj; omega
  have := h j hj2
  rw [List.getD_eq_getElem?_getD, List.getElem?_eq_getElem (by omega)] at this
  simpa using this
theorem ms_some (P : List Nat) (L n k j : Nat) (hj : j < k) (hk : k ≤ P.length) (h : P.getD j 0 ≠ 0) : Cst.ms P L n k = decide (Cst.hiF P L (L - k) < n) := by
  unfold Cst.ms
  rw [if_neg]
  intro hc
  rw [List.all_eq_true] at hc
  refine h ?_
  have := hc (P[j]'(by omega)) (by
    rw [List.mem_iff_getElem]
    exact ⟨j, by simp; omega, by simp⟩)
  rw [List.getD_eq_getElem?_getD, List.getElem?_eq_getElem (by omega)]
  simpa using this

set_option maxHeartbeats 2000000 in
theorem most_any (g c L n k : Nat) (P : List Nat) (w : World) (hP : P.length = L) (hL : L ≤ 9) (hk : k ≤ L) (hn : n ≤ 1000) (hp : Num .u64 g P w) :
    Calls Tryd.prog 43 #[.slice (some ⟨g, 0, none⟩) L c, .int .u64 n, .int .i64 k] w fun e w' => e = .returned (.bool (Cst.ms P L n k)) ∧ ∃ m, w' = w.drewN m := by
  have hall := ms_all P L n k
  have hsome := ms_some P L n k
  have Hall := Lib.hid hall; clear hall
  have Hsome := Lib.hid hsome; clear hsome
  have HP := Lib.hid hP; clear hP
  have Hp := Lib.hid hp; clear hp
  generalize Cst.ms P L n k = R at *
  go_enter Tryd.func43, Tryd.ntmps43
  go_wp2
  go_loop [7, 8] (fun h i => ∃ q : Nat, k ≤ q ∧ q ≤ L ∧ i = .int .i64 ((q : Int) - 1) ∧ h = .int .u64 (Cst.hiF P L (L - q) : Nat)) (fun _ i => (intOf i + 1).toNat)
  case atStart => exact ⟨L, by omega, by omega, rfl, by rw [Nat.sub_self]; rfl⟩
  case round =>
    obtain ⟨q, hq1, hq2, rfl, rfl⟩ := hrel
    by_cases hlt : k < q
    · obtain ⟨q', rfl⟩ : ∃ q', q = q' + 1 := ⟨q - 1, by omega⟩
      rw [show (((q' + 1 : Nat) : Int) - 1) = (q' : Int) by omega]
      have hc := Hp.out q' (by rw [HP.out]; omega)
      have hnx : Cst.hiF P L (L - q') = (Cst.hiF P L (L - (q' + 1)) * 65536 + P.getD q' 0) % 18446744073709551616 := by
        rw [show L - q' = (L - (q' + 1)) + 1 by omega, Cst.hiF, show L - 1 - (L - (q' + 1)) = q' by omega]
      generalize Cst.hiF P L (L - (q' + 1)) = a at *
      generalize P.getD q' 0 = b at *
      have Hnx := Lib.hid hnx; clear hnx
      have hkq : (k : Int) ≤ (q' : Int) := by omega
      go_wp2
      go_round
      case rel => exact ⟨q', by omega, by omega, rfl, by rw [Hnx.out]; congr 1; simp only [IntKind.wrap_u64]; omega⟩
      case measure => simp [intOf]
    · obtain rfl : q = k := by omega
      have hkq : ¬ (q : Int) ≤ (q : Int) - 1 := by omega
      have hkd : decide ((q : Int) ≤ (q : Int) - 1) = false := decide_eq_false hkq
      have hall2 := fun h => Hall.out h (by rw [HP.out]; exact hk)
      have hsome2 := fun j h => Hsome.out j h (by rw [HP.out]; exact hk)
      have Hall2 := Lib.hid hall2; clear hall2
      have Hsome2 := Lib.hid hsome2; clear hsome2
      clear Hall Hsome
      generalize Cst.hiF P L (L - q) = H at *
      clear hkq
      go_wp2
      clear hkd
      go_loop [9] (fun i => ∃ j : Nat, j ≤ q ∧ i = .int .i64 j ∧ ∀ t, t < j → P.getD t 0 = 0) (fun i => q - (intOf i).toNat)
      case atStart => exact ⟨0, by omega, rfl, fun t ht => by omega⟩
      case round =>
        obtain ⟨j, hj, rfl, hz⟩ := hrel
        have Hzz := Lib.hid hz; clear hz
        by_cases hlj : j < q
        · have hc := Hp.out j (by rw [HP.out]; omega)
          have hso := Hsome2.out j hlj
          have hzn : P.getD j 0 = 0 → ∀ t, t < j + 1 → P.getD t 0 = 0 := fun e t ht => by
            by_cases h : t = j
            · rw [h]; exact e
            · exact Hzz.out t (by omega)
          have Hzn := Lib.hid hzn; clear hzn
          have Hso := Lib.hid hso; clear hso
          generalize P.getD j 0 = b at *
          by_cases hb : b = 0
          · subst hb
            go_wp2
            go_round
            case rel => exact ⟨j + 1, by omega, by go_num, Hzn.out rfl⟩
            case measure => simp [intOf]; omega
          · have hR := Hso.out hb
            have HR2 := Lib.hid hR; clear hR
            go_wp2
            go_ret
            exact ⟨by rw [HR2.out]; rfl, 0, rfl⟩
        · obtain rfl : j = q := by omega
          have hR := Hall2.out Hzz.out
          have HR2 := Lib.hid hR; clear hR
          go_wp2
          go_ret
          exact ⟨by rw [HR2.out]; rfl, 0, rfl⟩
end Go.Proofs.YtdlcdbpigcmnbaaDoor
