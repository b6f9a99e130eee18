/-
  files.readMark.
-/
import Derived.Test.YticcipgdjpoimaaGreatFilMark
set_option linter.unusedVariables false
set_option maxRecDepth 100000
namespace Go.Proofs.YticcipgdjpoimaaGreat
open Go.RowKit

def fmarkV (nm : Bool) (a q : Nat) : Value := .agg #[.bool nm, .int .i64 (a : Int), .int .u64 (q : Int)]
def fmarkO : Option (Option (Nat × Nat)) → Value
  | none => fmarkV false 0 0
  | some none => fmarkV false 0 0
  | some (some x) => fmarkV true x.1 x.2
def fmarkE : Option (Option (Nat × Nat)) → Int
  | none => 50
  | some _ => 0
def fmarkR (o : Option (Option (Nat × Nat))) : Ending := .returned (.tuple #[fmarkO o, .int .i64 (fmarkE o)])

theorem three_set {w : World} {b : Nat} {x y z : Value} {T : TypeId} (h : w.heap[b]? = some (.cells #[x, y, z] T (0, 0))) (x' y' z' : Value) :
    (((w.setCell ⟨b, 0, none⟩ x').setCell ⟨b, 1, none⟩ y').setCell ⟨b, 2, none⟩ z').heap[b]? = some (.cells #[x', y', z'] T (0, 0)) := by
  have h1 : (w.setCell ⟨b, 0, none⟩ x').heap[b]? = some (.cells #[x', y, z] T (0, 0)) := by rw [heap_setCell_same w b 0 _ _ _ h]; rfl
  have h2 : ((w.setCell ⟨b, 0, none⟩ x').setCell ⟨b, 1, none⟩ y').heap[b]? = some (.cells #[x', y', z] T (0, 0)) := by rw [heap_setCell_same _ b 1 _ _ _ h1]; rfl
  rw [heap_setCell_same _ b 2 _ _ _ h2]; rfl
theorem fmark_results (tmps : Array Value) (b : Nat) (x y z : Value) (e : Value) (W : World) (h2 : tmps.getD 2 undef = .pointer (some ⟨b, 0, none⟩)) (h3 : tmps.getD 3 undef = e)
    (h : W.heap[b]? = some (.cells #[x, y, z] 66 (0, 0))) :
    (results Tryz.f43 tmps).run Tryz.prog W = .ok (.tuple #[.agg #[x, y, z], e]) W := by
  have c0 : W.cell? ⟨b, 0, none⟩ = some x := by rw [cell_of_row _ _ 0 _ _ _ h]; rfl
  have c1 : W.cell? ⟨b, 1, none⟩ = some y := by rw [cell_of_row _ _ 1 _ _ _ h]; rfl
  have c2 : W.cell? ⟨b, 2, none⟩ = some z := by rw [cell_of_row _ _ 2 _ _ _ h]; rfl
  have f0 := row_free h 0
  have f1 := row_free h 1
  have f2 := row_free h 2
  have h2' : tmps[2]?.getD undef = .pointer (some ⟨b, 0, none⟩) := by simpa using h2
  have h3' : tmps[3]?.getD undef = e := by simpa using h3
  simp [results, go_sem, h2', h3', c0, c1, c2]

section
variable {p : Nat} {w : World}
/-- the disk's answer is an error -/
theorem freadMark_bad (s : ByteArray) (E : Int) (hE : (E != 0) = true) (hrd : ∀ u, Below w.heap.size w u → Calls Tryz.prog 66 #[.pointer (some ⟨p, 0, none⟩), .int .i64 0, .int .i64 1] u fun e w' => e = .returned (.tuple #[.string s, .int .i64 E]) ∧ Below u.heap.size u w') :
    Calls Tryz.prog 43 #[.pointer (some ⟨p, 0, none⟩)] w fun e w' => e = .returned (.tuple #[fmarkV false 0 0, .int .i64 E]) ∧ Below w.heap.size w w' := by
  have hrd2 := hrd (w.alloc (.cells #[.bool false, .int .i64 0, .int .u64 0] 66)) ((Below.refl _ w).alloc (Nat.le_refl _) _)
  have Hr := Lib.hid hrd2; clear hrd hrd2
  go_enter Tryz.func43, Tryz.ntmps43
  go_wp2_with fail
  refine Hr.out.mono ?_; rintro e w1 ⟨rfl, h1⟩
  have hr1 : w1.heap[w.heap.size]? = some (.cells #[.bool false, .int .i64 0, .int .u64 0] 66 (0, 0)) := by
    rw [h1.block _ (by simp)]; exact heap_alloc_new _ _
  have k1 : Below w.heap.size w w1 := ((Below.refl w.heap.size w).alloc (Nat.le_refl _) _).trans (h1.mono (by simp))
  have c0 : w1.cell? ⟨w.heap.size, 0, none⟩ = some (.bool false) := by rw [cell_of_row _ _ 0 _ _ _ hr1]; rfl
  have c1 : w1.cell? ⟨w.heap.size, 1, none⟩ = some (.int .i64 0) := by rw [cell_of_row _ _ 1 _ _ _ hr1]; rfl
  have c2 : w1.cell? ⟨w.heap.size, 2, none⟩ = some (.int .u64 0) := by rw [cell_of_row _ _ 2 _ _ _ hr1]; rfl
  have f0 := row_free hr1 0
  have f1 := row_free hr1 1
  have f2 := row_free hr1 2
  clear h1
  have K1 := Lib.hid k1; clear k1
  go_wp2_with fail
  (try simp only [Exit.inBlock, Exit.then])
  refine bodyPost_ret (v := .tuple #[fmarkV false 0 0, .int .i64 E]) (fmark_results _ w.heap.size _ _ _ _ _ rfl rfl (three_set hr1 _ _ _)) rfl ?_
  exact ⟨rfl, ((K1.out.setCell (p := ⟨w.heap.size, 0, none⟩) (Nat.le_refl _) _).setCell (p := ⟨w.heap.size, 1, none⟩) (Nat.le_refl _) _).setCell (p := ⟨w.heap.size, 2, none⟩) (Nat.le_refl _) _⟩

theorem freadMark_nought (s : ByteArray) (hz : Wal.nought s.data.toList) (hrd : ∀ u, Below w.heap.size w u → Calls Tryz.prog 66 #[.pointer (some ⟨p, 0, none⟩), .int .i64 0, .int .i64 1] u fun e w' => e = .returned (.tuple #[.string s, .int .i64 0]) ∧ Below u.heap.size u w') :
    Calls Tryz.prog 43 #[.pointer (some ⟨p, 0, none⟩)] w fun e w' => e = .returned (.tuple #[fmarkV false 0 0, .int .i64 0]) ∧ Below w.heap.size w w' := by
  have hrd2 := hrd (w.alloc (.cells #[.bool false, .int .i64 0, .int .u64 0] 66)) ((Below.refl _ w).alloc (Nat.le_refl _) _)
  have hbl := fun u => blank_any s true (decide_eq_true hz) u
  have Hr := Lib.hid hrd2; clear hrd hrd2
  have Hb := Lib.hid hbl; clear hbl
  clear hz
  go_enter Tryz.func43, Tryz.ntmps43
  go_wp2_with fail
  refine Hr.out.mono ?_; rintro e w1 ⟨rfl, h1⟩
  go_wp2_with fail
  refine (Hb.out _).mono ?_; rintro e w2 ⟨rfl, h2⟩
  have h3 := h1.trans (h2.mono h1.size)
  clear h1 h2
  have hr1 : w2.heap[w.heap.size]? = some (.cells #[.bool false, .int .i64 0, .int .u64 0] 66 (0, 0)) := by
    rw [h3.block _ (by simp)]; exact heap_alloc_new _ _
  have k1 : Below w.heap.size w w2 := ((Below.refl w.heap.size w).alloc (Nat.le_refl _) _).trans (h3.mono (by simp))
  have c0 : w2.cell? ⟨w.heap.size, 0, none⟩ = some (.bool false) := by rw [cell_of_row _ _ 0 _ _ _ hr1]; rfl
  have c1 : w2.cell? ⟨w.heap.size, 1, none⟩ = some (.int .i64 0) := by rw [cell_of_row _ _ 1 _ _ _ hr1]; rfl
  have c2 : w2.cell? ⟨w.heap.size, 2, none⟩ = some (.int .u64 0) := by rw [cell_of_row _ _ 2 _ _ _ hr1]; rfl
  have f0 := row_free hr1 0
  have f1 := row_free hr1 1
  have f2 := row_free hr1 2
  clear h3
  have K1 := Lib.hid k1; clear k1
  go_wp2_with fail
  (try simp only [Exit.inBlock, Exit.then])
  refine bodyPost_ret (v := .tuple #[fmarkV false 0 0, .int .i64 0]) (fmark_results _ w.heap.size _ _ _ _ _ rfl rfl (three_set hr1 _ _ _)) rfl ?_
  exact ⟨rfl, ((K1.out.setCell (p := ⟨w.heap.size, 0, none⟩) (Nat.le_refl _) _).setCell (p := ⟨w.heap.size, 1, none⟩) (Nat.le_refl _) _).setCell (p := ⟨w.heap.size, 2, none⟩) (Nat.le_refl _) _⟩

set_option maxHeartbeats 800000 in
theorem freadMark_some (s : ByteArray) (hs : s.size = 64) (hz : ¬ Wal.nought s.data.toList) (hrd : ∀ u, Below w.heap.size w u → Calls Tryz.prog 66 #[.pointer (some ⟨p, 0, none⟩), .int .i64 0, .int .i64 1] u fun e w' => e = .returned (.tuple #[.string s, .int .i64 0]) ∧ Below u.heap.size u w') :
    Calls Tryz.prog 43 #[.pointer (some ⟨p, 0, none⟩)] w fun e w' => e = fmarkR (Fil.readMark s.data.toList) ∧ Below w.heap.size w w' := by
  have hrd2 := hrd (w.alloc (.cells #[.bool false, .int .i64 0, .int .u64 0] 66)) ((Below.refl _ w).alloc (Nat.le_refl _) _)
  have hbl := fun u => blank_any s false (decide_eq_false hz) u
  have g1 := fun u => octGet_any (s.extract 5 13) u
  have e1 : (s.extract 5 13).data.toList = (s.data.toList.drop 5).take 8 := by
    rw [ByteArray.data_extract, Array.toList_extract, List.extract_eq_take_drop]
  have l1 : ((s.data.toList.drop 5).take 8).length = 8 := by rw [List.length_take, List.length_drop, ba_len]; omega
  rw [e1, show Oct.get ((s.data.toList.drop 5).take 8) = (Oct.un ((s.data.toList.drop 5).take 8), 0) from by unfold Oct.get; rw [if_pos (by omega)]] at g1
  have b1 := Oct.un_lt ((s.data.toList.drop 5).take 8)
  rw [l1] at b1
  have b1' : Oct.un ((s.data.toList.drop 5).take 8) < 18446744073709551616 := b1
  unfold Fil.readMark
  rw [if_neg hz]
  have hA : (s.data.toList.getD 4 0).toNat < 256 := UInt8.toNat_lt _
  have hix : wrap64 ((s[4]'(by omega)).toNat : Int) = ((s.data.toList.getD 4 0).toNat : Int) := by
    have : s[4]'(by omega) = s.data.toList.getD 4 0 := by
      rw [List.getD_eq_getElem?_getD, List.getElem?_eq_getElem (by rw [ba_len]; omega)]; rfl
    rw [this]; exact IntWalk.wrap64_in _ ⟨by omega, by omega⟩
  clear e1 l1 b1
  generalize Oct.un ((s.data.toList.drop 5).take 8) = Q at *
  generalize (s.data.toList.getD 4 0).toNat = A at *
  have hh := fun u => ftext_any A Q true hA b1' u
  have hms : (ba (Fil.mark A Q) = s) ↔ Fil.mark A Q = s.data.toList := by
    constructor
    · intro h
      have h2 := congrArg (fun x : ByteArray => x.data.toList) h
      simpa only [ba_list] using h2
    · intro h; rw [h, ba_of]
  have Hr := Lib.hid hrd2; clear hrd hrd2
  have Hb := Lib.hid hbl; clear hbl
  have G1 := Lib.hid g1; clear g1
  have HH := Lib.hid hh; clear hh
  have HM := Lib.hid hms; clear hms
  clear hz
  by_cases h2A : 2 ≤ A
  · rw [if_pos h2A]
    have x2 : decide ((2 : Int) ≤ (A : Int)) = true := decide_eq_true (by omega)
    have y2 : (2 : Int) ≤ (A : Int) := by omega
    go_enter Tryz.func43, Tryz.ntmps43
    go_wp2_with fail
    refine Hr.out.mono ?_; rintro e w1 ⟨rfl, h1⟩
    go_wp2_with fail
    refine (Hb.out _).mono ?_; rintro e w2 ⟨rfl, h2⟩
    have h3 := h1.trans (h2.mono h1.size)
    clear h1 h2
    have hr1 : w2.heap[w.heap.size]? = some (.cells #[.bool false, .int .i64 0, .int .u64 0] 66 (0, 0)) := by
      rw [h3.block _ (by simp)]; exact heap_alloc_new _ _
    have hsz : w.heap.size < w2.heap.size := row_lt hr1
    have k1 : Below w.heap.size w w2 := ((Below.refl w.heap.size w).alloc (Nat.le_refl _) _).trans (h3.mono (by simp))
    clear h3
    have K1 := Lib.hid k1; clear k1
    go_wp2_with fail
    refine (G1.out _).mono ?_; rintro e w3 ⟨rfl, rfl⟩
    have hra := (Below.heap_alloc w2 (.cells #[.bool true, .int .i64 (A : Int), .int .u64 (Q : Int)] 66) _ hsz).trans hr1
    have kA : Below w.heap.size w (w2.alloc (.cells #[.bool true, .int .i64 (A : Int), .int .u64 (Q : Int)] 66)) := K1.out.alloc (by omega) _
    have c0 : (w2.alloc (.cells #[.bool true, .int .i64 (A : Int), .int .u64 (Q : Int)] 66)).cell? ⟨w.heap.size, 0, none⟩ = some (.bool false) := by rw [cell_of_row _ _ 0 _ _ _ hra]; rfl
    have c1 : (w2.alloc (.cells #[.bool true, .int .i64 (A : Int), .int .u64 (Q : Int)] 66)).cell? ⟨w.heap.size, 1, none⟩ = some (.int .i64 0) := by rw [cell_of_row _ _ 1 _ _ _ hra]; rfl
    have c2 : (w2.alloc (.cells #[.bool true, .int .i64 (A : Int), .int .u64 (Q : Int)] 66)).cell? ⟨w.heap.size, 2, none⟩ = some (.int .u64 0) := by rw [cell_of_row _ _ 2 _ _ _ hra]; rfl
    have f0 := row_free hra 0
    have f1 := row_free hra 1
    have f2 := row_free hra 2
    clear hsz
    have KA := Lib.hid kA; clear kA
    go_wp2_with fail
    (try simp only [Exit.inBlock, Exit.then])
    refine bodyPost_ret (v := .tuple #[fmarkV false 0 0, .int .i64 50]) (fmark_results _ w.heap.size _ _ _ _ _ rfl rfl (three_set hra _ _ _)) rfl ?_
    exact ⟨rfl, ((KA.out.setCell (p := ⟨w.heap.size, 0, none⟩) (Nat.le_refl _) _).setCell (p := ⟨w.heap.size, 1, none⟩) (Nat.le_refl _) _).setCell (p := ⟨w.heap.size, 2, none⟩) (Nat.le_refl _) _⟩
  rw [if_neg h2A]
  have x2 : decide ((2 : Int) ≤ (A : Int)) = false := decide_eq_false (by omega)
  have y2 : ¬ (2 : Int) ≤ (A : Int) := by omega
  by_cases hm : ba (Fil.mark A Q) = s
  · rw [if_pos (HM.out.1 hm)]
    rw [hm] at HH
    clear HM hm
    go_enter Tryz.func43, Tryz.ntmps43
    go_wp2_with fail
    refine Hr.out.mono ?_; rintro e w1 ⟨rfl, h1⟩
    go_wp2_with fail
    refine (Hb.out _).mono ?_; rintro e w2 ⟨rfl, h2⟩
    have h3 := h1.trans (h2.mono h1.size)
    clear h1 h2
    have hr1 : w2.heap[w.heap.size]? = some (.cells #[.bool false, .int .i64 0, .int .u64 0] 66 (0, 0)) := by
      rw [h3.block _ (by simp)]; exact heap_alloc_new _ _
    have hsz : w.heap.size < w2.heap.size := row_lt hr1
    have k1 : Below w.heap.size w w2 := ((Below.refl w.heap.size w).alloc (Nat.le_refl _) _).trans (h3.mono (by simp))
    clear h3
    have K1 := Lib.hid k1; clear k1
    go_wp2_with fail
    refine (G1.out _).mono ?_; rintro e w3 ⟨rfl, rfl⟩
    have hra := (Below.heap_alloc w2 (.cells #[.bool true, .int .i64 (A : Int), .int .u64 (Q : Int)] 66) _ hsz).trans hr1
    have kA : Below w.heap.size w (w2.alloc (.cells #[.bool true, .int .i64 (A : Int), .int .u64 (Q : Int)] 66)) := K1.out.alloc (by omega) _
    have hra2 : (w2.alloc (.cells #[.bool true, .int .i64 (A : Int), .int .u64 (Q : Int)] 66)).heap[w2.heap.size]? = some (.cells #[.bool true, .int .i64 (A : Int), .int .u64 (Q : Int)] 66 (0, 0)) := heap_alloc_new _ _
    have hss : (w2.alloc (.cells #[.bool true, .int .i64 (A : Int), .int .u64 (Q : Int)] 66)).heap.size = w2.heap.size + 1 := by simp
    have KA := Lib.hid kA; clear kA
    go_wp2_with fail
    refine (HH.out _).mono ?_; rintro e w4 ⟨rfl, h4⟩
    have hr4 : w4.heap[w.heap.size]? = some (.cells #[.bool false, .int .i64 0, .int .u64 0] 66 (0, 0)) := by
      rw [h4.block _ (by omega)]; exact hra
    have hm4 : w4.heap[w2.heap.size]? = some (.cells #[.bool true, .int .i64 (A : Int), .int .u64 (Q : Int)] 66 (0, 0)) := by
      rw [h4.block _ (by omega)]; exact hra2
    have k4 : Below w.heap.size w w4 := KA.out.trans (h4.mono (by omega))
    clear h4 hra hra2 hr1
    have c0 : w4.cell? ⟨w.heap.size, 0, none⟩ = some (.bool false) := by rw [cell_of_row _ _ 0 _ _ _ hr4]; rfl
    have c1 : w4.cell? ⟨w.heap.size, 1, none⟩ = some (.int .i64 0) := by rw [cell_of_row _ _ 1 _ _ _ hr4]; rfl
    have c2 : w4.cell? ⟨w.heap.size, 2, none⟩ = some (.int .u64 0) := by rw [cell_of_row _ _ 2 _ _ _ hr4]; rfl
    have f0 := row_free hr4 0
    have f1 := row_free hr4 1
    have f2 := row_free hr4 2
    have d0 : w4.cell? ⟨w2.heap.size, 0, none⟩ = some (.bool true) := by rw [cell_of_row _ _ 0 _ _ _ hm4]; rfl
    have d1 : w4.cell? ⟨w2.heap.size, 1, none⟩ = some (.int .i64 (A : Int)) := by rw [cell_of_row _ _ 1 _ _ _ hm4]; rfl
    have d2 : w4.cell? ⟨w2.heap.size, 2, none⟩ = some (.int .u64 (Q : Int)) := by rw [cell_of_row _ _ 2 _ _ _ hm4]; rfl
    have K4 := Lib.hid k4; clear k4
    go_wp2_with fail
    (try simp only [Exit.inBlock, Exit.then])
    refine bodyPost_ret (v := .tuple #[fmarkV true A Q, .int .i64 0]) (fmark_results _ w.heap.size _ _ _ _ _ rfl rfl (three_set hr4 _ _ _)) rfl ?_
    exact ⟨rfl, ((K4.out.setCell (p := ⟨w.heap.size, 0, none⟩) (Nat.le_refl _) _).setCell (p := ⟨w.heap.size, 1, none⟩) (Nat.le_refl _) _).setCell (p := ⟨w.heap.size, 2, none⟩) (Nat.le_refl _) _⟩
  · rw [if_neg (fun e => hm (HM.out.2 e))]
    have hnm := ba_ne hm
    generalize ba (Fil.mark A Q) = M at *
    clear HM hm
    go_enter Tryz.func43, Tryz.ntmps43
    go_wp2_with fail
    refine Hr.out.mono ?_; rintro e w1 ⟨rfl, h1⟩
    go_wp2_with fail
    refine (Hb.out _).mono ?_; rintro e w2 ⟨rfl, h2⟩
    have h3 := h1.trans (h2.mono h1.size)
    clear h1 h2
    have hr1 : w2.heap[w.heap.size]? = some (.cells #[.bool false, .int .i64 0, .int .u64 0] 66 (0, 0)) := by
      rw [h3.block _ (by simp)]; exact heap_alloc_new _ _
    have hsz : w.heap.size < w2.heap.size := row_lt hr1
    have k1 : Below w.heap.size w w2 := ((Below.refl w.heap.size w).alloc (Nat.le_refl _) _).trans (h3.mono (by simp))
    clear h3
    have K1 := Lib.hid k1; clear k1
    go_wp2_with fail
    refine (G1.out _).mono ?_; rintro e w3 ⟨rfl, rfl⟩
    have hra := (Below.heap_alloc w2 (.cells #[.bool true, .int .i64 (A : Int), .int .u64 (Q : Int)] 66) _ hsz).trans hr1
    have kA : Below w.heap.size w (w2.alloc (.cells #[.bool true, .int .i64 (A : Int), .int .u64 (Q : Int)] 66)) := K1.out.alloc (by omega) _
    have hra2 : (w2.alloc (.cells #[.bool true, .int .i64 (A : Int), .int .u64 (Q : Int)] 66)).heap[w2.heap.size]? = some (.cells #[.bool true, .int .i64 (A : Int), .int .u64 (Q : Int)] 66 (0, 0)) := heap_alloc_new _ _
    have hss : (w2.alloc (.cells #[.bool true, .int .i64 (A : Int), .int .u64 (Q : Int)] 66)).heap.size = w2.heap.size + 1 := by simp
    have KA := Lib.hid kA; clear kA
    go_wp2_with fail
    refine (HH.out _).mono ?_; rintro e w4 ⟨rfl, h4⟩
    have hr4 : w4.heap[w.heap.size]? = some (.cells #[.bool false, .int .i64 0, .int .u64 0] 66 (0, 0)) := by
      rw [h4.block _ (by omega)]; exact hra
    have hm4 : w4.heap[w2.heap.size]? = some (.cells #[.bool true, .int .i64 (A : Int), .int .u64 (Q : Int)] 66 (0, 0)) := by
      rw [h4.block _ (by omega)]; exact hra2
    have k4 : Below w.heap.size w w4 := KA.out.trans (h4.mono (by omega))
    clear h4 hra hra2 hr1
    have c0 : w4.cell? ⟨w.heap.size, 0, none⟩ = some (.bool false) := by rw [cell_of_row _ _ 0 _ _ _ hr4]; rfl
    have c1 : w4.cell? ⟨w.heap.size, 1, none⟩ = some (.int .i64 0) := by rw [cell_of_row _ _ 1 _ _ _ hr4]; rfl
    have c2 : w4.cell? ⟨w.heap.size, 2, none⟩ = some (.int .u64 0) := by rw [cell_of_row _ _ 2 _ _ _ hr4]; rfl
    have f0 := row_free hr4 0
    have f1 := row_free hr4 1
    have f2 := row_free hr4 2
    have d0 : w4.cell? ⟨w2.heap.size, 0, none⟩ = some (.bool true) := by rw [cell_of_row _ _ 0 _ _ _ hm4]; rfl
    have d1 : w4.cell? ⟨w2.heap.size, 1, none⟩ = some (.int .i64 (A : Int)) := by rw [cell_of_row _ _ 1 _ _ _ hm4]; rfl
    have d2 : w4.cell? ⟨w2.heap.size, 2, none⟩ = some (.int .u64 (Q : Int)) := by rw [cell_of_row _ _ 2 _ _ _ hm4]; rfl
    have K4 := Lib.hid k4; clear k4
    go_wp2_with fail
    (try simp only [Exit.inBlock, Exit.then])
    refine bodyPost_ret (v := .tuple #[fmarkV false 0 0, .int .i64 50]) (fmark_results _ w.heap.size _ _ _ _ _ rfl rfl (three_set hr4 _ _ _)) rfl ?_
    exact ⟨rfl, ((K4.out.setCell (p := ⟨w.heap.size, 0, none⟩) (Nat.le_refl _) _).setCell (p := ⟨w.heap.size, 1, none⟩) (Nat.le_refl _) _).setCell (p := ⟨w.heap.size, 2, none⟩) (Nat.le_refl _) _⟩

theorem freadMark_good (s : ByteArray) (hs : s.size = 64) (hrd : ∀ u, Below w.heap.size w u → Calls Tryz.prog 66 #[.pointer (some ⟨p, 0, none⟩), .int .i64 0, .int .i64 1] u fun e w' => e = .returned (.tuple #[.string s, .int .i64 0]) ∧ Below u.heap.size u w') :
    Calls Tryz.prog 43 #[.pointer (some ⟨p, 0, none⟩)] w fun e w' => e = fmarkR (Fil.readMark s.data.toList) ∧ Below w.heap.size w w' := by
  by_cases hz : Wal.nought s.data.toList
  · have : Fil.readMark s.data.toList = some none := by unfold Fil.readMark; rw [if_pos hz]
    rw [this]; exact freadMark_nought s hz hrd
  · exact freadMark_some s hs hz hrd
end
end Go.Proofs.YticcipgdjpoimaaGreat
