/-
  What readMark returns.
-/
import Derived.Test.YtjmpagbjkehebaaWalFill
import Derived.Handy
import Derived.Deep.WholeRow
set_option linter.unusedVariables false
set_option maxRecDepth 100000
namespace Go.Proofs.Ytjmpagbjkehebaa
open Go.RowKit

def markV (g u : Nat) : Value := .agg #[.int .u64 (g : Int), .int .i64 (u : Int)]
def markR : Option (Nat × Nat) → Ending
  | none => .returned (.tuple #[markV 0 0, .int .i64 50])
  | some x => .returned (.tuple #[markV x.1 x.2, .int .i64 0])

theorem zeros_eq (s : ByteArray) (n : Nat) (hn : s.size = n) : (s = ba (List.replicate n 0)) ↔ Wal.nought s.data.toList := by
  unfold Wal.nought
  rw [ba_len, hn]
  constructor
  · intro h; rw [h, ba_list]
  · intro h; rw [← h, ba_of]

theorem two_set {w : World} {b : Nat} {x y : Value} {T : TypeId} (h : w.heap[b]? = some (.cells #[x, y] T (0, 0))) (x' y' : Value) :
    ((w.setCell ⟨b, 0, none⟩ x').setCell ⟨b, 1, none⟩ y').heap[b]? = some (.cells #[x', y'] T (0, 0)) := by
  have h1 : (w.setCell ⟨b, 0, none⟩ x').heap[b]? = some (.cells #[x', y] T (0, 0)) := by rw [heap_setCell_same w b 0 _ _ _ h]; rfl
  rw [heap_setCell_same _ b 1 _ _ _ h1]; rfl

theorem mark_results (tmps : Array Value) (b : Nat) (x y : Value) (e : Value) (W : World) (h4 : tmps.getD 4 undef = .pointer (some ⟨b, 0, none⟩)) (h5 : tmps.getD 5 undef = e)
    (h : W.heap[b]? = some (.cells #[x, y] 55 (0, 0))) :
    (results Try.f24 tmps).run Try.prog W = .ok (.tuple #[.agg #[x, y], e]) W := by
  have c0 : W.cell? ⟨b, 0, none⟩ = some x := by rw [cell_of_row _ _ 0 _ _ _ h]; rfl
  have c1 : W.cell? ⟨b, 1, none⟩ = some y := by rw [cell_of_row _ _ 1 _ _ _ h]; rfl
  have f0 := row_free h 0
  have f1 := row_free h 1
  have h4' : tmps[4]?.getD undef = .pointer (some ⟨b, 0, none⟩) := by simpa using h4
  have h5' : tmps[5]?.getD undef = e := by simpa using h5
  simp [results, go_sem, h4', h5', c0, c1]

theorem readMark_nought (s : ByteArray) (hs : s.size = 64) (room : Nat) (hz : Wal.nought s.data.toList) (w : World) :
    Calls Try.prog 24 #[.string s, .int .i64 (room : Int)] w fun e w' => e = .returned (.tuple #[markV 0 0, .int .i64 0]) ∧ Below w.heap.size w w' := by
  have hr := fun u => blank_any s true (decide_eq_true hz) u
  have Hr := Lib.hid hr; clear hr
  clear hz
  go_enter Try.func24, Try.ntmps24
  go_wp2_with fail
  refine (Hr.out _).mono ?_; rintro e w1 ⟨rfl, h1⟩
  have hr1 : w1.heap[w.heap.size]? = some (.cells #[.int .u64 0, .int .i64 0] 55 (0, 0)) := by
    rw [h1.block _ (by simp)]; exact heap_alloc_new _ _
  have k1 : Below w.heap.size w w1 := ((Below.refl w.heap.size w).alloc (Nat.le_refl _) _).trans (h1.mono (by simp))
  have c0 : w1.cell? ⟨w.heap.size, 0, none⟩ = some (.int .u64 0) := by rw [cell_of_row _ _ 0 _ _ _ hr1]; rfl
  have c1 : w1.cell? ⟨w.heap.size, 1, none⟩ = some (.int .i64 0) := by rw [cell_of_row _ _ 1 _ _ _ hr1]; rfl
  have f0 := row_free hr1 0
  have f1 := row_free hr1 1
  clear h1
  have K1 := Lib.hid k1; clear k1
  go_wp2_with fail
  (try simp only [Exit.inBlock, Exit.then])
  refine bodyPost_ret (v := .tuple #[markV 0 0, .int .i64 0]) (mark_results _ w.heap.size _ _ _ _ rfl rfl (two_set hr1 _ _)) rfl ?_
  exact ⟨rfl, (K1.out.setCell (p := ⟨w.heap.size, 0, none⟩) (Nat.le_refl _) _).setCell (p := ⟨w.heap.size, 1, none⟩) (Nat.le_refl _) _⟩

theorem ba_ne {s z : ByteArray} (h : s ≠ z) : (s.toList == z.toList) = false := beq_eq_false_iff_ne.2 (fun c => h (by rw [Lib.toList_data, Lib.toList_data] at c; exact Go.WideShapes.bytes_inj c))

set_option maxHeartbeats 800000 in
theorem readMark_any (s : ByteArray) (hs : s.size = 64) (room : Nat) (hrm : room ≤ 16384) (w : World) :
    Calls Try.prog 24 #[.string s, .int .i64 (room : Int)] w fun e w' => e = markR (Wal.readMark s.data.toList room) ∧ Below w.heap.size w w' := by
  unfold Wal.readMark
  by_cases hz : Wal.nought s.data.toList
  · rw [if_pos hz]; exact readMark_nought s hs room hz w
  rw [if_neg hz]
  have hr := fun u => blank_any s false (decide_eq_false hz) u
  have g1 := fun u => octGet_any (s.extract 4 12) u
  have g2 := fun u => octGet_any (s.extract 12 16) u
  have e1 : (s.extract 4 12).data.toList = (s.data.toList.drop 4).take 8 := by
    rw [ByteArray.data_extract, Array.toList_extract, List.extract_eq_take_drop]
  have e2 : (s.extract 12 16).data.toList = (s.data.toList.drop 12).take 4 := by
    rw [ByteArray.data_extract, Array.toList_extract, List.extract_eq_take_drop]
  have l1 : ((s.data.toList.drop 4).take 8).length = 8 := by rw [List.length_take, List.length_drop, ba_len]; omega
  have l2 : ((s.data.toList.drop 12).take 4).length = 4 := by rw [List.length_take, List.length_drop, ba_len]; omega
  rw [e1, show Oct.get ((s.data.toList.drop 4).take 8) = (Oct.un ((s.data.toList.drop 4).take 8), 0) from by unfold Oct.get; rw [if_pos (by omega)]] at g1
  rw [e2, show Oct.get ((s.data.toList.drop 12).take 4) = (Oct.un ((s.data.toList.drop 12).take 4), 0) from by unfold Oct.get; rw [if_pos (by omega)]] at g2
  have b1 := Oct.un_lt ((s.data.toList.drop 4).take 8)
  have b2 := Oct.un_lt ((s.data.toList.drop 12).take 4)
  rw [l1] at b1
  rw [l2] at b2
  have b1' : Oct.un ((s.data.toList.drop 4).take 8) < 18446744073709551616 := b1
  have b2' : Oct.un ((s.data.toList.drop 12).take 4) < 4294967296 := b2
  have hh := fun u => header_any (Oct.un ((s.data.toList.drop 4).take 8)) (Oct.un ((s.data.toList.drop 12).take 4)) b1' b2' u
  have hms : (ba (Wal.mark (Oct.un ((s.data.toList.drop 4).take 8)) (Oct.un ((s.data.toList.drop 12).take 4))) = s) ↔ Wal.mark (Oct.un ((s.data.toList.drop 4).take 8)) (Oct.un ((s.data.toList.drop 12).take 4)) = s.data.toList := by
    constructor
    · intro h
      have h2 := congrArg (fun x : ByteArray => x.data.toList) h
      simpa only [ba_list] using h2
    · intro h; rw [h, ba_of]
  clear e1 e2 l1 l2 b1 b2
  generalize Oct.un ((s.data.toList.drop 4).take 8) = G at *
  generalize Oct.un ((s.data.toList.drop 12).take 4) = U at *
  have Hr := Lib.hid hr; clear hr
  have G1 := Lib.hid g1; clear g1
  have G2 := Lib.hid g2; clear g2
  have HH := Lib.hid hh; clear hh
  have HM := Lib.hid hms; clear hms
  clear hz
  by_cases hlt : room < U
  · rw [if_pos hlt]
    have hx2 : decide ((room : Int) < (U : Int)) = true := decide_eq_true (by omega)
    go_enter Try.func24, Try.ntmps24
    go_wp2_with fail
    refine (Hr.out _).mono ?_; rintro e w1 ⟨rfl, h1⟩
    have hr1 : w1.heap[w.heap.size]? = some (.cells #[.int .u64 0, .int .i64 0] 55 (0, 0)) := by
      rw [h1.block _ (by simp)]; exact heap_alloc_new _ _
    have k1 : Below w.heap.size w w1 := ((Below.refl w.heap.size w).alloc (Nat.le_refl _) _).trans (h1.mono (by simp))
    have c0 : w1.cell? ⟨w.heap.size, 0, none⟩ = some (.int .u64 0) := by rw [cell_of_row _ _ 0 _ _ _ hr1]; rfl
    have c1 : w1.cell? ⟨w.heap.size, 1, none⟩ = some (.int .i64 0) := by rw [cell_of_row _ _ 1 _ _ _ hr1]; rfl
    have f0 := row_free hr1 0
    have f1 := row_free hr1 1
    clear h1
    have K1 := Lib.hid k1; clear k1
    go_wp2_with fail
    refine (G1.out _).mono ?_; rintro e w2 ⟨rfl, rfl⟩
    go_wp2_with fail
    refine (G2.out _).mono ?_; rintro e w2 ⟨rfl, rfl⟩
    go_wp2_with fail
    (try simp only [Exit.inBlock, Exit.then])
    refine bodyPost_ret (v := .tuple #[markV 0 0, .int .i64 50]) (mark_results _ w.heap.size _ _ _ _ rfl rfl (two_set hr1 _ _)) rfl ?_
    exact ⟨rfl, (K1.out.setCell (p := ⟨w.heap.size, 0, none⟩) (Nat.le_refl _) _).setCell (p := ⟨w.heap.size, 1, none⟩) (Nat.le_refl _) _⟩
  · rw [if_neg hlt]
    have hx2 : decide ((room : Int) < (U : Int)) = false := decide_eq_false (by omega)
    by_cases hm : ba (Wal.mark G U) = s
    · rw [if_pos (HM.out.1 hm)]
      rw [hm] at HH
      clear HM hm
      go_enter Try.func24, Try.ntmps24
      go_wp2_with fail
      refine (Hr.out _).mono ?_; rintro e w1 ⟨rfl, h1⟩
      have hr1 : w1.heap[w.heap.size]? = some (.cells #[.int .u64 0, .int .i64 0] 55 (0, 0)) := by
        rw [h1.block _ (by simp)]; exact heap_alloc_new _ _
      have k1 : Below w.heap.size w w1 := ((Below.refl w.heap.size w).alloc (Nat.le_refl _) _).trans (h1.mono (by simp))
      have hsz : w.heap.size < w1.heap.size := row_lt hr1
      clear h1
      have K1 := Lib.hid k1; clear k1
      go_wp2_with fail
      refine (G1.out _).mono ?_; rintro e w2 ⟨rfl, rfl⟩
      go_wp2_with fail
      refine (G2.out _).mono ?_; rintro e w2 ⟨rfl, rfl⟩
      go_wp2_with fail
      refine (HH.out _).mono ?_; rintro e w3 ⟨rfl, h3⟩
      have hs3 : (w1.alloc (.cells #[.int .u64 (G : Int), .int .i64 (U : Int)] 55)).heap.size = w1.heap.size + 1 := by simp
      have hr3 : w3.heap[w.heap.size]? = some (.cells #[.int .u64 0, .int .i64 0] 55 (0, 0)) := by
        rw [h3.block _ (by omega), Below.heap_alloc _ _ _ hsz]; exact hr1
      have hm3 : w3.heap[w1.heap.size]? = some (.cells #[.int .u64 (G : Int), .int .i64 (U : Int)] 55 (0, 0)) := by
        rw [h3.block _ (by omega)]; exact heap_alloc_new _ _
      have k3 : Below w.heap.size w w3 := (K1.out.alloc (by omega) _).trans (h3.mono (by omega))
      have c0 : w3.cell? ⟨w.heap.size, 0, none⟩ = some (.int .u64 0) := by rw [cell_of_row _ _ 0 _ _ _ hr3]; rfl
      have c1 : w3.cell? ⟨w.heap.size, 1, none⟩ = some (.int .i64 0) := by rw [cell_of_row _ _ 1 _ _ _ hr3]; rfl
      have f0 := row_free hr3 0
      have f1 := row_free hr3 1
      have d0 : w3.cell? ⟨w1.heap.size, 0, none⟩ = some (.int .u64 (G : Int)) := by rw [cell_of_row _ _ 0 _ _ _ hm3]; rfl
      have d1 : w3.cell? ⟨w1.heap.size, 1, none⟩ = some (.int .i64 (U : Int)) := by rw [cell_of_row _ _ 1 _ _ _ hm3]; rfl
      have K3 := Lib.hid k3; clear k3
      clear h3 hs3 hr1
      go_wp2_with fail
      (try simp only [Exit.inBlock, Exit.then])
      refine bodyPost_ret (v := .tuple #[markV G U, .int .i64 0]) (mark_results _ w.heap.size _ _ _ _ rfl rfl (two_set hr3 _ _)) rfl ?_
      exact ⟨rfl, (K3.out.setCell (p := ⟨w.heap.size, 0, none⟩) (Nat.le_refl _) _).setCell (p := ⟨w.heap.size, 1, none⟩) (Nat.le_refl _) _⟩
    · rw [if_neg (fun e => hm (HM.out.2 e))]
      have hnm := ba_ne hm
      generalize ba (Wal.mark G U) = M at *
      clear HM hm
      go_enter Try.func24, Try.ntmps24
      go_wp2_with fail
      refine (Hr.out _).mono ?_; rintro e w1 ⟨rfl, h1⟩
      have hr1 : w1.heap[w.heap.size]? = some (.cells #[.int .u64 0, .int .i64 0] 55 (0, 0)) := by
        rw [h1.block _ (by simp)]; exact heap_alloc_new _ _
      have k1 : Below w.heap.size w w1 := ((Below.refl w.heap.size w).alloc (Nat.le_refl _) _).trans (h1.mono (by simp))
      have hsz : w.heap.size < w1.heap.size := row_lt hr1
      clear h1
      have K1 := Lib.hid k1; clear k1
      go_wp2_with fail
      refine (G1.out _).mono ?_; rintro e w2 ⟨rfl, rfl⟩
      go_wp2_with fail
      refine (G2.out _).mono ?_; rintro e w2 ⟨rfl, rfl⟩
      go_wp2_with fail
      refine (HH.out _).mono ?_; rintro e w3 ⟨rfl, h3⟩
      have hs3 : (w1.alloc (.cells #[.int .u64 (G : Int), .int .i64 (U : Int)] 55)).heap.size = w1.heap.size + 1 := by simp
      have hr3 : w3.heap[w.heap.size]? = some (.cells #[.int .u64 0, .int .i64 0] 55 (0, 0)) := by
        rw [h3.block _ (by omega), Below.heap_alloc _ _ _ hsz]; exact hr1
      have hm3 : w3.heap[w1.heap.size]? = some (.cells #[.int .u64 (G : Int), .int .i64 (U : Int)] 55 (0, 0)) := by
        rw [h3.block _ (by omega)]; exact heap_alloc_new _ _
      have k3 : Below w.heap.size w w3 := (K1.out.alloc (by omega) _).trans (h3.mono (by omega))
      have c0 : w3.cell? ⟨w.heap.size, 0, none⟩ = some (.int .u64 0) := by rw [cell_of_row _ _ 0 _ _ _ hr3]; rfl
      have c1 : w3.cell? ⟨w.heap.size, 1, none⟩ = some (.int .i64 0) := by rw [cell_of_row _ _ 1 _ _ _ hr3]; rfl
      have f0 := row_free hr3 0
      have f1 := row_free hr3 1
      have d0 : w3.cell? ⟨w1.heap.size, 0, none⟩ = some (.int .u64 (G : Int)) := by rw [cell_of_row _ _ 0 _ _ _ hm3]; rfl
      have d1 : w3.cell? ⟨w1.heap.size, 1, none⟩ = some (.int .i64 (U : Int)) := by rw [cell_of_row _ _ 1 _ _ _ hm3]; rfl
      have K3 := Lib.hid k3; clear k3
      clear h3 hs3 hr1
      go_wp2_with fail
      (try simp only [Exit.inBlock, Exit.then])
      refine bodyPost_ret (v := .tuple #[markV 0 0, .int .i64 50]) (mark_results _ w.heap.size _ _ _ _ rfl rfl (two_set hr3 _ _)) rfl ?_
      exact ⟨rfl, (K3.out.setCell (p := ⟨w.heap.size, 0, none⟩) (Nat.le_refl _) _).setCell (p := ⟨w.heap.size, 1, none⟩) (Nat.le_refl _) _⟩
end Go.Proofs.Ytjmpagbjkehebaa
