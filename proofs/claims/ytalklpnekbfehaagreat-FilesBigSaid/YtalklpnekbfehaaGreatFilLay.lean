/-
  Where the log and the areas lie.
-/
import Derived.Test.YtalklpnekbfehaaGreatFilTexts
set_option linter.unusedVariables false
set_option maxRecDepth 100000
namespace Go.Proofs.YtalklpnekbfehaaGreat
open Go.RowKit

namespace Fil
/-- the log's sectors, of n; where the areas begin; how many sectors one has -/
def logN (n : Nat) : Nat := max 2 (n / 8)
def arAt (n : Nat) : Nat := 1 + logN n
def arN (n : Nat) : Nat := (n - arAt n) / 2
end Fil
def laysV (p n : Nat) : Value := .agg #[.pointer (some ⟨p, 0, none⟩), .int .i64 (Fil.arAt n : Int), .int .i64 (Fil.arN n : Int), .pointer (some ⟨p, 0, none⟩), .int .i64 ((Fil.arAt n + Fil.arN n : Nat) : Int), .int .i64 (Fil.arN n : Int)]

/-- the areas' cells, k of them laid -/
def layRow (p n : Nat) : Nat → Array Value
  | 0 => #[.pointer none, .int .i64 0, .int .i64 0, .pointer none, .int .i64 0, .int .i64 0]
  | 1 => #[.pointer (some ⟨p, 0, none⟩), .int .i64 (Fil.arAt n : Int), .int .i64 (Fil.arN n : Int), .pointer none, .int .i64 0, .int .i64 0]
  | _ => #[.pointer (some ⟨p, 0, none⟩), .int .i64 (Fil.arAt n : Int), .int .i64 (Fil.arN n : Int), .pointer (some ⟨p, 0, none⟩), .int .i64 ((Fil.arAt n + Fil.arN n : Nat) : Int), .int .i64 (Fil.arN n : Int)]
theorem below_row {B : Nat} {w w' : World} (h : Below B w w') (b : Nat) (hb : B ≤ b) (cs : Array Value) : Below B w (w'.setRow b cs) :=
  ⟨h.os, h.tape, h.output, by have := h.size; simpa using this, fun k hk => (setRow_other w' b k cs (by omega)).trans (h.block k hk)⟩
theorem lay_results (tmps : Array Value) (b c : Nat) (x y z u0 u1 u2 u3 u4 u5 : Value) (W : World) (h2 : tmps.getD 2 undef = .pointer (some ⟨b, 0, none⟩)) (h3 : tmps.getD 3 undef = .pointer (some ⟨c, 0, none⟩))
    (h : W.heap[b]? = some (.cells #[x, y, z] 68 (0, 0))) (k : W.heap[c]? = some (.cells #[u0, u1, u2, u3, u4, u5] 71 (0, 0))) :
    (results Tryz.f41 tmps).run Tryz.prog W = .ok (.tuple #[.agg #[x, y, z], .agg #[u0, u1, u2, u3, u4, u5]]) W := by
  have l1 := load_row (P := Tryz.prog) W b 68 68 _ (0, 0) _ h Tryz.underlying68 rfl (by kernel_rfl)
  have l2 := load_row (P := Tryz.prog) W c 71 71 _ (0, 0) _ k Tryz.underlying71 rfl (by kernel_rfl)
  have c0 : W.cell? ⟨b, 0, none⟩ = some x := by rw [cell_of_row _ _ 0 _ _ _ h]; rfl
  have c1 : W.cell? ⟨b, 1, none⟩ = some y := by rw [cell_of_row _ _ 1 _ _ _ h]; rfl
  have c2 : W.cell? ⟨b, 2, none⟩ = some z := by rw [cell_of_row _ _ 2 _ _ _ h]; rfl
  have d0 : W.cell? ⟨c, 0, none⟩ = some u0 := by rw [cell_of_row _ _ 0 _ _ _ k]; rfl
  have d1 : W.cell? ⟨c, 1, none⟩ = some u1 := by rw [cell_of_row _ _ 1 _ _ _ k]; rfl
  have d2 : W.cell? ⟨c, 2, none⟩ = some u2 := by rw [cell_of_row _ _ 2 _ _ _ k]; rfl
  have d3 : W.cell? ⟨c, 3, none⟩ = some u3 := by rw [cell_of_row _ _ 3 _ _ _ k]; rfl
  have d4 : W.cell? ⟨c, 4, none⟩ = some u4 := by rw [cell_of_row _ _ 4 _ _ _ k]; rfl
  have d5 : W.cell? ⟨c, 5, none⟩ = some u5 := by rw [cell_of_row _ _ 5 _ _ _ k]; rfl
  have h2' : tmps[2]?.getD undef = .pointer (some ⟨b, 0, none⟩) := by simpa using h2
  have h3' : tmps[3]?.getD undef = .pointer (some ⟨c, 0, none⟩) := by simpa using h3
  simp [results, go_sem, h2', h3', c0, c1, c2, d0, d1, d2, d3, d4, d5]
set_option maxHeartbeats 1000000 in
theorem layout_any {S : Nat → Prop} {p : Nat} {d : Dsk.St} {w : World} (h : DiskAt S p d w) (hn : 8 ≤ d.n) :
    Calls Tryz.prog 41 #[.pointer (some ⟨p, 0, none⟩)] w fun e w' => e = .returned (.tuple #[areaV p 1 (Fil.logN d.n), laysV p d.n]) ∧ Below w.heap.size w w' := by
  have hc := fun u (hb : Below w.heap.size w u) => sectors_any (h.new hb)
  have hN := h.ok.hi
  generalize d.n = n at *
  have Hc := Lib.hid hc; clear hc
  clear h
  go_enter Tryz.func41, Tryz.ntmps41
  go_wp2_with fail
  obtain ⟨w2, hw2⟩ : ∃ w2, w2 = (w.alloc (.cells #[.pointer none, .int .i64 0, .int .i64 0] 68)).alloc (.cells #[.pointer none, .int .i64 0, .int .i64 0, .pointer none, .int .i64 0, .int .i64 0] 71) := ⟨_, rfl⟩
  have hb2 : Below w.heap.size w w2 := by rw [hw2]; exact ((Below.refl _ w).alloc (Nat.le_refl _) _).alloc (by simp) _
  have hr0 : w2.heap[w.heap.size]? = some (.cells #[.pointer none, .int .i64 0, .int .i64 0] 68 (0, 0)) := by rw [hw2]; exact row_alloc (heap_alloc_new _ _) _
  have hr1 : w2.heap[w.heap.size + 1]? = some (.cells #[.pointer none, .int .i64 0, .int .i64 0, .pointer none, .int .i64 0, .int .i64 0] 71 (0, 0)) := by
    rw [hw2]
    have := heap_alloc_new (w.alloc (.cells #[.pointer none, .int .i64 0, .int .i64 0] 68)) (.cells #[.pointer none, .int .i64 0, .int .i64 0, .pointer none, .int .i64 0, .int .i64 0] 71)
    rwa [World.size_alloc] at this
  have hs2 : w2.heap.size = w.heap.size + 2 := by rw [hw2]; simp
  rw [← hw2]
  clear hw2
  refine (Hc.out w2 hb2).mono ?_; rintro e w3 ⟨rfl, rfl⟩
  go_wp2_with fail
  have hL : max (2 : Int) ((n : Int) / 8) = (Fil.logN n : Int) := by unfold Fil.logN; omega
  have hA : (1 : Int) + (Fil.logN n : Int) = (Fil.arAt n : Int) := by unfold Fil.arAt; omega
  have hAn : Fil.arAt n ≤ n := by unfold Fil.arAt Fil.logN; omega
  have hN2 : ((n : Int) - (Fil.arAt n : Int)) / 2 = (Fil.arN n : Int) := by unfold Fil.arN; omega
  have hNt : Int.tdiv ((n : Int) - (Fil.arAt n : Int)) 2 = (Fil.arN n : Int) := by rw [Int.tdiv_eq_ediv_of_nonneg (by omega)]; exact hN2
  have hAN : Fil.arAt n + 2 * Fil.arN n ≤ n := by unfold Fil.arN; omega
  have hap : areaV p 1 (Fil.logN n) = .agg #[.pointer (some ⟨p, 0, none⟩), .int .i64 1, .int .i64 (Fil.logN n : Int)] := rfl
  rw [hL, hA]
  obtain ⟨w4, hw4⟩ : ∃ w4, w4 = (w2.alloc (.cells #[.pointer (some ⟨p, 0, none⟩), .int .i64 1, .int .i64 (Fil.logN n : Int)] 68)).alloc (.cells #[.pointer none, .int .i64 0, .int .i64 0, .pointer none, .int .i64 0, .int .i64 0] 71) := ⟨_, rfl⟩
  have hb4 : Below w.heap.size w w4 := by rw [hw4]; exact (hb2.alloc (by omega) _).alloc (by simp; omega) _
  have q0 : w4.heap[w.heap.size]? = some (.cells #[.pointer none, .int .i64 0, .int .i64 0] 68 (0, 0)) := by rw [hw4]; exact row_alloc (row_alloc hr0 _) _
  have q1 : w4.heap[w.heap.size + 1]? = some (.cells #[.pointer none, .int .i64 0, .int .i64 0, .pointer none, .int .i64 0, .int .i64 0] 71 (0, 0)) := by rw [hw4]; exact row_alloc (row_alloc hr1 _) _
  have q2 : w4.heap[w.heap.size + 2]? = some (.cells #[.pointer (some ⟨p, 0, none⟩), .int .i64 1, .int .i64 (Fil.logN n : Int)] 68 (0, 0)) := by
    rw [hw4, ← hs2]; exact row_alloc (heap_alloc_new _ _) _
  have q3 : w4.heap[w.heap.size + 2 + 1]? = some (.cells #[.pointer none, .int .i64 0, .int .i64 0, .pointer none, .int .i64 0, .int .i64 0] 71 (0, 0)) := by
    have := heap_alloc_new (w2.alloc (.cells #[.pointer (some ⟨p, 0, none⟩), .int .i64 1, .int .i64 (Fil.logN n : Int)] 68)) (.cells #[.pointer none, .int .i64 0, .int .i64 0, .pointer none, .int .i64 0, .int .i64 0] 71)
    rw [World.size_alloc, hs2] at this
    rw [hw4]; exact this
  rw [← hw4]
  clear hw4 hr0 hr1 hs2 hb2 hL hA
  refine (Hc.out w4 hb4).mono ?_; rintro e w5 ⟨rfl, rfl⟩
  have hz3 := fun (u : World) => w4
  clear hz3
  go_wp2_with fail
  go_loopw [25] (fun i wr => ∃ k : Nat, k ≤ 2 ∧ i = .int .i64 (k : Int) ∧ Below w.heap.size w wr ∧ wr.heap[w.heap.size]? = some (.cells #[.pointer none, .int .i64 0, .int .i64 0] 68 (0, 0)) ∧ wr.heap[w.heap.size + 1]? = some (.cells #[.pointer none, .int .i64 0, .int .i64 0, .pointer none, .int .i64 0, .int .i64 0] 71 (0, 0)) ∧
    wr.heap[w.heap.size + 2]? = some (.cells #[.pointer (some ⟨p, 0, none⟩), .int .i64 1, .int .i64 (Fil.logN n : Int)] 68 (0, 0)) ∧ wr.heap[w.heap.size + 2 + 1]? = some (.cells (layRow p n k) 71 (0, 0))) (fun i _ => 2 - (intOf i).toNat)
  case atStart => exact ⟨0, by omega, rfl, hb4, q0, q1, q2, q3⟩
  case round =>
    obtain ⟨k, hk, rfl, hb, r0, r1, r2, r3⟩ := hrel
    clear hb4 q0 q1 q2 q3
    have Hb := Lib.hid hb; clear hb
    have Hr0 := Lib.hid r0; clear r0
    have Hr1 := Lib.hid r1; clear r1
    have Hr2 := Lib.hid r2; clear r2
    rcases (show k = 0 ∨ k = 1 ∨ k = 2 by omega) with rfl | rfl | rfl
    · have g0 := row_free r3 0
      have g1 := row_free r3 1
      have g2 := row_free r3 2
      have c0 : wr.cell? ⟨w.heap.size + 2 + 1, 0, none⟩ = some (.pointer none) := by rw [cell_of_row _ _ 0 _ _ _ r3]; rfl
      have c1 : wr.cell? ⟨w.heap.size + 2 + 1, 1, none⟩ = some (.int .i64 0) := by rw [cell_of_row _ _ 1 _ _ _ r3]; rfl
      have c2 : wr.cell? ⟨w.heap.size + 2 + 1, 2, none⟩ = some (.int .i64 0) := by rw [cell_of_row _ _ 2 _ _ _ r3]; rfl
      have Hr3 := Lib.hid r3; clear r3
      go_wp2_with fail
      go_roundw
      case rel =>
        refine ⟨1, by omega, rfl, ((Hb.out.setCell (by simp only; omega) _).setCell (by simp only; omega) _).setCell (by simp only; omega) _, ?_, ?_, ?_, ?_⟩
        · rw [heap_setCell_other _ _ _ _ (by simp only; omega), heap_setCell_other _ _ _ _ (by simp only; omega), heap_setCell_other _ _ _ _ (by simp only; omega)]; exact Hr0.out
        · rw [heap_setCell_other _ _ _ _ (by simp only; omega), heap_setCell_other _ _ _ _ (by simp only; omega), heap_setCell_other _ _ _ _ (by simp only; omega)]; exact Hr1.out
        · rw [heap_setCell_other _ _ _ _ (by simp only; omega), heap_setCell_other _ _ _ _ (by simp only; omega), heap_setCell_other _ _ _ _ (by simp only; omega)]; exact Hr2.out
        · rw [heap_setCell_same _ _ _ _ _ _ (by rw [heap_setCell_same _ _ _ _ _ _ (by rw [heap_setCell_same _ _ _ _ _ _ Hr3.out])])]
          rfl
      case measure => simp [intOf]
    · have g0 := row_free r3 3
      have g1 := row_free r3 4
      have g2 := row_free r3 5
      have c0 : wr.cell? ⟨w.heap.size + 2 + 1, 3, none⟩ = some (.pointer none) := by rw [cell_of_row _ _ 3 _ _ _ r3]; rfl
      have c1 : wr.cell? ⟨w.heap.size + 2 + 1, 4, none⟩ = some (.int .i64 0) := by rw [cell_of_row _ _ 4 _ _ _ r3]; rfl
      have c2 : wr.cell? ⟨w.heap.size + 2 + 1, 5, none⟩ = some (.int .i64 0) := by rw [cell_of_row _ _ 5 _ _ _ r3]; rfl
      have Hr3 := Lib.hid r3; clear r3
      go_wp2_with fail
      go_roundw
      case rel =>
        refine ⟨2, by omega, rfl, ((Hb.out.setCell (by simp only; omega) _).setCell (by simp only; omega) _).setCell (by simp only; omega) _, ?_, ?_, ?_, ?_⟩
        · rw [heap_setCell_other _ _ _ _ (by simp only; omega), heap_setCell_other _ _ _ _ (by simp only; omega), heap_setCell_other _ _ _ _ (by simp only; omega)]; exact Hr0.out
        · rw [heap_setCell_other _ _ _ _ (by simp only; omega), heap_setCell_other _ _ _ _ (by simp only; omega), heap_setCell_other _ _ _ _ (by simp only; omega)]; exact Hr1.out
        · rw [heap_setCell_other _ _ _ _ (by simp only; omega), heap_setCell_other _ _ _ _ (by simp only; omega), heap_setCell_other _ _ _ _ (by simp only; omega)]; exact Hr2.out
        · rw [heap_setCell_same _ _ _ _ _ _ (by rw [heap_setCell_same _ _ _ _ _ _ (by rw [heap_setCell_same _ _ _ _ _ _ Hr3.out])])]
          rfl
      case measure => simp [intOf]
    · have Hr3 := Lib.hid r3; clear r3
      go_wp2_with fail
      have hld1 := fun (u : World) (h : u.heap[w.heap.size + 2]? = some (.cells #[.pointer (some ⟨p, 0, none⟩), .int .i64 1, .int .i64 (Fil.logN n : Int)] 68 (0, 0))) => load_row (P := Tryz.prog) u (w.heap.size + 2) 68 68 _ (0, 0) _ h Tryz.underlying68 rfl (by kernel_rfl)
      have hld2 := fun (u : World) (h : u.heap[w.heap.size + 2 + 1]? = some (.cells (layRow p n 2) 71 (0, 0))) => load_row (P := Tryz.prog) u (w.heap.size + 2 + 1) 71 71 _ (0, 0) _ h Tryz.underlying71 rfl (by kernel_rfl)
      have hst1 := store_row (P := Tryz.prog) wr.drew w.heap.size 68 68 _ #[.pointer (some ⟨p, 0, none⟩), .int .i64 1, .int .i64 (Fil.logN n : Int)] Hr0.out (by kernel_rfl) rfl (by rw [Array.all_eq_true_iff_forall_mem]; intro u hu; simp at hu; rcases hu with rfl | rfl | rfl <;> rfl)
      have s1 : (wr.drew.setRow w.heap.size #[.pointer (some ⟨p, 0, none⟩), .int .i64 1, .int .i64 (Fil.logN n : Int)]).heap[w.heap.size]? = some (.cells #[.pointer (some ⟨p, 0, none⟩), .int .i64 1, .int .i64 (Fil.logN n : Int)] 68 (0, 0)) := setRow_heap wr.drew w.heap.size _ _ _ _ Hr0.out
      have s2 : (wr.drew.setRow w.heap.size #[.pointer (some ⟨p, 0, none⟩), .int .i64 1, .int .i64 (Fil.logN n : Int)]).heap[w.heap.size + 1]? = some (.cells (layRow p n 0) 71 (0, 0)) := (setRow_other wr.drew w.heap.size _ _ (by omega)).trans Hr1.out
      have s3 : (wr.drew.setRow w.heap.size #[.pointer (some ⟨p, 0, none⟩), .int .i64 1, .int .i64 (Fil.logN n : Int)]).heap[w.heap.size + 2]? = some (.cells #[.pointer (some ⟨p, 0, none⟩), .int .i64 1, .int .i64 (Fil.logN n : Int)] 68 (0, 0)) := (setRow_other wr.drew w.heap.size _ _ (by omega)).trans Hr2.out
      have s4 : (wr.drew.setRow w.heap.size #[.pointer (some ⟨p, 0, none⟩), .int .i64 1, .int .i64 (Fil.logN n : Int)]).heap[w.heap.size + 2 + 1]? = some (.cells (layRow p n 2) 71 (0, 0)) := (setRow_other wr.drew w.heap.size _ _ (by omega)).trans Hr3.out
      have hbA : Below w.heap.size w (wr.drew.setRow w.heap.size #[.pointer (some ⟨p, 0, none⟩), .int .i64 1, .int .i64 (Fil.logN n : Int)]) := below_row (Hb.out.drew) _ (Nat.le_refl _) _
      generalize wr.drew.setRow w.heap.size #[.pointer (some ⟨p, 0, none⟩), .int .i64 1, .int .i64 (Fil.logN n : Int)] = wA at *
      have hst2 := store_row (P := Tryz.prog) wA (w.heap.size + 1) 71 71 _ (layRow p n 2) s2 (by kernel_rfl) rfl (by rw [Array.all_eq_true_iff_forall_mem]; intro u hu; simp [layRow] at hu; rcases hu with rfl | rfl | rfl | rfl | rfl | rfl <;> rfl)
      have t1 : (wA.setRow (w.heap.size + 1) (layRow p n 2)).heap[w.heap.size]? = some (.cells #[.pointer (some ⟨p, 0, none⟩), .int .i64 1, .int .i64 (Fil.logN n : Int)] 68 (0, 0)) := (setRow_other wA _ _ _ (by omega)).trans s1
      have t2 : (wA.setRow (w.heap.size + 1) (layRow p n 2)).heap[w.heap.size + 1]? = some (.cells (layRow p n 2) 71 (0, 0)) := setRow_heap wA _ _ _ _ _ s2
      have t3 : (wA.setRow (w.heap.size + 1) (layRow p n 2)).heap[w.heap.size + 2]? = some (.cells #[.pointer (some ⟨p, 0, none⟩), .int .i64 1, .int .i64 (Fil.logN n : Int)] 68 (0, 0)) := (setRow_other wA _ _ _ (by omega)).trans s3
      have t4 : (wA.setRow (w.heap.size + 1) (layRow p n 2)).heap[w.heap.size + 2 + 1]? = some (.cells (layRow p n 2) 71 (0, 0)) := (setRow_other wA _ _ _ (by omega)).trans s4
      have hbB : Below w.heap.size w (wA.setRow (w.heap.size + 1) (layRow p n 2)) := below_row hbA _ (by omega) _
      generalize wA.setRow (w.heap.size + 1) (layRow p n 2) = wB at *
      refine wp_region_phases [([0, 1], [2, 3])] (by kernel_rfl) (by kernel_rfl) (fun z => z.heap[w.heap.size + 2]? = some (.cells #[.pointer (some ⟨p, 0, none⟩), .int .i64 1, .int .i64 (Fil.logN n : Int)] 68 (0, 0)) ∧ z.heap[w.heap.size + 2 + 1]? = some (.cells (layRow p n 2) 71 (0, 0))) ⟨Hr2.out, Hr3.out⟩ ?_
      simp only [wpPhases, pick, List.filterMap_cons, List.filterMap_nil, List.getElem?_toArray, List.getElem?_cons_zero, List.getElem?_cons_succ]
      refine take_load 68 (.tmp 4) ⟨w.heap.size + 2, 0, none⟩ (.agg #[.pointer (some ⟨p, 0, none⟩), .int .i64 1, .int .i64 (Fil.logN n : Int)]) rfl rfl rfl (fun u hu => hld1 u hu.1) ?_
      simp only [Act.put, List.setIfInBounds_toArray, List.set_cons_zero, List.set_cons_succ]
      refine take_load 71 (.tmp 5) ⟨w.heap.size + 2 + 1, 0, none⟩ (.agg (layRow p n 2)) rfl rfl rfl (fun u hu => hld2 u hu.2) ?_
      simp only [Act.put, List.setIfInBounds_toArray, List.set_cons_zero, List.set_cons_succ]
      refine take_done ?_
      refine midk_store 68 (.tmp 2) (.tmp 40) _ _ rfl rfl rfl rfl hst1 ⟨s3, s4⟩ ?_
      simp only [Act.put]
      refine midk_store 71 (.tmp 3) (.tmp 41) _ _ rfl rfl rfl rfl hst2 ⟨t3, t4⟩ ?_
      simp only [Act.put]
      refine midk_end ?_
      have HbB := Lib.hid hbB; clear hbB
      clear hst1 hst2 s1 s2 s3 s4 t3 t4 hbA hld1 hld2
      go_wp2_with fail
      (try simp only [Exit.inBlock, Exit.then])
      refine bodyPost_ret (v := .tuple #[areaV p 1 (Fil.logN n), laysV p n]) (lay_results _ w.heap.size (w.heap.size + 1) _ _ _ _ _ _ _ _ _ _ rfl rfl t1 t2) rfl ?_
      exact ⟨rfl, HbB.out⟩
end Go.Proofs.YtalklpnekbfehaaGreat
