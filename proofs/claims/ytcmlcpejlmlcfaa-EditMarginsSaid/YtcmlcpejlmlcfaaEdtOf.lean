/-
  What edit.Of and edit.Back return.
-/
import Derived.Test.YtcmlcpejlmlcfaaEdtApply
import Derived.Test.YtcmlcpejlmlcfaaGoBytes
import Derived.Laws.ResultCell
set_option linter.unusedVariables false
set_option maxRecDepth 100000
namespace Go.Proofs.Ytcmlcpejlmlcfaa
open Go.RowKit

theorem edit_row {g : Nat} {w : World} {x y z : Value} (i k : Int) (p : ByteArray) (h : w.heap[g]? = some (.cells #[x, y, z] 23 (0, 0))) : (((w.setCell ⟨g, 0, none⟩ (.int .i64 i)).setCell ⟨g, 1, none⟩ (.int .i64 k)).setCell ⟨g, 2, none⟩ (.string p)).heap[g]? = some (.cells #[.int .i64 i, .int .i64 k, .string p] 23 (0, 0)) := by
  have h1 := heap_setCell_same _ g 0 _ _ (.int .i64 i) h
  have h2 := heap_setCell_same _ g 1 _ _ (.int .i64 k) h1
  have h3 := heap_setCell_same _ g 2 _ _ (.string p) h2
  exact h3

set_option maxHeartbeats 2000000 in
theorem of_any (a b : ByteArray) (ha : a.size ≤ 1099511627776) (hb : b.size ≤ 1099511627776) (w : World) :
    Calls Try.prog 10 #[.string a, .string b] w fun x w' => x = .returned (ofB a b).v ∧ Below w.heap.size w w' := by
  have hpl := Edt.pre_le (0 : UInt8) a.data.toList b.data.toList
  have hsl := Edt.suf_le (0 : UInt8) a.data.toList b.data.toList _ hpl
  have hof : ofB a b = ⟨(Edt.pre 0 a.data.toList b.data.toList : Nat), ((a.size - Edt.suf 0 a.data.toList b.data.toList (Edt.pre 0 a.data.toList b.data.toList) - Edt.pre 0 a.data.toList b.data.toList : Nat) : Int), b.extract (Edt.pre 0 a.data.toList b.data.toList) (b.size - Edt.suf 0 a.data.toList b.data.toList (Edt.pre 0 a.data.toList b.data.toList))⟩ := rfl
  rw [hof]
  clear hof
  have hz0 : Below w.heap.size w (w.alloc (.cells #[.int .i64 0, .int .i64 0, .string ⟨#[]⟩] 23)) := box_below w _
  have hr0 : (w.alloc (.cells #[.int .i64 0, .int .i64 0, .string ⟨#[]⟩] 23)).heap[w.heap.size]? = some (.cells #[.int .i64 0, .int .i64 0, .string ⟨#[]⟩] 23 (0, 0)) := heap_alloc_new _ _
  obtain ⟨c1, w1, hc1, hr1, hb1, hs1⟩ := Byt.conv a (w.alloc (.cells #[.int .i64 0, .int .i64 0, .string ⟨#[]⟩] 23))
  obtain ⟨c2, w2, hc2, hr2, hb2, hs2⟩ := Byt.conv b w1
  rw [hs1] at hs2 hc2 hr2
  simp only [World.size_alloc] at hs1 hs2 hc1 hc2 hr1 hr2 hb1
  have cd := differB_any (hr1.new hb2) hr2 (by rw [ba_len]; exact ha) (by rw [ba_len]; exact hb)
  have hrow2 : w2.heap[w.heap.size]? = some (.cells #[.int .i64 0, .int .i64 0, .string ⟨#[]⟩] 23 (0, 0)) := by
    rw [hb2.block _ (by omega), hb1.block _ (by omega)]; exact hr0
  have hbe2 : Below w.heap.size w w2 := (hz0.trans (hb1.mono (by omega))).trans (hb2.mono (by omega))
  rw [ba_len, ba_len] at cd hpl hsl
  generalize Edt.pre 0 a.data.toList b.data.toList = P at *
  generalize Edt.suf 0 a.data.toList b.data.toList P = Q at *
  have hsp := fun u => text_part b P (b.size - Q) (by omega) (by omega) u
  have hxs : (b.extract P (b.size - Q)).size ≤ 281474976710656 := by rw [ByteArray.size_extract]; omega
  have cc := fun u => clone_any (b.extract P (b.size - Q)) u hxs
  have hw1 : IntKind.i64.wrap (((a.size - Q : Nat) : Int) - (P : Int)) = ((a.size - Q - P : Nat) : Int) := by simp only [IntKind.wrap_i64]; omega
  have Hsp := Lib.hid hsp; clear hsp
  have Cc := Lib.hid cc; clear cc
  have Cd := Lib.hid cd; clear cd
  generalize b.size - Q = EB at *
  generalize b.extract P EB = X at *
  generalize a.size - Q - P = CU at *
  generalize a.size - Q = EA at *
  clear hpl hsl ha hb
  have Hrow2 := Lib.hid hrow2; clear hrow2
  have Hbe2 := Lib.hid hbe2; clear hbe2 hr1 hr2 hb1 hb2 hz0 hr0 hs1 hs2
  go_enter Try.func10, Try.ntmps10
  go_wp2_with fail
  refine Cd.out.mono ?_; rintro e w3 ⟨rfl, h3⟩
  have hrow3 := Below.row h3 Hrow2.out
  have hbe3 := Hbe2.out.trans (h3.mono Hbe2.out.size)
  have Hrow3 := Lib.hid hrow3; clear hrow3
  have Hbe3 := Lib.hid hbe3; clear hbe3 h3
  have hsp := Hsp.out
  clear Cd Hrow2 Hbe2 hc1 hc2
  go_wp2_with fail
  refine (Cc.out _).mono ?_; rintro e w4 ⟨rfl, h4⟩
  have hrow4 := Below.row h4 Hrow3.out
  have hbe4 := Hbe3.out.trans (h4.mono Hbe3.out.size)
  have e0 : w4.cell? ⟨w.heap.size, 0, none⟩ = some (.int .i64 0) := cell_of_row _ _ 0 _ _ _ hrow4
  have e1 : w4.cell? ⟨w.heap.size, 1, none⟩ = some (.int .i64 0) := cell_of_row _ _ 1 _ _ _ hrow4
  have e2 : w4.cell? ⟨w.heap.size, 2, none⟩ = some (.string ⟨#[]⟩) := cell_of_row _ _ 2 _ _ _ hrow4
  have f0 := row_free hrow4 0
  have f1 := row_free hrow4 1
  have f2 := row_free hrow4 2
  have hl4 : w.heap.size < w4.heap.size := row_lt hrow4
  have Hrow4 := Lib.hid hrow4; clear hrow4
  have Hbe4 := Lib.hid hbe4; clear hbe4 h4
  go_wp2_with fail
  refine bodyPost_ret (v := .agg #[.int .i64 (P : Int), .int .i64 (CU : Int), .string X]) (results_cell_row (P := Try.prog) rfl _ _ w.heap.size _ #[.int .i64 (P : Int), .int .i64 (CU : Int), .string X] (0, 0) _ rfl (edit_row (P : Int) (CU : Int) X Hrow4.out) Try.underlying23 rfl (by kernel_rfl)) rfl ?_
  exact ⟨rfl, ((Hbe4.out.setCell (Nat.le_refl _) _).setCell (Nat.le_refl _) _).setCell (Nat.le_refl _) _⟩
end Go.Proofs.Ytcmlcpejlmlcfaa
