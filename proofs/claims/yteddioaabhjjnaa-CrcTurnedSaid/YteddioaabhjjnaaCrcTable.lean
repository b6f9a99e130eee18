/-
  What shiftTable returns: the 256 numbers of the table.
-/
import Derived.Test.YteddioaabhjjnaaCrcShifted
import Derived.Deep.WholeRow
import Derived.Deep.RegionHeld3
import Derived.StillTailTactics
import Derived.Outline
set_option linter.unusedVariables false
namespace Go.Proofs.Yteddioaabhjjnaa
open Go.RowKit

theorem zero256 : ∀ w, (zeroValue 41).run Try.prog w = .ok (.agg (u32s (nils 256))) w := fun _ => by kernel_rfl

set_option maxRecDepth 100000 in
set_option maxHeartbeats 1000000 in
theorem table_any (w : World) :
    Calls Try.prog 19 #[] w fun e w' => e = .returned (.agg (u32s (Crc.tab 256))) ∧ Below w.heap.size w w' := by
  have hz := zero256
  go_enter Try.func19, Try.ntmps19
  go_wp2
  go_loopw [4] (fun i wr => ∃ k : Nat, k ≤ 256 ∧ i = .int .i64 k ∧ wr.heap[w.heap.size + 1]? = some (.cells (u32s (upto (Crc.tab k))) 41 (0, 0)) ∧ (∃ cs : Array Value, cs.size = 256 ∧ wr.heap[w.heap.size]? = some (.cells cs 41 (0, 0))) ∧ Below w.heap.size w wr) (fun i _ => 256 - (intOf i).toNat)
  case atStart => exact ⟨0, by omega, rfl, heap_alloc2_new _ _ _, ⟨_, by rw [u32s_size, nils_length], heap_alloc2_old _ _ _⟩, ((Below.refl _ w).alloc (Nat.le_refl _) _).alloc (by simp) _⟩
  case round =>
    obtain ⟨k, hk, rfl, hrow, hres, hbel⟩ := hrel
    clear hz
    have Hres := Lib.hid hres; clear hres
    by_cases hlt : k < 256
    · have hlv := lowb_val k hlt
      have hneg : IntKind.i64.wrap (-(k : Int)) = -(k : Int) := IntWalk.i64_in _ (by omega)
      have hll := lowb_le k hlt
      have hln := lowb_lt k hlt
      have hul := upto_length (Crc.tab k) (by rw [Crc.tab_length]; omega)
      have hset := upto_set (Crc.tab k) (Crc.it 8 k) (by rw [Crc.tab_length]; omega)
      rw [Crc.tab_length, ← Crc.tab_succ] at hset
      have hf := row_free hrow k
      have ho := row_u32 hrow k (by omega)
      have i0 : (0 : Int) ≤ (k : Int) := by omega
      have i1 : (k : Int) < 256 := by omega
      have tk : ((k : Int)).toNat = k := by omega
      have hs2 := row_set32 hrow k (Crc.it 8 k)
      rw [hset] at hs2
      generalize (upto (Crc.tab k)).getD k 0 = old at *
      have Hs2 := Lib.hid hs2; clear hs2
      have Hset := Lib.hid hset; clear hset
      have Hbel := Lib.hid hbel; clear hbel
      have Hln := Lib.hid hln; clear hln
      have hsp := Crc.it_split k (lowb k)
      have Hsp := Lib.hid hsp; clear hsp
      by_cases he : lowb k = k
      · rw [he] at hlv
        have hsh := fun u => shifted_any k (by omega) u
        have Hsh := Lib.hid hsh; clear hsh
        have Hul := Lib.hid hul; clear hul
        have Hrow := Lib.hid hrow; clear hrow
        clear hll he
        go_wp2_with fail
        refine (Hsh.out _).mono ?_; rintro e w1 ⟨rfl, rfl⟩
        go_wp2_with fail
        go_roundw
        case rel =>
          refine ⟨k + 1, by omega, by go_num, Hs2.out, ?_, Hbel.out.setCell (p := ⟨w.heap.size + 1, k, none⟩) (by simp) _⟩
          obtain ⟨cs, hs, h⟩ := Hres.out
          exact ⟨cs, hs, (heap_setCell_other _ _ _ _ (by simp)).trans h⟩
        case measure => simp [intOf]; omega
      · obtain ⟨l1, l2⟩ := Hln.out he
        clear Hln
        have c1 := row_u32 hrow (lowb k) (by omega)
        have c2 := row_u32 hrow (k ^^^ lowb k) (by omega)
        rw [upto_get _ _ (by rw [Crc.tab_length]; omega), Crc.tab_get _ _ l1] at c1
        rw [upto_get _ _ (by rw [Crc.tab_length]; omega), Crc.tab_get _ _ l2] at c2
        have hx := i64_xor k (lowb k) (by omega) (by omega)
        have e1 := Crc.it_lt 8 (lowb k) (by omega)
        have e2 := Crc.it_lt 8 (k ^^^ lowb k) (by omega)
        have hsp := Hsp.out
        have hv := u32_xor _ _ e1 e2
        rw [hsp] at hv
        generalize k ^^^ lowb k = m at *
        generalize lowb k = l at *
        have hd : decide (k = l) = false := decide_eq_false (by omega)
        have hd2 : decide ((k : Int) = (l : Int)) = false := decide_eq_false (by omega)
        have hd3 : ((k : Int) == (l : Int)) = false := beq_eq_false_iff_ne.2 (by omega)
        have j0 : (0 : Int) ≤ (l : Int) := by omega
        have j1 : (l : Int) < 256 := by omega
        have m0 : (0 : Int) ≤ (m : Int) := by omega
        have m1 : (m : Int) < 256 := by omega
        have tl : ((l : Int)).toNat = l := by omega
        have tm : ((m : Int)).toNat = m := by omega
        clear Hsp hsp
        generalize Crc.it 8 l = x at *
        generalize Crc.it 8 m = y at *
        have Hv := Lib.hid hv; clear hv
        have Hul := Lib.hid hul; clear hul
        have Hrow := Lib.hid hrow; clear hrow
        have L1 := Lib.hid l1; clear l1
        have L2 := Lib.hid l2; clear l2
        clear hll e1 e2
        go_wp2
        have hf2 : wr.drew.frozen? ⟨w.heap.size + 1, k, none⟩ = false := hf
        have ho2 : wr.drew.cell? ⟨w.heap.size + 1, k, none⟩ = some (.int .u32 (old : Nat)) := ho
        have hs3 : (wr.drew.setCell ⟨w.heap.size + 1, k, none⟩ (.int .u32 ((Crc.it 8 k : Nat) : Int))).heap[w.heap.size + 1]? = some (.cells (u32s (upto (Crc.tab (k + 1)))) 41 (0, 0)) := Hs2.out
        have hbel2 : Below w.heap.size w wr.drew := Hbel.out.drew
        have hres2 : ∃ cs : Array Value, cs.size = 256 ∧ wr.drew.heap[w.heap.size]? = some (.cells cs 41 (0, 0)) := Hres.out
        have Hs3 := Lib.hid hs3; clear hs3
        have Hbel2 := Lib.hid hbel2; clear hbel2
        have Hres2 := Lib.hid hres2; clear hres2
        clear hf ho Hrow Hbel Hs2 Hres
        go_still_tail 11, (by kernel_rfl)
        change wpList _ _ _ _ _ wr.drew
        clear c1 c2
        generalize wr.drew = w2 at *
        rw [Hv.out]
        go_wp2
        go_roundw
        case rel =>
          refine ⟨k + 1, by omega, by go_num, Hs3.out, ?_, Hbel2.out.setCell (p := ⟨w.heap.size + 1, k, none⟩) (by simp) _⟩
          obtain ⟨cs, hs, h⟩ := Hres2.out
          exact ⟨cs, hs, (heap_setCell_other _ _ _ _ (by simp)).trans h⟩
        case measure => simp [intOf]; omega
    · obtain rfl : k = 256 := by omega
      have hlen := Crc.tab_length 256
      rw [show ((256 : Nat) : Int) = 256 from rfl]
      generalize hws : Crc.tab 256 = ws at hlen hrow
      have Hws := Lib.hid hws; clear hws
      obtain ⟨cs, hs, hr⟩ := Hres.out
      rw [upto_full ws hlen] at hrow
      have hi64 : (Try.prog.info? 41).map (·.size) = some 256 := by kernel_rfl
      have hsz : (Try.prog.info? 41).map (·.size) = some (u32s ws).size := by rw [u32s_size, hlen]; exact hi64
      have hss : cs.size = (u32s ws).size := by rw [u32s_size, hlen]; exact hs
      have Hrow := Lib.hid hrow; clear hrow
      have Hbel := Lib.hid hbel; clear hbel
      have Hr := Lib.hid hr; clear hr
      have Hsz := Lib.hid hsz; clear hsz
      have Hss := Lib.hid hss; clear hss
      clear hs hi64 hk hlt hlen
      go_wp2_with (first | (with_reducible refine wpList_load_row rfl 41 (.tmp 1) rfl (w.heap.size + 1) rfl _ (u32s ws) _ _ Hrow.out Try.underlying41 rfl Hsz.out ?_) | (with_reducible refine wpList_store_whole rfl 41 (.tmp 0) (.tmp 31) rfl w.heap.size (u32s ws) rfl rfl _ cs Hr.out Hsz.out Hss.out (u32s_one ws) ?_))
      refine bodyPost_ret (v := .agg (u32s ws)) (results_cell_row (P := Try.prog) rfl _ _ w.heap.size _ (u32s ws) (0, 0) _ rfl (setRow_heap _ _ cs _ _ _ Hr.out) Try.underlying41 rfl Hsz.out) rfl ?_
      exact ⟨by rw [Hws.out], below_setRow Hbel.out (Nat.le_refl _) _⟩
end Go.Proofs.Yteddioaabhjjnaa
