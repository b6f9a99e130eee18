/-
  Files are written into an area; the header is written.
-/
import Derived.Test.YticcipgdjpoimaaGreatFilEnc
import Derived.Test.YticcipgdjpoimaaGreatFilMark2
import Derived.Test.YticcipgdjpoimaaGreatWalA
import Derived.Test.YticcipgdjpoimaaGreatWalB
import Derived.Test.YticcipgdjpoimaaGreatRefAll
set_option linter.unusedVariables false
set_option maxRecDepth 100000
namespace Go.Proofs.YticcipgdjpoimaaGreat
open Go.RowKit

/-- a place, and an area: a structure's cells lie flat -/
def areaV (p f n : Nat) : Value := .agg #[.pointer (some ⟨p, 0, none⟩), .int .i64 (f : Int), .int .i64 (n : Int)]
namespace Fil
/-- what an area has from its first sector on -/
def atext (r : Row) : Txt := Wal.fill (Oct.le 4 (enc r).length ++ enc r)
theorem atext_length (r : Row) : (atext r).length = Wal.whole (4 + used r) * 64 := by
  rw [atext, Wal.fill_length, List.length_append, Oct.le_length, enc_length]
end Fil

theorem capacity_any (p f n : Nat) (hn : n ≤ 16384) (w : World) :
    Calls Tryz.prog 39 #[areaV p f n] w fun e w' => e = .returned (.int .i64 ((n : Int) * 64 - 4)) ∧ Below w.heap.size w w' := by
  have h1 : wrap64 ((n : Int) * 64) = (n : Int) * 64 := IntWalk.wrap64_in _ ⟨by omega, by omega⟩
  have h2 : wrap64 ((n : Int) * 64 - 4) = (n : Int) * 64 - 4 := IntWalk.wrap64_in _ ⟨by omega, by omega⟩
  have hb : Below w.heap.size w (w.alloc (.cells #[.pointer (some ⟨p, 0, none⟩), .int .i64 (f : Int), .int .i64 (n : Int)] 70)) := (Below.refl _ w).alloc (Nat.le_refl _) _
  unfold areaV
  go_enter Tryz.func39, Tryz.ntmps39
  go_wp2
  go_ret
  exact ⟨rfl, hb⟩

section
variable {S : Nat → Prop} {p : Nat} {d : Dsk.St} {w : World}
theorem awrite_any (h : DiskAt S p d w) {b nn : Nat} {r : Fil.Row} (hm : ContAt b nn r w) (hs : Fil.Sorted r) (hfi : Fil.Fine r) (hsum : Fil.sum r ≤ 1099511627) (f n : Nat) (hf : f ≤ 1099511627) (hops : d.ops ≤ 1099511627) :
    Calls Tryz.prog 99 #[areaV p f n, .map (some b)] w fun e w' => e = .returned (.int .i64 (Dsk.write d (f : Int) (Fil.atext r)).2) ∧ Turns S w w' ∧ ∃ S', (∀ j, S' j → S j ∨ w.heap.size ≤ j) ∧ DiskAt S' p (Dsk.write d (f : Int) (Fil.atext r)).1 w' := by
  have hlt : ∀ k, S k → k < w.heap.size := h.lt
  have hu : Fil.used r ≤ 1099511700 := by unfold Fil.used; omega
  have he := fun u (hu : ContAt b nn r u) => encoded_any hu hs hfi hsum
  have hE1 : (ba (Fil.enc r)).size = Fil.used r := by rw [ba_size, Fil.enc_length]
  have hc := fun u => counted_any (ba (Fil.enc r)) (by rw [hE1]; omega) u
  have hE2 : (ba (Oct.le 4 (ba (Fil.enc r)).size ++ (ba (Fil.enc r)).data.toList)).size = 4 + Fil.used r := by rw [ba_size, List.length_append, Oct.le_length, ba_list, Fil.enc_length]
  have hff := fun u => filled_any (ba (Oct.le 4 (ba (Fil.enc r)).size ++ (ba (Fil.enc r)).data.toList)) (by rw [hE2]; omega) u
  have hE3 : Wal.fill (ba (Oct.le 4 (ba (Fil.enc r)).size ++ (ba (Fil.enc r)).data.toList)).data.toList = Fil.atext r := by
    rw [ba_list, ba_list, ba_size]; rfl
  rw [hE3] at hff
  have hz3 : (ba (Fil.atext r)).size ≤ 1099511800 := by
    rw [ba_size, Fil.atext_length]; have := Wal.whole_hi (4 + Fil.used r); omega
  have hw := fun u (hu : DiskAt S p d u) => write_all hu (f : Int) (show I64 (f : Int) from ⟨by omega, by omega⟩) (ba (Fil.atext r)) (by omega) (by omega)
  have hl3 : (ba (Fil.atext r)).data.toList = Fil.atext r := ba_list _
  rw [← hl3]
  generalize ba (Oct.le 4 (ba (Fil.enc r)).size ++ (ba (Fil.enc r)).data.toList) = E2 at *
  generalize ba (Fil.enc r) = E1 at *
  generalize ba (Fil.atext r) = E3 at *
  have He := Lib.hid he; clear he
  have Hc := Lib.hid hc; clear hc
  have Hf := Lib.hid hff; clear hff
  have Hw := Lib.hid hw; clear hw
  have Hd := Lib.hid h; clear h
  have Hlt := Lib.hid hlt; clear hlt
  clear hE1 hE2 hE3 hz3 hl3 hu hs hfi hsum
  unfold areaV
  go_enter Tryz.func99, Tryz.ntmps99
  go_wp2_with fail
  obtain ⟨w1, hw1⟩ : ∃ w1, w1 = w.alloc (.cells #[.pointer (some ⟨p, 0, none⟩), .int .i64 (f : Int), .int .i64 (n : Int)] 70) := ⟨_, rfl⟩
  obtain ⟨B, hB⟩ : ∃ B, B = w.heap.size := ⟨_, rfl⟩
  have hk1 : Below w.heap.size w w1 := by rw [hw1]; exact (Below.refl _ w).alloc (Nat.le_refl _) _
  have hrow : w1.heap[B]? = some (.cells #[.pointer (some ⟨p, 0, none⟩), .int .i64 (f : Int), .int .i64 (n : Int)] 70 (0, 0)) := by rw [hw1, hB]; exact heap_alloc_new _ _
  have hm1 : ContAt b nn r w1 := hm.new hk1
  have hs1 : w.heap.size ≤ w1.heap.size := hk1.size
  rw [← hw1, ← hB]
  have K1 := Lib.hid hk1; clear hk1
  have Hrow := Lib.hid hrow; clear hrow
  have Hm1 := Lib.hid hm1; clear hm1
  clear hw1 hm
  refine wp_region_phases [([0, 1, 2, 3, 4, 5, 6], [7, 8, 9, 10, 11])] (by kernel_rfl) (by kernel_rfl) (fun z => z.heap[B]? = some (.cells #[.pointer (some ⟨p, 0, none⟩), .int .i64 (f : Int), .int .i64 (n : Int)] 70 (0, 0))) Hrow.out ?_
  simp only [wpPhases, pick, List.filterMap_cons, List.filterMap_nil, List.getElem?_toArray, List.getElem?_cons_zero, List.getElem?_cons_succ]
  refine take_one (.pointer (some ⟨B, 0, none⟩)) rfl (fun u _ => by go_simp) ?_
  simp only [Act.put, List.setIfInBounds_toArray, List.set_cons_zero, List.set_cons_succ]
  refine take_one (.pointer (some ⟨B, 0, none⟩)) rfl (fun u _ => by go_simp) ?_
  simp only [Act.put, List.setIfInBounds_toArray, List.set_cons_zero, List.set_cons_succ]
  refine take_load 34 (.tmp 6) ⟨B, 0, none⟩ (.pointer (some ⟨p, 0, none⟩)) rfl rfl rfl (fun u hu => load_any Tryz.underlying34 Tryz.isAgg34 (by rw [cell_of_row u _ 0 _ _ _ hu]; rfl)) ?_
  simp only [Act.put, List.setIfInBounds_toArray, List.set_cons_zero, List.set_cons_succ]
  refine take_one (.pointer (some ⟨B, 0, none⟩)) rfl (fun u _ => by go_simp) ?_
  simp only [Act.put, List.setIfInBounds_toArray, List.set_cons_zero, List.set_cons_succ]
  refine take_one (.pointer (some ⟨B, 1, none⟩)) rfl (fun u _ => by go_simp) ?_
  simp only [Act.put, List.setIfInBounds_toArray, List.set_cons_zero, List.set_cons_succ]
  refine take_load 3 (.tmp 9) ⟨B, 1, none⟩ (.int .i64 (f : Int)) rfl rfl rfl (fun u hu => load_any Tryz.underlying3 Tryz.isAgg3 (by rw [cell_of_row u _ 1 _ _ _ hu]; rfl)) ?_
  simp only [Act.put, List.setIfInBounds_toArray, List.set_cons_zero, List.set_cons_succ]
  refine take_move (.tmp 1) (.map (some b)) rfl rfl rfl ?_
  simp only [Act.put, List.setIfInBounds_toArray, List.set_cons_zero, List.set_cons_succ]
  refine take_done ?_
  refine midk_wp rfl (call_wp 134 [.tmp 11] #[74] #[.map (some b)] rfl rfl rfl ?_)
  refine (He.out _ Hm1.out.drew).mono ?_
  rintro e wE ⟨rfl, hE⟩
  have kE := K1.out.drew.trans (hE.mono (by simp; omega))
  have rE : wE.heap[B]? = some (.cells #[.pointer (some ⟨p, 0, none⟩), .int .i64 (f : Int), .int .i64 (n : Int)] 70 (0, 0)) := by rw [hE.block _ (row_lt Hrow.out)]; exact Hrow.out
  refine ⟨_, rfl, rE, ?_⟩
  refine midk_wp rfl (call_wp 133 [.tmp 12] #[9] #[.string E1] rfl rfl rfl ?_)
  refine (Hc.out _).mono ?_
  rintro e wC ⟨rfl, hC⟩
  have kC := kE.trans (hC.mono kE.size)
  have rC : wC.heap[B]? = some (.cells #[.pointer (some ⟨p, 0, none⟩), .int .i64 (f : Int), .int .i64 (n : Int)] 70 (0, 0)) := by rw [hC.block _ (row_lt rE)]; exact rE
  refine ⟨_, rfl, rC, ?_⟩
  refine midk_wp rfl (call_wp 116 [.tmp 13] #[9] #[.string E2] rfl rfl rfl ?_)
  refine (Hf.out _).mono ?_
  rintro e wF ⟨rfl, hF⟩
  have kF := kC.trans (hF.mono kC.size)
  have rF : wF.heap[B]? = some (.cells #[.pointer (some ⟨p, 0, none⟩), .int .i64 (f : Int), .int .i64 (n : Int)] 70 (0, 0)) := by rw [hF.block _ (row_lt rC)]; exact rC
  refine ⟨_, rfl, rF, ?_⟩
  refine midk_wp rfl (call_wp 89 [.tmp 7, .tmp 10, .tmp 14] #[34, 3, 9] #[.pointer (some ⟨p, 0, none⟩), .int .i64 (f : Int), .string E3] rfl rfl rfl ?_)
  refine (Hw.out wF (Hd.out.new kF)).mono ?_
  rintro e wW ⟨rfl, tW, S', lW, dW⟩
  have rW : wW.heap[B]? = some (.cells #[.pointer (some ⟨p, 0, none⟩), .int .i64 (f : Int), .int .i64 (n : Int)] 70 (0, 0)) := tW.same rF (fun e => by have := Hlt.out B e; omega)
  refine ⟨_, rfl, rW, ?_⟩
  refine midk_one (.int .i64 (Dsk.write d (f : Int) E3.data.toList).2) rfl rfl rW ?_
  have tA : Turns S w wW := (Turns.of_new kF S).trans tW (fun _ _ e => e)
  have lA : ∀ j, S' j → S j ∨ w.heap.size ≤ j := fun j e => by
    rcases lW j e with e | e
    · exact .inl e
    · have := kF.size; exact .inr (by omega)
  have TA := Lib.hid tA; clear tA
  have LA := Lib.hid lA; clear lA
  have DA := Lib.hid dW; clear dW
  clear tW lW rW rF rC rE hE hC hF kE kC kF
  refine midk_end ?_
  go_wp2
  go_ret
  exact ⟨rfl, TA.out, S', LA.out, DA.out⟩

theorem mwrite_any (h : DiskAt S p d w) (a q : Nat) (nm : Bool) (ha : a < 256) (hq : q < 18446744073709551616) (hops : d.ops ≤ 1099511627) :
    Calls Tryz.prog 102 #[fmarkV nm a q, .pointer (some ⟨p, 0, none⟩)] w fun e w' => e = .returned (.int .i64 (Dsk.write d 0 (Fil.mark a q)).2) ∧ Turns S w w' ∧ ∃ S', (∀ j, S' j → S j ∨ w.heap.size ≤ j) ∧ DiskAt S' p (Dsk.write d 0 (Fil.mark a q)).1 w' := by
  have ht := fun u => ftext_any a q nm ha hq u
  have hz3 : (ba (Fil.mark a q)).size = 64 := by rw [ba_size, Fil.mark_length]
  have hw := fun u (hu : DiskAt S p d u) => write_all hu 0 (show I64 0 from ⟨by decide, by decide⟩) (ba (Fil.mark a q)) (by omega) (by omega)
  have hl3 : (ba (Fil.mark a q)).data.toList = Fil.mark a q := ba_list _
  rw [← hl3]
  generalize ba (Fil.mark a q) = E3 at *
  have hk1 : Below w.heap.size w (w.alloc (.cells #[.bool nm, .int .i64 (a : Int), .int .u64 (q : Int)] 66)) := (Below.refl _ w).alloc (Nat.le_refl _) _
  have Hk := Lib.hid hk1; clear hk1
  have Ht := Lib.hid ht; clear ht
  have Hw := Lib.hid hw; clear hw
  have Hd := Lib.hid h; clear h
  clear hz3 hl3
  unfold fmarkV
  go_enter Tryz.func102, Tryz.ntmps102
  go_wp2_with fail
  refine (Ht.out _).mono ?_; rintro e w1 ⟨rfl, h1⟩
  have k1 := Hk.out.trans (h1.mono Hk.out.size)
  have K1 := Lib.hid k1; clear k1 h1
  go_wp2_with fail
  refine (Hw.out w1 (Hd.out.new K1.out)).mono ?_; rintro e wW ⟨rfl, tW, S', lW, dW⟩
  have tA : Turns S w wW := (Turns.of_new K1.out S).trans tW (fun _ _ e => e)
  have lA : ∀ j, S' j → S j ∨ w.heap.size ≤ j := fun j e => by
    rcases lW j e with e | e
    · exact .inl e
    · have := K1.out.size; exact .inr (by omega)
  have TA := Lib.hid tA; clear tA
  have LA := Lib.hid lA; clear lA
  have DA := Lib.hid dW; clear dW
  clear tW lW
  go_wp2_with fail
  go_ret
  exact ⟨rfl, TA.out, S', LA.out, DA.out⟩
end
end Go.Proofs.YticcipgdjpoimaaGreat
