/-
  The area that the header names is read.
-/
import Derived.Test.YtalklpnekbfehaaGreatFilChunk
set_option linter.unusedVariables false
set_option maxRecDepth 100000
namespace Go.Proofs.YtalklpnekbfehaaGreat
open Go.RowKit

theorem DecR.undrew {o : Option Fil.Row} {w w' : World} {e : Ending} (h : DecR o w.drew e w') : DecR o w e w' :=
  ⟨((Below.refl _ w).drew).trans h.1, by
    have := h.2
    cases o with
    | none => exact this
    | some r => exact this⟩
theorem AreadR.undrew {E : Int} {x : List UInt8} {w w' : World} {e : Ending} (h : AreadR E x w.drew e w') : AreadR E x w e w' :=
  ⟨fun he => ⟨((Below.refl _ w).drew).trans (h.bad he).1, (h.bad he).2⟩, fun he => (h.good he).undrew⟩
theorem AreadR.below {E : Int} {x : List UInt8} {w w' : World} {e : Ending} (h : AreadR E x w e w') : Below w.heap.size w w' := by
  by_cases he : E = 0
  · exact (h.good he).1
  · exact (h.bad he).1
theorem AreadR.tup {E : Int} {x : List UInt8} {w w' : World} {e : Ending} (h : AreadR E x w e w') : ∃ m E', e = .returned (.tuple #[m, .int .i64 E']) := by
  by_cases he : E = 0
  · have h2 := (h.good he).2
    cases ho : Fil.aread x with
    | none => rw [ho] at h2; exact ⟨_, _, h2⟩
    | some r => rw [ho] at h2; obtain ⟨b, n, _, _, h3, _⟩ := h2; exact ⟨_, _, h3⟩
  · exact ⟨_, _, (h.bad he).2⟩
theorem load_area (u : World) (p o pd f n : Nat) (h : ∀ j v, [Value.pointer (some ⟨pd, 0, none⟩), .int .i64 (f : Int), .int .i64 (n : Int)][j]? = some v → u.cell? ⟨p, o + j, none⟩ = some v) :
    (Instr.loadAt 70 (.pointer (some ⟨p, o, none⟩))).run Tryz.prog u = .ok (.agg #[.pointer (some ⟨pd, 0, none⟩), .int .i64 (f : Int), .int .i64 (n : Int)]) u := by
  have := run_loadAt_mid (P := Tryz.prog) u p o 70 [.pointer (some ⟨pd, 0, none⟩), .int .i64 (f : Int), .int .i64 (n : Int)] _ (fun j v hv => h j v hv) Tryz.underlying70 rfl (by kernel_rfl)
  exact this
section
variable {S : Nat → Prop} {p pd : Nat} {d : Dsk.St} {w : World}
set_option maxHeartbeats 600000 in
theorem readArea_0 (h : DiskAt S pd d w) (f n : Nat) (hf : f ≤ 1099511627) (hn : n ≤ 16384) (hsz : (Dsk.read d (f : Int) (n : Int)).1.length ≤ 1099511627) {cs : Array Value} (hrow : w.heap[p]? = some (.cells cs 76 (0, 0)))
    (h0 : cs[0]? = some (.bool true)) (h1 : cs[1]? = some (.int .i64 0)) (har : ∀ j v, [Value.pointer (some ⟨pd, 0, none⟩), .int .i64 (f : Int), .int .i64 (n : Int)][j]? = some v → cs[4 + j]? = some v) :
    Calls Tryz.prog 45 #[.pointer (some ⟨p, 0, none⟩)] w (AreadR (Dsk.read d (f : Int) (n : Int)).2 (Dsk.read d (f : Int) (n : Int)).1 w) := by
  have c0 : w.cell? ⟨p, 0, none⟩ = some (.bool true) := by rw [cell_of_row _ _ 0 _ _ _ hrow]; exact h0
  have hdd : DiskAt S pd d w.drew := h.new ((Below.refl _ w).drew)
  have Hd := Lib.hid hdd; clear hdd h
  have Hf := Lib.hid hf; clear hf
  have Hn := Lib.hid hn; clear hn
  have Hz := Lib.hid hsz; clear hsz
  have Hrow := Lib.hid hrow; clear hrow
  have Hc1 := Lib.hid h1; clear h1
  have Har := Lib.hid har; clear har
  clear h0
  generalize hX : (Dsk.read d (f : Int) (n : Int)).1 = X
  generalize hE : (Dsk.read d (f : Int) (n : Int)).2 = E0
  have HX := Lib.hid hX; clear hX
  have HE := Lib.hid hE; clear hE
  go_enter Tryz.func45, Tryz.ntmps45
  go_wp2_with fail
  refine wp_region_phases [([0, 1, 2, 3, 4, 5, 6, 7, 8, 9], [10]), ([11, 12], [13, 14])] (by kernel_rfl) (by kernel_rfl) (fun z => z.heap[p]? = some (.cells cs 76 (0, 0))) Hrow.out ?_
  simp only [wpPhases, pick, List.filterMap_cons, List.filterMap_nil, List.getElem?_toArray, List.getElem?_cons_zero, List.getElem?_cons_succ]
  refine take_move (.tmp 0) (.pointer (some ⟨p, 0, none⟩)) rfl rfl rfl ?_
  simp only [Act.put, List.setIfInBounds_toArray, List.set_cons_zero, List.set_cons_succ]
  refine take_move (.tmp 0) (.pointer (some ⟨p, 0, none⟩)) rfl rfl rfl ?_
  simp only [Act.put, List.setIfInBounds_toArray, List.set_cons_zero, List.set_cons_succ]
  refine take_nil (.tmp 12) ⟨p, 0, none⟩ rfl rfl rfl ?_
  simp only [Act.put, List.setIfInBounds_toArray, List.set_cons_zero, List.set_cons_succ]
  refine take_one (.pointer (some ⟨p, 0, none⟩)) rfl (fun u _ => by go_simp) ?_
  simp only [Act.put, List.setIfInBounds_toArray, List.set_cons_zero, List.set_cons_succ]
  refine take_one (.pointer (some ⟨p, 1, none⟩)) rfl (fun u _ => by go_simp) ?_
  simp only [Act.put, List.setIfInBounds_toArray, List.set_cons_zero, List.set_cons_succ]
  refine take_load 3 (.tmp 15) ⟨p, 1, none⟩ (.int .i64 0) rfl rfl rfl (fun u hu => load_any Tryz.underlying3 Tryz.isAgg3 (by rw [cell_of_row u p 1 _ _ _ hu]; exact Hc1.out)) ?_
  simp only [Act.put, List.setIfInBounds_toArray, List.set_cons_zero, List.set_cons_succ]
  refine take_nil (.tmp 11) ⟨p, 0, none⟩ rfl rfl rfl ?_
  simp only [Act.put, List.setIfInBounds_toArray, List.set_cons_zero, List.set_cons_succ]
  refine take_one (.pointer (some ⟨p, 4, none⟩)) rfl (fun u _ => by go_simp) ?_
  simp only [Act.put, List.setIfInBounds_toArray, List.set_cons_zero, List.set_cons_succ]
  refine take_one (.pointer (some ⟨p, 4, none⟩)) rfl (fun u hu => by go_simp) ?_
  simp only [Act.put, List.setIfInBounds_toArray, List.set_cons_zero, List.set_cons_succ]
  refine take_load 70 (.tmp 19) ⟨p, 4, none⟩ (.agg #[.pointer (some ⟨pd, 0, none⟩), .int .i64 (f : Int), .int .i64 (n : Int)]) rfl rfl rfl (fun u hu => ?ld) ?_
  case ld => exact load_area u p 4 pd f n (fun j v hv => by rw [cell_of_row u p (4 + j) _ _ _ hu]; exact Har.out j v hv)
  simp only [Act.put, List.setIfInBounds_toArray, List.set_cons_zero, List.set_cons_succ]
  refine take_done ?_
  refine midk_wp rfl (call_wp 70 [.tmp 20] #[70] #[areaV pd f n] rfl rfl rfl ?_)
  refine (aread_any Hd.out f n Hf.out Hn.out Hz.out).mono ?_
  rintro e wA hA
  obtain ⟨m, E, rfl⟩ := AreadR.tup hA
  have rA : wA.heap[p]? = some (.cells cs 76 (0, 0)) := by rw [hA.below.block p (by have := row_lt Hrow.out; simpa using this)]; exact Hrow.out
  refine ⟨_, rfl, rA, ?_⟩
  simp only [Act.put, List.setIfInBounds_toArray, List.set_cons_zero, List.set_cons_succ]
  refine take_one m rfl (fun u hu => by go_simp) ?_
  simp only [Act.put, List.setIfInBounds_toArray, List.set_cons_zero, List.set_cons_succ]
  refine take_one (.int .i64 E) rfl (fun u hu => by go_simp) ?_
  simp only [Act.put, List.setIfInBounds_toArray, List.set_cons_zero, List.set_cons_succ]
  refine take_done ?_
  refine midk_one m rfl rfl rA ?_
  simp only [Act.put, List.setIfInBounds_toArray, List.set_cons_zero, List.set_cons_succ]
  refine midk_one (.int .i64 E) rfl rfl rA ?_
  simp only [Act.put, List.setIfInBounds_toArray, List.set_cons_zero, List.set_cons_succ]
  refine midk_end ?_
  go_wp2_with fail
  go_ret2
  rw [← HX.out, ← HE.out]
  exact hA.undrew

set_option maxHeartbeats 600000 in
theorem readArea_1 (h : DiskAt S pd d w) (f n : Nat) (hf : f ≤ 1099511627) (hn : n ≤ 16384) (hsz : (Dsk.read d (f : Int) (n : Int)).1.length ≤ 1099511627) {cs : Array Value} (hrow : w.heap[p]? = some (.cells cs 76 (0, 0)))
    (h0 : cs[0]? = some (.bool true)) (h1 : cs[1]? = some (.int .i64 1)) (har : ∀ j v, [Value.pointer (some ⟨pd, 0, none⟩), .int .i64 (f : Int), .int .i64 (n : Int)][j]? = some v → cs[7 + j]? = some v) :
    Calls Tryz.prog 45 #[.pointer (some ⟨p, 0, none⟩)] w (AreadR (Dsk.read d (f : Int) (n : Int)).2 (Dsk.read d (f : Int) (n : Int)).1 w) := by
  have c0 : w.cell? ⟨p, 0, none⟩ = some (.bool true) := by rw [cell_of_row _ _ 0 _ _ _ hrow]; exact h0
  have hdd : DiskAt S pd d w.drew := h.new ((Below.refl _ w).drew)
  have Hd := Lib.hid hdd; clear hdd h
  have Hf := Lib.hid hf; clear hf
  have Hn := Lib.hid hn; clear hn
  have Hz := Lib.hid hsz; clear hsz
  have Hrow := Lib.hid hrow; clear hrow
  have Hc1 := Lib.hid h1; clear h1
  have Har := Lib.hid har; clear har
  clear h0
  generalize hX : (Dsk.read d (f : Int) (n : Int)).1 = X
  generalize hE : (Dsk.read d (f : Int) (n : Int)).2 = E0
  have HX := Lib.hid hX; clear hX
  have HE := Lib.hid hE; clear hE
  go_enter Tryz.func45, Tryz.ntmps45
  go_wp2_with fail
  refine wp_region_phases [([0, 1, 2, 3, 4, 5, 6, 7, 8, 9], [10]), ([11, 12], [13, 14])] (by kernel_rfl) (by kernel_rfl) (fun z => z.heap[p]? = some (.cells cs 76 (0, 0))) Hrow.out ?_
  simp only [wpPhases, pick, List.filterMap_cons, List.filterMap_nil, List.getElem?_toArray, List.getElem?_cons_zero, List.getElem?_cons_succ]
  refine take_move (.tmp 0) (.pointer (some ⟨p, 0, none⟩)) rfl rfl rfl ?_
  simp only [Act.put, List.setIfInBounds_toArray, List.set_cons_zero, List.set_cons_succ]
  refine take_move (.tmp 0) (.pointer (some ⟨p, 0, none⟩)) rfl rfl rfl ?_
  simp only [Act.put, List.setIfInBounds_toArray, List.set_cons_zero, List.set_cons_succ]
  refine take_nil (.tmp 12) ⟨p, 0, none⟩ rfl rfl rfl ?_
  simp only [Act.put, List.setIfInBounds_toArray, List.set_cons_zero, List.set_cons_succ]
  refine take_one (.pointer (some ⟨p, 0, none⟩)) rfl (fun u _ => by go_simp) ?_
  simp only [Act.put, List.setIfInBounds_toArray, List.set_cons_zero, List.set_cons_succ]
  refine take_one (.pointer (some ⟨p, 1, none⟩)) rfl (fun u _ => by go_simp) ?_
  simp only [Act.put, List.setIfInBounds_toArray, List.set_cons_zero, List.set_cons_succ]
  refine take_load 3 (.tmp 15) ⟨p, 1, none⟩ (.int .i64 1) rfl rfl rfl (fun u hu => load_any Tryz.underlying3 Tryz.isAgg3 (by rw [cell_of_row u p 1 _ _ _ hu]; exact Hc1.out)) ?_
  simp only [Act.put, List.setIfInBounds_toArray, List.set_cons_zero, List.set_cons_succ]
  refine take_nil (.tmp 11) ⟨p, 0, none⟩ rfl rfl rfl ?_
  simp only [Act.put, List.setIfInBounds_toArray, List.set_cons_zero, List.set_cons_succ]
  refine take_one (.pointer (some ⟨p, 4, none⟩)) rfl (fun u _ => by go_simp) ?_
  simp only [Act.put, List.setIfInBounds_toArray, List.set_cons_zero, List.set_cons_succ]
  refine take_one (.pointer (some ⟨p, 7, none⟩)) rfl (fun u hu => by go_simp) ?_
  simp only [Act.put, List.setIfInBounds_toArray, List.set_cons_zero, List.set_cons_succ]
  refine take_load 70 (.tmp 19) ⟨p, 7, none⟩ (.agg #[.pointer (some ⟨pd, 0, none⟩), .int .i64 (f : Int), .int .i64 (n : Int)]) rfl rfl rfl (fun u hu => ?ld) ?_
  case ld => exact load_area u p 7 pd f n (fun j v hv => by rw [cell_of_row u p (7 + j) _ _ _ hu]; exact Har.out j v hv)
  simp only [Act.put, List.setIfInBounds_toArray, List.set_cons_zero, List.set_cons_succ]
  refine take_done ?_
  refine midk_wp rfl (call_wp 70 [.tmp 20] #[70] #[areaV pd f n] rfl rfl rfl ?_)
  refine (aread_any Hd.out f n Hf.out Hn.out Hz.out).mono ?_
  rintro e wA hA
  obtain ⟨m, E, rfl⟩ := AreadR.tup hA
  have rA : wA.heap[p]? = some (.cells cs 76 (0, 0)) := by rw [hA.below.block p (by have := row_lt Hrow.out; simpa using this)]; exact Hrow.out
  refine ⟨_, rfl, rA, ?_⟩
  simp only [Act.put, List.setIfInBounds_toArray, List.set_cons_zero, List.set_cons_succ]
  refine take_one m rfl (fun u hu => by go_simp) ?_
  simp only [Act.put, List.setIfInBounds_toArray, List.set_cons_zero, List.set_cons_succ]
  refine take_one (.int .i64 E) rfl (fun u hu => by go_simp) ?_
  simp only [Act.put, List.setIfInBounds_toArray, List.set_cons_zero, List.set_cons_succ]
  refine take_done ?_
  refine midk_one m rfl rfl rA ?_
  simp only [Act.put, List.setIfInBounds_toArray, List.set_cons_zero, List.set_cons_succ]
  refine midk_one (.int .i64 E) rfl rfl rA ?_
  simp only [Act.put, List.setIfInBounds_toArray, List.set_cons_zero, List.set_cons_succ]
  refine midk_end ?_
  go_wp2_with fail
  go_ret2
  rw [← HX.out, ← HE.out]
  exact hA.undrew

end
end Go.Proofs.YtalklpnekbfehaaGreat
