/-
  A pair of logs is opened again.
-/
import Derived.Test.YtjmpagbjkehebaaGreatWpMem
import Derived.Test.YtjmpagbjkehebaaGreatGoPhase
set_option linter.unusedVariables false
set_option maxRecDepth 100000
namespace Go.Proofs.YtjmpagbjkehebaaGreat
open Go.RowKit

theorem OpenR.split {r : Option Wal.St × Int} {p : Nat} {w w' : World} {e : Ending} (h : OpenR r p w e w') : ∃ v E, e = .returned (.tuple #[v, .int .i64 E]) ∧ Below w.heap.size w w' ∧
    ((r.1 = none ∧ E = r.2 ∧ v = .pointer none) ∨ ∃ s R q, r.1 = some s ∧ E = 0 ∧ v = .pointer (some ⟨q, 0, none⟩) ∧ WalAt R q p s w' ∧ ∀ j, R j → w.heap.size ≤ j) := by
  obtain ⟨hb, ⟨h1, h2, rfl⟩ | ⟨s, R, q, h1, h2, rfl, h3, h4⟩⟩ := h
  · exact ⟨_, _, rfl, hb, .inl ⟨h1, rfl, rfl⟩⟩
  · exact ⟨_, _, rfl, hb, .inr ⟨s, R, q, h1, rfl, rfl, h3, h4⟩⟩
theorem ROpR.split {r : Option Wal.St × Int} {p : Nat} {w w' : World} {e : Ending} (h : ROpR r p w e w') : ∃ v E, e = .returned (.tuple #[v, .int .i64 E]) ∧ Below w.heap.size w w' ∧
    ((r.1 = none ∧ E = r.2 ∧ v = .pointer none) ∨ ∃ s R q, r.1 = some s ∧ E = 0 ∧ v = .pointer (some ⟨q, 0, none⟩) ∧ RwAt R q p s w' ∧ ∀ j, R j → w.heap.size ≤ j) := by
  obtain ⟨hb, ⟨h1, rfl⟩ | ⟨s, R, q, h1, h2, rfl, h3, h4⟩⟩ := h
  · exact ⟨_, _, rfl, hb, .inl ⟨h1, rfl, rfl⟩⟩
  · exact ⟨_, _, rfl, hb, .inr ⟨s, R, q, h1, rfl, rfl, h3, h4⟩⟩

section
variable {S T : Nat → Prop} {pp pd pr : Nat} {fr n : Int} {d : Dsk.St} {w : World}
set_option maxHeartbeats 1000000 in
theorem popen_any (hd : DiskAt S pd d w) (hr : RefAt T pr d w) (hops : d.ops ≤ 1099511627776) (a2 a3 : Option Addr) (hrow : w.heap[pp]? = some (prObj pd pr (.pointer a2) (.pointer a3) fr n)) (hf : -9223372036854775808 ≤ fr ∧ fr ≤ 9223372036854775807) (hn : -9223372036854775808 ≤ n ∧ n ≤ 9223372036854775807) :
    Calls Tryz.prog 22 #[.pointer (some ⟨pp, 0, none⟩)] w (POpnR (Wal.open_ d fr n) pp pd pr w) := by
  obtain ⟨v2, hv2⟩ : ∃ v2, v2 = Value.pointer a2 := ⟨_, rfl⟩
  obtain ⟨v3, hv3⟩ : ∃ v3, v3 = Value.pointer a3 := ⟨_, rfl⟩
  rw [← hv2, ← hv3] at hrow
  have hd1 : Below w.heap.size w w.drew := (Below.refl _ _).drew
  have HO := Lib.hid (wlOpen_all (hd.new hd1) fr n hf hn)
  have HRO := Lib.hid (fun (u : World) (hu : Below w.heap.size w u) => rwOpen_all (hr.new hu) hops fr n hf hn)
  have hrow1 : w.drew.heap[pp]? = some (prObj pd pr v2 v3 fr n) := hrow
  clear hd hr
  generalize Wal.open_ d fr n = O at *
  go_enter Tryz.func22, Tryz.ntmps22
  go_wp2_with fail
  refine wp_region_phases [([0, 1, 2, 3, 4, 5, 6, 7, 8, 9, 10, 11], [12, 13]), ([14, 15], [16, 17])] (by kernel_rfl) (by kernel_rfl) (fun z => z.heap[pp]? = some (prObj pd pr v2 v3 fr n)) hrow1 ?_
  simp only [wpPhases, pick, List.filterMap_cons, List.filterMap_nil, List.getElem?_toArray, List.getElem?_cons_zero, List.getElem?_cons_succ]
  refine take_move (.tmp 0) (.pointer (some ⟨pp, 0, none⟩)) rfl rfl rfl ?_
  simp only [Act.put, List.setIfInBounds_toArray, List.set_cons_zero, List.set_cons_succ]
  refine take_nil (.tmp 8) ⟨pp, 0, none⟩ rfl rfl rfl ?_
  simp only [Act.put, List.setIfInBounds_toArray, List.set_cons_zero, List.set_cons_succ]
  refine take_one (.pointer (some ⟨pp, 0, none⟩)) rfl (fun u _ => by go_simp) ?_
  simp only [Act.put, List.setIfInBounds_toArray, List.set_cons_zero, List.set_cons_succ]
  refine take_load 41 (.tmp 10) ⟨pp, 0, none⟩ (.pointer (some ⟨pd, 0, none⟩)) rfl rfl rfl (fun u hu => load_any Tryz.underlying41 Tryz.isAgg41 (by rw [cell_of_row u _ 0 _ _ _ hu]; rfl)) ?_
  simp only [Act.put, List.setIfInBounds_toArray, List.set_cons_zero, List.set_cons_succ]
  refine take_move (.tmp 0) (.pointer (some ⟨pp, 0, none⟩)) rfl rfl rfl ?_
  simp only [Act.put, List.setIfInBounds_toArray, List.set_cons_zero, List.set_cons_succ]
  refine take_nil (.tmp 12) ⟨pp, 0, none⟩ rfl rfl rfl ?_
  simp only [Act.put, List.setIfInBounds_toArray, List.set_cons_zero, List.set_cons_succ]
  refine take_one (.pointer (some ⟨pp, 4, none⟩)) rfl (fun u _ => by go_simp) ?_
  simp only [Act.put, List.setIfInBounds_toArray, List.set_cons_zero, List.set_cons_succ]
  refine take_load 3 (.tmp 14) ⟨pp, 4, none⟩ (.int .i64 fr) rfl rfl rfl (fun u hu => load_any Tryz.underlying3 Tryz.isAgg3 (by rw [cell_of_row u _ 4 _ _ _ hu]; rfl)) ?_
  simp only [Act.put, List.setIfInBounds_toArray, List.set_cons_zero, List.set_cons_succ]
  refine take_move (.tmp 0) (.pointer (some ⟨pp, 0, none⟩)) rfl rfl rfl ?_
  simp only [Act.put, List.setIfInBounds_toArray, List.set_cons_zero, List.set_cons_succ]
  refine take_nil (.tmp 16) ⟨pp, 0, none⟩ rfl rfl rfl ?_
  simp only [Act.put, List.setIfInBounds_toArray, List.set_cons_zero, List.set_cons_succ]
  refine take_one (.pointer (some ⟨pp, 5, none⟩)) rfl (fun u _ => by go_simp) ?_
  simp only [Act.put, List.setIfInBounds_toArray, List.set_cons_zero, List.set_cons_succ]
  refine take_load 3 (.tmp 18) ⟨pp, 5, none⟩ (.int .i64 n) rfl rfl rfl (fun u hu => load_any Tryz.underlying3 Tryz.isAgg3 (by rw [cell_of_row u _ 5 _ _ _ hu]; rfl)) ?_
  simp only [Act.put, List.setIfInBounds_toArray, List.set_cons_zero, List.set_cons_succ]
  refine take_done ?_
  refine midk_wp rfl (call_wp 28 [.tmp 11, .tmp 15, .tmp 19] #[41, 3, 3] #[.pointer (some ⟨pd, 0, none⟩), .int .i64 fr, .int .i64 n] rfl rfl rfl ?_)
  refine (HO.out).mono ?_
  rintro e w2 hk1
  obtain ⟨v4, E4, rfl, h4, hc4⟩ := hk1.split
  have hr4 : w2.heap[pp]? = some (prObj pd pr v2 v3 fr n) := by rw [h4.block _ (row_lt hrow1)]; exact hrow1
  refine ⟨_, rfl, hr4, ?_⟩
  refine midk_one (.tuple #[v4, .int .i64 E4]) rfl rfl hr4 ?_
  simp only [Act.put, List.setIfInBounds_toArray, List.set_cons_zero, List.set_cons_succ]
  refine take_one v4 rfl (fun u hu => by go_simp) ?_
  simp only [Act.put, List.setIfInBounds_toArray, List.set_cons_zero, List.set_cons_succ]
  refine take_one (.int .i64 E4) rfl (fun u hu => by go_simp) ?_
  simp only [Act.put, List.setIfInBounds_toArray, List.set_cons_zero, List.set_cons_succ]
  refine take_done ?_
  refine midk_one v4 rfl (by rfl) hr4 ?_
  simp only [Act.put, List.setIfInBounds_toArray, List.set_cons_zero, List.set_cons_succ]
  refine midk_one (.int .i64 E4) rfl (by rfl) hr4 ?_
  simp only [Act.put, List.setIfInBounds_toArray, List.set_cons_zero, List.set_cons_succ]
  refine midk_end ?_
  have Hc4 := Lib.hid hc4; clear hc4
  clear hk1
  go_wp2_with fail
  have hb24 : Below w.heap.size w w2.drew := (hd1.trans (h4.mono (Nat.le_refl _))).drew
  refine wp_region_phases [([0, 1, 2, 3, 4, 5, 6, 7, 8, 9, 10, 11], [12, 13]), ([14, 15], [16, 17])] (by kernel_rfl) (by kernel_rfl) (fun z => z.heap[pp]? = some (prObj pd pr v2 v3 fr n)) hr4 ?_
  simp only [wpPhases, pick, List.filterMap_cons, List.filterMap_nil, List.getElem?_toArray, List.getElem?_cons_zero, List.getElem?_cons_succ]
  refine take_move (.tmp 0) (.pointer (some ⟨pp, 0, none⟩)) rfl rfl rfl ?_
  simp only [Act.put, List.setIfInBounds_toArray, List.set_cons_zero, List.set_cons_succ]
  refine take_nil (.tmp 24) ⟨pp, 0, none⟩ rfl rfl rfl ?_
  simp only [Act.put, List.setIfInBounds_toArray, List.set_cons_zero, List.set_cons_succ]
  refine take_one (.pointer (some ⟨pp, 1, none⟩)) rfl (fun u _ => by go_simp) ?_
  simp only [Act.put, List.setIfInBounds_toArray, List.set_cons_zero, List.set_cons_succ]
  refine take_load 45 (.tmp 26) ⟨pp, 1, none⟩ (.pointer (some ⟨pr, 0, none⟩)) rfl rfl rfl (fun u hu => load_any Tryz.underlying45 Tryz.isAgg45 (by rw [cell_of_row u _ 1 _ _ _ hu]; rfl)) ?_
  simp only [Act.put, List.setIfInBounds_toArray, List.set_cons_zero, List.set_cons_succ]
  refine take_move (.tmp 0) (.pointer (some ⟨pp, 0, none⟩)) rfl rfl rfl ?_
  simp only [Act.put, List.setIfInBounds_toArray, List.set_cons_zero, List.set_cons_succ]
  refine take_nil (.tmp 28) ⟨pp, 0, none⟩ rfl rfl rfl ?_
  simp only [Act.put, List.setIfInBounds_toArray, List.set_cons_zero, List.set_cons_succ]
  refine take_one (.pointer (some ⟨pp, 4, none⟩)) rfl (fun u _ => by go_simp) ?_
  simp only [Act.put, List.setIfInBounds_toArray, List.set_cons_zero, List.set_cons_succ]
  refine take_load 3 (.tmp 30) ⟨pp, 4, none⟩ (.int .i64 fr) rfl rfl rfl (fun u hu => load_any Tryz.underlying3 Tryz.isAgg3 (by rw [cell_of_row u _ 4 _ _ _ hu]; rfl)) ?_
  simp only [Act.put, List.setIfInBounds_toArray, List.set_cons_zero, List.set_cons_succ]
  refine take_move (.tmp 0) (.pointer (some ⟨pp, 0, none⟩)) rfl rfl rfl ?_
  simp only [Act.put, List.setIfInBounds_toArray, List.set_cons_zero, List.set_cons_succ]
  refine take_nil (.tmp 32) ⟨pp, 0, none⟩ rfl rfl rfl ?_
  simp only [Act.put, List.setIfInBounds_toArray, List.set_cons_zero, List.set_cons_succ]
  refine take_one (.pointer (some ⟨pp, 5, none⟩)) rfl (fun u _ => by go_simp) ?_
  simp only [Act.put, List.setIfInBounds_toArray, List.set_cons_zero, List.set_cons_succ]
  refine take_load 3 (.tmp 34) ⟨pp, 5, none⟩ (.int .i64 n) rfl rfl rfl (fun u hu => load_any Tryz.underlying3 Tryz.isAgg3 (by rw [cell_of_row u _ 5 _ _ _ hu]; rfl)) ?_
  simp only [Act.put, List.setIfInBounds_toArray, List.set_cons_zero, List.set_cons_succ]
  refine take_done ?_
  refine midk_wp rfl (call_wp 29 [.tmp 27, .tmp 31, .tmp 35] #[45, 3, 3] #[.pointer (some ⟨pr, 0, none⟩), .int .i64 fr, .int .i64 n] rfl rfl rfl ?_)
  refine (HRO.out _ hb24).mono ?_
  rintro e w3 hk2
  obtain ⟨v5, E5, rfl, h5, hc5⟩ := hk2.split
  have hr5 : w3.heap[pp]? = some (prObj pd pr v2 v3 fr n) := by rw [h5.block _ (row_lt hr4)]; exact hr4
  refine ⟨_, rfl, hr5, ?_⟩
  refine midk_one (.tuple #[v5, .int .i64 E5]) rfl rfl hr5 ?_
  simp only [Act.put, List.setIfInBounds_toArray, List.set_cons_zero, List.set_cons_succ]
  refine take_one v5 rfl (fun u hu => by go_simp) ?_
  simp only [Act.put, List.setIfInBounds_toArray, List.set_cons_zero, List.set_cons_succ]
  refine take_one (.int .i64 E5) rfl (fun u hu => by go_simp) ?_
  simp only [Act.put, List.setIfInBounds_toArray, List.set_cons_zero, List.set_cons_succ]
  refine take_done ?_
  refine midk_one v5 rfl (by rfl) hr5 ?_
  simp only [Act.put, List.setIfInBounds_toArray, List.set_cons_zero, List.set_cons_succ]
  refine midk_one (.int .i64 E5) rfl (by rfl) hr5 ?_
  simp only [Act.put, List.setIfInBounds_toArray, List.set_cons_zero, List.set_cons_succ]
  refine midk_end ?_
  have Hc5 := Lib.hid hc5; clear hc5
  have hb5 : Below w.heap.size w w3 := hb24.trans (h5.mono hb24.size)
  have hb35 : Below w2.heap.size w2 w3 := ((Below.refl _ w2).drew).trans h5
  have hz5 : w2.heap.size ≤ w3.heap.size := hb35.size
  have hz4 : w.heap.size ≤ w2.heap.size := h4.size
  subst hv2 hv3
  have c2 : w3.cell? ⟨pp, 2, none⟩ = some (.pointer a2) := by rw [cell_of_row _ _ 2 _ _ _ hr5]; rfl
  have c3 : w3.cell? ⟨pp, 3, none⟩ = some (.pointer a3) := by rw [cell_of_row _ _ 3 _ _ _ hr5]; rfl
  have f2 := row_free hr5 2
  have f3 := row_free hr5 3
  have Hb5 := Lib.hid hb5; clear hb5
  have Hb35 := Lib.hid hb35; clear hb35
  clear hk2 h5 hr5 h4 hr4 hb24 hrow1 hrow hd1 HO HRO
  rcases Hc4.out with ⟨n4, rfl, rfl⟩ | ⟨s4, R4, q4, n4, rfl, rfl, w4, lo4⟩
  · rcases Hc5.out with ⟨n5, rfl, rfl⟩ | ⟨s5, R5, q5, n5, _⟩
    · clear Hc4 Hc5
      have N4 := Lib.hid n4; clear n4 n5
      go_wp2_with fail
      go_ret
      exact ⟨rfl, .inl ⟨N4.out, Hb5.out⟩⟩
    · rw [n4] at n5; cases n5
  · rcases Hc5.out with ⟨n5, _⟩ | ⟨s5, R5, q5, n5, rfl, rfl, x5, lo5⟩
    · rw [n4] at n5; cases n5
    · obtain rfl : s4 = s5 := by rw [n4] at n5; simpa using n5
      clear Hc4 Hc5
      have hfin : POpnR O pp pd pr w (.returned (.bool true)) ((w3.setCell ⟨pp, 2, none⟩ (.pointer (some ⟨q4, 0, none⟩))).setCell ⟨pp, 3, none⟩ (.pointer (some ⟨q5, 0, none⟩))) :=
        ⟨rfl, .inr ⟨s4, R4, R5, q4, q5, w3, n4, Hb5.out, w4.new Hb35.out, x5, fun j hj => lo4 j hj, fun j hj => Nat.le_trans hz4 (lo5 j hj), fun j a b => by
          have h1 := w4.lt j a
          have h2 : w2.heap.size ≤ j := lo5 j b
          omega, rfl⟩⟩
      have Hfin := Lib.hid hfin; clear hfin
      clear n4 n5 w4 x5 lo4 lo5
      go_wp2_with fail
      go_ret
      exact Hfin.out
end
end Go.Proofs.YtjmpagbjkehebaaGreat
