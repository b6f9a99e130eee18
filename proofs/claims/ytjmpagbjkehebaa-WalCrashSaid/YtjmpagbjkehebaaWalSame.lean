/-
  What the document's Same says of two rows of the same groups.
-/
import Derived.Test.YtjmpagbjkehebaaWalCopy
import Derived.Test.YtjmpagbjkehebaaOctAll
import Derived.Test.YtjmpagbjkehebaaGoPhase
import Derived.Test.YtjmpagbjkehebaaWalOpn
set_option linter.unusedVariables false
set_option maxRecDepth 100000
namespace Go.Proofs.Ytjmpagbjkehebaa
open Go.RowKit

theorem load_one {w : World} {t : TypeId} {b o : Nat} {x : Value} {D : TypeDesc} (hu : Try.prog.underlying t = some D) (ha : ∀ w, (isAgg t).run Try.prog w = .ok false w) (h : w.cell? ⟨b, o, none⟩ = some x) :
    (Instr.loadAt t (.pointer (some ⟨b, o, none⟩))).run Try.prog w = .ok x w := by
  simp [Instr.loadAt, go_sem, ha, h]

set_option maxHeartbeats 800000 in
theorem sameGrps_eq {R1 R2 : Nat → Prop} (v1 v2 : Value) (L : List Wal.Grp) (w : World) (h1 : GRows R1 v1 L w) (h2 : GRows R2 v2 L w) (hm : L.length ≤ 1048576) (hz : ∀ l ∈ L, Slim l) :
    Calls Try.prog 14 #[v1, v2] w fun e w' => e = .returned (.bool true) ∧ Below w.heap.size w w' := by
  obtain ⟨a1, c1, rfl, _, _, hf1⟩ := h1.form
  obtain ⟨a2, c2, rfl, _, _, hf2⟩ := h2.form
  obtain ⟨n, hn⟩ : ∃ n, n = L.length := ⟨_, rfl⟩
  rw [← hn] at hm ⊢
  have Hn := Lib.hid hn; clear hn
  have Hf1 := Lib.hid hf1; clear hf1
  have Hf2 := Lib.hid hf2; clear hf2
  have Hz := Lib.hid hz; clear hz
  clear h1 h2
  go_enter Try.func14, Try.ntmps14
  go_wp2
  go_loopw [5] (fun i wr => ∃ k : Nat, k ≤ n ∧ i = .int .i64 (k : Int) ∧ Below w.heap.size w wr) (fun i _ => n - (intOf i).toNat)
  case atStart => exact ⟨0, by omega, rfl, Below.refl _ _⟩
  case round =>
    obtain ⟨k, hk, rfl, hb⟩ := hrel
    by_cases hlt : k < n
    · have hLk : L[k]? = some (L[k]'(by rw [← Hn.out]; exact hlt)) := List.getElem?_eq_getElem (by rw [← Hn.out]; exact hlt)
      have hsl := Hz.out _ (List.mem_of_getElem? hLk)
      obtain ⟨b1, x1, rfl, e1, g1⟩ := Hf1.out k _ hLk
      obtain ⟨b2, x2, rfl, e2, g2⟩ := Hf2.out k _ hLk
      generalize L[k]'(by rw [← Hn.out]; exact hlt) = l at *
      obtain ⟨p1, q1, rfl, s1, _, _⟩ := g1.strs
      obtain ⟨p2, q2, rfl, s2, _, _⟩ := g2.strs
      have d1 : ∀ z, Below w.heap.size w z → z.cell? ⟨b1, k, none⟩ = some (.slice p1 l.length q1) := fun z hz => by rw [hz.cell (p := ⟨b1, k, none⟩) (cell_lt e1)]; exact e1
      have d2 : ∀ z, Below w.heap.size w z → z.cell? ⟨b2, k, none⟩ = some (.slice p2 l.length q2) := fun z hz => by rw [hz.cell (p := ⟨b2, k, none⟩) (cell_lt e2)]; exact e2
      have hsm := fun (z : World) (hz : Below w.heap.size w z) => same_any p1 p2 l.length l.length q1 q2 (bas l) (bas l) z (s1.keep hz) (s2.keep hz) (by have := hsl.1; omega) (by have := hsl.1; omega)
      have hsb : sameB (bas l) (bas l) = true := by simp [sameB]
      rw [hsb] at hsm
      have Hsm := Lib.hid hsm; clear hsm
      have D1 := Lib.hid d1; clear d1
      have D2 := Lib.hid d2; clear d2
      have hlt2 : (k : Int) < (n : Int) := by omega
      clear e1 e2 s1 s2 g1 g2 hsb hLk
      go_wp2_with fail
      refine wp_region_phases [([0, 1, 2, 3, 4, 5, 6, 7], [8, 9])] (by kernel_rfl) (by kernel_rfl) (fun z => Below w.heap.size w z) hb.drew ?_
      simp only [wpPhases, pick, List.filterMap_cons, List.filterMap_nil, List.getElem?_toArray, List.getElem?_cons_zero, List.getElem?_cons_succ]
      refine take_move (.tmp 0) (.slice (some ⟨b1, 0, none⟩) n c1) rfl rfl rfl ?_
      simp only [Act.put, List.setIfInBounds_toArray, List.set_cons_zero, List.set_cons_succ]
      refine take_move (.tmp 5) (.int .i64 (k : Int)) rfl rfl rfl ?_
      simp only [Act.put, List.setIfInBounds_toArray, List.set_cons_zero, List.set_cons_succ]
      refine take_one (.pointer (some ⟨b1, k, none⟩)) rfl (fun u _ => by go_simp) ?_
      simp only [Act.put, List.setIfInBounds_toArray, List.set_cons_zero, List.set_cons_succ]
      refine take_load 34 (.tmp 19) ⟨b1, k, none⟩ (.slice p1 l.length q1) rfl rfl rfl (fun u hu => load_one Try.underlying34 Try.isAgg34 (D1.out u hu)) ?_
      simp only [Act.put, List.setIfInBounds_toArray, List.set_cons_zero, List.set_cons_succ]
      refine take_move (.tmp 1) (.slice (some ⟨b2, 0, none⟩) n c2) rfl rfl rfl ?_
      simp only [Act.put, List.setIfInBounds_toArray, List.set_cons_zero, List.set_cons_succ]
      refine take_move (.tmp 5) (.int .i64 (k : Int)) rfl rfl rfl ?_
      simp only [Act.put, List.setIfInBounds_toArray, List.set_cons_zero, List.set_cons_succ]
      refine take_one (.pointer (some ⟨b2, k, none⟩)) rfl (fun u _ => by go_simp) ?_
      simp only [Act.put, List.setIfInBounds_toArray, List.set_cons_zero, List.set_cons_succ]
      refine take_load 34 (.tmp 23) ⟨b2, k, none⟩ (.slice p2 l.length q2) rfl rfl rfl (fun u hu => load_one Try.underlying34 Try.isAgg34 (D2.out u hu)) ?_
      simp only [Act.put, List.setIfInBounds_toArray, List.set_cons_zero, List.set_cons_succ]
      refine take_done ?_
      refine midk_wp rfl (call_wp 47 [.tmp 20, .tmp 24] #[34, 34] #[.slice p1 l.length q1, .slice p2 l.length q2] rfl rfl rfl ?_)
      refine (Hsm.out _ hb.drew).mono ?_; rintro e w2 ⟨rfl, h2⟩
      have hb2 := hb.drew.trans (h2.mono hb.drew.size)
      refine ⟨_, rfl, hb2, ?_⟩
      simp only [Act.put, List.setIfInBounds_toArray, List.set_cons_zero, List.set_cons_succ]
      refine midk_one (.bool false) rfl rfl hb2 ?_
      simp only [Act.put, List.setIfInBounds_toArray, List.set_cons_zero, List.set_cons_succ]
      refine midk_end ?_
      have Hb2 := Lib.hid hb2; clear hb2
      clear h2 hb
      go_wp2_with fail
      go_roundw
      case rel => exact ⟨k + 1, by omega, by go_num, Hb2.out⟩
      case measure => simp [intOf]; omega
    · obtain rfl : k = n := by omega
      go_wp2_with fail
      go_ret
      exact ⟨rfl, hb⟩
end Go.Proofs.Ytjmpagbjkehebaa
