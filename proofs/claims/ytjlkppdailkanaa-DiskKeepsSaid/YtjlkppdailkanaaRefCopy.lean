/-
  The document's disk: Copy.
-/
import Derived.Test.YtjlkppdailkanaaRefNew
import Derived.Test.YtjlkppdailkanaaGoApp
set_option linter.unusedVariables false
namespace Go.Proofs.Ytjlkppdailkanaa
open Go.RowKit

theorem put_info : (Try.prog.info? 73).map (fun i => (i.zero, i.size, i.bytes)) = some (some (.agg #[.int .i64 0, .string .empty]), 2, 24) := by kernel_rfl
theorem load_puts (p j : Nat) (v : Value) (u : World) (h : u.cell? ⟨p, j, none⟩ = some v) : (Instr.loadAt 57 (.pointer (some ⟨p, j, none⟩))).run Try.prog u = .ok v u := by
  go_simp
theorem load_int (p j : Nat) (v : Value) (u : World) (h : u.cell? ⟨p, j, none⟩ = some v) : (Instr.loadAt 3 (.pointer (some ⟨p, j, none⟩))).run Try.prog u = .ok v u := by
  go_simp
theorem load_bool (p j : Nat) (v : Value) (u : World) (h : u.cell? ⟨p, j, none⟩ = some v) : (Instr.loadAt 4 (.pointer (some ⟨p, j, none⟩))).run Try.prog u = .ok v u := by
  go_simp

set_option maxHeartbeats 1000000 in
theorem refCopy_any {S : Nat → Prop} {q : Nat} {d : Dsk.St} {w : World} (h : RefAt S q d w) (hops : d.ops ≤ 1099511627776) :
    Calls Try.prog 20 #[.pointer (some ⟨q, 0, none⟩)] w fun e w' => ∃ b, e = .returned (.pointer (some ⟨b, 0, none⟩)) ∧ Below w.heap.size w w' ∧ ∃ S', (∀ j, S' j → w.heap.size ≤ j) ∧ RefAt S' b d w' := by
  obtain ⟨vB, vL, h⟩ := h
  obtain ⟨g, cap, rfl⟩ := h.formB
  have hn1 := h.ok.lo
  have hn2 := h.ok.hi
  have hcnt := h.cnt
  obtain ⟨i0, hi, hi0, hi1, hi2⟩ := info_parts str_info
  obtain ⟨j0, hj, hj0, hj1, hj2⟩ := info_parts put_info
  have hsh : ∃ a n c, vL = .slice a n c := by
    rcases h.formL with ⟨_, rfl⟩ | ⟨gl, capl, rfl, _⟩
    · exact ⟨_, _, _, rfl⟩
    · exact ⟨_, _, _, rfl⟩
  have c0 := h.c0
  have c1 := h.c1
  have c2 := h.c2
  have c3 := h.c3
  have H := Lib.hid h; clear h
  have Hi := Lib.hid hi; clear hi
  have Hi0 := Lib.hid hi0; clear hi0
  have Hi1 := Lib.hid hi1; clear hi1
  have Hi2 := Lib.hid hi2; clear hi2
  have Hj := Lib.hid hj; clear hj
  have Hj0 := Lib.hid hj0; clear hj0
  have Hj1 := Lib.hid hj1; clear hj1
  have Hj2 := Lib.hid hj2; clear hj2
  have C0 := Lib.hid c0; clear c0
  have C1 := Lib.hid c1; clear c1
  have C2 := Lib.hid c2; clear c2
  have C3 := Lib.hid c3; clear c3
  go_enter Try.func20, Try.ntmps20
  go_wp2
  refine wp_region_text [0, 1, 2, 3, 5, 6, 7, 8, 10, 11, 12, 13, 14, 15, 16, 17] [4, 9, 18, 19] [20] (by kernel_rfl) (by kernel_rfl) (fun u => u.heap[q]? = w.heap[q]?) rfl ?_
  simp only [pick, List.filterMap_cons, List.filterMap_nil, List.getElem?_toArray, List.getElem?_cons_zero, List.getElem?_cons_succ]
  refine take_move (.tmp 0) (.pointer (some ⟨q, 0, none⟩)) rfl rfl rfl ?_
  simp only [Act.put, List.setIfInBounds_toArray, List.set_cons_zero, List.set_cons_succ]
  refine take_nil (.tmp 3) ⟨q, 0, none⟩ rfl rfl rfl ?_
  simp only [Act.put, List.setIfInBounds_toArray, List.set_cons_zero, List.set_cons_succ]
  refine take_one (.pointer (some ⟨q, 0, none⟩)) rfl (fun u _ => by go_simp) ?_
  simp only [Act.put, List.setIfInBounds_toArray, List.set_cons_zero, List.set_cons_succ]
  refine take_load 45 (.tmp 5) ⟨q, 0, none⟩ (.slice (some ⟨g, 0, none⟩) d.n cap) rfl rfl rfl (fun u hu => load_strs _ _ _ _ (by rw [World.cell?_of_block hu]; exact C0.out)) ?_
  simp only [Act.put, List.setIfInBounds_toArray, List.set_cons_zero, List.set_cons_succ]
  refine take_move (.tmp 0) (.pointer (some ⟨q, 0, none⟩)) rfl rfl rfl ?_
  simp only [Act.put, List.setIfInBounds_toArray, List.set_cons_zero, List.set_cons_succ]
  refine take_nil (.tmp 8) ⟨q, 0, none⟩ rfl rfl rfl ?_
  simp only [Act.put, List.setIfInBounds_toArray, List.set_cons_zero, List.set_cons_succ]
  refine take_one (.pointer (some ⟨q, 1, none⟩)) rfl (fun u _ => by go_simp) ?_
  simp only [Act.put, List.setIfInBounds_toArray, List.set_cons_zero, List.set_cons_succ]
  refine take_load 57 (.tmp 10) ⟨q, 1, none⟩ vL rfl rfl rfl (fun u hu => load_puts _ _ _ _ (by rw [World.cell?_of_block hu]; exact C1.out)) ?_
  simp only [Act.put, List.setIfInBounds_toArray, List.set_cons_zero, List.set_cons_succ]
  refine take_move (.tmp 0) (.pointer (some ⟨q, 0, none⟩)) rfl rfl rfl ?_
  simp only [Act.put, List.setIfInBounds_toArray, List.set_cons_zero, List.set_cons_succ]
  refine take_nil (.tmp 13) ⟨q, 0, none⟩ rfl rfl rfl ?_
  simp only [Act.put, List.setIfInBounds_toArray, List.set_cons_zero, List.set_cons_succ]
  refine take_one (.pointer (some ⟨q, 2, none⟩)) rfl (fun u _ => by go_simp) ?_
  simp only [Act.put, List.setIfInBounds_toArray, List.set_cons_zero, List.set_cons_succ]
  refine take_load 3 (.tmp 15) ⟨q, 2, none⟩ (.int .i64 (max d.fuse (-1))) rfl rfl rfl (fun u hu => load_int _ _ _ _ (by rw [World.cell?_of_block hu]; exact C2.out)) ?_
  simp only [Act.put, List.setIfInBounds_toArray, List.set_cons_zero, List.set_cons_succ]
  refine take_move (.tmp 0) (.pointer (some ⟨q, 0, none⟩)) rfl rfl rfl ?_
  simp only [Act.put, List.setIfInBounds_toArray, List.set_cons_zero, List.set_cons_succ]
  refine take_nil (.tmp 17) ⟨q, 0, none⟩ rfl rfl rfl ?_
  simp only [Act.put, List.setIfInBounds_toArray, List.set_cons_zero, List.set_cons_succ]
  refine take_one (.pointer (some ⟨q, 3, none⟩)) rfl (fun u _ => by go_simp) ?_
  simp only [Act.put, List.setIfInBounds_toArray, List.set_cons_zero, List.set_cons_succ]
  refine take_load 4 (.tmp 19) ⟨q, 3, none⟩ (.bool d.down) rfl rfl rfl (fun u hu => load_bool _ _ _ _ (by rw [World.cell?_of_block hu]; exact C3.out)) ?_
  simp only [Act.put, List.setIfInBounds_toArray, List.set_cons_zero, List.set_cons_succ]
  refine take_done ?_
  refine mid_wp rfl (wp_append_row (.const (.slice none 0 0)) (.tmp 6) 45 rfl w.heap.size 9 i0 _ 1 16 Try.underlying45 Hi.out Hi0.out Hi1.out Hi2.out (by rfl) (by decide) (.slice none 0 0) 0 [] rfl (World.ownsRow_nil _ _ _ _) 0 _ d.n (secs d.fl d.n) rfl (World.ownsRow.drew H.out.rB) (secs_one _ _) (by unfold maxLen; omega) (by omega) (Nat.le_refl _) ?_)
  intro v1 w1 hown1 hg1 _
  have hb1 : Below w.heap.size w w1 := (Below.refl _ w).drew.grown hg1 (Nat.le_refl _) (fun k hk => by cases hk)
  clear hg1
  refine ⟨hb1.block q (H.out.lt q H.out.hq), ?_⟩
  rw [List.nil_append, Nat.zero_add] at hown1
  obtain ⟨g1, cap1, rfl⟩ : ∃ g1 cap1, v1 = .slice (some ⟨g1, 0, none⟩) d.n cap1 := by
    rcases hown1.2 with ⟨rfl, h0⟩ | ⟨g2, cap2, cur, rfl, _⟩
    · omega
    · exact ⟨_, _, rfl⟩
  have hrL : w1.ownsRow 0 73 2 vL d.L.length (puts d.L) := ownsRow_new H.out.rL hb1
  simp only [Act.put, List.setIfInBounds_toArray, List.set_cons_zero, List.set_cons_succ]
  refine mid_wp rfl (wp_append_row (.const (.slice none 0 0)) (.tmp 11) 57 rfl w1.heap.size 73 j0 _ 2 24 Try.underlying57 Hj.out Hj0.out Hj1.out Hj2.out (by rfl) (by decide) (.slice none 0 0) 0 [] rfl (World.ownsRow_nil _ _ _ _) 0 _ d.L.length (puts d.L) rfl hrL (puts_one _) (by unfold maxLen; omega) (by omega) (Nat.le_refl _) ?_)
  intro v2 w2 hown2 hg2 _
  have hb2 : Below w1.heap.size w1 w2 := (Below.refl _ w1).grown hg2 (Nat.le_refl _) (fun k hk => by cases hk)
  clear hg2
  have hsz1 := hb1.size
  have hb3 : Below w.heap.size w w2 := hb1.trans (hb2.mono hsz1)
  refine ⟨hb3.block q (H.out.lt q H.out.hq), ?_⟩
  rw [List.nil_append, Nat.zero_add] at hown2
  have hown12 : w2.ownsRow w.heap.size 9 1 (.slice (some ⟨g1, 0, none⟩) d.n cap1) d.n (secs d.fl d.n) := ownsRow_new hown1 hb2
  have hfin : RefIn (fun j => w.heap.size ≤ j ∧ j < w2.heap.size + 1) w2.heap.size d (w2.alloc (.cells (rcells d (.slice (some ⟨g1, 0, none⟩) d.n cap1) v2) 59)) (.slice (some ⟨g1, 0, none⟩) d.n cap1) v2 :=
    { hq := ⟨hb3.size, by omega⟩
      hB := fun k hk => by have := World.ownsRow.lt hown12 k hk; omega
      hL := fun k hk => by have := World.ownsRow.lt hown2 k hk; omega
      lt := fun k hk => by simp; omega
      row := heap_alloc_new w2 _
      rB := ownsRow_base (hown12.alloc _)
      rL := ownsRow_base (hown2.alloc _)
      cnt := H.out.cnt
      ok := H.out.ok }
  have hb4 : Below w.heap.size w (w2.alloc (.cells (rcells d (.slice (some ⟨g1, 0, none⟩) d.n cap1) v2) 59)) := hb3.alloc hb3.size _
  have Hfin := Lib.hid hfin; clear hfin
  have Hb4 := Lib.hid hb4; clear hb4
  have hq2 : (w2.alloc (.cells (rcells d (.slice (some ⟨g1, 0, none⟩) d.n cap1) v2) 59)).heap[q]? = w.heap[q]? := by
    rw [Below.heap_alloc w2 _ q (by have := H.out.lt q H.out.hq; have := hb3.size; omega)]
    exact hb3.block q (H.out.lt q H.out.hq)
  have hq1 : w2.heap[q]? = w.heap[q]? := hb3.block q (H.out.lt q H.out.hq)
  obtain ⟨a2, n2, k2, rfl⟩ : ∃ a2 n2 k2, v2 = .slice a2 n2 k2 := by
    rcases hown2.2 with ⟨rfl, _⟩ | ⟨g2, cap2, cur, rfl, _⟩ <;> exact ⟨_, _, _, rfl⟩
  clear hown1 hb1 hrL hown2 hb2 hb3 hown12 hsz1
  simp only [Act.put, List.setIfInBounds_toArray, List.set_cons_zero, List.set_cons_succ]
  refine mid_one (w' := w2) (.agg (rcells d (.slice (some ⟨g1, 0, none⟩) d.n cap1) (.slice a2 n2 k2))) rfl (by kernel_rfl) hq1 ?_
  simp only [Act.put, List.setIfInBounds_toArray, List.set_cons_zero, List.set_cons_succ]
  refine mid_one (w' := (w2.alloc (.cells (rcells d (.slice (some ⟨g1, 0, none⟩) d.n cap1) (.slice a2 n2 k2)) 59))) (.pointer (some ⟨w2.heap.size, 0, none⟩)) rfl (by kernel_rfl) hq2 ?_
  simp only [Act.put, List.setIfInBounds_toArray, List.set_cons_zero, List.set_cons_succ]
  refine mid_list ?_
  clear hq1 hq2
  go_wp2
  apply NoPanic.normal
  go_wp2
  go_ret
  exact ⟨_, rfl, Hb4.out, _, fun j hj => hj.1, _, _, Hfin.out⟩
end Go.Proofs.Ytjlkppdailkanaa
