/-
  The document's disk: New.
-/
import Derived.Test.YtjlkppdailkanaaRefRead
import Derived.Test.YtjlkppdailkanaaGoAny
set_option linter.unusedVariables false
namespace Go.Proofs.Ytjlkppdailkanaa
open Go.RowKit

theorem slice_str (s : ByteArray) (w : World) : (Instr.buildSlice 45 1 #[(0, .string s)]).run Try.prog w = .ok (.slice (some ⟨w.heap.size, 0, none⟩) 1 1) (w.alloc (.cells #[.string s] 9)) := by
  obtain ⟨i, hi, h0, h1, h2⟩ := info_parts str_info
  have hf := Great.fill_whole (s := 1) (by omega) [.string s] ((Array.range (1 * 1)).map ((Value.string .empty).cells[· % (Value.string .empty).cells.size]!)) (fun v hv => by simp at hv; subst hv; rfl) (by simp)
  refine run_buildSlice w 45 9 1 _ #[.string s] i _ Try.underlying45 hi h0 (by rw [h1]; decide) (by rw [h1]; decide) ?_
  rw [h1]
  have e : ([Value.string s].flatMap fun v => v.cells.toList).toArray = #[.string s] := by simp [Value.cells]
  rw [e] at hf
  exact hf
theorem load_strs (p j : Nat) (v : Value) (u : World) (h : u.cell? ⟨p, j, none⟩ = some v) : (Instr.loadAt 45 (.pointer (some ⟨p, j, none⟩))).run Try.prog u = .ok v u := by
  go_simp

theorem zers_snoc (n : Nat) : secs (fun _ => Dsk.zer) (n + 1) = secs (fun _ => Dsk.zer) n ++ [secv Dsk.zer] := secs_snoc _ n

set_option maxHeartbeats 1000000 in
theorem refNew_any (n : Nat) (h1 : 1 ≤ n) (h2 : n ≤ 16384) (w : World) : Calls Try.prog 11 #[.int .i64 (n : Int)] w fun e w' =>
    e = .returned (.pointer (some ⟨w.heap.size, 0, none⟩)) ∧ Below w.heap.size w w' ∧ RefAt (fun j => w.heap.size ≤ j ∧ j < w'.heap.size) w.heap.size (Dsk.new n) w' := by
  obtain ⟨b, hb⟩ : ∃ b, b = w.heap.size := ⟨_, rfl⟩
  have hrow0 : (w.alloc (.cells #[.slice none 0 0, .slice none 0 0, .int .i64 (-1), .bool false] 59)).heap[b]? = some (.cells #[.slice none 0 0, .slice none 0 0, .int .i64 (-1), .bool false] 59 (0, 0)) := by rw [hb]; exact heap_alloc_new w _
  have hbel0 : Below b w (w.alloc (.cells #[.slice none 0 0, .slice none 0 0, .int .i64 (-1), .bool false] 59)) := (Below.refl _ w).alloc (by omega) _
  have hsz0 : b < (w.alloc (.cells #[.slice none 0 0, .slice none 0 0, .int .i64 (-1), .bool false] 59)).heap.size := by simp; omega
  have Hrow0 := Lib.hid hrow0; clear hrow0
  have Hbel0 := Lib.hid hbel0; clear hbel0
  have Hsz0 := Lib.hid hsz0; clear hsz0
  go_enter Try.func11, Try.ntmps11
  go_wp2
  rw [← hb]
  have Hb := Lib.hid hb; clear hb
  go_loopw [4] (fun i wr => ∃ (k : Nat) (vB : Value), k ≤ n ∧ i = .int .i64 (k : Int) ∧ wr.heap[b]? = some (.cells #[vB, .slice none 0 0, .int .i64 (-1), .bool false] 59 (0, 0)) ∧ wr.ownsRow (b + 1) 9 1 vB k (secs (fun _ => Dsk.zer) k) ∧ Below b w wr ∧ b < wr.heap.size) (fun i _ => n - (intOf i).toNat)
  case atStart => exact ⟨0, _, by omega, rfl, Hrow0.out, World.ownsRow_nil _ _ _ _, Hbel0.out, Hsz0.out⟩
  case round =>
    obtain ⟨k, vB, hk, rfl, hrow, hown, hbel, hsz⟩ := hrel
    have Hrow := Lib.hid hrow; clear hrow
    have Hown := Lib.hid hown; clear hown
    have Hbel := Lib.hid hbel; clear hbel
    by_cases hlt : k < n
    · have c0 : wr.cell? ⟨b, 0, none⟩ = some vB := by rw [cell_of_row wr b 0 _ _ _ Hrow.out]; rfl
      have C0 := Lib.hid c0; clear c0
      obtain ⟨i0, hi, hi0, hi1, hi2⟩ := info_parts str_info
      have Hi := Lib.hid hi; clear hi
      have Hi0 := Lib.hid hi0; clear hi0
      have Hi1 := Lib.hid hi1; clear hi1
      have Hi2 := Lib.hid hi2; clear hi2
      go_wp2
      refine wp_region_mid_np 5 8 (by kernel_rfl) (by kernel_rfl) (fun u => u.cell? ⟨b, 0, none⟩ = some vB) C0.out ?_
      simp only [List.take_succ_cons, List.take_zero, List.drop_succ_cons, List.drop_zero, Nat.reduceSub]
      refine take_move (.tmp 3) (.pointer (some ⟨b, 0, none⟩)) rfl rfl rfl ?_
      simp only [Act.put, List.setIfInBounds_toArray, List.set_cons_zero, List.set_cons_succ]
      refine take_move (.tmp 3) (.pointer (some ⟨b, 0, none⟩)) rfl rfl rfl ?_
      simp only [Act.put, List.setIfInBounds_toArray, List.set_cons_zero, List.set_cons_succ]
      refine take_nil (.tmp 13) ⟨b, 0, none⟩ rfl rfl rfl ?_
      simp only [Act.put, List.setIfInBounds_toArray, List.set_cons_zero, List.set_cons_succ]
      refine take_one (.pointer (some ⟨b, 0, none⟩)) rfl (fun u _ => by go_simp) ?_
      simp only [Act.put, List.setIfInBounds_toArray, List.set_cons_zero, List.set_cons_succ]
      refine take_load 45 (.tmp 15) ⟨b, 0, none⟩ vB rfl rfl rfl (fun u hu => load_strs _ _ _ _ hu) ?_
      simp only [Act.put, List.setIfInBounds_toArray, List.set_cons_zero, List.set_cons_succ]
      refine take_done ?_
      refine mid_wp rfl (call_wp 27 [] #[] #[] rfl rfl rfl ?_)
      refine (zero_any _).mono ?_; rintro e w1 ⟨rfl, hb1⟩
      have hrow1 : w1.heap[b]? = some (.cells #[vB, .slice none 0 0, .int .i64 (-1), .bool false] 59 (0, 0)) := row_below (w := wr.drew) Hrow.out hb1 hsz
      have hown1 : w1.ownsRow (b + 1) 9 1 vB k (secs (fun _ => Dsk.zer) k) := World.ownsRow.kept (w := wr.drew) Hown.out (grown_of_below hb1 none) (by cases vB.ownBlock <;> simp)
      have hbel1 : Below b w w1 := (Hbel.out.drew).trans (hb1.mono (by show b ≤ wr.heap.size; omega))
      have hsz1 : b < w1.heap.size := Nat.lt_of_lt_of_le hsz hb1.size
      refine ⟨_, rfl, by rw [cell_of_row w1 b 0 _ _ _ hrow1]; rfl, ?_⟩
      clear hb1
      simp only [Act.put, List.setIfInBounds_toArray, List.set_cons_zero, List.set_cons_succ]
      refine mid_one (w' := w1.alloc (.cells #[secv Dsk.zer] 9)) (.slice (some ⟨w1.heap.size, 0, none⟩) 1 1) rfl ?_ ?_ ?_
      · exact run_slice_op 45 1 [(0, .tmp 17)] rfl (slice_str _ w1)
      · rw [World.cell?_of_block (Below.heap_alloc w1 _ b hsz1), cell_of_row w1 b 0 _ _ _ hrow1]; rfl
      refine mid_wp rfl (wp_append_lies _ (.tmp 16) (.tmp 18) 45 rfl (b + 1) 9 i0 _ 1 16 Try.underlying45 Hi.out Hi0.out Hi1.out Hi2.out (by rfl) (by decide) vB k (secs (fun _ => Dsk.zer) k) rfl (hown1.alloc _) ⟨w1.heap.size, 0, none⟩ 1 1 [secv Dsk.zer] rfl rfl (World.news_of_block (cs := #[secv Dsk.zer]) (heap_alloc_new w1 _)) (by intro u hu; simp at hu; subst hu; rfl) (by decide) (by unfold maxLen; omega) (by omega) (by simp; omega) (w1.heap.size + 1) (by simp) ?_)
      intro g cap w4 hown4 hg4 hat hgl
      have hnb : vB.ownBlock ≠ some b := fun e => by have := (World.ownsRow.lt hown1 b e).1; omega
      have hrow4 : w4.heap[b]? = some (.cells #[vB, .slice none 0 0, .int .i64 (-1), .bool false] 59 (0, 0)) := by
        rw [hg4.block b (by simp; omega) (fun e => hnb e.symm)]
        exact row_alloc hrow1 _
      have hbel4 : Below b w w4 := (hbel1.alloc (by omega) _).grown hg4 (by simp; omega) (fun j hj => by have := (World.ownsRow.lt hown1 j hj).1; omega)
      have hsz4 : b < w4.heap.size := by have := hg4.size; simp at this; omega
      have hgb : b + 1 ≤ g := (World.ownsRow.lt hown4 g rfl).1
      rw [← zers_snoc] at hown4
      have c4 : w4.cell? ⟨b, 0, none⟩ = some vB := by rw [cell_of_row w4 b 0 _ _ _ hrow4]; rfl
      have f4 := row_free hrow4 0
      refine ⟨c4, mid_list ?_⟩
      have hrow5 := heap_setCell_same w4 b 0 _ _ (.slice (some ⟨g, 0, none⟩) (k + 1) cap) hrow4
      have hown5 : (w4.setCell ⟨b, 0, none⟩ (.slice (some ⟨g, 0, none⟩) (k + 1) cap)).ownsRow (b + 1) 9 1 (.slice (some ⟨g, 0, none⟩) (k + 1) cap) (k + 1) (secs (fun _ => Dsk.zer) (k + 1)) := ownsRow_same hown4 (fun j hj => heap_setCell_other _ _ _ _ (by have : g = j := (by simpa [Value.ownBlock] using hj); simp; omega))
      have hbel5 : Below b w (w4.setCell ⟨b, 0, none⟩ (.slice (some ⟨g, 0, none⟩) (k + 1) cap)) := hbel4.setCell (p := ⟨b, 0, none⟩) (Nat.le_refl _) _
      have hsz5 : b < (w4.setCell ⟨b, 0, none⟩ (.slice (some ⟨g, 0, none⟩) (k + 1) cap)).heap.size := by simpa [World.setCell] using hsz4
      have Hrow5 := Lib.hid hrow5; clear hrow5
      have Hown5 := Lib.hid hown5; clear hown5
      have Hbel5 := Lib.hid hbel5; clear hbel5
      have Hsz5 := Lib.hid hsz5; clear hsz5
      clear hrow1 hown1 hbel1 hsz1 hown4 hg4 hat hgl hrow4 hbel4 hsz4
      go_wp2
      apply NoPanic.normal
      go_wp2
      go_roundw
      case rel => exact ⟨k + 1, _, by omega, by go_num, Hrow5.out, Hown5.out, Hbel5.out, Hsz5.out⟩
      case measure => simp [intOf]; omega
    · obtain rfl : k = n := by omega
      have hfin : RefIn (fun j => b ≤ j ∧ j < wr.heap.size) b (Dsk.new k) wr vB (.slice none 0 0) :=
        { hq := ⟨Nat.le_refl _, hsz⟩
          hB := fun j hj => by have := World.ownsRow.lt Hown.out j hj; omega
          hL := fun j hj => by simp [Value.ownBlock] at hj
          lt := fun j hj => hj.2
          row := Hrow.out
          rB := ownsRow_base Hown.out
          rL := World.ownsRow_nil _ _ _ _
          cnt := Nat.le_refl _
          ok := Dsk.new_ok h1 h2 }
      have Hfin := Lib.hid hfin; clear hfin
      go_wp2
      go_ret
      rw [← Hb.out]
      exact ⟨rfl, Hbel.out, _, _, Hfin.out⟩
end Go.Proofs.Ytjlkppdailkanaa
