/-
  Files, and the document's, that have the same.
-/
import Derived.Test.YtalklpnekbfehaaGreatFilDoB
import Derived.Test.YtalklpnekbfehaaGreatGoSkip
set_option linter.unusedVariables false
set_option maxRecDepth 100000
namespace Go.Proofs.YtalklpnekbfehaaGreat
open Go.RowKit

theorem docUsedM_any {p n : Nat} {l : List (ByteArray × ByteArray)} {w : World} (h : DocAt p n l w) (hs : Fil.sum (fls l) ≤ 1099511627) :
    Calls Tryz.prog 52 #[.pointer (some ⟨p, 0, none⟩)] w fun e w' => e = .returned (.int .i64 ((Fil.used (fls l) : Nat) : Int)) ∧ Below w.heap.size w w' := by
  obtain ⟨a, cap, hrow, hfl⟩ := h.row
  have c0 : w.cell? ⟨p, 0, none⟩ = some (.slice a l.length cap) := by rw [cell_of_row _ _ 0 _ _ _ hrow]; rfl
  have hus := docUsed_any (cap := cap) hfl hs
  have Hus := Lib.hid hus; clear hus
  clear h hrow hfl hs
  go_enter Tryz.func52, Tryz.ntmps52
  go_wp2_with fail
  refine Hus.out.mono ?_; rintro e w1 ⟨rfl, h1⟩
  go_wp2_with fail
  go_ret
  exact ⟨rfl, h1⟩
theorem DocAt.c1 {p n : Nat} {l : List (ByteArray × ByteArray)} {w : World} (h : DocAt p n l w) : w.cell? ⟨p, 1, none⟩ = some (.int .i64 ((Fil.arN n : Int) * 64 - 4)) := by
  obtain ⟨a, cap, hrow, hfl⟩ := h.row
  rw [cell_of_row _ _ 1 _ _ _ hrow]; rfl
/-- the files are the same ones -/
def sameF (r : Fil.Row) (l : List (ByteArray × ByteArray)) : Bool := decide (r = fls l)
theorem sameF_no {r : Fil.Row} {l : List (ByteArray × ByteArray)} (h : r ≠ fls l) : sameF r l = false := decide_eq_false h
theorem nam_fls (l : List (ByteArray × ByteArray)) : nam (fls l) = flNames l := by
  unfold nam fls flNames
  rw [List.map_map]
  apply List.map_congr_left
  intro x _
  exact Fil.ba_toList x.1
theorem ne_of_used {r : Fil.Row} {l : List (ByteArray × ByteArray)} (h : Fil.used r ≠ Fil.used (fls l)) : r ≠ fls l := fun e => h (by rw [e])
theorem ne_of_names {r : Fil.Row} {l : List (ByteArray × ByteArray)} (h : nam r ≠ flNames l) : r ≠ fls l := fun e => h (by rw [e, nam_fls])

set_option maxHeartbeats 4000000 in
theorem filSame_any {p pd pw bm p2 : Nat} {t : Fil.St} {l : List (ByteArray × ByteArray)} {w : World} (hF : FilRow p pd pw bm t w) (hD : DocAt p2 t.n l w) (hN : Fil.arN t.n ≤ 16384) (hll : l.length ≤ 1099511627) (hsum : Fil.sum (fls l) ≤ 1099511627) :
    Calls Tryz.prog 20 #[.pointer (some ⟨p, 0, none⟩), .pointer (some ⟨p2, 0, none⟩)] w fun e w' => e = .returned (.bool (sameF t.r l)) ∧ Below w.heap.size w w' := by
  have hl1 : (nam t.r).length ≤ 8796093022208 := by simp only [nam, List.length_map]; have := hF.len; omega
  have hl2 : (flNames l).length ≤ 8796093022208 := by simp only [flNames, List.length_map]; omega
  have hc : ∀ u, Below w.heap.size w u → u.cell? ⟨p2, 1, none⟩ = some (.int .i64 ((Fil.arN t.n : Int) * 64 - 4)) := fun u hu => (hD.new hu).c1
  have hb0 : Below w.heap.size w w.drew := (Below.refl _ w).drew
  obtain ⟨B, hBe⟩ : ∃ B, B = sameF t.r l := ⟨_, rfl⟩
  rw [← hBe]
  have HBe := Lib.hid hBe; clear hBe
  have HF := Lib.hid hF; clear hF
  have HD := Lib.hid hD; clear hD
  have HC := Lib.hid hc; clear hc
  by_cases h1 : nam t.r = flNames l
  case neg =>
    have hB : sameB (nam t.r) (flNames l) = false := decide_eq_false h1
    have HB := Lib.hid hB; clear hB
    have he := HBe.out
    rw [sameF_no (ne_of_names h1)] at he
    subst he
    clear h1 HBe
    go_enter Tryz.func20, Tryz.ntmps20
    go_wp2_with fail
    refine wp_region_phases [([0, 1, 2, 3, 5], [4, 6, 7, 8, 9, 10]), ([11, 13], [12, 14, 15, 16, 17]), ([18, 20, 21, 22, 23], [19, 24, 25])] (by kernel_rfl) (by kernel_rfl) (fun z => Below w.heap.size w z) hb0 ?_
    simp only [wpPhases, pick, List.filterMap_cons, List.filterMap_nil, List.getElem?_toArray, List.getElem?_cons_zero, List.getElem?_cons_succ]
    refine take_move (.tmp 0) (.pointer (some ⟨p, 0, none⟩)) rfl rfl rfl ?_
    simp only [Act.put, List.setIfInBounds_toArray, List.set_cons_zero, List.set_cons_succ]
    refine take_one (.bool false) rfl (fun u hu => by go_simp) ?_
    simp only [Act.put, List.setIfInBounds_toArray, List.set_cons_zero, List.set_cons_succ]
    refine take_move (.tmp 9) (.bool false) rfl rfl rfl ?_
    simp only [Act.put, List.setIfInBounds_toArray, List.set_cons_zero, List.set_cons_succ]
    refine take_move (.tmp 0) (.pointer (some ⟨p, 0, none⟩)) rfl rfl rfl ?_
    simp only [Act.put, List.setIfInBounds_toArray, List.set_cons_zero, List.set_cons_succ]
    refine take_move (.tmp 1) (.pointer (some ⟨p2, 0, none⟩)) rfl rfl rfl ?_
    simp only [Act.put, List.setIfInBounds_toArray, List.set_cons_zero, List.set_cons_succ]
    refine take_done ?_
    refine midk_wp rfl (call_wp 11 [.tmp 11] #[26] #[.pointer (some ⟨p, 0, none⟩)] rfl rfl rfl ?_)
    refine (fnames_any (HF.out.new hb0)).mono ?_
    rintro e w1 ⟨v1, rfl, ho1, h1⟩
    have hb1 := hb0.trans (h1.mono hb0.size)
    obtain ⟨a1, c1, rfl, hs1, _⟩ := ho1.strs
    refine ⟨_, rfl, hb1, ?_⟩
    simp only [Act.put, List.setIfInBounds_toArray, List.set_cons_zero, List.set_cons_succ]
    refine midk_wp rfl (call_wp 51 [.tmp 13] #[40] #[.pointer (some ⟨p2, 0, none⟩)] rfl rfl rfl ?_)
    refine (docNames_any (HD.out.new hb1) hll).mono ?_
    rintro e w2 ⟨v2, rfl, ho2, h2⟩
    have hb2 := hb1.trans (h2.mono hb1.size)
    obtain ⟨a2, c2, rfl, hs2, _⟩ := ho2.strs
    refine ⟨_, rfl, hb2, ?_⟩
    simp only [Act.put, List.setIfInBounds_toArray, List.set_cons_zero, List.set_cons_succ]
    refine midk_wp rfl (call_wp 27 [.tmp 12, .tmp 14] #[29, 29] #[.slice a1 (nam t.r).length c1, .slice a2 (flNames l).length c2] rfl rfl rfl ?_)
    refine (same_any a1 a2 _ _ c1 c2 (nam t.r) (flNames l) w2 (hs1.keep h2) hs2 hl1 hl2).mono ?_
    rintro e w3 ⟨rfl, h3⟩
    rw [HB.out]
    have hb3 := hb2.trans (h3.mono hb2.size)
    refine ⟨_, rfl, hb3, ?_⟩
    simp only [Act.put, List.setIfInBounds_toArray, List.set_cons_zero, List.set_cons_succ]
    refine midk_one (.bool true) rfl (by go_simp) hb3 ?_
    simp only [Act.put, List.setIfInBounds_toArray, List.set_cons_zero, List.set_cons_succ]
    refine midk_one (.bool true) rfl (by go_simp) hb3 ?_
    simp only [Act.put, List.setIfInBounds_toArray, List.set_cons_zero, List.set_cons_succ]
    refine midk_one (.bool true) rfl rfl hb3 ?_
    simp only [Act.put, List.setIfInBounds_toArray, List.set_cons_zero, List.set_cons_succ]
    refine take_skip rfl ?_
    simp only [Act.put, List.setIfInBounds_toArray, List.set_cons_zero, List.set_cons_succ]
    refine take_skip rfl ?_
    simp only [Act.put, List.setIfInBounds_toArray, List.set_cons_zero, List.set_cons_succ]
    refine take_done ?_
    refine midk_skip rfl hb3 ?_
    simp only [Act.put, List.setIfInBounds_toArray, List.set_cons_zero, List.set_cons_succ]
    refine midk_skip rfl hb3 ?_
    simp only [Act.put, List.setIfInBounds_toArray, List.set_cons_zero, List.set_cons_succ]
    refine midk_skip rfl hb3 ?_
    simp only [Act.put, List.setIfInBounds_toArray, List.set_cons_zero, List.set_cons_succ]
    refine midk_one (.bool true) rfl (by go_simp) hb3 ?_
    simp only [Act.put, List.setIfInBounds_toArray, List.set_cons_zero, List.set_cons_succ]
    refine midk_one (.bool true) rfl rfl hb3 ?_
    simp only [Act.put, List.setIfInBounds_toArray, List.set_cons_zero, List.set_cons_succ]
    refine take_skip rfl ?_
    simp only [Act.put, List.setIfInBounds_toArray, List.set_cons_zero, List.set_cons_succ]
    refine take_skip rfl ?_
    simp only [Act.put, List.setIfInBounds_toArray, List.set_cons_zero, List.set_cons_succ]
    refine take_skip rfl ?_
    simp only [Act.put, List.setIfInBounds_toArray, List.set_cons_zero, List.set_cons_succ]
    refine take_skip rfl ?_
    simp only [Act.put, List.setIfInBounds_toArray, List.set_cons_zero, List.set_cons_succ]
    refine take_skip rfl ?_
    simp only [Act.put, List.setIfInBounds_toArray, List.set_cons_zero, List.set_cons_succ]
    refine take_done ?_
    refine midk_skip rfl hb3 ?_
    simp only [Act.put, List.setIfInBounds_toArray, List.set_cons_zero, List.set_cons_succ]
    refine midk_skip rfl hb3 ?_
    simp only [Act.put, List.setIfInBounds_toArray, List.set_cons_zero, List.set_cons_succ]
    refine midk_one (.bool true) rfl (by go_simp) hb3 ?_
    simp only [Act.put, List.setIfInBounds_toArray, List.set_cons_zero, List.set_cons_succ]
    refine midk_end ?_
    have Hb := Lib.hid hb3; clear hb3
    clear hb0 hb1 hb2 h1 h2 h3 hs1 hs2 ho1 ho2
    go_wp2_with fail
    go_ret
    exact ⟨rfl, Hb.out⟩
  have hB : sameB (nam t.r) (flNames l) = true := decide_eq_true h1
  have HB := Lib.hid hB; clear hB
  by_cases h2 : Fil.used t.r = Fil.used (fls l)
  case neg =>
    have hu : (((Fil.used t.r : Nat) : Int) == ((Fil.used (fls l) : Nat) : Int)) = false := by rw [beq_eq_false_iff_ne]; intro e; exact h2 (by omega)
    have HU := Lib.hid (show ¬ ((Fil.used t.r : Nat) : Int) = ((Fil.used (fls l) : Nat) : Int) from fun e => h2 (by omega)); clear hu
    have he := HBe.out
    rw [sameF_no (ne_of_used h2)] at he
    subst he
    clear h1 h2 HBe
    go_enter Tryz.func20, Tryz.ntmps20
    go_wp2_with fail
    refine wp_region_phases [([0, 1, 2, 3, 5], [4, 6, 7, 8, 9, 10]), ([11, 13], [12, 14, 15, 16, 17]), ([18, 20, 21, 22, 23], [19, 24, 25])] (by kernel_rfl) (by kernel_rfl) (fun z => Below w.heap.size w z) hb0 ?_
    simp only [wpPhases, pick, List.filterMap_cons, List.filterMap_nil, List.getElem?_toArray, List.getElem?_cons_zero, List.getElem?_cons_succ]
    refine take_move (.tmp 0) (.pointer (some ⟨p, 0, none⟩)) rfl rfl rfl ?_
    simp only [Act.put, List.setIfInBounds_toArray, List.set_cons_zero, List.set_cons_succ]
    refine take_one (.bool false) rfl (fun u hu => by go_simp) ?_
    simp only [Act.put, List.setIfInBounds_toArray, List.set_cons_zero, List.set_cons_succ]
    refine take_move (.tmp 9) (.bool false) rfl rfl rfl ?_
    simp only [Act.put, List.setIfInBounds_toArray, List.set_cons_zero, List.set_cons_succ]
    refine take_move (.tmp 0) (.pointer (some ⟨p, 0, none⟩)) rfl rfl rfl ?_
    simp only [Act.put, List.setIfInBounds_toArray, List.set_cons_zero, List.set_cons_succ]
    refine take_move (.tmp 1) (.pointer (some ⟨p2, 0, none⟩)) rfl rfl rfl ?_
    simp only [Act.put, List.setIfInBounds_toArray, List.set_cons_zero, List.set_cons_succ]
    refine take_done ?_
    refine midk_wp rfl (call_wp 11 [.tmp 11] #[26] #[.pointer (some ⟨p, 0, none⟩)] rfl rfl rfl ?_)
    refine (fnames_any (HF.out.new hb0)).mono ?_
    rintro e w1 ⟨v1, rfl, ho1, h1⟩
    have hb1 := hb0.trans (h1.mono hb0.size)
    obtain ⟨a1, c1, rfl, hs1, _⟩ := ho1.strs
    refine ⟨_, rfl, hb1, ?_⟩
    simp only [Act.put, List.setIfInBounds_toArray, List.set_cons_zero, List.set_cons_succ]
    refine midk_wp rfl (call_wp 51 [.tmp 13] #[40] #[.pointer (some ⟨p2, 0, none⟩)] rfl rfl rfl ?_)
    refine (docNames_any (HD.out.new hb1) hll).mono ?_
    rintro e w2 ⟨v2, rfl, ho2, h2⟩
    have hb2 := hb1.trans (h2.mono hb1.size)
    obtain ⟨a2, c2, rfl, hs2, _⟩ := ho2.strs
    refine ⟨_, rfl, hb2, ?_⟩
    simp only [Act.put, List.setIfInBounds_toArray, List.set_cons_zero, List.set_cons_succ]
    refine midk_wp rfl (call_wp 27 [.tmp 12, .tmp 14] #[29, 29] #[.slice a1 (nam t.r).length c1, .slice a2 (flNames l).length c2] rfl rfl rfl ?_)
    refine (same_any a1 a2 _ _ c1 c2 (nam t.r) (flNames l) w2 (hs1.keep h2) hs2 hl1 hl2).mono ?_
    rintro e w3 ⟨rfl, h3⟩
    rw [HB.out]
    have hb3 := hb2.trans (h3.mono hb2.size)
    refine ⟨_, rfl, hb3, ?_⟩
    simp only [Act.put, List.setIfInBounds_toArray, List.set_cons_zero, List.set_cons_succ]
    refine midk_one (.bool false) rfl (by go_simp) hb3 ?_
    simp only [Act.put, List.setIfInBounds_toArray, List.set_cons_zero, List.set_cons_succ]
    refine midk_one (.bool false) rfl (by go_simp) hb3 ?_
    simp only [Act.put, List.setIfInBounds_toArray, List.set_cons_zero, List.set_cons_succ]
    refine midk_one (.bool false) rfl rfl hb3 ?_
    simp only [Act.put, List.setIfInBounds_toArray, List.set_cons_zero, List.set_cons_succ]
    refine take_move (.tmp 0) (.pointer (some ⟨p, 0, none⟩)) rfl rfl rfl ?_
    simp only [Act.put, List.setIfInBounds_toArray, List.set_cons_zero, List.set_cons_succ]
    refine take_move (.tmp 1) (.pointer (some ⟨p2, 0, none⟩)) rfl rfl rfl ?_
    simp only [Act.put, List.setIfInBounds_toArray, List.set_cons_zero, List.set_cons_succ]
    refine take_done ?_
    refine midk_wp rfl (call_wp 12 [.tmp 19] #[26] #[.pointer (some ⟨p, 0, none⟩)] rfl rfl rfl ?_)
    refine (fused_any (HF.out.new hb3)).mono ?_
    rintro e w4 ⟨rfl, h4⟩
    have hb4 := hb3.trans (h4.mono hb3.size)
    refine ⟨_, rfl, hb4, ?_⟩
    simp only [Act.put, List.setIfInBounds_toArray, List.set_cons_zero, List.set_cons_succ]
    refine midk_wp rfl (call_wp 52 [.tmp 21] #[40] #[.pointer (some ⟨p2, 0, none⟩)] rfl rfl rfl ?_)
    refine (docUsedM_any (HD.out.new hb4) hsum).mono ?_
    rintro e w5 ⟨rfl, h5⟩
    have hb5 := hb4.trans (h5.mono hb4.size)
    refine ⟨_, rfl, hb5, ?_⟩
    simp only [Act.put, List.setIfInBounds_toArray, List.set_cons_zero, List.set_cons_succ]
    refine midk_one (.bool true) rfl (by go_simp; exact HU.out) hb5 ?_
    simp only [Act.put, List.setIfInBounds_toArray, List.set_cons_zero, List.set_cons_succ]
    refine midk_one (.bool true) rfl (by go_simp) hb5 ?_
    simp only [Act.put, List.setIfInBounds_toArray, List.set_cons_zero, List.set_cons_succ]
    refine midk_one (.bool true) rfl rfl hb5 ?_
    simp only [Act.put, List.setIfInBounds_toArray, List.set_cons_zero, List.set_cons_succ]
    refine take_skip rfl ?_
    simp only [Act.put, List.setIfInBounds_toArray, List.set_cons_zero, List.set_cons_succ]
    refine take_skip rfl ?_
    simp only [Act.put, List.setIfInBounds_toArray, List.set_cons_zero, List.set_cons_succ]
    refine take_skip rfl ?_
    simp only [Act.put, List.setIfInBounds_toArray, List.set_cons_zero, List.set_cons_succ]
    refine take_skip rfl ?_
    simp only [Act.put, List.setIfInBounds_toArray, List.set_cons_zero, List.set_cons_succ]
    refine take_skip rfl ?_
    simp only [Act.put, List.setIfInBounds_toArray, List.set_cons_zero, List.set_cons_succ]
    refine take_done ?_
    refine midk_skip rfl hb5 ?_
    simp only [Act.put, List.setIfInBounds_toArray, List.set_cons_zero, List.set_cons_succ]
    refine midk_skip rfl hb5 ?_
    simp only [Act.put, List.setIfInBounds_toArray, List.set_cons_zero, List.set_cons_succ]
    refine midk_one (.bool true) rfl (by go_simp) hb5 ?_
    simp only [Act.put, List.setIfInBounds_toArray, List.set_cons_zero, List.set_cons_succ]
    refine midk_end ?_
    have Hb := Lib.hid hb5; clear hb5
    clear hb0 hb1 hb2 hb3 hb4 h1 h2 h3 h4 h5 hs1 hs2 ho1 ho2
    go_wp2_with fail
    go_ret
    exact ⟨rfl, Hb.out⟩
  have HU := Lib.hid (show ((Fil.used t.r : Nat) : Int) = ((Fil.used (fls l) : Nat) : Int) by rw [h2])
  have H1 := Lib.hid h1; clear h1 h2
  go_enter Tryz.func20, Tryz.ntmps20
  go_wp2_with fail
  refine wp_region_phases [([0, 1, 2, 3, 5], [4, 6, 7, 8, 9, 10]), ([11, 13], [12, 14, 15, 16, 17]), ([18, 20, 21, 22, 23], [19, 24, 25])] (by kernel_rfl) (by kernel_rfl) (fun z => Below w.heap.size w z) hb0 ?_
  simp only [wpPhases, pick, List.filterMap_cons, List.filterMap_nil, List.getElem?_toArray, List.getElem?_cons_zero, List.getElem?_cons_succ]
  refine take_move (.tmp 0) (.pointer (some ⟨p, 0, none⟩)) rfl rfl rfl ?_
  simp only [Act.put, List.setIfInBounds_toArray, List.set_cons_zero, List.set_cons_succ]
  refine take_one (.bool false) rfl (fun u hu => by go_simp) ?_
  simp only [Act.put, List.setIfInBounds_toArray, List.set_cons_zero, List.set_cons_succ]
  refine take_move (.tmp 9) (.bool false) rfl rfl rfl ?_
  simp only [Act.put, List.setIfInBounds_toArray, List.set_cons_zero, List.set_cons_succ]
  refine take_move (.tmp 0) (.pointer (some ⟨p, 0, none⟩)) rfl rfl rfl ?_
  simp only [Act.put, List.setIfInBounds_toArray, List.set_cons_zero, List.set_cons_succ]
  refine take_move (.tmp 1) (.pointer (some ⟨p2, 0, none⟩)) rfl rfl rfl ?_
  simp only [Act.put, List.setIfInBounds_toArray, List.set_cons_zero, List.set_cons_succ]
  refine take_done ?_
  refine midk_wp rfl (call_wp 11 [.tmp 11] #[26] #[.pointer (some ⟨p, 0, none⟩)] rfl rfl rfl ?_)
  refine (fnames_any (HF.out.new hb0)).mono ?_
  rintro e w1 ⟨v1, rfl, ho1, h1⟩
  have hb1 := hb0.trans (h1.mono hb0.size)
  obtain ⟨a1, c1, rfl, hs1, _⟩ := ho1.strs
  refine ⟨_, rfl, hb1, ?_⟩
  simp only [Act.put, List.setIfInBounds_toArray, List.set_cons_zero, List.set_cons_succ]
  refine midk_wp rfl (call_wp 51 [.tmp 13] #[40] #[.pointer (some ⟨p2, 0, none⟩)] rfl rfl rfl ?_)
  refine (docNames_any (HD.out.new hb1) hll).mono ?_
  rintro e w2 ⟨v2, rfl, ho2, h2⟩
  have hb2 := hb1.trans (h2.mono hb1.size)
  obtain ⟨a2, c2, rfl, hs2, _⟩ := ho2.strs
  refine ⟨_, rfl, hb2, ?_⟩
  simp only [Act.put, List.setIfInBounds_toArray, List.set_cons_zero, List.set_cons_succ]
  refine midk_wp rfl (call_wp 27 [.tmp 12, .tmp 14] #[29, 29] #[.slice a1 (nam t.r).length c1, .slice a2 (flNames l).length c2] rfl rfl rfl ?_)
  refine (same_any a1 a2 _ _ c1 c2 (nam t.r) (flNames l) w2 (hs1.keep h2) hs2 hl1 hl2).mono ?_
  rintro e w3 ⟨rfl, h3⟩
  rw [HB.out]
  have hb3 := hb2.trans (h3.mono hb2.size)
  refine ⟨_, rfl, hb3, ?_⟩
  simp only [Act.put, List.setIfInBounds_toArray, List.set_cons_zero, List.set_cons_succ]
  refine midk_one (.bool false) rfl (by go_simp) hb3 ?_
  simp only [Act.put, List.setIfInBounds_toArray, List.set_cons_zero, List.set_cons_succ]
  refine midk_one (.bool false) rfl (by go_simp) hb3 ?_
  simp only [Act.put, List.setIfInBounds_toArray, List.set_cons_zero, List.set_cons_succ]
  refine midk_one (.bool false) rfl rfl hb3 ?_
  simp only [Act.put, List.setIfInBounds_toArray, List.set_cons_zero, List.set_cons_succ]
  refine take_move (.tmp 0) (.pointer (some ⟨p, 0, none⟩)) rfl rfl rfl ?_
  simp only [Act.put, List.setIfInBounds_toArray, List.set_cons_zero, List.set_cons_succ]
  refine take_move (.tmp 1) (.pointer (some ⟨p2, 0, none⟩)) rfl rfl rfl ?_
  simp only [Act.put, List.setIfInBounds_toArray, List.set_cons_zero, List.set_cons_succ]
  refine take_done ?_
  refine midk_wp rfl (call_wp 12 [.tmp 19] #[26] #[.pointer (some ⟨p, 0, none⟩)] rfl rfl rfl ?_)
  refine (fused_any (HF.out.new hb3)).mono ?_
  rintro e w4 ⟨rfl, h4⟩
  have hb4 := hb3.trans (h4.mono hb3.size)
  refine ⟨_, rfl, hb4, ?_⟩
  simp only [Act.put, List.setIfInBounds_toArray, List.set_cons_zero, List.set_cons_succ]
  refine midk_wp rfl (call_wp 52 [.tmp 21] #[40] #[.pointer (some ⟨p2, 0, none⟩)] rfl rfl rfl ?_)
  refine (docUsedM_any (HD.out.new hb4) hsum).mono ?_
  rintro e w5 ⟨rfl, h5⟩
  have hb5 := hb4.trans (h5.mono hb4.size)
  refine ⟨_, rfl, hb5, ?_⟩
  simp only [Act.put, List.setIfInBounds_toArray, List.set_cons_zero, List.set_cons_succ]
  refine midk_one (.bool false) rfl (by go_simp; exact HU.out) hb5 ?_
  simp only [Act.put, List.setIfInBounds_toArray, List.set_cons_zero, List.set_cons_succ]
  refine midk_one (.bool false) rfl (by go_simp) hb5 ?_
  simp only [Act.put, List.setIfInBounds_toArray, List.set_cons_zero, List.set_cons_succ]
  refine midk_one (.bool false) rfl rfl hb5 ?_
  simp only [Act.put, List.setIfInBounds_toArray, List.set_cons_zero, List.set_cons_succ]
  refine take_move (.tmp 0) (.pointer (some ⟨p, 0, none⟩)) rfl rfl rfl ?_
  simp only [Act.put, List.setIfInBounds_toArray, List.set_cons_zero, List.set_cons_succ]
  refine take_move (.tmp 1) (.pointer (some ⟨p2, 0, none⟩)) rfl rfl rfl ?_
  simp only [Act.put, List.setIfInBounds_toArray, List.set_cons_zero, List.set_cons_succ]
  refine take_nil (.tmp 28) ⟨p2, 0, none⟩ rfl rfl rfl ?_
  simp only [Act.put, List.setIfInBounds_toArray, List.set_cons_zero, List.set_cons_succ]
  refine take_one (.pointer (some ⟨p2, 1, none⟩)) rfl (fun u _ => by go_simp) ?_
  simp only [Act.put, List.setIfInBounds_toArray, List.set_cons_zero, List.set_cons_succ]
  refine take_load 3 (.tmp 30) ⟨p2, 1, none⟩ (.int .i64 ((Fil.arN t.n : Int) * 64 - 4)) rfl rfl rfl (fun u hu => load_any Tryz.underlying3 Tryz.isAgg3 (HC.out u hu)) ?_
  simp only [Act.put, List.setIfInBounds_toArray, List.set_cons_zero, List.set_cons_succ]
  refine take_done ?_
  refine midk_wp rfl (call_wp 13 [.tmp 26] #[26] #[.pointer (some ⟨p, 0, none⟩)] rfl rfl rfl ?_)
  refine (froom_any (HF.out.new hb5) hN).mono ?_
  rintro e w6 ⟨rfl, h6⟩
  have hb6 := hb5.trans (h6.mono hb5.size)
  refine ⟨_, rfl, hb6, ?_⟩
  simp only [Act.put, List.setIfInBounds_toArray, List.set_cons_zero, List.set_cons_succ]
  refine midk_one (.bool false) rfl (by go_simp) hb6 ?_
  simp only [Act.put, List.setIfInBounds_toArray, List.set_cons_zero, List.set_cons_succ]
  refine midk_one (.bool false) rfl (by go_simp) hb6 ?_
  simp only [Act.put, List.setIfInBounds_toArray, List.set_cons_zero, List.set_cons_succ]
  refine midk_end ?_
  have Hb := Lib.hid hb6; clear hb6
  clear hb0 hb1 hb2 hb3 hb4 hb5 h1 h2 h3 h4 h5 h6 hs1 hs2 ho1 ho2
  go_wp2_with fail
  have hlen : t.r.length = l.length := by
    have := congrArg List.length H1.out
    simpa [nam, flNames] using this
  have hat : ∀ k (hk : k < l.length), ∃ x, t.r[k]? = some x ∧ x.1 = (l.getD k (.empty, .empty)).1.data.toList := fun k hk => by
    refine ⟨t.r[k]'(by omega), List.getElem?_eq_getElem (by omega), ?_⟩
    have h := congrArg (fun z => z[k]?) H1.out
    simp only [nam, flNames, List.getElem?_map] at h
    rw [List.getElem?_eq_getElem (show k < t.r.length by omega), List.getElem?_eq_getElem hk] at h
    have h2 : ba (t.r[k]'(by omega)).1 = (l[k]).1 := by simpa using h
    rw [List.getD_eq_getElem?_getD, List.getElem?_eq_getElem hk, Option.getD_some, ← h2]
    rfl
  obtain ⟨a0, cap0, hrow0, hfl0⟩ := HD.out.row
  obtain ⟨M, hM⟩ : ∃ M, M = l.length := ⟨_, rfl⟩
  rw [← hM] at hrow0 hfl0 hll hlen
  have HM := Lib.hid hM; clear hM
  have Hlen := Lib.hid hlen; clear hlen
  have Hat := Lib.hid hat; clear hat
  have Hrow := Lib.hid hrow0; clear hrow0
  have Hfl := Lib.hid hfl0; clear hfl0
  clear hsum hl1 hl2 HU H1 HC HB
  go_loopw [5] (fun iv wr => ∃ k : Nat, k ≤ M ∧ iv = .int .i64 (k : Int) ∧ (∀ j, j < k → t.r[j]? = (fls l)[j]?) ∧ Below w.heap.size w wr) (fun iv _ => M - (intOf iv).toNat)
  case atStart => exact ⟨0, by omega, rfl, fun j hj => by omega, Hb.out⟩
  case round =>
    obtain ⟨k, hk, rfl, hall, hb⟩ := hrel
    have Hall := Lib.hid hall; clear hall
    have HbR := Lib.hid hb; clear hb
    have c0 : wr.cell? ⟨p2, 0, none⟩ = some (.slice a0 M cap0) := by
      have : wr.heap[p2]? = some (docF (.slice a0 M cap0) t.n) := by rw [HbR.out.block p2 (row_lt Hrow.out)]; exact Hrow.out
      rw [cell_of_row _ _ 0 _ _ _ this]; rfl
    by_cases hlt : k < M
    · have hlt2 : (k : Int) < (M : Int) := by omega
      have hkl : k < l.length := by rw [← HM.out]; exact hlt
      obtain ⟨b, off, rfl, d1, d2⟩ := (Hfl.out.keep HbR.out).2 k hlt
      obtain ⟨x, hx1, hx2⟩ := Hat.out k hkl
      have hfk : (fls l)[k]? = some ((l.getD k (.empty, .empty)).1.data.toList, (l.getD k (.empty, .empty)).2.data.toList) := by
        unfold fls
        rw [List.getElem?_map, List.getElem?_eq_getElem hkl, List.getD_eq_getElem?_getD, List.getElem?_eq_getElem hkl]; rfl
      obtain ⟨y1, hy1⟩ : ∃ y, y = (l.getD k (.empty, .empty)).1 := ⟨_, rfl⟩
      obtain ⟨y2, hy2⟩ : ∃ y, y = (l.getD k (.empty, .empty)).2 := ⟨_, rfl⟩
      rw [← hy1] at d1 hx2 hfk
      rw [← hy2] at d2 hfk
      have hfr := HF.out.new HbR.out
      have hfine := hfr.fine x (List.mem_of_getElem? hx1)
      have hsz : y1.size ≤ 32 := by have := hfine.2.1; rw [hx2, ba_len] at this; exact this
      have hget : Fil.get t.r y1.data.toList = some x.2 := by rw [← hx2]; exact Fil.get_at hfr.srt hx1
      have hz2 : x.2.length ≤ 65535 := hfine.2.2
      have ag := fget_any hfr y1 (by omega)
      rw [hget] at ag
      simp only [Option.getD_some, Option.isSome_some] at ag
      have as_ := fun u hu => fsize_any (w := u) (hfr.new hu) y1 (by omega)
      rw [hget] at as_
      simp only [Option.getD_some] at as_
      have kp : ∀ u, Below wr.heap.size wr u → u.cell? ⟨p2, 0, none⟩ = some (.slice (some ⟨b, off, none⟩) M cap0) ∧ u.cell? ⟨b, off + k * 2, none⟩ = some (.string y1) ∧ u.cell? ⟨b, off + k * 2 + 1, none⟩ = some (.string y2) := fun u hu =>
        ⟨by rw [World.cell?_of_block (hu.block p2 (cell_lt c0))]; exact c0, by rw [World.cell?_of_block (hu.block b (cell_lt d1))]; exact d1, by rw [World.cell?_of_block (hu.block b (cell_lt d1))]; exact d2⟩
      have Ag := Lib.hid ag; clear ag
      have As := Lib.hid as_; clear as_
      have Kp := Lib.hid kp; clear kp
      by_cases hq : x.2 = y2.data.toList
      · have e2 : ba x.2 = y2 := by rw [hq, Fil.ba_toList]
        have e3 : (x.2.length : Int) = (y2.size : Int) := by rw [hq, ba_len]
        rw [e2] at Ag
        rw [e3] at As
        have hall2 : ∀ j, j < k + 1 → t.r[j]? = (fls l)[j]? := fun j hj => by
          by_cases e : j = k
          · subst e; rw [hx1, hfk, ← hx2, ← hq]
          · exact Hall.out j (by omega)
        have Hall2 := Lib.hid hall2; clear hall2
        clear hx1 hx2 hfk hy1 hy2 hfr hfine hget hz2 hq e2 e3
        go_wp2_with fail
        refine Ag.out.mono ?_; rintro e w8 ⟨rfl, h8⟩
        obtain ⟨c0', d1', d2'⟩ := Kp.out _ h8
        have As8 := Lib.hid (As.out _ h8)
        have Hb8 := Lib.hid (HbR.out.trans (h8.mono HbR.out.size)); clear h8
        clear c0 d1 d2
        go_wp2_with fail
        refine As8.out.mono ?_; rintro e w9 ⟨rfl, rfl⟩
        go_wp2_with fail
        go_roundw
        case rel => exact ⟨k + 1, by omega, by go_num, Hall2.out, Hb8.out⟩
        case measure => simp [intOf]; omega
      · have hne : t.r ≠ fls l := fun e => by
          have h3 := congrArg (fun z => z[k]?) e
          simp only [hx1, hfk, Option.some.injEq] at h3
          exact hq (by rw [h3])
        have he := HBe.out
        rw [sameF_no hne] at he
        subst he
        have heq : ((ba x.2).toList == y2.toList) = false := by
          rw [Lib.toList_data, Lib.toList_data, beq_eq_false_iff_ne]
          exact hq
        generalize ba x.2 = y3 at *
        clear hx1 hx2 hfk hy1 hy2 hfr hfine hget hz2 hq hne As
        go_wp2_with fail
        refine Ag.out.mono ?_; rintro e w8 ⟨rfl, h8⟩
        obtain ⟨c0', d1', d2'⟩ := Kp.out _ h8
        have Hb8 := Lib.hid (HbR.out.trans (h8.mono HbR.out.size)); clear h8
        clear c0 d1 d2
        go_wp2_with fail
        go_ret
        exact ⟨rfl, Hb8.out⟩
    · obtain rfl : k = M := by omega
      have hlt2 : ¬ (k : Int) < (k : Int) := by omega
      have he : t.r = fls l := by
        apply List.ext_getElem?
        intro j
        by_cases hj : j < k
        · exact Hall.out j hj
        · rw [List.getElem?_eq_none (by rw [Hlen.out]; omega), List.getElem?_eq_none (by simp [fls]; rw [← HM.out]; omega)]
      have hB := HBe.out
      rw [show sameF t.r l = true from decide_eq_true he] at hB
      subst hB
      clear he
      go_wp2_with fail
      go_ret
      exact ⟨rfl, HbR.out⟩
end Go.Proofs.YtalklpnekbfehaaGreat
