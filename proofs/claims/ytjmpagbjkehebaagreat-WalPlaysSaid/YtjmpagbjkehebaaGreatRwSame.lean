/-
  A log, and the document's, that have the same.
-/
import Derived.Test.YtjmpagbjkehebaaGreatRwApp
import Derived.Test.YtjmpagbjkehebaaGreatWalSame
import Derived.Test.YtjmpagbjkehebaaGreatWalSmall
set_option linter.unusedVariables false
set_option maxRecDepth 100000
namespace Go.Proofs.YtjmpagbjkehebaaGreat
open Go.RowKit

set_option maxHeartbeats 1000000 in
theorem wlSame_any {R1 R2 : Nat → Prop} {p q p2 q2 m : Nat} {s : Wal.St} {w : World} (hw : WalAt R1 p q s w) (hx : RwAt R2 p2 q2 s w) (hs : s.Ok m) :
    Calls Tryz.prog 24 #[.pointer (some ⟨p, 0, none⟩), .pointer (some ⟨p2, 0, none⟩)] w fun e w' => e = .returned (.bool true) ∧ Below w.heap.size w w' := by
  have hLs : s.L.length ≤ 16384 := by have := hs.len; have := hs.used; have := hs.hi; have := hs.m; omega
  have hz : ∀ l ∈ s.L, Slim l := fun l hl => Wal.slim_of_row (hs.fine l hl).1
  have HG := Lib.hid (fun (u : World) (hu : Below w.heap.size w u) => groups_any (hw.new hu) (by omega) hz)
  have HGe := Lib.hid (fun (u : World) (hu : Below w.heap.size w u) => gen_any (hw.new hu))
  have HRo0 := fun (u : World) (hu : Below w.heap.size w u) => room_any (hw.new hu) hs
  have HRr0 := fun (u : World) (hu : Below w.heap.size w u) => refRoom_any (hx.new hu) hs
  have HF := Lib.hid (fun (u : World) (hu : Below w.heap.size w u) => fault_any (hw.new hu))
  obtain ⟨v1, hv1⟩ := hx
  obtain ⟨a1, c1, rfl, _⟩ := hv1.rows.form
  have hnew : ∀ u, Below w.heap.size w u → RwIn R2 p2 q2 s u (.slice a1 s.L.length c1) := fun u hu => hv1.keeps (Turns.of_new hu (fun _ => False)) (fun _ _ => id)
  have HC3 := Lib.hid (fun (u : World) (hu : Below w.heap.size w u) => (hnew u hu).c3)
  have HC4 := Lib.hid (fun (u : World) (hu : Below w.heap.size w u) => (hnew u hu).c4)
  have HC6 := Lib.hid (fun (u : World) (hu : Below w.heap.size w u) => (hnew u hu).c6)
  have HX := Lib.hid (fun (u : World) (hu : Below w.heap.size w u) => (hnew u hu).rows)
  have Hz := Lib.hid hz; clear hz
  obtain ⟨r, hr⟩ : ∃ r : Int, r = ((s.n - 1 - s.used : Nat) : Int) := ⟨_, rfl⟩
  rw [← hr] at HRo0 HRr0
  have HRo := Lib.hid HRo0; clear HRo0
  have HRr := Lib.hid HRr0; clear HRr0
  clear hw hv1 hnew hs hr
  have hb0 : Below w.heap.size w w.drew := (Below.refl _ w).drew
  go_enter Tryz.func24, Tryz.ntmps24
  go_wp2_with fail
  refine wp_region_phases [([0, 2, 3, 4, 5], [1, 6, 7]), ([8, 10, 11, 12, 13], [9, 14, 15, 16]), ([17, 19], [18, 20, 21, 22, 23]), ([24, 26, 27, 28, 29], [25, 30, 31, 32])] (by kernel_rfl) (by kernel_rfl) (fun z => Below w.heap.size w z) hb0 ?_
  simp only [wpPhases, pick, List.filterMap_cons, List.filterMap_nil, List.getElem?_toArray, List.getElem?_cons_zero, List.getElem?_cons_succ]
  refine take_move (.tmp 0) (.pointer (some ⟨p, 0, none⟩)) rfl rfl rfl ?_
  simp only [Act.put, List.setIfInBounds_toArray, List.set_cons_zero, List.set_cons_succ]
  refine take_move (.tmp 1) (.pointer (some ⟨p2, 0, none⟩)) rfl rfl rfl ?_
  simp only [Act.put, List.setIfInBounds_toArray, List.set_cons_zero, List.set_cons_succ]
  refine take_nil (.tmp 7) ⟨p2, 0, none⟩ rfl rfl rfl ?_
  simp only [Act.put, List.setIfInBounds_toArray, List.set_cons_zero, List.set_cons_succ]
  refine take_one (.pointer (some ⟨p2, 4, none⟩)) rfl (fun u _ => by go_simp) ?_
  simp only [Act.put, List.setIfInBounds_toArray, List.set_cons_zero, List.set_cons_succ]
  refine take_load 33 (.tmp 9) ⟨p2, 4, none⟩ (.slice a1 s.L.length c1) rfl rfl rfl (fun u hu => load_any Tryz.underlying33 Tryz.isAgg33 (HC4.out u hu)) ?_
  simp only [Act.put, List.setIfInBounds_toArray, List.set_cons_zero, List.set_cons_succ]
  refine take_done ?_
  refine midk_wp rfl (call_wp 14 [.tmp 5] #[29] #[.pointer (some ⟨p, 0, none⟩)] rfl rfl rfl ?_)
  refine (HG.out _ hb0).mono ?_
  rintro e w2 ⟨h2, v2, rfl, hv2⟩
  have hb2 := hb0.trans (h2.mono hb0.size)
  obtain ⟨a2, c2, rfl, _⟩ := hv2.form
  refine ⟨_, rfl, hb2, ?_⟩
  refine midk_wp rfl (call_wp 50 [.tmp 6, .tmp 10] #[33, 33] #[.slice a2 s.L.length c2, .slice a1 s.L.length c1] rfl rfl rfl ?_)
  refine (sameGrps_eq _ _ s.L w2 hv2 (HX.out _ hb2) (by omega) Hz.out).mono ?_
  rintro e w3 ⟨rfl, h3⟩
  have hb3 := hb2.trans (h3.mono hb2.size)
  refine ⟨_, rfl, hb3, ?_⟩
  refine midk_one (.bool true) rfl rfl hb3 ?_
  simp only [Act.put, List.setIfInBounds_toArray, List.set_cons_zero, List.set_cons_succ]
  refine take_move (.tmp 0) (.pointer (some ⟨p, 0, none⟩)) rfl rfl rfl ?_
  simp only [Act.put, List.setIfInBounds_toArray, List.set_cons_zero, List.set_cons_succ]
  refine take_move (.tmp 1) (.pointer (some ⟨p2, 0, none⟩)) rfl rfl rfl ?_
  simp only [Act.put, List.setIfInBounds_toArray, List.set_cons_zero, List.set_cons_succ]
  refine take_nil (.tmp 15) ⟨p2, 0, none⟩ rfl rfl rfl ?_
  simp only [Act.put, List.setIfInBounds_toArray, List.set_cons_zero, List.set_cons_succ]
  refine take_one (.pointer (some ⟨p2, 3, none⟩)) rfl (fun u _ => by go_simp) ?_
  simp only [Act.put, List.setIfInBounds_toArray, List.set_cons_zero, List.set_cons_succ]
  refine take_load 35 (.tmp 17) ⟨p2, 3, none⟩ (.int .u64 (s.gen : Int)) rfl rfl rfl (fun u hu => load_any Tryz.underlying35 Tryz.isAgg35 (HC3.out u hu)) ?_
  simp only [Act.put, List.setIfInBounds_toArray, List.set_cons_zero, List.set_cons_succ]
  refine take_done ?_
  refine midk_wp rfl (call_wp 15 [.tmp 13] #[29] #[.pointer (some ⟨p, 0, none⟩)] rfl rfl rfl ?_)
  refine (HGe.out _ hb3).mono ?_
  rintro e w4 ⟨rfl, rfl⟩
  refine ⟨_, rfl, hb3, ?_⟩
  refine midk_one (.bool true) rfl (by go_simp) hb3 ?_
  simp only [Act.put, List.setIfInBounds_toArray, List.set_cons_zero, List.set_cons_succ]
  refine midk_one (.bool true) rfl (by go_simp) hb3 ?_
  simp only [Act.put, List.setIfInBounds_toArray, List.set_cons_zero, List.set_cons_succ]
  refine midk_one (.bool true) rfl rfl hb3 ?_
  simp only [Act.put, List.setIfInBounds_toArray, List.set_cons_zero, List.set_cons_succ]
  refine take_move (.tmp 0) (.pointer (some ⟨p, 0, none⟩)) rfl rfl rfl ?_
  simp only [Act.put, List.setIfInBounds_toArray, List.set_cons_zero, List.set_cons_succ]
  refine take_move (.tmp 1) (.pointer (some ⟨p2, 0, none⟩)) rfl rfl rfl ?_
  simp only [Act.put, List.setIfInBounds_toArray, List.set_cons_zero, List.set_cons_succ]
  refine take_done ?_
  refine midk_wp rfl (call_wp 16 [.tmp 22] #[29] #[.pointer (some ⟨p, 0, none⟩)] rfl rfl rfl ?_)
  refine (HRo.out _ hb3).mono ?_
  rintro e w4 ⟨rfl, j4, rfl⟩
  have hb4 := drewN_below hb3 j4
  refine ⟨_, rfl, hb4, ?_⟩
  refine midk_wp rfl (call_wp 75 [.tmp 24] #[47] #[.pointer (some ⟨p2, 0, none⟩)] rfl rfl rfl ?_)
  refine (HRr.out _ hb4).mono ?_
  rintro e w5 ⟨rfl, j5, rfl⟩
  have hb5 := drewN_below hb4 j5
  refine ⟨_, rfl, hb5, ?_⟩
  refine midk_one (.bool true) rfl (by go_simp) hb5 ?_
  simp only [Act.put, List.setIfInBounds_toArray, List.set_cons_zero, List.set_cons_succ]
  refine midk_one (.bool true) rfl (by go_simp) hb5 ?_
  simp only [Act.put, List.setIfInBounds_toArray, List.set_cons_zero, List.set_cons_succ]
  refine midk_one (.bool true) rfl rfl hb5 ?_
  simp only [Act.put, List.setIfInBounds_toArray, List.set_cons_zero, List.set_cons_succ]
  refine take_move (.tmp 0) (.pointer (some ⟨p, 0, none⟩)) rfl rfl rfl ?_
  simp only [Act.put, List.setIfInBounds_toArray, List.set_cons_zero, List.set_cons_succ]
  refine take_move (.tmp 1) (.pointer (some ⟨p2, 0, none⟩)) rfl rfl rfl ?_
  simp only [Act.put, List.setIfInBounds_toArray, List.set_cons_zero, List.set_cons_succ]
  refine take_nil (.tmp 31) ⟨p2, 0, none⟩ rfl rfl rfl ?_
  simp only [Act.put, List.setIfInBounds_toArray, List.set_cons_zero, List.set_cons_succ]
  refine take_one (.pointer (some ⟨p2, 6, none⟩)) rfl (fun u _ => by go_simp) ?_
  simp only [Act.put, List.setIfInBounds_toArray, List.set_cons_zero, List.set_cons_succ]
  refine take_load 30 (.tmp 33) ⟨p2, 6, none⟩ (.int .i64 s.err) rfl rfl rfl (fun u hu => load_any Tryz.underlying30 Tryz.isAgg30 (HC6.out u hu)) ?_
  simp only [Act.put, List.setIfInBounds_toArray, List.set_cons_zero, List.set_cons_succ]
  refine take_done ?_
  refine midk_wp rfl (call_wp 17 [.tmp 29] #[29] #[.pointer (some ⟨p, 0, none⟩)] rfl rfl rfl ?_)
  refine (HF.out _ hb5).mono ?_
  rintro e w6 ⟨rfl, rfl⟩
  refine ⟨_, rfl, hb5, ?_⟩
  refine midk_one (.bool true) rfl (by go_simp) hb5 ?_
  simp only [Act.put, List.setIfInBounds_toArray, List.set_cons_zero, List.set_cons_succ]
  refine midk_one (.bool true) rfl (by go_simp) hb5 ?_
  simp only [Act.put, List.setIfInBounds_toArray, List.set_cons_zero, List.set_cons_succ]
  refine midk_one (.bool true) rfl rfl hb5 ?_
  refine midk_end ?_
  have Hb5 := Lib.hid hb5; clear hb5
  clear hb0 hb2 hb3 hb4 h2 h3 hv2
  go_wp2_with fail
  go_ret
  exact ⟨rfl, Hb5.out⟩
end Go.Proofs.YtjmpagbjkehebaaGreat
