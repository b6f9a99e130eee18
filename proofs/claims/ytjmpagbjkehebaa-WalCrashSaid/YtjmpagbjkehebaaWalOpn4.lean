/-
  Open's steps.
-/
import Derived.Test.YtjmpagbjkehebaaWalOpn
set_option linter.unusedVariables false
set_option maxRecDepth 100000
namespace Go.Proofs.Ytjmpagbjkehebaa
open Go.RowKit

theorem load_any {w : World} {t : TypeId} {b o : Nat} {x : Value} {D : TypeDesc} (hu : Try.prog.underlying t = some D) (ha : ∀ w, (isAgg t).run Try.prog w = .ok false w) (h : w.cell? ⟨b, o, none⟩ = some x) :
    (Instr.loadAt t (.pointer (some ⟨b, o, none⟩))).run Try.prog w = .ok x w := by
  simp [Instr.loadAt, go_sem, ha, h]

/-- the blocks that Open's steps turn -/
def OpT (B j : Nat) : Prop := B + 3 ≤ j ∧ j < B + 7
section
variable {S : Nat → Prop} {p : Nat} {d : Dsk.St} {B k n g u : Nat} {v : Value} {hd bd : ByteArray} {W : World}
theorem open1_any (h : Opn S p d B k n g u v hd bd W) (hk : k ≤ 16384) :
    Calls Try.prog 21 #[.pointer (some ⟨B, 0, none⟩), .pointer (some ⟨B + 1, 0, none⟩), .pointer (some ⟨B + 5, 0, none⟩)] W fun e W' =>
      e = .returned (.int .i64 (Dsk.read d (k : Int) 1).2) ∧ Opn S p d B k n g u v (ba (Dsk.read d (k : Int) 1).1) bd W' ∧ Turns (OpT B) W W' := by
  have c0 := h.c0
  have c1 := h.c1
  have hr := read_all h.disk (k : Int) 1 ⟨by omega, by omega⟩ ⟨by omega, by omega⟩
  have hB := row_lt h.b5
  have hr2 : Calls Try.prog 22 #[.pointer (some ⟨p, 0, none⟩), .int .i64 (k : Int), .int .i64 1] W fun e w' => e = .returned (.tuple #[.string (ba (Dsk.read d (k : Int) 1).1), .int .i64 (Dsk.read d (k : Int) 1).2]) ∧ Below W.heap.size W w' := hr
  clear hr
  generalize ba (Dsk.read d (k : Int) 1).1 = x at *
  generalize (Dsk.read d (k : Int) 1).2 = E at *
  have Hr := Lib.hid hr2; clear hr2
  have H := Lib.hid h; clear h
  go_enter Try.func21, Try.ntmps21
  go_wp2_with fail
  refine Hr.out.mono ?_; rintro e w1 ⟨rfl, h1⟩
  have h2 := H.out.new h1
  have c5 := h2.c5
  have f5 := row_free h2.b5 0
  have H2 := Lib.hid (h2.put5 x); clear h2
  have hb : Turns (OpT B) W (w1.setCell ⟨B + 5, 0, none⟩ (.string x)) := (Turns.of_new h1 _).set (B + 5) 0 _ (fun _ => ⟨by omega, by omega⟩)
  have Hb := Lib.hid hb; clear hb
  clear h1 c0 c1
  go_wp2_with fail
  go_ret
  exact ⟨rfl, H2.out, Hb.out⟩

def markE : Option (Nat × Nat) → Int
  | none => 50
  | some _ => 0
theorem open2_any (h : Opn S p d B k n 0 0 v hd bd W) (hs : hd.size = 64) (hn2 : 2 ≤ n) (hn : n ≤ 16384) :
    Calls Try.prog 23 #[.pointer (some ⟨B + 5, 0, none⟩), .pointer (some ⟨B + 2, 0, none⟩), .pointer (some ⟨B + 4, 0, none⟩)] W fun e W' =>
      e = .returned (.int .i64 (markE (Wal.readMark hd.data.toList (n - 1)))) ∧ Opn S p d B k n ((Wal.readMark hd.data.toList (n - 1)).getD (0, 0)).1 ((Wal.readMark hd.data.toList (n - 1)).getD (0, 0)).2 v hd bd W' ∧ Turns (OpT B) W W' := by
  have hrm := fun x => readMark_any hd hs (n - 1) (by omega) x
  have hB := row_lt h.b6
  have hr2 : ∀ x, Calls Try.prog 24 #[.string hd, .int .i64 ((n : Int) - 1)] x fun e w' => e = .returned (.tuple #[markV ((Wal.readMark hd.data.toList (n - 1)).getD (0, 0)).1 ((Wal.readMark hd.data.toList (n - 1)).getD (0, 0)).2, .int .i64 (markE (Wal.readMark hd.data.toList (n - 1)))]) ∧ Below x.heap.size x w' := fun x => by
    have := hrm x
    rw [show (((n - 1 : Nat)) : Int) = (n : Int) - 1 by omega] at this
    refine this.mono fun e w' h => ⟨?_, h.2⟩
    rw [h.1]
    cases Wal.readMark hd.data.toList (n - 1) <;> rfl
  clear hrm
  generalize ((Wal.readMark hd.data.toList (n - 1)).getD (0, 0)).1 = G at *
  generalize ((Wal.readMark hd.data.toList (n - 1)).getD (0, 0)).2 = U at *
  generalize markE (Wal.readMark hd.data.toList (n - 1)) = E at *
  have Hr := Lib.hid hr2; clear hr2
  have H := Lib.hid h; clear h
  go_enter Try.func23, Try.ntmps23
  go_wp2_with fail
  refine wp_region_phases [([0, 1, 2, 3], [4, 5]), ([6, 7, 8, 9], [10, 11])] (by kernel_rfl) (by kernel_rfl) (fun u => u.cell? ⟨B + 4, 0, none⟩ = some (.pointer (some ⟨B + 3, 0, none⟩)) ∧ u.cell? ⟨B + 5, 0, none⟩ = some (.string hd) ∧ u.cell? ⟨B + 2, 0, none⟩ = some (.int .i64 (n : Int))) ⟨H.out.c4, H.out.c5, H.out.c2⟩ ?_
  simp only [wpPhases, pick, List.filterMap_cons, List.filterMap_nil, List.getElem?_toArray, List.getElem?_cons_zero, List.getElem?_cons_succ]
  refine take_load 29 (.tmp 2) ⟨B + 4, 0, none⟩ (.pointer (some ⟨B + 3, 0, none⟩)) rfl rfl rfl (fun u hu => load_any Try.underlying29 Try.isAgg29 hu.1) ?_
  simp only [Act.put, List.setIfInBounds_toArray, List.set_cons_zero, List.set_cons_succ]
  refine take_load 9 (.tmp 0) ⟨B + 5, 0, none⟩ (.string hd) rfl rfl rfl (fun u hu => load_any Try.underlying9 Try.isAgg9 hu.2.1) ?_
  simp only [Act.put, List.setIfInBounds_toArray, List.set_cons_zero, List.set_cons_succ]
  refine take_load 3 (.tmp 1) ⟨B + 2, 0, none⟩ (.int .i64 (n : Int)) rfl rfl rfl (fun u hu => load_any Try.underlying3 Try.isAgg3 hu.2.2) ?_
  simp only [Act.put, List.setIfInBounds_toArray, List.set_cons_zero, List.set_cons_succ]
  refine take_one (.int .i64 ((n : Int) - 1)) rfl (fun u _ => by go_simp; exact IntWalk.i64_in _ (by omega)) ?_
  simp only [Act.put, List.setIfInBounds_toArray, List.set_cons_zero, List.set_cons_succ]
  refine take_done ?_
  refine midk_wp rfl (call_wp 24 [.tmp 6, .tmp 8] #[9, 3] #[.string hd, .int .i64 ((n : Int) - 1)] rfl rfl rfl ?_)
  refine (Hr.out _).mono ?_; rintro e w1 ⟨rfl, h1⟩
  have h2 := (H.out.new ((Below.refl _ W).drew)).new h1
  refine ⟨_, rfl, ⟨h2.c4, h2.c5, h2.c2⟩, ?_⟩
  simp only [Act.put, List.setIfInBounds_toArray, List.set_cons_zero, List.set_cons_succ]
  refine midk_one (.tuple #[markV G U, .int .i64 E]) rfl rfl ⟨h2.c4, h2.c5, h2.c2⟩ ?_
  simp only [Act.put, List.setIfInBounds_toArray, List.set_cons_zero, List.set_cons_succ]
  refine midk_done ?_
  refine take_one (markV G U) rfl (fun u _ => by go_simp) ?_
  simp only [Act.put, List.setIfInBounds_toArray, List.set_cons_zero, List.set_cons_succ]
  refine take_one (.int .i64 E) rfl (fun u _ => by go_simp) ?_
  simp only [Act.put, List.setIfInBounds_toArray, List.set_cons_zero, List.set_cons_succ]
  refine take_nil (.tmp 5) ⟨B + 3, 0, none⟩ rfl rfl rfl ?_
  simp only [Act.put, List.setIfInBounds_toArray, List.set_cons_zero, List.set_cons_succ]
  refine take_one (.pointer (some ⟨B + 3, 0, none⟩)) rfl (fun u _ => by go_simp) ?_
  simp only [Act.put, List.setIfInBounds_toArray, List.set_cons_zero, List.set_cons_succ]
  refine take_done ?_
  have c30 := h2.c3 0
  have c31 := h2.c3 1
  have h3 := (h2.putG G).putU U
  refine midk_store 55 (.tmp 13) (.tmp 10) _ _ rfl rfl rfl rfl (store_mark (G : Int) (U : Int) c30 c31 (row_free h2.b3 0) (row_free h2.b3 1)) ⟨h3.c4, h3.c5, h3.c2⟩ ?_
  simp only [Act.put]
  refine midk_one (.int .i64 E) rfl rfl ⟨h3.c4, h3.c5, h3.c2⟩ ?_
  simp only [Act.put, List.setIfInBounds_toArray, List.set_cons_zero, List.set_cons_succ]
  refine midk_end ?_
  have hb : Turns (OpT B) W ((w1.setCell ⟨B + 3, 0, none⟩ (.int .u64 (G : Int))).setCell ⟨B + 3, 1, none⟩ (.int .i64 (U : Int))) := (((((Turns.refl (OpT B) W).drew).trans (Turns.of_new h1 _) (fun _ _ e => e)).set (B + 3) 0 _ (fun _ => ⟨by omega, by omega⟩)).set (B + 3) 1 _ (fun _ => ⟨by omega, by omega⟩))
  have Hb := Lib.hid hb; clear hb
  have H3 := Lib.hid h3; clear h3
  clear h1 h2 c30 c31
  go_wp2_with fail
  go_ret
  exact ⟨rfl, H3.out, Hb.out⟩

theorem open3_any (h : Opn S p d B k n g u v hd bd W) (hk : k ≤ 16384) (hu : u ≤ 16384) :
    Calls Try.prog 25 #[.pointer (some ⟨B, 0, none⟩), .pointer (some ⟨B + 1, 0, none⟩), .pointer (some ⟨B + 4, 0, none⟩), .pointer (some ⟨B + 6, 0, none⟩)] W fun e W' =>
      e = .returned (.int .i64 (Dsk.read d ((k : Int) + 1) (u : Int)).2) ∧ Opn S p d B k n g u v hd (ba (Dsk.read d ((k : Int) + 1) (u : Int)).1) W' ∧ Turns (OpT B) W W' := by
  have hB := row_lt h.b6
  have hr2 : ∀ x, DiskAt S p d x → Calls Try.prog 22 #[.pointer (some ⟨p, 0, none⟩), .int .i64 ((k : Int) + 1), .int .i64 (u : Int)] x fun e w' => e = .returned (.tuple #[.string (ba (Dsk.read d ((k : Int) + 1) (u : Int)).1), .int .i64 (Dsk.read d ((k : Int) + 1) (u : Int)).2]) ∧ Below x.heap.size x w' :=
    fun x hx => read_all hx ((k : Int) + 1) (u : Int) ⟨by omega, by omega⟩ ⟨by omega, by omega⟩
  generalize ba (Dsk.read d ((k : Int) + 1) (u : Int)).1 = X at *
  generalize (Dsk.read d ((k : Int) + 1) (u : Int)).2 = E at *
  have Hr := Lib.hid hr2; clear hr2
  have H := Lib.hid h; clear h
  go_enter Try.func25, Try.ntmps25
  go_wp2_with fail
  refine wp_region_phases [([0, 1, 2, 3, 4, 5, 6, 7], [8, 9]), ([10, 11], [12, 13])] (by kernel_rfl) (by kernel_rfl) (fun z => z.cell? ⟨B, 0, none⟩ = some (.pointer (some ⟨p, 0, none⟩)) ∧ z.cell? ⟨B + 1, 0, none⟩ = some (.int .i64 (k : Int)) ∧ z.cell? ⟨B + 4, 0, none⟩ = some (.pointer (some ⟨B + 3, 0, none⟩)) ∧ z.cell? ⟨B + 3, 1, none⟩ = some (.int .i64 (u : Int))) ⟨H.out.c0, H.out.c1, H.out.c4, H.out.c3 1⟩ ?_
  simp only [wpPhases, pick, List.filterMap_cons, List.filterMap_nil, List.getElem?_toArray, List.getElem?_cons_zero, List.getElem?_cons_succ]
  refine take_load 25 (.tmp 0) ⟨B, 0, none⟩ (.pointer (some ⟨p, 0, none⟩)) rfl rfl rfl (fun u hu => load_any Try.underlying25 Try.isAgg25 hu.1) ?_
  simp only [Act.put, List.setIfInBounds_toArray, List.set_cons_zero, List.set_cons_succ]
  refine take_load 3 (.tmp 1) ⟨B + 1, 0, none⟩ (.int .i64 (k : Int)) rfl rfl rfl (fun u hu => load_any Try.underlying3 Try.isAgg3 hu.2.1) ?_
  simp only [Act.put, List.setIfInBounds_toArray, List.set_cons_zero, List.set_cons_succ]
  refine take_one (.int .i64 ((k : Int) + 1)) rfl (fun u _ => by go_simp; exact IntWalk.i64_in _ (by omega)) ?_
  simp only [Act.put, List.setIfInBounds_toArray, List.set_cons_zero, List.set_cons_succ]
  refine take_load 29 (.tmp 2) ⟨B + 4, 0, none⟩ (.pointer (some ⟨B + 3, 0, none⟩)) rfl rfl rfl (fun u hu => load_any Try.underlying29 Try.isAgg29 hu.2.2.1) ?_
  simp only [Act.put, List.setIfInBounds_toArray, List.set_cons_zero, List.set_cons_succ]
  refine take_nil (.tmp 9) ⟨B + 3, 0, none⟩ rfl rfl rfl ?_
  simp only [Act.put, List.setIfInBounds_toArray, List.set_cons_zero, List.set_cons_succ]
  refine take_one (.pointer (some ⟨B + 3, 0, none⟩)) rfl (fun u _ => by go_simp) ?_
  simp only [Act.put, List.setIfInBounds_toArray, List.set_cons_zero, List.set_cons_succ]
  refine take_one (.pointer (some ⟨B + 3, 1, none⟩)) rfl (fun u _ => by go_simp) ?_
  simp only [Act.put, List.setIfInBounds_toArray, List.set_cons_zero, List.set_cons_succ]
  refine take_load 3 (.tmp 12) ⟨B + 3, 1, none⟩ (.int .i64 (u : Int)) rfl rfl rfl (fun u hu => load_any Try.underlying3 Try.isAgg3 hu.2.2.2) ?_
  simp only [Act.put, List.setIfInBounds_toArray, List.set_cons_zero, List.set_cons_succ]
  refine take_done ?_
  refine midk_wp rfl (call_wp 22 [.tmp 6, .tmp 8, .tmp 13] #[25, 3, 3] #[.pointer (some ⟨p, 0, none⟩), .int .i64 ((k : Int) + 1), .int .i64 (u : Int)] rfl rfl rfl ?_)
  refine (Hr.out _ (H.out.new ((Below.refl _ W).drew)).disk).mono ?_; rintro e w1 ⟨rfl, h1⟩
  have h2 := (H.out.new ((Below.refl _ W).drew)).new h1
  refine ⟨_, rfl, ⟨h2.c0, h2.c1, h2.c4, h2.c3 1⟩, ?_⟩
  simp only [Act.put, List.setIfInBounds_toArray, List.set_cons_zero, List.set_cons_succ]
  refine midk_one (.tuple #[.string X, .int .i64 E]) rfl rfl ⟨h2.c0, h2.c1, h2.c4, h2.c3 1⟩ ?_
  simp only [Act.put, List.setIfInBounds_toArray, List.set_cons_zero, List.set_cons_succ]
  refine midk_done ?_
  refine take_one (.string X) rfl (fun u _ => by go_simp) ?_
  simp only [Act.put, List.setIfInBounds_toArray, List.set_cons_zero, List.set_cons_succ]
  refine take_one (.int .i64 E) rfl (fun u _ => by go_simp) ?_
  simp only [Act.put, List.setIfInBounds_toArray, List.set_cons_zero, List.set_cons_succ]
  refine take_done ?_
  have h3 := h2.put6 X
  refine midk_store 9 (.tmp 3) (.tmp 15) _ _ rfl rfl rfl rfl (store_str h2.c6 (row_free h2.b6 0)) ⟨h3.c0, h3.c1, h3.c4, h3.c3 1⟩ ?_
  simp only [Act.put]
  refine midk_one (.int .i64 E) rfl rfl ⟨h3.c0, h3.c1, h3.c4, h3.c3 1⟩ ?_
  simp only [Act.put, List.setIfInBounds_toArray, List.set_cons_zero, List.set_cons_succ]
  refine midk_end ?_
  have hb : Turns (OpT B) W (w1.setCell ⟨B + 6, 0, none⟩ (.string X)) := (((Turns.refl (OpT B) W).drew).trans (Turns.of_new h1 _) (fun _ _ e => e)).set (B + 6) 0 _ (fun _ => ⟨by omega, by omega⟩)
  have Hb := Lib.hid hb; clear hb
  have H3 := Lib.hid h3; clear h3
  clear h1 h2
  go_wp2_with fail
  go_ret
  exact ⟨rfl, H3.out, Hb.out⟩

def grpsE : Option (List Wal.Grp) → Int
  | none => 50
  | some _ => 0
theorem open4_any (h : Opn S p d B k n g u (.slice none 0 0) hd bd W) (hs : bd.size = 64 * u) (hu : u ≤ 16384) :
    Calls Try.prog 26 #[.pointer (some ⟨B + 6, 0, none⟩), .pointer (some ⟨B + 4, 0, none⟩)] W fun e W' =>
      e = .returned (.int .i64 (grpsE (Wal.readGroups (64 * u) bd.data.toList))) ∧ Turns (OpT B) W W' ∧ ∃ v', Opn S p d B k n g u v' hd bd W' ∧ (∀ L, Wal.readGroups (64 * u) bd.data.toList = some L → GRows (fun j => W.heap.size ≤ j ∧ j < W'.heap.size) v' L W') := by
  have hB := row_lt h.b6
  have hr2 := fun x => readGroups_any bd u hs hu x
  generalize Wal.readGroups (64 * u) bd.data.toList = r at *
  have Hr := Lib.hid hr2; clear hr2
  have H := Lib.hid h; clear h
  go_enter Try.func26, Try.ntmps26
  go_wp2_with fail
  refine wp_region_phases [([0, 1], [2, 3]), ([4, 5, 6, 7], [8, 9])] (by kernel_rfl) (by kernel_rfl) (fun z => z.cell? ⟨B + 4, 0, none⟩ = some (.pointer (some ⟨B + 3, 0, none⟩)) ∧ z.cell? ⟨B + 6, 0, none⟩ = some (.string bd)) ⟨H.out.c4, H.out.c6⟩ ?_
  simp only [wpPhases, pick, List.filterMap_cons, List.filterMap_nil, List.getElem?_toArray, List.getElem?_cons_zero, List.getElem?_cons_succ]
  refine take_load 29 (.tmp 1) ⟨B + 4, 0, none⟩ (.pointer (some ⟨B + 3, 0, none⟩)) rfl rfl rfl (fun u hu => load_any Try.underlying29 Try.isAgg29 hu.1) ?_
  simp only [Act.put, List.setIfInBounds_toArray, List.set_cons_zero, List.set_cons_succ]
  refine take_load 9 (.tmp 0) ⟨B + 6, 0, none⟩ (.string bd) rfl rfl rfl (fun u hu => load_any Try.underlying9 Try.isAgg9 hu.2) ?_
  simp only [Act.put, List.setIfInBounds_toArray, List.set_cons_zero, List.set_cons_succ]
  refine take_done ?_
  refine midk_wp rfl (call_wp 27 [.tmp 5] #[9] #[.string bd] rfl rfl rfl ?_)
  refine (Hr.out _).mono ?_; rintro e w1 ⟨h1, ⟨hn, rfl⟩ | ⟨L, v9, hn, rfl, hrow⟩⟩
  · have h2 := (H.out.new ((Below.refl _ W).drew)).new h1
    refine ⟨_, rfl, ⟨h2.c4, h2.c6⟩, ?_⟩
    simp only [Act.put, List.setIfInBounds_toArray, List.set_cons_zero, List.set_cons_succ]
    refine midk_one (.tuple #[.slice none 0 0, .int .i64 50]) rfl rfl ⟨h2.c4, h2.c6⟩ ?_
    simp only [Act.put, List.setIfInBounds_toArray, List.set_cons_zero, List.set_cons_succ]
    refine midk_done ?_
    refine take_one (.slice none 0 0) rfl (fun u _ => by go_simp) ?_
    simp only [Act.put, List.setIfInBounds_toArray, List.set_cons_zero, List.set_cons_succ]
    refine take_one (.int .i64 50) rfl (fun u _ => by go_simp) ?_
    simp only [Act.put, List.setIfInBounds_toArray, List.set_cons_zero, List.set_cons_succ]
    refine take_nil (.tmp 4) ⟨B + 3, 0, none⟩ rfl rfl rfl ?_
    simp only [Act.put, List.setIfInBounds_toArray, List.set_cons_zero, List.set_cons_succ]
    refine take_one (.pointer (some ⟨B + 3, 5, none⟩)) rfl (fun u _ => by go_simp) ?_
    simp only [Act.put, List.setIfInBounds_toArray, List.set_cons_zero, List.set_cons_succ]
    refine take_done ?_
    have h3 := h2.putV (.slice none 0 0)
    refine midk_store 32 (.tmp 10) (.tmp 7) _ _ rfl rfl rfl rfl (store_grps (h2.c3 5) (row_free h2.b3 5)) ⟨h3.c4, h3.c6⟩ ?_
    simp only [Act.put]
    refine midk_one (.int .i64 50) rfl rfl ⟨h3.c4, h3.c6⟩ ?_
    simp only [Act.put, List.setIfInBounds_toArray, List.set_cons_zero, List.set_cons_succ]
    refine midk_end ?_
    have hb : Turns (OpT B) W (w1.setCell ⟨B + 3, 5, none⟩ (.slice none 0 0)) := (((Turns.refl (OpT B) W).drew).trans (Turns.of_new h1 _) (fun _ _ e => e)).set (B + 3) 5 _ (fun _ => ⟨by omega, by omega⟩)
    have Hb := Lib.hid hb; clear hb
    have H3 := Lib.hid h3; clear h3
    clear h1 h2
    go_wp2_with fail
    go_ret
    exact ⟨by rw [hn]; rfl, Hb.out, _, H3.out, fun L hL => by rw [hn] at hL; cases hL⟩
  · obtain ⟨a9, cap9, hv9, _⟩ := hrow.form
    subst hv9
    have h2 := (H.out.new ((Below.refl _ W).drew)).new h1
    refine ⟨_, rfl, ⟨h2.c4, h2.c6⟩, ?_⟩
    simp only [Act.put, List.setIfInBounds_toArray, List.set_cons_zero, List.set_cons_succ]
    refine midk_one (.tuple #[.slice a9 L.length cap9, .int .i64 0]) rfl rfl ⟨h2.c4, h2.c6⟩ ?_
    simp only [Act.put, List.setIfInBounds_toArray, List.set_cons_zero, List.set_cons_succ]
    refine midk_done ?_
    refine take_one (.slice a9 L.length cap9) rfl (fun u _ => by go_simp) ?_
    simp only [Act.put, List.setIfInBounds_toArray, List.set_cons_zero, List.set_cons_succ]
    refine take_one (.int .i64 0) rfl (fun u _ => by go_simp) ?_
    simp only [Act.put, List.setIfInBounds_toArray, List.set_cons_zero, List.set_cons_succ]
    refine take_nil (.tmp 4) ⟨B + 3, 0, none⟩ rfl rfl rfl ?_
    simp only [Act.put, List.setIfInBounds_toArray, List.set_cons_zero, List.set_cons_succ]
    refine take_one (.pointer (some ⟨B + 3, 5, none⟩)) rfl (fun u _ => by go_simp) ?_
    simp only [Act.put, List.setIfInBounds_toArray, List.set_cons_zero, List.set_cons_succ]
    refine take_done ?_
    have h3 := h2.putV (.slice a9 L.length cap9)
    refine midk_store 32 (.tmp 10) (.tmp 7) _ _ rfl rfl rfl rfl (store_grps (h2.c3 5) (row_free h2.b3 5)) ⟨h3.c4, h3.c6⟩ ?_
    simp only [Act.put]
    refine midk_one (.int .i64 0) rfl rfl ⟨h3.c4, h3.c6⟩ ?_
    simp only [Act.put, List.setIfInBounds_toArray, List.set_cons_zero, List.set_cons_succ]
    refine midk_end ?_
    have hb : Turns (OpT B) W (w1.setCell ⟨B + 3, 5, none⟩ (.slice a9 L.length cap9)) := (((Turns.refl (OpT B) W).drew).trans (Turns.of_new h1 _) (fun _ _ e => e)).set (B + 3) 5 _ (fun _ => ⟨by omega, by omega⟩)
    have Hb := Lib.hid hb; clear hb
    have H3 := Lib.hid h3; clear h3
    have hb3 := row_lt H.out.b3
    have hrow2 : GRows (fun j => W.heap.size ≤ j ∧ j < (w1.setCell ⟨B + 3, 5, none⟩ (.slice a9 L.length cap9)).heap.size) (.slice a9 L.length cap9) L (w1.setCell ⟨B + 3, 5, none⟩ (.slice a9 L.length cap9)) := by
      have hq := hrow.keeps (T := fun j => j = B + 3) ((Turns.refl _ w1).set (B + 3) 5 (.slice a9 L.length cap9) (fun _ => rfl)) (fun j hj e => by have := hj.1; simp at this; omega)
      have hsz : (w1.setCell ⟨B + 3, 5, none⟩ (.slice a9 L.length cap9)).heap.size = w1.heap.size := by simp [World.setCell]
      rw [hsz]; exact hq
    have Hrow2 := Lib.hid hrow2; clear hrow2
    clear hrow
    clear h1 h2
    go_wp2_with fail
    go_ret
    exact ⟨by rw [hn]; rfl, Hb.out, _, H3.out, fun L' hL => by rw [hn] at hL; cases hL; exact Hrow2.out⟩
end
end Go.Proofs.Ytjmpagbjkehebaa
