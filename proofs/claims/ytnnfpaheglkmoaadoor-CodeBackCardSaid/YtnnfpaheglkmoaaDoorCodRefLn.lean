/-
  The document's lines: Name, Line.
-/
import Derived.Test.YtnnfpaheglkmoaaDoorCodRead2
import Derived.Test.YtnnfpaheglkmoaaDoorGoPh2
set_option linter.unusedVariables false
set_option maxRecDepth 100000
namespace Go.Proofs.YtnnfpaheglkmoaaDoor
open Go.RowKit

theorem nm_list (k : Nat) (hk : k < 24) : ([Value.string ⟨#[]⟩, Value.string ⟨#[116, 101, 120, 116]⟩, Value.string ⟨#[110, 117, 109]⟩, Value.string ⟨#[105, 110]⟩, Value.string ⟨#[99, 97, 116]⟩, Value.string ⟨#[108, 101, 110]⟩, Value.string ⟨#[112, 97, 114, 116]⟩, Value.string ⟨#[112, 97, 114, 115, 101]⟩, Value.string ⟨#[115, 104, 111, 119]⟩, Value.string ⟨#[97, 100, 100]⟩, Value.string ⟨#[109, 117, 108]⟩, Value.string ⟨#[108, 101, 115, 115]⟩, Value.string ⟨#[115, 97, 109, 101]⟩, Value.string ⟨#[110, 111, 116]⟩, Value.string ⟨#[100, 114, 111, 112]⟩, Value.string ⟨#[100, 117, 112]⟩, Value.string ⟨#[115, 119, 97, 112]⟩, Value.string ⟨#[103, 101, 116]⟩, Value.string ⟨#[115, 101, 116]⟩, Value.string ⟨#[105, 102]⟩, Value.string ⟨#[101, 108, 115, 101]⟩, Value.string ⟨#[101, 110, 100]⟩, Value.string ⟨#[101, 97, 99, 104]⟩, Value.string ⟨#[101, 109, 105, 116]⟩] : List Value)[k]? = some (.string (nmS k)) := by
  have h1 : nmA.toList[k]? = some (.string (nmS k)) := by
    unfold nmA nmS
    rw [List.toList_toArray, List.getElem?_map, List.getD_eq_getElem?_getD, List.getElem?_eq_getElem (show k < Cod.names.length from hk)]
    rfl
  rw [← h1]
  rfl
theorem nmS_none {k : Nat} (hk : ¬ k < 24) : nmS k = ⟨#[]⟩ := by
  unfold nmS
  rw [List.getD_eq_getElem?_getD, List.getElem?_eq_none (show Cod.names.length ≤ k from Nat.le_of_not_lt hk)]
  rfl
set_option maxHeartbeats 4000000 in
theorem refName_any (k : Nat) (hk : k < 256) (w : World) : Calls Tryd.prog 34 #[.int .u8 (k : Int)] w fun e w' => e = .returned (.string (nmS k)) ∧ Below w.heap.size w w' := by
  by_cases hlt : k < 24
  · have hl := nm_list k hlt
    have hb : ∀ o, Below w.heap.size w (w.alloc o) := fun o => obj_below w o
    have Hb := Lib.hid hb; clear hb
    generalize nmS k = Y at *
    have d1 : decide ((24 : Int) ≤ (k : Int)) = false := decide_eq_false (by omega)
    have hkk : (k : Int) < 24 := by omega
    have hwk : IntKind.i64.wrap (k : Int) = (k : Int) := by simp only [IntKind.wrap_i64]; omega
    clear hk hlt
    go_enter Tryd.func34, Tryd.ntmps34
    go_wp2_with fail
    go_ret
    exact ⟨rfl, Hb.out _⟩
  · rw [nmS_none hlt]
    have hb : ∀ o, Below w.heap.size w (w.alloc o) := fun o => obj_below w o
    have Hb := Lib.hid hb; clear hb
    have d1 : decide ((24 : Int) ≤ (k : Int)) = true := decide_eq_true (by omega)
    have hwk : IntKind.i64.wrap (k : Int) = (k : Int) := by simp only [IntKind.wrap_i64]; omega
    clear hk hlt
    go_enter Tryd.func34, Tryd.ntmps34
    go_wp2_with fail
    go_ret
    exact ⟨rfl, Hb.out _⟩
/-- the document's line, whatever the instruction -/
def lineR (x : Cod.In) : ByteArray := if Cod.hasN x.1.toNat = true then nmS x.1.toNat ++ ⟨#[32]⟩ ++ decS x.2.toNat else nmS x.1.toNat
theorem lineR_is (x : Cod.In) : lineR x = ⟨(Cod.line x).toArray⟩ := by
  unfold lineR Cod.line
  rw [Cod.has_is]
  split
  · unfold nmS decS Cod.name
    rw [show (⟨#[32]⟩ : ByteArray) = ⟨([32] : List UInt8).toArray⟩ from rfl, cat_list, cat_list, List.append_assoc]
    rfl
  · rfl
set_option maxHeartbeats 2000000 in
theorem refLine_any (x : Cod.In) (w : World) (h : Kn w) : Calls Tryd.prog 21 #[insV x] w fun e w' => e = .returned (.string ⟨(Cod.line x).toArray⟩) ∧ Below w.heap.size w w' := by
  rw [← lineR_is]
  unfold lineR
  have hb := obj_below w (.cells #[.int .u8 (x.1.toNat : Int), .int .u8 (x.2.toNat : Int)] 39)
  have hr := heap_alloc_new w (.cells #[.int .u8 (x.1.toNat : Int), .int .u8 (x.2.toNat : Int)] 39)
  have hk := h.keep hb
  unfold insV
  have ha := fun u => refHas12_any x.1.toNat u
  have hx1 := x.1.toNat_lt
  have hx2 := x.2.toNat_lt
  have hnm := fun u => refName_any x.1.toNat hx1 u
  have hit := fun u (k : Kn u) => itoa_any x.2.toNat hx2 u k
  have hdi := decS_size hx2
  have hni : (nmS x.1.toNat).size ≤ 5 := by
    by_cases e : x.1.toNat < 24
    · exact nmS_size e
    · rw [nmS_none e]; exact Nat.zero_le _
  generalize x.1.toNat = A at *
  generalize x.2.toNat = B at *
  generalize decS B = D at *
  generalize nmS A = N at *
  have hwb : IntKind.i64.wrap (B : Int) = (B : Int) := by simp only [IntKind.wrap_i64]; omega
  have Hb := Lib.hid hb; clear hb
  have Hr := Lib.hid hr; clear hr
  have Hk := Lib.hid hk; clear hk h
  have Hnm := Lib.hid hnm; clear hnm
  have Hit := Lib.hid hit; clear hit
  clear hx1 hx2
  cases hh : Cod.hasN A with
  | false =>
    rw [hh] at ha
    have Ha := Lib.hid ha; clear ha
    simp only [Bool.false_eq_true, if_false]
    go_enter Tryd.func21, Tryd.ntmps21
    go_wp2_with fail
    refine (Ha.out _).mono ?_; rintro e w2 ⟨rfl, rfl⟩
    go_wp2_with fail
    refine (Hnm.out _).mono ?_; rintro e w3 ⟨rfl, h3⟩
    have Hb3 := Lib.hid (Hb.out.trans (h3.mono Hb.out.size)); clear h3
    go_wp2_with fail
    go_ret
    exact ⟨rfl, Hb3.out⟩
  | true =>
    rw [hh] at ha
    have Ha := Lib.hid ha; clear ha
    simp only [if_true]
    go_enter Tryd.func21, Tryd.ntmps21
    go_wp2_with fail
    refine (Ha.out _).mono ?_; rintro e w2 ⟨rfl, rfl⟩
    go_wp2_with fail
    have x0 : (w.alloc (.cells #[.int .u8 (A : Int), .int .u8 (B : Int)] 39)).cell? ⟨w.heap.size, 0, none⟩ = some (.int .u8 (A : Int)) := by rw [cell_of_row _ _ 0 _ _ _ Hr.out]; rfl
    have x1 : (w.alloc (.cells #[.int .u8 (A : Int), .int .u8 (B : Int)] 39)).cell? ⟨w.heap.size, 1, none⟩ = some (.int .u8 (B : Int)) := by rw [cell_of_row _ _ 1 _ _ _ Hr.out]; rfl
    refine wp_region_phases [([0, 1, 4, 5, 6], [2]), ([3], [7, 8, 9])] (by kernel_rfl) (by kernel_rfl) (fun z => z.cell? ⟨w.heap.size, 0, none⟩ = some (.int .u8 (A : Int)) ∧ z.cell? ⟨w.heap.size, 1, none⟩ = some (.int .u8 (B : Int))) ⟨x0, x1⟩ ?_
    simp only [wpPhases, pick, List.filterMap_cons, List.filterMap_nil, List.getElem?_toArray, List.getElem?_cons_zero, List.getElem?_cons_succ]
    refine take_one (.pointer (some ⟨w.heap.size, 0, none⟩)) rfl (fun u _ => by go_simp) ?_
    simp only [Act.put, List.setIfInBounds_toArray, List.set_cons_zero, List.set_cons_succ]
    refine take_load 5 (.tmp 6) ⟨w.heap.size, 0, none⟩ (.int .u8 (A : Int)) rfl rfl rfl (fun u hu => load_at Tryd.underlying5 Tryd.isAgg5 hu.1) ?_
    simp only [Act.put, List.setIfInBounds_toArray, List.set_cons_zero, List.set_cons_succ]
    refine take_one (.pointer (some ⟨w.heap.size, 1, none⟩)) rfl (fun u _ => by go_simp) ?_
    simp only [Act.put, List.setIfInBounds_toArray, List.set_cons_zero, List.set_cons_succ]
    refine take_load 5 (.tmp 10) ⟨w.heap.size, 1, none⟩ (.int .u8 (B : Int)) rfl rfl rfl (fun u hu => load_at Tryd.underlying5 Tryd.isAgg5 hu.2) ?_
    simp only [Act.put, List.setIfInBounds_toArray, List.set_cons_zero, List.set_cons_succ]
    refine take_one (.int .i64 (B : Int)) rfl (fun u hu => by go_simp) ?_
    simp only [Act.put, List.setIfInBounds_toArray, List.set_cons_zero, List.set_cons_succ]
    refine take_done ?_
    refine midk_wp rfl (call_wp 34 [.tmp 7] #[5] #[.int .u8 (A : Int)] rfl rfl rfl ?_)
    refine (Hnm.out _).mono ?_
    rintro e w3 ⟨rfl, h3d⟩
    have h3 := below_undrew h3d
    have hr3 := row_below Hr.out h3 (row_lt Hr.out)
    have hk3 := Hk.out.keep h3
    have hb3 := Hb.out.trans (h3.mono Hb.out.size)
    have y0 : w3.cell? ⟨w.heap.size, 0, none⟩ = some (.int .u8 (A : Int)) := by rw [cell_of_row _ _ 0 _ _ _ hr3]; rfl
    have y1 : w3.cell? ⟨w.heap.size, 1, none⟩ = some (.int .u8 (B : Int)) := by rw [cell_of_row _ _ 1 _ _ _ hr3]; rfl
    refine ⟨_, rfl, ⟨y0, y1⟩, ?_⟩
    refine take_one (.string (N ++ ⟨#[32]⟩)) rfl (fun u hu => by go_simp; omega) ?_
    simp only [Act.put, List.setIfInBounds_toArray, List.set_cons_zero, List.set_cons_succ]
    refine take_done ?_
    refine midk_wp rfl (call_wp 29 [.tmp 12] #[3] #[.int .i64 (B : Int)] rfl rfl rfl ?_)
    refine (Hit.out _ hk3).mono ?_
    rintro e w4 ⟨rfl, h4⟩
    have hr4 := row_below hr3 h4 (row_lt hr3)
    have hb4 := hb3.trans (h4.mono hb3.size)
    have z0 : w4.cell? ⟨w.heap.size, 0, none⟩ = some (.int .u8 (A : Int)) := by rw [cell_of_row _ _ 0 _ _ _ hr4]; rfl
    have z1 : w4.cell? ⟨w.heap.size, 1, none⟩ = some (.int .u8 (B : Int)) := by rw [cell_of_row _ _ 1 _ _ _ hr4]; rfl
    refine ⟨_, rfl, ⟨z0, z1⟩, ?_⟩
    refine midk_one (.string (N ++ ⟨#[32]⟩ ++ D)) rfl (by go_simp; omega) ⟨z0, z1⟩ ?_
    refine midk_one (.string (N ++ ⟨#[32]⟩ ++ D)) rfl rfl ⟨z0, z1⟩ ?_
    refine midk_end ?_
    have Hb4 := Lib.hid hb4; clear hb4
    go_wp2_with fail
    go_ret
    exact ⟨rfl, Hb4.out⟩
end Go.Proofs.YtnnfpaheglkmoaaDoor
