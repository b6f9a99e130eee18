/-
  The chapter's examples.
-/
import Derived.Test.YtolldoclnfnceaaDoorVerFns
set_option linter.unusedVariables false
set_option maxRecDepth 100000
namespace Go.Proofs.YtolldoclnfnceaaDoor
open Go.RowKit

theorem vex_A : vAt (Ver.check (prog [⟨#[97]⟩] [(1, 0), (3, 0), (23, 0)]) 1) = 0 ∧ vErr (Ver.check (prog [⟨#[97]⟩] [(1, 0), (3, 0), (23, 0)]) 1) = 0 := by decide +kernel
theorem vex_B : vAt (Ver.check (prog [⟨#[97]⟩] [(1, 0), (3, 0), (23, 0)]) 2) = 2 ∧ vErr (Ver.check (prog [⟨#[97]⟩] [(1, 0), (3, 0), (23, 0)]) 2) = 133 := by decide +kernel
theorem vex_C : vAt (Ver.check (prog [] [(3, 0), (9, 0)]) 1) = 1 ∧ vErr (Ver.check (prog [] [(3, 0), (9, 0)]) 1) = 130 := by decide +kernel
theorem vex_D : vAt (Ver.check (prog [] [(2, 1), (19, 0)]) 1) = 2 ∧ vErr (Ver.check (prog [] [(2, 1), (19, 0)]) 1) = 132 := by decide +kernel
theorem vex_E : vAt (Ver.check (prog [] [(3, 0), (22, 44), (14, 0), (21, 0)]) 1) = 0 ∧ vErr (Ver.check (prog [] [(3, 0), (22, 44), (14, 0), (21, 0)]) 1) = 0 := by decide +kernel
theorem vex_F : vAt (Ver.check (prog [⟨#[97]⟩] [(1, 0), (3, 0), (23, 0)]) 0) = 0 ∧ vErr (Ver.check (prog [⟨#[97]⟩] [(1, 0), (3, 0), (23, 0)]) 0) = 2 := by decide +kernel
theorem ex_code (cs : List Cod.In) (w : World) : InsAt (some ⟨w.heap.size, 0, none⟩) cs.length cs (w.alloc (.cells (cs.flatMap insCells).toArray 48)) := by
  have r1 := heap_alloc_new w (.cells (cs.flatMap insCells).toArray 48)
  refine ⟨rfl, fun j hj => ⟨_, 0, rfl, ?_, ?_⟩⟩
  · have hx : cs[j]? = some (cs.getD j (0, 0)) := by rw [List.getD_eq_getElem?_getD, List.getElem?_eq_getElem hj]; rfl
    rw [cell_at r1]
    have := insCells_at cs j _ hx 0 _ rfl
    simp only [Nat.add_zero] at this
    simpa using this
  · have hx : cs[j]? = some (cs.getD j (0, 0)) := by rw [List.getD_eq_getElem?_getD, List.getElem?_eq_getElem hj]; rfl
    rw [cell_at r1]
    have := insCells_at cs j _ hx 1 _ rfl
    simpa using this
theorem ex_only (cs : List Cod.In) (w : World) : PrAt ⟨none, 0, 0, some ⟨w.heap.size, 0, none⟩, cs.length, cs.length⟩ [] cs (w.alloc (.cells (cs.flatMap insCells).toArray 48)) :=
  ⟨Strs.nil _ _, ex_code cs w, fun _ => rfl, fun e => by cases e⟩
theorem vex_prog (w : World) : PrAt ⟨some ⟨w.heap.size, 0, none⟩, 1, 1, some ⟨w.heap.size + 1, 0, none⟩, 3, 3⟩ [⟨#[97]⟩] [(1, 0), (3, 0), (23, 0)] ((w.alloc (.cells #[.string ⟨#[97]⟩] 9)).alloc (.cells #[.int .u8 1, .int .u8 0, .int .u8 3, .int .u8 0, .int .u8 23, .int .u8 0] 48)) := by
  have r1 := heap_alloc_new w (.cells #[.string ⟨#[97]⟩] 9)
  have h2 := ex_code [(1, 0), (3, 0), (23, 0)] (w.alloc (.cells #[.string ⟨#[97]⟩] 9))
  rw [alloc_size] at h2
  refine ⟨⟨rfl, fun j hj => ⟨_, 0, rfl, ?_⟩⟩, h2, fun e => (by cases e), fun e => (by cases e)⟩
  obtain rfl : j = 0 := by simp only at hj; omega
  rw [cell_at (row_alloc r1 _)]; rfl
/-- Check of a program whose answer is known -/
theorem vex_any {ts : List ByteArray} {cs : List Cod.In} {role a c : Nat} (h : vAt (Ver.check (prog ts cs) role) = a ∧ vErr (Ver.check (prog ts cs) role) = c) {x : Pv} {w : World} (hp : PrAt x ts cs w) (hk : Kn w) (hn : x.n ≤ 100) (hm : x.m ≤ 100) :
    Calls Tryd.prog 10 #[x.v, .int .u8 (role : Int)] w fun e w' => e = .returned (.tuple #[.int .i64 (a : Int), .int .i64 (c : Int)]) ∧ Below w.heap.size w w' := by
  have := vcheck_any hp hk role (by omega) (by omega)
  rw [h.1, h.2] at this
  exact this

set_option maxHeartbeats 4000000 in
theorem alive_any (w : World) (h : Kn w) : Calls Tryd.prog 8 #[] w fun e w' => e = .returned (.bool true) ∧ Below w.heap.size w w' := by
  have hp := vex_prog w
  have hb1 := (obj_below w (.cells #[.string ⟨#[97]⟩] 9)).trans ((obj_below (w.alloc (.cells #[.string ⟨#[97]⟩] 9)) (.cells #[.int .u8 1, .int .u8 0, .int .u8 3, .int .u8 0, .int .u8 23, .int .u8 0] 48)).mono (obj_below w _).size)
  have s2 : ((w.alloc (.cells #[.string ⟨#[97]⟩] 9)).alloc (.cells #[.int .u8 1, .int .u8 0, .int .u8 3, .int .u8 0, .int .u8 23, .int .u8 0] 48)).heap.size = w.heap.size + 1 + 1 := by rw [alloc_size, alloc_size]
  obtain ⟨BX, hBX⟩ : ∃ BX : Obj, BX = .cells #[.slice (some ⟨w.heap.size, 0, none⟩) 1 1, .slice (some ⟨w.heap.size + 1, 0, none⟩) 3 3] 25 := ⟨_, rfl⟩
  have hb2 := obj_below ((w.alloc (.cells #[.string ⟨#[97]⟩] 9)).alloc (.cells #[.int .u8 1, .int .u8 0, .int .u8 3, .int .u8 0, .int .u8 23, .int .u8 0] 48)) BX
  have hbx : (((w.alloc (.cells #[.string ⟨#[97]⟩] 9)).alloc (.cells #[.int .u8 1, .int .u8 0, .int .u8 3, .int .u8 0, .int .u8 23, .int .u8 0] 48)).alloc BX).heap[w.heap.size + 1 + 1]? = some BX := alloc_at s2.symm
  have hp2 := hp.keep hb2
  have hb := hb1.trans (hb2.mono hb1.size)
  have hk := h.keep hb
  rw [hBX] at hbx hp2 hb hk
  clear hBX hb2 hb1 hp s2 h
  have Hb0 := Lib.hid hb; clear hb
  have Hp0 := Lib.hid hp2; clear hp2
  have Hx0 := Lib.hid hbx; clear hbx
  have Hk0 := Lib.hid hk; clear hk
  have A1 := fun u (k : PrAt ⟨some ⟨w.heap.size, 0, none⟩, 1, 1, some ⟨w.heap.size + 1, 0, none⟩, 3, 3⟩ [⟨#[97]⟩] [(1, 0), (3, 0), (23, 0)] u) (kk : Kn u) => vex_any vex_A k kk (by simp) (by simp)
  have A2 := fun u (k : PrAt ⟨some ⟨w.heap.size, 0, none⟩, 1, 1, some ⟨w.heap.size + 1, 0, none⟩, 3, 3⟩ [⟨#[97]⟩] [(1, 0), (3, 0), (23, 0)] u) (kk : Kn u) => vex_any vex_B k kk (by simp) (by simp)
  have A3 := fun u (k : PrAt ⟨some ⟨w.heap.size, 0, none⟩, 1, 1, some ⟨w.heap.size + 1, 0, none⟩, 3, 3⟩ [⟨#[97]⟩] [(1, 0), (3, 0), (23, 0)] u) (kk : Kn u) => vex_any vex_F k kk (by simp) (by simp)
  have HA1 := Lib.hid A1; clear A1
  have HA2 := Lib.hid A2; clear A2
  have HA3 := Lib.hid A3; clear A3
  go_enter Tryd.func8, Tryd.ntmps8
  go_wp2_with fail
  refine (HA1.out _ Hp0.out Hk0.out).mono ?_; rintro e w1 ⟨rfl, h1⟩
  have hr := row_below Hx0.out h1 (row_lt Hx0.out)
  have c0 : w1.cell? ⟨w.heap.size + 1 + 1, 0, none⟩ = some (.slice (some ⟨w.heap.size, 0, none⟩) 1 1) := by rw [cell_at hr]; rfl
  have c1 : w1.cell? ⟨w.heap.size + 1 + 1, 1, none⟩ = some (.slice (some ⟨w.heap.size + 1, 0, none⟩) 3 3) := by rw [cell_at hr]; rfl
  have Hp1 := Lib.hid (Hp0.out.keep h1)
  have Hk1 := Lib.hid (Hk0.out.keep h1)
  have Hx1 := Lib.hid hr; clear hr
  have Hb1 := Lib.hid (Hb0.out.trans (h1.mono Hb0.out.size)); clear h1
  clear Hb0 Hp0 Hx0 Hk0
  go_wp2_with fail
  refine (HA2.out _ Hp1.out Hk1.out).mono ?_; rintro e w2 ⟨rfl, h1⟩
  clear c0 c1
  have Hp2 := Lib.hid (Hp1.out.keep h1)
  have Hk2 := Lib.hid (Hk1.out.keep h1)
  have Hx2 := Lib.hid (row_below Hx1.out h1 (row_lt Hx1.out))
  have Hb2 := Lib.hid (Hb1.out.trans (h1.mono Hb1.out.size)); clear h1
  clear Hb1 Hp1 Hx1 Hk1
  have hcC : PrAt ⟨none, 0, 0, some ⟨w2.heap.size, 0, none⟩, 2, 2⟩ [] [(3, 0), (9, 0)] (w2.alloc (.cells #[.int .u8 3, .int .u8 0, .int .u8 9, .int .u8 0] 48)) := ex_only [(3, 0), (9, 0)] w2
  have hdC := obj_below w2 (.cells #[.int .u8 3, .int .u8 0, .int .u8 9, .int .u8 0] 48)
  have HcC := Lib.hid (vex_any vex_C hcC (Hk2.out.keep hdC) (by simp) (by simp)); clear hcC
  go_wp2_with fail
  refine HcC.out.mono ?_; rintro e w3 ⟨rfl, h0⟩
  have h1 := hdC.trans (h0.mono hdC.size); clear h0
  have Hp3 := Lib.hid (Hp2.out.keep h1)
  have Hk3 := Lib.hid (Hk2.out.keep h1)
  have Hx3 := Lib.hid (row_below Hx2.out h1 (row_lt Hx2.out))
  have Hb3 := Lib.hid (Hb2.out.trans (h1.mono Hb2.out.size)); clear h1
  clear Hb2 Hp2 Hx2 Hk2 HcC hdC
  have hcD : PrAt ⟨none, 0, 0, some ⟨w3.heap.size, 0, none⟩, 2, 2⟩ [] [(2, 1), (19, 0)] (w3.alloc (.cells #[.int .u8 2, .int .u8 1, .int .u8 19, .int .u8 0] 48)) := ex_only [(2, 1), (19, 0)] w3
  have hdD := obj_below w3 (.cells #[.int .u8 2, .int .u8 1, .int .u8 19, .int .u8 0] 48)
  have HcD := Lib.hid (vex_any vex_D hcD (Hk3.out.keep hdD) (by simp) (by simp)); clear hcD
  go_wp2_with fail
  refine HcD.out.mono ?_; rintro e w4 ⟨rfl, h0⟩
  have h1 := hdD.trans (h0.mono hdD.size); clear h0
  have Hp4 := Lib.hid (Hp3.out.keep h1)
  have Hk4 := Lib.hid (Hk3.out.keep h1)
  have Hx4 := Lib.hid (row_below Hx3.out h1 (row_lt Hx3.out))
  have Hb4 := Lib.hid (Hb3.out.trans (h1.mono Hb3.out.size)); clear h1
  clear Hb3 Hp3 Hx3 Hk3 HcD hdD
  have hcE : PrAt ⟨none, 0, 0, some ⟨w4.heap.size, 0, none⟩, 4, 4⟩ [] [(3, 0), (22, 44), (14, 0), (21, 0)] (w4.alloc (.cells #[.int .u8 3, .int .u8 0, .int .u8 22, .int .u8 44, .int .u8 14, .int .u8 0, .int .u8 21, .int .u8 0] 48)) := ex_only [(3, 0), (22, 44), (14, 0), (21, 0)] w4
  have hdE := obj_below w4 (.cells #[.int .u8 3, .int .u8 0, .int .u8 22, .int .u8 44, .int .u8 14, .int .u8 0, .int .u8 21, .int .u8 0] 48)
  have HcE := Lib.hid (vex_any vex_E hcE (Hk4.out.keep hdE) (by simp) (by simp)); clear hcE
  go_wp2_with fail
  refine HcE.out.mono ?_; rintro e w5 ⟨rfl, h0⟩
  have h1 := hdE.trans (h0.mono hdE.size); clear h0
  have Hp5 := Lib.hid (Hp4.out.keep h1)
  have Hk5 := Lib.hid (Hk4.out.keep h1)
  have Hx5 := Lib.hid (row_below Hx4.out h1 (row_lt Hx4.out))
  have Hb5 := Lib.hid (Hb4.out.trans (h1.mono Hb4.out.size)); clear h1
  clear Hb4 Hp4 Hx4 Hk4 HcE hdE
  have c0 : w5.cell? ⟨w.heap.size + 1 + 1, 0, none⟩ = some (.slice (some ⟨w.heap.size, 0, none⟩) 1 1) := by rw [cell_at Hx5.out]; rfl
  have c1 : w5.cell? ⟨w.heap.size + 1 + 1, 1, none⟩ = some (.slice (some ⟨w.heap.size + 1, 0, none⟩) 3 3) := by rw [cell_at Hx5.out]; rfl
  go_wp2_with fail
  refine (HA3.out _ Hp5.out Hk5.out).mono ?_; rintro e w6 ⟨rfl, h1⟩
  have HB := Lib.hid (Hb5.out.trans (h1.mono Hb5.out.size)); clear h1
  clear c0 c1
  go_wp2_with fail
  go_ret
  exact ⟨rfl, HB.out⟩
end Go.Proofs.YtolldoclnfnceaaDoor
