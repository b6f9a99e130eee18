/-
  What Sum, Reset and Copy do.
-/
import Derived.Test.YtghabilmpjjedaaRabPush
import Derived.Laws.IdiomCopy
import Derived.Deep.WholeRow
set_option linter.unusedVariables false
set_option maxRecDepth 100000
namespace Go.Proofs.Ytghabilmpjjedaa
open Go.RowKit

theorem sum_nil (w : World) : Calls Try.prog 16 #[.pointer none] w fun e w' => e = .returned (.int .u64 0) ∧ w = w' := by
  go_enter Try.func16, Try.ntmps16
  go_wp2_with fail
  go_ret
  exact ⟨rfl, rfl⟩
theorem sum_any {b : Nat} {r : Rol} {w : World} (h : RolAt b r w) (hf : r.Fit) :
    Calls Try.prog 16 #[.pointer (some ⟨b, 0, none⟩)] w fun e w' => e = .returned (.int .u64 (r.f : Int)) ∧ w = w' := by
  have c := h.cell (Rol.c323 hf)
  clear h hf
  go_enter Try.func16, Try.ntmps16
  go_wp2_with fail
  go_ret
  exact ⟨rfl, rfl⟩
theorem reset_nil (w : World) : Calls Try.prog 15 #[.pointer none] w fun e w' => e = .returned (.tuple #[]) ∧ w = w' := by
  go_enter Try.func15, Try.ntmps15
  go_wp2_with fail
  refine bodyPost_ret (v := .tuple #[]) (results_none rfl _ _ _) rfl ?_
  exact ⟨rfl, rfl⟩
def Rol.reset (r : Rol) : Rol := { r with bs := List.replicate 64 0, f := 0 }
theorem reset_any {b : Nat} {r : Rol} {w : World} (h : RolAt b r w) (hf : r.Fit) :
    Calls Try.prog 15 #[.pointer (some ⟨b, 0, none⟩)] w fun e w' => e = .returned (.tuple #[]) ∧ RolAt b r.reset w' ∧ Turns (fun j => j = b) w w' := by
  have cb := blank_any h hf
  have Cb := Lib.hid cb; clear cb
  have hf2 : ({ r with bs := List.replicate 64 0 } : Rol).Fit := ⟨by simp, hf.g, hf.n1, hf.n2, hf.o⟩
  clear h
  go_enter Try.func15, Try.ntmps15
  go_wp2_with fail
  refine Cb.out.mono ?_; rintro e w1 ⟨rfl, h1, t1⟩
  have c := h1.cell (Rol.c323 hf2)
  have f := h1.free 323
  have h2 := h1.set 323 (.int .u64 0) (Rol.set_f hf2 0)
  have t2 := t1.trans ((Turns.refl (fun j => j = b) w1).set b 323 (.int .u64 0) (fun _ => rfl)) (fun _ _ e => e)
  have H2 := Lib.hid h2; clear h2
  have T2 := Lib.hid t2; clear t2
  clear h1 t1
  go_wp2_with fail
  go_end0
  exact ⟨rfl, H2.out, T2.out⟩

theorem copy_none (w : World) : Calls Try.prog 17 #[.pointer none] w fun e w' => e = .returned (.pointer none) ∧ w = w' := by
  go_enter Try.func17, Try.ntmps17
  go_wp2_with fail
  go_ret
  exact ⟨rfl, rfl⟩
def rolZero : Array Value := Rol.cells ⟨List.replicate 64 0, 0, 0, 0, List.replicate 256 0, 0⟩
theorem zero_rol (w : World) : (zeroValue 58).run Try.prog w = .ok (.agg rolZero) w := by kernel_rfl
theorem rolZero_size : rolZero.size = 324 := by decide +kernel
theorem size_rol : (Try.prog.info? 58).map (·.size) = some 324 := by kernel_rfl
set_option maxHeartbeats 1000000 in
theorem copied_any {b : Nat} {r : Rol} {w : World} (h : RolAt b r w) (hf : r.Fit) :
    Calls Try.prog 17 #[.pointer (some ⟨b, 0, none⟩)] w fun e w' => e = .returned (.pointer (some ⟨w.heap.size, 0, none⟩)) ∧ RolAt w.heap.size r w' ∧ Below w.heap.size w w' := by
  have hz := zero_rol
  have hzs : rolZero.size = r.cells.size := by rw [Rol.size hf]; exact rolZero_size
  generalize rolZero = Z at *
  have hs : (Try.prog.info? 58).map (·.size) = some r.cells.size := by rw [Rol.size hf]; exact size_rol
  have h1 := r.one
  have h2 : RolAt w.heap.size r (w.alloc (.cells r.cells 58)) := heap_alloc_new w _
  have b2 : Below w.heap.size w (w.alloc (.cells r.cells 58)) := (Below.refl _ w).alloc (Nat.le_refl _) _
  have hb : w.heap[b]? = some (.cells r.cells 58 (0, 0)) := h
  generalize hC : r.cells = C at *
  clear h hf
  have H2 := Lib.hid h2; clear h2
  have HC := Lib.hid hC; clear hC
  have B2 := Lib.hid b2; clear b2
  have Hs := Lib.hid hs; clear hs
  have Hss := Lib.hid hzs; clear hzs
  have H1 := Lib.hid h1; clear h1
  have Hb := Lib.hid hb; clear hb
  go_enter Try.func17, Try.ntmps17
  go_wp2_with (first | (with_reducible refine wpList_load_row rfl 58 (.tmp 7) rfl b rfl _ C _ _ Hb.out Try.underlying58 rfl Hs.out ?_) | (with_reducible refine wpList_store_whole rfl 58 (.tmp 3) (.tmp 8) rfl w.heap.size C rfl rfl _ Z (heap_alloc_new _ _) Hs.out Hss.out H1.out ?_; rw [World.setRow_alloc_new]))
  go_ret
  exact ⟨rfl, H2.out, B2.out⟩
end Go.Proofs.Ytghabilmpjjedaa
