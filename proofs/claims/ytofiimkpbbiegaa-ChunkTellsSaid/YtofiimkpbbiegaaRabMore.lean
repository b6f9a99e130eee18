/-
  What Sum, Reset and Copy do.
-/
import Derived.Test.YtofiimkpbbiegaaRabPush
import Derived.Laws.IdiomCopy
import Derived.Deep.WholeRow
set_option linter.unusedVariables false
set_option maxRecDepth 100000
namespace Go.Proofs.Ytofiimkpbbiegaa
open Go.RowKit

theorem reset_nil (w : World) : Calls Try.prog 35 #[.pointer none] w fun e w' => e = .returned (.tuple #[]) ∧ w = w' := by
  go_enter Try.func35, Try.ntmps35
  go_wp2_with fail
  refine bodyPost_ret (v := .tuple #[]) (results_none rfl _ _ _) rfl ?_
  exact ⟨rfl, rfl⟩
def Rol.reset (r : Rol) : Rol := { r with bs := List.replicate 64 0, f := 0 }
theorem reset_any {b : Nat} {r : Rol} {w : World} (h : RolAt b r w) (hf : r.Fit) :
    Calls Try.prog 35 #[.pointer (some ⟨b, 0, none⟩)] w fun e w' => e = .returned (.tuple #[]) ∧ RolAt b r.reset w' ∧ Turns (fun j => j = b) w w' := by
  have cb := blank_any h hf
  have Cb := Lib.hid cb; clear cb
  have hf2 : ({ r with bs := List.replicate 64 0 } : Rol).Fit := ⟨by simp, hf.g, hf.n1, hf.n2, hf.o⟩
  clear h
  go_enter Try.func35, Try.ntmps35
  go_wp2_with fail
  refine Cb.out.mono ?_; rintro e w1 ⟨rfl, h1, t1⟩
  have c := h1.cell (Rol.c323 hf2)
  have f := h1.free 323
  have h2 := h1.set 323 (.int .u64 0) (Rol.set_f hf2 0)
  have t2 := t1.trans ((Turns.refl (fun j => j = b) w1).set b 323 (.int .u64 0) (fun _ => rfl)) (fun _ _ e => e)
  have H2 := Lib.hid h2; clear h2
  have T2 := Lib.hid t2; clear t2
  clear h1 t1
  go_wp2_with fail
  go_end0
  exact ⟨rfl, H2.out, T2.out⟩

def rolZero : Array Value := Rol.cells ⟨List.replicate 64 0, 0, 0, 0, List.replicate 256 0, 0⟩
theorem zero_rol (w : World) : (zeroValue 85).run Try.prog w = .ok (.agg rolZero) w := by kernel_rfl
theorem rolZero_size : rolZero.size = 324 := by decide +kernel
theorem size_rol : (Try.prog.info? 85).map (·.size) = some 324 := by kernel_rfl
end Go.Proofs.Ytofiimkpbbiegaa
