/-
  What the small functions of package sha return: rotations, and the four sums of them.
-/
import Derived.Test.YtdlcdbpigcmnbaaDoorGoU32
import Derived.Test.YtdlcdbpigcmnbaaDoorShaPure
import Derived.Test.YtdlcdbpigcmnbaaDoorShelf
import Derived.Test.YtdlcdbpigcmnbaaDoorRows
import Derived.Deep.QuietTactic
import Derived.BigQuiet
set_option linter.unusedVariables false
namespace Go.Proofs.YtdlcdbpigcmnbaaDoor
open Go.RowKit

theorem rot_any (x n : Nat) (w : World) (hx : x < 4294967296) (h0 : 0 < n) (h1 : n < 32) :
    Calls Tryd.prog 50 #[.int .u32 x, .int .i64 n] w fun e w' => e = .returned (.int .u32 (Sha.rot x n)) ∧ ∃ k, w' = w.drewN k := by
  have hlen : Calls Tryd.prog 51 #[.int .u64 4294967295] w fun e w' => e = .returned (.int .i64 32) ∧ w = w' :=
    (Tryd.bits_Len64 4294967295 w (by decide) (by decide)).mono fun e w' ⟨h, h'⟩ => ⟨h, h'.symm⟩
  have hx0 : bits .xor .u32 IntKind.u32.max 0 = 4294967295 := by decide +kernel
  have hv : bits .or .u32 ((x : Int) / 2 ^ n) ((x : Int) * 2 ^ (32 - n) % 4294967296) = ((Sha.rot x n : Nat) : Int) := by
    have e1 : ((x : Int) / 2 ^ n) = ((x / 2 ^ n : Nat) : Int) := by simp
    have e2 : ((x : Int) * 2 ^ (32 - n) % 4294967296) = ((x * 2 ^ (32 - n) % 4294967296 : Nat) : Int) := by simp
    rw [e1, e2, u32_or _ _ (Sha.div_lt x n hx) (Nat.mod_lt _ (by decide))]
    rfl
  have Hv := Lib.hid hv; clear hv
  go_enter Tryd.func50, Tryd.ntmps50
  go_wp2_with (go_at_call 51; refine hlen.mono ?_; rintro e w1 ⟨rfl, rfl⟩)
  go_quiet (fail)
  all_goals
    go_wp2
    go_ret
    exact ⟨ret_int Hv.out, _, rfl⟩

theorem sm0_any (x : Nat) (w : World) (hx : x < 4294967296) :
    Calls Tryd.prog 49 #[.int .u32 x] w fun e w' => e = .returned (.int .u32 (Sha.sm0 x)) ∧ ∃ k, w' = w.drewN k := by
  have r1 := Sha.rot_lt x 7 hx
  have r2 := Sha.rot_lt x 18 hx
  have c1 := fun u => rot_any x 7 u hx (by decide) (by decide)
  have c2 := fun u => rot_any x 18 u hx (by decide) (by decide)
  have hv : bits .xor .u32 (bits .xor .u32 ((Sha.rot x 7 : Nat) : Int) ((Sha.rot x 18 : Nat) : Int)) ((x : Int) / 8) = ((Sha.sm0 x : Nat) : Int) := by
    rw [show ((x : Int) / 8) = ((x / 8 : Nat) : Int) by simp, u32_xor _ _ r1 r2, u32_xor _ _ (Sha.xor_lt r1 r2) (by omega)]; rfl
  have Hv := Lib.hid hv; clear hv
  have C1 := Lib.hid c1; clear c1
  have C2 := Lib.hid c2; clear c2
  go_enter Tryd.func49, Tryd.ntmps49
  go_wp2_with fail
  refine (C1.out _).mono ?_; rintro e w1 ⟨rfl, k1, rfl⟩
  go_wp2_with fail
  refine (C2.out _).mono ?_; rintro e w2 ⟨rfl, k2, rfl⟩
  go_wp2_with fail
  go_ret
  exact ⟨ret_int Hv.out, _, rfl⟩

theorem sm1_any (x : Nat) (w : World) (hx : x < 4294967296) :
    Calls Tryd.prog 48 #[.int .u32 x] w fun e w' => e = .returned (.int .u32 (Sha.sm1 x)) ∧ ∃ k, w' = w.drewN k := by
  have r1 := Sha.rot_lt x 17 hx
  have r2 := Sha.rot_lt x 19 hx
  have c1 := fun u => rot_any x 17 u hx (by decide) (by decide)
  have c2 := fun u => rot_any x 19 u hx (by decide) (by decide)
  have hv : bits .xor .u32 (bits .xor .u32 ((Sha.rot x 17 : Nat) : Int) ((Sha.rot x 19 : Nat) : Int)) ((x : Int) / 1024) = ((Sha.sm1 x : Nat) : Int) := by
    rw [show ((x : Int) / 1024) = ((x / 1024 : Nat) : Int) by simp, u32_xor _ _ r1 r2, u32_xor _ _ (Sha.xor_lt r1 r2) (by omega)]; rfl
  have Hv := Lib.hid hv; clear hv
  have C1 := Lib.hid c1; clear c1
  have C2 := Lib.hid c2; clear c2
  go_enter Tryd.func48, Tryd.ntmps48
  go_wp2_with fail
  refine (C1.out _).mono ?_; rintro e w1 ⟨rfl, k1, rfl⟩
  go_wp2_with fail
  refine (C2.out _).mono ?_; rintro e w2 ⟨rfl, k2, rfl⟩
  go_wp2_with fail
  go_ret
  exact ⟨ret_int Hv.out, _, rfl⟩

theorem bg0_any (x : Nat) (w : World) (hx : x < 4294967296) :
    Calls Tryd.prog 39 #[.int .u32 x] w fun e w' => e = .returned (.int .u32 (Sha.bg0 x)) ∧ ∃ k, w' = w.drewN k := by
  have r1 := Sha.rot_lt x 2 hx
  have r2 := Sha.rot_lt x 13 hx
  have r3 := Sha.rot_lt x 22 hx
  have c1 := fun u => rot_any x 2 u hx (by decide) (by decide)
  have c2 := fun u => rot_any x 13 u hx (by decide) (by decide)
  have c3 := fun u => rot_any x 22 u hx (by decide) (by decide)
  have hv : bits .xor .u32 (bits .xor .u32 ((Sha.rot x 2 : Nat) : Int) ((Sha.rot x 13 : Nat) : Int)) ((Sha.rot x 22 : Nat) : Int) = ((Sha.bg0 x : Nat) : Int) := by
    rw [u32_xor _ _ r1 r2, u32_xor _ _ (Sha.xor_lt r1 r2) r3]; rfl
  have Hv := Lib.hid hv; clear hv
  have C1 := Lib.hid c1; clear c1
  have C2 := Lib.hid c2; clear c2
  have C3 := Lib.hid c3; clear c3
  go_enter Tryd.func39, Tryd.ntmps39
  go_wp2_with fail
  refine (C1.out _).mono ?_; rintro e w1 ⟨rfl, k1, rfl⟩
  go_wp2_with fail
  refine (C2.out _).mono ?_; rintro e w2 ⟨rfl, k2, rfl⟩
  go_wp2_with fail
  refine (C3.out _).mono ?_; rintro e w3 ⟨rfl, k3, rfl⟩
  go_wp2_with fail
  go_ret
  exact ⟨ret_int Hv.out, _, rfl⟩

theorem bg1_any (x : Nat) (w : World) (hx : x < 4294967296) :
    Calls Tryd.prog 38 #[.int .u32 x] w fun e w' => e = .returned (.int .u32 (Sha.bg1 x)) ∧ ∃ k, w' = w.drewN k := by
  have r1 := Sha.rot_lt x 6 hx
  have r2 := Sha.rot_lt x 11 hx
  have r3 := Sha.rot_lt x 25 hx
  have c1 := fun u => rot_any x 6 u hx (by decide) (by decide)
  have c2 := fun u => rot_any x 11 u hx (by decide) (by decide)
  have c3 := fun u => rot_any x 25 u hx (by decide) (by decide)
  have hv : bits .xor .u32 (bits .xor .u32 ((Sha.rot x 6 : Nat) : Int) ((Sha.rot x 11 : Nat) : Int)) ((Sha.rot x 25 : Nat) : Int) = ((Sha.bg1 x : Nat) : Int) := by
    rw [u32_xor _ _ r1 r2, u32_xor _ _ (Sha.xor_lt r1 r2) r3]; rfl
  have Hv := Lib.hid hv; clear hv
  have C1 := Lib.hid c1; clear c1
  have C2 := Lib.hid c2; clear c2
  have C3 := Lib.hid c3; clear c3
  go_enter Tryd.func38, Tryd.ntmps38
  go_wp2_with fail
  refine (C1.out _).mono ?_; rintro e w1 ⟨rfl, k1, rfl⟩
  go_wp2_with fail
  refine (C2.out _).mono ?_; rintro e w2 ⟨rfl, k2, rfl⟩
  go_wp2_with fail
  refine (C3.out _).mono ?_; rintro e w3 ⟨rfl, k3, rfl⟩
  go_wp2_with fail
  go_ret
  exact ⟨ret_int Hv.out, _, rfl⟩

end Go.Proofs.YtdlcdbpigcmnbaaDoor
