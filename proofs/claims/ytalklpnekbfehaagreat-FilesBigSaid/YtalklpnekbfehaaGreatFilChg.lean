/-
  A change is read of two strings.
-/
import Derived.Test.YtalklpnekbfehaaGreatFilPC
set_option linter.unusedVariables false
set_option maxRecDepth 100000
namespace Go.Proofs.YtalklpnekbfehaaGreat
open Go.RowKit

namespace Fil
/-- the change whose strings these are -/
def rchg (l : List ByteArray) : Option Chb :=
  if l.length < 2 then none
  else if (l.getD 0 .empty).data.toList = [] then none
  else
    let k := ba ((l.getD 0 .empty).data.toList.take 1)
    let x : Chb := ⟨ba ((l.getD 0 .empty).data.toList.drop 1), l.getD 1 .empty, decide (k = ⟨#[1]⟩)⟩
    if (k = ⟨#[0]⟩ ∨ k = ⟨#[1]⟩) ∧ x.bad = false then some x else none
end Fil
def rchR : Option Chb → Ending
  | none => .returned (.tuple #[chgV ⟨#[]⟩ ⟨#[]⟩ false, .int .i64 50])
  | some x => .returned (.tuple #[chgV x.n x.d x.g, .int .i64 0])

theorem chg_results (tmps : Array Value) (b : Nat) (x y z : Value) (e : Value) (W : World) (h2 : tmps.getD 2 undef = .pointer (some ⟨b, 0, none⟩)) (h3 : tmps.getD 3 undef = e)
    (h : W.heap[b]? = some (.cells #[x, y, z] 58 (0, 0))) :
    (results Tryz.f122 tmps).run Tryz.prog W = .ok (.tuple #[.agg #[x, y, z], e]) W := by
  have c0 : W.cell? ⟨b, 0, none⟩ = some x := by rw [cell_of_row _ _ 0 _ _ _ h]; rfl
  have c1 : W.cell? ⟨b, 1, none⟩ = some y := by rw [cell_of_row _ _ 1 _ _ _ h]; rfl
  have c2 : W.cell? ⟨b, 2, none⟩ = some z := by rw [cell_of_row _ _ 2 _ _ _ h]; rfl
  have f0 := row_free h 0
  have f1 := row_free h 1
  have f2 := row_free h 2
  have h2' : tmps[2]?.getD undef = .pointer (some ⟨b, 0, none⟩) := by simpa using h2
  have h3' : tmps[3]?.getD undef = e := by simpa using h3
  simp [results, go_sem, h2', h3', c0, c1, c2]

set_option maxHeartbeats 800000 in
theorem rc_leaf1 (b off len cap : Nat) (s0 s1 K M : ByteArray) (w : World) (hl : 2 ≤ len) (d0 : w.cell? ⟨b, off, none⟩ = some (.string s0)) (d1 : w.cell? ⟨b, off + 1, none⟩ = some (.string s1))
    (hne : s0.toList.isEmpty = false) (hsz : 1 ≤ s0.size) (hK : s0.extract 0 1 = K) (hM : s0.extract 1 s0.size = M) (k0 : (K.toList == [0]) = true) (k1 : (K.toList == [1]) = false)
    (hiv : ∀ u, Calls Tryz.prog 29 #[chgV M s1 false] u fun e w' => e = .returned (.bool true) ∧ Below u.heap.size u w') :
    Calls Tryz.prog 122 #[.slice (some ⟨b, off, none⟩) len cap] w fun e w' => e = .returned (.tuple #[chgV ⟨#[]⟩ ⟨#[]⟩ false, .int .i64 50]) ∧ Below w.heap.size w w' := by
  have hrA := heap_alloc_new w (.cells #[.string ⟨#[]⟩, .string ⟨#[]⟩, .bool false] 58)
  have hkA : Below w.heap.size w (w.alloc (.cells #[.string ⟨#[]⟩, .string ⟨#[]⟩, .bool false] 58)) := (Below.refl _ w).alloc (Nat.le_refl _) _
  have hbl := cell_lt d0
  have x2 : ¬ (len : Int) < 2 := by omega
  have x0 : (0 : Int) < (len : Int) := by omega
  have x1 : (1 : Int) < (len : Int) := by omega
  have hsz2 : (1 : Int) ≤ (s0.size : Int) := by omega
  have D0 : (w.alloc (.cells #[.string ⟨#[]⟩, .string ⟨#[]⟩, .bool false] 58)).cell? ⟨b, off, none⟩ = some (.string s0) := by rw [World.cell?_of_block (hkA.block b hbl)]; exact d0
  have D1 : (w.alloc (.cells #[.string ⟨#[]⟩, .string ⟨#[]⟩, .bool false] 58)).cell? ⟨b, off + 1, none⟩ = some (.string s1) := by rw [World.cell?_of_block (hkA.block b hbl)]; exact d1
  have Hiv := Lib.hid hiv; clear hiv
  clear d0 d1
  go_enter Tryz.func122, Tryz.ntmps122
  go_wp2
  go_quiet (fail)
  obtain ⟨w1, hw1⟩ : ∃ w1, w1 = (w.alloc (.cells #[.string ⟨#[]⟩, .string ⟨#[]⟩, .bool false] 58)).drewN nq := ⟨_, rfl⟩
  have hr1 : w1.heap[w.heap.size]? = some (.cells #[.string ⟨#[]⟩, .string ⟨#[]⟩, .bool false] 58 (0, 0)) := by rw [hw1]; exact hrA
  have hk1 : Below w.heap.size w w1 := by rw [hw1]; exact drewN_below hkA _
  have dd1 : w1.cell? ⟨b, off + 1, none⟩ = some (.string s1) := by rw [hw1]; exact D1
  rw [← hw1]
  have hra := (Below.heap_alloc w1 (.cells #[.string M, .string s1, .bool false] 58) _ (row_lt hr1)).trans hr1
  have kA : Below w.heap.size w (w1.alloc (.cells #[.string M, .string s1, .bool false] 58)) := hk1.alloc (Nat.le_of_lt (row_lt hr1)) _
  have hss : (w1.alloc (.cells #[.string M, .string s1, .bool false] 58)).heap.size = w1.heap.size + 1 := by simp
  have hra2 : (w1.alloc (.cells #[.string M, .string s1, .bool false] 58)).heap[w1.heap.size]? = some (.cells #[.string M, .string s1, .bool false] 58 (0, 0)) := heap_alloc_new _ _
  have hsl := Lib.hid (row_lt hr1)
  clear hr1 hk1 hw1 D0 D1 hrA hkA hbl
  have KA := Lib.hid kA; clear kA
  go_wp2_with fail
  refine (Hiv.out _).mono ?_; rintro e w4 ⟨rfl, h4⟩
  have hr4 : w4.heap[w.heap.size]? = some (.cells #[.string ⟨#[]⟩, .string ⟨#[]⟩, .bool false] 58 (0, 0)) := by
    rw [h4.block _ (by have := hsl.out; omega)]; exact hra
  have hm4 : w4.heap[w1.heap.size]? = some (.cells #[.string M, .string s1, .bool false] 58 (0, 0)) := by
    rw [h4.block _ (by omega)]; exact hra2
  have k4 : Below w.heap.size w w4 := KA.out.trans (h4.mono (by have := hsl.out; omega))
  clear h4 hra hra2
  have c0 : w4.cell? ⟨w.heap.size, 0, none⟩ = some (.string ⟨#[]⟩) := by rw [cell_of_row _ _ 0 _ _ _ hr4]; rfl
  have c1 : w4.cell? ⟨w.heap.size, 1, none⟩ = some (.string ⟨#[]⟩) := by rw [cell_of_row _ _ 1 _ _ _ hr4]; rfl
  have c2 : w4.cell? ⟨w.heap.size, 2, none⟩ = some (.bool false) := by rw [cell_of_row _ _ 2 _ _ _ hr4]; rfl
  have f0 := row_free hr4 0
  have f1 := row_free hr4 1
  have f2 := row_free hr4 2
  have d0 : w4.cell? ⟨w1.heap.size, 0, none⟩ = some (.string M) := by rw [cell_of_row _ _ 0 _ _ _ hm4]; rfl
  have d1 : w4.cell? ⟨w1.heap.size, 1, none⟩ = some (.string s1) := by rw [cell_of_row _ _ 1 _ _ _ hm4]; rfl
  have d2 : w4.cell? ⟨w1.heap.size, 2, none⟩ = some (.bool false) := by rw [cell_of_row _ _ 2 _ _ _ hm4]; rfl
  have K4 := Lib.hid k4; clear k4
  go_wp2_with fail
  (try simp only [Exit.inBlock, Exit.then])
  refine bodyPost_ret (v := .tuple #[chgV ⟨#[]⟩ ⟨#[]⟩ false, .int .i64 50]) (chg_results _ w.heap.size _ _ _ _ _ rfl rfl (three_set hr4 _ _ _)) rfl ?_
  exact ⟨rfl, ((K4.out.setCell (p := ⟨w.heap.size, 0, none⟩) (Nat.le_refl _) _).setCell (p := ⟨w.heap.size, 1, none⟩) (Nat.le_refl _) _).setCell (p := ⟨w.heap.size, 2, none⟩) (Nat.le_refl _) _⟩

set_option maxHeartbeats 800000 in
theorem rc_leaf2 (b off len cap : Nat) (s0 s1 K M : ByteArray) (w : World) (hl : 2 ≤ len) (d0 : w.cell? ⟨b, off, none⟩ = some (.string s0)) (d1 : w.cell? ⟨b, off + 1, none⟩ = some (.string s1))
    (hne : s0.toList.isEmpty = false) (hsz : 1 ≤ s0.size) (hK : s0.extract 0 1 = K) (hM : s0.extract 1 s0.size = M) (k0 : (K.toList == [0]) = true) (k1 : (K.toList == [1]) = false)
    (hiv : ∀ u, Calls Tryz.prog 29 #[chgV M s1 false] u fun e w' => e = .returned (.bool false) ∧ Below u.heap.size u w') :
    Calls Tryz.prog 122 #[.slice (some ⟨b, off, none⟩) len cap] w fun e w' => e = .returned (.tuple #[chgV M s1 false, .int .i64 0]) ∧ Below w.heap.size w w' := by
  have hrA := heap_alloc_new w (.cells #[.string ⟨#[]⟩, .string ⟨#[]⟩, .bool false] 58)
  have hkA : Below w.heap.size w (w.alloc (.cells #[.string ⟨#[]⟩, .string ⟨#[]⟩, .bool false] 58)) := (Below.refl _ w).alloc (Nat.le_refl _) _
  have hbl := cell_lt d0
  have x2 : ¬ (len : Int) < 2 := by omega
  have x0 : (0 : Int) < (len : Int) := by omega
  have x1 : (1 : Int) < (len : Int) := by omega
  have hsz2 : (1 : Int) ≤ (s0.size : Int) := by omega
  have D0 : (w.alloc (.cells #[.string ⟨#[]⟩, .string ⟨#[]⟩, .bool false] 58)).cell? ⟨b, off, none⟩ = some (.string s0) := by rw [World.cell?_of_block (hkA.block b hbl)]; exact d0
  have D1 : (w.alloc (.cells #[.string ⟨#[]⟩, .string ⟨#[]⟩, .bool false] 58)).cell? ⟨b, off + 1, none⟩ = some (.string s1) := by rw [World.cell?_of_block (hkA.block b hbl)]; exact d1
  have Hiv := Lib.hid hiv; clear hiv
  clear d0 d1
  go_enter Tryz.func122, Tryz.ntmps122
  go_wp2
  go_quiet (fail)
  obtain ⟨w1, hw1⟩ : ∃ w1, w1 = (w.alloc (.cells #[.string ⟨#[]⟩, .string ⟨#[]⟩, .bool false] 58)).drewN nq := ⟨_, rfl⟩
  have hr1 : w1.heap[w.heap.size]? = some (.cells #[.string ⟨#[]⟩, .string ⟨#[]⟩, .bool false] 58 (0, 0)) := by rw [hw1]; exact hrA
  have hk1 : Below w.heap.size w w1 := by rw [hw1]; exact drewN_below hkA _
  have dd1 : w1.cell? ⟨b, off + 1, none⟩ = some (.string s1) := by rw [hw1]; exact D1
  rw [← hw1]
  have hra := (Below.heap_alloc w1 (.cells #[.string M, .string s1, .bool false] 58) _ (row_lt hr1)).trans hr1
  have kA : Below w.heap.size w (w1.alloc (.cells #[.string M, .string s1, .bool false] 58)) := hk1.alloc (Nat.le_of_lt (row_lt hr1)) _
  have hss : (w1.alloc (.cells #[.string M, .string s1, .bool false] 58)).heap.size = w1.heap.size + 1 := by simp
  have hra2 : (w1.alloc (.cells #[.string M, .string s1, .bool false] 58)).heap[w1.heap.size]? = some (.cells #[.string M, .string s1, .bool false] 58 (0, 0)) := heap_alloc_new _ _
  have hsl := Lib.hid (row_lt hr1)
  clear hr1 hk1 hw1 D0 D1 hrA hkA hbl
  have KA := Lib.hid kA; clear kA
  go_wp2_with fail
  refine (Hiv.out _).mono ?_; rintro e w4 ⟨rfl, h4⟩
  have hr4 : w4.heap[w.heap.size]? = some (.cells #[.string ⟨#[]⟩, .string ⟨#[]⟩, .bool false] 58 (0, 0)) := by
    rw [h4.block _ (by have := hsl.out; omega)]; exact hra
  have hm4 : w4.heap[w1.heap.size]? = some (.cells #[.string M, .string s1, .bool false] 58 (0, 0)) := by
    rw [h4.block _ (by omega)]; exact hra2
  have k4 : Below w.heap.size w w4 := KA.out.trans (h4.mono (by have := hsl.out; omega))
  clear h4 hra hra2
  have c0 : w4.cell? ⟨w.heap.size, 0, none⟩ = some (.string ⟨#[]⟩) := by rw [cell_of_row _ _ 0 _ _ _ hr4]; rfl
  have c1 : w4.cell? ⟨w.heap.size, 1, none⟩ = some (.string ⟨#[]⟩) := by rw [cell_of_row _ _ 1 _ _ _ hr4]; rfl
  have c2 : w4.cell? ⟨w.heap.size, 2, none⟩ = some (.bool false) := by rw [cell_of_row _ _ 2 _ _ _ hr4]; rfl
  have f0 := row_free hr4 0
  have f1 := row_free hr4 1
  have f2 := row_free hr4 2
  have d0 : w4.cell? ⟨w1.heap.size, 0, none⟩ = some (.string M) := by rw [cell_of_row _ _ 0 _ _ _ hm4]; rfl
  have d1 : w4.cell? ⟨w1.heap.size, 1, none⟩ = some (.string s1) := by rw [cell_of_row _ _ 1 _ _ _ hm4]; rfl
  have d2 : w4.cell? ⟨w1.heap.size, 2, none⟩ = some (.bool false) := by rw [cell_of_row _ _ 2 _ _ _ hm4]; rfl
  have K4 := Lib.hid k4; clear k4
  go_wp2_with fail
  (try simp only [Exit.inBlock, Exit.then])
  refine bodyPost_ret (v := .tuple #[chgV M s1 false, .int .i64 0]) (chg_results _ w.heap.size _ _ _ _ _ rfl rfl (three_set hr4 _ _ _)) rfl ?_
  exact ⟨rfl, ((K4.out.setCell (p := ⟨w.heap.size, 0, none⟩) (Nat.le_refl _) _).setCell (p := ⟨w.heap.size, 1, none⟩) (Nat.le_refl _) _).setCell (p := ⟨w.heap.size, 2, none⟩) (Nat.le_refl _) _⟩

set_option maxHeartbeats 800000 in
theorem rc_leaf3 (b off len cap : Nat) (s0 s1 K M : ByteArray) (w : World) (hl : 2 ≤ len) (d0 : w.cell? ⟨b, off, none⟩ = some (.string s0)) (d1 : w.cell? ⟨b, off + 1, none⟩ = some (.string s1))
    (hne : s0.toList.isEmpty = false) (hsz : 1 ≤ s0.size) (hK : s0.extract 0 1 = K) (hM : s0.extract 1 s0.size = M) (k0 : (K.toList == [0]) = false) (k1 : (K.toList == [1]) = true)
    (hiv : ∀ u, Calls Tryz.prog 29 #[chgV M s1 true] u fun e w' => e = .returned (.bool true) ∧ Below u.heap.size u w') :
    Calls Tryz.prog 122 #[.slice (some ⟨b, off, none⟩) len cap] w fun e w' => e = .returned (.tuple #[chgV ⟨#[]⟩ ⟨#[]⟩ false, .int .i64 50]) ∧ Below w.heap.size w w' := by
  have hrA := heap_alloc_new w (.cells #[.string ⟨#[]⟩, .string ⟨#[]⟩, .bool false] 58)
  have hkA : Below w.heap.size w (w.alloc (.cells #[.string ⟨#[]⟩, .string ⟨#[]⟩, .bool false] 58)) := (Below.refl _ w).alloc (Nat.le_refl _) _
  have hbl := cell_lt d0
  have x2 : ¬ (len : Int) < 2 := by omega
  have x0 : (0 : Int) < (len : Int) := by omega
  have x1 : (1 : Int) < (len : Int) := by omega
  have hsz2 : (1 : Int) ≤ (s0.size : Int) := by omega
  have D0 : (w.alloc (.cells #[.string ⟨#[]⟩, .string ⟨#[]⟩, .bool false] 58)).cell? ⟨b, off, none⟩ = some (.string s0) := by rw [World.cell?_of_block (hkA.block b hbl)]; exact d0
  have D1 : (w.alloc (.cells #[.string ⟨#[]⟩, .string ⟨#[]⟩, .bool false] 58)).cell? ⟨b, off + 1, none⟩ = some (.string s1) := by rw [World.cell?_of_block (hkA.block b hbl)]; exact d1
  have Hiv := Lib.hid hiv; clear hiv
  clear d0 d1
  go_enter Tryz.func122, Tryz.ntmps122
  go_wp2
  go_quiet (fail)
  obtain ⟨w1, hw1⟩ : ∃ w1, w1 = (w.alloc (.cells #[.string ⟨#[]⟩, .string ⟨#[]⟩, .bool false] 58)).drewN nq := ⟨_, rfl⟩
  have hr1 : w1.heap[w.heap.size]? = some (.cells #[.string ⟨#[]⟩, .string ⟨#[]⟩, .bool false] 58 (0, 0)) := by rw [hw1]; exact hrA
  have hk1 : Below w.heap.size w w1 := by rw [hw1]; exact drewN_below hkA _
  have dd1 : w1.cell? ⟨b, off + 1, none⟩ = some (.string s1) := by rw [hw1]; exact D1
  rw [← hw1]
  have hra := (Below.heap_alloc w1 (.cells #[.string M, .string s1, .bool true] 58) _ (row_lt hr1)).trans hr1
  have kA : Below w.heap.size w (w1.alloc (.cells #[.string M, .string s1, .bool true] 58)) := hk1.alloc (Nat.le_of_lt (row_lt hr1)) _
  have hss : (w1.alloc (.cells #[.string M, .string s1, .bool true] 58)).heap.size = w1.heap.size + 1 := by simp
  have hra2 : (w1.alloc (.cells #[.string M, .string s1, .bool true] 58)).heap[w1.heap.size]? = some (.cells #[.string M, .string s1, .bool true] 58 (0, 0)) := heap_alloc_new _ _
  have hsl := Lib.hid (row_lt hr1)
  clear hr1 hk1 hw1 D0 D1 hrA hkA hbl
  have KA := Lib.hid kA; clear kA
  go_wp2_with fail
  refine (Hiv.out _).mono ?_; rintro e w4 ⟨rfl, h4⟩
  have hr4 : w4.heap[w.heap.size]? = some (.cells #[.string ⟨#[]⟩, .string ⟨#[]⟩, .bool false] 58 (0, 0)) := by
    rw [h4.block _ (by have := hsl.out; omega)]; exact hra
  have hm4 : w4.heap[w1.heap.size]? = some (.cells #[.string M, .string s1, .bool true] 58 (0, 0)) := by
    rw [h4.block _ (by omega)]; exact hra2
  have k4 : Below w.heap.size w w4 := KA.out.trans (h4.mono (by have := hsl.out; omega))
  clear h4 hra hra2
  have c0 : w4.cell? ⟨w.heap.size, 0, none⟩ = some (.string ⟨#[]⟩) := by rw [cell_of_row _ _ 0 _ _ _ hr4]; rfl
  have c1 : w4.cell? ⟨w.heap.size, 1, none⟩ = some (.string ⟨#[]⟩) := by rw [cell_of_row _ _ 1 _ _ _ hr4]; rfl
  have c2 : w4.cell? ⟨w.heap.size, 2, none⟩ = some (.bool false) := by rw [cell_of_row _ _ 2 _ _ _ hr4]; rfl
  have f0 := row_free hr4 0
  have f1 := row_free hr4 1
  have f2 := row_free hr4 2
  have d0 : w4.cell? ⟨w1.heap.size, 0, none⟩ = some (.string M) := by rw [cell_of_row _ _ 0 _ _ _ hm4]; rfl
  have d1 : w4.cell? ⟨w1.heap.size, 1, none⟩ = some (.string s1) := by rw [cell_of_row _ _ 1 _ _ _ hm4]; rfl
  have d2 : w4.cell? ⟨w1.heap.size, 2, none⟩ = some (.bool true) := by rw [cell_of_row _ _ 2 _ _ _ hm4]; rfl
  have K4 := Lib.hid k4; clear k4
  go_wp2_with fail
  (try simp only [Exit.inBlock, Exit.then])
  refine bodyPost_ret (v := .tuple #[chgV ⟨#[]⟩ ⟨#[]⟩ false, .int .i64 50]) (chg_results _ w.heap.size _ _ _ _ _ rfl rfl (three_set hr4 _ _ _)) rfl ?_
  exact ⟨rfl, ((K4.out.setCell (p := ⟨w.heap.size, 0, none⟩) (Nat.le_refl _) _).setCell (p := ⟨w.heap.size, 1, none⟩) (Nat.le_refl _) _).setCell (p := ⟨w.heap.size, 2, none⟩) (Nat.le_refl _) _⟩

set_option maxHeartbeats 800000 in
theorem rc_leaf4 (b off len cap : Nat) (s0 s1 K M : ByteArray) (w : World) (hl : 2 ≤ len) (d0 : w.cell? ⟨b, off, none⟩ = some (.string s0)) (d1 : w.cell? ⟨b, off + 1, none⟩ = some (.string s1))
    (hne : s0.toList.isEmpty = false) (hsz : 1 ≤ s0.size) (hK : s0.extract 0 1 = K) (hM : s0.extract 1 s0.size = M) (k0 : (K.toList == [0]) = false) (k1 : (K.toList == [1]) = true)
    (hiv : ∀ u, Calls Tryz.prog 29 #[chgV M s1 true] u fun e w' => e = .returned (.bool false) ∧ Below u.heap.size u w') :
    Calls Tryz.prog 122 #[.slice (some ⟨b, off, none⟩) len cap] w fun e w' => e = .returned (.tuple #[chgV M s1 true, .int .i64 0]) ∧ Below w.heap.size w w' := by
  have hrA := heap_alloc_new w (.cells #[.string ⟨#[]⟩, .string ⟨#[]⟩, .bool false] 58)
  have hkA : Below w.heap.size w (w.alloc (.cells #[.string ⟨#[]⟩, .string ⟨#[]⟩, .bool false] 58)) := (Below.refl _ w).alloc (Nat.le_refl _) _
  have hbl := cell_lt d0
  have x2 : ¬ (len : Int) < 2 := by omega
  have x0 : (0 : Int) < (len : Int) := by omega
  have x1 : (1 : Int) < (len : Int) := by omega
  have hsz2 : (1 : Int) ≤ (s0.size : Int) := by omega
  have D0 : (w.alloc (.cells #[.string ⟨#[]⟩, .string ⟨#[]⟩, .bool false] 58)).cell? ⟨b, off, none⟩ = some (.string s0) := by rw [World.cell?_of_block (hkA.block b hbl)]; exact d0
  have D1 : (w.alloc (.cells #[.string ⟨#[]⟩, .string ⟨#[]⟩, .bool false] 58)).cell? ⟨b, off + 1, none⟩ = some (.string s1) := by rw [World.cell?_of_block (hkA.block b hbl)]; exact d1
  have Hiv := Lib.hid hiv; clear hiv
  clear d0 d1
  go_enter Tryz.func122, Tryz.ntmps122
  go_wp2
  go_quiet (fail)
  obtain ⟨w1, hw1⟩ : ∃ w1, w1 = (w.alloc (.cells #[.string ⟨#[]⟩, .string ⟨#[]⟩, .bool false] 58)).drewN nq := ⟨_, rfl⟩
  have hr1 : w1.heap[w.heap.size]? = some (.cells #[.string ⟨#[]⟩, .string ⟨#[]⟩, .bool false] 58 (0, 0)) := by rw [hw1]; exact hrA
  have hk1 : Below w.heap.size w w1 := by rw [hw1]; exact drewN_below hkA _
  have dd1 : w1.cell? ⟨b, off + 1, none⟩ = some (.string s1) := by rw [hw1]; exact D1
  rw [← hw1]
  have hra := (Below.heap_alloc w1 (.cells #[.string M, .string s1, .bool true] 58) _ (row_lt hr1)).trans hr1
  have kA : Below w.heap.size w (w1.alloc (.cells #[.string M, .string s1, .bool true] 58)) := hk1.alloc (Nat.le_of_lt (row_lt hr1)) _
  have hss : (w1.alloc (.cells #[.string M, .string s1, .bool true] 58)).heap.size = w1.heap.size + 1 := by simp
  have hra2 : (w1.alloc (.cells #[.string M, .string s1, .bool true] 58)).heap[w1.heap.size]? = some (.cells #[.string M, .string s1, .bool true] 58 (0, 0)) := heap_alloc_new _ _
  have hsl := Lib.hid (row_lt hr1)
  clear hr1 hk1 hw1 D0 D1 hrA hkA hbl
  have KA := Lib.hid kA; clear kA
  go_wp2_with fail
  refine (Hiv.out _).mono ?_; rintro e w4 ⟨rfl, h4⟩
  have hr4 : w4.heap[w.heap.size]? = some (.cells #[.string ⟨#[]⟩, .string ⟨#[]⟩, .bool false] 58 (0, 0)) := by
    rw [h4.block _ (by have := hsl.out; omega)]; exact hra
  have hm4 : w4.heap[w1.heap.size]? = some (.cells #[.string M, .string s1, .bool true] 58 (0, 0)) := by
    rw [h4.block _ (by omega)]; exact hra2
  have k4 : Below w.heap.size w w4 := KA.out.trans (h4.mono (by have := hsl.out; omega))
  clear h4 hra hra2
  have c0 : w4.cell? ⟨w.heap.size, 0, none⟩ = some (.string ⟨#[]⟩) := by rw [cell_of_row _ _ 0 _ _ _ hr4]; rfl
  have c1 : w4.cell? ⟨w.heap.size, 1, none⟩ = some (.string ⟨#[]⟩) := by rw [cell_of_row _ _ 1 _ _ _ hr4]; rfl
  have c2 : w4.cell? ⟨w.heap.size, 2, none⟩ = some (.bool false) := by rw [cell_of_row _ _ 2 _ _ _ hr4]; rfl
  have f0 := row_free hr4 0
  have f1 := row_free hr4 1
  have f2 := row_free hr4 2
  have d0 : w4.cell? ⟨w1.heap.size, 0, none⟩ = some (.string M) := by rw [cell_of_row _ _ 0 _ _ _ hm4]; rfl
  have d1 : w4.cell? ⟨w1.heap.size, 1, none⟩ = some (.string s1) := by rw [cell_of_row _ _ 1 _ _ _ hm4]; rfl
  have d2 : w4.cell? ⟨w1.heap.size, 2, none⟩ = some (.bool true) := by rw [cell_of_row _ _ 2 _ _ _ hm4]; rfl
  have K4 := Lib.hid k4; clear k4
  go_wp2_with fail
  (try simp only [Exit.inBlock, Exit.then])
  refine bodyPost_ret (v := .tuple #[chgV M s1 true, .int .i64 0]) (chg_results _ w.heap.size _ _ _ _ _ rfl rfl (three_set hr4 _ _ _)) rfl ?_
  exact ⟨rfl, ((K4.out.setCell (p := ⟨w.heap.size, 0, none⟩) (Nat.le_refl _) _).setCell (p := ⟨w.heap.size, 1, none⟩) (Nat.le_refl _) _).setCell (p := ⟨w.heap.size, 2, none⟩) (Nat.le_refl _) _⟩

set_option maxHeartbeats 800000 in
theorem rc_leaf5 (b off len cap : Nat) (s0 s1 K M : ByteArray) (w : World) (hl : 2 ≤ len) (d0 : w.cell? ⟨b, off, none⟩ = some (.string s0)) (d1 : w.cell? ⟨b, off + 1, none⟩ = some (.string s1))
    (hne : s0.toList.isEmpty = false) (hsz : 1 ≤ s0.size) (hK : s0.extract 0 1 = K) (hM : s0.extract 1 s0.size = M) (k0 : (K.toList == [0]) = false) (k1 : (K.toList == [1]) = false)
    (bad : Bool) (hiv : ∀ u, Calls Tryz.prog 29 #[chgV M s1 false] u fun e w' => e = .returned (.bool bad) ∧ Below u.heap.size u w') :
    Calls Tryz.prog 122 #[.slice (some ⟨b, off, none⟩) len cap] w fun e w' => e = .returned (.tuple #[chgV ⟨#[]⟩ ⟨#[]⟩ false, .int .i64 50]) ∧ Below w.heap.size w w' := by
  have hrA := heap_alloc_new w (.cells #[.string ⟨#[]⟩, .string ⟨#[]⟩, .bool false] 58)
  have hkA : Below w.heap.size w (w.alloc (.cells #[.string ⟨#[]⟩, .string ⟨#[]⟩, .bool false] 58)) := (Below.refl _ w).alloc (Nat.le_refl _) _
  have hbl := cell_lt d0
  have x2 : ¬ (len : Int) < 2 := by omega
  have x0 : (0 : Int) < (len : Int) := by omega
  have x1 : (1 : Int) < (len : Int) := by omega
  have hsz2 : (1 : Int) ≤ (s0.size : Int) := by omega
  have D0 : (w.alloc (.cells #[.string ⟨#[]⟩, .string ⟨#[]⟩, .bool false] 58)).cell? ⟨b, off, none⟩ = some (.string s0) := by rw [World.cell?_of_block (hkA.block b hbl)]; exact d0
  have D1 : (w.alloc (.cells #[.string ⟨#[]⟩, .string ⟨#[]⟩, .bool false] 58)).cell? ⟨b, off + 1, none⟩ = some (.string s1) := by rw [World.cell?_of_block (hkA.block b hbl)]; exact d1
  have Hiv := Lib.hid hiv; clear hiv
  clear d0 d1
  go_enter Tryz.func122, Tryz.ntmps122
  go_wp2
  go_quiet (fail)
  obtain ⟨w1, hw1⟩ : ∃ w1, w1 = (w.alloc (.cells #[.string ⟨#[]⟩, .string ⟨#[]⟩, .bool false] 58)).drewN nq := ⟨_, rfl⟩
  have hr1 : w1.heap[w.heap.size]? = some (.cells #[.string ⟨#[]⟩, .string ⟨#[]⟩, .bool false] 58 (0, 0)) := by rw [hw1]; exact hrA
  have hk1 : Below w.heap.size w w1 := by rw [hw1]; exact drewN_below hkA _
  have dd1 : w1.cell? ⟨b, off + 1, none⟩ = some (.string s1) := by rw [hw1]; exact D1
  rw [← hw1]
  have hra := (Below.heap_alloc w1 (.cells #[.string M, .string s1, .bool false] 58) _ (row_lt hr1)).trans hr1
  have kA : Below w.heap.size w (w1.alloc (.cells #[.string M, .string s1, .bool false] 58)) := hk1.alloc (Nat.le_of_lt (row_lt hr1)) _
  have hss : (w1.alloc (.cells #[.string M, .string s1, .bool false] 58)).heap.size = w1.heap.size + 1 := by simp
  have hra2 : (w1.alloc (.cells #[.string M, .string s1, .bool false] 58)).heap[w1.heap.size]? = some (.cells #[.string M, .string s1, .bool false] 58 (0, 0)) := heap_alloc_new _ _
  have hsl := Lib.hid (row_lt hr1)
  clear hr1 hk1 hw1 D0 D1 hrA hkA hbl
  have KA := Lib.hid kA; clear kA
  have c0 : (w1.alloc (.cells #[.string M, .string s1, .bool false] 58)).cell? ⟨w.heap.size, 0, none⟩ = some (.string ⟨#[]⟩) := by rw [cell_of_row _ _ 0 _ _ _ hra]; rfl
  have c1 : (w1.alloc (.cells #[.string M, .string s1, .bool false] 58)).cell? ⟨w.heap.size, 1, none⟩ = some (.string ⟨#[]⟩) := by rw [cell_of_row _ _ 1 _ _ _ hra]; rfl
  have c2 : (w1.alloc (.cells #[.string M, .string s1, .bool false] 58)).cell? ⟨w.heap.size, 2, none⟩ = some (.bool false) := by rw [cell_of_row _ _ 2 _ _ _ hra]; rfl
  have f0 := row_free hra 0
  have f1 := row_free hra 1
  have f2 := row_free hra 2
  go_wp2_with fail
  (try simp only [Exit.inBlock, Exit.then])
  refine bodyPost_ret (v := .tuple #[chgV ⟨#[]⟩ ⟨#[]⟩ false, .int .i64 50]) (chg_results _ w.heap.size _ _ _ _ _ rfl rfl (three_set hra _ _ _)) rfl ?_
  exact ⟨rfl, ((KA.out.setCell (p := ⟨w.heap.size, 0, none⟩) (Nat.le_refl _) _).setCell (p := ⟨w.heap.size, 1, none⟩) (Nat.le_refl _) _).setCell (p := ⟨w.heap.size, 2, none⟩) (Nat.le_refl _) _⟩

set_option maxHeartbeats 600000 in
theorem readChange_any (a : Option Addr) (len cap : Nat) (l : List ByteArray) (w : World) (hs : Strs a len l w) :
    Calls Tryz.prog 122 #[.slice a len cap] w fun e w' => e = rchR (Fil.rchg l) ∧ Below w.heap.size w w' := by
  obtain ⟨hl, hc⟩ := hs
  unfold Fil.rchg
  rw [hl]
  have hrA := heap_alloc_new w (.cells #[.string ⟨#[]⟩, .string ⟨#[]⟩, .bool false] 58)
  have hkA : Below w.heap.size w (w.alloc (.cells #[.string ⟨#[]⟩, .string ⟨#[]⟩, .bool false] 58)) := (Below.refl _ w).alloc (Nat.le_refl _) _
  by_cases h2 : len < 2
  · rw [if_pos h2]
    have x2 : (len : Int) < 2 := by omega
    have HkA := Lib.hid hkA; clear hkA
    clear hc hl
    go_enter Tryz.func122, Tryz.ntmps122
    go_wp2
    (try simp only [Exit.inBlock, Exit.then])
    refine bodyPost_ret (v := .tuple #[chgV ⟨#[]⟩ ⟨#[]⟩ false, .int .i64 50]) (chg_results _ w.heap.size _ _ _ _ _ rfl rfl hrA) rfl ?_
    exact ⟨rfl, HkA.out⟩
  rw [if_neg h2]
  have x2 : ¬ (len : Int) < 2 := by omega
  have x0 : (0 : Int) < (len : Int) := by omega
  have x1 : (1 : Int) < (len : Int) := by omega
  obtain ⟨b, off, rfl, hc0⟩ := hc 0 (by omega)
  obtain ⟨b', off', he, hc1⟩ := hc 1 (by omega)
  cases he
  rw [Nat.add_zero] at hc0
  have hbl := cell_lt hc0
  clear hc hl h2
  generalize l.getD 0 .empty = s0 at *
  generalize l.getD 1 .empty = s1 at *
  have d0 : (w.alloc (.cells #[.string ⟨#[]⟩, .string ⟨#[]⟩, .bool false] 58)).cell? ⟨b, off, none⟩ = some (.string s0) := by rw [World.cell?_of_block (hkA.block b hbl)]; exact hc0
  have d1 : (w.alloc (.cells #[.string ⟨#[]⟩, .string ⟨#[]⟩, .bool false] 58)).cell? ⟨b, off + 1, none⟩ = some (.string s1) := by rw [World.cell?_of_block (hkA.block b hbl)]; exact hc1
  by_cases hz : s0.data.toList = []
  · rw [if_pos hz]
    have hs0 : s0 = ⟨#[]⟩ := by rw [← ba_of s0, hz]; rfl
    subst hs0
    have HkA := Lib.hid hkA; clear hkA
    clear hz hbl
    go_enter Tryz.func122, Tryz.ntmps122
    go_wp2
    (try simp only [Exit.inBlock, Exit.then])
    refine bodyPost_ret (v := .tuple #[chgV ⟨#[]⟩ ⟨#[]⟩ false, .int .i64 50]) (chg_results _ w.heap.size _ _ _ _ _ rfl rfl hrA) rfl ?_
    exact ⟨rfl, HkA.out⟩
  rw [if_neg hz]
  have hne := ba_empty s0 hz
  have hsz : 1 ≤ s0.size := by rw [← ba_len]; exact List.length_pos_iff.2 hz
  have hsz2 : (1 : Int) ≤ (s0.size : Int) := by omega
  have e1 : s0.extract 0 1 = ba (s0.data.toList.take 1) := by
    rw [← ba_of (s0.extract 0 1), ByteArray.data_extract, Array.toList_extract, List.extract_eq_take_drop]; simp
  have e2 : s0.extract 1 s0.size = ba (s0.data.toList.drop 1) := by
    rw [← ba_of (s0.extract 1 s0.size), ByteArray.data_extract, Array.toList_extract, List.extract_eq_take_drop, List.take_of_length_le (by rw [List.length_drop, ba_len]; exact Nat.le_refl _)]
  rw [← e1, ← e2]
  simp only []
  generalize hK : s0.extract 0 1 = K at *
  generalize hM : s0.extract 1 s0.size = M at *
  have hiv := fun u => invalid_any M s1 (decide (K = ⟨#[1]⟩)) u
  unfold Chb.bad
  simp only []
  generalize chgB M s1 (decide (K = ⟨#[1]⟩)) = bad at *
  have Hiv := Lib.hid hiv; clear hiv
  clear e1 e2 hz
  have k1 : (K.toList == [1]) = decide (K = ⟨#[1]⟩) := by
    by_cases h : K = ⟨#[1]⟩
    · rw [decide_eq_true h, h, Lib.toList_data]; rfl
    · rw [decide_eq_false h]; have := ba_ne h; rwa [show (⟨#[1]⟩ : ByteArray).toList = [1] from by rw [Lib.toList_data]] at this
  have k0 : (K.toList == [0]) = decide (K = ⟨#[0]⟩) := by
    by_cases h : K = ⟨#[0]⟩
    · rw [decide_eq_true h, h, Lib.toList_data]; rfl
    · rw [decide_eq_false h]; have := ba_ne h; rwa [show (⟨#[0]⟩ : ByteArray).toList = [0] from by rw [Lib.toList_data]] at this
  have hl2 : 2 ≤ len := by omega
  by_cases h0 : K = ⟨#[0]⟩
  · have h1 : decide (K = ⟨#[1]⟩) = false := decide_eq_false (by rw [h0]; decide)
    rw [decide_eq_true h0] at k0
    rw [h1] at k1 Hiv ⊢
    cases bad with
    | true => rw [if_neg (fun e => by cases e.2)]; exact rc_leaf1 b off len cap s0 s1 K M w hl2 hc0 hc1 hne hsz hK hM k0 k1 Hiv.out
    | false => rw [if_pos ⟨.inl h0, rfl⟩]; exact rc_leaf2 b off len cap s0 s1 K M w hl2 hc0 hc1 hne hsz hK hM k0 k1 Hiv.out
  by_cases h1 : K = ⟨#[1]⟩
  · rw [decide_eq_false h0] at k0
    rw [decide_eq_true h1] at k1 Hiv ⊢
    cases bad with
    | true => rw [if_neg (fun e => by cases e.2)]; exact rc_leaf3 b off len cap s0 s1 K M w hl2 hc0 hc1 hne hsz hK hM k0 k1 Hiv.out
    | false => rw [if_pos ⟨.inr h1, rfl⟩]; exact rc_leaf4 b off len cap s0 s1 K M w hl2 hc0 hc1 hne hsz hK hM k0 k1 Hiv.out
  rw [if_neg (fun e => e.1.elim h0 h1)]
  rw [decide_eq_false h0] at k0
  rw [decide_eq_false h1] at k1 Hiv
  exact rc_leaf5 b off len cap s0 s1 K M w hl2 hc0 hc1 hne hsz hK hM k0 k1 bad Hiv.out
end Go.Proofs.YtalklpnekbfehaaGreat
