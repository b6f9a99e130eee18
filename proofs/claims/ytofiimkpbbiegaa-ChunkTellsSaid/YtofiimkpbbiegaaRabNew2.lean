/-
  What New returns: a roller that was given nothing.
-/
import Derived.Test.YtofiimkpbbiegaaRabNew
set_option linter.unusedVariables false
set_option maxRecDepth 100000
namespace Go.Proofs.Ytofiimkpbbiegaa
open Go.RowKit

theorem Rol.fresh_fit (p N : Nat) (h1 : 1 ≤ N) (h2 : N ≤ 64) : (Rol.fresh p N (tabTo p N 256)).Fit :=
  ⟨by simp [Rol.fresh], tabTo_length p N 256 (by omega), h1, h2, h1⟩
theorem Rol.fresh_ok (p N : Nat) (hp : Pol.fine p) (h1 : 1 ≤ N) (h2 : N ≤ 64) : (Rol.fresh p N (tabTo p N 256)).Ok (Pol.last N []) :=
  ⟨Rol.fresh_fit p N h1 h2, hp, fun v hv => tabTo_get p N v hv, by rw [Pol.last_nil]; exact Pol.wind_blank N 0 h2 h1, by
    rw [Pol.last_nil]
    have := Pol.fp_noughts (Pol.fine_ne hp) N []
    rw [List.append_nil] at this
    exact this.symm⟩
theorem Rol.reset_ok {r : Rol} {W : List UInt8} (h : r.Ok W) : r.reset.Ok (Pol.last r.n []) :=
  ⟨⟨by simp [Rol.reset], h.fit.g, h.fit.n1, h.fit.n2, h.fit.o⟩, h.p, h.g, by rw [Pol.last_nil]; exact Pol.wind_blank r.n r.o h.fit.n2 h.fit.o, by
    rw [Pol.last_nil]
    have := Pol.fp_noughts (Pol.fine_ne h.p) r.n []
    rw [List.append_nil] at this
    exact this.symm⟩

set_option maxHeartbeats 1000000 in
theorem new_any (p : Nat) (n : Int) (hp : p < 18446744073709551616) (w : World) :
    (¬ rabMay p n → Calls Try.prog 32 #[.int .u64 p, .int .i64 n] w fun e w' => e = .returned (.tuple #[.pointer none, .int .i64 2]) ∧ Below w.heap.size w w') ∧
    (rabMay p n → Calls Try.prog 32 #[.int .u64 p, .int .i64 n] w fun e w' => ∃ b, w.heap.size ≤ b ∧ e = .returned (.tuple #[.pointer (some ⟨b, 0, none⟩), .int .i64 0]) ∧ RolAt b (Rol.fresh p n.toNat (tabTo p n.toNat 256)) w' ∧ Below w.heap.size w w') := by
  refine ⟨fun h => ?_, fun h => ?_⟩
  · have cc := fun u => (check_any p n hp u).1 h
    have Cc := Lib.hid cc; clear cc
    clear h hp
    go_enter Try.func32, Try.ntmps32
    go_wp2_with fail
    refine (Cc.out _).mono ?_; rintro e w1 ⟨rfl, rfl⟩
    go_wp2_with fail
    go_ret2
    exact ⟨rfl, (Below.refl _ _).alloc (Nat.le_refl _) _⟩
  · have cc := fun u => (check_any p n hp u).2 h
    obtain ⟨N, rfl⟩ : ∃ N : Nat, n = (N : Int) := ⟨n.toNat, by have := h.2; omega⟩
    rw [Int.toNat_natCast]
    have h1 : 1 ≤ N := by have := h.2.1; omega
    have h2 : N ≤ 64 := by have := h.2.2; omega
    have cu := fun u => (up_any (8 * (N : Int)) p hp (by omega) u).2 ⟨by omega, by have := h.1.1; omega, h.1.2⟩
    rw [show (8 * (N : Int)).toNat = 8 * N by omega] at cu
    obtain ⟨q, hq⟩ : ∃ q, q = Pol.rem (2 ^ (8 * N)) p := ⟨_, rfl⟩
    rw [← hq] at cu
    have HP := Lib.hid h.1
    have HQ := Lib.hid hq; clear hq
    have w1 : IntKind.i64.wrap (8 * (N : Int)) = 8 * (N : Int) := IntWalk.i64_in _ (by omega)
    have Cc := Lib.hid cc; clear cc
    have Cu := Lib.hid cu; clear cu
    clear h hp
    go_enter Try.func32, Try.ntmps32
    go_wp2_with fail
    refine (Cc.out _).mono ?_; rintro e w1 ⟨rfl, rfl⟩
    go_wp2_with fail
    refine (Cu.out _).mono ?_; rintro e w5 ⟨rfl, hb5⟩
    go_wp2_with fail
    have hs5 := hb5.size
    have hs6 : w.heap.size < w5.heap.size := by have e : (w.alloc (.cells #[.int .u64 (p : Int)] 22)).heap.size = w.heap.size + 1 := by simp
                                                rw [e] at hs5; omega
    have nq := Num.new w5 q 22
    have np : Num w.heap.size p (w5.alloc (.cells #[.int .u64 (q : Int)] 22)) := ((Num.new w p 22).below hb5 (by simp)).of_block (Below.heap_alloc w5 _ _ (by omega))
    have bz : Below w.heap.size w (w5.alloc (.cells #[.int .u64 (q : Int)] 22)) := (((Below.refl _ w).alloc (Nat.le_refl _) _).trans (hb5.mono (by simp))).alloc (by omega) _
    have hz1 : w5.heap.size < (w5.alloc (.cells #[.int .u64 (q : Int)] 22)).heap.size := by simp
    generalize w5.alloc (.cells #[.int .u64 (q : Int)] 22) = wz at *
    have k5 : Num w5.heap.size q wz.drew ∧ Num w.heap.size p wz.drew ∧ w5.heap.size < wz.drew.heap.size ∧ w.heap.size < wz.drew.heap.size ∧ Below w.heap.size w wz.drew := ⟨nq.of_block rfl, np.of_block rfl, hz1, by show _ < wz.heap.size; omega, bz.drew⟩
    have K5 := Lib.hid k5; clear k5
    clear nq np bz hz1 hs5 hb5
    refine wp_region_phases [([0, 1, 2, 3], [4, 5, 6, 7, 8])] (by kernel_rfl) (by kernel_rfl) (fun u => Num w.heap.size p u) K5.out.2.1 ?_
    simp only [wpPhases, pick, List.filterMap_cons, List.filterMap_nil, List.getElem?_toArray, List.getElem?_cons_zero, List.getElem?_cons_succ]
    refine take_move (.tmp 1) (.int .i64 (N : Int)) rfl rfl rfl ?_
    simp only [Act.put, List.setIfInBounds_toArray, List.set_cons_zero, List.set_cons_succ]
    refine take_one (.agg (ringV N)) rfl (fun u hu => run_build_at 83 [(1, .tmp 24)] rfl (build_ring N u)) ?_
    simp only [Act.put, List.setIfInBounds_toArray, List.set_cons_zero, List.set_cons_succ]
    refine take_load 22 (.tmp 2) ⟨w.heap.size, 0, none⟩ (.int .u64 (p : Int)) rfl rfl rfl (fun u hu => load_at Try.underlying22 Try.isAgg22 hu.cell) ?_
    simp only [Act.put, List.setIfInBounds_toArray, List.set_cons_zero, List.set_cons_succ]
    refine take_move (.tmp 9) (.func (.func 43) #[] #[.pointer (some ⟨w5.heap.size, 0, none⟩), .pointer (some ⟨w.heap.size, 0, none⟩)]) rfl rfl rfl ?_
    simp only [Act.put, List.setIfInBounds_toArray, List.set_cons_zero, List.set_cons_succ]
    refine take_done ?_
    refine midk_wp rfl (call_fn_wp 43 27 #[.pointer (some ⟨w5.heap.size, 0, none⟩), .pointer (some ⟨w.heap.size, 0, none⟩)] rfl rfl rfl ?_)
    refine (table_any q N p w5.heap.size w.heap.size HP.out HQ.out _ K5.out.1 K5.out.2.1 K5.out.2.2.1 K5.out.2.2.2.1).mono ?_
    rintro e w6 ⟨rfl, hb6⟩
    have n6 : Num w.heap.size p w6 := K5.out.2.1.below hb6 K5.out.2.2.2.1
    have b6 : Below w.heap.size w w6 := K5.out.2.2.2.2.trans (hb6.mono (Nat.le_of_lt K5.out.2.2.2.1))
    refine ⟨_, rfl, n6, ?_⟩
    simp only [Act.put, List.setIfInBounds_toArray, List.set_cons_zero, List.set_cons_succ]
    refine midk_pure (.agg (Rol.fresh p N (tabTo p N 256)).cells) rfl (fun u => run_build_at 85 [(0, .tmp 25), (1, .tmp 26), (2, .tmp 28)] rfl (build_rol N p _ (tabTo_length p N 256 (by omega)) u)) n6 ?_
    simp only [Act.put, List.setIfInBounds_toArray, List.set_cons_zero, List.set_cons_succ]
    refine midk_box 85 (.tmp 29) (Rol.fresh p N (tabTo p N 256)).cells rfl rfl rfl (n6.below ((Below.refl _ w6).alloc (Nat.le_refl _) _) (by have := b6.size; have := cell_lt n6.cell; omega)) ?_
    simp only [Act.put, List.setIfInBounds_toArray, List.set_cons_zero, List.set_cons_succ]
    refine midk_one (.pointer (some ⟨w6.heap.size, 0, none⟩)) rfl rfl (n6.below ((Below.refl _ w6).alloc (Nat.le_refl _) _) (by have := b6.size; have := cell_lt n6.cell; omega)) ?_
    simp only [Act.put, List.setIfInBounds_toArray, List.set_cons_zero, List.set_cons_succ]
    refine midk_one (.int .i64 0) rfl rfl (n6.below ((Below.refl _ w6).alloc (Nat.le_refl _) _) (by have := b6.size; have := cell_lt n6.cell; omega)) ?_
    simp only [Act.put, List.setIfInBounds_toArray, List.set_cons_zero, List.set_cons_succ]
    refine midk_end ?_
    have hr : RolAt w6.heap.size (Rol.fresh p N (tabTo p N 256)) (w6.alloc (.cells (Rol.fresh p N (tabTo p N 256)).cells 85)) := heap_alloc_new w6 _
    have hb : Below w.heap.size w (w6.alloc (.cells (Rol.fresh p N (tabTo p N 256)).cells 85)) := b6.alloc (by exact b6.size) _
    have hsz := b6.size
    generalize w6.alloc (.cells (Rol.fresh p N (tabTo p N 256)).cells 85) = wE at *
    generalize (Rol.fresh p N (tabTo p N 256)).cells = CC at *
    have Hr := Lib.hid hr; clear hr
    have Hb := Lib.hid hb; clear hb
    have Hsz := Lib.hid hsz; clear hsz
    clear n6 b6 hb6
    go_wp2_with fail
    go_ret2
    exact ⟨w6.heap.size, Hsz.out, rfl, Hr.out, Hb.out⟩
end Go.Proofs.Ytofiimkpbbiegaa
