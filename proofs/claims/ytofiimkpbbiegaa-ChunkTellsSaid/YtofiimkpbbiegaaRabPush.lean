/-
  What push and blank do.
-/
import Derived.Test.YtofiimkpbbiegaaRabMem
import Derived.Test.YtofiimkpbbiegaaGoPh2
import Derived.Lib.SliceRun
set_option linter.unusedVariables false
set_option maxRecDepth 100000
namespace Go.Proofs.Ytofiimkpbbiegaa
open Go.RowKit

set_option maxHeartbeats 1000000 in
theorem push_any {b : Nat} {r : Rol} {w : World} (h : RolAt b r w) (hf : r.Fit) (x : UInt8) :
    Calls Try.prog 47 #[.pointer (some ⟨b, 0, none⟩), .int .u8 (x.toNat : Int)] w fun e w' => e = .returned (.int .u8 ((r.bs.getD r.o 0).toNat : Int)) ∧ RolAt b (r.push x) w' ∧ Turns (fun j => j = b) w w' := by
  have ho := hf.o
  have hn1 := hf.n1
  have hn2 := hf.n2
  have HR := Lib.hid h; clear h
  have h2 : RolAt b { r with bs := r.bs.set r.o x } (w.setCell ⟨b, r.o, none⟩ (.int .u8 (x.toNat : Int))) := HR.out.set r.o _ (Rol.set_byte hf _ (by omega) x)
  have hf2 : ({ r with bs := r.bs.set r.o x } : Rol).Fit := ⟨by simp [hf.bs], hf.g, hn1, hn2, ho⟩
  have h3 := h2.set 65 (.int .i64 (((r.o + 1) % r.n : Nat) : Int)) (Rol.set_o hf2 _)
  have ht : Turns (fun j => j = b) w ((w.setCell ⟨b, r.o, none⟩ (.int .u8 (x.toNat : Int))).setCell ⟨b, 65, none⟩ (.int .i64 (((r.o + 1) % r.n : Nat) : Int))) := ((Turns.refl (fun j => j = b) w).set b _ _ (fun _ => rfl)).set b _ _ (fun _ => rfl)
  have w1 : IntKind.i64.wrap ((r.o : Int) + 1) = (r.o : Int) + 1 := IntWalk.i64_in _ (by omega)
  have t1 : ((r.o : Int) + 1).tmod (r.n : Int) = (((r.o + 1) % r.n : Nat) : Int) := by
    rw [Int.tmod_eq_emod_of_nonneg (by omega), Int.natCast_emod]; rfl
  obtain ⟨v, hv⟩ : ∃ v : Int, v = (((r.o + 1) % r.n : Nat) : Int) := ⟨_, rfl⟩
  rw [← hv] at t1 h3 ht
  clear hv
  have W1 := Lib.hid w1; clear w1
  have T1 := Lib.hid t1; clear t1
  have HR2 := Lib.hid h2; clear h2
  have HR3 := Lib.hid h3; clear h3
  have HT := Lib.hid ht; clear ht
  go_enter Try.func47, Try.ntmps47
  go_wp2_with fail
  refine wp_region_phases [([0, 1, 2, 3, 4, 5, 6, 7, 8], [9])] (by kernel_rfl) (by kernel_rfl) (fun u => RolAt b r u) HR.out ?_
  simp only [wpPhases, pick, List.filterMap_cons, List.filterMap_nil, List.getElem?_toArray, List.getElem?_cons_zero, List.getElem?_cons_succ]
  refine take_move (.tmp 0) (.pointer (some ⟨b, 0, none⟩)) rfl rfl rfl ?_
  simp only [Act.put, List.setIfInBounds_toArray, List.set_cons_zero, List.set_cons_succ]
  refine take_move (.tmp 0) (.pointer (some ⟨b, 0, none⟩)) rfl rfl rfl ?_
  simp only [Act.put, List.setIfInBounds_toArray, List.set_cons_zero, List.set_cons_succ]
  refine take_nil (.tmp 7) ⟨b, 0, none⟩ rfl rfl rfl ?_
  simp only [Act.put, List.setIfInBounds_toArray, List.set_cons_zero, List.set_cons_succ]
  refine take_one (.pointer (some ⟨b, 65, none⟩)) rfl (fun u _ => by go_simp) ?_
  simp only [Act.put, List.setIfInBounds_toArray, List.set_cons_zero, List.set_cons_succ]
  refine take_load 3 (.tmp 9) ⟨b, 65, none⟩ (.int .i64 (r.o : Int)) rfl rfl rfl (fun u hu => load_at Try.underlying3 Try.isAgg3 (hu.cell (Rol.c65 hf))) ?_
  simp only [Act.put, List.setIfInBounds_toArray, List.set_cons_zero, List.set_cons_succ]
  refine take_nil (.tmp 6) ⟨b, 0, none⟩ rfl rfl rfl ?_
  simp only [Act.put, List.setIfInBounds_toArray, List.set_cons_zero, List.set_cons_succ]
  refine take_one (.pointer (some ⟨b, 0, none⟩)) rfl (fun u _ => by go_simp) ?_
  simp only [Act.put, List.setIfInBounds_toArray, List.set_cons_zero, List.set_cons_succ]
  refine take_one (.pointer (some ⟨b, r.o, none⟩)) rfl (fun u hu => by go_simp; intro hq; omega) ?_
  simp only [Act.put, List.setIfInBounds_toArray, List.set_cons_zero, List.set_cons_succ]
  refine take_load 5 (.tmp 13) ⟨b, r.o, none⟩ (.int .u8 ((r.bs.getD r.o 0).toNat : Int)) rfl rfl rfl (fun u hu => load_at Try.underlying5 Try.isAgg5 (hu.cell (Rol.byte hf _ (by omega)))) ?_
  simp only [Act.put, List.setIfInBounds_toArray, List.set_cons_zero, List.set_cons_succ]
  refine take_done ?_
  refine midk_one (.int .u8 ((r.bs.getD r.o 0).toNat : Int)) rfl rfl HR.out ?_
  simp only [Act.put, List.setIfInBounds_toArray, List.set_cons_zero, List.set_cons_succ]
  refine midk_end ?_
  go_wp2_with fail
  refine wp_region_phases [([0, 1, 2, 3, 4, 5, 6, 7, 8], [9])] (by kernel_rfl) (by kernel_rfl) (fun u => ∃ r0, RolAt b r0 u ∧ r0.Fit ∧ r0.o = r.o) ⟨r, HR.out, hf, rfl⟩ ?_
  simp only [wpPhases, pick, List.filterMap_cons, List.filterMap_nil, List.getElem?_toArray, List.getElem?_cons_zero, List.getElem?_cons_succ]
  refine take_move (.tmp 0) (.pointer (some ⟨b, 0, none⟩)) rfl rfl rfl ?_
  simp only [Act.put, List.setIfInBounds_toArray, List.set_cons_zero, List.set_cons_succ]
  refine take_move (.tmp 0) (.pointer (some ⟨b, 0, none⟩)) rfl rfl rfl ?_
  simp only [Act.put, List.setIfInBounds_toArray, List.set_cons_zero, List.set_cons_succ]
  refine take_nil (.tmp 16) ⟨b, 0, none⟩ rfl rfl rfl ?_
  simp only [Act.put, List.setIfInBounds_toArray, List.set_cons_zero, List.set_cons_succ]
  refine take_one (.pointer (some ⟨b, 65, none⟩)) rfl (fun u _ => by go_simp) ?_
  simp only [Act.put, List.setIfInBounds_toArray, List.set_cons_zero, List.set_cons_succ]
  refine take_load 3 (.tmp 18) ⟨b, 65, none⟩ (.int .i64 (r.o : Int)) rfl rfl rfl (fun u hu => load_at Try.underlying3 Try.isAgg3 (by obtain ⟨r0, h0, h1, h2⟩ := hu; rw [← h2]; exact h0.cell (Rol.c65 h1))) ?_
  simp only [Act.put, List.setIfInBounds_toArray, List.set_cons_zero, List.set_cons_succ]
  refine take_move (.tmp 1) (.int .u8 (x.toNat : Int)) rfl rfl rfl ?_
  simp only [Act.put, List.setIfInBounds_toArray, List.set_cons_zero, List.set_cons_succ]
  refine take_nil (.tmp 15) ⟨b, 0, none⟩ rfl rfl rfl ?_
  simp only [Act.put, List.setIfInBounds_toArray, List.set_cons_zero, List.set_cons_succ]
  refine take_one (.pointer (some ⟨b, 0, none⟩)) rfl (fun u _ => by go_simp) ?_
  simp only [Act.put, List.setIfInBounds_toArray, List.set_cons_zero, List.set_cons_succ]
  refine take_one (.pointer (some ⟨b, r.o, none⟩)) rfl (fun u hu => by go_simp; intro hq; omega) ?_
  simp only [Act.put, List.setIfInBounds_toArray, List.set_cons_zero, List.set_cons_succ]
  refine take_done ?_
  refine midk_put 5 (.tmp 23) (.tmp 20) _ _ rfl rfl rfl rfl (store_num Try.sizeOf5 (HR.out.cell (Rol.byte hf _ (by omega))) (HR.out.free _)) ⟨_, HR2.out, hf2, rfl⟩ ?_
  simp only [Act.put]
  refine midk_end ?_
  go_wp2_with fail
  refine wp_region_text [0, 1, 2, 3, 4, 5, 6, 7, 8, 9, 10] [11, 12] [13] (by kernel_rfl) (by kernel_rfl) (fun u => RolAt b { r with bs := r.bs.set r.o x } u) HR2.out ?_
  simp only [pick, List.filterMap_cons, List.filterMap_nil, List.getElem?_toArray, List.getElem?_cons_zero, List.getElem?_cons_succ]
  refine take_move (.tmp 0) (.pointer (some ⟨b, 0, none⟩)) rfl rfl rfl ?_
  simp only [Act.put, List.setIfInBounds_toArray, List.set_cons_zero, List.set_cons_succ]
  refine take_move (.tmp 0) (.pointer (some ⟨b, 0, none⟩)) rfl rfl rfl ?_
  simp only [Act.put, List.setIfInBounds_toArray, List.set_cons_zero, List.set_cons_succ]
  refine take_nil (.tmp 25) ⟨b, 0, none⟩ rfl rfl rfl ?_
  simp only [Act.put, List.setIfInBounds_toArray, List.set_cons_zero, List.set_cons_succ]
  refine take_one (.pointer (some ⟨b, 65, none⟩)) rfl (fun u _ => by go_simp) ?_
  simp only [Act.put, List.setIfInBounds_toArray, List.set_cons_zero, List.set_cons_succ]
  refine take_load 3 (.tmp 27) ⟨b, 65, none⟩ (.int .i64 (r.o : Int)) rfl rfl rfl (fun u hu => load_at Try.underlying3 Try.isAgg3 (hu.cell (Rol.c65 hf2))) ?_
  simp only [Act.put, List.setIfInBounds_toArray, List.set_cons_zero, List.set_cons_succ]
  refine take_one (.int .i64 ((r.o : Int) + 1)) rfl (fun u hu => by go_simp; rw [W1.out]) ?_
  simp only [Act.put, List.setIfInBounds_toArray, List.set_cons_zero, List.set_cons_succ]
  refine take_move (.tmp 0) (.pointer (some ⟨b, 0, none⟩)) rfl rfl rfl ?_
  simp only [Act.put, List.setIfInBounds_toArray, List.set_cons_zero, List.set_cons_succ]
  refine take_nil (.tmp 30) ⟨b, 0, none⟩ rfl rfl rfl ?_
  simp only [Act.put, List.setIfInBounds_toArray, List.set_cons_zero, List.set_cons_succ]
  refine take_one (.pointer (some ⟨b, 64, none⟩)) rfl (fun u _ => by go_simp) ?_
  simp only [Act.put, List.setIfInBounds_toArray, List.set_cons_zero, List.set_cons_succ]
  refine take_load 3 (.tmp 32) ⟨b, 64, none⟩ (.int .i64 (r.n : Int)) rfl rfl rfl (fun u hu => load_at Try.underlying3 Try.isAgg3 (hu.cell (Rol.c64 hf2))) ?_
  simp only [Act.put, List.setIfInBounds_toArray, List.set_cons_zero, List.set_cons_succ]
  refine take_one (.int .i64 v) rfl (fun u hu => by go_simp; rw [T1.out, if_neg (by omega)]) ?_
  simp only [Act.put, List.setIfInBounds_toArray, List.set_cons_zero, List.set_cons_succ]
  refine take_done ?_
  refine mid_pure (.pointer (some ⟨b, 0, none⟩)) rfl (fun _ => rfl) HR2.out ?_
  simp only [Act.put, List.setIfInBounds_toArray, List.set_cons_zero, List.set_cons_succ]
  refine mid_pure (.pointer (some ⟨b, 65, none⟩)) rfl (fun _ => by go_simp) HR2.out ?_
  simp only [Act.put, List.setIfInBounds_toArray, List.set_cons_zero, List.set_cons_succ]
  refine mid_list ?_
  have f3 := HR2.out.free 65
  have c3 := HR2.out.cell (Rol.c65 hf2)
  go_wp2
  apply NoPanic.normal
  go_wp2_with fail
  go_ret
  exact ⟨rfl, HR3.out, HT.out.drewN 3⟩

/-- n bytes from k on are made 0 -/
def blanked (bs : List UInt8) (k : Nat) : Nat → List UInt8
  | 0 => bs
  | n + 1 => blanked (bs.set k 0) (k + 1) n
theorem blanked_get : ∀ (n k : Nat) (bs : List UInt8) (j : Nat), (blanked bs k n)[j]? = if k ≤ j ∧ j < k + n ∧ j < bs.length then some 0 else bs[j]?
  | 0, k, bs, j => by rw [if_neg (by omega)]; rfl
  | n + 1, k, bs, j => by
    rw [blanked, blanked_get n (k + 1) (bs.set k 0) j, List.length_set, List.getElem?_set]
    by_cases h : k = j
    · subst h
      rw [if_neg (by omega), if_pos rfl]
      by_cases hl : k < bs.length
      · rw [if_pos hl, if_pos (by omega)]
      · rw [if_neg hl, if_neg (by omega), List.getElem?_eq_none (by omega)]
    · rw [if_neg h]
      by_cases h2 : k + 1 ≤ j ∧ j < k + 1 + n ∧ j < bs.length
      · rw [if_pos h2, if_pos (by omega)]
      · rw [if_neg h2, if_neg (by omega)]
theorem blanked_all {bs : List UInt8} (h : bs.length = 64) : blanked bs 0 64 = List.replicate 64 0 := by
  apply List.ext_getElem?
  intro j
  rw [blanked_get, List.getElem?_replicate]
  by_cases hj : j < 64
  · rw [if_pos (by omega), if_pos hj]
  · rw [if_neg (by omega), if_neg hj, List.getElem?_eq_none (by omega)]
theorem RolAt.blanks {b : Nat} : ∀ (n k : Nat) {r : Rol} {w : World}, RolAt b r w → r.Fit → k + n ≤ 64 → RolAt b { r with bs := blanked r.bs k n } (w.setCells b k (List.replicate n (.int .u8 0))) ∧ Turns (fun j => j = b) w (w.setCells b k (List.replicate n (.int .u8 0)))
  | 0, k, r, w, h, hf, hk => ⟨h, Turns.refl _ _⟩
  | n + 1, k, r, w, h, hf, hk => by
    have h2 := h.set k (.int .u8 0) (Rol.set_byte hf k (by omega) 0)
    have hf2 : ({ r with bs := r.bs.set k 0 } : Rol).Fit := ⟨by simp [hf.bs], hf.g, hf.n1, hf.n2, hf.o⟩
    obtain ⟨h3, t3⟩ := RolAt.blanks n (k + 1) h2 hf2 (by omega)
    exact ⟨h3, ((Turns.refl (fun j => j = b) w).set b k _ (fun _ => rfl)).trans t3 (fun _ _ e => e)⟩
theorem zero_u8 (w : World) : (zeroValue 5).run Try.prog w = .ok (.int .u8 0) w := by kernel_rfl

theorem blank_any {b : Nat} {r : Rol} {w : World} (h : RolAt b r w) (hf : r.Fit) :
    Calls Try.prog 45 #[.pointer (some ⟨b, 0, none⟩)] w fun e w' => e = .returned (.tuple #[]) ∧ RolAt b { r with bs := List.replicate 64 0 } w' ∧ Turns (fun j => j = b) w w' := by
  obtain ⟨h2, t2⟩ := RolAt.blanks 64 0 h hf (by omega)
  rw [blanked_all hf.bs] at h2
  have hcl : ∀ ty, (Builtin.clear_ #[88] ty #[.slice (some ⟨b, 0, none⟩) 64 64]).run Try.prog w = .ok (.tuple #[]) (w.setCells b 0 (List.replicate 64 (.int .u8 0))) :=
    fun ty => Lib.run_clear_slice w 88 5 ty (.int .u8 0) Try.underlying88 zero_u8 rfl rfl b 0 64 64 (by decide) (fun j hj => by rw [Nat.zero_add, h.cell (Rol.byte hf j hj)]; rfl) (fun j _ => h.free _)
  clear h hf
  generalize w.setCells b 0 (List.replicate 64 (.int .u8 0)) = w2 at *
  go_enter Try.func45, Try.ntmps45
  go_wp2_with (simp only [hcl])
  go_end0
  exact ⟨rfl, h2, t2⟩
end Go.Proofs.Ytofiimkpbbiegaa
