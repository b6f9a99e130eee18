/- Put together of: RabPush RabMore GoStage RabRoll RabNew RabNew2 RabG -/
import Derived.Test.YtcmlcpejlmlcfaaRabA
import Derived.Lib.SliceRun
import Derived.Laws.IdiomCopy
import Derived.Deep.WholeRow
import Derived.Test.YtcmlcpejlmlcfaaPolAll
import Derived.Great.FillDense
set_option maxRecDepth 100000
/-
  What push and blank do.
-/
set_option linter.unusedVariables false
set_option maxRecDepth 100000
namespace Go.Proofs.Ytcmlcpejlmlcfaa
open Go.RowKit

set_option maxHeartbeats 1000000 in
theorem push_any {b : Nat} {r : Rol} {w : World} (h : RolAt b r w) (hf : r.Fit) (x : UInt8) :
    Calls Try.prog 76 #[.pointer (some ⟨b, 0, none⟩), .int .u8 (x.toNat : Int)] w fun e w' => e = .returned (.int .u8 ((r.bs.getD r.o 0).toNat : Int)) ∧ RolAt b (r.push x) w' ∧ Turns (fun j => j = b) w w' := by
  have ho := hf.o
  have hn1 := hf.n1
  have hn2 := hf.n2
  have HR := Lib.hid h; clear h
  have h2 : RolAt b { r with bs := r.bs.set r.o x } (w.setCell ⟨b, r.o, none⟩ (.int .u8 (x.toNat : Int))) := HR.out.set r.o _ (Rol.set_byte hf _ (by omega) x)
  have hf2 : ({ r with bs := r.bs.set r.o x } : Rol).Fit := ⟨by simp [hf.bs], hf.g, hn1, hn2, ho⟩
  have h3 := h2.set 65 (.int .i64 (((r.o + 1) % r.n : Nat) : Int)) (Rol.set_o hf2 _)
  have ht : Turns (fun j => j = b) w ((w.setCell ⟨b, r.o, none⟩ (.int .u8 (x.toNat : Int))).setCell ⟨b, 65, none⟩ (.int .i64 (((r.o + 1) % r.n : Nat) : Int))) := ((Turns.refl (fun j => j = b) w).set b _ _ (fun _ => rfl)).set b _ _ (fun _ => rfl)
  have w1 : IntKind.i64.wrap ((r.o : Int) + 1) = (r.o : Int) + 1 := IntWalk.i64_in _ (by omega)
  have t1 : ((r.o : Int) + 1).tmod (r.n : Int) = (((r.o + 1) % r.n : Nat) : Int) := by
    rw [Int.tmod_eq_emod_of_nonneg (by omega), Int.natCast_emod]; rfl
  obtain ⟨v, hv⟩ : ∃ v : Int, v = (((r.o + 1) % r.n : Nat) : Int) := ⟨_, rfl⟩
  rw [← hv] at t1 h3 ht
  clear hv
  have W1 := Lib.hid w1; clear w1
  have T1 := Lib.hid t1; clear t1
  have HR2 := Lib.hid h2; clear h2
  have HR3 := Lib.hid h3; clear h3
  have HT := Lib.hid ht; clear ht
  go_enter Try.func76, Try.ntmps76
  go_wp2_with fail
  refine wp_region_phases [([0, 1, 2, 3, 4, 5, 6, 7, 8], [9])] (by kernel_rfl) (by kernel_rfl) (fun u => RolAt b r u) HR.out ?_
  simp only [wpPhases, pick, List.filterMap_cons, List.filterMap_nil, List.getElem?_toArray, List.getElem?_cons_zero, List.getElem?_cons_succ]
  refine take_move (.tmp 0) (.pointer (some ⟨b, 0, none⟩)) rfl rfl rfl ?_
  simp only [Act.put, List.setIfInBounds_toArray, List.set_cons_zero, List.set_cons_succ]
  refine take_move (.tmp 0) (.pointer (some ⟨b, 0, none⟩)) rfl rfl rfl ?_
  simp only [Act.put, List.setIfInBounds_toArray, List.set_cons_zero, List.set_cons_succ]
  refine take_nil (.tmp 7) ⟨b, 0, none⟩ rfl rfl rfl ?_
  simp only [Act.put, List.setIfInBounds_toArray, List.set_cons_zero, List.set_cons_succ]
  refine take_one (.pointer (some ⟨b, 65, none⟩)) rfl (fun u _ => by go_simp) ?_
  simp only [Act.put, List.setIfInBounds_toArray, List.set_cons_zero, List.set_cons_succ]
  refine take_load 3 (.tmp 9) ⟨b, 65, none⟩ (.int .i64 (r.o : Int)) rfl rfl rfl (fun u hu => load_at Try.underlying3 Try.isAgg3 (hu.cell (Rol.c65 hf))) ?_
  simp only [Act.put, List.setIfInBounds_toArray, List.set_cons_zero, List.set_cons_succ]
  refine take_nil (.tmp 6) ⟨b, 0, none⟩ rfl rfl rfl ?_
  simp only [Act.put, List.setIfInBounds_toArray, List.set_cons_zero, List.set_cons_succ]
  refine take_one (.pointer (some ⟨b, 0, none⟩)) rfl (fun u _ => by go_simp) ?_
  simp only [Act.put, List.setIfInBounds_toArray, List.set_cons_zero, List.set_cons_succ]
  refine take_one (.pointer (some ⟨b, r.o, none⟩)) rfl (fun u hu => by go_simp; intro hq; omega) ?_
  simp only [Act.put, List.setIfInBounds_toArray, List.set_cons_zero, List.set_cons_succ]
  refine take_load 5 (.tmp 13) ⟨b, r.o, none⟩ (.int .u8 ((r.bs.getD r.o 0).toNat : Int)) rfl rfl rfl (fun u hu => load_at Try.underlying5 Try.isAgg5 (hu.cell (Rol.byte hf _ (by omega)))) ?_
  simp only [Act.put, List.setIfInBounds_toArray, List.set_cons_zero, List.set_cons_succ]
  refine take_done ?_
  refine midk_one (.int .u8 ((r.bs.getD r.o 0).toNat : Int)) rfl rfl HR.out ?_
  simp only [Act.put, List.setIfInBounds_toArray, List.set_cons_zero, List.set_cons_succ]
  refine midk_end ?_
  go_wp2_with fail
  refine wp_region_phases [([0, 1, 2, 3, 4, 5, 6, 7, 8], [9])] (by kernel_rfl) (by kernel_rfl) (fun u => ∃ r0, RolAt b r0 u ∧ r0.Fit ∧ r0.o = r.o) ⟨r, HR.out, hf, rfl⟩ ?_
  simp only [wpPhases, pick, List.filterMap_cons, List.filterMap_nil, List.getElem?_toArray, List.getElem?_cons_zero, List.getElem?_cons_succ]
  refine take_move (.tmp 0) (.pointer (some ⟨b, 0, none⟩)) rfl rfl rfl ?_
  simp only [Act.put, List.setIfInBounds_toArray, List.set_cons_zero, List.set_cons_succ]
  refine take_move (.tmp 0) (.pointer (some ⟨b, 0, none⟩)) rfl rfl rfl ?_
  simp only [Act.put, List.setIfInBounds_toArray, List.set_cons_zero, List.set_cons_succ]
  refine take_nil (.tmp 16) ⟨b, 0, none⟩ rfl rfl rfl ?_
  simp only [Act.put, List.setIfInBounds_toArray, List.set_cons_zero, List.set_cons_succ]
  refine take_one (.pointer (some ⟨b, 65, none⟩)) rfl (fun u _ => by go_simp) ?_
  simp only [Act.put, List.setIfInBounds_toArray, List.set_cons_zero, List.set_cons_succ]
  refine take_load 3 (.tmp 18) ⟨b, 65, none⟩ (.int .i64 (r.o : Int)) rfl rfl rfl (fun u hu => load_at Try.underlying3 Try.isAgg3 (by obtain ⟨r0, h0, h1, h2⟩ := hu; rw [← h2]; exact h0.cell (Rol.c65 h1))) ?_
  simp only [Act.put, List.setIfInBounds_toArray, List.set_cons_zero, List.set_cons_succ]
  refine take_move (.tmp 1) (.int .u8 (x.toNat : Int)) rfl rfl rfl ?_
  simp only [Act.put, List.setIfInBounds_toArray, List.set_cons_zero, List.set_cons_succ]
  refine take_nil (.tmp 15) ⟨b, 0, none⟩ rfl rfl rfl ?_
  simp only [Act.put, List.setIfInBounds_toArray, List.set_cons_zero, List.set_cons_succ]
  refine take_one (.pointer (some ⟨b, 0, none⟩)) rfl (fun u _ => by go_simp) ?_
  simp only [Act.put, List.setIfInBounds_toArray, List.set_cons_zero, List.set_cons_succ]
  refine take_one (.pointer (some ⟨b, r.o, none⟩)) rfl (fun u hu => by go_simp; intro hq; omega) ?_
  simp only [Act.put, List.setIfInBounds_toArray, List.set_cons_zero, List.set_cons_succ]
  refine take_done ?_
  refine midk_put 5 (.tmp 23) (.tmp 20) _ _ rfl rfl rfl rfl (store_num Try.sizeOf5 (HR.out.cell (Rol.byte hf _ (by omega))) (HR.out.free _)) ⟨_, HR2.out, hf2, rfl⟩ ?_
  simp only [Act.put]
  refine midk_end ?_
  go_wp2_with fail
  refine wp_region_text [0, 1, 2, 3, 4, 5, 6, 7, 8, 9, 10] [11, 12] [13] (by kernel_rfl) (by kernel_rfl) (fun u => RolAt b { r with bs := r.bs.set r.o x } u) HR2.out ?_
  simp only [pick, List.filterMap_cons, List.filterMap_nil, List.getElem?_toArray, List.getElem?_cons_zero, List.getElem?_cons_succ]
  refine take_move (.tmp 0) (.pointer (some ⟨b, 0, none⟩)) rfl rfl rfl ?_
  simp only [Act.put, List.setIfInBounds_toArray, List.set_cons_zero, List.set_cons_succ]
  refine take_move (.tmp 0) (.pointer (some ⟨b, 0, none⟩)) rfl rfl rfl ?_
  simp only [Act.put, List.setIfInBounds_toArray, List.set_cons_zero, List.set_cons_succ]
  refine take_nil (.tmp 25) ⟨b, 0, none⟩ rfl rfl rfl ?_
  simp only [Act.put, List.setIfInBounds_toArray, List.set_cons_zero, List.set_cons_succ]
  refine take_one (.pointer (some ⟨b, 65, none⟩)) rfl (fun u _ => by go_simp) ?_
  simp only [Act.put, List.setIfInBounds_toArray, List.set_cons_zero, List.set_cons_succ]
  refine take_load 3 (.tmp 27) ⟨b, 65, none⟩ (.int .i64 (r.o : Int)) rfl rfl rfl (fun u hu => load_at Try.underlying3 Try.isAgg3 (hu.cell (Rol.c65 hf2))) ?_
  simp only [Act.put, List.setIfInBounds_toArray, List.set_cons_zero, List.set_cons_succ]
  refine take_one (.int .i64 ((r.o : Int) + 1)) rfl (fun u hu => by go_simp; rw [W1.out]) ?_
  simp only [Act.put, List.setIfInBounds_toArray, List.set_cons_zero, List.set_cons_succ]
  refine take_move (.tmp 0) (.pointer (some ⟨b, 0, none⟩)) rfl rfl rfl ?_
  simp only [Act.put, List.setIfInBounds_toArray, List.set_cons_zero, List.set_cons_succ]
  refine take_nil (.tmp 30) ⟨b, 0, none⟩ rfl rfl rfl ?_
  simp only [Act.put, List.setIfInBounds_toArray, List.set_cons_zero, List.set_cons_succ]
  refine take_one (.pointer (some ⟨b, 64, none⟩)) rfl (fun u _ => by go_simp) ?_
  simp only [Act.put, List.setIfInBounds_toArray, List.set_cons_zero, List.set_cons_succ]
  refine take_load 3 (.tmp 32) ⟨b, 64, none⟩ (.int .i64 (r.n : Int)) rfl rfl rfl (fun u hu => load_at Try.underlying3 Try.isAgg3 (hu.cell (Rol.c64 hf2))) ?_
  simp only [Act.put, List.setIfInBounds_toArray, List.set_cons_zero, List.set_cons_succ]
  refine take_one (.int .i64 v) rfl (fun u hu => by go_simp; rw [T1.out, if_neg (by omega)]) ?_
  simp only [Act.put, List.setIfInBounds_toArray, List.set_cons_zero, List.set_cons_succ]
  refine take_done ?_
  refine mid_pure (.pointer (some ⟨b, 0, none⟩)) rfl (fun _ => rfl) HR2.out ?_
  simp only [Act.put, List.setIfInBounds_toArray, List.set_cons_zero, List.set_cons_succ]
  refine mid_pure (.pointer (some ⟨b, 65, none⟩)) rfl (fun _ => by go_simp) HR2.out ?_
  simp only [Act.put, List.setIfInBounds_toArray, List.set_cons_zero, List.set_cons_succ]
  refine mid_list ?_
  have f3 := HR2.out.free 65
  have c3 := HR2.out.cell (Rol.c65 hf2)
  go_wp2
  apply NoPanic.normal
  go_wp2_with fail
  go_ret
  exact ⟨rfl, HR3.out, HT.out.drewN 3⟩

/-- n bytes from k on are made 0 -/
def blanked (bs : List UInt8) (k : Nat) : Nat → List UInt8
  | 0 => bs
  | n + 1 => blanked (bs.set k 0) (k + 1) n
theorem blanked_get : ∀ (n k : Nat) (bs : List UInt8) (j : Nat), (blanked bs k n)[j]? = if k ≤ j ∧ j < k + n ∧ j < bs.length then some 0 else bs[j]?
  | 0, k, bs, j => by rw [if_neg (by omega)]; rfl
  | n + 1, k, bs, j => by
    rw [blanked, blanked_get n (k + 1) (bs.set k 0) j, List.length_set, List.getElem?_set]
    by_cases h : k = j
    · subst h
      rw [if_neg (by omega), if_pos rfl]
      by_cases hl : k < bs.length
      · rw [if_pos hl, if_pos (by omega)]
      · rw [if_neg hl, if_neg (by omega), List.getElem?_eq_none (by omega)]
    · rw [if_neg h]
      by_cases h2 : k + 1 ≤ j ∧ j < k + 1 + n ∧ j < bs.length
      · rw [if_pos h2, if_pos (by omega)]
      · rw [if_neg h2, if_neg (by omega)]
theorem blanked_all {bs : List UInt8} (h : bs.length = 64) : blanked bs 0 64 = List.replicate 64 0 := by
  apply List.ext_getElem?
  intro j
  rw [blanked_get, List.getElem?_replicate]
  by_cases hj : j < 64
  · rw [if_pos (by omega), if_pos hj]
  · rw [if_neg (by omega), if_neg hj, List.getElem?_eq_none (by omega)]
theorem RolAt.blanks {b : Nat} : ∀ (n k : Nat) {r : Rol} {w : World}, RolAt b r w → r.Fit → k + n ≤ 64 → RolAt b { r with bs := blanked r.bs k n } (w.setCells b k (List.replicate n (.int .u8 0))) ∧ Turns (fun j => j = b) w (w.setCells b k (List.replicate n (.int .u8 0)))
  | 0, k, r, w, h, hf, hk => ⟨h, Turns.refl _ _⟩
  | n + 1, k, r, w, h, hf, hk => by
    have h2 := h.set k (.int .u8 0) (Rol.set_byte hf k (by omega) 0)
    have hf2 : ({ r with bs := r.bs.set k 0 } : Rol).Fit := ⟨by simp [hf.bs], hf.g, hf.n1, hf.n2, hf.o⟩
    obtain ⟨h3, t3⟩ := RolAt.blanks n (k + 1) h2 hf2 (by omega)
    exact ⟨h3, ((Turns.refl (fun j => j = b) w).set b k _ (fun _ => rfl)).trans t3 (fun _ _ e => e)⟩
theorem zero_u8 (w : World) : (zeroValue 5).run Try.prog w = .ok (.int .u8 0) w := by kernel_rfl

theorem blank_any {b : Nat} {r : Rol} {w : World} (h : RolAt b r w) (hf : r.Fit) :
    Calls Try.prog 74 #[.pointer (some ⟨b, 0, none⟩)] w fun e w' => e = .returned (.tuple #[]) ∧ RolAt b { r with bs := List.replicate 64 0 } w' ∧ Turns (fun j => j = b) w w' := by
  obtain ⟨h2, t2⟩ := RolAt.blanks 64 0 h hf (by omega)
  rw [blanked_all hf.bs] at h2
  have hcl : ∀ ty, (Builtin.clear_ #[50] ty #[.slice (some ⟨b, 0, none⟩) 64 64]).run Try.prog w = .ok (.tuple #[]) (w.setCells b 0 (List.replicate 64 (.int .u8 0))) :=
    fun ty => Lib.run_clear_slice w 50 5 ty (.int .u8 0) Try.underlying50 zero_u8 rfl rfl b 0 64 64 (by decide) (fun j hj => by rw [Nat.zero_add, h.cell (Rol.byte hf j hj)]; rfl) (fun j _ => h.free _)
  clear h hf
  generalize w.setCells b 0 (List.replicate 64 (.int .u8 0)) = w2 at *
  go_enter Try.func74, Try.ntmps74
  go_wp2_with (simp only [hcl])
  go_end0
  exact ⟨rfl, h2, t2⟩
end Go.Proofs.Ytcmlcpejlmlcfaa

/-
  What Sum, Reset and Copy do.
-/
set_option linter.unusedVariables false
set_option maxRecDepth 100000
namespace Go.Proofs.Ytcmlcpejlmlcfaa
open Go.RowKit

theorem reset_nil (w : World) : Calls Try.prog 61 #[.pointer none] w fun e w' => e = .returned (.tuple #[]) ∧ w = w' := by
  go_enter Try.func61, Try.ntmps61
  go_wp2_with fail
  refine bodyPost_ret (v := .tuple #[]) (results_none rfl _ _ _) rfl ?_
  exact ⟨rfl, rfl⟩
def Rol.reset (r : Rol) : Rol := { r with bs := List.replicate 64 0, f := 0 }
theorem reset_any {b : Nat} {r : Rol} {w : World} (h : RolAt b r w) (hf : r.Fit) :
    Calls Try.prog 61 #[.pointer (some ⟨b, 0, none⟩)] w fun e w' => e = .returned (.tuple #[]) ∧ RolAt b r.reset w' ∧ Turns (fun j => j = b) w w' := by
  have cb := blank_any h hf
  have Cb := Lib.hid cb; clear cb
  have hf2 : ({ r with bs := List.replicate 64 0 } : Rol).Fit := ⟨by simp, hf.g, hf.n1, hf.n2, hf.o⟩
  clear h
  go_enter Try.func61, Try.ntmps61
  go_wp2_with fail
  refine Cb.out.mono ?_; rintro e w1 ⟨rfl, h1, t1⟩
  have c := h1.cell (Rol.c323 hf2)
  have f := h1.free 323
  have h2 := h1.set 323 (.int .u64 0) (Rol.set_f hf2 0)
  have t2 := t1.trans ((Turns.refl (fun j => j = b) w1).set b 323 (.int .u64 0) (fun _ => rfl)) (fun _ _ e => e)
  have H2 := Lib.hid h2; clear h2
  have T2 := Lib.hid t2; clear t2
  clear h1 t1
  go_wp2_with fail
  go_end0
  exact ⟨rfl, H2.out, T2.out⟩

def rolZero : Array Value := Rol.cells ⟨List.replicate 64 0, 0, 0, 0, List.replicate 256 0, 0⟩
theorem zero_rol (w : World) : (zeroValue 114).run Try.prog w = .ok (.agg rolZero) w := by kernel_rfl
theorem rolZero_size : rolZero.size = 324 := by decide +kernel
theorem size_rol : (Try.prog.info? 114).map (·.size) = some 324 := by kernel_rfl
end Go.Proofs.Ytcmlcpejlmlcfaa

/-
  A region that draws its order, walked in stages: what its operations yield in a later one may hang on what a call of an earlier one left. All operations of a later stage wait, one by way of the other, for those of an earlier one.
-/
set_option linter.unusedVariables false
namespace Go.Proofs.Ytcmlcpejlmlcfaa
open Go.RowKit

section
variable {P : Program} {ops : Array Oper} {Q : Exit → Act → World → Prop} {md : Region.Mode} {S : World → Prop}

/-- those that wait for i, one by way of the other -/
def depsOf (md : Region.Mode) (ops : Array Oper) (i : Nat) : List Nat :=
  (List.range ops.size).foldl (fun D t => if ((ops[t]?).map fun o => o.after.any fun e => Region.binds md e && (e.on == i || D.contains e.on)).getD false then t :: D else D) []
def depsOk (md : Region.Mode) (ops : Array Oper) (i : Nat) (D : List Nat) : Bool :=
  D.all fun t => ((ops[t]?).map fun o => o.after.any fun e => Region.binds md e && (e.on == i || D.contains e.on)).getD true
def waitB (md : Region.Mode) (ops : Array Oper) (Y : List Nat) (i : Nat) (listed : Array Bool) : Bool :=
  depsOk md ops i (depsOf md ops i) && ((Y.all fun t => (depsOf md ops i).contains t) && (depsOf md ops i).all fun t => !(listed.getD t true))
theorem depsOk_spec {i : Nat} {D : List Nat} (h : depsOk md ops i D = true) : ∀ t ∈ D, ∀ o, ops[t]? = some o → ∃ e ∈ o.after, Region.binds md e = true ∧ (e.on = i ∨ e.on ∈ D) := by
  intro t ht o ho
  have h1 := List.all_eq_true.1 h t ht
  simp only [ho, Option.map_some, Option.getD_some] at h1
  obtain ⟨e, he, h2⟩ := Array.any_eq_true'.1 h1
  simp only [Bool.and_eq_true, Bool.or_eq_true, beq_iff_eq, List.contains_iff_mem] at h2
  exact ⟨e, he, h2.1, h2.2⟩

theorem wpV_firstD {keep : Nat → Bool} {i : Nat} {oi : Oper} {v : Value} (D : List Nat) (hD : ∀ t ∈ D, ∀ o, ops[t]? = some o → ∃ e ∈ o.after, Region.binds md e = true ∧ (e.on = i ∨ e.on ∈ D)) (hk : ∀ t, keep t = false → t ∈ D) (hki : keep i = true)
    (hi : ops[i]? = some oi) (hsel : ∀ (j : Nat) (o : Oper) cs b, ops[j]? = some o → o.op ≠ .select cs b) (hQ : ∀ c a w, Q (.panic c) (a.put oi.dst v) w → Q (.panic c) a w) (f : Nat) :
    ∀ (listed : Array Bool) (a : Act) (w : World), (∀ j oj, ops[j]? = some oj → j ≠ i → listed.getD j true = false → (∀ e ∈ oj.after, Region.binds md e = true → e.on ≠ i) → oi.apart ops oj = true) → (∀ t ∈ D, listed.getD t true = false) →
      i ∈ Region.ready md ops listed → YieldsIf P ops S oi v a → S w → wpV P md ops Q S keep f (listed.setIfInBounds i true) (a.put oi.dst v) w → wpV P md ops Q S keep (f + 1) listed a w := by
  induction f with
  | zero =>
    intro listed a w hfree hun hr hy hS H
    refine ⟨fun e => by rw [e] at hr; exact absurd hr List.not_mem_nil, fun j hj => ?_⟩
    by_cases e : j = i
    · rw [e]; exact hy.wpOp hi hS ⟨fun _ => hS, H⟩
    · have hx := ready_mono hj e
      rw [H.1] at hx
      exact absurd hx List.not_mem_nil
  | succ f ih =>
    intro listed a w hfree hun hr hy hS H
    refine ⟨fun e => by rw [e] at hr; exact absurd hr List.not_mem_nil, fun j hj => ?_⟩
    by_cases e : j = i
    · rw [e]; exact hy.wpOp hi hS ⟨fun _ => hS, H⟩
    obtain ⟨hjl, oj, hoj, hja⟩ := mem_ready.1 hj
    have hil := (mem_ready.1 hr).1
    have hno : ∀ x ∈ oj.after, Region.binds md x = true → x.on ≠ i := fun x hx hb hxi => by
      have h1 := hja x hx hb
      rw [hxi, getD_both hil] at h1
      exact Bool.noConfusion h1
    have hjD : j ∉ D := fun hjD => by
      obtain ⟨x, hx, hb, hxi | hxD⟩ := hD j hjD oj hoj
      · exact hno x hx hb hxi
      · have h1 := hja x hx hb
        rw [getD_both (hun _ hxD)] at h1
        exact Bool.noConfusion h1
    have hjm : keep j = true := by
      cases h : keep j with
      | true => rfl
      | false => exact absurd (hk j h) hjD
    have hap := hfree j oj hoj e hjl hno
    have key := wpOp_putIf hoj hap (fun cs b => hsel i oi cs b hi) (fun cs b => hsel j oj cs b hoj) hQ hy (H.2 j (ready_mono hj e))
    refine wpOp_mono (fun a' w' ⟨y', s', u'⟩ => ⟨s', ?_⟩) key
    refine ih (listed.setIfInBounds j true) a' w' (fun k ok hk hki hkl hkn => ?_) (fun t ht => ?_) (ready_mono hr (Ne.symm e)) y' (s' hjm) ?_
    · refine hfree k ok hk hki ?_ hkn
      by_cases ejk : j = k
      · rw [← ejk]; exact hjl
      · rw [getD_set_ne true ejk] at hkl; exact hkl
    · have ejt : j ≠ t := fun e2 => hjD (by rw [e2]; exact ht)
      rw [getD_set_ne true ejt]; exact hun t ht
    · rw [Array.setIfInBounds_comm _ _ e]
      exact u'

def takeY (md : Region.Mode) (ops : Array Oper) (Y : List Nat) (C : Array Bool → Bool) : List Nat → Array Bool → Bool
  | [], listed => C listed
  | i :: l, listed => !Y.contains i && (waitB md ops Y i listed && ((Region.ready md ops listed).contains i && (Region.free md ops listed i && takeY md ops Y C l (listed.setIfInBounds i true))))
def phasesY (md : Region.Mode) (ops : Array Oper) (Y : List Nat) (C : Array Bool → Bool) : List (List Nat × List Nat) → Array Bool → Bool
  | [], listed => C listed
  | x :: l, listed => takeY md ops Y (chainC md ops (phasesY md ops Y C l) x.2) x.1 listed
def wpPhasesK (P : Program) (ops : Array Oper) (Q : Exit → Act → World → Prop) (S : World → Prop) (K : Act → World → Prop) : List (List Nat × List Nat) → Act → World → Prop
  | [], a, w => K a w
  | x :: l, a, w => wpTake P ops S (fun a' => wpMidK P ops Q S (wpPhasesK P ops Q S K l) (pick ops x.2) a' w) (pick ops x.1) a

theorem wpV_takeY {Y : List Nat} {w : World} {L : Act → Prop} {C : Array Bool → Bool} {n : Nat} (hs : Region.noSelect ops = true) (hS : S w) (hQ : ∀ o v c a w, Q (.panic c) (a.put o v) w → Q (.panic c) a w)
    (hL : ∀ listed a, C listed = true → L a → wpV P md ops Q S (fun t => !Y.contains t) n listed a w) :
    ∀ (l : List Nat) (listed : Array Bool) (a : Act), takeY md ops Y C l listed = true → wpTake P ops S L (pick ops l) a → wpV P md ops Q S (fun t => !Y.contains t) (l.length + n) listed a w
  | [], listed, a, hB, h => by
    simp only [List.length_nil, Nat.zero_add]
    exact hL listed a hB h
  | k :: l, listed, a, hB, h => by
    simp only [takeY, waitB, Bool.and_eq_true] at hB
    obtain ⟨hkY, ⟨hd1, hd2, hd3⟩, hr, hf, hB'⟩ := hB
    have hr' : k ∈ Region.ready md ops listed := by simpa using hr
    obtain ⟨_, o, h0, _⟩ := mem_ready.1 hr'
    have hp : pick ops (k :: l) = o :: pick ops l := by unfold pick; rw [List.filterMap_cons, h0]
    rw [hp] at h
    obtain ⟨v, hy, h'⟩ := h
    have hn : (k :: l).length + n = (l.length + n) + 1 := by simp; omega
    rw [hn]
    refine wpV_firstD (depsOf md ops k) (depsOk_spec hd1) (fun t ht => ?_) hkY h0 (Region.noSelect_spec hs) (fun c a w => hQ _ _ c a w) _ listed a w (Region.free_spec h0 hf) (fun t ht => ?_) hr' hy hS
      (wpV_takeY hs hS hQ hL l _ _ hB' h')
    · have ht2 : t ∈ Y := by simpa using ht
      simpa using List.all_eq_true.1 hd2 t ht2
    · have := List.all_eq_true.1 hd3 t ht
      revert this
      cases listed.getD t true <;> simp

theorem wpV_chainY {keep : Nat → Bool} {K : Act → World → Prop} {C : Array Bool → Bool} {n : Nat} (hL : ∀ listed a w, C listed = true → S w → K a w → wpV P md ops Q S keep n listed a w) :
    ∀ (l : List Nat) (listed : Array Bool) (a : Act) (w : World), chainC md ops C l listed = true → S w → wpMidK P ops Q S K (pick ops l) a w → wpV P md ops Q S keep (l.length + n) listed a w
  | [], listed, a, w, hB, hS, h => by
    simp only [List.length_nil, Nat.zero_add]
    exact hL listed a w hB hS h
  | k :: l, listed, a, w, hB, hS, h => by
    simp only [chainC, Bool.and_eq_true, decide_eq_true_eq] at hB
    obtain ⟨hB1, hlt, hB2⟩ := hB
    have h0 : ops[k]? = some ops[k] := Array.getElem?_eq_getElem hlt
    have hp : pick ops (k :: l) = ops[k] :: pick ops l := by unfold pick; rw [List.filterMap_cons, h0]
    rw [hp] at h
    have hn : (k :: l).length + n = (l.length + n) + 1 := by simp; omega
    rw [hn]
    refine ⟨fun e => by rw [hB1] at e; exact absurd e (List.cons_ne_nil _ _), fun i hi => ?_⟩
    rw [hB1] at hi
    obtain rfl : i = k := by simpa using hi
    have hw : wpOp P ops Q i (fun a' w' => S w' ∧ wpMidK P ops Q S K (pick ops l) a' w') a w := by
      unfold wpOp
      simp only [h0]
      unfold wpMidK at h
      split
      · rename_i hwd; rw [if_pos hwd] at h; exact .inl h
      · rename_i hwd; rw [if_neg hwd] at h; exact h
    exact wpOp_mono (fun a' w' x => ⟨fun _ => x.1, wpV_chainY hL l _ a' w' hB2 x.1 x.2⟩) hw

theorem wpV_phasesY {Y : List Nat} {K : Act → World → Prop} {C : Array Bool → Bool} {n : Nat} (hs : Region.noSelect ops = true) (hQ : ∀ o v c a w, Q (.panic c) (a.put o v) w → Q (.panic c) a w)
    (hL : ∀ listed a w, C listed = true → S w → K a w → wpV P md ops Q S (fun t => !Y.contains t) n listed a w) :
    ∀ (l : List (List Nat × List Nat)) (listed : Array Bool) (a : Act) (w : World), phasesY md ops Y C l listed = true → S w → wpPhasesK P ops Q S K l a w → wpV P md ops Q S (fun t => !Y.contains t) (phasesN l + n) listed a w
  | [], listed, a, w, hB, hS, h => by
    simp only [phasesN, Nat.zero_add]
    exact hL listed a w hB hS h
  | x :: l, listed, a, w, hB, hS, h => by
    have hn : phasesN (x :: l) + n = x.1.length + (x.2.length + (phasesN l + n)) := by simp only [phasesN]; omega
    rw [hn]
    exact wpV_takeY hs hS hQ (fun listed a hC hK => wpV_chainY (C := phasesY md ops Y C l) (n := phasesN l + n) (fun listed a w hC hS hK => wpV_phasesY hs hQ hL l listed a w hC hS hK) x.2 listed a w hC hS hK) x.1 listed a hB h

theorem wpV_of_any {keep : Nat → Bool} : ∀ {f : Nat} {listed : Array Bool} {a : Act} {w : World}, (∀ t, keep t = true → listed.getD t true = true) → wpAny P md ops Q f listed a w → wpV P md ops Q S keep f listed a w
  | 0, _, _, _, _, h => h
  | f + 1, listed, a, w, hk, h => ⟨h.1, fun i hi => wpOp_mono (fun a' w' x => ⟨fun hki => by
      have h1 := (mem_ready.1 hi).1
      rw [hk i hki] at h1
      exact Bool.noConfusion h1, wpV_of_any (fun t ht => by
      by_cases e : i = t
      · subst e
        have h1 := (mem_ready.1 hi).1
        rw [hk i ht] at h1
        exact Bool.noConfusion h1
      · rw [getD_set_ne true e]; exact hk t ht) x⟩) (h.2 i hi)⟩

/-- the stages: of each its phases; all operations of those behind it -/
def stagesN : List (List (List Nat × List Nat)) → Nat
  | [] => 0
  | x :: l => phasesN x + stagesN l
def stagesI (l : List (List (List Nat × List Nat))) : List Nat := l.flatMap fun x => x.flatMap fun p => p.1 ++ p.2
def stagesC (md : Region.Mode) (ops : Array Oper) : List (List (List Nat × List Nat)) → Array Bool → Bool
  | [], listed => (Region.ready md ops listed).isEmpty
  | x :: l, listed => phasesY md ops (stagesI l) (fun li => (List.range li.size).all (fun t => (stagesI l).contains t || li.getD t true) && stagesC md ops l li) x listed
def wpStages (P : Program) (ops : Array Oper) (Q : Exit → Act → World → Prop) : List (List (List Nat × List Nat)) → Act → World → Prop
  | [], a, w => Q .normal a w
  | x :: l, a, w => ∃ S : World → Prop, S w ∧ wpPhasesK P ops Q S (wpStages P ops Q l) x a w

theorem wpAny_stages (hs : Region.noSelect ops = true) (hQ : ∀ o v c a w, Q (.panic c) (a.put o v) w → Q (.panic c) a w) :
    ∀ (l : List (List (List Nat × List Nat))) (listed : Array Bool) (a : Act) (w : World), stagesC md ops l listed = true → wpStages P ops Q l a w → wpAny P md ops Q (stagesN l) listed a w
  | [], listed, a, w, hB, h => ⟨by simpa [stagesC] using hB, h⟩
  | x :: l, listed, a, w, hB, ⟨S, hS, h⟩ => by
    refine wpV.any (S := S) (keep := fun t => !(stagesI l).contains t) ?_
    refine wpV_phasesY hs hQ (fun li a w hC hS hK => ?_) x listed a w hB hS h
    simp only [Bool.and_eq_true] at hC
    refine wpV_of_any (fun t ht => ?_) (wpAny_stages hs hQ l li a w hC.2 hK)
    by_cases hlt : t < li.size
    · have := List.all_eq_true.1 hC.1 t (List.mem_range.2 hlt)
      simp only [Bool.or_eq_true] at this
      rcases this with h1 | h1
      · rw [h1] at ht; exact Bool.noConfusion ht
      · exact h1
    · simp [Array.getD, hlt]

def stagesB (ops : Array Oper) (l : List (List (List Nat × List Nat))) : Bool :=
  Region.noSelect ops && (decide (stagesN l = ops.size) && stagesC .any ops l (Array.replicate ops.size false))

theorem wp_region_stages {id : Nat} {a : Act} {w : World} (l : List (List (List Nat × List Nat))) (hm : P.follows .mixedOrders = true) (hB : stagesB ops l = true) (h : wpStages P ops (NoPanic Q) l a w.drew) : (Code.region id ops true).wp P Q a w := by
  simp only [stagesB, Bool.and_eq_true, decide_eq_true_eq] at hB
  refine wp_region_noPanic (wp_region_any hm ?_)
  have key := wpAny_stages (md := .any) (Q := NoPanic Q) hB.1 frameless_np l (Array.replicate ops.size false) a w.drew hB.2.2 h
  rw [hB.2.1] at key
  exact key
theorem stage_end {a : Act} {w : World} (h : Q .normal a w) : wpMidK P ops (NoPanic Q) S (wpPhasesK P ops (NoPanic Q) S (wpStages P ops (NoPanic Q) []) []) [] a w := NoPanic.normal h
theorem stage_first {a : Act} {w : World} {x : List (List Nat × List Nat)} {l : List (List (List Nat × List Nat))} (S2 : World → Prop) (hS : S2 w) (h : wpPhasesK P ops Q S2 (wpStages P ops Q l) x a w) : wpStages P ops Q (x :: l) a w := ⟨S2, hS, h⟩
theorem stage_next {a : Act} {w : World} {x : List (List Nat × List Nat)} {l : List (List (List Nat × List Nat))} (S2 : World → Prop) (hS : S2 w) (h : wpPhasesK P ops Q S2 (wpStages P ops Q l) x a w) : wpMidK P ops Q S (wpPhasesK P ops Q S (wpStages P ops Q (x :: l)) []) [] a w := ⟨S2, hS, h⟩
end
end Go.Proofs.Ytcmlcpejlmlcfaa

/-
  What Roll does.
-/
set_option linter.unusedVariables false
set_option maxRecDepth 100000
namespace Go.Proofs.Ytcmlcpejlmlcfaa
open Go.RowKit

theorem roll_nil (s : ByteArray) (w : World) : Calls Try.prog 62 #[.pointer none, .string s] w fun e w' => e = .returned (.tuple #[.int .u64 0, .int .i64 1]) ∧ w = w' := by
  go_enter Try.func62, Try.ntmps62
  go_wp2_with fail
  go_ret2
  exact ⟨rfl, rfl⟩
/-- what lies below, where remainders do -/
theorem rem_u64 {p : Nat} (h : Pol.fine p) (a : Nat) : Pol.rem a p < 18446744073709551616 := by
  have := Pol.rem_len a (Pol.fine_ne h)
  exact lt64 (by have := h.2; omega)
set_option maxHeartbeats 1000000 in
theorem roll_any {b : Nat} {r : Rol} {W : List UInt8} {w : World} (h : RolAt b r w) (hk : r.Ok W) (hW : W.length = r.n) (s : ByteArray) (hs : s.size ≤ 140737488351232) :
    Calls Try.prog 62 #[.pointer (some ⟨b, 0, none⟩), .string s] w fun e w' => e = .returned (.tuple #[.int .u64 ((r.steps (s.data.toList.drop (s.data.toList.length - r.n))).f : Nat), .int .i64 0]) ∧ RolAt b (r.steps (s.data.toList.drop (s.data.toList.length - r.n))) w' ∧ Turns (fun j => j = b) w w' := by
  have cn := h.cell (Rol.c64 hk.fit)
  obtain ⟨l, hl⟩ : ∃ l, l = s.data.toList.drop (s.data.toList.length - r.n) := ⟨_, rfl⟩
  rw [← hl]
  have hn2 := hk.fit.n2
  have hmx : max (0 : Int) ((s.size : Int) - (r.n : Int)) = ((s.size - r.n : Nat) : Int) := by omega
  have HR := Lib.hid h; clear h
  obtain ⟨s2, hs2⟩ : ∃ s2, s2 = s.extract (s.size - r.n) s.size := ⟨_, rfl⟩
  have hz2 : s.size - (s.size - r.n) = s2.size := by rw [hs2, ByteArray.size_extract]; omega
  have hl2 : s2.data.toList = l := by
    rw [hs2, hl, Lib.extract_eq, ba_len]
    simp only []
    exact List.take_of_length_le (by rw [List.length_drop, ba_len]; omega)
  have hll : l.length = s2.size := by rw [← hl2, ba_len]
  have hle : s2.size ≤ r.n := by omega
  have Hs2 := Lib.hid hs2; clear hs2
  have Hz2 := Lib.hid hz2; clear hz2
  clear hl
  obtain ⟨rE, hrE⟩ : ∃ rE, rE = r.steps l := ⟨_, rfl⟩
  rw [← hrE]
  have HrE := Lib.hid hrE; clear hrE
  go_enter Try.func62, Try.ntmps62
  go_wp2_with fail
  rw [Hz2.out, ← Hs2.out]
  clear cn hmx Hs2 Hz2
  have Hll := Lib.hid hll; clear hll
  have Hl2 := Lib.hid hl2; clear hl2
  have HK := Lib.hid hk; clear hk
  have HW := Lib.hid hW; clear hW
  go_loopw [22] (fun i wr => ∃ k : Nat, k ≤ s2.size ∧ i = .int .i64 (k : Int) ∧ RolAt b (r.steps (l.take k)) wr ∧ Turns (fun j => j = b) w wr) (fun i _ => s2.size - (intOf i).toNat)
  case atStart => exact ⟨0, by omega, rfl, HR.out, Turns.refl _ _⟩
  case round =>
    obtain ⟨k, hk, rfl, h, ht⟩ := hrel
    by_cases hlt : k < s2.size
    · have hko := Rol.steps_ok (l.take k) W HK.out (by rw [List.length_take, HW.out]; omega)
      obtain ⟨x, hx⟩ : ∃ x, x = s2[k] := ⟨_, rfl⟩
      have hst : r.steps (l.take (k + 1)) = (r.steps (l.take k)).step x := by
        rw [List.take_succ_eq_append_getElem (by rw [Hll.out]; exact hlt)]
        have e : l[k]'(by rw [Hll.out]; exact hlt) = x := by
          rw [hx, ← ba_get s2 k hlt (by rw [ba_len]; exact hlt)]
          congr 1
          exact Hl2.out.symm
        rw [e]
        simp [Rol.steps]
      generalize (List.drop (l.take k).length (W ++ l.take k)) = W2 at *
      generalize r.steps (l.take k) = r at *
      have hf := hko.fit
      have hpf := hko.p
      have hfl : Pol.len r.f < Pol.len r.p := by rw [hko.f]; exact Pol.fp_len (Pol.fine_ne hpf) _
      have cf := fun u => followed_any r.f x.toNat r.p hpf hfl x.toNat_lt u
      obtain ⟨y, hy0⟩ : ∃ y : Nat, y = (r.bs.getD r.o 0).toNat := ⟨_, rfl⟩
      have hy : y < 256 := by rw [hy0]; exact (r.bs.getD r.o 0).toNat_lt
      obtain ⟨g1, hg⟩ : ∃ g1 : Nat, g1 = r.g.getD y 0 := ⟨_, rfl⟩
      obtain ⟨f1, hf1⟩ : ∃ f1 : Nat, f1 = Pol.foll r.p r.f x.toNat := ⟨_, rfl⟩
      obtain ⟨f2, hf2e⟩ : ∃ f2 : Nat, f2 = f1 ^^^ g1 := ⟨_, rfl⟩
      have hxx : bits .xor .u64 (f1 : Int) (g1 : Int) = (f2 : Int) := by
        rw [hf2e]
        refine u64_xor_nat f1 g1 ?_ ?_
        · rw [hf1]; exact rem_u64 hpf _
        · rw [hg, hko.g y hy]; exact rem_u64 hpf _
      have hstep : r.step x = { r.push x with f := f2 } := by rw [hf2e, hf1, hg, hy0]; rfl
      have hyi : ((r.bs.getD r.o 0).toNat : Int) = (y : Int) := by rw [hy0]
      rw [← hf1] at cf
      have Cf := Lib.hid cf; clear cf
      have HX := Lib.hid hxx; clear hxx
      have HG := Lib.hid hg; clear hg
      have HY := Lib.hid hyi; clear hyi
      have HR := Lib.hid h; clear h
      have Hstep := Lib.hid hstep; clear hstep
      have Hst := Lib.hid hst; clear hst
      have Hxe := Lib.hid hx; clear hx
      have HT := Lib.hid ht; clear ht
      clear hy0 hf1 hf2e hko hpf hfl HK HW Hll Hl2 HrE
      have hge : decide ((k : Int) < (s2.size : Int)) = true := decide_eq_true (by omega)
      have hge' : decide (k < s2.size) = true := decide_eq_true hlt
      go_wp2_with fail
      refine wp_region_stages [[([0, 1, 2, 3, 4, 5, 6, 7, 8, 9, 10, 11, 13, 14, 15, 16, 17, 18, 19, 21, 22], [12, 20, 23, 24, 25, 26, 27])], [([], [28])]] (by kernel_rfl) (by kernel_rfl) ?_
      refine stage_first (fun u => ∃ r0, RolAt b r0 u ∧ r0.Fit ∧ r0.f = r.f ∧ r0.p = r.p) ⟨r, HR.out, hf, rfl, rfl⟩ ?_
      simp only [wpPhasesK, pick, List.filterMap_cons, List.filterMap_nil, List.getElem?_toArray, List.getElem?_cons_zero, List.getElem?_cons_succ]
      refine take_move (.tmp 0) (.pointer (some ⟨b, 0, none⟩)) rfl rfl rfl ?_
      simp only [Act.put, List.setIfInBounds_toArray, List.set_cons_zero, List.set_cons_succ]
      refine take_move (.tmp 0) (.pointer (some ⟨b, 0, none⟩)) rfl rfl rfl ?_
      simp only [Act.put, List.setIfInBounds_toArray, List.set_cons_zero, List.set_cons_succ]
      refine take_nil (.tmp 26) ⟨b, 0, none⟩ rfl rfl rfl ?_
      simp only [Act.put, List.setIfInBounds_toArray, List.set_cons_zero, List.set_cons_succ]
      refine take_one (.pointer (some ⟨b, 323, none⟩)) rfl (fun u _ => by go_simp) ?_
      simp only [Act.put, List.setIfInBounds_toArray, List.set_cons_zero, List.set_cons_succ]
      refine take_load 36 (.tmp 28) ⟨b, 323, none⟩ (.int .u64 (r.f : Int)) rfl rfl rfl (fun u hu => load_at Try.underlying36 Try.isAgg36 (by obtain ⟨r0, h0, h1, h2, h3⟩ := hu; rw [← h2]; exact h0.cell (Rol.c323 h1))) ?_
      simp only [Act.put, List.setIfInBounds_toArray, List.set_cons_zero, List.set_cons_succ]
      refine take_move (.tmp 1) (.string s2) rfl rfl rfl ?_
      simp only [Act.put, List.setIfInBounds_toArray, List.set_cons_zero, List.set_cons_succ]
      refine take_move (.tmp 6) (.int .i64 (k : Int)) rfl rfl rfl ?_
      simp only [Act.put, List.setIfInBounds_toArray, List.set_cons_zero, List.set_cons_succ]
      refine take_one (.int .u8 (x.toNat : Int)) rfl (fun u hu => by go_simp; rw [Hxe.out]) ?_
      simp only [Act.put, List.setIfInBounds_toArray, List.set_cons_zero, List.set_cons_succ]
      refine take_move (.tmp 0) (.pointer (some ⟨b, 0, none⟩)) rfl rfl rfl ?_
      simp only [Act.put, List.setIfInBounds_toArray, List.set_cons_zero, List.set_cons_succ]
      refine take_nil (.tmp 33) ⟨b, 0, none⟩ rfl rfl rfl ?_
      simp only [Act.put, List.setIfInBounds_toArray, List.set_cons_zero, List.set_cons_succ]
      refine take_one (.pointer (some ⟨b, 66, none⟩)) rfl (fun u _ => by go_simp) ?_
      simp only [Act.put, List.setIfInBounds_toArray, List.set_cons_zero, List.set_cons_succ]
      refine take_load 36 (.tmp 35) ⟨b, 66, none⟩ (.int .u64 (r.p : Int)) rfl rfl rfl (fun u hu => load_at Try.underlying36 Try.isAgg36 (by obtain ⟨r0, h0, h1, h2, h3⟩ := hu; rw [← h3]; exact h0.cell (Rol.c66 h1))) ?_
      simp only [Act.put, List.setIfInBounds_toArray, List.set_cons_zero, List.set_cons_succ]
      refine take_move (.tmp 0) (.pointer (some ⟨b, 0, none⟩)) rfl rfl rfl ?_
      simp only [Act.put, List.setIfInBounds_toArray, List.set_cons_zero, List.set_cons_succ]
      refine take_move (.tmp 0) (.pointer (some ⟨b, 0, none⟩)) rfl rfl rfl ?_
      simp only [Act.put, List.setIfInBounds_toArray, List.set_cons_zero, List.set_cons_succ]
      refine take_nil (.tmp 39) ⟨b, 0, none⟩ rfl rfl rfl ?_
      simp only [Act.put, List.setIfInBounds_toArray, List.set_cons_zero, List.set_cons_succ]
      refine take_one (.pointer (some ⟨b, 0, none⟩)) rfl (fun u _ => by go_simp) ?_
      simp only [Act.put, List.setIfInBounds_toArray, List.set_cons_zero, List.set_cons_succ]
      refine take_move (.tmp 1) (.string s2) rfl rfl rfl ?_
      simp only [Act.put, List.setIfInBounds_toArray, List.set_cons_zero, List.set_cons_succ]
      refine take_move (.tmp 6) (.int .i64 (k : Int)) rfl rfl rfl ?_
      simp only [Act.put, List.setIfInBounds_toArray, List.set_cons_zero, List.set_cons_succ]
      refine take_one (.int .u8 (x.toNat : Int)) rfl (fun u hu => by go_simp; rw [Hxe.out]) ?_
      simp only [Act.put, List.setIfInBounds_toArray, List.set_cons_zero, List.set_cons_succ]
      refine take_nil (.tmp 38) ⟨b, 0, none⟩ rfl rfl rfl ?_
      simp only [Act.put, List.setIfInBounds_toArray, List.set_cons_zero, List.set_cons_succ]
      refine take_one (.pointer (some ⟨b, 67, none⟩)) rfl (fun u _ => by go_simp) ?_
      simp only [Act.put, List.setIfInBounds_toArray, List.set_cons_zero, List.set_cons_succ]
      refine take_done ?_
      refine midk_wp rfl (call_wp 75 [.tmp 29, .tmp 32, .tmp 36] #[36, 5, 36] #[.int .u64 (r.f : Int), .int .u8 (x.toNat : Int), .int .u64 (r.p : Int)] rfl rfl rfl ?_)
      refine (Cf.out _).mono ?_
      rintro e w2 ⟨rfl, rfl⟩
      refine ⟨_, rfl, ⟨r, HR.out, hf, rfl, rfl⟩, ?_⟩
      simp only [Act.put, List.setIfInBounds_toArray, List.set_cons_zero, List.set_cons_succ]
      refine midk_wp rfl (call_wp 76 [.tmp 41, .tmp 44] #[112, 5] #[.pointer (some ⟨b, 0, none⟩), .int .u8 (x.toNat : Int)] rfl rfl rfl ?_)
      refine (push_any (r := r) (w := wr.drew) HR.out hf x).mono ?_
      rintro e w2 ⟨he, h2, t2⟩
      rw [HY.out] at he
      subst he
      have hf2 := Rol.push_fit hf x
      refine ⟨_, rfl, ⟨r.push x, h2, hf2, rfl, rfl⟩, ?_⟩
      simp only [Act.put, List.setIfInBounds_toArray, List.set_cons_zero, List.set_cons_succ]
      refine midk_pure (.pointer (some ⟨b, 67 + y, none⟩)) rfl (fun _ => by go_simp; intro hq; omega) ⟨r.push x, h2, hf2, rfl, rfl⟩ ?_
      simp only [Act.put, List.setIfInBounds_toArray, List.set_cons_zero, List.set_cons_succ]
      refine midk_load 36 (.tmp 48) ⟨b, 67 + y, none⟩ (.int .u64 (g1 : Nat)) rfl rfl rfl (load_at Try.underlying36 Try.isAgg36 (by rw [HG.out]; exact h2.cell (Rol.tab hf2 y hy))) ⟨r.push x, h2, hf2, rfl, rfl⟩ ?_
      simp only [Act.put, List.setIfInBounds_toArray, List.set_cons_zero, List.set_cons_succ]
      refine midk_pure (.int .u64 (f2 : Nat)) rfl (fun _ => by go_simp; rw [HX.out]) ⟨r.push x, h2, hf2, rfl, rfl⟩ ?_
      simp only [Act.put, List.setIfInBounds_toArray, List.set_cons_zero, List.set_cons_succ]
      refine midk_pure (.pointer (some ⟨b, 0, none⟩)) rfl (fun _ => rfl) ⟨r.push x, h2, hf2, rfl, rfl⟩ ?_
      simp only [Act.put, List.setIfInBounds_toArray, List.set_cons_zero, List.set_cons_succ]
      refine midk_pure (.pointer (some ⟨b, 323, none⟩)) rfl (fun _ => by go_simp) ⟨r.push x, h2, hf2, rfl, rfl⟩ ?_
      simp only [Act.put, List.setIfInBounds_toArray, List.set_cons_zero, List.set_cons_succ]
      refine stage_next (fun _ => True) trivial ?_
      simp only [wpPhasesK, pick, List.filterMap_cons, List.filterMap_nil, List.getElem?_toArray, List.getElem?_cons_zero, List.getElem?_cons_succ]
      refine take_done ?_
      have h3 := h2.set 323 (.int .u64 (f2 : Nat)) (Rol.set_f hf2 f2)
      refine midk_put 36 (.tmp 52) (.tmp 50) _ _ rfl rfl rfl rfl (store_num Try.sizeOf36 (h2.cell (Rol.c323 hf2)) (h2.free _)) trivial ?_
      simp only [Act.put]
      refine stage_end ?_
      have hr2 := h3
      rw [← Hstep.out] at hr2
      have ht2 := (HT.out.drew.trans t2 (fun _ _ e => e)).set b 323 (.int .u64 (f2 : Nat)) (fun _ => rfl)
      have Hr2 := Lib.hid hr2; clear hr2
      have Ht2 := Lib.hid ht2; clear ht2
      clear h3 t2 h2
      go_wp2_with fail
      go_roundw
      case rel => exact ⟨k + 1, by omega, by go_num, by rw [Hst.out]; exact Hr2.out, Ht2.out⟩
      case measure => simp [intOf]; omega
    · obtain rfl : k = s2.size := by omega
      rw [List.take_of_length_le (by rw [Hll.out]; omega), ← HrE.out] at h
      have hge : decide ((s2.size : Int) < (s2.size : Int)) = false := decide_eq_false (by omega)
      have c := h.cell (Rol.c323 (by rw [HrE.out]; exact (Rol.steps_fit HK.out.fit l).1))
      clear HK HW Hll Hl2 HR HrE
      go_wp2_with fail
      go_ret2
      exact ⟨rfl, h, ht⟩
end Go.Proofs.Ytcmlcpejlmlcfaa

/-
  What New returns.
-/
set_option linter.unusedVariables false
set_option maxRecDepth 100000
namespace Go.Proofs.Ytcmlcpejlmlcfaa
open Go.RowKit

/-- cells are laid into a row -/
theorem fold_into (off : Nat) : ∀ (l : List Value) (s : Nat) (cs : Array Value) (A B C : List Value), cs.toList = A ++ (B ++ C) → A.length = off + s → B.length = l.length →
    ((l.zipIdx s).foldl (fun cs (x : Value × Nat) => cs.setIfInBounds (off + x.2) x.1) cs).toList = A ++ (l ++ C)
  | [], s, cs, A, B, C, h, hA, hB => by
    obtain rfl := List.eq_nil_of_length_eq_zero hB
    exact h
  | c :: l, s, cs, A, [], C, h, hA, hB => by simp at hB
  | c :: l, s, cs, A, b :: B, C, h, hA, hB => by
    simp only [List.zipIdx_cons, List.foldl_cons]
    rw [fold_into off l (s + 1) (cs.setIfInBounds (off + s) c) (A ++ [c]) B C (by
      rw [Array.toList_setIfInBounds, h, List.set_append_right _ _ (by omega), hA, Nat.sub_self]
      simp) (by simp; omega) (by simpa using hB)]
    simp
theorem fill_step {place : Nat → Option (Nat × Nat)} {cs : Array Value} {i off size : Nat} {v : Value} {rest : List (Nat × Value)} (hp : place i = some (off, size)) (A B C : List Value) (hc : cs.toList = A ++ (B ++ C)) (hA : A.length = off) (hB : B.length = size) (hv : v.cells.size = size) :
    Instr.fill place cs ((i, v) :: rest) = Instr.fill place (A ++ (v.cells.toList ++ C)).toArray rest := by
  have hsz : cs.size = A.length + (B.length + C.length) := by rw [← Array.length_toList, hc]; simp
  rw [Instr.fill, hp]
  simp only []
  rw [if_neg (by simp [hv]; omega)]
  congr 1
  apply Array.ext'
  have := fold_into off v.cells.toList 0 cs A B C hc (by omega) (by rw [hB, Array.length_toList, hv])
  rw [← this]
  congr 1
  rw [← Array.foldl_toList, Array.toList_zipIdx]

def u64s (l : List Nat) : Array Value := (u64l l).toArray
@[simp] theorem u64s_size (l : List Nat) : (u64s l).size = l.length := by simp [u64s, u64l]
theorem u64s_one (l : List Nat) : (u64s l).all (·.oneCell') = true := by
  rw [Array.all_eq_true_iff_forall_mem]
  intro v hv
  simp [u64s, u64l] at hv
  obtain ⟨n, _, rfl⟩ := hv
  rfl
theorem u64s_set (l : List Nat) (j x : Nat) : (u64s l).setIfInBounds j (.int .u64 (x : Int)) = u64s (l.set j x) := by
  apply Array.ext'
  simp [u64s, u64l, List.map_set]
theorem u64s_get (l : List Nat) (j : Nat) (h : j < l.length) : (u64s l)[j]? = some (.int .u64 (l.getD j 0 : Nat)) := by
  simp [u64s, u64l, List.getD_eq_getElem?_getD, h]

def ringV (n : Nat) : Array Value := ((u8s (nils8 64)).toList ++ [Value.int .i64 (n : Int), Value.int .i64 0]).toArray
theorem build_ring (n : Nat) (w : World) : (Instr.build 112 #[(1, .int .i64 (n : Int))]).run Try.prog w = .ok (.agg (ringV n)) w := run_build w _ _ _ (by kernel_rfl)
theorem built_rol (parts : List (Nat × Value)) : Try.prog.built 114 parts = Instr.fill (#[(0, 66), (66, 1), (67, 256), (323, 1)][·]?) rolZero parts := by kernel_rfl
theorem rolZero_list : rolZero.toList = (u8s (nils8 64)).toList ++ (.int .i64 0 :: .int .i64 0 :: .int .u64 0 :: (u64l (nils 256) ++ [.int .u64 0])) := by simp [rolZero, Rol.cells, Rol.list, nils8, nils]
def Rol.fresh (p n : Nat) (g : List Nat) : Rol := ⟨List.replicate 64 0, n, 0, p, g, 0⟩
theorem build_rol (n p : Nat) (g : List Nat) (hg : g.length = 256) (w : World) : (Instr.build 114 #[(0, .agg (ringV n)), (1, .int .u64 (p : Int)), (2, .agg (u64s g))]).run Try.prog w = .ok (.agg (Rol.fresh p n g).cells) w := by
  refine run_build w _ _ _ ?_
  have h64 : (u8s (nils8 64)).toList.length = 64 := by simp
  rw [built_rol]
  simp only []
  rw [fill_step (off := 0) (size := 66) rfl [] ((u8s (nils8 64)).toList ++ [.int .i64 0, .int .i64 0]) (.int .u64 0 :: (u64l (nils 256) ++ [.int .u64 0])) (by rw [rolZero_list]; simp) rfl (by simp) (by simp [Value.cells, ringV])]
  rw [fill_step (off := 66) (size := 1) rfl (Value.agg (ringV n)).cells.toList [.int .u64 0] (u64l (nils 256) ++ [.int .u64 0]) (by simp) (by simp [Value.cells, ringV]) rfl rfl]
  rw [fill_step (off := 67) (size := 256) rfl ((Value.agg (ringV n)).cells.toList ++ [.int .u64 (p : Int)]) (u64l (nils 256)) [.int .u64 0] (by simp [Value.cells]) (by simp [Value.cells, ringV]) (by simp [u64l]) (by simp [Value.cells, hg])]
  simp only [Instr.fill, Option.some.injEq]
  apply Array.ext'
  simp [Value.cells, ringV, Rol.fresh, Rol.cells, Rol.list, u64s, nils8]

/-- what each byte still counts: of the first k bytes, and noughts behind them -/
def tabTo (p n k : Nat) : List Nat := (List.range k).map (Pol.gone p n) ++ nils (256 - k)
theorem tabTo_length (p n k : Nat) (h : k ≤ 256) : (tabTo p n k).length = 256 := by simp [tabTo]; omega
theorem tabTo_zero (p n : Nat) : tabTo p n 0 = nils 256 := by simp [tabTo]
theorem tabTo_set (p n k : Nat) (h : k < 256) : (tabTo p n k).set k (Pol.gone p n k) = tabTo p n (k + 1) := by
  unfold tabTo nils
  rw [List.set_append_right _ _ (by simp), List.length_map, List.length_range, Nat.sub_self]
  obtain ⟨m, hm⟩ : ∃ m, 256 - k = m + 1 := ⟨255 - k, by omega⟩
  rw [hm, List.replicate_succ, List.set_cons_zero, List.range_succ, show 256 - (k + 1) = m by omega]
  simp
theorem tabTo_get (p n v : Nat) (h : v < 256) : (tabTo p n 256).getD v 0 = Pol.gone p n v := by
  unfold tabTo nils
  rw [List.getD_eq_getElem?_getD, List.getElem?_append_left (by simp; exact h)]
  simp [h]
theorem zero_tab (w : World) : (zeroValue 107).run Try.prog w = .ok (.agg (u64s (nils 256))) w := by kernel_rfl

theorem Num.below {B v : Nat} {w w' : World} {N : Nat} (h : Num B v w) (hb : Below N w w') (hN : B < N) : Num B v w' := h.of_block (hb.block B hN)

set_option maxHeartbeats 1000000 in
theorem table_any (q n p B C : Nat) (hp : Pol.fine p) (hq : q = Pol.rem (2 ^ (8 * n)) p) (w : World) (hB : Num B q w) (hC : Num C p w) (hBl : B < w.heap.size) (hCl : C < w.heap.size) :
    Calls Try.prog 72 #[.pointer (some ⟨B, 0, none⟩), .pointer (some ⟨C, 0, none⟩)] w fun e w' => e = .returned (.agg (u64s (tabTo p n 256))) ∧ Below w.heap.size w w' := by
  have hz := zero_tab
  rw [← tabTo_zero p n] at hz
  have cm := fun v (hv : v < 256) u => (mul_any q v p (by rw [hq]; exact rem_u64 hp _) (by omega) (Pol.fine_lt hp) u).2 ⟨by have := hp.1; omega, hp.2⟩
  have hg : ∀ v, Pol.rem (Pol.mul q v) p = Pol.gone p n v := fun v => by rw [hq]; rfl
  simp only [hg] at cm
  have Cm := Lib.hid cm; clear cm
  have hset := fun k => tabTo_set p n k
  have hlen := fun k => tabTo_length p n k
  generalize tabTo p n = T at *
  generalize Pol.gone p n = gn at *
  have Hset := Lib.hid hset; clear hset
  have Hlen := Lib.hid hlen; clear hlen
  have HB := Lib.hid hB; clear hB
  have HC := Lib.hid hC; clear hC
  clear hg hq hp
  go_enter Try.func72, Try.ntmps72
  go_wp2_with fail
  clear hz
  go_loopw [4] (fun i wr => ∃ k : Nat, k ≤ 256 ∧ i = .int .i64 (k : Int) ∧ wr.heap[w.heap.size]? = some (.cells (u64s (T k)) 107 (0, 0)) ∧ Below w.heap.size w wr) (fun i _ => 256 - (intOf i).toNat)
  case atStart => exact ⟨0, by omega, rfl, heap_alloc_new _ _, (Below.refl _ w).alloc (Nat.le_refl _) _⟩
  case round =>
    obtain ⟨k, hk, rfl, hr, hb⟩ := hrel
    have hl := Hlen.out k hk
    by_cases hlt : k < 256
    · have hge : decide ((k : Int) < 256) = true := decide_eq_true (by omega)
      have i0 : (0 : Int) ≤ (k : Int) := by omega
      have i1 : (k : Int) < 256 := by omega
      have nB := HB.out.below hb hBl
      have nC := HC.out.below hb hCl
      obtain ⟨c1, f1⟩ := nB
      obtain ⟨c2, f2⟩ := nC
      have c3 : wr.cell? ⟨w.heap.size, k, none⟩ = some (.int .u64 ((T k).getD k 0 : Nat)) := by rw [cell_of_row wr _ k _ _ _ hr, u64s_get _ _ (by omega)]
      have f3 := row_free hr k
      have hr2 : (wr.setCell ⟨w.heap.size, k, none⟩ (.int .u64 (gn k : Nat))).heap[w.heap.size]? = some (.cells (u64s (T (k + 1))) 107 (0, 0)) := by
        rw [heap_setCell_same wr _ k _ _ _ hr, u64s_set, Hset.out k hlt]
      have hb2 : Below w.heap.size w (wr.setCell ⟨w.heap.size, k, none⟩ (.int .u64 (gn k : Nat))) := hb.setCell (p := ⟨w.heap.size, k, none⟩) (Nat.le_refl _) _
      generalize (T k).getD k 0 = old at *
      have cm := fun u => Cm.out k hlt u
      have CM := Lib.hid cm; clear cm
      have wk := wrap_u64_in (k : Int) (by omega) (by omega)
      have Hr2 := Lib.hid hr2; clear hr2
      have Hb2 := Lib.hid hb2; clear hb2
      clear hr hb hl
      go_wp2_with fail
      refine (CM.out _).mono ?_; rintro e w1 ⟨rfl, rfl⟩
      go_wp2_with fail
      go_roundw
      case rel => exact ⟨k + 1, by omega, by go_num, Hr2.out, Hb2.out⟩
      case measure => simp [intOf]; omega
    · obtain rfl : k = 256 := by omega
      rw [show ((256 : Nat) : Int) = 256 from rfl]
      have hi : (Try.prog.info? 107).map (·.size) = some (u64s (T 256)).size := by rw [u64s_size, hl]; kernel_rfl
      have Hr := Lib.hid hr; clear hr
      have Hb := Lib.hid hb; clear hb
      have Hi := Lib.hid hi; clear hi
      clear hl
      generalize hTT : T 256 = TT at *
      have HTT := Lib.hid hTT; clear hTT
      go_wp2_with (first | (with_reducible refine wpList_load_row rfl 107 (.tmp 2) rfl w.heap.size rfl _ (u64s TT) _ _ Hr.out Try.underlying107 rfl Hi.out ?_) | (with_reducible refine wpList_store_whole rfl 107 (.tmp 2) (.tmp 18) rfl w.heap.size (u64s TT) rfl rfl _ (u64s TT) Hr.out Hi.out rfl (u64s_one TT) ?_))
      refine bodyPost_ret (v := .agg (u64s TT)) (results_cell_row (P := Try.prog) rfl _ _ w.heap.size _ (u64s TT) (0, 0) _ rfl (setRow_heap _ _ (u64s TT) _ _ _ Hr.out) Try.underlying107 rfl Hi.out) rfl ?_
      exact ⟨by rw [HTT.out], below_setRow Hb.out (Nat.le_refl _) _⟩
end Go.Proofs.Ytcmlcpejlmlcfaa

/-
  What New returns: a roller that was given nothing.
-/
set_option linter.unusedVariables false
set_option maxRecDepth 100000
namespace Go.Proofs.Ytcmlcpejlmlcfaa
open Go.RowKit

theorem Rol.fresh_fit (p N : Nat) (h1 : 1 ≤ N) (h2 : N ≤ 64) : (Rol.fresh p N (tabTo p N 256)).Fit :=
  ⟨by simp [Rol.fresh], tabTo_length p N 256 (by omega), h1, h2, h1⟩
theorem Rol.fresh_ok (p N : Nat) (hp : Pol.fine p) (h1 : 1 ≤ N) (h2 : N ≤ 64) : (Rol.fresh p N (tabTo p N 256)).Ok (Pol.last N []) :=
  ⟨Rol.fresh_fit p N h1 h2, hp, fun v hv => tabTo_get p N v hv, by rw [Pol.last_nil]; exact Pol.wind_blank N 0 h2 h1, by
    rw [Pol.last_nil]
    have := Pol.fp_noughts (Pol.fine_ne hp) N []
    rw [List.append_nil] at this
    exact this.symm⟩
theorem Rol.reset_ok {r : Rol} {W : List UInt8} (h : r.Ok W) : r.reset.Ok (Pol.last r.n []) :=
  ⟨⟨by simp [Rol.reset], h.fit.g, h.fit.n1, h.fit.n2, h.fit.o⟩, h.p, h.g, by rw [Pol.last_nil]; exact Pol.wind_blank r.n r.o h.fit.n2 h.fit.o, by
    rw [Pol.last_nil]
    have := Pol.fp_noughts (Pol.fine_ne h.p) r.n []
    rw [List.append_nil] at this
    exact this.symm⟩

set_option maxHeartbeats 1000000 in
theorem new_any (p : Nat) (n : Int) (hp : p < 18446744073709551616) (w : World) :
    (¬ rabMay p n → Calls Try.prog 59 #[.int .u64 p, .int .i64 n] w fun e w' => e = .returned (.tuple #[.pointer none, .int .i64 2]) ∧ Below w.heap.size w w') ∧
    (rabMay p n → Calls Try.prog 59 #[.int .u64 p, .int .i64 n] w fun e w' => ∃ b, w.heap.size ≤ b ∧ e = .returned (.tuple #[.pointer (some ⟨b, 0, none⟩), .int .i64 0]) ∧ RolAt b (Rol.fresh p n.toNat (tabTo p n.toNat 256)) w' ∧ Below w.heap.size w w') := by
  refine ⟨fun h => ?_, fun h => ?_⟩
  · have cc := fun u => (check_any p n hp u).1 h
    have Cc := Lib.hid cc; clear cc
    clear h hp
    go_enter Try.func59, Try.ntmps59
    go_wp2_with fail
    refine (Cc.out _).mono ?_; rintro e w1 ⟨rfl, rfl⟩
    go_wp2_with fail
    go_ret2
    exact ⟨rfl, (Below.refl _ _).alloc (Nat.le_refl _) _⟩
  · have cc := fun u => (check_any p n hp u).2 h
    obtain ⟨N, rfl⟩ : ∃ N : Nat, n = (N : Int) := ⟨n.toNat, by have := h.2; omega⟩
    rw [Int.toNat_natCast]
    have h1 : 1 ≤ N := by have := h.2.1; omega
    have h2 : N ≤ 64 := by have := h.2.2; omega
    have cu := fun u => (up_any (8 * (N : Int)) p hp (by omega) u).2 ⟨by omega, by have := h.1.1; omega, h.1.2⟩
    rw [show (8 * (N : Int)).toNat = 8 * N by omega] at cu
    obtain ⟨q, hq⟩ : ∃ q, q = Pol.rem (2 ^ (8 * N)) p := ⟨_, rfl⟩
    rw [← hq] at cu
    have HP := Lib.hid h.1
    have HQ := Lib.hid hq; clear hq
    have w1 : IntKind.i64.wrap (8 * (N : Int)) = 8 * (N : Int) := IntWalk.i64_in _ (by omega)
    have Cc := Lib.hid cc; clear cc
    have Cu := Lib.hid cu; clear cu
    clear h hp
    go_enter Try.func59, Try.ntmps59
    go_wp2_with fail
    refine (Cc.out _).mono ?_; rintro e w1 ⟨rfl, rfl⟩
    go_wp2_with fail
    refine (Cu.out _).mono ?_; rintro e w5 ⟨rfl, hb5⟩
    go_wp2_with fail
    have hs5 := hb5.size
    have hs6 : w.heap.size < w5.heap.size := by have e : (w.alloc (.cells #[.int .u64 (p : Int)] 36)).heap.size = w.heap.size + 1 := by simp
                                                rw [e] at hs5; omega
    have nq := Num.new w5 q 36
    have np : Num w.heap.size p (w5.alloc (.cells #[.int .u64 (q : Int)] 36)) := ((Num.new w p 36).below hb5 (by simp)).of_block (Below.heap_alloc w5 _ _ (by omega))
    have bz : Below w.heap.size w (w5.alloc (.cells #[.int .u64 (q : Int)] 36)) := (((Below.refl _ w).alloc (Nat.le_refl _) _).trans (hb5.mono (by simp))).alloc (by omega) _
    have hz1 : w5.heap.size < (w5.alloc (.cells #[.int .u64 (q : Int)] 36)).heap.size := by simp
    generalize w5.alloc (.cells #[.int .u64 (q : Int)] 36) = wz at *
    have k5 : Num w5.heap.size q wz.drew ∧ Num w.heap.size p wz.drew ∧ w5.heap.size < wz.drew.heap.size ∧ w.heap.size < wz.drew.heap.size ∧ Below w.heap.size w wz.drew := ⟨nq.of_block rfl, np.of_block rfl, hz1, by show _ < wz.heap.size; omega, bz.drew⟩
    have K5 := Lib.hid k5; clear k5
    clear nq np bz hz1 hs5 hb5
    refine wp_region_phases [([0, 1, 2, 3], [4, 5, 6, 7, 8])] (by kernel_rfl) (by kernel_rfl) (fun u => Num w.heap.size p u) K5.out.2.1 ?_
    simp only [wpPhases, pick, List.filterMap_cons, List.filterMap_nil, List.getElem?_toArray, List.getElem?_cons_zero, List.getElem?_cons_succ]
    refine take_move (.tmp 1) (.int .i64 (N : Int)) rfl rfl rfl ?_
    simp only [Act.put, List.setIfInBounds_toArray, List.set_cons_zero, List.set_cons_succ]
    refine take_one (.agg (ringV N)) rfl (fun u hu => run_build_at 112 [(1, .tmp 24)] rfl (build_ring N u)) ?_
    simp only [Act.put, List.setIfInBounds_toArray, List.set_cons_zero, List.set_cons_succ]
    refine take_load 36 (.tmp 2) ⟨w.heap.size, 0, none⟩ (.int .u64 (p : Int)) rfl rfl rfl (fun u hu => load_at Try.underlying36 Try.isAgg36 hu.cell) ?_
    simp only [Act.put, List.setIfInBounds_toArray, List.set_cons_zero, List.set_cons_succ]
    refine take_move (.tmp 9) (.func (.func 72) #[] #[.pointer (some ⟨w5.heap.size, 0, none⟩), .pointer (some ⟨w.heap.size, 0, none⟩)]) rfl rfl rfl ?_
    simp only [Act.put, List.setIfInBounds_toArray, List.set_cons_zero, List.set_cons_succ]
    refine take_done ?_
    refine midk_wp rfl (call_fn_wp 72 27 #[.pointer (some ⟨w5.heap.size, 0, none⟩), .pointer (some ⟨w.heap.size, 0, none⟩)] rfl rfl rfl ?_)
    refine (table_any q N p w5.heap.size w.heap.size HP.out HQ.out _ K5.out.1 K5.out.2.1 K5.out.2.2.1 K5.out.2.2.2.1).mono ?_
    rintro e w6 ⟨rfl, hb6⟩
    have n6 : Num w.heap.size p w6 := K5.out.2.1.below hb6 K5.out.2.2.2.1
    have b6 : Below w.heap.size w w6 := K5.out.2.2.2.2.trans (hb6.mono (Nat.le_of_lt K5.out.2.2.2.1))
    refine ⟨_, rfl, n6, ?_⟩
    simp only [Act.put, List.setIfInBounds_toArray, List.set_cons_zero, List.set_cons_succ]
    refine midk_pure (.agg (Rol.fresh p N (tabTo p N 256)).cells) rfl (fun u => run_build_at 114 [(0, .tmp 25), (1, .tmp 26), (2, .tmp 28)] rfl (build_rol N p _ (tabTo_length p N 256 (by omega)) u)) n6 ?_
    simp only [Act.put, List.setIfInBounds_toArray, List.set_cons_zero, List.set_cons_succ]
    refine midk_box 114 (.tmp 29) (Rol.fresh p N (tabTo p N 256)).cells rfl rfl rfl (n6.below ((Below.refl _ w6).alloc (Nat.le_refl _) _) (by have := b6.size; have := cell_lt n6.cell; omega)) ?_
    simp only [Act.put, List.setIfInBounds_toArray, List.set_cons_zero, List.set_cons_succ]
    refine midk_one (.pointer (some ⟨w6.heap.size, 0, none⟩)) rfl rfl (n6.below ((Below.refl _ w6).alloc (Nat.le_refl _) _) (by have := b6.size; have := cell_lt n6.cell; omega)) ?_
    simp only [Act.put, List.setIfInBounds_toArray, List.set_cons_zero, List.set_cons_succ]
    refine midk_one (.int .i64 0) rfl rfl (n6.below ((Below.refl _ w6).alloc (Nat.le_refl _) _) (by have := b6.size; have := cell_lt n6.cell; omega)) ?_
    simp only [Act.put, List.setIfInBounds_toArray, List.set_cons_zero, List.set_cons_succ]
    refine midk_end ?_
    have hr : RolAt w6.heap.size (Rol.fresh p N (tabTo p N 256)) (w6.alloc (.cells (Rol.fresh p N (tabTo p N 256)).cells 114)) := heap_alloc_new w6 _
    have hb : Below w.heap.size w (w6.alloc (.cells (Rol.fresh p N (tabTo p N 256)).cells 114)) := b6.alloc (by exact b6.size) _
    have hsz := b6.size
    generalize w6.alloc (.cells (Rol.fresh p N (tabTo p N 256)).cells 114) = wE at *
    generalize (Rol.fresh p N (tabTo p N 256)).cells = CC at *
    have Hr := Lib.hid hr; clear hr
    have Hb := Lib.hid hb; clear hb
    have Hsz := Lib.hid hsz; clear hsz
    clear n6 b6 hb6
    go_wp2_with fail
    go_ret2
    exact ⟨w6.heap.size, Hsz.out, rfl, Hr.out, Hb.out⟩
end Go.Proofs.Ytcmlcpejlmlcfaa

/-
  A roller of p and n that was given G, in one form; the chapter's examples.
-/
set_option linter.unusedVariables false
set_option maxRecDepth 100000
namespace Go.Proofs.Ytcmlcpejlmlcfaa
open Go.RowKit

def RolG (b p n : Nat) (G : List UInt8) (w : World) : Prop := ∃ r : Rol, RolAt b r w ∧ r.Ok (Pol.last n G) ∧ r.n = n ∧ r.p = p
section
variable {b p n : Nat} {G : List UInt8} {w w' : World}
theorem RolG.lt (h : RolG b p n G w) : b < w.heap.size := by obtain ⟨r, h, _⟩ := h; exact h.lt
theorem RolG.keeps {T : Nat → Prop} (h : RolG b p n G w) (ht : Turns T w w') (hT : ¬ T b) : RolG b p n G w' := by
  obtain ⟨r, h, h2⟩ := h; exact ⟨r, h.keeps ht hT, h2⟩
theorem RolG.new (h : RolG b p n G w) (hb : Below w.heap.size w w') : RolG b p n G w' := by
  obtain ⟨r, h, h2⟩ := h; exact ⟨r, h.new hb, h2⟩
theorem rollG_any (h : RolG b p n G w) (s : ByteArray) (hs : s.size ≤ 140737488351232) : Calls Try.prog 62 #[.pointer (some ⟨b, 0, none⟩), .string s] w fun e w' => e = .returned (.tuple #[.int .u64 (Pol.fp p (Pol.last n (G ++ s.data.toList)) : Nat), .int .i64 0]) ∧ RolG b p n (G ++ s.data.toList) w' ∧ Turns (fun j => j = b) w w' := by
  obtain ⟨r, h, hk, rfl, rfl⟩ := h
  have hk2 := Rol.roll_ok hk s.data.toList
  refine (roll_any h hk (Pol.last_length _ _) s hs).mono fun e w' ⟨he, h2, ht⟩ => ⟨?_, ⟨_, h2, ?_⟩, ht⟩
  · rw [he, hk2.f, (Rol.steps_fit hk.fit _).2.2.1]
  · obtain ⟨f1, f2, f3, f4⟩ := Rol.steps_fit hk.fit (s.data.toList.drop (s.data.toList.length - r.n))
    exact ⟨hk2, f2, f3⟩
theorem resetG_any (h : RolG b p n G w) : Calls Try.prog 61 #[.pointer (some ⟨b, 0, none⟩)] w fun e w' => e = .returned (.tuple #[]) ∧ RolG b p n [] w' ∧ Turns (fun j => j = b) w w' := by
  obtain ⟨r, h, hk, rfl, rfl⟩ := h
  exact (reset_any h hk.fit).mono fun e w' ⟨he, h2, ht⟩ => ⟨he, ⟨_, h2, Rol.reset_ok hk, rfl, rfl⟩, ht⟩
end
theorem newG_any (p : Nat) (n : Int) (hp : p < 18446744073709551616) (w : World) (h : rabMay p n) :
    Calls Try.prog 59 #[.int .u64 p, .int .i64 n] w fun e w' => ∃ b, w.heap.size ≤ b ∧ e = .returned (.tuple #[.pointer (some ⟨b, 0, none⟩), .int .i64 0]) ∧ RolG b p n.toNat [] w' ∧ Below w.heap.size w w' := by
  have h1 := h.2.1
  have h2 := h.2.2
  refine ((new_any p n hp w).2 h).mono fun e w' ⟨b, hb, he, hr, hw⟩ => ⟨b, hb, he, ⟨_, hr, Rol.fresh_ok p n.toNat h.1 (by omega) (by omega), rfl, rfl⟩, hw⟩

theorem fine283 : Pol.fine 283 := by constructor <;> decide +kernel
theorem notfine3 : ¬ Pol.fine 3 := fun h => absurd h.1 (by decide +kernel)
end Go.Proofs.Ytcmlcpejlmlcfaa
