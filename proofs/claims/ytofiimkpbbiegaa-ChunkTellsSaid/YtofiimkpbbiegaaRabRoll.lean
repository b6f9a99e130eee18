/-
  What Roll does.
-/
import Derived.Test.YtofiimkpbbiegaaRabMore
import Derived.Test.YtofiimkpbbiegaaGoStage
set_option linter.unusedVariables false
set_option maxRecDepth 100000
namespace Go.Proofs.Ytofiimkpbbiegaa
open Go.RowKit

theorem roll_nil (s : ByteArray) (w : World) : Calls Try.prog 36 #[.pointer none, .string s] w fun e w' => e = .returned (.tuple #[.int .u64 0, .int .i64 1]) ∧ w = w' := by
  go_enter Try.func36, Try.ntmps36
  go_wp2_with fail
  go_ret2
  exact ⟨rfl, rfl⟩
/-- what lies below, where remainders do -/
theorem rem_u64 {p : Nat} (h : Pol.fine p) (a : Nat) : Pol.rem a p < 18446744073709551616 := by
  have := Pol.rem_len a (Pol.fine_ne h)
  exact lt64 (by have := h.2; omega)
set_option maxHeartbeats 1000000 in
theorem roll_any {b : Nat} {r : Rol} {W : List UInt8} {w : World} (h : RolAt b r w) (hk : r.Ok W) (hW : W.length = r.n) (s : ByteArray) (hs : s.size ≤ 140737488351232) :
    Calls Try.prog 36 #[.pointer (some ⟨b, 0, none⟩), .string s] w fun e w' => e = .returned (.tuple #[.int .u64 ((r.steps (s.data.toList.drop (s.data.toList.length - r.n))).f : Nat), .int .i64 0]) ∧ RolAt b (r.steps (s.data.toList.drop (s.data.toList.length - r.n))) w' ∧ Turns (fun j => j = b) w w' := by
  have cn := h.cell (Rol.c64 hk.fit)
  obtain ⟨l, hl⟩ : ∃ l, l = s.data.toList.drop (s.data.toList.length - r.n) := ⟨_, rfl⟩
  rw [← hl]
  have hn2 := hk.fit.n2
  have hmx : max (0 : Int) ((s.size : Int) - (r.n : Int)) = ((s.size - r.n : Nat) : Int) := by omega
  have HR := Lib.hid h; clear h
  obtain ⟨s2, hs2⟩ : ∃ s2, s2 = s.extract (s.size - r.n) s.size := ⟨_, rfl⟩
  have hz2 : s.size - (s.size - r.n) = s2.size := by rw [hs2, ByteArray.size_extract]; omega
  have hl2 : s2.data.toList = l := by
    rw [hs2, hl, Lib.extract_eq, ba_len]
    simp only []
    exact List.take_of_length_le (by rw [List.length_drop, ba_len]; omega)
  have hll : l.length = s2.size := by rw [← hl2, ba_len]
  have hle : s2.size ≤ r.n := by omega
  have Hs2 := Lib.hid hs2; clear hs2
  have Hz2 := Lib.hid hz2; clear hz2
  clear hl
  obtain ⟨rE, hrE⟩ : ∃ rE, rE = r.steps l := ⟨_, rfl⟩
  rw [← hrE]
  have HrE := Lib.hid hrE; clear hrE
  go_enter Try.func36, Try.ntmps36
  go_wp2_with fail
  rw [Hz2.out, ← Hs2.out]
  clear cn hmx Hs2 Hz2
  have Hll := Lib.hid hll; clear hll
  have Hl2 := Lib.hid hl2; clear hl2
  have HK := Lib.hid hk; clear hk
  have HW := Lib.hid hW; clear hW
  go_loopw [22] (fun i wr => ∃ k : Nat, k ≤ s2.size ∧ i = .int .i64 (k : Int) ∧ RolAt b (r.steps (l.take k)) wr ∧ Turns (fun j => j = b) w wr) (fun i _ => s2.size - (intOf i).toNat)
  case atStart => exact ⟨0, by omega, rfl, HR.out, Turns.refl _ _⟩
  case round =>
    obtain ⟨k, hk, rfl, h, ht⟩ := hrel
    by_cases hlt : k < s2.size
    · have hko := Rol.steps_ok (l.take k) W HK.out (by rw [List.length_take, HW.out]; omega)
      obtain ⟨x, hx⟩ : ∃ x, x = s2[k] := ⟨_, rfl⟩
      have hst : r.steps (l.take (k + 1)) = (r.steps (l.take k)).step x := by
        rw [List.take_succ_eq_append_getElem (by rw [Hll.out]; exact hlt)]
        have e : l[k]'(by rw [Hll.out]; exact hlt) = x := by
          rw [hx, ← ba_get s2 k hlt (by rw [ba_len]; exact hlt)]
          congr 1
          exact Hl2.out.symm
        rw [e]
        simp [Rol.steps]
      generalize (List.drop (l.take k).length (W ++ l.take k)) = W2 at *
      generalize r.steps (l.take k) = r at *
      have hf := hko.fit
      have hpf := hko.p
      have hfl : Pol.len r.f < Pol.len r.p := by rw [hko.f]; exact Pol.fp_len (Pol.fine_ne hpf) _
      have cf := fun u => followed_any r.f x.toNat r.p hpf hfl x.toNat_lt u
      obtain ⟨y, hy0⟩ : ∃ y : Nat, y = (r.bs.getD r.o 0).toNat := ⟨_, rfl⟩
      have hy : y < 256 := by rw [hy0]; exact (r.bs.getD r.o 0).toNat_lt
      obtain ⟨g1, hg⟩ : ∃ g1 : Nat, g1 = r.g.getD y 0 := ⟨_, rfl⟩
      obtain ⟨f1, hf1⟩ : ∃ f1 : Nat, f1 = Pol.foll r.p r.f x.toNat := ⟨_, rfl⟩
      obtain ⟨f2, hf2e⟩ : ∃ f2 : Nat, f2 = f1 ^^^ g1 := ⟨_, rfl⟩
      have hxx : bits .xor .u64 (f1 : Int) (g1 : Int) = (f2 : Int) := by
        rw [hf2e]
        refine u64_xor_nat f1 g1 ?_ ?_
        · rw [hf1]; exact rem_u64 hpf _
        · rw [hg, hko.g y hy]; exact rem_u64 hpf _
      have hstep : r.step x = { r.push x with f := f2 } := by rw [hf2e, hf1, hg, hy0]; rfl
      have hyi : ((r.bs.getD r.o 0).toNat : Int) = (y : Int) := by rw [hy0]
      rw [← hf1] at cf
      have Cf := Lib.hid cf; clear cf
      have HX := Lib.hid hxx; clear hxx
      have HG := Lib.hid hg; clear hg
      have HY := Lib.hid hyi; clear hyi
      have HR := Lib.hid h; clear h
      have Hstep := Lib.hid hstep; clear hstep
      have Hst := Lib.hid hst; clear hst
      have Hxe := Lib.hid hx; clear hx
      have HT := Lib.hid ht; clear ht
      clear hy0 hf1 hf2e hko hpf hfl HK HW Hll Hl2 HrE
      have hge : decide ((k : Int) < (s2.size : Int)) = true := decide_eq_true (by omega)
      have hge' : decide (k < s2.size) = true := decide_eq_true hlt
      go_wp2_with fail
      refine wp_region_stages [[([0, 1, 2, 3, 4, 5, 6, 7, 8, 9, 10, 11, 13, 14, 15, 16, 17, 18, 19, 21, 22], [12, 20, 23, 24, 25, 26, 27])], [([], [28])]] (by kernel_rfl) (by kernel_rfl) ?_
      refine stage_first (fun u => ∃ r0, RolAt b r0 u ∧ r0.Fit ∧ r0.f = r.f ∧ r0.p = r.p) ⟨r, HR.out, hf, rfl, rfl⟩ ?_
      simp only [wpPhasesK, pick, List.filterMap_cons, List.filterMap_nil, List.getElem?_toArray, List.getElem?_cons_zero, List.getElem?_cons_succ]
      refine take_move (.tmp 0) (.pointer (some ⟨b, 0, none⟩)) rfl rfl rfl ?_
      simp only [Act.put, List.setIfInBounds_toArray, List.set_cons_zero, List.set_cons_succ]
      refine take_move (.tmp 0) (.pointer (some ⟨b, 0, none⟩)) rfl rfl rfl ?_
      simp only [Act.put, List.setIfInBounds_toArray, List.set_cons_zero, List.set_cons_succ]
      refine take_nil (.tmp 26) ⟨b, 0, none⟩ rfl rfl rfl ?_
      simp only [Act.put, List.setIfInBounds_toArray, List.set_cons_zero, List.set_cons_succ]
      refine take_one (.pointer (some ⟨b, 323, none⟩)) rfl (fun u _ => by go_simp) ?_
      simp only [Act.put, List.setIfInBounds_toArray, List.set_cons_zero, List.set_cons_succ]
      refine take_load 22 (.tmp 28) ⟨b, 323, none⟩ (.int .u64 (r.f : Int)) rfl rfl rfl (fun u hu => load_at Try.underlying22 Try.isAgg22 (by obtain ⟨r0, h0, h1, h2, h3⟩ := hu; rw [← h2]; exact h0.cell (Rol.c323 h1))) ?_
      simp only [Act.put, List.setIfInBounds_toArray, List.set_cons_zero, List.set_cons_succ]
      refine take_move (.tmp 1) (.string s2) rfl rfl rfl ?_
      simp only [Act.put, List.setIfInBounds_toArray, List.set_cons_zero, List.set_cons_succ]
      refine take_move (.tmp 6) (.int .i64 (k : Int)) rfl rfl rfl ?_
      simp only [Act.put, List.setIfInBounds_toArray, List.set_cons_zero, List.set_cons_succ]
      refine take_one (.int .u8 (x.toNat : Int)) rfl (fun u hu => by go_simp; rw [Hxe.out]) ?_
      simp only [Act.put, List.setIfInBounds_toArray, List.set_cons_zero, List.set_cons_succ]
      refine take_move (.tmp 0) (.pointer (some ⟨b, 0, none⟩)) rfl rfl rfl ?_
      simp only [Act.put, List.setIfInBounds_toArray, List.set_cons_zero, List.set_cons_succ]
      refine take_nil (.tmp 33) ⟨b, 0, none⟩ rfl rfl rfl ?_
      simp only [Act.put, List.setIfInBounds_toArray, List.set_cons_zero, List.set_cons_succ]
      refine take_one (.pointer (some ⟨b, 66, none⟩)) rfl (fun u _ => by go_simp) ?_
      simp only [Act.put, List.setIfInBounds_toArray, List.set_cons_zero, List.set_cons_succ]
      refine take_load 22 (.tmp 35) ⟨b, 66, none⟩ (.int .u64 (r.p : Int)) rfl rfl rfl (fun u hu => load_at Try.underlying22 Try.isAgg22 (by obtain ⟨r0, h0, h1, h2, h3⟩ := hu; rw [← h3]; exact h0.cell (Rol.c66 h1))) ?_
      simp only [Act.put, List.setIfInBounds_toArray, List.set_cons_zero, List.set_cons_succ]
      refine take_move (.tmp 0) (.pointer (some ⟨b, 0, none⟩)) rfl rfl rfl ?_
      simp only [Act.put, List.setIfInBounds_toArray, List.set_cons_zero, List.set_cons_succ]
      refine take_move (.tmp 0) (.pointer (some ⟨b, 0, none⟩)) rfl rfl rfl ?_
      simp only [Act.put, List.setIfInBounds_toArray, List.set_cons_zero, List.set_cons_succ]
      refine take_nil (.tmp 39) ⟨b, 0, none⟩ rfl rfl rfl ?_
      simp only [Act.put, List.setIfInBounds_toArray, List.set_cons_zero, List.set_cons_succ]
      refine take_one (.pointer (some ⟨b, 0, none⟩)) rfl (fun u _ => by go_simp) ?_
      simp only [Act.put, List.setIfInBounds_toArray, List.set_cons_zero, List.set_cons_succ]
      refine take_move (.tmp 1) (.string s2) rfl rfl rfl ?_
      simp only [Act.put, List.setIfInBounds_toArray, List.set_cons_zero, List.set_cons_succ]
      refine take_move (.tmp 6) (.int .i64 (k : Int)) rfl rfl rfl ?_
      simp only [Act.put, List.setIfInBounds_toArray, List.set_cons_zero, List.set_cons_succ]
      refine take_one (.int .u8 (x.toNat : Int)) rfl (fun u hu => by go_simp; rw [Hxe.out]) ?_
      simp only [Act.put, List.setIfInBounds_toArray, List.set_cons_zero, List.set_cons_succ]
      refine take_nil (.tmp 38) ⟨b, 0, none⟩ rfl rfl rfl ?_
      simp only [Act.put, List.setIfInBounds_toArray, List.set_cons_zero, List.set_cons_succ]
      refine take_one (.pointer (some ⟨b, 67, none⟩)) rfl (fun u _ => by go_simp) ?_
      simp only [Act.put, List.setIfInBounds_toArray, List.set_cons_zero, List.set_cons_succ]
      refine take_done ?_
      refine midk_wp rfl (call_wp 46 [.tmp 29, .tmp 32, .tmp 36] #[22, 5, 22] #[.int .u64 (r.f : Int), .int .u8 (x.toNat : Int), .int .u64 (r.p : Int)] rfl rfl rfl ?_)
      refine (Cf.out _).mono ?_
      rintro e w2 ⟨rfl, rfl⟩
      refine ⟨_, rfl, ⟨r, HR.out, hf, rfl, rfl⟩, ?_⟩
      simp only [Act.put, List.setIfInBounds_toArray, List.set_cons_zero, List.set_cons_succ]
      refine midk_wp rfl (call_wp 47 [.tmp 41, .tmp 44] #[83, 5] #[.pointer (some ⟨b, 0, none⟩), .int .u8 (x.toNat : Int)] rfl rfl rfl ?_)
      refine (push_any (r := r) (w := wr.drew) HR.out hf x).mono ?_
      rintro e w2 ⟨he, h2, t2⟩
      rw [HY.out] at he
      subst he
      have hf2 := Rol.push_fit hf x
      refine ⟨_, rfl, ⟨r.push x, h2, hf2, rfl, rfl⟩, ?_⟩
      simp only [Act.put, List.setIfInBounds_toArray, List.set_cons_zero, List.set_cons_succ]
      refine midk_pure (.pointer (some ⟨b, 67 + y, none⟩)) rfl (fun _ => by go_simp; intro hq; omega) ⟨r.push x, h2, hf2, rfl, rfl⟩ ?_
      simp only [Act.put, List.setIfInBounds_toArray, List.set_cons_zero, List.set_cons_succ]
      refine midk_load 22 (.tmp 48) ⟨b, 67 + y, none⟩ (.int .u64 (g1 : Nat)) rfl rfl rfl (load_at Try.underlying22 Try.isAgg22 (by rw [HG.out]; exact h2.cell (Rol.tab hf2 y hy))) ⟨r.push x, h2, hf2, rfl, rfl⟩ ?_
      simp only [Act.put, List.setIfInBounds_toArray, List.set_cons_zero, List.set_cons_succ]
      refine midk_pure (.int .u64 (f2 : Nat)) rfl (fun _ => by go_simp; rw [HX.out]) ⟨r.push x, h2, hf2, rfl, rfl⟩ ?_
      simp only [Act.put, List.setIfInBounds_toArray, List.set_cons_zero, List.set_cons_succ]
      refine midk_pure (.pointer (some ⟨b, 0, none⟩)) rfl (fun _ => rfl) ⟨r.push x, h2, hf2, rfl, rfl⟩ ?_
      simp only [Act.put, List.setIfInBounds_toArray, List.set_cons_zero, List.set_cons_succ]
      refine midk_pure (.pointer (some ⟨b, 323, none⟩)) rfl (fun _ => by go_simp) ⟨r.push x, h2, hf2, rfl, rfl⟩ ?_
      simp only [Act.put, List.setIfInBounds_toArray, List.set_cons_zero, List.set_cons_succ]
      refine stage_next (fun _ => True) trivial ?_
      simp only [wpPhasesK, pick, List.filterMap_cons, List.filterMap_nil, List.getElem?_toArray, List.getElem?_cons_zero, List.getElem?_cons_succ]
      refine take_done ?_
      have h3 := h2.set 323 (.int .u64 (f2 : Nat)) (Rol.set_f hf2 f2)
      refine midk_put 22 (.tmp 52) (.tmp 50) _ _ rfl rfl rfl rfl (store_num Try.sizeOf22 (h2.cell (Rol.c323 hf2)) (h2.free _)) trivial ?_
      simp only [Act.put]
      refine stage_end ?_
      have hr2 := h3
      rw [← Hstep.out] at hr2
      have ht2 := (HT.out.drew.trans t2 (fun _ _ e => e)).set b 323 (.int .u64 (f2 : Nat)) (fun _ => rfl)
      have Hr2 := Lib.hid hr2; clear hr2
      have Ht2 := Lib.hid ht2; clear ht2
      clear h3 t2 h2
      go_wp2_with fail
      go_roundw
      case rel => exact ⟨k + 1, by omega, by go_num, by rw [Hst.out]; exact Hr2.out, Ht2.out⟩
      case measure => simp [intOf]; omega
    · obtain rfl : k = s2.size := by omega
      rw [List.take_of_length_le (by rw [Hll.out]; omega), ← HrE.out] at h
      have hge : decide ((s2.size : Int) < (s2.size : Int)) = false := decide_eq_false (by omega)
      have c := h.cell (Rol.c323 (by rw [HrE.out]; exact (Rol.steps_fit HK.out.fit l).1))
      clear HK HW Hll Hl2 HR HrE
      go_wp2_with fail
      go_ret2
      exact ⟨rfl, h, ht⟩
end Go.Proofs.Ytofiimkpbbiegaa
