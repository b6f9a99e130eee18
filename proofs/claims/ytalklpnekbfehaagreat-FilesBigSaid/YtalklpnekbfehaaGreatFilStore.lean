/-
  store: the changes go into the log, or all files into the other area.
-/
import Derived.Test.YtalklpnekbfehaaGreatFilRew
import Derived.Test.YtalklpnekbfehaaGreatFilTexts
set_option linter.unusedVariables false
set_option maxRecDepth 100000
namespace Go.Proofs.YtalklpnekbfehaaGreat
open Go.RowKit
namespace Fil
/-- how far steps come -/
def stop (ee : Nat → Int) : Nat → Nat → Nat
  | 0, k => k
  | n + 1, k => if ee k = 0 then stop ee n (k + 1) else k
theorem stop_spec (ee : Nat → Int) : ∀ (n k : Nat), (∀ j, j < k → ee j = 0) → stop ee n k ≤ k + n ∧ (∀ j, j < stop ee n k → ee j = 0) ∧ (stop ee n k < k + n → ee (stop ee n k) ≠ 0)
  | 0, k, h => ⟨Nat.le_refl _, h, fun e => by simp [stop] at e⟩
  | n + 1, k, h => by
    rw [stop]
    by_cases e : ee k = 0
    · rw [if_pos e]
      have := stop_spec ee n (k + 1) (fun j hj => by
        by_cases ej : j = k
        · subst ej; exact e
        · exact h j (by omega))
      rw [show k + 1 + n = k + (n + 1) by omega] at this
      exact this
    · rw [if_neg e]
      exact ⟨by omega, h, fun _ => e⟩
def at_ (ee : Nat → Int) (n : Nat) : Nat := if stop ee n 0 = n then n else stop ee n 0 + 1
def err (ee : Nat → Int) (n : Nat) : Int := if stop ee n 0 = n then 0 else ee (stop ee n 0)
/-- all files into the other area -/
def rewr (d : Dsk.St) (s : Wal.St) (t : St) (r : Row) : Dsk.St × Wal.St × St × Int :=
  (rwD d s (arAt t.n + (1 - t.a) * arN t.n) r (1 - t.a) (Wal.up s.gen) (at_ (rwE d s (arAt t.n + (1 - t.a) * arN t.n) r (1 - t.a) (Wal.up s.gen)) 6),
   rwS d s (arAt t.n + (1 - t.a) * arN t.n) r (1 - t.a) (Wal.up s.gen) (at_ (rwE d s (arAt t.n + (1 - t.a) * arN t.n) r (1 - t.a) (Wal.up s.gen)) 6),
   (if at_ (rwE d s (arAt t.n + (1 - t.a) * arN t.n) r (1 - t.a) (Wal.up s.gen)) 6 = 6 then { t with nm := true, a := 1 - t.a, q := Wal.up s.gen } else t),
   err (rwE d s (arAt t.n + (1 - t.a) * arN t.n) r (1 - t.a) (Wal.up s.gen)) 6)
def store (d : Dsk.St) (s : Wal.St) (t : St) (g : Wal.Grp) (r : Row) : Dsk.St × Wal.St × St × Int :=
  if (Wal.append d s g).2.2 = 4 ∨ (Wal.append d s g).2.2 = 5 then rewr (Wal.append d s g).1 (Wal.append d s g).2.1 t r
  else ((Wal.append d s g).1, (Wal.append d s g).2.1, t, (Wal.append d s g).2.2)
end Fil

theorem append_45 {d : Dsk.St} {s : Wal.St} {m : Nat} (h : s.Ok m) (g : Wal.Grp) (he : (Wal.append d s g).2.2 = 4 ∨ (Wal.append d s g).2.2 = 5) : (Wal.append d s g).1 = d ∧ (Wal.append d s g).2.1 = s := by
  have h1 := h.err
  unfold Wal.append at he ⊢
  split at he
  · rename_i hc
    simp only at he
    omega
  · rename_i hc
    rw [if_neg hc]
    split at he
    · rename_i hc2
      rw [if_pos hc2]
      exact ⟨rfl, rfl⟩
    · rename_i hc2
      rw [if_neg hc2]
      split at he
      · rename_i hc3
        rw [if_pos hc3]
        exact ⟨rfl, rfl⟩
      · have := Wal.steps_err (Wal.appendOps s (Oct.row g).1) d
        simp only at he
        omega

theorem Went.stop {n : Nat} {ee : Nat → Int} {I : Nat → World → Prop} {e : Ending} {W : World} (h : Went n ee I e W) : e = .returned (.int .i64 (Fil.err ee n)) ∧ I (Fil.at_ ee n) W := by
  obtain ⟨m, hm, hz, hc⟩ := h
  obtain ⟨h1, h2, h3⟩ := Fil.stop_spec ee n 0 (fun j hj => by omega)
  rw [Nat.zero_add] at h1 h3
  rcases hc with ⟨rfl, rfl, hI⟩ | ⟨hlt, hne, rfl, hI⟩
  · have e : Fil.stop ee m 0 = m := by
      by_cases e : Fil.stop ee m 0 = m
      · exact e
      · exact absurd (hz _ (by omega)) (h3 (by omega))
    unfold Fil.err Fil.at_
    rw [if_pos e, if_pos e]
    exact ⟨rfl, hI⟩
  · have e : Fil.stop ee n 0 = m := by
      rcases Nat.lt_trichotomy (Fil.stop ee n 0) m with h | h | h
      · exact absurd (hz _ h) (h3 (by omega))
      · exact h
      · exact absurd (h2 m h) hne
    unfold Fil.err Fil.at_
    rw [e, if_neg (by omega), if_neg (by omega)]
    exact ⟨rfl, hI⟩

theorem Own.strs2 {B : Nat} {v : Value} {l : List ByteArray} {w : World} (h : Own B v l w) : ∃ a cap, v = .slice a l.length cap ∧ Strs a l.length l w ∧ ∀ b off, a = some ⟨b, off, none⟩ → B ≤ b := by
  obtain ⟨_, h | ⟨g, cap, cur, hv, hg, hb, hn, hc, hs, ht⟩⟩ := h
  · obtain ⟨hv, h0⟩ := h
    exact ⟨none, 0, by rw [hv, h0], ⟨rfl, fun j hj => by omega⟩, fun b off e => by cases e⟩
  · refine ⟨some ⟨g, 0, none⟩, cap, hv, ⟨rfl, fun j hj => ⟨g, 0, rfl, ?_⟩⟩, fun b off e => by cases e; exact hg⟩
    rw [Lib.cell_of_heap hb]
    have e1 : (cur.toList.take (l.length * 1))[j]? = cur[0 + j]? := by
      rw [List.getElem?_take_of_lt (by omega), Nat.zero_add]; simp
    rw [← e1, ht]
    simp [List.getD_eq_getElem?_getD, hj]

section
variable {w : World} {S0 R0 : Nat → Prop} {S R : Nat → Prop} {p q pw bm bn : Nat} {d : Dsk.St} {s : Wal.St} {t : Fil.St} {W : World}

theorem setM_fcells (t : Fil.St) (nm : Bool) (a g : Nat) : setM (fcells t q pw bm) nm a g = fcells { t with nm := nm, a := a, q := g } q pw bm := rfl

/-- rewrite, as one answer -/
theorem rewrite_is {m : Nat} (h : Apn w S0 R0 [(p, objF (fcells t q pw bm))] S R pw q d s W) (h0 : p < w.heap.size → S0 p ∨ R0 p) (hta : t.a < 2)
    {nn : Nat} {r : Fil.Row} (hmp : ContAt bn nn r W) (hs : Fil.Sorted r) (hfi : Fil.Fine r) (hsum : Fil.sum r ≤ 1099511627) (hn : t.n ≤ 16384) (hok : s.Ok m) (hops : d.ops ≤ 1000000000) :
    Calls Tryz.prog 61 #[.pointer (some ⟨p, 0, none⟩), .map (some bn)] W fun e W' => e = .returned (.int .i64 (Fil.rewr d s t r).2.2.2) ∧ ∃ S' R', Apn w S0 R0 [(p, objF (fcells (Fil.rewr d s t r).2.2.1 q pw bm))] S' R' pw q (Fil.rewr d s t r).1 (Fil.rewr d s t r).2.1 W' := by
  have hlog : Fil.logN t.n ≤ 2048 := by unfold Fil.logN; omega
  have har0 : Fil.arN t.n ≤ 16384 := by unfold Fil.arN; omega
  have hf : Fil.arAt t.n + (1 - t.a) * Fil.arN t.n ≤ 1099511627 := by
    have : (1 - t.a) * Fil.arN t.n ≤ 1 * Fil.arN t.n := Nat.mul_le_mul_right _ (by omega)
    unfold Fil.arAt; omega
  refine (rewrite_any (a0 := t.a) (a := 1 - t.a) (g := Wal.up s.gen) h h0 hta rfl rfl hmp hs hfi hsum (Fil.arAt t.n + (1 - t.a) * Fil.arN t.n) (Fil.arN t.n) hf ?_ rfl rfl rfl rfl rfl hok hops).mono ?_
  · intro j v hj
    have : t.a = 0 ∨ t.a = 1 := by omega
    match j, hj with
    | 0, hj => rcases this with e | e <;> (rw [e]; simp at hj; subst hj; rfl)
    | 1, hj => rcases this with e | e <;> (rw [e] at hj ⊢; simp at hj; subst hj; simp [fcells])
    | 2, hj => rcases this with e | e <;> (rw [e]; simp at hj; subst hj; rfl)
    | (j + 3), hj => simp at hj
  · intro e W' hw
    obtain ⟨h1, S', R', h2⟩ := hw.stop
    refine ⟨h1, S', R', ?_⟩
    have hc : rwC (fcells t q pw bm) true (1 - t.a) (Wal.up s.gen) (Fil.at_ (Fil.rwE d s (Fil.arAt t.n + (1 - t.a) * Fil.arN t.n) r (1 - t.a) (Wal.up s.gen)) 6) = fcells (Fil.rewr d s t r).2.2.1 q pw bm := by
      have hle : Fil.at_ (Fil.rwE d s (Fil.arAt t.n + (1 - t.a) * Fil.arN t.n) r (1 - t.a) (Wal.up s.gen)) 6 ≤ 6 := by
        have := (Fil.stop_spec (Fil.rwE d s (Fil.arAt t.n + (1 - t.a) * Fil.arN t.n) r (1 - t.a) (Wal.up s.gen)) 6 0 (fun j hj => by omega)).1
        unfold Fil.at_
        split <;> omega
      unfold Fil.rewr
      simp only
      generalize Fil.at_ (Fil.rwE d s (Fil.arAt t.n + (1 - t.a) * Fil.arN t.n) r (1 - t.a) (Wal.up s.gen)) 6 = k at *
      match k, hle with
      | 0, _ => rfl
      | 1, _ => rfl
      | 2, _ => rfl
      | 3, _ => rfl
      | 4, _ => rfl
      | 5, _ => rfl
      | 6, _ => rfl
      | (k + 7), h => exact absurd h (by omega)
    rw [hc] at h2
    exact h2

theorem gtexts_size {l : List Chb} (h : ∀ x ∈ l, x.Ok) (j : Nat) : ((gtexts l).getD j .empty).size ≤ 9223372036854700000 := by
  rw [List.getD_eq_getElem?_getD]
  cases e : (gtexts l)[j]? with
  | none => exact Nat.zero_le _
  | some x =>
    have hx := List.mem_of_getElem? e
    unfold gtexts at hx
    obtain ⟨c, hc, hx⟩ := List.mem_flatMap.1 hx
    have hok := h c hc
    have h1 := hok.n
    have h2 := hok.d
    simp only [gtext, List.mem_cons, List.not_mem_nil, or_false] at hx
    rcases hx with rfl | rfl
    · show (kindB c.g ++ c.n).size ≤ _
      rw [ByteArray.size_append]
      have : (kindB c.g).size = 1 := by unfold kindB; split <;> rfl
      omega
    · show c.d.size ≤ _
      omega

set_option maxHeartbeats 1000000 in
theorem store_any {m : Nat} (h : Apn w S0 R0 [(p, objF (fcells t q pw bm))] S R pw q d s W) (h0 : p < w.heap.size → S0 p ∨ R0 p) (hta : t.a < 2)
    {nn : Nat} {r : Fil.Row} (hmp : ContAt bn nn r W) (hbn : ¬ S bn ∧ ¬ R bn ∧ bn ≠ p) (hs : Fil.Sorted r) (hfi : Fil.Fine r) (hsum : Fil.sum r ≤ 1099511627) (hn : t.n ≤ 16384) (hok : s.Ok m) (hops : d.ops ≤ 999000000)
    (a : Option Addr) (len cap : Nat) (l : List Chb) (hl : Chgs a len l W) (hlo : ∀ x ∈ l, x.Ok) (hlen : len ≤ 1099511627) :
    Calls Tryz.prog 35 #[.pointer (some ⟨p, 0, none⟩), .slice a len cap, .map (some bn)] W fun e W' => e = .returned (.int .i64 (Fil.store d s t (lists (gtexts l)) r).2.2.2) ∧ ∃ S' R', Apn w S0 R0 [(p, objF (fcells (Fil.store d s t (lists (gtexts l)) r).2.2.1 q pw bm))] S' R' pw q (Fil.store d s t (lists (gtexts l)) r).1 (Fil.store d s t (lists (gtexts l)) r).2.1 W' := by
  have K1 : W.drew.heap[p]? = some (objF (fcells t q pw bm)) := h.row (by simp)
  have h1 := h.new ((Below.refl _ W).drew)
  have hg := groupTexts_any a len cap l W.drew (hl.keep ((Below.refl _ W).drew)) hlo (by omega)
  have hll := hl.1
  have H := Lib.hid h1; clear h1 h
  have Hg := Lib.hid hg; clear hg
  have Hmp := Lib.hid (hmp.new ((Below.refl _ W).drew)); clear hmp
  have Hlo := Lib.hid hlo; clear hlo
  have Hok := Lib.hid hok; clear hok
  clear hl
  obtain ⟨G, hG⟩ : ∃ G, G = lists (gtexts l) := ⟨_, rfl⟩
  rw [← hG]
  obtain ⟨F, hF⟩ : ∃ F, F = Fil.store d s t G r := ⟨_, rfl⟩
  rw [← hF]
  obtain ⟨dF, sF, tF, EF⟩ := F
  simp only
  have HF := Lib.hid hF; clear hF
  have hGl : (gtexts l).length = 2 * l.length := gtexts_length l
  go_enter Tryz.func35, Tryz.ntmps35
  go_wp2_with fail
  refine wp_region_phases [([0, 1, 2, 3, 4], [5, 6, 7])] (by kernel_rfl) (by kernel_rfl) (fun z => z.heap[p]? = some (objF (fcells t q pw bm))) K1 ?_
  simp only [wpPhases, pick, List.filterMap_cons, List.filterMap_nil, List.getElem?_toArray, List.getElem?_cons_zero, List.getElem?_cons_succ]
  refine take_move (.tmp 0) (.pointer (some ⟨p, 0, none⟩)) rfl rfl rfl ?_
  simp only [Act.put, List.setIfInBounds_toArray, List.set_cons_zero, List.set_cons_succ]
  refine take_nil (.tmp 8) ⟨p, 0, none⟩ rfl rfl rfl ?_
  simp only [Act.put, List.setIfInBounds_toArray, List.set_cons_zero, List.set_cons_succ]
  refine take_one (.pointer (some ⟨p, 10, none⟩)) rfl (fun u _ => by go_simp) ?_
  simp only [Act.put, List.setIfInBounds_toArray, List.set_cons_zero, List.set_cons_succ]
  refine take_load 72 (.tmp 10) ⟨p, 10, none⟩ (.pointer (some ⟨pw, 0, none⟩)) rfl rfl rfl (fun u hu => load_any Tryz.underlying72 Tryz.isAgg72 (by rw [cell_of_row u p 10 _ _ _ hu]; rfl)) ?_
  simp only [Act.put, List.setIfInBounds_toArray, List.set_cons_zero, List.set_cons_succ]
  refine take_move (.tmp 1) (.slice a len cap) rfl rfl rfl ?_
  simp only [Act.put, List.setIfInBounds_toArray, List.set_cons_zero, List.set_cons_succ]
  refine take_done ?_
  refine midk_wp rfl (call_wp 60 [.tmp 12] #[43] #[.slice a len cap] rfl rfl rfl ?_)
  refine Hg.out.mono ?_
  rintro e w1 ⟨v, rfl, hown, hb1⟩
  have h2 := H.out.new hb1
  obtain ⟨a', cap', rfl, hst, hlow⟩ := hown.strs2
  refine ⟨_, rfl, h2.row (by simp), ?_⟩
  simp only [Act.put, List.setIfInBounds_toArray, List.set_cons_zero, List.set_cons_succ]
  have hst' : Strs a' (gtexts l).length (bas G) w1 := by rw [hG, bas_lists]; exact hst
  have hap := append_any h2.disk h2.wal h2.apart Hok.out (by omega) a' (gtexts l).length cap' G hst' (fun b off _ e => by
    have hb := hlow b off e
    rintro (e1 | e1)
    · have := H.out.disk.lt b e1; omega
    · have := H.out.wal.lt b e1; omega) (by omega) (by
    intro j
    rw [hG, bas_lists]
    exact gtexts_size Hlo.out j)
  have h45 := append_45 (d := d) Hok.out G
  have hops2 := Wal.append_ops (d := d) Hok.out G
  have hfin : Fil.store d s t G r = if (Wal.append d s G).2.2 = 4 ∨ (Wal.append d s G).2.2 = 5 then Fil.rewr (Wal.append d s G).1 (Wal.append d s G).2.1 t r else ((Wal.append d s G).1, (Wal.append d s G).2.1, t, (Wal.append d s G).2.2) := rfl
  rw [← HF.out] at hfin
  generalize Wal.append d s G = x at *
  obtain ⟨d1, s1, E⟩ := x
  simp only at h45 hfin hops2
  refine midk_wp rfl (call_wp 59 [.tmp 11, .tmp 13] #[72, 29] #[.pointer (some ⟨pw, 0, none⟩), .slice a' (gtexts l).length cap'] rfl rfl rfl ?_)
  refine hap.mono ?_
  rintro e w2 ⟨rfl, S2, R2, h3⟩
  simp only at h3
  have h4 := h2.comp h3
  have hm4 : ContAt bn nn r w2 := (Hmp.out.new hb1).turns h3.turns (fun e => e.elim hbn.1 hbn.2.1)
  refine ⟨_, rfl, h4.row (by simp), ?_⟩
  simp only [Act.put, List.setIfInBounds_toArray, List.set_cons_zero, List.set_cons_succ]
  refine midk_one (.int .i64 E) rfl rfl (h4.row (by simp)) ?_
  simp only [Act.put, List.setIfInBounds_toArray, List.set_cons_zero, List.set_cons_succ]
  refine midk_end ?_
  have H4 := Lib.hid h4; clear h4 h3 hap h2
  have Hm4 := Lib.hid hm4; clear hm4
  have Hgl := Lib.hid hGl; clear hGl hll
  clear hst hst' hown hlow hb1 hG
  by_cases hE : E = 4 ∨ E = 5
  · have hs1 : s1.Ok m := by rw [(h45 hE).2]; exact Hok.out
    rw [if_pos hE] at hfin
    have hrw := rewrite_is H4.out h0 hta Hm4.out hs hfi hsum hn hs1 (by omega)
    rw [← hfin] at hrw
    simp only at hrw
    have Hrw := Lib.hid hrw; clear hrw hfin h45 hs1
    rcases hE with rfl | rfl
    · go_wp2_with fail
      refine Hrw.out.mono ?_
      rintro e w5 ⟨rfl, S5, R5, h5⟩
      have H5 := Lib.hid h5; clear h5
      go_wp2_with fail
      go_ret
      exact ⟨rfl, S5, R5, H5.out⟩
    · go_wp2_with fail
      refine Hrw.out.mono ?_
      rintro e w5 ⟨rfl, S5, R5, h5⟩
      have H5 := Lib.hid h5; clear h5
      go_wp2_with fail
      go_ret
      exact ⟨rfl, S5, R5, H5.out⟩
  · rw [if_neg hE] at hfin
    obtain ⟨rfl, rfl, rfl, rfl⟩ : dF = d1 ∧ sF = s1 ∧ tF = t ∧ EF = E := by simpa using hfin
    clear hfin
    have hE4 : decide (EF = 4) = false := decide_eq_false (fun e => hE (.inl e))
    have hE5 : decide (EF = 5) = false := decide_eq_false (fun e => hE (.inr e))
    have hE4' : (EF == 4) = false := beq_eq_false_iff_ne.2 (fun e => hE (.inl e))
    have hE5' : (EF == 5) = false := beq_eq_false_iff_ne.2 (fun e => hE (.inr e))
    clear h45
    go_wp2_with fail
    go_ret
    exact ⟨rfl, S2, R2, H4.out⟩
end
end Go.Proofs.YtalklpnekbfehaaGreat
