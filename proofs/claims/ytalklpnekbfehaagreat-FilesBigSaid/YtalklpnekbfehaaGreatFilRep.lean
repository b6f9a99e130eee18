/-
  replay: the log's changes are applied, or the log is reset; readArea, where no area is named.
-/
import Derived.Test.YtalklpnekbfehaaGreatFilGrA
import Derived.Test.YtalklpnekbfehaaGreatFilCom
set_option linter.unusedVariables false
set_option maxRecDepth 100000
namespace Go.Proofs.YtalklpnekbfehaaGreat
open Go.RowKit
namespace Fil
theorem rchg_good {l : List ByteArray} {x : Chb} (h : rchg l = some x) : x.bad = false := by
  unfold rchg at h
  split at h
  · cases h
  split at h
  · cases h
  simp only at h
  split at h
  · rename_i hc
    cases h
    exact hc.2
  · cases h
theorem rgN_good {l : List ByteArray} : ∀ {k : Nat} {ys : List Chb}, rgN l k = some ys → ∀ x ∈ ys, x.bad = false
  | 0, ys, h => by cases h; intro x hx; simp at hx
  | k + 1, ys, h => by
    rw [rgN] at h
    cases e : rgN l k with
    | none => rw [e] at h; cases h
    | some zs =>
      rw [e] at h
      simp only [Option.bind_some] at h
      cases e2 : rchg (two l k) with
      | none => rw [e2] at h; cases h
      | some x =>
        rw [e2] at h
        cases h
        intro y hy
        rcases List.mem_append.1 hy with hy | hy
        · exact rgN_good e y hy
        · simp at hy; subst hy; exact rchg_good e2
theorem rgsN_good {L : List (List ByteArray)} : ∀ {k : Nat} {xs : List Chb}, rgsN L k = some xs → ∀ x ∈ xs, x.bad = false
  | 0, xs, h => by cases h; intro x hx; simp at hx
  | k + 1, xs, h => by
    rw [rgsN] at h
    cases e : rgsN L k with
    | none => rw [e] at h; cases h
    | some zs =>
      rw [e] at h
      simp only [Option.bind_some] at h
      cases e2 : rgrp (L.getD k []) with
      | none => rw [e2] at h; cases h
      | some ys =>
        rw [e2] at h
        cases h
        intro y hy
        rcases List.mem_append.1 hy with hy | hy
        · exact rgsN_good e y hy
        · exact rgN_good e2 y hy
/-- the log's changes, or a reset -/
def replay (d : Dsk.St) (s : Wal.St) (q : Nat) (r : Row) : Dsk.St × Wal.St × Row × Int :=
  match rgs (s.L.map bas) with
  | none => (d, s, r, 50)
  | some xs => if q ≤ s.gen then (d, s, puts r (chs xs), 0)
    else if s.gen + 1 = q then ((Wal.reset d s).1, (Wal.reset d s).2.1, r, (Wal.reset d s).2.2)
    else (d, s, r, 50)
end Fil
theorem bad_ok {x : Chb} (h : x.bad = false) : x.Ok := by
  have hm := x.bad_may.1 h
  have h1 := hm.hi
  have h2 := hm.data
  have e1 : x.n.data.toList.length = x.n.size := ba_len x.n
  have e2 : x.d.data.toList.length = x.d.size := ba_len x.d
  refine ⟨?_, ?_⟩
  · have : x.c.name = x.n.data.toList := rfl
    rw [this] at h1; omega
  · have : x.c.data = x.d.data.toList := rfl
    rw [this] at h2; omega

section
variable {w : World} {T S0 R0 : Nat → Prop} {kept : List (Nat × Obj)} {S R : Nat → Prop} {p q pw bm : Nat} {d : Dsk.St} {s : Wal.St} {t : Fil.St} {W W' : World}
theorem Apn.turnNew2 {b : Nat} (h : Apn w S0 R0 kept S R p q d s W) (ht : Turns (fun j => j = b) W W') (hb : w.heap.size ≤ b) (hS : ¬ S b) (hR : ¬ R b) (hk : ∀ y ∈ kept, y.1 ≠ b) (hw : b < W.heap.size) : Apn w S0 R0 kept S R p q d s W' := by
  have hsz := ht.size
  obtain ⟨o, ho⟩ : ∃ o, W'.heap[b]? = some o := ⟨W'.heap[b]'(by omega), Array.getElem?_eq_getElem (by omega)⟩
  exact (h.turnNew ht hb hS hR hk ho).sub (fun x hx => List.mem_cons_of_mem _ hx)

set_option maxHeartbeats 1000000 in
theorem replay_any {m : Nat} (h : Apn w T T ((p, objF (fcells t q pw bm)) :: kept) S R pw q d s W) (hs : s.Ok m) (hq : t.q < 18446744073709551616) (hops : d.ops ≤ 999000000) (hsl : ∀ l ∈ s.L, Slim l)
    {nn : Nat} (hmp : ContAt bm nn t.r W) (hnn : nn ≤ 1000000000) (hbm : ¬ S bm ∧ ¬ R bm ∧ bm ≠ p ∧ w.heap.size ≤ bm) (hk : ∀ y ∈ kept, y.1 ≠ bm) :
    Calls Tryz.prog 49 #[.pointer (some ⟨p, 0, none⟩)] W fun e W' => e = .returned (.int .i64 (Fil.replay d s t.q t.r).2.2.2) ∧ ∃ S' R', Apn w T T ((p, objF (fcells t q pw bm)) :: kept) S' R' pw q (Fil.replay d s t.q t.r).1 (Fil.replay d s t.q t.r).2.1 W' ∧ (∃ nn', nn' ≤ nn + 20000000000 ∧ ContAt bm nn' (Fil.replay d s t.q t.r).2.2.1 W') ∧ ¬ S' bm ∧ ¬ R' bm := by
  have hrp := h.row (b := p) (o := objF (fcells t q pw bm)) (by simp)
  have c10 : W.cell? ⟨p, 10, none⟩ = some (.pointer (some ⟨pw, 0, none⟩)) := by rw [cell_of_row _ _ 10 _ _ _ hrp]; rfl
  have hL : s.L.length ≤ 16384 := by have := hs.len; have := hs.used; have := hs.hi; have := hs.m; omega
  have hgr := groups_any h.wal (by omega) hsl
  obtain ⟨F, hF⟩ : ∃ F, F = Fil.replay d s t.q t.r := ⟨_, rfl⟩
  rw [← hF]
  obtain ⟨dF, sF, rF, EF⟩ := F
  simp only
  have hgen := hs.gen
  have HF := Lib.hid hF; clear hF
  have H := Lib.hid h; clear h
  have Hgr := Lib.hid hgr; clear hgr
  have Hmp := Lib.hid hmp; clear hmp
  have Hs := Lib.hid hs; clear hs
  have Hsl := Lib.hid hsl; clear hsl
  have Hk := Lib.hid hk; clear hk
  have Hbm := Lib.hid hbm; clear hbm
  clear hrp
  go_enter Tryz.func49, Tryz.ntmps49
  go_wp2_with fail
  refine Hgr.out.mono ?_; rintro e W1 ⟨hb1, v, rfl, hgv⟩
  have hrg := fgroups_any v s.L _ W1 hgv hL (fun g hg => by have := (Hsl.out g hg).1; omega)
  have h1 := H.out.new hb1
  have Hrg := Lib.hid hrg; clear hrg
  have H1 := Lib.hid h1; clear h1
  have Hb1 := Lib.hid hb1; clear hb1
  clear hgv c10
  go_wp2_with fail
  refine Hrg.out.mono ?_; rintro e W2 ⟨hb2, hc⟩
  have h2 := H1.out.new hb2
  have hrp2 := h2.row (b := p) (o := objF (fcells t q pw bm)) (by simp)
  have c10 : W2.cell? ⟨p, 10, none⟩ = some (.pointer (some ⟨pw, 0, none⟩)) := by rw [cell_of_row _ _ 10 _ _ _ hrp2]; rfl
  have c11 : W2.cell? ⟨p, 11, none⟩ = some (.map (some bm)) := by rw [cell_of_row _ _ 11 _ _ _ hrp2]; rfl
  have c2 : W2.cell? ⟨p, 2, none⟩ = some (.int .u64 (t.q : Int)) := by rw [cell_of_row _ _ 2 _ _ _ hrp2]; rfl
  have hgn := gen_any h2.wal
  have hm2 := (Hmp.out.new Hb1.out).new hb2
  have hFF := HF.out
  unfold Fil.replay at hFF
  generalize hrs : Fil.rgs (s.L.map bas) = o at hc hFF
  have H2 := Lib.hid h2; clear h2
  have Hgn := Lib.hid hgn; clear hgn
  have Hm2 := Lib.hid hm2; clear hm2
  cases o with
  | none =>
    simp only at hc hFF
    subst hc
    obtain ⟨rfl, rfl, rfl, rfl⟩ : dF = d ∧ sF = s ∧ rF = t.r ∧ EF = 50 := by simpa using hFF
    clear hrp2 hb2 hrs hFF HF
    go_wp2_with fail
    refine Hgn.out.mono ?_; rintro e w1 ⟨rfl, rfl⟩
    go_wp2_with fail
    go_ret
    exact ⟨rfl, S, R, H2.out, ⟨nn, by omega, Hm2.out⟩, Hbm.out.1, Hbm.out.2.1⟩
  | some xs =>
    obtain ⟨vv, rfl, hco⟩ := hc
    simp only at hFF
    obtain ⟨ca, ccap, rfl, hch, hlow⟩ := hco.chgs
    have hgood := Fil.rgsN_good (show Fil.rgsN (s.L.map bas) (s.L.map bas).length = some xs from hrs)
    have hxl := Fil.rgsN_len (M := 65535) (L := s.L.map bas) (fun z hz => by
      obtain ⟨z', hz', rfl⟩ := List.mem_map.1 hz
      rw [bas_length]; exact (Hsl.out z' hz').1) (Nat.le_refl _) (show Fil.rgsN (s.L.map bas) (s.L.map bas).length = some xs from hrs)
    have hxl2 : xs.length ≤ 20000000000 := by
      rw [List.length_map] at hxl
      have : s.L.length * (65535 + 1) ≤ 16384 * (65535 + 1) := Nat.mul_le_mul_right _ hL
      omega
    by_cases hqg : t.q ≤ s.gen
    · rw [if_pos hqg] at hFF
      obtain ⟨rfl, rfl, rfl, rfl⟩ : dF = d ∧ sF = s ∧ rF = Fil.puts t.r (chs xs) ∧ EF = 0 := by simpa using hFF
      have hd : decide ((t.q : Int) ≤ (sF.gen : Int)) = true := decide_eq_true (by omega)
      have hd' : decide (t.q ≤ sF.gen) = true := decide_eq_true hqg
      have hap := apply_any bm nn t.r W2 Hm2.out ca xs.length ccap xs hch (fun x hx => bad_ok (hgood x hx)) (by omega) (by omega)
      have Hap := Lib.hid hap; clear hap
      clear hrp2 hb2 hrs hFF HF hch hlow hgood hxl hco
      go_wp2_with fail
      refine Hgn.out.mono ?_; rintro e w1 ⟨rfl, rfl⟩
      go_wp2_with fail
      refine Hap.out.mono ?_; rintro e W3 ⟨rfl, ht3, hm3⟩
      have h3 := H2.out.turnNew2 ht3 Hbm.out.2.2.2 Hbm.out.1 Hbm.out.2.1 (fun y hy => by
        rcases List.mem_cons.1 hy with rfl | hy
        · exact fun e => Hbm.out.2.2.1 e.symm
        · exact Hk.out y hy) Hm2.out.lt
      have H3 := Lib.hid h3; clear h3
      have Hm3 := Lib.hid hm3; clear hm3 ht3
      go_wp2_with fail
      go_ret
      exact ⟨rfl, S, R, H3.out, ⟨nn + xs.length, by omega, Hm3.out⟩, Hbm.out.1, Hbm.out.2.1⟩
    · rw [if_neg hqg] at hFF
      have hd : decide ((t.q : Int) ≤ (s.gen : Int)) = false := decide_eq_false (by omega)
      have hd' : decide (t.q ≤ s.gen) = false := decide_eq_false hqg
      have hw1 : IntKind.u64.wrap ((t.q : Int) - 1) = (t.q : Int) - 1 := wrap_u64_in _ (by omega) (by omega)
      by_cases hg1 : s.gen + 1 = t.q
      · rw [if_pos hg1] at hFF
        have hd2 : decide ((s.gen : Int) = (t.q : Int) - 1) = true := decide_eq_true (by omega)
        have hd3 : ((s.gen : Int) == (t.q : Int) - 1) = true := beq_iff_eq.2 (by omega)
        have hrs2 := reset_any H2.out.disk H2.out.wal H2.out.apart Hs.out (by omega)
        have Hrs := Lib.hid hrs2; clear hrs2
        obtain ⟨f1, f2, f3, f4⟩ : dF = (Wal.reset d s).1 ∧ sF = (Wal.reset d s).2.1 ∧ rF = t.r ∧ EF = (Wal.reset d s).2.2 := by simpa using hFF
        rw [← f1, ← f2, ← f4] at Hrs
        clear hrp2 hb2 hrs hFF HF hch hlow hgood hxl hco f1 f2 f4
        subst f3
        go_wp2_with fail
        refine Hgn.out.mono ?_; rintro e w1 ⟨rfl, rfl⟩
        go_wp2_with fail
        refine Hrs.out.mono ?_; rintro e W3 ⟨rfl, S3, R3, k3⟩
        have h3 := H2.out.comp k3
        have hm3 := Hm2.out.turns k3.turns (fun e => e.elim Hbm.out.1 Hbm.out.2.1)
        have hlt := Hm2.out.lt
        have hbS : ¬ S3 bm := fun e => by
          rcases k3.loS _ e with e | e
          · exact Hbm.out.1 e
          · omega
        have hbR : ¬ R3 bm := fun e => by
          rcases k3.loR _ e with e | e
          · exact Hbm.out.2.1 e
          · omega
        have H3 := Lib.hid h3; clear h3 k3
        have Hm3 := Lib.hid hm3; clear hm3
        go_wp2_with fail
        go_ret
        exact ⟨rfl, S3, R3, H3.out, ⟨nn, by omega, Hm3.out⟩, hbS, hbR⟩
      · rw [if_neg hg1] at hFF
        have hd2 : decide ((s.gen : Int) = (t.q : Int) - 1) = false := decide_eq_false (by omega)
        have hd3 : ((s.gen : Int) == (t.q : Int) - 1) = false := beq_eq_false_iff_ne.2 (by omega)
        obtain ⟨rfl, rfl, rfl, rfl⟩ : dF = d ∧ sF = s ∧ rF = t.r ∧ EF = 50 := by simpa using hFF
        clear hrp2 hb2 hrs hFF HF hch hlow hgood hxl hco
        go_wp2_with fail
        refine Hgn.out.mono ?_; rintro e w1 ⟨rfl, rfl⟩
        go_wp2_with fail
        go_ret
        exact ⟨rfl, S, R, H2.out, ⟨nn, by omega, Hm2.out⟩, Hbm.out.1, Hbm.out.2.1⟩
end
end Go.Proofs.YtalklpnekbfehaaGreat
