/-
  Commit: which files there are behind it, and what it answers.
-/
import Derived.Test.YtalklpnekbfehaaGreatFilCom0
set_option linter.unusedVariables false
set_option maxRecDepth 100000
namespace Go.Proofs.YtalklpnekbfehaaGreat
open Go.RowKit
namespace Fil
def grpOf (l : List Chb) : Wal.Grp := lists (gtexts l)
/-- the changes are made, all or none -/
def commit (d : Dsk.St) (s : Wal.St) (t : St) (l : List Chb) : Dsk.St × Wal.St × St × Int :=
  if t.err ≠ 0 then (d, s, t, t.err)
  else if l.any Chb.bad = true then (d, s, t, 2)
  else if arN t.n * 64 - 4 < used (puts t.r (chs l)) then (d, s, t, 4)
  else ((store d s t (grpOf l) (puts t.r (chs l))).1, (store d s t (grpOf l) (puts t.r (chs l))).2.1,
    { (store d s t (grpOf l) (puts t.r (chs l))).2.2.1 with r := if (store d s t (grpOf l) (puts t.r (chs l))).2.2.2 = 0 then puts t.r (chs l) else t.r, err := (store d s t (grpOf l) (puts t.r (chs l))).2.2.2 },
    (store d s t (grpOf l) (puts t.r (chs l))).2.2.2)
theorem sum_ins (x : Txt × Txt) (r : Row) : sum (ins x r) = wt x + sum r := by
  induction r with
  | nil => rfl
  | cons y r ih =>
    unfold ins
    split
    · rfl
    · unfold sum at *
      rw [List.map_cons, List.sum_cons, ih, List.map_cons, List.sum_cons]; omega
theorem sum_del (r : Row) (n : Txt) : sum (del r n) ≤ sum r := by
  unfold del
  induction r with
  | nil => exact Nat.le_refl _
  | cons y r ih =>
    rw [List.filter_cons]
    unfold sum at *
    split
    · rw [List.map_cons, List.sum_cons, List.map_cons, List.sum_cons]; omega
    · rw [List.map_cons, List.sum_cons]; omega
theorem sum_put1 (r : Row) {c : Chg} (hc : c.May) : sum (put1 r c) ≤ sum r + 65600 := by
  have h := sum_del r c.name
  unfold put1
  split
  · omega
  · rw [sum_ins]
    have h1 := hc.hi
    have h2 := hc.data
    unfold wt
    simp only
    omega
theorem sum_puts : ∀ (l : List Chg) (r : Row), (∀ c ∈ l, c.May) → sum (puts r l) ≤ sum r + 65600 * l.length
  | [], r, _ => by simp [puts]
  | c :: l, r, h => by
    have h1 := sum_put1 r (h c (by simp))
    have h2 := sum_puts l (put1 r c) (fun x hx => h x (by simp [hx]))
    show sum (puts (put1 r c) l) ≤ _
    rw [List.length_cons]
    omega
end Fil
theorem may_all {l : List Chb} (h : l.any Chb.bad = false) : ∀ c ∈ chs l, c.May := by
  intro c hc
  unfold chs at hc
  obtain ⟨x, hx, rfl⟩ := List.mem_map.1 hc
  exact (x.bad_may).1 (by simpa using (List.any_eq_false.1 h) x hx)

/-- files, with their disk and log, in a world that came of w -/
structure Sys (w : World) (T : Nat → Prop) (N : Nat) (S R : Nat → Prop) (p q pw bm : Nat) (d : Dsk.St) (s : Wal.St) (t : Fil.St) (W : World) : Prop where
  a : Apn w T T [(p, objF (fcells t q pw bm))] S R pw q d s W
  mp : ∃ nn, nn ≤ N ∧ ContAt bm nn t.r W
  off : ¬ S bm ∧ ¬ R bm ∧ bm ≠ p
  pT : p < w.heap.size → T p
  srt : Fil.Sorted t.r
  fine : Fil.Fine t.r
  sum : Fil.sum t.r ≤ 1099511
section
variable {w : World} {T : Nat → Prop} {N : Nat} {kept : List (Nat × Obj)} {S R : Nat → Prop} {p q pw bm bn B C D : Nat} {d : Dsk.St} {s : Wal.St} {t : Fil.St} {W W' : World}
theorem Sys.row (h : Sys w T N S R p q pw bm d s t W) : FilRow p q pw bm t W :=
  ⟨h.a.row (o := objF (fcells t q pw bm)) (by simp), by obtain ⟨nn, _, h⟩ := h.mp; exact ⟨nn, h⟩, h.srt, h.fine, by have := h.sum; omega⟩
theorem Sys.new (h : Sys w T N S R p q pw bm d s t W) (hb : Below W.heap.size W W') : Sys w T N S R p q pw bm d s t W' :=
  ⟨h.a.new hb, by obtain ⟨nn, h1, h2⟩ := h.mp; exact ⟨nn, h1, h2.new hb⟩, h.off, h.pT, h.srt, h.fine, h.sum⟩
theorem Sys.more (h : Sys w T N S R p q pw bm d s t W) {N' : Nat} (hN : N ≤ N') : Sys w T N' S R p q pw bm d s t W :=
  ⟨h.a, by obtain ⟨nn, h1, h2⟩ := h.mp; exact ⟨nn, by omega, h2⟩, h.off, h.pT, h.srt, h.fine, h.sum⟩

theorem fcommit_nil (a : Option Addr) (len cap : Nat) : Calls Tryz.prog 10 #[.pointer none, .slice a len cap] W fun e w' => e = .returned (.int .i64 1) ∧ Below W.heap.size W w' := by
  go_enter Tryz.func10, Tryz.ntmps10
  go_wp2_with fail
  go_ret
  exact ⟨rfl, ((Below.refl _ _).alloc (Nat.le_refl _) _).alloc (by simp) _⟩

set_option maxHeartbeats 2000000 in
theorem fcommit_bm {m : Nat} (h : Sys w T N S R p q pw bm d s t W) (hs : s.Ok m) (hta : t.a < 2) (hn : t.n ≤ 16384) (hn8 : 8 ≤ t.n) (hN : N ≤ 1000000000000) (hops : d.ops ≤ 999000000)
    (a : Option Addr) (len cap : Nat) (l : List Chb) (hl : Chgs a len l W) (hlo : ∀ x ∈ l, x.Ok) (hlen : len ≤ 16384) (hap : ∀ b off, 0 < len → a = some ⟨b, off, none⟩ → ¬ S b ∧ ¬ R b ∧ b ≠ p) :
    Calls Tryz.prog 10 #[.pointer (some ⟨p, 0, none⟩), .slice a len cap] W fun e W' => e = .returned (.int .i64 (Fil.commit d s t l).2.2.2) ∧ ∃ S' R' bm', Sys w T (N + len) S' R' p q pw bm' (Fil.commit d s t l).1 (Fil.commit d s t l).2.1 (Fil.commit d s t l).2.2.1 W' ∧ (bm' = bm ∨ W.heap.size ≤ bm') := by
  obtain ⟨F, hF⟩ : ∃ F, F = Fil.commit d s t l := ⟨_, rfl⟩
  rw [← hF]
  obtain ⟨dF, sF, tF, EF⟩ := F
  simp only
  have hll := hl.1
  obtain ⟨B, hB⟩ : ∃ B, B = W.heap.size := ⟨_, rfl⟩
  have hrow := h.a.row (b := p) (o := objF (fcells t q pw bm)) (by simp)
  have hpB : p < B := by rw [hB]; exact row_lt hrow
  have hbA : Below W.heap.size W ((W.alloc (boxF p)).alloc (boxCh a len cap)) := ((Below.refl _ _).alloc (Nat.le_refl _) _).alloc (by simp) _
  have hSA := h.new hbA
  have hb1 := h.a.box (boxF p) B hB.symm
  have hb2 := hb1.box (boxCh a len cap) (B + 1) (by simp [hB])
  obtain ⟨WA, hWA⟩ : ∃ WA, WA = (W.alloc (boxF p)).alloc (boxCh a len cap) := ⟨_, rfl⟩
  rw [← hWA] at hbA hSA hb2
  have hsA : WA.heap.size = B + 2 := by rw [hWA, hB]; simp
  have c0 : WA.cell? ⟨B, 0, none⟩ = some (.pointer (some ⟨p, 0, none⟩)) := by rw [cell_of_row _ _ 0 _ _ _ (hb2.row (b := B) (o := boxF p) (by simp))]; rfl
  have c12 : WA.cell? ⟨p, 12, none⟩ = some (.int .i64 t.err) := by rw [cell_of_row _ _ 12 _ _ _ (hb2.row (b := p) (o := objF (fcells t q pw bm)) (by simp))]; rfl
  have hWAr : (W.alloc (.cells #[.pointer (some ⟨p, 0, none⟩)] 26)).alloc (.cells #[.slice a len cap] 43) = WA := hWA.symm
  by_cases he : t.err = 0
  · have cC : WA.cell? ⟨B + 1, 0, none⟩ = some (.slice a len cap) := by rw [cell_of_row _ _ 0 _ _ _ (hb2.row (b := B + 1) (o := boxCh a len cap) (by simp))]; rfl
    have hx : (t.err != 0) = false := by rw [he]; rfl
    rw [he] at c12
    obtain ⟨nn, hnn, hmp⟩ := h.mp
    obtain ⟨es, ck, hes⟩ := ownsMap_obj hmp
    have hesA : WA.heap[bm]? = some (.map es ck) := by rw [hbA.block _ (row_lt hes)]; exact hes
    have hA : Apn w T T [(p, objF (fcells t q pw bm)), (bm, .map es ck), (B + 1, boxCh a len cap), (B, boxF p)] S R pw q d s WA :=
      (hb2.add (bm, .map es ck) hesA h.off.1 h.off.2.1).sub (fun x hx => by simp at hx ⊢; rcases hx with rfl | rfl | rfl | rfl <;> simp)
    have hcf := containsFunc_any a len cap l WA (hl.keep hbA) (by omega)
    have hlW : ∀ u, Below W.heap.size W u → Chgs a len l u := fun u hu => hl.keep hu
    have hab : ∀ b off, 0 < len → a = some ⟨b, off, none⟩ → b < W.heap.size := fun b off h1 h2 => by
      obtain ⟨b', off', h3, h4⟩ := hl.2 0 h1
      rw [h2] at h3
      cases h3
      exact cell_lt h4.n
    have HA := Lib.hid hA; clear hA hb1 hb2
    have Hes := Lib.hid hes
    have HSA := Lib.hid hSA; clear hSA
    have HbA := Lib.hid hbA; clear hbA
    have Hcf := Lib.hid hcf; clear hcf
    have HlW := Lib.hid hlW; clear hlW
    have Hab := Lib.hid hab; clear hab
    have HF := Lib.hid hF; clear hF
    have Hmp := Lib.hid hmp; clear hmp
    have Hlo := Lib.hid hlo; clear hlo
    have Hs := Lib.hid hs; clear hs
    have HH := Lib.hid h; clear h
    have Hap := Lib.hid hap; clear hap
    have He := Lib.hid he; clear he
    rw [← hWAr] at c0 c12 cC
    have HWAr := Lib.hid hWAr; clear hWAr
    have HB := Lib.hid hB; clear hB
    clear hl hrow hes hesA
    go_enter Tryz.func10, Tryz.ntmps10
    go_wp2_with fail
    rw [HWAr.out, ← HB.out]
    refine Hcf.out.mono ?_; rintro e W2 ⟨rfl, hb2⟩
    have h2 := HA.out.new hb2
    have c0' : W2.cell? ⟨B, 0, none⟩ = some (.pointer (some ⟨p, 0, none⟩)) := by rw [cell_of_row _ _ 0 _ _ _ (h2.row (b := B) (o := boxF p) (by simp))]; rfl
    have c1' : W2.cell? ⟨B + 1, 0, none⟩ = some (.slice a len cap) := by rw [cell_of_row _ _ 0 _ _ _ (h2.row (b := B + 1) (o := boxCh a len cap) (by simp))]; rfl
    have c11 : W2.cell? ⟨p, 11, none⟩ = some (.map (some bm)) := by rw [cell_of_row _ _ 11 _ _ _ (h2.row (b := p) (o := objF (fcells t q pw bm)) (by simp))]; rfl
    have hes2 := h2.row (b := bm) (o := .map es ck) (by simp)
    have hcl := mapclone_file bm es ck W2 hes2
    clear c0 c12 cC
    by_cases hbad : l.any Chb.bad = true
    · have hFe : dF = d ∧ sF = s ∧ tF = t ∧ EF = 2 := by
        have hF := HF.out
        unfold Fil.commit at hF; rw [if_neg (by simpa using He.out), if_pos hbad] at hF; simpa using hF
      obtain ⟨rfl, rfl, rfl, rfl⟩ := hFe
      have hfin := (HSA.out.new hb2).more (show N ≤ N + len by omega)
      have Hfin := Lib.hid hfin; clear hfin
      rw [hbad]
      clear h2 hes2 hcl
      go_wp2_with fail
      go_ret
      exact ⟨rfl, S, R, bm, Hfin.out, .inl rfl⟩
    have hbad' : l.any Chb.bad = false := by simpa using hbad
    rw [hbad']
    have hb2W := HbA.out.trans (hb2.mono HbA.out.size)
    have hsz2 : B + 2 ≤ W2.heap.size := by have := hb2.size; omega
    obtain ⟨W4, hW4⟩ : ∃ W4, W4 = (W2.alloc (.map es ck)).alloc (boxC W2.heap.size) := ⟨_, rfl⟩
    have hb4 : Below W2.heap.size W2 W4 := by rw [hW4]; exact ((Below.refl _ _).alloc (Nat.le_refl _) _).alloc (by simp) _
    obtain ⟨bn, hbn⟩ : ∃ bn, bn = W2.heap.size := ⟨_, rfl⟩
    have hmn : W4.heap[bn]? = some (.map es ck) := by rw [hW4, hbn]; exact row_alloc (heap_alloc_new _ _) _
    have hDn : W4.heap[bn + 1]? = some (boxC bn) := by
      have := heap_alloc_new (W2.alloc (.map es ck)) (boxC W2.heap.size)
      rw [World.size_alloc] at this
      rw [hW4, hbn]; exact this
    have hmp4 : ContAt bn nn t.r W4 := owns_clone (Hmp.out.new hb2W) hes2 hmn
    have hw4 : (W2.alloc (.map es ck)).alloc (.cells #[.map (some bn)] 74) = W4 := by rw [hW4, hbn]; rfl
    have c14 : ((W2.alloc (.map es ck)).alloc (.cells #[.map (some bn)] 74)).cell? ⟨B + 1, 0, none⟩ = some (.slice a len cap) := by
      rw [hw4, World.cell?_of_block (hb4.block (B + 1) (by omega))]; exact c1'
    have H2 := Lib.hid h2; clear h2
    have Hcl := Lib.hid hcl; clear hcl
    have Hb2W := Lib.hid hb2W; clear hb2W
    have Hb4 := Lib.hid hb4; clear hb4
    have Hmn := Lib.hid hmn; clear hmn
    have HDn := Lib.hid hDn; clear hDn
    have Hmp4 := Lib.hid hmp4; clear hmp4
    have HW4 := Lib.hid hW4; clear hW4
    have Hw4 := Lib.hid hw4; clear hw4
    have Hbn := Lib.hid hbn; clear hbn
    have Hbad := Lib.hid hbad'; clear hbad' hbad hes2
    have Hb2 := Lib.hid hb2; clear hb2
    go_wp2_with fail
    refine Hcl.out.mono ?_; rintro e W3 ⟨rfl, rfl⟩
    rw [← Hbn.out]
    go_wp2_with fail
    rw [← Hbn.out, Hw4.out]
    rw [Hw4.out] at c14
    have hltS : ∀ j, S j → j < W2.heap.size := H2.out.disk.lt
    have hltR : ∀ j, R j → j < W2.heap.size := H2.out.wal.lt
    have hbnS : ¬ S bn := fun e => by have := hltS _ e; have := Hbn.out; omega
    have hbnR : ¬ R bn := fun e => by have := hltR _ e; have := Hbn.out; omega
    have hbns : bn = W2.heap.size := Hbn.out
    have hmlt : bm < bn := by rw [hbns]; exact row_lt (H2.out.row (b := bm) (o := .map es ck) (by simp))
    have h4 := ((H2.out.new Hb4.out).add (bn + 1, boxC bn) HDn.out (fun e => by have := hltS _ e; simp only at this; omega) (fun e => by have := hltR _ e; simp only at this; omega))
    have hl4 : Chgs a len l W4 := HlW.out _ (Hb2W.out.trans (Hb4.out.mono Hb2W.out.size))
    have hsW : W.heap.size ≤ bn := by have := HB.out; omega
    refine (apply_any bn nn t.r W4 Hmp4.out a len cap l hl4 Hlo.out (by omega) (by omega)).mono ?_
    rintro e W5 ⟨rfl, ht5, hm5⟩
    obtain ⟨es5, ck5, hes5⟩ := ownsMap_obj hm5
    have hwsz := HA.out.turns.size
    have h5 := h4.turnNew ht5 (by have := Hb2.out.size; omega) hbnS hbnR (fun y hy => by simp at hy; rcases hy with rfl | rfl | rfl | rfl | rfl <;> (simp only; omega)) hes5
    have hl5 : Chgs a len l W5 := hl4.turns ht5 (fun b off h1 h2 e => by have := Hab.out b off h1 h2; omega)
    have hb5 : Below WA.heap.size WA W5 := (Hb2.out.trans (Hb4.out.mono Hb2.out.size)).trans (ht5.below (by have := Hb2.out.size; have := Hb4.out.size; omega) (fun j hj e => by have := Hb2.out.size; omega))
    have hmay := may_all Hbad.out
    obtain ⟨r', hr'⟩ : ∃ r', r' = Fil.puts t.r (chs l) := ⟨_, rfl⟩
    have hsum' : Fil.sum r' ≤ 1099511627 := by
      have h1 := Fil.sum_puts (chs l) t.r hmay
      have h2 := HH.out.sum
      have h3 : (chs l).length = l.length := by simp [chs]
      rw [hr']; omega
    have hsrt' : Fil.Sorted r' := by rw [hr']; exact HH.out.srt.puts _
    have hfin' : Fil.Fine r' := by rw [hr']; exact HH.out.fine.puts hmay
    rw [← hr'] at hm5
    have H5 := Lib.hid h5; clear h5 h4
    have Hm5 := Lib.hid hm5; clear hm5
    have Hl5 := Lib.hid hl5; clear hl5 hl4
    have Hb5 := Lib.hid hb5; clear hb5
    have Hes5 := Lib.hid hes5; clear hes5
    have Hsum' := Lib.hid hsum'; clear hsum'
    have Hsrt' := Lib.hid hsrt'; clear hsrt'
    have Hfin' := Lib.hid hfin'; clear hfin'
    have Hr' := Lib.hid hr'; clear hr' hmay
    have HbnS := Lib.hid (And.intro hbnS (And.intro hbnR (And.intro hmlt hsW))); clear hbnS hbnR hmlt hsW hbns hwsz ht5 c14 c11 c0' c1' hltS hltR
    go_wp2_with fail
    have h6 := H5.out.new ((Below.refl _ W5).drew)
    have K6 : W5.drew.heap[B]? = some (boxF p) ∧ W5.drew.heap[B + 1]? = some (boxCh a len cap) ∧ W5.drew.heap[bn + 1]? = some (boxC bn) := ⟨h6.row (by simp), h6.row (by simp), h6.row (by simp)⟩
    refine wp_region_phases [([0, 2], [1, 3, 4])] (by kernel_rfl) (by kernel_rfl) (fun z => z.heap[B]? = some (boxF p) ∧ z.heap[B + 1]? = some (boxCh a len cap) ∧ z.heap[bn + 1]? = some (boxC bn)) K6 ?_
    simp only [wpPhases, pick, List.filterMap_cons, List.filterMap_nil, List.getElem?_toArray, List.getElem?_cons_zero, List.getElem?_cons_succ]
    refine take_load 74 (.tmp 5) ⟨bn + 1, 0, none⟩ (.map (some bn)) rfl rfl rfl (fun u hu => load_any Tryz.underlying74 Tryz.isAgg74 (by rw [cell_of_row u (bn + 1) 0 _ _ _ hu.2.2]; rfl)) ?_
    simp only [Act.put, List.setIfInBounds_toArray, List.set_cons_zero, List.set_cons_succ]
    refine take_load 26 (.tmp 2) ⟨B, 0, none⟩ (.pointer (some ⟨p, 0, none⟩)) rfl rfl rfl (fun u hu => load_any Tryz.underlying26 Tryz.isAgg26 (by rw [cell_of_row u B 0 _ _ _ hu.1]; rfl)) ?_
    simp only [Act.put, List.setIfInBounds_toArray, List.set_cons_zero, List.set_cons_succ]
    refine take_done ?_
    refine midk_wp rfl (call_wp 32 [.tmp 30] #[74] #[.map (some bn)] rfl rfl rfl ?_)
    refine (size_any bn (nn + len) r' W5.drew (Hm5.out.new ((Below.refl _ W5).drew)) Hsrt'.out (by have := Hsum'.out; omega)).mono ?_
    rintro e W6 ⟨rfl, hb6⟩
    have h7 := h6.new hb6
    refine ⟨_, rfl, ⟨h7.row (by simp), h7.row (by simp), h7.row (by simp)⟩, ?_⟩
    simp only [Act.put, List.setIfInBounds_toArray, List.set_cons_zero, List.set_cons_succ]
    have hfr : FilRow p q pw bm t W6 := ⟨h7.row (b := p) (o := objF (fcells t q pw bm)) (by simp), ⟨nn, owns_clone Hmp.out Hes.out (h7.row (b := bm) (o := .map es ck) (by simp))⟩, HH.out.srt, HH.out.fine, by have := HH.out.sum; omega⟩
    have harn : Fil.arN t.n ≤ 16384 := by unfold Fil.arN; omega
    refine midk_wp rfl (call_wp 13 [.tmp 32] #[26] #[.pointer (some ⟨p, 0, none⟩)] rfl rfl rfl ?_)
    refine (froom_any hfr harn).mono ?_
    rintro e W7 ⟨rfl, hb7⟩
    have h8 := h7.new hb7
    refine ⟨_, rfl, ⟨h8.row (by simp), h8.row (by simp), h8.row (by simp)⟩, ?_⟩
    simp only [Act.put, List.setIfInBounds_toArray, List.set_cons_zero, List.set_cons_succ]
    have har1 : 4 ≤ Fil.arN t.n * 64 := by
      have : 1 ≤ Fil.arN t.n := by unfold Fil.arN Fil.arAt Fil.logN; omega
      omega
    refine midk_one (.bool (decide (Fil.arN t.n * 64 - 4 < Fil.used r'))) rfl (by
      have e : (decide (((Fil.arN t.n : Int) * 64 - 4) < ((Fil.used r' : Nat) : Int))) = decide (Fil.arN t.n * 64 - 4 < Fil.used r') := decide_eq_decide.2 (by omega)
      rw [← e]
      go_simp) ⟨h8.row (by simp), h8.row (by simp), h8.row (by simp)⟩ ?_
    simp only [Act.put, List.setIfInBounds_toArray, List.set_cons_zero, List.set_cons_succ]
    refine midk_end ?_
    have hb7A : Below WA.heap.size WA W7 := by
      have s5 := Hb5.out.size
      have h6' := (Hb5.out.trans (((Below.refl _ W5).drew).mono s5))
      have h7' := h6'.trans (hb6.mono h6'.size)
      exact h7'.trans (hb7.mono h7'.size)
    by_cases hfull : Fil.arN t.n * 64 - 4 < Fil.used r'
    · have hFe : dF = d ∧ sF = s ∧ tF = t ∧ EF = 4 := by
        have hF := HF.out
        unfold Fil.commit at hF
        rw [if_neg (by simpa using He.out), if_neg (by rw [Hbad.out]; simp), ← Hr'.out, if_pos hfull] at hF
        simpa using hF
      obtain ⟨rfl, rfl, rfl, rfl⟩ := hFe
      have hfin := (HSA.out.new hb7A).more (show N ≤ N + len by omega)
      have Hfin := Lib.hid hfin; clear hfin
      rw [decide_eq_true hfull]
      clear h8 h7 h6 hfr hb7 hb6 hb7A K6 hfull
      go_wp2_with fail
      go_ret
      exact ⟨rfl, S, R, bm, Hfin.out, .inl rfl⟩
    rw [decide_eq_false hfull]
    have hFc : dF = (Fil.store d s t (Fil.grpOf l) r').1 ∧ sF = (Fil.store d s t (Fil.grpOf l) r').2.1 ∧ tF = { (Fil.store d s t (Fil.grpOf l) r').2.2.1 with r := if (Fil.store d s t (Fil.grpOf l) r').2.2.2 = 0 then r' else t.r, err := (Fil.store d s t (Fil.grpOf l) r').2.2.2 } ∧ EF = (Fil.store d s t (Fil.grpOf l) r').2.2.2 := by
      have hF := HF.out
      unfold Fil.commit at hF
      rw [if_neg (by simpa using He.out), if_neg (by rw [Hbad.out]; simp), ← Hr'.out, if_neg hfull] at hF
      simpa using hF
    obtain ⟨W9, hW9⟩ : ∃ W9, W9 = W7.drew := ⟨_, rfl⟩
    have hb9 : Below W5.heap.size W5 W9 := by
      have a1 := ((Below.refl W5.heap.size W5).drew)
      have a2 := a1.trans (hb6.mono a1.size)
      have a3 := a2.trans (hb7.mono a2.size)
      rw [hW9]; exact a3.drew
    have h9 : Apn w T T [(p, objF (fcells t q pw bm)), (bn, .map es5 ck5), (bn + 1, boxC bn), (bm, .map es ck), (B + 1, boxCh a len cap), (B, boxF p)] S R pw q d s W9 :=
      (H5.out.new hb9).sub (fun x hx => by simp at hx ⊢; rcases hx with rfl | rfl | rfl | rfl | rfl | rfl <;> simp)
    have hm9 := Hm5.out.new hb9
    have hl9 := Hl5.out.keep hb9
    have K8 : W9.heap[B]? = some (boxF p) ∧ W9.heap[B + 1]? = some (boxCh a len cap) ∧ W9.heap[bn + 1]? = some (boxC bn) := ⟨h9.row (by simp), h9.row (by simp), h9.row (by simp)⟩
    have hp9 : p < W9.heap.size := row_lt (h9.row (b := p) (o := objF (fcells t q pw bm)) (by simp))
    have hbn9 : bn < W9.heap.size := row_lt (h9.row (b := bn) (o := .map es5 ck5) (by simp))
    obtain ⟨g1, g2, g3, g4⟩ := HbnS.out
    have h10 := (h9.box (comObj B (B + 1) (bn + 1)) W9.heap.size rfl).sub (kept' := (p, objF (fcells t q pw bm)) :: [(W9.heap.size, comObj B (B + 1) (bn + 1)), (bn, .map es5 ck5), (bn + 1, boxC bn), (bm, .map es ck), (B + 1, boxCh a len cap), (B, boxF p)]) (fun x hx => by simp at hx ⊢; rcases hx with rfl | rfl | rfl | rfl | rfl | rfl | rfl <;> simp)
    have hkk : ∀ y ∈ [(W9.heap.size, comObj B (B + 1) (bn + 1)), (bn, .map es5 ck5), (bn + 1, boxC bn), (bm, .map es ck), (B + 1, boxCh a len cap), (B, boxF p)], y.1 ≠ p := fun y hy => by
      have := HH.out.off.2.2
      have := HB.out
      simp at hy
      rcases hy with rfl | rfl | rfl | rfl | rfl | rfl <;> (simp only; omega)
    have hfo := com_follow (B := B) (C := B + 1) (D := bn + 1) (fb := W9.heap.size) (bn := bn) h10 hkk HH.out.pT hta a len cap l (hl9.keep ((Below.refl _ W9).alloc (Nat.le_refl _) _)) Hlo.out (by omega) (by simp) (by simp) (by simp) (by simp)
      (hm9.new ((Below.refl _ W9).alloc (Nat.le_refl _) _)) ⟨g1, g2, by have := HB.out; omega⟩ Hsrt'.out Hfin'.out Hsum'.out hn Hs.out hops
    have hused : Fil.sum r' ≤ 1099511 := by
      have : Fil.used r' ≤ 16384 * 64 := by omega
      unfold Fil.used at this; omega
    have Hused := Lib.hid hused; clear hused
    have Hfo := Lib.hid hfo; clear hfo
    have Hkk := Lib.hid hkk; clear hkk
    have K9 := Lib.hid K8; clear K8
    have HW9 := Lib.hid hW9; clear hW9
    have HFc := Lib.hid hFc; clear hFc
    clear h10 h9 h8 h7 h6 hfr hb7 hb6 hb7A K6 hfull hm9 hl9 hb9 hp9 hbn9 g1 g2 g3 g4 HF HSA Hcf H2 Hcl Hb4 Hmn HDn Hmp4 HW4 Hw4 H5 Hb5
    go_wp2_with fail
    refine wp_region_phases [([0, 1, 2], [3, 4, 5, 6, 7])] (by kernel_rfl) (by kernel_rfl) (fun z => z.heap[B]? = some (boxF p) ∧ z.heap[B + 1]? = some (boxCh a len cap) ∧ z.heap[bn + 1]? = some (boxC bn)) (by rw [← HW9.out]; exact K9.out) ?_
    simp only [wpPhases, pick, List.filterMap_cons, List.filterMap_nil, List.getElem?_toArray, List.getElem?_cons_zero, List.getElem?_cons_succ]
    refine take_load 26 (.tmp 2) ⟨B, 0, none⟩ (.pointer (some ⟨p, 0, none⟩)) rfl rfl rfl (fun u hu => load_any Tryz.underlying26 Tryz.isAgg26 (by rw [cell_of_row u B 0 _ _ _ hu.1]; rfl)) ?_
    simp only [Act.put, List.setIfInBounds_toArray, List.set_cons_zero, List.set_cons_succ]
    refine take_one (fnv (34, #[.pointer (some ⟨B, 0, none⟩), .pointer (some ⟨B + 1, 0, none⟩), .pointer (some ⟨bn + 1, 0, none⟩)])) rfl (fun u _ => by simp only [fnv]; go_simp) ?_
    simp only [Act.put, List.setIfInBounds_toArray, List.set_cons_zero, List.set_cons_succ]
    refine take_one (fnv (36, #[.pointer (some ⟨bn + 1, 0, none⟩), .pointer (some ⟨B, 0, none⟩)])) rfl (fun u _ => by simp only [fnv]; go_simp) ?_
    simp only [Act.put, List.setIfInBounds_toArray, List.set_cons_zero, List.set_cons_succ]
    refine take_done ?_
    rw [← HW9.out]
    refine midk_one (w' := W9.alloc (comObj B (B + 1) (bn + 1))) (.slice (some ⟨W9.heap.size, 0, none⟩) 2 2) rfl (run_slice_op 111 2 [(0, .tmp 36), (1, .tmp 37)] rfl (slice_fn2 _ _ W9)) ⟨row_alloc K9.out.1 _, row_alloc K9.out.2.1 _, row_alloc K9.out.2.2 _⟩ ?_
    simp only [Act.put, List.setIfInBounds_toArray, List.set_cons_zero, List.set_cons_succ]
    refine midk_wp rfl (call_wp 33 [.tmp 38] #[111] #[.slice (some ⟨W9.heap.size, 0, none⟩) 2 2] rfl rfl rfl ?_)
    refine Hfo.out.mono ?_
    rintro e w5 ⟨rfl, S5, R5, h11⟩
    obtain ⟨f1, f2, f3, f4⟩ := HFc.out
    have h11' : Apn w T T ((p, objF (fcells (Fil.store d s t (Fil.grpOf l) r').2.2.1 q pw (if EF = 0 then bn else bm))) :: [(W9.heap.size, comObj B (B + 1) (bn + 1)), (bn, .map es5 ck5), (bn + 1, boxC bn), (bm, .map es ck), (B + 1, boxCh a len cap), (B, boxF p)]) S5 R5 pw q dF sF w5 := by
      rw [f1, f2, f4]; exact h11
    have hE : (Fil.store d s t (lists (gtexts l)) r').2.2.2 = EF := f4.symm
    rw [hE]
    obtain ⟨hst, h12⟩ := com_fault h11' Hkk.out HH.out.pT EF
    refine ⟨_, rfl, ⟨h11'.row (by simp), h11'.row (by simp), h11'.row (by simp)⟩, ?_⟩
    simp only [Act.put, List.setIfInBounds_toArray, List.set_cons_zero, List.set_cons_succ]
    refine midk_one (.pointer (some ⟨p, 0, none⟩)) rfl rfl ⟨h11'.row (by simp), h11'.row (by simp), h11'.row (by simp)⟩ ?_
    simp only [Act.put, List.setIfInBounds_toArray, List.set_cons_zero, List.set_cons_succ]
    refine midk_one (.pointer (some ⟨p, 12, none⟩)) rfl (by go_simp) ⟨h11'.row (by simp), h11'.row (by simp), h11'.row (by simp)⟩ ?_
    simp only [Act.put, List.setIfInBounds_toArray, List.set_cons_zero, List.set_cons_succ]
    refine midk_store 27 (.tmp 41) (.tmp 39) _ _ rfl rfl rfl rfl hst ⟨h12.row (by simp), h12.row (by simp), h12.row (by simp)⟩ ?_
    simp only [Act.put]
    refine midk_end ?_
    obtain ⟨WF, hWF⟩ : ∃ WF, WF = w5.setCell ⟨p, 12, none⟩ (.int .i64 EF) := ⟨_, rfl⟩
    rw [← hWF] at h12 ⊢
    have cB : WF.cell? ⟨B, 0, none⟩ = some (.pointer (some ⟨p, 0, none⟩)) := by rw [cell_of_row _ _ 0 _ _ _ (h12.row (b := B) (o := boxF p) (by simp))]; rfl
    have c12 : WF.cell? ⟨p, 12, none⟩ = some (.int .i64 EF) := by
      have hr := h12.row (b := p) (o := objF (fcells { (Fil.store d s t (Fil.grpOf l) r').2.2.1 with err := EF } q pw (if EF = 0 then bn else bm))) List.mem_cons_self
      rw [cell_of_row _ _ 12 _ _ _ hr]; rfl
    have hfin : Sys w T (N + len) S5 R5 p q pw (if EF = 0 then bn else bm) dF sF tF WF := by
      have x1 := h12.rows (bn, .map es5 ck5) (by simp)
      have x2 := h12.rows (bm, .map es ck) (by simp)
      have hcells : fcells { (Fil.store d s t (Fil.grpOf l) r').2.2.1 with err := EF } q pw (if EF = 0 then bn else bm) = fcells tF q pw (if EF = 0 then bn else bm) := by rw [f3, ← f4]; rfl
      rw [hcells] at h12
      refine ⟨h12.sub (fun x hx => by simp at hx ⊢; exact .inl hx), ?_, ?_, HH.out.pT, ?_, ?_, ?_⟩
      · by_cases h0 : EF = 0
        · rw [if_pos h0]
          refine ⟨nn + len, by omega, ?_⟩
          rw [f3, ← f4]
          simp only [if_pos h0]
          exact owns_clone Hm5.out Hes5.out x1.1
        · rw [if_neg h0]
          refine ⟨nn, by omega, ?_⟩
          rw [f3, ← f4]
          simp only [if_neg h0]
          exact owns_clone Hmp.out Hes.out x2.1
      · obtain ⟨g1, g2, g3, g4⟩ := HbnS.out
        have := HB.out
        by_cases h0 : EF = 0
        · rw [if_pos h0]; exact ⟨x1.2.1, x1.2.2, by omega⟩
        · rw [if_neg h0]; exact ⟨x2.2.1, x2.2.2, HH.out.off.2.2⟩
      · rw [f3, ← f4]
        by_cases h0 : EF = 0
        · simp only [if_pos h0]; exact Hsrt'.out
        · simp only [if_neg h0]; exact HH.out.srt
      · rw [f3, ← f4]
        by_cases h0 : EF = 0
        · simp only [if_pos h0]; exact Hfin'.out
        · simp only [if_neg h0]; exact HH.out.fine
      · rw [f3, ← f4]
        by_cases h0 : EF = 0
        · simp only [if_pos h0]; exact Hused.out
        · simp only [if_neg h0]; exact HH.out.sum
    have Hfin := Lib.hid hfin; clear hfin
    clear h11 h11' h12 hst hE f1 f2 f3 f4 hWF
    go_wp2_with fail
    go_ret
    exact ⟨rfl, S5, R5, _, Hfin.out, by
      by_cases h0 : EF = 0
      · rw [if_pos h0]; exact .inr HbnS.out.2.2.2
      · rw [if_neg h0]; exact .inl rfl⟩
  · have hx : (t.err != 0) = true := by rw [bne_iff_ne]; exact he
    have hFe : dF = d ∧ sF = s ∧ tF = t ∧ EF = t.err := by unfold Fil.commit at hF; rw [if_pos he] at hF; simpa using hF
    obtain ⟨rfl, rfl, rfl, rfl⟩ := hFe
    have HSA := Lib.hid (hSA.more (show N ≤ N + len by omega)); clear hSA
    rw [← hWAr] at c0 c12 HSA
    clear hb1 hb2 hbA hrow hF hs hl hlo hap h hWA hWAr hsA hB hpB
    go_enter Tryz.func10, Tryz.ntmps10
    go_wp2_with fail
    go_ret
    exact ⟨rfl, S, R, bm, HSA.out, .inl rfl⟩
theorem fcommit_any {m : Nat} (h : Sys w T N S R p q pw bm d s t W) (hs : s.Ok m) (hta : t.a < 2) (hn : t.n ≤ 16384) (hn8 : 8 ≤ t.n) (hN : N ≤ 1000000000000) (hops : d.ops ≤ 999000000)
    (a : Option Addr) (len cap : Nat) (l : List Chb) (hl : Chgs a len l W) (hlo : ∀ x ∈ l, x.Ok) (hlen : len ≤ 16384) (hap : ∀ b off, 0 < len → a = some ⟨b, off, none⟩ → ¬ S b ∧ ¬ R b ∧ b ≠ p) :
    Calls Tryz.prog 10 #[.pointer (some ⟨p, 0, none⟩), .slice a len cap] W fun e W' => e = .returned (.int .i64 (Fil.commit d s t l).2.2.2) ∧ ∃ S' R' bm', Sys w T (N + len) S' R' p q pw bm' (Fil.commit d s t l).1 (Fil.commit d s t l).2.1 (Fil.commit d s t l).2.2.1 W' :=
  (fcommit_bm h hs hta hn hn8 hN hops a len cap l hl hlo hlen hap).mono fun e W' ⟨he, S', R', bm', hS, _⟩ => ⟨he, S', R', bm', hS⟩
end
end Go.Proofs.YtalklpnekbfehaaGreat
