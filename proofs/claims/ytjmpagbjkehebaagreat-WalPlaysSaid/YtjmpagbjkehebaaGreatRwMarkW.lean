/-
  The document's log: a mark is written, and the disk is flushed.
-/
import Derived.Test.YtjmpagbjkehebaaGreatRwApn
import Derived.Test.YtjmpagbjkehebaaGreatWalOpn4
import Derived.Test.YtjmpagbjkehebaaGreatGoPhase
set_option linter.unusedVariables false
set_option maxRecDepth 100000
namespace Go.Proofs.YtjmpagbjkehebaaGreat
open Go.RowKit

section
variable {w : World} {S0 R0 S R : Nat → Prop} {p q : Nat} {d : Dsk.St} {s : Wal.St} {W : World}
/-- what the document's mark leaves: an answer, a disk, a log that keeps an error -/
def RmkR (w : World) (S0 R0 R : Nat → Prop) (p q : Nat) (Z : Dsk.St × Int) (s : Wal.St) (e : Ending) (w' : World) : Prop :=
  e = .returned (.int .i64 Z.2) ∧ ∃ S', Rpn w S0 R0 S' R p q Z.1 (if Z.2 = 0 then s else { s with err := Z.2 }) w'
set_option maxHeartbeats 1000000 in
theorem rwMark_any (h : Rpn w S0 R0 S R p q d s W) (hfr : s.from_ ≤ 16384) (hops : d.ops + 1 ≤ 1099511627776) (g u : Nat) (hg : g < 18446744073709551616) (hu : u < 4294967296) :
    Calls Tryz.prog 133 #[.pointer (some ⟨p, 0, none⟩), .int .u64 (g : Int), .int .i64 (u : Int)] W (RmkR w S0 R0 R p q (Wal.steps [.wr s.from_ (Wal.mark g u), .fl] d) s) := by
  have hM := fun x => refMark_any g u hg hu x
  have hMs : (ba (Wal.mark g u)).size = 64 := by rw [ba_size, Wal.mark_length]
  have hst := Wal.steps_two d s.from_ (Wal.mark g u) []
  have hwops := Dsk.write_ops d (s.from_ : Int) (Wal.mark g u)
  rw [Wal.mark_length] at hwops
  have hl : (ba (Wal.mark g u)).data.toList = Wal.mark g u := ba_list _
  generalize Wal.steps [.wr s.from_ (Wal.mark g u), .fl] d = Z at *
  rw [← hl] at hst hwops
  clear hl
  generalize ba (Wal.mark g u) = M at *
  have HM := Lib.hid hM; clear hM
  have Hst := Lib.hid hst; clear hst
  have H := Lib.hid h; clear h
  go_enter Tryz.func133, Tryz.ntmps133
  go_wp2_with fail
  have h3 := H.out.new ((Below.refl _ _).drew)
  refine wp_region_phases [([0, 1, 2, 3, 4, 5, 6, 7, 8, 9], [10, 11, 12])] (by kernel_rfl) (by kernel_rfl) (fun z => z.cell? ⟨p, 0, none⟩ = some (.pointer (some ⟨q, 0, none⟩)) ∧ z.cell? ⟨p, 1, none⟩ = some (.int .i64 (s.from_ : Int))) ⟨h3.c0, h3.c1⟩ ?_
  simp only [wpPhases, pick, List.filterMap_cons, List.filterMap_nil, List.getElem?_toArray, List.getElem?_cons_zero, List.getElem?_cons_succ]
  refine take_move (.tmp 0) (.pointer (some ⟨p, 0, none⟩)) rfl rfl rfl ?_
  simp only [Act.put, List.setIfInBounds_toArray, List.set_cons_zero, List.set_cons_succ]
  refine take_nil (.tmp 8) ⟨p, 0, none⟩ rfl rfl rfl ?_
  simp only [Act.put, List.setIfInBounds_toArray, List.set_cons_zero, List.set_cons_succ]
  refine take_one (.pointer (some ⟨p, 0, none⟩)) rfl (fun u _ => by go_simp) ?_
  simp only [Act.put, List.setIfInBounds_toArray, List.set_cons_zero, List.set_cons_succ]
  refine take_load 45 (.tmp 10) ⟨p, 0, none⟩ (.pointer (some ⟨q, 0, none⟩)) rfl rfl rfl (fun u hu => load_any Tryz.underlying45 Tryz.isAgg45 hu.1) ?_
  simp only [Act.put, List.setIfInBounds_toArray, List.set_cons_zero, List.set_cons_succ]
  refine take_move (.tmp 0) (.pointer (some ⟨p, 0, none⟩)) rfl rfl rfl ?_
  simp only [Act.put, List.setIfInBounds_toArray, List.set_cons_zero, List.set_cons_succ]
  refine take_nil (.tmp 12) ⟨p, 0, none⟩ rfl rfl rfl ?_
  simp only [Act.put, List.setIfInBounds_toArray, List.set_cons_zero, List.set_cons_succ]
  refine take_one (.pointer (some ⟨p, 1, none⟩)) rfl (fun u _ => by go_simp) ?_
  simp only [Act.put, List.setIfInBounds_toArray, List.set_cons_zero, List.set_cons_succ]
  refine take_load 3 (.tmp 14) ⟨p, 1, none⟩ (.int .i64 (s.from_ : Int)) rfl rfl rfl (fun u hu => load_any Tryz.underlying3 Tryz.isAgg3 hu.2) ?_
  simp only [Act.put, List.setIfInBounds_toArray, List.set_cons_zero, List.set_cons_succ]
  refine take_move (.tmp 1) (.int .u64 (g : Int)) rfl rfl rfl ?_
  simp only [Act.put, List.setIfInBounds_toArray, List.set_cons_zero, List.set_cons_succ]
  refine take_move (.tmp 2) (.int .i64 (u : Int)) rfl rfl rfl ?_
  simp only [Act.put, List.setIfInBounds_toArray, List.set_cons_zero, List.set_cons_succ]
  refine take_done ?_
  refine midk_wp rfl (call_wp 92 [.tmp 16, .tmp 17] #[35, 3] #[.int .u64 (g : Int), .int .i64 (u : Int)] rfl rfl rfl ?_)
  refine (HM.out _).mono ?_
  rintro e w2 ⟨rfl, h2⟩
  have hA2 := h3.new h2
  refine ⟨_, rfl, ⟨hA2.c0, hA2.c1⟩, ?_⟩
  refine midk_wp rfl (call_wp 27 [.tmp 11, .tmp 15, .tmp 18] #[45, 3, 9] #[.pointer (some ⟨q, 0, none⟩), .int .i64 (s.from_ : Int), .string M] rfl rfl rfl ?_)
  refine (refWrite_all hA2.disk (s.from_ : Int) ⟨by omega, by omega⟩ M (by omega) (by omega)).mono ?_
  rintro e w3 ⟨rfl, t3, S3, l3, d3⟩
  have hA3 := hA2.turnDisk t3 l3 d3
  refine ⟨_, rfl, ⟨hA3.c0, hA3.c1⟩, ?_⟩
  refine midk_one (.int .i64 (Dsk.write d (s.from_ : Int) M.data.toList).2) rfl rfl ⟨hA3.c0, hA3.c1⟩ ?_
  refine midk_end ?_
  have hw1 : (Dsk.write d (s.from_ : Int) M.data.toList).1.ops ≤ 1099511627776 := by omega
  clear h3 hA2 h2 t3 l3 d3 HM hwops
  have HA3 := Lib.hid hA3; clear hA3
  by_cases he : (Dsk.write d (s.from_ : Int) M.data.toList).2 = 0
  · have hz : Z = if (Dsk.flush (Dsk.write d (s.from_ : Int) M.data.toList).1).2 = 0 then ((Dsk.flush (Dsk.write d (s.from_ : Int) M.data.toList).1).1, 0) else Dsk.flush (Dsk.write d (s.from_ : Int) M.data.toList).1 := by rw [Hst.out, if_pos he]; rfl
    have hz1 : Z = Dsk.flush (Dsk.write d (s.from_ : Int) M.data.toList).1 := by
      rw [hz]; split
      · rename_i hq; rw [← hq]
      · rfl
    rw [he]
    clear hz Hst he
    generalize (Dsk.write d (s.from_ : Int) M.data.toList).1 = D at *
    have Hz := Lib.hid hz1; clear hz1
    have c0 := HA3.out.c0
    have hF := refFlush_all HA3.out.disk hw1
    have HF := Lib.hid hF; clear hF
    go_wp2_with fail
    refine HF.out.mono ?_; rintro e w4 ⟨rfl, t4, S4, l4, d4⟩
    have hA4 := (HA3.out.turnDisk t4 l4 d4).fallen (Dsk.flush D).2
    have HA4 := Lib.hid hA4; clear hA4
    clear c0 t4 d4
    go_wp2_with fail
    refine HA4.out.mono ?_; rintro e w5 ⟨rfl, h5⟩
    have H5 := Lib.hid h5; clear h5
    go_wp2_with fail
    go_ret
    rw [Hz.out]
    exact ⟨rfl, S4, H5.out⟩
  · have hz : Z = Dsk.write d (s.from_ : Int) M.data.toList := by rw [Hst.out, if_neg he]
    have hx : ((Dsk.write d (s.from_ : Int) M.data.toList).2 != 0) = true := by rw [bne_iff_ne]; exact he
    clear Hst he
    have hA4 := HA3.out.fallen (Dsk.write d (s.from_ : Int) M.data.toList).2
    have HA4 := Lib.hid hA4; clear hA4
    have Hz := Lib.hid hz; clear hz
    generalize hE : (Dsk.write d (s.from_ : Int) M.data.toList).2 = E at *
    go_wp2_with fail
    refine HA4.out.mono ?_; rintro e w5 ⟨rfl, h5⟩
    have H5 := Lib.hid h5; clear h5
    go_wp2_with fail
    go_ret
    have hq := H5.out
    rw [← hE] at hq
    rw [Hz.out]
    exact ⟨by rw [hE]; rfl, S3, hq⟩
end
end Go.Proofs.YtjmpagbjkehebaaGreat
