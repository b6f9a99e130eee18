/-
  The steps of Append and of Reset.
-/
import Derived.Test.YtjmpagbjkehebaaWalApn
set_option linter.unusedVariables false
set_option maxRecDepth 100000
namespace Go.Proofs.Ytjmpagbjkehebaa
open Go.RowKit

def boxW (p : Nat) : Obj := .cells #[.pointer (some ⟨p, 0, none⟩)] 29 (0, 0)
def boxM (g u : Nat) : Obj := .cells #[.int .u64 (g : Int), .int .i64 (u : Int)] 55 (0, 0)
def boxI (n : Int) : Obj := .cells #[.int .i64 n] 3 (0, 0)
def boxS (s : ByteArray) : Obj := .cells #[.string s] 9 (0, 0)
def boxL (a : Option Addr) (len cap : Nat) : Obj := .cells #[.slice a len cap] 34 (0, 0)

section
variable {w : World} {S0 R0 : Nat → Prop} {kept : List (Nat × Obj)} {S R : Nat → Prop} {p q : Nat} {d : Dsk.St} {s : Wal.St} {W W' : World}
theorem Apn.cB (h : Apn w S0 R0 kept S R p q d s W) {B : Nat} (hB : (B, boxW p) ∈ kept) : W.cell? ⟨B, 0, none⟩ = some (.pointer (some ⟨p, 0, none⟩)) := by rw [cell_of_row _ _ 0 _ _ _ (h.row hB)]; rfl
theorem Apn.cD (h : Apn w S0 R0 kept S R p q d s W) : W.cell? ⟨p, 2, none⟩ = some (.pointer (some ⟨q, 0, none⟩)) := by obtain ⟨v, hv⟩ := h.wal; exact hv.c2
theorem Apn.cF (h : Apn w S0 R0 kept S R p q d s W) : W.cell? ⟨p, 3, none⟩ = some (.int .i64 (s.from_ : Int)) := by obtain ⟨v, hv⟩ := h.wal; exact hv.c3
theorem Apn.cI (h : Apn w S0 R0 kept S R p q d s W) {b : Nat} {n : Int} (hB : (b, boxI n) ∈ kept) : W.cell? ⟨b, 0, none⟩ = some (.int .i64 n) := by rw [cell_of_row _ _ 0 _ _ _ (h.row hB)]; rfl
theorem Apn.cS (h : Apn w S0 R0 kept S R p q d s W) {b : Nat} {x : ByteArray} (hB : (b, boxS x) ∈ kept) : W.cell? ⟨b, 0, none⟩ = some (.string x) := by rw [cell_of_row _ _ 0 _ _ _ (h.row hB)]; rfl
theorem Apn.cL (h : Apn w S0 R0 kept S R p q d s W) {b : Nat} {a : Option Addr} {len cap : Nat} (hB : (b, boxL a len cap) ∈ kept) : W.cell? ⟨b, 0, none⟩ = some (.slice a len cap) := by rw [cell_of_row _ _ 0 _ _ _ (h.row hB)]; rfl
theorem load_mark {u : World} {b g x : Nat} (h : u.heap[b]? = some (boxM g x)) : (Instr.loadAt 55 (.pointer (some ⟨b, 0, none⟩))).run Try.prog u = .ok (markV g x) u :=
  load_row (P := Try.prog) u b 55 55 _ (0, 0) _ h Try.underlying55 rfl (by kernel_rfl)

theorem ap2_any (h : Apn w S0 R0 kept S R p q d s W) {B : Nat} (hB : (B, boxW p) ∈ kept) (hops : d.ops ≤ 1099511627776) :
    Calls Try.prog 33 #[.pointer (some ⟨B, 0, none⟩)] W fun e W' => e = .returned (.int .i64 (Dsk.flush d).2) ∧ ∃ S', Apn w S0 R0 kept S' R p q (Dsk.flush d).1 s W' := by
  have c0 := h.cB hB
  have c2 := h.cD
  have hf := flush_all h.disk hops
  generalize (Dsk.flush d).2 = E at *
  have Hf := Lib.hid hf; clear hf
  have H := Lib.hid h; clear h
  clear hB
  go_enter Try.func33, Try.ntmps33
  go_wp2_with fail
  refine Hf.out.mono ?_; rintro e w1 ⟨rfl, ht, S', hS, hd⟩
  have h1 := H.out.turnDisk ht hS hd
  have H1 := Lib.hid h1; clear h1
  clear ht hd c0 c2
  go_wp2_with fail
  go_ret
  exact ⟨rfl, S', H1.out⟩

theorem ap4_any (h : Apn w S0 R0 kept S R p q d s W) {B : Nat} (hB : (B, boxW p) ∈ kept) (hops : d.ops ≤ 1099511627776) :
    Calls Try.prog 37 #[.pointer (some ⟨B, 0, none⟩)] W fun e W' => e = .returned (.int .i64 (Dsk.flush d).2) ∧ ∃ S', Apn w S0 R0 kept S' R p q (Dsk.flush d).1 s W' := by
  have c0 := h.cB hB
  have c2 := h.cD
  have hf := flush_all h.disk hops
  generalize (Dsk.flush d).2 = E at *
  have Hf := Lib.hid hf; clear hf
  have H := Lib.hid h; clear h
  clear hB
  go_enter Try.func37, Try.ntmps37
  go_wp2_with fail
  refine Hf.out.mono ?_; rintro e w1 ⟨rfl, ht, S', hS, hd⟩
  have h1 := H.out.turnDisk ht hS hd
  have H1 := Lib.hid h1; clear h1
  clear ht hd c0 c2
  go_wp2_with fail
  go_ret
  exact ⟨rfl, S', H1.out⟩

theorem re2_any (h : Apn w S0 R0 kept S R p q d s W) {B : Nat} (hB : (B, boxW p) ∈ kept) (hops : d.ops ≤ 1099511627776) :
    Calls Try.prog 42 #[.pointer (some ⟨B, 0, none⟩)] W fun e W' => e = .returned (.int .i64 (Dsk.flush d).2) ∧ ∃ S', Apn w S0 R0 kept S' R p q (Dsk.flush d).1 s W' := by
  have c0 := h.cB hB
  have c2 := h.cD
  have hf := flush_all h.disk hops
  generalize (Dsk.flush d).2 = E at *
  have Hf := Lib.hid hf; clear hf
  have H := Lib.hid h; clear h
  clear hB
  go_enter Try.func42, Try.ntmps42
  go_wp2_with fail
  refine Hf.out.mono ?_; rintro e w1 ⟨rfl, ht, S', hS, hd⟩
  have h1 := H.out.turnDisk ht hS hd
  have H1 := Lib.hid h1; clear h1
  clear ht hd c0 c2
  go_wp2_with fail
  go_ret
  exact ⟨rfl, S', H1.out⟩

theorem ap1_any (h : Apn w S0 R0 kept S R p q d s W) {B ta rb at_ : Nat} {row : ByteArray} (hB : (B, boxW p) ∈ kept) (hta : (ta, boxI (at_ : Int)) ∈ kept) (hrb : (rb, boxS row) ∈ kept) (hat : at_ ≤ 16384) (hrow : row.size ≤ 1048576) (hops : d.ops ≤ 1099511500000) :
    Calls Try.prog 30 #[.pointer (some ⟨B, 0, none⟩), .pointer (some ⟨ta, 0, none⟩), .pointer (some ⟨rb, 0, none⟩)] W fun e W' => e = .returned (.int .i64 (Dsk.write d (at_ : Int) (Wal.grp row.data.toList)).2) ∧ ∃ S', Apn w S0 R0 kept S' R p q (Dsk.write d (at_ : Int) (Wal.grp row.data.toList)).1 s W' := by
  have hg := fun x => groupText_any row (by omega) x
  have hsz : (ba (Wal.grp row.data.toList)).size ≤ 1048704 := by
    rw [ba_size, Wal.grp_length]
    have := Wal.whole_hi (4 + row.data.toList.length)
    rw [ba_len] at this
    unfold Wal.secs
    rw [ba_len]; omega
  have hw := fun (x : World) (hx : DiskAt S q d x) => write_all hx (at_ : Int) ⟨by omega, by omega⟩ (ba (Wal.grp row.data.toList)) (by omega) (by omega)
  rw [ba_list] at hw
  generalize ba (Wal.grp row.data.toList) = G at *
  generalize (Dsk.write d (at_ : Int) (Wal.grp row.data.toList)).2 = E at *
  have HG := Lib.hid hg; clear hg
  have HW := Lib.hid hw; clear hw
  have H := Lib.hid h; clear h
  go_enter Try.func30, Try.ntmps30
  go_wp2_with fail
  refine wp_region_phases [([0, 1, 2, 3, 4, 5], [6, 7, 8])] (by kernel_rfl) (by kernel_rfl) (fun z => z.cell? ⟨B, 0, none⟩ = some (.pointer (some ⟨p, 0, none⟩)) ∧ z.cell? ⟨p, 2, none⟩ = some (.pointer (some ⟨q, 0, none⟩)) ∧ z.cell? ⟨ta, 0, none⟩ = some (.int .i64 (at_ : Int)) ∧ z.cell? ⟨rb, 0, none⟩ = some (.string row)) ⟨H.out.cB hB, H.out.cD, H.out.cI hta, H.out.cS hrb⟩ ?_
  simp only [wpPhases, pick, List.filterMap_cons, List.filterMap_nil, List.getElem?_toArray, List.getElem?_cons_zero, List.getElem?_cons_succ]
  refine take_load 29 (.tmp 0) ⟨B, 0, none⟩ (.pointer (some ⟨p, 0, none⟩)) rfl rfl rfl (fun u hu => load_any Try.underlying29 Try.isAgg29 hu.1) ?_
  simp only [Act.put, List.setIfInBounds_toArray, List.set_cons_zero, List.set_cons_succ]
  refine take_nil (.tmp 4) ⟨p, 0, none⟩ rfl rfl rfl ?_
  simp only [Act.put, List.setIfInBounds_toArray, List.set_cons_zero, List.set_cons_succ]
  refine take_one (.pointer (some ⟨p, 2, none⟩)) rfl (fun u _ => by go_simp) ?_
  simp only [Act.put, List.setIfInBounds_toArray, List.set_cons_zero, List.set_cons_succ]
  refine take_load 25 (.tmp 6) ⟨p, 2, none⟩ (.pointer (some ⟨q, 0, none⟩)) rfl rfl rfl (fun u hu => load_any Try.underlying25 Try.isAgg25 hu.2.1) ?_
  simp only [Act.put, List.setIfInBounds_toArray, List.set_cons_zero, List.set_cons_succ]
  refine take_load 3 (.tmp 1) ⟨ta, 0, none⟩ (.int .i64 (at_ : Int)) rfl rfl rfl (fun u hu => load_any Try.underlying3 Try.isAgg3 hu.2.2.1) ?_
  simp only [Act.put, List.setIfInBounds_toArray, List.set_cons_zero, List.set_cons_succ]
  refine take_load 9 (.tmp 2) ⟨rb, 0, none⟩ (.string row) rfl rfl rfl (fun u hu => load_any Try.underlying9 Try.isAgg9 hu.2.2.2) ?_
  simp only [Act.put, List.setIfInBounds_toArray, List.set_cons_zero, List.set_cons_succ]
  refine take_done ?_
  refine midk_wp rfl (call_wp 32 [.tmp 9] #[9] #[.string row] rfl rfl rfl ?_)
  refine (HG.out _).mono ?_; rintro e w1 ⟨rfl, h1⟩
  have h2 := (H.out.new ((Below.refl _ W).drew)).new h1
  refine ⟨_, rfl, ⟨h2.cB hB, h2.cD, h2.cI hta, h2.cS hrb⟩, ?_⟩
  simp only [Act.put, List.setIfInBounds_toArray, List.set_cons_zero, List.set_cons_succ]
  refine midk_wp rfl (call_wp 31 [.tmp 7, .tmp 8, .tmp 10] #[25, 3, 9] #[.pointer (some ⟨q, 0, none⟩), .int .i64 (at_ : Int), .string G] rfl rfl rfl ?_)
  refine (HW.out _ h2.disk).mono ?_; rintro e w2 ⟨rfl, ht, S', hS, hd⟩
  have h3 := h2.turnDisk ht hS hd
  refine ⟨_, rfl, ⟨h3.cB hB, h3.cD, h3.cI hta, h3.cS hrb⟩, ?_⟩
  simp only [Act.put, List.setIfInBounds_toArray, List.set_cons_zero, List.set_cons_succ]
  refine midk_one (.int .i64 E) rfl rfl ⟨h3.cB hB, h3.cD, h3.cI hta, h3.cS hrb⟩ ?_
  simp only [Act.put, List.setIfInBounds_toArray, List.set_cons_zero, List.set_cons_succ]
  refine midk_end ?_
  have H3 := Lib.hid h3; clear h3
  clear h1 h2 ht hd hB hta hrb
  go_wp2_with fail
  go_ret
  exact ⟨rfl, S', H3.out⟩

theorem ap3_any (h : Apn w S0 R0 kept S R p q d s W) {B na g u : Nat} (hB : (B, boxW p) ∈ kept) (hna : (na, boxM g u) ∈ kept) (hf : s.from_ ≤ 16384) (hg : g < 18446744073709551616) (hu : u < 4294967296) (hops : d.ops ≤ 1099511600000) :
    Calls Try.prog 35 #[.pointer (some ⟨B, 0, none⟩), .pointer (some ⟨na, 0, none⟩)] W fun e W' => e = .returned (.int .i64 (Dsk.write d (s.from_ : Int) (Wal.mark g u)).2) ∧ ∃ S', Apn w S0 R0 kept S' R p q (Dsk.write d (s.from_ : Int) (Wal.mark g u)).1 s W' := by
  have hh := fun x => header_any g u hg hu x
  have hsz : (ba (Wal.mark g u)).size = 64 := by rw [ba_size, Wal.mark_length]
  have hw := fun (x : World) (hx : DiskAt S q d x) => write_all hx (s.from_ : Int) ⟨by omega, by omega⟩ (ba (Wal.mark g u)) (by omega) (by omega)
  rw [ba_list] at hw
  generalize ba (Wal.mark g u) = M at *
  generalize (Dsk.write d (s.from_ : Int) (Wal.mark g u)).2 = E at *
  have HH := Lib.hid hh; clear hh
  have HW := Lib.hid hw; clear hw
  have H := Lib.hid h; clear h
  go_enter Try.func35, Try.ntmps35
  go_wp2_with fail
  refine wp_region_phases [([0, 1, 2, 3, 4, 5, 6, 7, 8], [9, 10, 11])] (by kernel_rfl) (by kernel_rfl) (fun z => z.cell? ⟨B, 0, none⟩ = some (.pointer (some ⟨p, 0, none⟩)) ∧ z.cell? ⟨p, 2, none⟩ = some (.pointer (some ⟨q, 0, none⟩)) ∧ z.cell? ⟨p, 3, none⟩ = some (.int .i64 (s.from_ : Int)) ∧ z.heap[na]? = some (boxM g u)) ⟨H.out.cB hB, H.out.cD, H.out.cF, H.out.row hna⟩ ?_
  simp only [wpPhases, pick, List.filterMap_cons, List.filterMap_nil, List.getElem?_toArray, List.getElem?_cons_zero, List.getElem?_cons_succ]
  refine take_load 29 (.tmp 0) ⟨B, 0, none⟩ (.pointer (some ⟨p, 0, none⟩)) rfl rfl rfl (fun u hu => load_any Try.underlying29 Try.isAgg29 hu.1) ?_
  simp only [Act.put, List.setIfInBounds_toArray, List.set_cons_zero, List.set_cons_succ]
  refine take_nil (.tmp 3) ⟨p, 0, none⟩ rfl rfl rfl ?_
  simp only [Act.put, List.setIfInBounds_toArray, List.set_cons_zero, List.set_cons_succ]
  refine take_one (.pointer (some ⟨p, 2, none⟩)) rfl (fun u _ => by go_simp) ?_
  simp only [Act.put, List.setIfInBounds_toArray, List.set_cons_zero, List.set_cons_succ]
  refine take_load 25 (.tmp 5) ⟨p, 2, none⟩ (.pointer (some ⟨q, 0, none⟩)) rfl rfl rfl (fun u hu => load_any Try.underlying25 Try.isAgg25 hu.2.1) ?_
  simp only [Act.put, List.setIfInBounds_toArray, List.set_cons_zero, List.set_cons_succ]
  refine take_load 29 (.tmp 0) ⟨B, 0, none⟩ (.pointer (some ⟨p, 0, none⟩)) rfl rfl rfl (fun u hu => load_any Try.underlying29 Try.isAgg29 hu.1) ?_
  simp only [Act.put, List.setIfInBounds_toArray, List.set_cons_zero, List.set_cons_succ]
  refine take_nil (.tmp 7) ⟨p, 0, none⟩ rfl rfl rfl ?_
  simp only [Act.put, List.setIfInBounds_toArray, List.set_cons_zero, List.set_cons_succ]
  refine take_one (.pointer (some ⟨p, 3, none⟩)) rfl (fun u _ => by go_simp) ?_
  simp only [Act.put, List.setIfInBounds_toArray, List.set_cons_zero, List.set_cons_succ]
  refine take_load 3 (.tmp 9) ⟨p, 3, none⟩ (.int .i64 (s.from_ : Int)) rfl rfl rfl (fun u hu => load_any Try.underlying3 Try.isAgg3 hu.2.2.1) ?_
  simp only [Act.put, List.setIfInBounds_toArray, List.set_cons_zero, List.set_cons_succ]
  refine take_load 55 (.tmp 1) ⟨na, 0, none⟩ (markV g u) rfl rfl rfl (fun u hu => load_mark hu.2.2.2) ?_
  simp only [Act.put, List.setIfInBounds_toArray, List.set_cons_zero, List.set_cons_succ]
  refine take_done ?_
  refine midk_wp rfl (call_wp 36 [.tmp 11] #[55] #[markV g u] rfl rfl rfl ?_)
  refine (HH.out _).mono ?_; rintro e w1 ⟨rfl, h1⟩
  have h2 := (H.out.new ((Below.refl _ W).drew)).new h1
  refine ⟨_, rfl, ⟨h2.cB hB, h2.cD, h2.cF, h2.row hna⟩, ?_⟩
  simp only [Act.put, List.setIfInBounds_toArray, List.set_cons_zero, List.set_cons_succ]
  refine midk_wp rfl (call_wp 31 [.tmp 6, .tmp 10, .tmp 12] #[25, 3, 9] #[.pointer (some ⟨q, 0, none⟩), .int .i64 (s.from_ : Int), .string M] rfl rfl rfl ?_)
  refine (HW.out _ h2.disk).mono ?_; rintro e w2 ⟨rfl, ht, S', hS, hd⟩
  have h3 := h2.turnDisk ht hS hd
  refine ⟨_, rfl, ⟨h3.cB hB, h3.cD, h3.cF, h3.row hna⟩, ?_⟩
  simp only [Act.put, List.setIfInBounds_toArray, List.set_cons_zero, List.set_cons_succ]
  refine midk_one (.int .i64 E) rfl rfl ⟨h3.cB hB, h3.cD, h3.cF, h3.row hna⟩ ?_
  simp only [Act.put, List.setIfInBounds_toArray, List.set_cons_zero, List.set_cons_succ]
  refine midk_end ?_
  have H3 := Lib.hid h3; clear h3
  clear h1 h2 ht hd hB hna
  go_wp2_with fail
  go_ret
  exact ⟨rfl, S', H3.out⟩

theorem re1_any (h : Apn w S0 R0 kept S R p q d s W) {B na g u : Nat} (hB : (B, boxW p) ∈ kept) (hna : (na, boxM g u) ∈ kept) (hf : s.from_ ≤ 16384) (hg : g < 18446744073709551616) (hu : u < 4294967296) (hops : d.ops ≤ 1099511600000) :
    Calls Try.prog 41 #[.pointer (some ⟨B, 0, none⟩), .pointer (some ⟨na, 0, none⟩)] W fun e W' => e = .returned (.int .i64 (Dsk.write d (s.from_ : Int) (Wal.mark g u)).2) ∧ ∃ S', Apn w S0 R0 kept S' R p q (Dsk.write d (s.from_ : Int) (Wal.mark g u)).1 s W' := by
  have hh := fun x => header_any g u hg hu x
  have hsz : (ba (Wal.mark g u)).size = 64 := by rw [ba_size, Wal.mark_length]
  have hw := fun (x : World) (hx : DiskAt S q d x) => write_all hx (s.from_ : Int) ⟨by omega, by omega⟩ (ba (Wal.mark g u)) (by omega) (by omega)
  rw [ba_list] at hw
  generalize ba (Wal.mark g u) = M at *
  generalize (Dsk.write d (s.from_ : Int) (Wal.mark g u)).2 = E at *
  have HH := Lib.hid hh; clear hh
  have HW := Lib.hid hw; clear hw
  have H := Lib.hid h; clear h
  go_enter Try.func41, Try.ntmps41
  go_wp2_with fail
  refine wp_region_phases [([0, 1, 2, 3, 4, 5, 6, 7, 8], [9, 10, 11])] (by kernel_rfl) (by kernel_rfl) (fun z => z.cell? ⟨B, 0, none⟩ = some (.pointer (some ⟨p, 0, none⟩)) ∧ z.cell? ⟨p, 2, none⟩ = some (.pointer (some ⟨q, 0, none⟩)) ∧ z.cell? ⟨p, 3, none⟩ = some (.int .i64 (s.from_ : Int)) ∧ z.heap[na]? = some (boxM g u)) ⟨H.out.cB hB, H.out.cD, H.out.cF, H.out.row hna⟩ ?_
  simp only [wpPhases, pick, List.filterMap_cons, List.filterMap_nil, List.getElem?_toArray, List.getElem?_cons_zero, List.getElem?_cons_succ]
  refine take_load 29 (.tmp 0) ⟨B, 0, none⟩ (.pointer (some ⟨p, 0, none⟩)) rfl rfl rfl (fun u hu => load_any Try.underlying29 Try.isAgg29 hu.1) ?_
  simp only [Act.put, List.setIfInBounds_toArray, List.set_cons_zero, List.set_cons_succ]
  refine take_nil (.tmp 3) ⟨p, 0, none⟩ rfl rfl rfl ?_
  simp only [Act.put, List.setIfInBounds_toArray, List.set_cons_zero, List.set_cons_succ]
  refine take_one (.pointer (some ⟨p, 2, none⟩)) rfl (fun u _ => by go_simp) ?_
  simp only [Act.put, List.setIfInBounds_toArray, List.set_cons_zero, List.set_cons_succ]
  refine take_load 25 (.tmp 5) ⟨p, 2, none⟩ (.pointer (some ⟨q, 0, none⟩)) rfl rfl rfl (fun u hu => load_any Try.underlying25 Try.isAgg25 hu.2.1) ?_
  simp only [Act.put, List.setIfInBounds_toArray, List.set_cons_zero, List.set_cons_succ]
  refine take_load 29 (.tmp 0) ⟨B, 0, none⟩ (.pointer (some ⟨p, 0, none⟩)) rfl rfl rfl (fun u hu => load_any Try.underlying29 Try.isAgg29 hu.1) ?_
  simp only [Act.put, List.setIfInBounds_toArray, List.set_cons_zero, List.set_cons_succ]
  refine take_nil (.tmp 7) ⟨p, 0, none⟩ rfl rfl rfl ?_
  simp only [Act.put, List.setIfInBounds_toArray, List.set_cons_zero, List.set_cons_succ]
  refine take_one (.pointer (some ⟨p, 3, none⟩)) rfl (fun u _ => by go_simp) ?_
  simp only [Act.put, List.setIfInBounds_toArray, List.set_cons_zero, List.set_cons_succ]
  refine take_load 3 (.tmp 9) ⟨p, 3, none⟩ (.int .i64 (s.from_ : Int)) rfl rfl rfl (fun u hu => load_any Try.underlying3 Try.isAgg3 hu.2.2.1) ?_
  simp only [Act.put, List.setIfInBounds_toArray, List.set_cons_zero, List.set_cons_succ]
  refine take_load 55 (.tmp 1) ⟨na, 0, none⟩ (markV g u) rfl rfl rfl (fun u hu => load_mark hu.2.2.2) ?_
  simp only [Act.put, List.setIfInBounds_toArray, List.set_cons_zero, List.set_cons_succ]
  refine take_done ?_
  refine midk_wp rfl (call_wp 36 [.tmp 11] #[55] #[markV g u] rfl rfl rfl ?_)
  refine (HH.out _).mono ?_; rintro e w1 ⟨rfl, h1⟩
  have h2 := (H.out.new ((Below.refl _ W).drew)).new h1
  refine ⟨_, rfl, ⟨h2.cB hB, h2.cD, h2.cF, h2.row hna⟩, ?_⟩
  simp only [Act.put, List.setIfInBounds_toArray, List.set_cons_zero, List.set_cons_succ]
  refine midk_wp rfl (call_wp 31 [.tmp 6, .tmp 10, .tmp 12] #[25, 3, 9] #[.pointer (some ⟨q, 0, none⟩), .int .i64 (s.from_ : Int), .string M] rfl rfl rfl ?_)
  refine (HW.out _ h2.disk).mono ?_; rintro e w2 ⟨rfl, ht, S', hS, hd⟩
  have h3 := h2.turnDisk ht hS hd
  refine ⟨_, rfl, ⟨h3.cB hB, h3.cD, h3.cF, h3.row hna⟩, ?_⟩
  simp only [Act.put, List.setIfInBounds_toArray, List.set_cons_zero, List.set_cons_succ]
  refine midk_one (.int .i64 E) rfl rfl ⟨h3.cB hB, h3.cD, h3.cF, h3.row hna⟩ ?_
  simp only [Act.put, List.setIfInBounds_toArray, List.set_cons_zero, List.set_cons_succ]
  refine midk_end ?_
  have H3 := Lib.hid h3; clear h3
  clear h1 h2 ht hd hB hna
  go_wp2_with fail
  go_ret
  exact ⟨rfl, S', H3.out⟩
end
end Go.Proofs.Ytjmpagbjkehebaa
