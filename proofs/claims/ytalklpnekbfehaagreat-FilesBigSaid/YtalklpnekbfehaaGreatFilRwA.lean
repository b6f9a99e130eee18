/- Put together of: FilRw FilRw6 FilRwF -/
import Derived.Test.YtalklpnekbfehaaGreatFilRa
import Derived.Test.YtalklpnekbfehaaGreatWalB
import Derived.Test.YtalklpnekbfehaaGreatWalA
set_option maxRecDepth 100000
/-
  The steps of rewrite.
-/
set_option linter.unusedVariables false
set_option maxRecDepth 100000
namespace Go.Proofs.YtalklpnekbfehaaGreat
open Go.RowKit

def boxF (p : Nat) : Obj := .cells #[.pointer (some ⟨p, 0, none⟩)] 26 (0, 0)
def boxC (b : Nat) : Obj := .cells #[.map (some b)] 74 (0, 0)
def objF (cs : Array Value) : Obj := .cells cs 76 (0, 0)
def objM (nm : Bool) (a q : Nat) : Obj := .cells #[.bool nm, .int .i64 (a : Int), .int .u64 (q : Int)] 66 (0, 0)

section
variable {w : World} {S0 R0 : Nat → Prop} {kept : List (Nat × Obj)} {S R : Nat → Prop} {p q pw B Bm Bx bn : Nat} {d : Dsk.St} {s : Wal.St} {W : World} {cs : Array Value}
theorem Apn.cFil (h : Apn w S0 R0 kept S R pw q d s W) (hp : (p, objF cs) ∈ kept) (i : Nat) : W.cell? ⟨p, i, none⟩ = cs[i]? := cell_of_row _ _ _ _ _ _ (h.row hp)
theorem Apn.cBox (h : Apn w S0 R0 kept S R pw q d s W) (hB : (B, boxF p) ∈ kept) : W.cell? ⟨B, 0, none⟩ = some (.pointer (some ⟨p, 0, none⟩)) := by rw [cell_of_row _ _ 0 _ _ _ (h.row hB)]; rfl

theorem rw2_any (h : Apn w S0 R0 kept S R pw q d s W) (hB : (B, boxF p) ∈ kept) (hp : (p, objF cs) ∈ kept) (h3 : cs[3]? = some (.pointer (some ⟨q, 0, none⟩))) (hops : d.ops ≤ 1099511627776) :
    Calls Tryz.prog 100 #[.pointer (some ⟨B, 0, none⟩)] W fun e W' => e = .returned (.int .i64 (Dsk.flush d).2) ∧ ∃ S', Apn w S0 R0 kept S' R pw q (Dsk.flush d).1 s W' := by
  have c0 := h.cBox hB
  have c3 := h.cFil hp 3
  rw [h3] at c3
  have hfl := flush_all h.disk hops
  have H := Lib.hid h; clear h
  have Hfl := Lib.hid hfl; clear hfl
  clear hB hp h3
  go_enter Tryz.func100, Tryz.ntmps100
  go_wp2_with fail
  refine Hfl.out.mono ?_; rintro e w1 ⟨rfl, ht, S', hS, hd⟩
  have h1 := H.out.turnDisk ht hS hd
  have H1 := Lib.hid h1; clear h1 ht hS hd
  go_wp2_with fail
  go_ret
  exact ⟨rfl, S', H1.out⟩
theorem rw4_any (h : Apn w S0 R0 kept S R pw q d s W) (hB : (B, boxF p) ∈ kept) (hp : (p, objF cs) ∈ kept) (h3 : cs[3]? = some (.pointer (some ⟨q, 0, none⟩))) (hops : d.ops ≤ 1099511627776) :
    Calls Tryz.prog 103 #[.pointer (some ⟨B, 0, none⟩)] W fun e W' => e = .returned (.int .i64 (Dsk.flush d).2) ∧ ∃ S', Apn w S0 R0 kept S' R pw q (Dsk.flush d).1 s W' := by
  have c0 := h.cBox hB
  have c3 := h.cFil hp 3
  rw [h3] at c3
  have hfl := flush_all h.disk hops
  have H := Lib.hid h; clear h
  have Hfl := Lib.hid hfl; clear hfl
  clear hB hp h3
  go_enter Tryz.func103, Tryz.ntmps103
  go_wp2_with fail
  refine Hfl.out.mono ?_; rintro e w1 ⟨rfl, ht, S', hS, hd⟩
  have h1 := H.out.turnDisk ht hS hd
  have H1 := Lib.hid h1; clear h1 ht hS hd
  go_wp2_with fail
  go_ret
  exact ⟨rfl, S', H1.out⟩
theorem rw5_any {m : Nat} (h : Apn w S0 R0 kept S R pw q d s W) (hB : (B, boxF p) ∈ kept) (hp : (p, objF cs) ∈ kept) (h10 : cs[10]? = some (.pointer (some ⟨pw, 0, none⟩))) (hs : s.Ok m) (hops : d.ops ≤ 1099511500000) :
    Calls Tryz.prog 104 #[.pointer (some ⟨B, 0, none⟩)] W fun e W' => e = .returned (.int .i64 (Wal.reset d s).2.2) ∧ ∃ S' R', Apn w S0 R0 kept S' R' pw q (Wal.reset d s).1 (Wal.reset d s).2.1 W' := by
  have c0 := h.cBox hB
  have c10 := h.cFil hp 10
  rw [h10] at c10
  have hrs := reset_any h.disk h.wal h.apart hs hops
  have H := Lib.hid h; clear h
  have Hrs := Lib.hid hrs; clear hrs
  clear hB hp h10
  go_enter Tryz.func104, Tryz.ntmps104
  go_wp2_with fail
  refine Hrs.out.mono ?_; rintro e w1 ⟨rfl, S', R', k⟩
  have h1 := H.out.comp k
  have H1 := Lib.hid h1; clear h1 k
  go_wp2_with fail
  go_ret
  exact ⟨rfl, S', R', H1.out⟩
set_option maxHeartbeats 600000 in
theorem rw3_any (h : Apn w S0 R0 kept S R pw q d s W) (hB : (B, boxF p) ∈ kept) (hp : (p, objF cs) ∈ kept) {nm : Bool} {a g : Nat} (hm : (Bm, objM nm a g) ∈ kept) (h3 : cs[3]? = some (.pointer (some ⟨q, 0, none⟩))) (ha : a < 256) (hg : g < 18446744073709551616) (hops : d.ops ≤ 1099511627) :
    Calls Tryz.prog 101 #[.pointer (some ⟨Bm, 0, none⟩), .pointer (some ⟨B, 0, none⟩)] W fun e W' => e = .returned (.int .i64 (Dsk.write d 0 (Fil.mark a g)).2) ∧ ∃ S', Apn w S0 R0 kept S' R pw q (Dsk.write d 0 (Fil.mark a g)).1 s W' := by
  have h1 : Apn w S0 R0 kept S R pw q d s W.drew := h.new ((Below.refl _ W).drew)
  have H1 := Lib.hid h1; clear h1 h
  have HMB := Lib.hid hB; clear hB
  have HMp := Lib.hid hp; clear hp
  have HMm := Lib.hid hm; clear hm
  have H3 := Lib.hid h3; clear h3
  have Ha := Lib.hid ha; clear ha
  have Hg := Lib.hid hg; clear hg
  have Hops := Lib.hid hops; clear hops
  go_enter Tryz.func101, Tryz.ntmps101
  go_wp2_with fail
  refine wp_region_phases [([0, 1, 2, 3, 4], [5, 6])] (by kernel_rfl) (by kernel_rfl) (fun z => z.heap[Bm]? = some (objM nm a g) ∧ z.heap[B]? = some (boxF p) ∧ z.heap[p]? = some (objF cs)) ⟨H1.out.row HMm.out, H1.out.row HMB.out, H1.out.row HMp.out⟩ ?_
  simp only [wpPhases, pick, List.filterMap_cons, List.filterMap_nil, List.getElem?_toArray, List.getElem?_cons_zero, List.getElem?_cons_succ]
  refine take_load 66 (.tmp 0) ⟨Bm, 0, none⟩ (.agg #[.bool nm, .int .i64 (a : Int), .int .u64 (g : Int)]) rfl rfl rfl (fun u hu => load_row (P := Tryz.prog) u Bm 66 66 _ (0, 0) _ hu.1 Tryz.underlying66 rfl (by kernel_rfl)) ?_
  simp only [Act.put, List.setIfInBounds_toArray, List.set_cons_zero, List.set_cons_succ]
  refine take_load 26 (.tmp 1) ⟨B, 0, none⟩ (.pointer (some ⟨p, 0, none⟩)) rfl rfl rfl (fun u hu => load_any Tryz.underlying26 Tryz.isAgg26 (by rw [cell_of_row u B 0 _ _ _ hu.2.1]; rfl)) ?_
  simp only [Act.put, List.setIfInBounds_toArray, List.set_cons_zero, List.set_cons_succ]
  refine take_nil (.tmp 4) ⟨p, 0, none⟩ rfl rfl rfl ?_
  simp only [Act.put, List.setIfInBounds_toArray, List.set_cons_zero, List.set_cons_succ]
  refine take_one (.pointer (some ⟨p, 3, none⟩)) rfl (fun u _ => by go_simp) ?_
  simp only [Act.put, List.setIfInBounds_toArray, List.set_cons_zero, List.set_cons_succ]
  refine take_load 34 (.tmp 6) ⟨p, 3, none⟩ (.pointer (some ⟨q, 0, none⟩)) rfl rfl rfl (fun u hu => load_any Tryz.underlying34 Tryz.isAgg34 (by rw [cell_of_row u p 3 _ _ _ hu.2.2]; exact H3.out)) ?_
  simp only [Act.put, List.setIfInBounds_toArray, List.set_cons_zero, List.set_cons_succ]
  refine take_done ?_
  refine midk_wp rfl (call_wp 102 [.tmp 3, .tmp 7] #[66, 34] #[fmarkV nm a g, .pointer (some ⟨q, 0, none⟩)] rfl rfl rfl ?_)
  refine (mwrite_any H1.out.disk a g nm Ha.out Hg.out Hops.out).mono ?_
  rintro e wW ⟨rfl, ht, S', hS, hd⟩
  have h2 := H1.out.turnDisk ht hS hd
  refine ⟨_, rfl, ⟨h2.row HMm.out, h2.row HMB.out, h2.row HMp.out⟩, ?_⟩
  simp only [Act.put, List.setIfInBounds_toArray, List.set_cons_zero, List.set_cons_succ]
  refine midk_one (.int .i64 (Dsk.write d 0 (Fil.mark a g)).2) rfl rfl ⟨h2.row HMm.out, h2.row HMB.out, h2.row HMp.out⟩ ?_
  simp only [Act.put, List.setIfInBounds_toArray, List.set_cons_zero, List.set_cons_succ]
  have H2 := Lib.hid h2; clear h2 ht hS hd
  refine midk_end ?_
  go_wp2
  go_ret
  exact ⟨rfl, S', H2.out⟩
set_option maxHeartbeats 600000 in
theorem rw1_0 (h : Apn w S0 R0 kept S R pw q d s W) (hB : (B, boxF p) ∈ kept) (hp : (p, objF cs) ∈ kept) {nm : Bool} {g : Nat} (hm : (Bm, objM nm 0 g) ∈ kept) (hx : (Bx, boxC bn) ∈ kept) {nn : Nat} {r : Fil.Row} (hmp : ContAt bn nn r W) (hs : Fil.Sorted r) (hfi : Fil.Fine r) (hsum : Fil.sum r ≤ 1099511627)
    (f n : Nat) (hf : f ≤ 1099511627) (har : ∀ j v, [Value.pointer (some ⟨q, 0, none⟩), .int .i64 (f : Int), .int .i64 (n : Int)][j]? = some v → cs[4 + j]? = some v) (hops : d.ops ≤ 1099511627) :
    Calls Tryz.prog 98 #[.pointer (some ⟨B, 0, none⟩), .pointer (some ⟨Bm, 0, none⟩), .pointer (some ⟨Bx, 0, none⟩)] W fun e W' => e = .returned (.int .i64 (Dsk.write d (f : Int) (Fil.atext r)).2) ∧ ∃ S', Apn w S0 R0 kept S' R pw q (Dsk.write d (f : Int) (Fil.atext r)).1 s W' := by
  have h1 : Apn w S0 R0 kept S R pw q d s W.drew := h.new ((Below.refl _ W).drew)
  have hmp1 : ContAt bn nn r W.drew := hmp.drew
  have H1 := Lib.hid h1; clear h1 h
  have Hmp := Lib.hid hmp1; clear hmp hmp1
  have HMB := Lib.hid hB; clear hB
  have HMp := Lib.hid hp; clear hp
  have HMm := Lib.hid hm; clear hm
  have HMx := Lib.hid hx; clear hx
  have Har := Lib.hid har; clear har
  have Hs := Lib.hid hs; clear hs
  have Hfi := Lib.hid hfi; clear hfi
  have Hsum := Lib.hid hsum; clear hsum
  have Hf := Lib.hid hf; clear hf
  have Hops := Lib.hid hops; clear hops
  go_enter Tryz.func98, Tryz.ntmps98
  go_wp2_with fail
  refine wp_region_phases [([0, 1, 2, 3, 4, 5, 6, 7], [8, 9])] (by kernel_rfl) (by kernel_rfl) (fun z => z.heap[Bm]? = some (objM nm 0 g) ∧ z.heap[B]? = some (boxF p) ∧ z.heap[p]? = some (objF cs) ∧ z.heap[Bx]? = some (boxC bn)) ⟨H1.out.row HMm.out, H1.out.row HMB.out, H1.out.row HMp.out, H1.out.row HMx.out⟩ ?_
  simp only [wpPhases, pick, List.filterMap_cons, List.filterMap_nil, List.getElem?_toArray, List.getElem?_cons_zero, List.getElem?_cons_succ]
  refine take_load 26 (.tmp 0) ⟨B, 0, none⟩ (.pointer (some ⟨p, 0, none⟩)) rfl rfl rfl (fun u hu => load_any Tryz.underlying26 Tryz.isAgg26 (by rw [cell_of_row u B 0 _ _ _ hu.2.1]; rfl)) ?_
  simp only [Act.put, List.setIfInBounds_toArray, List.set_cons_zero, List.set_cons_succ]
  refine take_one (.pointer (some ⟨Bm, 1, none⟩)) rfl (fun u _ => by go_simp) ?_
  simp only [Act.put, List.setIfInBounds_toArray, List.set_cons_zero, List.set_cons_succ]
  refine take_load 3 (.tmp 5) ⟨Bm, 1, none⟩ (.int .i64 (0 : Nat)) rfl rfl rfl (fun u hu => load_any Tryz.underlying3 Tryz.isAgg3 (by rw [cell_of_row u Bm 1 _ _ _ hu.1]; rfl)) ?_
  simp only [Act.put, List.setIfInBounds_toArray, List.set_cons_zero, List.set_cons_succ]
  refine take_nil (.tmp 4) ⟨p, 0, none⟩ rfl rfl rfl ?_
  simp only [Act.put, List.setIfInBounds_toArray, List.set_cons_zero, List.set_cons_succ]
  refine take_one (.pointer (some ⟨p, 4, none⟩)) rfl (fun u _ => by go_simp) ?_
  simp only [Act.put, List.setIfInBounds_toArray, List.set_cons_zero, List.set_cons_succ]
  refine take_one (.pointer (some ⟨p, 4, none⟩)) rfl (fun u hu => by go_simp) ?_
  simp only [Act.put, List.setIfInBounds_toArray, List.set_cons_zero, List.set_cons_succ]
  refine take_load 70 (.tmp 9) ⟨p, 4, none⟩ (.agg #[.pointer (some ⟨q, 0, none⟩), .int .i64 (f : Int), .int .i64 (n : Int)]) rfl rfl rfl (fun u hu => load_area u p 4 q f n (fun j v hv => by rw [cell_of_row u p (4 + j) _ _ _ hu.2.2.1]; exact Har.out j v hv)) ?_
  simp only [Act.put, List.setIfInBounds_toArray, List.set_cons_zero, List.set_cons_succ]
  refine take_load 74 (.tmp 2) ⟨Bx, 0, none⟩ (.map (some bn)) rfl rfl rfl (fun u hu => load_any Tryz.underlying74 Tryz.isAgg74 (by rw [cell_of_row u Bx 0 _ _ _ hu.2.2.2]; rfl)) ?_
  simp only [Act.put, List.setIfInBounds_toArray, List.set_cons_zero, List.set_cons_succ]
  refine take_done ?_
  refine midk_wp rfl (call_wp 99 [.tmp 10, .tmp 11] #[70, 74] #[areaV q f n, .map (some bn)] rfl rfl rfl ?_)
  refine (awrite_any H1.out.disk Hmp.out Hs.out Hfi.out Hsum.out f n Hf.out Hops.out).mono ?_
  rintro e wW ⟨rfl, ht, S', hS, hd⟩
  have h2 := H1.out.turnDisk ht hS hd
  refine ⟨_, rfl, ⟨h2.row HMm.out, h2.row HMB.out, h2.row HMp.out, h2.row HMx.out⟩, ?_⟩
  simp only [Act.put, List.setIfInBounds_toArray, List.set_cons_zero, List.set_cons_succ]
  refine midk_one (.int .i64 (Dsk.write d (f : Int) (Fil.atext r)).2) rfl rfl ⟨h2.row HMm.out, h2.row HMB.out, h2.row HMp.out, h2.row HMx.out⟩ ?_
  simp only [Act.put, List.setIfInBounds_toArray, List.set_cons_zero, List.set_cons_succ]
  have H2 := Lib.hid h2; clear h2 ht hS hd
  refine midk_end ?_
  go_wp2
  go_ret
  exact ⟨rfl, S', H2.out⟩
set_option maxHeartbeats 600000 in
theorem rw1_1 (h : Apn w S0 R0 kept S R pw q d s W) (hB : (B, boxF p) ∈ kept) (hp : (p, objF cs) ∈ kept) {nm : Bool} {g : Nat} (hm : (Bm, objM nm 1 g) ∈ kept) (hx : (Bx, boxC bn) ∈ kept) {nn : Nat} {r : Fil.Row} (hmp : ContAt bn nn r W) (hs : Fil.Sorted r) (hfi : Fil.Fine r) (hsum : Fil.sum r ≤ 1099511627)
    (f n : Nat) (hf : f ≤ 1099511627) (har : ∀ j v, [Value.pointer (some ⟨q, 0, none⟩), .int .i64 (f : Int), .int .i64 (n : Int)][j]? = some v → cs[7 + j]? = some v) (hops : d.ops ≤ 1099511627) :
    Calls Tryz.prog 98 #[.pointer (some ⟨B, 0, none⟩), .pointer (some ⟨Bm, 0, none⟩), .pointer (some ⟨Bx, 0, none⟩)] W fun e W' => e = .returned (.int .i64 (Dsk.write d (f : Int) (Fil.atext r)).2) ∧ ∃ S', Apn w S0 R0 kept S' R pw q (Dsk.write d (f : Int) (Fil.atext r)).1 s W' := by
  have h1 : Apn w S0 R0 kept S R pw q d s W.drew := h.new ((Below.refl _ W).drew)
  have hmp1 : ContAt bn nn r W.drew := hmp.drew
  have H1 := Lib.hid h1; clear h1 h
  have Hmp := Lib.hid hmp1; clear hmp hmp1
  have HMB := Lib.hid hB; clear hB
  have HMp := Lib.hid hp; clear hp
  have HMm := Lib.hid hm; clear hm
  have HMx := Lib.hid hx; clear hx
  have Har := Lib.hid har; clear har
  have Hs := Lib.hid hs; clear hs
  have Hfi := Lib.hid hfi; clear hfi
  have Hsum := Lib.hid hsum; clear hsum
  have Hf := Lib.hid hf; clear hf
  have Hops := Lib.hid hops; clear hops
  go_enter Tryz.func98, Tryz.ntmps98
  go_wp2_with fail
  refine wp_region_phases [([0, 1, 2, 3, 4, 5, 6, 7], [8, 9])] (by kernel_rfl) (by kernel_rfl) (fun z => z.heap[Bm]? = some (objM nm 1 g) ∧ z.heap[B]? = some (boxF p) ∧ z.heap[p]? = some (objF cs) ∧ z.heap[Bx]? = some (boxC bn)) ⟨H1.out.row HMm.out, H1.out.row HMB.out, H1.out.row HMp.out, H1.out.row HMx.out⟩ ?_
  simp only [wpPhases, pick, List.filterMap_cons, List.filterMap_nil, List.getElem?_toArray, List.getElem?_cons_zero, List.getElem?_cons_succ]
  refine take_load 26 (.tmp 0) ⟨B, 0, none⟩ (.pointer (some ⟨p, 0, none⟩)) rfl rfl rfl (fun u hu => load_any Tryz.underlying26 Tryz.isAgg26 (by rw [cell_of_row u B 0 _ _ _ hu.2.1]; rfl)) ?_
  simp only [Act.put, List.setIfInBounds_toArray, List.set_cons_zero, List.set_cons_succ]
  refine take_one (.pointer (some ⟨Bm, 1, none⟩)) rfl (fun u _ => by go_simp) ?_
  simp only [Act.put, List.setIfInBounds_toArray, List.set_cons_zero, List.set_cons_succ]
  refine take_load 3 (.tmp 5) ⟨Bm, 1, none⟩ (.int .i64 (1 : Nat)) rfl rfl rfl (fun u hu => load_any Tryz.underlying3 Tryz.isAgg3 (by rw [cell_of_row u Bm 1 _ _ _ hu.1]; rfl)) ?_
  simp only [Act.put, List.setIfInBounds_toArray, List.set_cons_zero, List.set_cons_succ]
  refine take_nil (.tmp 4) ⟨p, 0, none⟩ rfl rfl rfl ?_
  simp only [Act.put, List.setIfInBounds_toArray, List.set_cons_zero, List.set_cons_succ]
  refine take_one (.pointer (some ⟨p, 4, none⟩)) rfl (fun u _ => by go_simp) ?_
  simp only [Act.put, List.setIfInBounds_toArray, List.set_cons_zero, List.set_cons_succ]
  refine take_one (.pointer (some ⟨p, 7, none⟩)) rfl (fun u hu => by go_simp) ?_
  simp only [Act.put, List.setIfInBounds_toArray, List.set_cons_zero, List.set_cons_succ]
  refine take_load 70 (.tmp 9) ⟨p, 7, none⟩ (.agg #[.pointer (some ⟨q, 0, none⟩), .int .i64 (f : Int), .int .i64 (n : Int)]) rfl rfl rfl (fun u hu => load_area u p 7 q f n (fun j v hv => by rw [cell_of_row u p (7 + j) _ _ _ hu.2.2.1]; exact Har.out j v hv)) ?_
  simp only [Act.put, List.setIfInBounds_toArray, List.set_cons_zero, List.set_cons_succ]
  refine take_load 74 (.tmp 2) ⟨Bx, 0, none⟩ (.map (some bn)) rfl rfl rfl (fun u hu => load_any Tryz.underlying74 Tryz.isAgg74 (by rw [cell_of_row u Bx 0 _ _ _ hu.2.2.2]; rfl)) ?_
  simp only [Act.put, List.setIfInBounds_toArray, List.set_cons_zero, List.set_cons_succ]
  refine take_done ?_
  refine midk_wp rfl (call_wp 99 [.tmp 10, .tmp 11] #[70, 74] #[areaV q f n, .map (some bn)] rfl rfl rfl ?_)
  refine (awrite_any H1.out.disk Hmp.out Hs.out Hfi.out Hsum.out f n Hf.out Hops.out).mono ?_
  rintro e wW ⟨rfl, ht, S', hS, hd⟩
  have h2 := H1.out.turnDisk ht hS hd
  refine ⟨_, rfl, ⟨h2.row HMm.out, h2.row HMB.out, h2.row HMp.out, h2.row HMx.out⟩, ?_⟩
  simp only [Act.put, List.setIfInBounds_toArray, List.set_cons_zero, List.set_cons_succ]
  refine midk_one (.int .i64 (Dsk.write d (f : Int) (Fil.atext r)).2) rfl rfl ⟨h2.row HMm.out, h2.row HMB.out, h2.row HMp.out, h2.row HMx.out⟩ ?_
  simp only [Act.put, List.setIfInBounds_toArray, List.set_cons_zero, List.set_cons_succ]
  have H2 := Lib.hid h2; clear h2 ht hS hd
  refine midk_end ?_
  go_wp2
  go_ret
  exact ⟨rfl, S', H2.out⟩
end
end Go.Proofs.YtalklpnekbfehaaGreat

/-
  The last step of rewrite.
-/
set_option linter.unusedVariables false
set_option maxRecDepth 100000
namespace Go.Proofs.YtalklpnekbfehaaGreat
open Go.RowKit
section
variable {w : World} {S0 R0 : Nat → Prop} {kept : List (Nat × Obj)} {S R : Nat → Prop} {p q pw B Bm Bx bn : Nat} {d : Dsk.St} {s : Wal.St} {W W' : World} {cs : Array Value}
/-- a block that lay there, and that the caller may turn -/
theorem Apn.turnOwn {o o' : Obj} (h : Apn w S0 R0 ((p, o) :: kept) S R pw q d s W) (ht : Turns (fun j => j = p) W W') (ho : W'.heap[p]? = some o') (hk : ∀ y ∈ kept, y.1 ≠ p) (h0 : p < w.heap.size → S0 p ∨ R0 p) : Apn w S0 R0 ((p, o') :: kept) S R pw q d s W' := by
  obtain ⟨hrow, hS, hR⟩ := h.rows (p, o) (by simp)
  refine ⟨h.disk.keeps ht (fun j hj e => hS (by rw [← e]; exact hj)), h.wal.keeps ht (fun j hj e => hR (by rw [← e]; exact hj)), h.apart, fun x hx => ?_, h.loS, h.loR, h.turns.trans ht (fun j hj e => by subst e; exact h0 hj)⟩
  rcases List.mem_cons.1 hx with rfl | hx
  · exact ⟨ho, hS, hR⟩
  · obtain ⟨h1, h2, h3⟩ := h.rows x (by simp [hx])
    exact ⟨ht.same h1 (fun e => hk x hx e), h2, h3⟩
theorem Apn.widen {S0' R0' : Nat → Prop} (h : Apn w S0 R0 kept S R pw q d s W) (hS : ∀ j, S0 j → S0' j) (hR : ∀ j, R0 j → R0' j) : Apn w S0' R0' kept S R pw q d s W :=
  ⟨h.disk, h.wal, h.apart, h.rows, fun j hj => (h.loS j hj).imp (hS j) id, fun j hj => (h.loR j hj).imp (hR j) id, h.turns.mono (fun j _ e => e.imp (hS j) (hR j))⟩
/-- .. with this mark -/
def setM (cs : Array Value) (nm : Bool) (a g : Nat) : Array Value := ((cs.setIfInBounds 0 (.bool nm)).setIfInBounds 1 (.int .i64 (a : Int))).setIfInBounds 2 (.int .u64 (g : Int))
theorem rw6_any (h : Apn w S0 R0 ((p, objF cs) :: kept) S R pw q d s W) (hB : (B, boxF p) ∈ kept) {nm : Bool} {a g : Nat} (hm : (Bm, objM nm a g) ∈ kept) (hk : ∀ y ∈ kept, y.1 ≠ p) (h0 : p < w.heap.size → S0 p ∨ R0 p) {x0 x1 x2 : Value} (e0 : cs[0]? = some x0) (e1 : cs[1]? = some x1) (e2 : cs[2]? = some x2) :
    Calls Tryz.prog 105 #[.pointer (some ⟨Bm, 0, none⟩), .pointer (some ⟨B, 0, none⟩)] W fun e W' => e = .returned (.int .i64 0) ∧ Apn w S0 R0 ((p, objF (setM cs nm a g)) :: kept) S R pw q d s W' := by
  have cB := h.cBox (p := p) (List.mem_cons_of_mem _ hB)
  have hrm := h.row (List.mem_cons_of_mem (p, objF cs) hm)
  have m0 : W.cell? ⟨Bm, 0, none⟩ = some (.bool nm) := by rw [cell_of_row _ _ 0 _ _ _ hrm]; rfl
  have m1 : W.cell? ⟨Bm, 1, none⟩ = some (.int .i64 (a : Int)) := by rw [cell_of_row _ _ 1 _ _ _ hrm]; rfl
  have m2 : W.cell? ⟨Bm, 2, none⟩ = some (.int .u64 (g : Int)) := by rw [cell_of_row _ _ 2 _ _ _ hrm]; rfl
  have hrp : W.heap[p]? = some (.cells cs 76 (0, 0)) := h.row (o := objF cs) List.mem_cons_self
  have p0 : W.cell? ⟨p, 0, none⟩ = some x0 := by rw [cell_of_row _ _ 0 _ _ _ hrp]; exact e0
  have p1 : W.cell? ⟨p, 1, none⟩ = some x1 := by rw [cell_of_row _ _ 1 _ _ _ hrp]; exact e1
  have p2 : W.cell? ⟨p, 2, none⟩ = some x2 := by rw [cell_of_row _ _ 2 _ _ _ hrp]; exact e2
  have f0 := row_free hrp 0
  have f1 := row_free hrp 1
  have f2 := row_free hrp 2
  have q1 := heap_setCell_same W p 0 cs _ (.bool nm) hrp
  have q2 := heap_setCell_same _ p 1 _ _ (.int .i64 (a : Int)) q1
  have ho : (((W.setCell ⟨p, 0, none⟩ (.bool nm)).setCell ⟨p, 1, none⟩ (.int .i64 (a : Int))).setCell ⟨p, 2, none⟩ (.int .u64 (g : Int))).heap[p]? = some (objF (setM cs nm a g)) := heap_setCell_same _ p 2 _ _ (.int .u64 (g : Int)) q2
  have ht : Turns (fun j => j = p) W (((W.setCell ⟨p, 0, none⟩ (.bool nm)).setCell ⟨p, 1, none⟩ (.int .i64 (a : Int))).setCell ⟨p, 2, none⟩ (.int .u64 (g : Int))) :=
    (((Turns.refl (fun j => j = p) W).set p 0 _ (fun _ => rfl)).set p 1 _ (fun _ => rfl)).set p 2 _ (fun _ => rfl)
  have h2 := h.turnOwn ht ho hk h0
  have H2 := Lib.hid h2; clear h2 h ht ho
  clear q1 q2
  clear hB hm hk h0 e0 e1 e2 hrp hrm
  go_enter Tryz.func105, Tryz.ntmps105
  go_wp2
  go_ret
  exact ⟨rfl, H2.out⟩
end
end Go.Proofs.YtalklpnekbfehaaGreat

/-
  rewrite's steps, one after another.
-/
set_option linter.unusedVariables false
set_option maxRecDepth 100000
namespace Go.Proofs.YtalklpnekbfehaaGreat
open Go.RowKit

namespace Fil
/-- the disk, its answer behind each of rewrite's steps: the files r go to f, the header names a, g -/
def rwD1 (d : Dsk.St) (f : Nat) (r : Row) : Dsk.St := (Dsk.write d (f : Int) (atext r)).1
def rwD2 (d : Dsk.St) (f : Nat) (r : Row) : Dsk.St := (Dsk.flush (rwD1 d f r)).1
def rwD3 (d : Dsk.St) (f : Nat) (r : Row) (a g : Nat) : Dsk.St := (Dsk.write (rwD2 d f r) 0 (mark a g)).1
def rwD4 (d : Dsk.St) (f : Nat) (r : Row) (a g : Nat) : Dsk.St := (Dsk.flush (rwD3 d f r a g)).1
def rwD (d : Dsk.St) (s : Wal.St) (f : Nat) (r : Row) (a g : Nat) : Nat → Dsk.St
  | 0 => d
  | 1 => rwD1 d f r
  | 2 => rwD2 d f r
  | 3 => rwD3 d f r a g
  | 4 => rwD4 d f r a g
  | _ => (Wal.reset (rwD4 d f r a g) s).1
def rwE (d : Dsk.St) (s : Wal.St) (f : Nat) (r : Row) (a g : Nat) : Nat → Int
  | 0 => (Dsk.write d (f : Int) (atext r)).2
  | 1 => (Dsk.flush (rwD d s f r a g 1)).2
  | 2 => (Dsk.write (rwD d s f r a g 2) 0 (mark a g)).2
  | 3 => (Dsk.flush (rwD d s f r a g 3)).2
  | 4 => (Wal.reset (rwD d s f r a g 4) s).2.2
  | _ => 0
def rwS (d : Dsk.St) (s : Wal.St) (f : Nat) (r : Row) (a g : Nat) : Nat → Wal.St
  | 0 => s
  | 1 => s
  | 2 => s
  | 3 => s
  | 4 => s
  | _ => (Wal.reset (rwD d s f r a g 4) s).2.1
theorem rw_ops (d : Dsk.St) (s : Wal.St) (f : Nat) (r : Row) (a g : Nat) (hr : sum r ≤ 1099511627) (hd : d.ops ≤ 1000000000) : ∀ k, k ≤ 4 → (rwD d s f r a g k).ops ≤ 1099511627 := by
  have h1 := Dsk.write_ops d (f : Int) (atext r)
  rw [atext_length] at h1
  have hw := Wal.whole_hi (4 + used r)
  have hu : used r = 4 + sum r := rfl
  have h2 := Dsk.flush_ops (rwD d s f r a g 1)
  have h3 := Dsk.write_ops (rwD d s f r a g 2) 0 (mark a g)
  rw [mark_length] at h3
  have h4 := Dsk.flush_ops (rwD d s f r a g 3)
  have g1 : (rwD d s f r a g 1).ops ≤ d.ops + Wal.whole (4 + used r) * 64 / 64 := h1
  have g2 : (rwD d s f r a g 2).ops = (rwD d s f r a g 1).ops := h2
  have g3 : (rwD d s f r a g 3).ops ≤ (rwD d s f r a g 2).ops + 64 / 64 := h3
  have g4 : (rwD d s f r a g 4).ops = (rwD d s f r a g 3).ops := h4
  intro k hk
  match k, hk with
  | 0, _ => show d.ops ≤ _; omega
  | 1, _ => omega
  | 2, _ => omega
  | 3, _ => omega
  | 4, _ => omega
  | k + 5, h => omega
end Fil

def rwG : Nat → Nat
  | 0 => 98
  | 1 => 100
  | 2 => 101
  | 3 => 103
  | 4 => 104
  | _ => 105
def rwL (B Bm Bx : Nat) : Nat → Array Value
  | 0 => #[.pointer (some ⟨B, 0, none⟩), .pointer (some ⟨Bm, 0, none⟩), .pointer (some ⟨Bx, 0, none⟩)]
  | 1 => #[.pointer (some ⟨B, 0, none⟩)]
  | 2 => #[.pointer (some ⟨Bm, 0, none⟩), .pointer (some ⟨B, 0, none⟩)]
  | 3 => #[.pointer (some ⟨B, 0, none⟩)]
  | 4 => #[.pointer (some ⟨B, 0, none⟩)]
  | _ => #[.pointer (some ⟨Bm, 0, none⟩), .pointer (some ⟨B, 0, none⟩)]
def rwObj (B Bm Bx : Nat) : Obj := .cells #[fnv (rwG 0, rwL B Bm Bx 0), fnv (rwG 1, rwL B Bm Bx 1), fnv (rwG 2, rwL B Bm Bx 2), fnv (rwG 3, rwL B Bm Bx 3), fnv (rwG 4, rwL B Bm Bx 4), fnv (rwG 5, rwL B Bm Bx 5)] 33 (0, 0)
theorem rw_eg (i : Nat) (args : Array Value) (w : World) : (callFunc (rwG i) args).run Tryz.prog w = .ok (.enter (rwG i) args) w := by
  match i with
  | 0 => exact enters_of Tryz.func98 (by kernel_rfl) rfl args w
  | 1 => exact enters_of Tryz.func100 (by kernel_rfl) rfl args w
  | 2 => exact enters_of Tryz.func101 (by kernel_rfl) rfl args w
  | 3 => exact enters_of Tryz.func103 (by kernel_rfl) rfl args w
  | 4 => exact enters_of Tryz.func104 (by kernel_rfl) rfl args w
  | k + 5 => exact enters_of Tryz.func105 (by kernel_rfl) rfl args w
/-- the cells of the Files behind k steps -/
def rwC (cs : Array Value) (nm : Bool) (a g : Nat) : Nat → Array Value
  | 0 => cs
  | 1 => cs
  | 2 => cs
  | 3 => cs
  | 4 => cs
  | 5 => cs
  | _ => setM cs nm a g

section
variable {w : World} {S0 R0 : Nat → Prop} {kept : List (Nat × Obj)} {S R : Nat → Prop} {p q pw B Bm Bx bn fb : Nat} {d : Dsk.St} {s : Wal.St} {W : World} {cs : Array Value}
theorem rw_follow {m : Nat} (h : Apn w S0 R0 ((p, objF cs) :: kept) S R pw q d s W) (hB : (B, boxF p) ∈ kept) {a g : Nat} (hm : (Bm, objM true a g) ∈ kept) (hx : (Bx, boxC bn) ∈ kept) (hfb : (fb, rwObj B Bm Bx) ∈ kept) (hk : ∀ y ∈ kept, y.1 ≠ p) (h0 : p < w.heap.size → S0 p ∨ R0 p)
    (ha : a < 2) (hg : g < 18446744073709551616) {nn : Nat} {r : Fil.Row} (hmp : ContAt bn nn r W) (hs : Fil.Sorted r) (hfi : Fil.Fine r) (hsum : Fil.sum r ≤ 1099511627) (f n : Nat) (hf : f ≤ 1099511627)
    (har : ∀ j v, [Value.pointer (some ⟨q, 0, none⟩), .int .i64 (f : Int), .int .i64 (n : Int)][j]? = some v → cs[4 + 3 * a + j]? = some v) (h3 : cs[3]? = some (.pointer (some ⟨q, 0, none⟩))) (h10 : cs[10]? = some (.pointer (some ⟨pw, 0, none⟩)))
    {x0 x1 x2 : Value} (e0 : cs[0]? = some x0) (e1 : cs[1]? = some x1) (e2 : cs[2]? = some x2) (hok : s.Ok m) (hops : d.ops ≤ 1000000000) :
    Calls Tryz.prog 33 #[.slice (some ⟨fb, 0, none⟩) 6 6] W (Went 6 (Fil.rwE d s f r a g) (fun k W' => ∃ S' R', Apn w S0 R0 ((p, objF (rwC cs true a g k)) :: kept) S' R' pw q (Fil.rwD d s f r a g k) (Fil.rwS d s f r a g k) W')) := by
  have ho := Fil.rw_ops d s f r a g hsum hops
  have hmem : ∀ {x : Nat × Obj} {o : Obj}, x ∈ kept → x ∈ (p, o) :: kept := fun h => List.mem_cons_of_mem _ h
  refine follow_any fb 6 rwG (rwL B Bm Bx) (fun i _ => rw_eg i) (Fil.rwE d s f r a g) (fun k W' => (k = 0 → ContAt bn nn r W') ∧ ∃ S' R', Apn w S0 R0 ((p, objF (rwC cs true a g k)) :: kept) S' R' pw q (Fil.rwD d s f r a g k) (Fil.rwS d s f r a g k) W') (by omega) W ?_ ?_ ⟨fun _ => hmp, S, R, h⟩ |>.mono ?_
  · rintro j W' ⟨_, S', R', hI⟩ i hi
    rw [cell_of_row _ _ i _ _ _ (hI.row (hmem hfb))]
    match i, hi with
    | 0, _ => rfl
    | 1, _ => rfl
    | 2, _ => rfl
    | 3, _ => rfl
    | 4, _ => rfl
    | 5, _ => rfl
    | (m + 6), h => exact absurd h (by omega)
  · rintro j W' hj hz ⟨hm0, S', R', hI⟩
    match j, hj, hz, hI, hm0 with
    | 0, _, _, hI, hm0 =>
      rcases (show a = 0 ∨ a = 1 by omega) with rfl | rfl
      · exact (rw1_0 hI (hmem hB) (by simp [rwC]) (hmem hm) (hmem hx) (hm0 rfl) hs hfi hsum f n hf har (ho 0 (by omega))).mono fun e W2 ⟨h1, S2, h2⟩ => ⟨h1, (fun e => by cases e), S2, R', h2⟩
      · exact (rw1_1 hI (hmem hB) (by simp [rwC]) (hmem hm) (hmem hx) (hm0 rfl) hs hfi hsum f n hf har (ho 0 (by omega))).mono fun e W2 ⟨h1, S2, h2⟩ => ⟨h1, (fun e => by cases e), S2, R', h2⟩
    | 1, _, _, hI, _ => exact (rw2_any (cs := cs) hI (hmem hB) (by simp [rwC]) h3 (by have := ho 1 (by omega); omega)).mono fun e W2 ⟨h1, S2, h2⟩ => ⟨h1, (fun e => by cases e), S2, R', h2⟩
    | 2, _, _, hI, _ => exact (rw3_any (cs := cs) hI (hmem hB) (by simp [rwC]) (hmem hm) h3 (by omega) hg (ho 2 (by omega))).mono fun e W2 ⟨h1, S2, h2⟩ => ⟨h1, (fun e => by cases e), S2, R', h2⟩
    | 3, _, _, hI, _ => exact (rw4_any (cs := cs) hI (hmem hB) (by simp [rwC]) h3 (by have := ho 3 (by omega); omega)).mono fun e W2 ⟨h1, S2, h2⟩ => ⟨h1, (fun e => by cases e), S2, R', h2⟩
    | 4, _, _, hI, _ => exact (rw5_any (cs := cs) hI (hmem hB) (by simp [rwC]) h10 hok (by have := ho 4 (by omega); omega)).mono fun e W2 ⟨h1, S2, R2, h2⟩ => ⟨h1, (fun e => by cases e), S2, R2, h2⟩
    | 5, _, _, hI, _ => exact (rw6_any (cs := cs) hI hB hm hk h0 e0 e1 e2).mono fun e W2 ⟨h1, h2⟩ => ⟨h1, (fun e => by cases e), S', R', h2⟩
    | (m + 6), h, _, _, _ => exact absurd h (by omega)
  · rintro e W' ⟨k, hk1, hz, hcase⟩
    refine ⟨k, hk1, hz, ?_⟩
    rcases hcase with ⟨h1, h2, _, h3⟩ | ⟨h1, h2, h3, _, h4⟩
    · exact .inl ⟨h1, h2, h3⟩
    · exact .inr ⟨h1, h2, h3, h4⟩
end
end Go.Proofs.YtalklpnekbfehaaGreat
