/-
  The steps of rewrite.
-/
import Derived.Test.YticcipgdjpoimaaGreatFilRa
import Derived.Test.YticcipgdjpoimaaGreatWalB
set_option linter.unusedVariables false
set_option maxRecDepth 100000
namespace Go.Proofs.YticcipgdjpoimaaGreat
open Go.RowKit

def boxF (p : Nat) : Obj := .cells #[.pointer (some ⟨p, 0, none⟩)] 26 (0, 0)
def boxC (b : Nat) : Obj := .cells #[.map (some b)] 74 (0, 0)
def objF (cs : Array Value) : Obj := .cells cs 76 (0, 0)
def objM (nm : Bool) (a q : Nat) : Obj := .cells #[.bool nm, .int .i64 (a : Int), .int .u64 (q : Int)] 66 (0, 0)

section
variable {w : World} {S0 R0 : Nat → Prop} {kept : List (Nat × Obj)} {S R : Nat → Prop} {p q pw B Bm Bx bn : Nat} {d : Dsk.St} {s : Wal.St} {W : World} {cs : Array Value}
theorem Apn.cFil (h : Apn w S0 R0 kept S R pw q d s W) (hp : (p, objF cs) ∈ kept) (i : Nat) : W.cell? ⟨p, i, none⟩ = cs[i]? := cell_of_row _ _ _ _ _ _ (h.row hp)
theorem Apn.cBox (h : Apn w S0 R0 kept S R pw q d s W) (hB : (B, boxF p) ∈ kept) : W.cell? ⟨B, 0, none⟩ = some (.pointer (some ⟨p, 0, none⟩)) := by rw [cell_of_row _ _ 0 _ _ _ (h.row hB)]; rfl

theorem rw2_any (h : Apn w S0 R0 kept S R pw q d s W) (hB : (B, boxF p) ∈ kept) (hp : (p, objF cs) ∈ kept) (h3 : cs[3]? = some (.pointer (some ⟨q, 0, none⟩))) (hops : d.ops ≤ 1099511627776) :
    Calls Tryz.prog 100 #[.pointer (some ⟨B, 0, none⟩)] W fun e W' => e = .returned (.int .i64 (Dsk.flush d).2) ∧ ∃ S', Apn w S0 R0 kept S' R pw q (Dsk.flush d).1 s W' := by
  have c0 := h.cBox hB
  have c3 := h.cFil hp 3
  rw [h3] at c3
  have hfl := flush_all h.disk hops
  have H := Lib.hid h; clear h
  have Hfl := Lib.hid hfl; clear hfl
  clear hB hp h3
  go_enter Tryz.func100, Tryz.ntmps100
  go_wp2_with fail
  refine Hfl.out.mono ?_; rintro e w1 ⟨rfl, ht, S', hS, hd⟩
  have h1 := H.out.turnDisk ht hS hd
  have H1 := Lib.hid h1; clear h1 ht hS hd
  go_wp2_with fail
  go_ret
  exact ⟨rfl, S', H1.out⟩
theorem rw4_any (h : Apn w S0 R0 kept S R pw q d s W) (hB : (B, boxF p) ∈ kept) (hp : (p, objF cs) ∈ kept) (h3 : cs[3]? = some (.pointer (some ⟨q, 0, none⟩))) (hops : d.ops ≤ 1099511627776) :
    Calls Tryz.prog 103 #[.pointer (some ⟨B, 0, none⟩)] W fun e W' => e = .returned (.int .i64 (Dsk.flush d).2) ∧ ∃ S', Apn w S0 R0 kept S' R pw q (Dsk.flush d).1 s W' := by
  have c0 := h.cBox hB
  have c3 := h.cFil hp 3
  rw [h3] at c3
  have hfl := flush_all h.disk hops
  have H := Lib.hid h; clear h
  have Hfl := Lib.hid hfl; clear hfl
  clear hB hp h3
  go_enter Tryz.func103, Tryz.ntmps103
  go_wp2_with fail
  refine Hfl.out.mono ?_; rintro e w1 ⟨rfl, ht, S', hS, hd⟩
  have h1 := H.out.turnDisk ht hS hd
  have H1 := Lib.hid h1; clear h1 ht hS hd
  go_wp2_with fail
  go_ret
  exact ⟨rfl, S', H1.out⟩
theorem rw5_any {m : Nat} (h : Apn w S0 R0 kept S R pw q d s W) (hB : (B, boxF p) ∈ kept) (hp : (p, objF cs) ∈ kept) (h10 : cs[10]? = some (.pointer (some ⟨pw, 0, none⟩))) (hs : s.Ok m) (hops : d.ops ≤ 1099511500000) :
    Calls Tryz.prog 104 #[.pointer (some ⟨B, 0, none⟩)] W fun e W' => e = .returned (.int .i64 (Wal.reset d s).2.2) ∧ ∃ S' R', Apn w S0 R0 kept S' R' pw q (Wal.reset d s).1 (Wal.reset d s).2.1 W' := by
  have c0 := h.cBox hB
  have c10 := h.cFil hp 10
  rw [h10] at c10
  have hrs := reset_any h.disk h.wal h.apart hs hops
  have H := Lib.hid h; clear h
  have Hrs := Lib.hid hrs; clear hrs
  clear hB hp h10
  go_enter Tryz.func104, Tryz.ntmps104
  go_wp2_with fail
  refine Hrs.out.mono ?_; rintro e w1 ⟨rfl, S', R', k⟩
  have h1 := H.out.comp k
  have H1 := Lib.hid h1; clear h1 k
  go_wp2_with fail
  go_ret
  exact ⟨rfl, S', R', H1.out⟩
set_option maxHeartbeats 600000 in
theorem rw3_any (h : Apn w S0 R0 kept S R pw q d s W) (hB : (B, boxF p) ∈ kept) (hp : (p, objF cs) ∈ kept) {nm : Bool} {a g : Nat} (hm : (Bm, objM nm a g) ∈ kept) (h3 : cs[3]? = some (.pointer (some ⟨q, 0, none⟩))) (ha : a < 256) (hg : g < 18446744073709551616) (hops : d.ops ≤ 1099511627) :
    Calls Tryz.prog 101 #[.pointer (some ⟨Bm, 0, none⟩), .pointer (some ⟨B, 0, none⟩)] W fun e W' => e = .returned (.int .i64 (Dsk.write d 0 (Fil.mark a g)).2) ∧ ∃ S', Apn w S0 R0 kept S' R pw q (Dsk.write d 0 (Fil.mark a g)).1 s W' := by
  have h1 : Apn w S0 R0 kept S R pw q d s W.drew := h.new ((Below.refl _ W).drew)
  have H1 := Lib.hid h1; clear h1 h
  have HMB := Lib.hid hB; clear hB
  have HMp := Lib.hid hp; clear hp
  have HMm := Lib.hid hm; clear hm
  have H3 := Lib.hid h3; clear h3
  have Ha := Lib.hid ha; clear ha
  have Hg := Lib.hid hg; clear hg
  have Hops := Lib.hid hops; clear hops
  go_enter Tryz.func101, Tryz.ntmps101
  go_wp2_with fail
  refine wp_region_phases [([0, 1, 2, 3, 4], [5, 6])] (by kernel_rfl) (by kernel_rfl) (fun z => z.heap[Bm]? = some (objM nm a g) ∧ z.heap[B]? = some (boxF p) ∧ z.heap[p]? = some (objF cs)) ⟨H1.out.row HMm.out, H1.out.row HMB.out, H1.out.row HMp.out⟩ ?_
  simp only [wpPhases, pick, List.filterMap_cons, List.filterMap_nil, List.getElem?_toArray, List.getElem?_cons_zero, List.getElem?_cons_succ]
  refine take_load 66 (.tmp 0) ⟨Bm, 0, none⟩ (.agg #[.bool nm, .int .i64 (a : Int), .int .u64 (g : Int)]) rfl rfl rfl (fun u hu => load_row (P := Tryz.prog) u Bm 66 66 _ (0, 0) _ hu.1 Tryz.underlying66 rfl (by kernel_rfl)) ?_
  simp only [Act.put, List.setIfInBounds_toArray, List.set_cons_zero, List.set_cons_succ]
  refine take_load 26 (.tmp 1) ⟨B, 0, none⟩ (.pointer (some ⟨p, 0, none⟩)) rfl rfl rfl (fun u hu => load_any Tryz.underlying26 Tryz.isAgg26 (by rw [cell_of_row u B 0 _ _ _ hu.2.1]; rfl)) ?_
  simp only [Act.put, List.setIfInBounds_toArray, List.set_cons_zero, List.set_cons_succ]
  refine take_nil (.tmp 4) ⟨p, 0, none⟩ rfl rfl rfl ?_
  simp only [Act.put, List.setIfInBounds_toArray, List.set_cons_zero, List.set_cons_succ]
  refine take_one (.pointer (some ⟨p, 3, none⟩)) rfl (fun u _ => by go_simp) ?_
  simp only [Act.put, List.setIfInBounds_toArray, List.set_cons_zero, List.set_cons_succ]
  refine take_load 34 (.tmp 6) ⟨p, 3, none⟩ (.pointer (some ⟨q, 0, none⟩)) rfl rfl rfl (fun u hu => load_any Tryz.underlying34 Tryz.isAgg34 (by rw [cell_of_row u p 3 _ _ _ hu.2.2]; exact H3.out)) ?_
  simp only [Act.put, List.setIfInBounds_toArray, List.set_cons_zero, List.set_cons_succ]
  refine take_done ?_
  refine midk_wp rfl (call_wp 102 [.tmp 3, .tmp 7] #[66, 34] #[fmarkV nm a g, .pointer (some ⟨q, 0, none⟩)] rfl rfl rfl ?_)
  refine (mwrite_any H1.out.disk a g nm Ha.out Hg.out Hops.out).mono ?_
  rintro e wW ⟨rfl, ht, S', hS, hd⟩
  have h2 := H1.out.turnDisk ht hS hd
  refine ⟨_, rfl, ⟨h2.row HMm.out, h2.row HMB.out, h2.row HMp.out⟩, ?_⟩
  simp only [Act.put, List.setIfInBounds_toArray, List.set_cons_zero, List.set_cons_succ]
  refine midk_one (.int .i64 (Dsk.write d 0 (Fil.mark a g)).2) rfl rfl ⟨h2.row HMm.out, h2.row HMB.out, h2.row HMp.out⟩ ?_
  simp only [Act.put, List.setIfInBounds_toArray, List.set_cons_zero, List.set_cons_succ]
  have H2 := Lib.hid h2; clear h2 ht hS hd
  refine midk_end ?_
  go_wp2
  go_ret
  exact ⟨rfl, S', H2.out⟩
set_option maxHeartbeats 600000 in
theorem rw1_0 (h : Apn w S0 R0 kept S R pw q d s W) (hB : (B, boxF p) ∈ kept) (hp : (p, objF cs) ∈ kept) {nm : Bool} {g : Nat} (hm : (Bm, objM nm 0 g) ∈ kept) (hx : (Bx, boxC bn) ∈ kept) {nn : Nat} {r : Fil.Row} (hmp : ContAt bn nn r W) (hs : Fil.Sorted r) (hfi : Fil.Fine r) (hsum : Fil.sum r ≤ 1099511627)
    (f n : Nat) (hf : f ≤ 1099511627) (har : ∀ j v, [Value.pointer (some ⟨q, 0, none⟩), .int .i64 (f : Int), .int .i64 (n : Int)][j]? = some v → cs[4 + j]? = some v) (hops : d.ops ≤ 1099511627) :
    Calls Tryz.prog 98 #[.pointer (some ⟨B, 0, none⟩), .pointer (some ⟨Bm, 0, none⟩), .pointer (some ⟨Bx, 0, none⟩)] W fun e W' => e = .returned (.int .i64 (Dsk.write d (f : Int) (Fil.atext r)).2) ∧ ∃ S', Apn w S0 R0 kept S' R pw q (Dsk.write d (f : Int) (Fil.atext r)).1 s W' := by
  have h1 : Apn w S0 R0 kept S R pw q d s W.drew := h.new ((Below.refl _ W).drew)
  have hmp1 : ContAt bn nn r W.drew := hmp.drew
  have H1 := Lib.hid h1; clear h1 h
  have Hmp := Lib.hid hmp1; clear hmp hmp1
  have HMB := Lib.hid hB; clear hB
  have HMp := Lib.hid hp; clear hp
  have HMm := Lib.hid hm; clear hm
  have HMx := Lib.hid hx; clear hx
  have Har := Lib.hid har; clear har
  have Hs := Lib.hid hs; clear hs
  have Hfi := Lib.hid hfi; clear hfi
  have Hsum := Lib.hid hsum; clear hsum
  have Hf := Lib.hid hf; clear hf
  have Hops := Lib.hid hops; clear hops
  go_enter Tryz.func98, Tryz.ntmps98
  go_wp2_with fail
  refine wp_region_phases [([0, 1, 2, 3, 4, 5, 6, 7], [8, 9])] (by kernel_rfl) (by kernel_rfl) (fun z => z.heap[Bm]? = some (objM nm 0 g) ∧ z.heap[B]? = some (boxF p) ∧ z.heap[p]? = some (objF cs) ∧ z.heap[Bx]? = some (boxC bn)) ⟨H1.out.row HMm.out, H1.out.row HMB.out, H1.out.row HMp.out, H1.out.row HMx.out⟩ ?_
  simp only [wpPhases, pick, List.filterMap_cons, List.filterMap_nil, List.getElem?_toArray, List.getElem?_cons_zero, List.getElem?_cons_succ]
  refine take_load 26 (.tmp 0) ⟨B, 0, none⟩ (.pointer (some ⟨p, 0, none⟩)) rfl rfl rfl (fun u hu => load_any Tryz.underlying26 Tryz.isAgg26 (by rw [cell_of_row u B 0 _ _ _ hu.2.1]; rfl)) ?_
  simp only [Act.put, List.setIfInBounds_toArray, List.set_cons_zero, List.set_cons_succ]
  refine take_one (.pointer (some ⟨Bm, 1, none⟩)) rfl (fun u _ => by go_simp) ?_
  simp only [Act.put, List.setIfInBounds_toArray, List.set_cons_zero, List.set_cons_succ]
  refine take_load 3 (.tmp 5) ⟨Bm, 1, none⟩ (.int .i64 (0 : Nat)) rfl rfl rfl (fun u hu => load_any Tryz.underlying3 Tryz.isAgg3 (by rw [cell_of_row u Bm 1 _ _ _ hu.1]; rfl)) ?_
  simp only [Act.put, List.setIfInBounds_toArray, List.set_cons_zero, List.set_cons_succ]
  refine take_nil (.tmp 4) ⟨p, 0, none⟩ rfl rfl rfl ?_
  simp only [Act.put, List.setIfInBounds_toArray, List.set_cons_zero, List.set_cons_succ]
  refine take_one (.pointer (some ⟨p, 4, none⟩)) rfl (fun u _ => by go_simp) ?_
  simp only [Act.put, List.setIfInBounds_toArray, List.set_cons_zero, List.set_cons_succ]
  refine take_one (.pointer (some ⟨p, 4, none⟩)) rfl (fun u hu => by go_simp) ?_
  simp only [Act.put, List.setIfInBounds_toArray, List.set_cons_zero, List.set_cons_succ]
  refine take_load 70 (.tmp 9) ⟨p, 4, none⟩ (.agg #[.pointer (some ⟨q, 0, none⟩), .int .i64 (f : Int), .int .i64 (n : Int)]) rfl rfl rfl (fun u hu => load_area u p 4 q f n (fun j v hv => by rw [cell_of_row u p (4 + j) _ _ _ hu.2.2.1]; exact Har.out j v hv)) ?_
  simp only [Act.put, List.setIfInBounds_toArray, List.set_cons_zero, List.set_cons_succ]
  refine take_load 74 (.tmp 2) ⟨Bx, 0, none⟩ (.map (some bn)) rfl rfl rfl (fun u hu => load_any Tryz.underlying74 Tryz.isAgg74 (by rw [cell_of_row u Bx 0 _ _ _ hu.2.2.2]; rfl)) ?_
  simp only [Act.put, List.setIfInBounds_toArray, List.set_cons_zero, List.set_cons_succ]
  refine take_done ?_
  refine midk_wp rfl (call_wp 99 [.tmp 10, .tmp 11] #[70, 74] #[areaV q f n, .map (some bn)] rfl rfl rfl ?_)
  refine (awrite_any H1.out.disk Hmp.out Hs.out Hfi.out Hsum.out f n Hf.out Hops.out).mono ?_
  rintro e wW ⟨rfl, ht, S', hS, hd⟩
  have h2 := H1.out.turnDisk ht hS hd
  refine ⟨_, rfl, ⟨h2.row HMm.out, h2.row HMB.out, h2.row HMp.out, h2.row HMx.out⟩, ?_⟩
  simp only [Act.put, List.setIfInBounds_toArray, List.set_cons_zero, List.set_cons_succ]
  refine midk_one (.int .i64 (Dsk.write d (f : Int) (Fil.atext r)).2) rfl rfl ⟨h2.row HMm.out, h2.row HMB.out, h2.row HMp.out, h2.row HMx.out⟩ ?_
  simp only [Act.put, List.setIfInBounds_toArray, List.set_cons_zero, List.set_cons_succ]
  have H2 := Lib.hid h2; clear h2 ht hS hd
  refine midk_end ?_
  go_wp2
  go_ret
  exact ⟨rfl, S', H2.out⟩
set_option maxHeartbeats 600000 in
theorem rw1_1 (h : Apn w S0 R0 kept S R pw q d s W) (hB : (B, boxF p) ∈ kept) (hp : (p, objF cs) ∈ kept) {nm : Bool} {g : Nat} (hm : (Bm, objM nm 1 g) ∈ kept) (hx : (Bx, boxC bn) ∈ kept) {nn : Nat} {r : Fil.Row} (hmp : ContAt bn nn r W) (hs : Fil.Sorted r) (hfi : Fil.Fine r) (hsum : Fil.sum r ≤ 1099511627)
    (f n : Nat) (hf : f ≤ 1099511627) (har : ∀ j v, [Value.pointer (some ⟨q, 0, none⟩), .int .i64 (f : Int), .int .i64 (n : Int)][j]? = some v → cs[7 + j]? = some v) (hops : d.ops ≤ 1099511627) :
    Calls Tryz.prog 98 #[.pointer (some ⟨B, 0, none⟩), .pointer (some ⟨Bm, 0, none⟩), .pointer (some ⟨Bx, 0, none⟩)] W fun e W' => e = .returned (.int .i64 (Dsk.write d (f : Int) (Fil.atext r)).2) ∧ ∃ S', Apn w S0 R0 kept S' R pw q (Dsk.write d (f : Int) (Fil.atext r)).1 s W' := by
  have h1 : Apn w S0 R0 kept S R pw q d s W.drew := h.new ((Below.refl _ W).drew)
  have hmp1 : ContAt bn nn r W.drew := hmp.drew
  have H1 := Lib.hid h1; clear h1 h
  have Hmp := Lib.hid hmp1; clear hmp hmp1
  have HMB := Lib.hid hB; clear hB
  have HMp := Lib.hid hp; clear hp
  have HMm := Lib.hid hm; clear hm
  have HMx := Lib.hid hx; clear hx
  have Har := Lib.hid har; clear har
  have Hs := Lib.hid hs; clear hs
  have Hfi := Lib.hid hfi; clear hfi
  have Hsum := Lib.hid hsum; clear hsum
  have Hf := Lib.hid hf; clear hf
  have Hops := Lib.hid hops; clear hops
  go_enter Tryz.func98, Tryz.ntmps98
  go_wp2_with fail
  refine wp_region_phases [([0, 1, 2, 3, 4, 5, 6, 7], [8, 9])] (by kernel_rfl) (by kernel_rfl) (fun z => z.heap[Bm]? = some (objM nm 1 g) ∧ z.heap[B]? = some (boxF p) ∧ z.heap[p]? = some (objF cs) ∧ z.heap[Bx]? = some (boxC bn)) ⟨H1.out.row HMm.out, H1.out.row HMB.out, H1.out.row HMp.out, H1.out.row HMx.out⟩ ?_
  simp only [wpPhases, pick, List.filterMap_cons, List.filterMap_nil, List.getElem?_toArray, List.getElem?_cons_zero, List.getElem?_cons_succ]
  refine take_load 26 (.tmp 0) ⟨B, 0, none⟩ (.pointer (some ⟨p, 0, none⟩)) rfl rfl rfl (fun u hu => load_any Tryz.underlying26 Tryz.isAgg26 (by rw [cell_of_row u B 0 _ _ _ hu.2.1]; rfl)) ?_
  simp only [Act.put, List.setIfInBounds_toArray, List.set_cons_zero, List.set_cons_succ]
  refine take_one (.pointer (some ⟨Bm, 1, none⟩)) rfl (fun u _ => by go_simp) ?_
  simp only [Act.put, List.setIfInBounds_toArray, List.set_cons_zero, List.set_cons_succ]
  refine take_load 3 (.tmp 5) ⟨Bm, 1, none⟩ (.int .i64 (1 : Nat)) rfl rfl rfl (fun u hu => load_any Tryz.underlying3 Tryz.isAgg3 (by rw [cell_of_row u Bm 1 _ _ _ hu.1]; rfl)) ?_
  simp only [Act.put, List.setIfInBounds_toArray, List.set_cons_zero, List.set_cons_succ]
  refine take_nil (.tmp 4) ⟨p, 0, none⟩ rfl rfl rfl ?_
  simp only [Act.put, List.setIfInBounds_toArray, List.set_cons_zero, List.set_cons_succ]
  refine take_one (.pointer (some ⟨p, 4, none⟩)) rfl (fun u _ => by go_simp) ?_
  simp only [Act.put, List.setIfInBounds_toArray, List.set_cons_zero, List.set_cons_succ]
  refine take_one (.pointer (some ⟨p, 7, none⟩)) rfl (fun u hu => by go_simp) ?_
  simp only [Act.put, List.setIfInBounds_toArray, List.set_cons_zero, List.set_cons_succ]
  refine take_load 70 (.tmp 9) ⟨p, 7, none⟩ (.agg #[.pointer (some ⟨q, 0, none⟩), .int .i64 (f : Int), .int .i64 (n : Int)]) rfl rfl rfl (fun u hu => load_area u p 7 q f n (fun j v hv => by rw [cell_of_row u p (7 + j) _ _ _ hu.2.2.1]; exact Har.out j v hv)) ?_
  simp only [Act.put, List.setIfInBounds_toArray, List.set_cons_zero, List.set_cons_succ]
  refine take_load 74 (.tmp 2) ⟨Bx, 0, none⟩ (.map (some bn)) rfl rfl rfl (fun u hu => load_any Tryz.underlying74 Tryz.isAgg74 (by rw [cell_of_row u Bx 0 _ _ _ hu.2.2.2]; rfl)) ?_
  simp only [Act.put, List.setIfInBounds_toArray, List.set_cons_zero, List.set_cons_succ]
  refine take_done ?_
  refine midk_wp rfl (call_wp 99 [.tmp 10, .tmp 11] #[70, 74] #[areaV q f n, .map (some bn)] rfl rfl rfl ?_)
  refine (awrite_any H1.out.disk Hmp.out Hs.out Hfi.out Hsum.out f n Hf.out Hops.out).mono ?_
  rintro e wW ⟨rfl, ht, S', hS, hd⟩
  have h2 := H1.out.turnDisk ht hS hd
  refine ⟨_, rfl, ⟨h2.row HMm.out, h2.row HMB.out, h2.row HMp.out, h2.row HMx.out⟩, ?_⟩
  simp only [Act.put, List.setIfInBounds_toArray, List.set_cons_zero, List.set_cons_succ]
  refine midk_one (.int .i64 (Dsk.write d (f : Int) (Fil.atext r)).2) rfl rfl ⟨h2.row HMm.out, h2.row HMB.out, h2.row HMp.out, h2.row HMx.out⟩ ?_
  simp only [Act.put, List.setIfInBounds_toArray, List.set_cons_zero, List.set_cons_succ]
  have H2 := Lib.hid h2; clear h2 ht hS hd
  refine midk_end ?_
  go_wp2
  go_ret
  exact ⟨rfl, S', H2.out⟩
end
end Go.Proofs.YticcipgdjpoimaaGreat
