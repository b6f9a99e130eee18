/-
  A step of a script, of both logs.
-/
import Derived.Test.YtjmpagbjkehebaaGreatWpOpen
import Derived.Test.YtjmpagbjkehebaaGreatWalHeavy
set_option linter.unusedVariables false
set_option maxRecDepth 100000
namespace Go.Proofs.YtjmpagbjkehebaaGreat
open Go.RowKit

def stpc (xd xn : Int) (xa : Option Addr) (xl : List ByteArray) (xc : Nat) (xk : ByteArray) : Array Value := #[.int .i64 xd, .int .i64 xn, .slice xa xl.length xc, .string xk]
theorem own_off {B : Nat} {S R : Nat → Prop} {a : Option Addr} {len cap : Nat} {l : List ByteArray} {w : World} (h : Own B (.slice a len cap) l w) (hS : ∀ j, (S j ∨ R j) → j < B) : ∀ b off, 0 < len → a = some ⟨b, off, none⟩ → ¬ (S b ∨ R b) := by
  rintro b off hl rfl e
  obtain ⟨_, h | ⟨g, c2, cur, hv, hg, _⟩⟩ := h
  · simp at h
  · simp only [Value.slice.injEq, Option.some.injEq, Addr.mk.injEq] at hv
    have := hS b e
    omega
theorem getD_le {l : List ByteArray} (h : ∀ y ∈ l, y.size ≤ 140737488351232) : ∀ j, (l.getD j .empty).size ≤ 9223372036854700000 := fun j => by
  have := getD_size_le l 140737488351232 h j
  omega
theorem POpnR.off {o : Option Wal.St × Int} {pp pd pr b : Nat} {w w' : World} {e : Ending} {x : Obj} (k : POpnR o pp pd pr w e w') (hx : w.heap[b]? = some x) (hb : b ≠ pp) : w'.heap[b]? = some x := by
  obtain ⟨_, ⟨_, h⟩ | ⟨s, R, Q, pw, px, w1, _, h, _, _, _, _, _, rfl⟩⟩ := k
  · rw [h.block _ (row_lt hx)]; exact hx
  · have h1 : w1.heap[b]? = some x := by rw [h.block _ (row_lt hx)]; exact hx
    exact (pw_turns w1 pp _ _).same h1 hb

theorem Pw.c0 {B : Nat} {W : World} {S R T Q : Nat → Prop} {pp pd pr pw px : Nat} {fr n : Int} {dl dr : Dsk.St} {sl sr : Wal.St} {w : World} (h : Pw B W S R T Q pp pd pr pw px fr n dl sl dr sr w) : w.cell? ⟨pp, 0, none⟩ = some (.pointer (some ⟨pd, 0, none⟩)) := by
  rw [cell_of_row _ _ 0 _ _ _ h.row]; rfl
/-- what a step leaves -/
def PdoR (W : World) (pp pd pr : Nat) (fr n : Int) (d : Dsk.St) (e : Ending) (w' : World) : Prop :=
  ∃ S' R' T' Q' pw' px' d' s', e = .returned (.bool true) ∧ Pw W.heap.size W S' R' T' Q' pp pd pr pw' px' fr n d' s' d' s' w' ∧ s'.Ok d'.n ∧ d'.ops ≤ d.ops + 16385

section
variable {W : World} {S R T Q : Nat → Prop} {pp pd pr pw px : Nat} {fr n : Int} {d : Dsk.St} {s : Wal.St} {w : World}
set_option maxHeartbeats 3000000 in
theorem pdoes_any (h : Pw W.heap.size W S R T Q pp pd pr pw px fr n d s d s w) (hs : s.Ok d.n) (hops : d.ops ≤ 1099511200000) (hf : -9223372036854775808 ≤ fr ∧ fr ≤ 9223372036854775807) (hn : -9223372036854775808 ≤ n ∧ n ≤ 9223372036854775807)
    (xd xn : Int) (xa : Option Addr) (xl : List ByteArray) (xc : Nat) (xk : ByteArray) (hxd : I64 xd) (hxn : I64 xn) (hst : Strs xa xl.length xl W) (hz : xa = none → xc = 0) (hll : xl.length ≤ 8796093022208) (hls : ∀ y ∈ xl, y.size ≤ 140737488351232) (hxk : xk.size ≤ 1048576) :
    Calls Tryz.prog 23 #[.pointer (some ⟨pp, 0, none⟩), .agg #[.int .i64 xd, .int .i64 xn, .slice xa xl.length xc, .string xk]] w (PdoR W pp pd pr fr n d) := by
  have hXB : ∀ b off, 0 < xl.length → xa = some ⟨b, off, none⟩ → b < W.heap.size := fun b off h0 h1 => by
    obtain ⟨b', off', h2, h3⟩ := hst.2 0 h0
    rw [h1] at h2
    simp only [Option.some.injEq, Addr.mk.injEq] at h2
    rw [h2.1]
    exact cell_lt h3
  have HXB := Lib.hid hXB; clear hXB
  have HXS := Lib.hid (fun (u : World) (hu : Below W.heap.size W u) => hst.keep hu)
  obtain ⟨b, hb⟩ : ∃ b, w.heap.size = b := ⟨_, rfl⟩
  obtain ⟨wA, hwA⟩ : ∃ wA, wA = w.alloc (.cells (stpc xd xn xa xl xc xk) 26) := ⟨_, rfl⟩
  have h1 : Pw W.heap.size W S R T Q pp pd pr pw px fr n d s d s wA := by rw [hwA]; exact h.new ((Below.refl _ w).alloc (Nat.le_refl _) _)
  have hB : wA.heap[b]? = some (.cells (stpc xd xn xa xl xc xk) 26 (0, 0)) := by rw [hwA, ← hb]; exact heap_alloc_new w _
  have hBo : ¬ ((S b ∨ R b) ∨ (T b ∨ Q b)) := fun e => by have := h.lt b e; omega
  have hBp : b ≠ pp := by have := row_lt h.row; omega
  have HBo := Lib.hid hBo; clear hBo
  have HBp := Lib.hid hBp; clear hBp
  have c0 : wA.cell? ⟨b, 0, none⟩ = some (.int .i64 xd) := by rw [cell_of_row _ _ 0 _ _ _ hB]; rfl
  have HB := Lib.hid hB; clear hB
  have H1 := Lib.hid h1
  have Hs := Lib.hid hs; clear hs
  have Hz := Lib.hid hz; clear hz
  have Hll := Lib.hid hll; clear hll
  have Hls := Lib.hid hls; clear hls
  have Hxn := Lib.hid hxn; clear hxn
  have HwA := Lib.hid hwA
  clear h hst
  subst hb
  have hwA2 : w.alloc (.cells #[.int .i64 xd, .int .i64 xn, .slice xa xl.length xc, .string xk] 26) = wA := hwA.symm
  clear hwA
  unfold I64 at hxd
  clear h1
  generalize hb : w.heap.size = b at *
  by_cases h0 : xd = 0
  · have y0 : (xd == 0) = true := by rw [beq_iff_eq]; exact h0
    clear h0
    go_enter Tryz.func23, Tryz.ntmps23
    go_wp2_with fail
    have h1 := H1.out.new ((Below.refl _ _).drew)
    refine wp_region_phases [([0, 1, 2, 3, 4, 5, 8, 9, 10, 11, 12, 13], [6, 7, 14, 15, 16])] (by kernel_rfl) (by kernel_rfl) (fun z => z.heap[pp]? = some (prObj pd pr (.pointer (some ⟨pw, 0, none⟩)) (.pointer (some ⟨px, 0, none⟩)) fr n) ∧ z.heap[b]? = some (.cells (stpc xd xn xa xl xc xk) 26 (0, 0))) ⟨h1.row, HB.out⟩ ?_
    simp only [wpPhases, pick, List.filterMap_cons, List.filterMap_nil, List.getElem?_toArray, List.getElem?_cons_zero, List.getElem?_cons_succ]
    refine take_move (.tmp 0) (.pointer (some ⟨pp, 0, none⟩)) rfl rfl rfl ?_
    simp only [Act.put, List.setIfInBounds_toArray, List.set_cons_zero, List.set_cons_succ]
    refine take_nil (.tmp 9) ⟨pp, 0, none⟩ rfl rfl rfl ?_
    simp only [Act.put, List.setIfInBounds_toArray, List.set_cons_zero, List.set_cons_succ]
    refine take_one (.pointer (some ⟨pp, 2, none⟩)) rfl (fun u _ => by go_simp) ?_
    simp only [Act.put, List.setIfInBounds_toArray, List.set_cons_zero, List.set_cons_succ]
    refine take_load 29 (.tmp 11) ⟨pp, 2, none⟩ (.pointer (some ⟨pw, 0, none⟩)) rfl rfl rfl (fun u hu => load_any Tryz.underlying29 Tryz.isAgg29 (by rw [cell_of_row u _ 2 _ _ _ hu.1]; rfl)) ?_
    simp only [Act.put, List.setIfInBounds_toArray, List.set_cons_zero, List.set_cons_succ]
    refine take_one (.pointer (some ⟨b, 2, none⟩)) rfl (fun u _ => by go_simp) ?_
    simp only [Act.put, List.setIfInBounds_toArray, List.set_cons_zero, List.set_cons_succ]
    refine take_load 23 (.tmp 13) ⟨b, 2, none⟩ (.slice xa xl.length xc) rfl rfl rfl (fun u hu => load_any Tryz.underlying23 Tryz.isAgg23 (by rw [cell_of_row u _ 2 _ _ _ hu.2]; rfl)) ?_
    simp only [Act.put, List.setIfInBounds_toArray, List.set_cons_zero, List.set_cons_succ]
    refine take_move (.tmp 0) (.pointer (some ⟨pp, 0, none⟩)) rfl rfl rfl ?_
    simp only [Act.put, List.setIfInBounds_toArray, List.set_cons_zero, List.set_cons_succ]
    refine take_nil (.tmp 17) ⟨pp, 0, none⟩ rfl rfl rfl ?_
    simp only [Act.put, List.setIfInBounds_toArray, List.set_cons_zero, List.set_cons_succ]
    refine take_one (.pointer (some ⟨pp, 3, none⟩)) rfl (fun u _ => by go_simp) ?_
    simp only [Act.put, List.setIfInBounds_toArray, List.set_cons_zero, List.set_cons_succ]
    refine take_load 47 (.tmp 19) ⟨pp, 3, none⟩ (.pointer (some ⟨px, 0, none⟩)) rfl rfl rfl (fun u hu => load_any Tryz.underlying47 Tryz.isAgg47 (by rw [cell_of_row u _ 3 _ _ _ hu.1]; rfl)) ?_
    simp only [Act.put, List.setIfInBounds_toArray, List.set_cons_zero, List.set_cons_succ]
    refine take_one (.pointer (some ⟨b, 2, none⟩)) rfl (fun u _ => by go_simp) ?_
    simp only [Act.put, List.setIfInBounds_toArray, List.set_cons_zero, List.set_cons_succ]
    refine take_load 23 (.tmp 21) ⟨b, 2, none⟩ (.slice xa xl.length xc) rfl rfl rfl (fun u hu => load_any Tryz.underlying23 Tryz.isAgg23 (by rw [cell_of_row u _ 2 _ _ _ hu.2]; rfl)) ?_
    simp only [Act.put, List.setIfInBounds_toArray, List.set_cons_zero, List.set_cons_succ]
    refine take_done ?_
    obtain ⟨u9, wb, hrun, hown9, hbb⟩ := run_append_strs (w := wA.drew) (HXS.out _ (H1.out.below.drew)) Hz.out Hll.out
    obtain ⟨a8, c8, hv8, hst8, _⟩ := hown9.strs
    subst hv8
    have h2 := (h1.new hbb)
    have e2 : wb.heap[b]? = some (.cells (stpc xd xn xa xl xc xk) 26 (0, 0)) := by rw [hbb.block _ (row_lt HB.out)]; exact HB.out
    refine midk_wp rfl (wp_append_run (.const (.slice none 0 0)) (.tmp 14) 23 rfl (.slice none 0 0) (.slice xa xl.length xc) rfl rfl hrun ⟨⟨h2.row, e2⟩, ?_⟩)
    refine midk_wp rfl (call_wp 12 [.tmp 12, .tmp 15] #[29, 23] #[.pointer (some ⟨pw, 0, none⟩), .slice a8 xl.length c8] rfl rfl rfl ?_)
    refine (append_any h2.disk h2.wal h2.aL Hs.out (by omega) a8 xl.length c8 (lists xl) (by rw [bas_lists]; exact hst8) (own_off hown9 (fun j hj => h1.lt j (.inl hj))) (by have := Hll.out; omega) (by rw [bas_lists]; exact getD_le Hls.out)).mono ?_
    rintro e w3 ⟨rfl, S3, R3, k3⟩
    have h3 := h2.left k3
    have e3 : w3.heap[b]? = some (.cells (stpc xd xn xa xl xc xk) 26 (0, 0)) := k3.turns.same e2 (fun e => HBo.out (.inl e))
    refine ⟨_, rfl, ⟨h3.row, e3⟩, ?_⟩
    refine midk_wp rfl (call_wp 71 [.tmp 20, .tmp 22] #[47, 23] #[.pointer (some ⟨px, 0, none⟩), .slice xa xl.length xc] rfl rfl rfl ?_)
    refine (rwAppend_any h3.ref h3.log h3.aR Hs.out (by omega) xa xl.length xc (lists xl) (by rw [bas_lists]; exact HXS.out _ h3.below) Hz.out (fun b0 off h0 h1 h2 => by have h5 := HXB.out b0 off h0 h1; have h6 := h3.lo b0 (.inr h2); omega) Hll.out (by rw [bas_lists]; exact getD_le Hls.out)).mono ?_
    rintro e w4 ⟨rfl, T4, Q4, k4⟩
    have h4 := h3.right k4
    have e4 : w4.heap[b]? = some (.cells (stpc xd xn xa xl xc xk) 26 (0, 0)) := k4.turns.same e3 (fun e => HBo.out (.inr e))
    refine ⟨_, rfl, ⟨h4.row, e4⟩, ?_⟩
    refine midk_one (.bool true) rfl (by go_simp) ⟨h4.row, e4⟩ ?_
    simp only [Act.put, List.setIfInBounds_toArray, List.set_cons_zero, List.set_cons_succ]
    refine midk_one (.bool true) rfl rfl ⟨h4.row, e4⟩ ?_
    refine midk_end ?_
    have H4 := Lib.hid h4; clear h4
    clear h1 h2 h3 k3 k4 e2 e3 e4 hrun hown9 hst8 hbb
    go_wp2_with fail
    go_ret
    exact ⟨_, _, _, _, _, _, _, _, rfl, H4.out, by rw [Wal.append_n]; exact Wal.append_ok Hs.out _, Wal.append_ops Hs.out _⟩
  have y0 : (xd == 0) = false := by rw [beq_eq_false_iff_ne]; exact h0
  clear h0
  by_cases h0 : xd = 1
  · have y1 : (xd == 1) = true := by rw [beq_iff_eq]; exact h0
    clear h0
    go_enter Tryz.func23, Tryz.ntmps23
    go_wp2_with fail
    have h1 := H1.out.new ((Below.refl _ _).drew)
    refine wp_region_phases [([0, 1, 2, 3, 5, 6, 7, 8], [4, 9, 10, 11])] (by kernel_rfl) (by kernel_rfl) (fun z => z.heap[pp]? = some (prObj pd pr (.pointer (some ⟨pw, 0, none⟩)) (.pointer (some ⟨px, 0, none⟩)) fr n) ∧ z.heap[b]? = some (.cells (stpc xd xn xa xl xc xk) 26 (0, 0))) ⟨h1.row, HB.out⟩ ?_
    simp only [wpPhases, pick, List.filterMap_cons, List.filterMap_nil, List.getElem?_toArray, List.getElem?_cons_zero, List.getElem?_cons_succ]
    refine take_move (.tmp 0) (.pointer (some ⟨pp, 0, none⟩)) rfl rfl rfl ?_
    simp only [Act.put, List.setIfInBounds_toArray, List.set_cons_zero, List.set_cons_succ]
    refine take_nil (.tmp 27) ⟨pp, 0, none⟩ rfl rfl rfl ?_
    simp only [Act.put, List.setIfInBounds_toArray, List.set_cons_zero, List.set_cons_succ]
    refine take_one (.pointer (some ⟨pp, 2, none⟩)) rfl (fun u _ => by go_simp) ?_
    simp only [Act.put, List.setIfInBounds_toArray, List.set_cons_zero, List.set_cons_succ]
    refine take_load 29 (.tmp 29) ⟨pp, 2, none⟩ (.pointer (some ⟨pw, 0, none⟩)) rfl rfl rfl (fun u hu => load_any Tryz.underlying29 Tryz.isAgg29 (by rw [cell_of_row u _ 2 _ _ _ hu.1]; rfl)) ?_
    simp only [Act.put, List.setIfInBounds_toArray, List.set_cons_zero, List.set_cons_succ]
    refine take_move (.tmp 0) (.pointer (some ⟨pp, 0, none⟩)) rfl rfl rfl ?_
    simp only [Act.put, List.setIfInBounds_toArray, List.set_cons_zero, List.set_cons_succ]
    refine take_nil (.tmp 32) ⟨pp, 0, none⟩ rfl rfl rfl ?_
    simp only [Act.put, List.setIfInBounds_toArray, List.set_cons_zero, List.set_cons_succ]
    refine take_one (.pointer (some ⟨pp, 3, none⟩)) rfl (fun u _ => by go_simp) ?_
    simp only [Act.put, List.setIfInBounds_toArray, List.set_cons_zero, List.set_cons_succ]
    refine take_load 47 (.tmp 34) ⟨pp, 3, none⟩ (.pointer (some ⟨px, 0, none⟩)) rfl rfl rfl (fun u hu => load_any Tryz.underlying47 Tryz.isAgg47 (by rw [cell_of_row u _ 3 _ _ _ hu.1]; rfl)) ?_
    simp only [Act.put, List.setIfInBounds_toArray, List.set_cons_zero, List.set_cons_succ]
    refine take_done ?_
    refine midk_wp rfl (call_wp 13 [.tmp 30] #[29] #[.pointer (some ⟨pw, 0, none⟩)] rfl rfl rfl ?_)
    refine (reset_any h1.disk h1.wal h1.aL Hs.out (by omega)).mono ?_
    rintro e w3 ⟨rfl, S3, R3, k3⟩
    have h3 := h1.left k3
    have e3 : w3.heap[b]? = some (.cells (stpc xd xn xa xl xc xk) 26 (0, 0)) := k3.turns.same HB.out (fun e => HBo.out (.inl e))
    refine ⟨_, rfl, ⟨h3.row, e3⟩, ?_⟩
    refine midk_wp rfl (call_wp 72 [.tmp 35] #[47] #[.pointer (some ⟨px, 0, none⟩)] rfl rfl rfl ?_)
    refine (rwReset_any (Rpn.start h3.ref h3.log h3.aR) Hs.out (by omega)).mono ?_
    rintro e w4 ⟨rfl, T4, Q4, k4⟩
    have h4 := h3.right k4
    have e4 : w4.heap[b]? = some (.cells (stpc xd xn xa xl xc xk) 26 (0, 0)) := k4.turns.same e3 (fun e => HBo.out (.inr e))
    refine ⟨_, rfl, ⟨h4.row, e4⟩, ?_⟩
    refine midk_one (.bool true) rfl (by go_simp) ⟨h4.row, e4⟩ ?_
    simp only [Act.put, List.setIfInBounds_toArray, List.set_cons_zero, List.set_cons_succ]
    refine midk_one (.bool true) rfl rfl ⟨h4.row, e4⟩ ?_
    refine midk_end ?_
    have H4 := Lib.hid h4; clear h4
    clear h1 h3 k3 k4 e3 e4
    go_wp2_with fail
    go_ret
    exact ⟨_, _, _, _, _, _, _, _, rfl, H4.out, by rw [Wal.reset_n]; exact Wal.reset_ok Hs.out, Nat.le_trans (Wal.reset_ops d s) (by omega)⟩
  have y1 : (xd == 1) = false := by rw [beq_eq_false_iff_ne]; exact h0
  clear h0
  by_cases h0 : xd = 2
  · have y2 : (xd == 2) = true := by rw [beq_iff_eq]; exact h0
    clear h0
    go_enter Tryz.func23, Tryz.ntmps23
    go_wp2_with fail
    have h1 := H1.out.new ((Below.refl _ _).drew)
    refine wp_region_phases [([0, 1, 2, 3, 4, 5], [6])] (by kernel_rfl) (by kernel_rfl) (fun z => z.heap[pp]? = some (prObj pd pr (.pointer (some ⟨pw, 0, none⟩)) (.pointer (some ⟨px, 0, none⟩)) fr n) ∧ z.heap[b]? = some (.cells (stpc xd xn xa xl xc xk) 26 (0, 0))) ⟨h1.row, HB.out⟩ ?_
    simp only [wpPhases, pick, List.filterMap_cons, List.filterMap_nil, List.getElem?_toArray, List.getElem?_cons_zero, List.getElem?_cons_succ]
    refine take_move (.tmp 0) (.pointer (some ⟨pp, 0, none⟩)) rfl rfl rfl ?_
    simp only [Act.put, List.setIfInBounds_toArray, List.set_cons_zero, List.set_cons_succ]
    refine take_nil (.tmp 40) ⟨pp, 0, none⟩ rfl rfl rfl ?_
    simp only [Act.put, List.setIfInBounds_toArray, List.set_cons_zero, List.set_cons_succ]
    refine take_one (.pointer (some ⟨pp, 1, none⟩)) rfl (fun u _ => by go_simp) ?_
    simp only [Act.put, List.setIfInBounds_toArray, List.set_cons_zero, List.set_cons_succ]
    refine take_load 45 (.tmp 42) ⟨pp, 1, none⟩ (.pointer (some ⟨pr, 0, none⟩)) rfl rfl rfl (fun u hu => load_any Tryz.underlying45 Tryz.isAgg45 (by rw [cell_of_row u _ 1 _ _ _ hu.1]; rfl)) ?_
    simp only [Act.put, List.setIfInBounds_toArray, List.set_cons_zero, List.set_cons_succ]
    refine take_one (.pointer (some ⟨b, 1, none⟩)) rfl (fun u _ => by go_simp) ?_
    simp only [Act.put, List.setIfInBounds_toArray, List.set_cons_zero, List.set_cons_succ]
    refine take_load 3 (.tmp 44) ⟨b, 1, none⟩ (.int .i64 xn) rfl rfl rfl (fun u hu => load_any Tryz.underlying3 Tryz.isAgg3 (by rw [cell_of_row u _ 1 _ _ _ hu.2]; rfl)) ?_
    simp only [Act.put, List.setIfInBounds_toArray, List.set_cons_zero, List.set_cons_succ]
    refine take_done ?_
    refine midk_wp rfl (call_wp 73 [.tmp 43, .tmp 45] #[45, 3] #[.pointer (some ⟨pr, 0, none⟩), .int .i64 xn] rfl rfl rfl ?_)
    refine (refFuse_any h1.ref xn Hxn.out).mono ?_
    rintro e w3 ⟨rfl, t3, r3⟩
    have h3 := h1.rightDisk (t3.mono fun j _ e => by rw [e]; exact h1.ref.hq) (fun j hj => .inl hj) r3
    have e3 : w3.heap[b]? = some (.cells (stpc xd xn xa xl xc xk) 26 (0, 0)) := t3.same HB.out (fun e => HBo.out (.inr (.inl (by rw [e]; exact h1.ref.hq))))
    refine ⟨_, rfl, ⟨h3.row, e3⟩, ?_⟩
    refine midk_end ?_
    have E3 := Lib.hid e3; clear e3
    have H3 := Lib.hid h3; clear h3
    clear h1 t3 r3
    go_wp2_with fail
    have h3 := H3.out.new ((Below.refl _ _).drew)
    have e3 := E3.out
    refine wp_region_phases [([0, 1, 2, 3, 4, 5], [6, 7, 8])] (by kernel_rfl) (by kernel_rfl) (fun z => z.heap[pp]? = some (prObj pd pr (.pointer (some ⟨pw, 0, none⟩)) (.pointer (some ⟨px, 0, none⟩)) fr n) ∧ z.heap[b]? = some (.cells (stpc xd xn xa xl xc xk) 26 (0, 0))) ⟨h3.row, e3⟩ ?_
    simp only [wpPhases, pick, List.filterMap_cons, List.filterMap_nil, List.getElem?_toArray, List.getElem?_cons_zero, List.getElem?_cons_succ]
    refine take_move (.tmp 0) (.pointer (some ⟨pp, 0, none⟩)) rfl rfl rfl ?_
    simp only [Act.put, List.setIfInBounds_toArray, List.set_cons_zero, List.set_cons_succ]
    refine take_nil (.tmp 47) ⟨pp, 0, none⟩ rfl rfl rfl ?_
    simp only [Act.put, List.setIfInBounds_toArray, List.set_cons_zero, List.set_cons_succ]
    refine take_one (.pointer (some ⟨pp, 0, none⟩)) rfl (fun u _ => by go_simp) ?_
    simp only [Act.put, List.setIfInBounds_toArray, List.set_cons_zero, List.set_cons_succ]
    refine take_load 41 (.tmp 49) ⟨pp, 0, none⟩ (.pointer (some ⟨pd, 0, none⟩)) rfl rfl rfl (fun u hu => load_any Tryz.underlying41 Tryz.isAgg41 (by rw [cell_of_row u _ 0 _ _ _ hu.1]; rfl)) ?_
    simp only [Act.put, List.setIfInBounds_toArray, List.set_cons_zero, List.set_cons_succ]
    refine take_one (.pointer (some ⟨b, 1, none⟩)) rfl (fun u _ => by go_simp) ?_
    simp only [Act.put, List.setIfInBounds_toArray, List.set_cons_zero, List.set_cons_succ]
    refine take_load 3 (.tmp 51) ⟨b, 1, none⟩ (.int .i64 xn) rfl rfl rfl (fun u hu => load_any Tryz.underlying3 Tryz.isAgg3 (by rw [cell_of_row u _ 1 _ _ _ hu.2]; rfl)) ?_
    simp only [Act.put, List.setIfInBounds_toArray, List.set_cons_zero, List.set_cons_succ]
    refine take_done ?_
    refine midk_wp rfl (call_wp 46 [.tmp 50, .tmp 52] #[41, 3] #[.pointer (some ⟨pd, 0, none⟩), .int .i64 xn] rfl rfl rfl ?_)
    refine (fuse_any h3.disk xn Hxn.out).mono ?_
    rintro e w4 ⟨rfl, t4, d4⟩
    have h4 := h3.leftDisk (t4.mono fun j _ e => by rw [e]; exact h3.disk.hp) (fun j hj => .inl hj) d4
    have e4 : w4.heap[b]? = some (.cells (stpc xd xn xa xl xc xk) 26 (0, 0)) := t4.same e3 (fun e => HBo.out (.inl (.inl (by rw [e]; exact h3.disk.hp))))
    refine ⟨_, rfl, ⟨h4.row, e4⟩, ?_⟩
    refine midk_one (.bool true) rfl (by go_simp) ⟨h4.row, e4⟩ ?_
    simp only [Act.put, List.setIfInBounds_toArray, List.set_cons_zero, List.set_cons_succ]
    refine midk_one (.bool true) rfl rfl ⟨h4.row, e4⟩ ?_
    refine midk_end ?_
    have H4 := Lib.hid h4; clear h4
    clear h3 t4 d4 e3 e4
    go_wp2_with fail
    go_ret
    exact ⟨_, _, _, _, _, _, _, _, rfl, H4.out, Hs.out, Nat.le_add_right _ _⟩
  have y2 : (xd == 2) = false := by rw [beq_eq_false_iff_ne]; exact h0
  clear h0
  by_cases h0 : xd = 3
  · have y3 : (xd == 3) = true := by rw [beq_iff_eq]; exact h0
    clear h0
    go_enter Tryz.func23, Tryz.ntmps23
    go_wp2_with fail
    have h1 := H1.out.new ((Below.refl _ _).drew)
    refine wp_region_phases [([0, 1, 2, 3, 4, 5], [6])] (by kernel_rfl) (by kernel_rfl) (fun z => z.heap[pp]? = some (prObj pd pr (.pointer (some ⟨pw, 0, none⟩)) (.pointer (some ⟨px, 0, none⟩)) fr n) ∧ z.heap[b]? = some (.cells (stpc xd xn xa xl xc xk) 26 (0, 0))) ⟨h1.row, HB.out⟩ ?_
    simp only [wpPhases, pick, List.filterMap_cons, List.filterMap_nil, List.getElem?_toArray, List.getElem?_cons_zero, List.getElem?_cons_succ]
    refine take_move (.tmp 0) (.pointer (some ⟨pp, 0, none⟩)) rfl rfl rfl ?_
    simp only [Act.put, List.setIfInBounds_toArray, List.set_cons_zero, List.set_cons_succ]
    refine take_nil (.tmp 57) ⟨pp, 0, none⟩ rfl rfl rfl ?_
    simp only [Act.put, List.setIfInBounds_toArray, List.set_cons_zero, List.set_cons_succ]
    refine take_one (.pointer (some ⟨pp, 1, none⟩)) rfl (fun u _ => by go_simp) ?_
    simp only [Act.put, List.setIfInBounds_toArray, List.set_cons_zero, List.set_cons_succ]
    refine take_load 45 (.tmp 59) ⟨pp, 1, none⟩ (.pointer (some ⟨pr, 0, none⟩)) rfl rfl rfl (fun u hu => load_any Tryz.underlying45 Tryz.isAgg45 (by rw [cell_of_row u _ 1 _ _ _ hu.1]; rfl)) ?_
    simp only [Act.put, List.setIfInBounds_toArray, List.set_cons_zero, List.set_cons_succ]
    refine take_one (.pointer (some ⟨b, 3, none⟩)) rfl (fun u _ => by go_simp) ?_
    simp only [Act.put, List.setIfInBounds_toArray, List.set_cons_zero, List.set_cons_succ]
    refine take_load 9 (.tmp 61) ⟨b, 3, none⟩ (.string xk) rfl rfl rfl (fun u hu => load_any Tryz.underlying9 Tryz.isAgg9 (by rw [cell_of_row u _ 3 _ _ _ hu.2]; rfl)) ?_
    simp only [Act.put, List.setIfInBounds_toArray, List.set_cons_zero, List.set_cons_succ]
    refine take_done ?_
    refine midk_wp rfl (call_wp 74 [.tmp 60, .tmp 62] #[45, 9] #[.pointer (some ⟨pr, 0, none⟩), .string xk] rfl rfl rfl ?_)
    refine (refCrash_any h1.ref xk (by omega) (by omega)).mono ?_
    rintro e w3 ⟨rfl, t3, T3, l3, r3⟩
    have h3 := h1.rightDisk t3 l3 r3
    have e3 : w3.heap[b]? = some (.cells (stpc xd xn xa xl xc xk) 26 (0, 0)) := t3.same HB.out (fun e => HBo.out (.inr (.inl e)))
    have o3 : ¬ (T3 b) := fun e => by
      rcases l3 b e with e | e
      · exact HBo.out (.inr (.inl e))
      · have h9 : b < wA.drew.heap.size := row_lt HB.out
        omega
    refine ⟨_, rfl, ⟨h3.row, e3⟩, ?_⟩
    refine midk_end ?_
    have E3 := Lib.hid e3; clear e3
    have H3 := Lib.hid h3; clear h3
    clear h1 t3 r3 l3 o3
    go_wp2_with fail
    have h3 := H3.out.new ((Below.refl _ _).drew)
    have e3 := E3.out
    refine wp_region_phases [([0, 1, 2, 3, 4, 5], [6, 7, 8, 9, 10, 11, 12])] (by kernel_rfl) (by kernel_rfl) (fun z => z.cell? ⟨pp, 0, none⟩ = some (.pointer (some ⟨pd, 0, none⟩)) ∧ z.heap[b]? = some (.cells (stpc xd xn xa xl xc xk) 26 (0, 0))) ⟨h3.c0, e3⟩ ?_
    simp only [wpPhases, pick, List.filterMap_cons, List.filterMap_nil, List.getElem?_toArray, List.getElem?_cons_zero, List.getElem?_cons_succ]
    refine take_move (.tmp 0) (.pointer (some ⟨pp, 0, none⟩)) rfl rfl rfl ?_
    simp only [Act.put, List.setIfInBounds_toArray, List.set_cons_zero, List.set_cons_succ]
    refine take_nil (.tmp 64) ⟨pp, 0, none⟩ rfl rfl rfl ?_
    simp only [Act.put, List.setIfInBounds_toArray, List.set_cons_zero, List.set_cons_succ]
    refine take_one (.pointer (some ⟨pp, 0, none⟩)) rfl (fun u _ => by go_simp) ?_
    simp only [Act.put, List.setIfInBounds_toArray, List.set_cons_zero, List.set_cons_succ]
    refine take_load 41 (.tmp 66) ⟨pp, 0, none⟩ (.pointer (some ⟨pd, 0, none⟩)) rfl rfl rfl (fun u hu => load_any Tryz.underlying41 Tryz.isAgg41 hu.1) ?_
    simp only [Act.put, List.setIfInBounds_toArray, List.set_cons_zero, List.set_cons_succ]
    refine take_one (.pointer (some ⟨b, 3, none⟩)) rfl (fun u _ => by go_simp) ?_
    simp only [Act.put, List.setIfInBounds_toArray, List.set_cons_zero, List.set_cons_succ]
    refine take_load 9 (.tmp 68) ⟨b, 3, none⟩ (.string xk) rfl rfl rfl (fun u hu => load_any Tryz.underlying9 Tryz.isAgg9 (by rw [cell_of_row u _ 3 _ _ _ hu.2]; rfl)) ?_
    simp only [Act.put, List.setIfInBounds_toArray, List.set_cons_zero, List.set_cons_succ]
    refine take_done ?_
    refine midk_wp rfl (call_wp 43 [.tmp 67, .tmp 69] #[41, 9] #[.pointer (some ⟨pd, 0, none⟩), .string xk] rfl rfl rfl ?_)
    refine (crash_any h3.disk xk (by omega) (by omega)).mono ?_
    rintro e w4 ⟨rfl, t4, S4, l4, d4⟩
    have h4 := h3.leftDisk t4 l4 d4
    have e4 : w4.heap[b]? = some (.cells (stpc xd xn xa xl xc xk) 26 (0, 0)) := t4.same e3 (fun e => HBo.out (.inl (.inl e)))
    refine ⟨_, rfl, ⟨h4.c0, e4⟩, ?_⟩
    refine midk_one (.bool true) rfl (by go_simp) ⟨h4.c0, e4⟩ ?_
    simp only [Act.put, List.setIfInBounds_toArray, List.set_cons_zero, List.set_cons_succ]
    refine midk_one (.bool true) rfl rfl ⟨h4.c0, e4⟩ ?_
    simp only [Act.put, List.setIfInBounds_toArray, List.set_cons_zero, List.set_cons_succ]
    refine midk_one (.pointer (some ⟨pp, 0, none⟩)) rfl rfl ⟨h4.c0, e4⟩ ?_
    simp only [Act.put, List.setIfInBounds_toArray, List.set_cons_zero, List.set_cons_succ]
    refine midk_wp rfl (call_wp 22 [.tmp 73] #[44] #[.pointer (some ⟨pp, 0, none⟩)] rfl rfl rfl ?_)
    refine (popen_any h4.disk h4.ref (by show d.ops ≤ _; omega) _ _ h4.row hf hn).mono ?_
    intro e w5 k5
    obtain ⟨R5, Q5, pw5, px5, s5, rfl, h5, hs5⟩ := h4.reopen k5
    have e5 : w5.heap[b]? = some (.cells (stpc xd xn xa xl xc xk) 26 (0, 0)) := POpnR.off k5 e4 HBp.out
    refine ⟨_, rfl, ⟨h5.c0, e5⟩, ?_⟩
    refine midk_one (.bool true) rfl (by go_simp) ⟨h5.c0, e5⟩ ?_
    simp only [Act.put, List.setIfInBounds_toArray, List.set_cons_zero, List.set_cons_succ]
    refine midk_one (.bool true) rfl rfl ⟨h5.c0, e5⟩ ?_
    refine midk_end ?_
    have H5 := Lib.hid h5; clear h5
    have hs6 : s5.Ok d.n := by
      rcases hs5 with rfl | ho
      · exact Hs.out
      · exact (Wal.opn_ok (d := Dsk.crash d xk.data.toList) h4.disk.ok (Prod.ext ho rfl)).1
    have Hs6 := Lib.hid hs6; clear hs6
    clear h3 h4 k5 t4 l4 d4 e3 e4 e5 hs5
    go_wp2_with fail
    go_ret
    exact ⟨_, _, _, _, _, _, _, _, rfl, H5.out, Hs6.out, Nat.le_add_right _ _⟩
  have y3 : (xd == 3) = false := by rw [beq_eq_false_iff_ne]; exact h0
  clear h0
  by_cases h0 : xd = 4
  · have y4 : (xd == 4) = true := by rw [beq_iff_eq]; exact h0
    clear h0
    have ho := popen_any H1.out.disk H1.out.ref (by omega) _ _ H1.out.row hf hn
    have Ho := Lib.hid ho; clear ho
    go_enter Tryz.func23, Tryz.ntmps23
    go_wp2_with fail
    refine Ho.out.mono ?_
    intro e w5 k5
    obtain ⟨R5, Q5, pw5, px5, s5, rfl, h5, hs5⟩ := H1.out.reopen k5
    have H5 := Lib.hid h5; clear h5
    have hs6 : s5.Ok d.n := by
      rcases hs5 with rfl | ho
      · exact Hs.out
      · exact (Wal.opn_ok H1.out.disk.ok (Prod.ext ho rfl)).1
    have Hs6 := Lib.hid hs6; clear hs6
    clear hs5 k5
    go_wp2_with fail
    go_ret
    exact ⟨_, _, _, _, _, _, _, _, rfl, H5.out, Hs6.out, Nat.le_add_right _ _⟩
  have y4 : (xd == 4) = false := by rw [beq_eq_false_iff_ne]; exact h0
  clear h0
  go_enter Tryz.func23, Tryz.ntmps23
  go_wp2_with fail
  go_ret
  exact ⟨_, _, _, _, _, _, _, _, rfl, H1.out, Hs.out, Nat.le_add_right _ _⟩
end
end Go.Proofs.YtjmpagbjkehebaaGreat
