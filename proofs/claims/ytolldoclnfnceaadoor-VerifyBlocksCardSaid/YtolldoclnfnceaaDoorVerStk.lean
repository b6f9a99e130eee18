/-
  A block is pushed on the stack, and popped.
-/
import Derived.Test.YtolldoclnfnceaaDoorVerKnown
import Derived.Test.YtolldoclnfnceaaDoorGoStage
set_option linter.unusedVariables false
set_option maxRecDepth 100000
namespace Go.Proofs.YtolldoclnfnceaaDoor
open Go.RowKit

theorem blk_info : (Tryd.prog.info? 81).map (fun i => (i.zero, i.size, i.bytes)) = some (some (.agg #[.int .u8 0, .int .i64 0, .string ⟨#[]⟩, .string ⟨#[]⟩]), 4, 48) := by kernel_rfl
theorem slice_blk1 (x : Ver.PB) (w : World) : (Instr.buildSlice 59 1 #[(0, pbV x)]).run Tryd.prog w = .ok (.slice (some ⟨w.heap.size, 0, none⟩) 1 1) (w.alloc (.cells (pbCells x).toArray 81)) := by
  obtain ⟨i, hi, h0, h1, h2⟩ := info_parts blk_info
  have hf := Great.fill_whole (s := 4) (by omega) [pbV x] ((Array.range (1 * 4)).map ((Value.agg #[.int .u8 0, .int .i64 0, .string ⟨#[]⟩, .string ⟨#[]⟩]).cells[· % (Value.agg #[.int .u8 0, .int .i64 0, .string ⟨#[]⟩, .string ⟨#[]⟩]).cells.size]!)) (fun v hv => by simp at hv; subst hv; rfl) (by simp)
  refine run_buildSlice w 59 81 1 _ (pbCells x).toArray i _ Tryd.underlying59 hi h0 (by rw [h1]; decide) (by rw [h1]; decide) ?_
  rw [h1]
  have e : ([pbV x].flatMap fun v => v.cells.toList).toArray = (pbCells x).toArray := by simp [pbV, pbCells, Value.cells]
  rw [e] at hf
  exact hf
theorem store_slc {w : World} {t : TypeId} {b o : Nat} {x : Value} {a : Option Addr} {n c : Nat} (hz : ∀ w, (sizeOf t).run Tryd.prog w = .ok 1 w) (h0 : w.cell? ⟨b, o, none⟩ = some x) (f0 : w.frozen? ⟨b, o, none⟩ = false) :
    (Instr.storeAt t (.pointer (some ⟨b, o, none⟩)) (.slice a n c)).run Tryd.prog w = .ok () (w.setCell ⟨b, o, none⟩ (.slice a n c)) := by
  simp [Instr.storeAt, go_sem, hz, h0, f0]
theorem load_stk {w : World} {b o : Nat} {x : Value} (h : w.cell? ⟨b, o, none⟩ = some x) : (Instr.loadAt 59 (.pointer (some ⟨b, o, none⟩))).run Tryd.prog w = .ok x w := load_at Tryd.underlying59 Tryd.isAgg59 h
theorem load_blk {w : World} {b : Nat} {x : Ver.PB} (h : w.heap[b]? = some (.cells (pbCells x).toArray 81 (0, 0))) : (Instr.loadAt 81 (.pointer (some ⟨b, 0, none⟩))).run Tryd.prog w = .ok (pbV x) w :=
  load_row w b 81 81 (pbCells x).toArray (0, 0) _ h Tryd.underlying81 rfl (by kernel_rfl)

set_option maxHeartbeats 2000000 in
theorem push_any {B q g n nt role : Nat} {bv kv : Value} {S : Ver.St} {w : World} (h : VAt B q g n nt role bv kv S w) (b : Ver.Blk) (hn : S.bl.length < 8) (hok : VP n { S with bl := b :: S.bl }) :
    Calls Tryd.prog 48 #[.pointer (some ⟨q, 6, none⟩), pbV b.pb] w fun e w' => e = .returned (.tuple #[]) ∧ ∃ kv', VAt B q g n nt role bv kv' { S with bl := b :: S.bl } w' ∧ Turns (VT q g kv) w w' ∧ ∀ j, kv'.ownBlock = some j → kv.ownBlock = some j ∨ w.heap.size ≤ j := by
  obtain ⟨i0, hi, hz0, hz1, hz2⟩ := info_parts blk_info
  have hb1 := obj_below w (.cells (pbCells b.pb).toArray 81)
  have h1 := (h.new hb1).drew
  have hx1 : (w.alloc (.cells (pbCells b.pb).toArray 81)).drew.heap[w.heap.size]? = some (.cells (pbCells b.pb).toArray 81 (0, 0)) := alloc_at rfl
  have hb1' : Below w.heap.size w (w.alloc (.cells (pbCells b.pb).toArray 81)).drew := hb1.drew
  obtain ⟨a, cap, hkv⟩ := h.blk.form
  have hlen := Ver.pbs_length S.bl
  have Hb := Lib.hid h; clear h
  obtain ⟨X, hX⟩ : ∃ X, X = b.pb := ⟨_, rfl⟩
  have HX := Lib.hid hX
  rw [← hX] at hb1 h1 hx1 hb1' ⊢
  clear hX
  have hv : pbV X = .agg #[.int .u8 (X.op : Int), .int .i64 (X.at_ : Int), .string (Ver.kb X.opn), .string (Ver.kb X.want)] := rfl
  have hc : (pbCells X).toArray = #[.int .u8 (X.op : Int), .int .i64 (X.at_ : Int), .string (Ver.kb X.opn), .string (Ver.kb X.want)] := rfl
  rw [hv]
  have H1 := Lib.hid h1; clear h1
  have HX1 := Lib.hid hx1; clear hx1
  have HB1 := Lib.hid hb1'; clear hb1'
  clear hb1
  have Hkv := Lib.hid hkv; clear hkv
  go_enter Tryd.func48, Tryd.ntmps48
  go_wp2_with fail
  refine wp_region_stages [[([0, 1, 2, 3, 4], [5, 6, 7])], [([], [8])]] (by kernel_rfl) (by kernel_rfl) ?_
  refine stage_first (fun z => z.cell? ⟨q, 6, none⟩ = some kv ∧ z.heap[w.heap.size]? = some (.cells (pbCells X).toArray 81 (0, 0))) ⟨H1.out.c 6, HX1.out⟩ ?_
  simp only [wpPhasesK, pick, List.filterMap_cons, List.filterMap_nil, List.getElem?_toArray, List.getElem?_cons_zero, List.getElem?_cons_succ]
  refine take_move (.tmp 0) (.pointer (some ⟨q, 6, none⟩)) rfl rfl rfl ?_
  simp only [Act.put, List.setIfInBounds_toArray, List.set_cons_zero, List.set_cons_succ]
  refine take_move (.tmp 0) (.pointer (some ⟨q, 6, none⟩)) rfl rfl rfl ?_
  simp only [Act.put, List.setIfInBounds_toArray, List.set_cons_zero, List.set_cons_succ]
  refine take_nil (.tmp 5) ⟨q, 6, none⟩ rfl rfl rfl ?_
  simp only [Act.put, List.setIfInBounds_toArray, List.set_cons_zero, List.set_cons_succ]
  refine take_load 59 (.tmp 6) ⟨q, 6, none⟩ kv rfl rfl rfl (fun u hu => load_stk hu.1) ?_
  simp only [Act.put, List.setIfInBounds_toArray, List.set_cons_zero, List.set_cons_succ]
  refine take_load 81 (.tmp 3) ⟨w.heap.size, 0, none⟩ (pbV X) rfl rfl rfl (fun u hu => load_blk hu.2) ?_
  simp only [Act.put, List.setIfInBounds_toArray, List.set_cons_zero, List.set_cons_succ]
  refine take_done ?_
  change wpMidK _ _ _ _ _ _ _ (w.alloc (.cells (pbCells X).toArray 81)).drew
  obtain ⟨W, hW⟩ : ∃ W, W = (w.alloc (.cells (pbCells X).toArray 81)).drew := ⟨_, rfl⟩
  have h1 := H1.out
  have hx1 := HX1.out
  have hb1 := HB1.out
  rw [← hW] at h1 hx1 hb1 ⊢
  clear hW
  have hb2 := obj_below W (.cells (pbCells X).toArray 81)
  have h2 := h1.new hb2
  have hx2 := row_alloc hx1 (.cells (pbCells X).toArray 81)
  have hlit : ∀ j u, (pbCells X)[j]? = some u → (W.alloc (.cells (pbCells X).toArray 81)).cell? ((⟨W.heap.size, 0, none⟩ : Addr).add j) = some u := fun j u hu => cell_new_row W (pbCells X) _ j u hu
  refine midk_one (.slice (some ⟨W.heap.size, 0, none⟩) 1 1) rfl (run_slice_op 59 1 [(0, .tmp 8)] rfl (slice_blk1 X W)) ⟨h2.c 6, hx2⟩ ?_
  simp only [Act.put, List.setIfInBounds_toArray, List.set_cons_zero, List.set_cons_succ]
  have hlb := Hb.out.blk.1
  obtain ⟨kv', w3, hr3, ho3, hg3, _, hown⟩ := run_append_own_at (P := Tryd.prog) (w := W.alloc (.cells (pbCells X).toArray 81)) B 59 59 81 i0 _ 4 48 Tryd.underlying59 hi hz0 hz1 hz2 rfl (by decide) kv (Ver.pbs S.bl).length ((Ver.pbs S.bl).flatMap pbCells) h2.blk ⟨W.heap.size, 0, none⟩ 1 1 (pbCells X) rfl hlit (fun u hu => by
      simp only [pbCells, List.mem_cons, List.mem_nil_iff, or_false] at hu
      rcases hu with rfl | rfl | rfl | rfl <;> rfl) (by unfold maxLen; omega) (by omega) (by
      have := h2.bq
      have := row_lt h2.box
      omega)
  have hq3 : w3.heap[q]? = some (.cells (stCells bv g n S role nt kv) 61 (0, 0)) := by rw [hg3.block q (row_lt h2.box) (Ne.symm h2.kq)]; exact h2.box
  have hx3 : w3.heap[w.heap.size]? = some (.cells (pbCells X).toArray 81 (0, 0)) := by
    rw [hg3.block _ (row_lt hx2) (fun e => ?_)]
    · exact hx2
    · have := World.ownsRow.lt Hb.out.blk _ e.symm
      omega
  refine midk_wp rfl (wp_append_hap (.tmp 7) (.tmp 9) 59 rfl kv (.slice (some ⟨W.heap.size, 0, none⟩) 1 1) kv' w3 rfl rfl hr3 ⟨⟨cell_at hq3 6, hx3⟩, ?_⟩)
  simp only [Act.put, List.setIfInBounds_toArray, List.set_cons_zero, List.set_cons_succ]
  refine midk_one (.pointer (some ⟨q, 6, none⟩)) rfl rfl ⟨cell_at hq3 6, hx3⟩ ?_
  simp only [Act.put, List.setIfInBounds_toArray, List.set_cons_zero, List.set_cons_succ]
  have hbo : BOwn B kv' (Ver.pbs (b :: S.bl)) w3 := by
    rw [Ver.pbs_cons, ← HX.out]
    unfold BOwn
    rw [List.length_append, List.length_singleton, List.flatMap_append, show [X].flatMap pbCells = pbCells X by simp]
    exact ho3
  have hfin := h2.appB hg3 hbo hok
  have ht : Turns (VT q g kv) w (w3.setCell ⟨q, 6, none⟩ kv') := by
    refine Turns.set ?_ q 6 kv' (fun _ => .inl rfl)
    refine (Turns.of_new (hb1.trans (hb2.mono hb1.size)) _).trans (Turns.of_grown hg3) (fun j hj e => .inr (.inr ?_))
    exact e
  have hnew : ∀ j, kv'.ownBlock = some j → kv.ownBlock = some j ∨ w.heap.size ≤ j := fun j hj => by
    rcases hown with e | e
    · exact .inl (e.symm.trans hj)
    · rw [e] at hj
      have := hb1.size
      rw [alloc_size] at hj
      simp only [Option.some.injEq] at hj
      exact .inr (by omega)
  have c6 : w3.cell? ⟨q, 6, none⟩ = some kv := cell_at hq3 6
  have f6 : w3.frozen? ⟨q, 6, none⟩ = false := row_free hq3 6
  have HF := Lib.hid hfin; clear hfin
  have HT := Lib.hid ht; clear ht
  have HN := Lib.hid hnew; clear hnew
  clear hbo hx3 hq3 hlit hx2 h2 hb2 hb1 hx1 h1 hg3 ho3 hr3 hown
  obtain ⟨a', cap', hkv'⟩ : ∃ a' cap', kv' = .slice a' (S.bl.length + 1) cap' := by
    obtain ⟨a', cap', e⟩ := HF.out.blk.form
    exact ⟨a', cap', by rw [e, Ver.pbs_length]; rfl⟩
  obtain rfl := hkv'
  obtain rfl := Hkv.out
  refine stage_next (fun _ => True) trivial ?_
  simp only [wpPhasesK, wpTake, pick, List.filterMap_cons, List.filterMap_nil, List.getElem?_toArray, List.getElem?_cons_zero, List.getElem?_cons_succ]
  refine midk_put 59 (.tmp 11) (.tmp 10) _ _ rfl rfl rfl rfl (store_slc Tryd.sizeOf59 c6 f6) trivial ?_
  simp only [Act.put]
  refine stage_end ?_
  go_end0
  exact ⟨rfl, _, HF.out, HT.out, HN.out⟩

theorem stk_cut (a : Option Addr) (len cap k : Nat) (hk : k ≤ cap) (u : World) : (Instr.sliceAt 59 (.slice a len cap) none (some (.int .i64 (k : Int))) none).run Tryd.prog u = .ok (.slice a k cap) u := by
  simp [Instr.sliceAt, Instr.slice, Instr.sliceBounds, Instr.sliceBound, asIntOf, run_underlying Tryd.underlying59, hk]
  try (cases a <;> simp [Addr.add])

set_option maxHeartbeats 2000000 in
theorem pop_any {B q g n nt role : Nat} {bv kv : Value} {S : Ver.St} {w : World} (h : VAt B q g n nt role bv kv S w) (b : Ver.Blk) (l : List Ver.Blk) (hb : S.bl = b :: l) :
    Calls Tryd.prog 49 #[.pointer (some ⟨q, 6, none⟩)] w fun e w' => e = .returned (.tuple #[]) ∧ ∃ kv', VAt B q g n nt role bv kv' { S with bl := l } w' ∧ Turns (VT q g kv) w w' ∧ ∀ j, kv'.ownBlock = some j → kv.ownBlock = some j ∨ w.heap.size ≤ j := by
  obtain ⟨bb, cap, rfl, h1, h2, _⟩ := h.inner hb
  have hpop := h2.pop
  rw [Ver.pbs_length] at hpop
  have hok : VP n { S with bl := l } := ⟨fun c hc => h.ok.at_ c (by rw [hb]; exact List.mem_cons_of_mem _ hc), h.ok.nk, by have := h.ok.nb; rw [hb] at this; simp only [List.length_cons] at this ⊢; omega, fun c hc => h.ok.op_ c (by rw [hb]; exact List.mem_cons_of_mem _ hc), fun c hc => h.ok.bk c (by rw [hb]; exact List.mem_cons_of_mem _ hc)⟩
  have hfin := h.setB (kv' := .slice (some ⟨bb, 0, none⟩) l.length cap) (bl := l) hpop hok
  have ht : Turns (VT q g (.slice (some ⟨bb, 0, none⟩) (l.length + 1) cap)) w (w.setCell ⟨q, 6, none⟩ (.slice (some ⟨bb, 0, none⟩) l.length cap)) := Turns.set (Turns.refl _ _) q 6 _ (fun _ => .inl rfl)
  have hfin := hfin.drew
  have ht := ht.drew
  have hcap : l.length ≤ cap := by
    rcases hpop.2 with ⟨e, e'⟩ | ⟨_, _, _, e, _, _, hle, _⟩
    · rw [Ver.pbs_length] at e'; omega
    · simp only [Value.slice.injEq] at e
      rw [Ver.pbs_length] at hle
      rw [e.2.2]; exact hle
  have hcut := stk_cut (some ⟨bb, 0, none⟩) (l.length + 1) cap l.length hcap
  have hl8 : l.length + 1 ≤ 8 := by have := h.ok.nb; rw [hb] at this; exact this
  have c6 : w.drew.cell? ⟨q, 6, none⟩ = some (.slice (some ⟨bb, 0, none⟩) (l.length + 1) cap) := h.drew.c 6
  have f6 : w.drew.frozen? ⟨q, 6, none⟩ = false := h.drew.f 6
  obtain ⟨t, hte⟩ : ∃ t, t = l.length := ⟨_, rfl⟩
  rw [← hte] at hfin ht hcut c6 hl8 ⊢
  have HF := Lib.hid hfin; clear hfin
  have HT := Lib.hid ht; clear ht
  have HC := Lib.hid hcut; clear hcut
  clear hok hpop h2 h1 hb h hte hcap
  go_enter Tryd.func49, Tryd.ntmps49
  go_wp2_with fail
  refine wp_region_stages [[([0, 1, 2, 3, 4, 5, 6, 7, 8], [9, 10])], [([], [11])]] (by kernel_rfl) (by kernel_rfl) ?_
  refine stage_first (fun z => z.cell? ⟨q, 6, none⟩ = some (.slice (some ⟨bb, 0, none⟩) (t + 1) cap)) c6 ?_
  simp only [wpPhasesK, pick, List.filterMap_cons, List.filterMap_nil, List.getElem?_toArray, List.getElem?_cons_zero, List.getElem?_cons_succ]
  refine take_move (.tmp 0) (.pointer (some ⟨q, 6, none⟩)) rfl rfl rfl ?_
  simp only [Act.put, List.setIfInBounds_toArray, List.set_cons_zero, List.set_cons_succ]
  refine take_move (.tmp 0) (.pointer (some ⟨q, 6, none⟩)) rfl rfl rfl ?_
  simp only [Act.put, List.setIfInBounds_toArray, List.set_cons_zero, List.set_cons_succ]
  refine take_nil (.tmp 3) ⟨q, 6, none⟩ rfl rfl rfl ?_
  simp only [Act.put, List.setIfInBounds_toArray, List.set_cons_zero, List.set_cons_succ]
  refine take_load 59 (.tmp 4) ⟨q, 6, none⟩ (.slice (some ⟨bb, 0, none⟩) (t + 1) cap) rfl rfl rfl (fun u hu => load_stk hu) ?_
  simp only [Act.put, List.setIfInBounds_toArray, List.set_cons_zero, List.set_cons_succ]
  refine take_move (.tmp 0) (.pointer (some ⟨q, 6, none⟩)) rfl rfl rfl ?_
  simp only [Act.put, List.setIfInBounds_toArray, List.set_cons_zero, List.set_cons_succ]
  refine take_nil (.tmp 6) ⟨q, 6, none⟩ rfl rfl rfl ?_
  simp only [Act.put, List.setIfInBounds_toArray, List.set_cons_zero, List.set_cons_succ]
  refine take_load 59 (.tmp 7) ⟨q, 6, none⟩ (.slice (some ⟨bb, 0, none⟩) (t + 1) cap) rfl rfl rfl (fun u hu => load_stk hu) ?_
  simp only [Act.put, List.setIfInBounds_toArray, List.set_cons_zero, List.set_cons_succ]
  refine take_one (.int .i64 ((t + 1 : Nat) : Int)) rfl (fun u hu => by go_simp) ?_
  simp only [Act.put, List.setIfInBounds_toArray, List.set_cons_zero, List.set_cons_succ]
  refine take_one (.int .i64 (t : Int)) rfl (fun u hu => by go_simp; simp only [IntKind.wrap_i64]; omega) ?_
  simp only [Act.put, List.setIfInBounds_toArray, List.set_cons_zero, List.set_cons_succ]
  refine take_done ?_
  refine midk_one (.slice (some ⟨bb, 0, none⟩) t cap) rfl (run_sub_hi 59 (.tmp 5) (.tmp 10) rfl _ _ _ rfl rfl (HC.out _)) c6 ?_
  simp only [Act.put, List.setIfInBounds_toArray, List.set_cons_zero, List.set_cons_succ]
  refine midk_one (.pointer (some ⟨q, 6, none⟩)) rfl rfl c6 ?_
  simp only [Act.put, List.setIfInBounds_toArray, List.set_cons_zero, List.set_cons_succ]
  refine stage_next (fun _ => True) trivial ?_
  simp only [wpPhasesK, wpTake, pick, List.filterMap_cons, List.filterMap_nil, List.getElem?_toArray, List.getElem?_cons_zero, List.getElem?_cons_succ]
  refine midk_put 59 (.tmp 12) (.tmp 11) _ _ rfl rfl rfl rfl (store_slc Tryd.sizeOf59 c6 f6) trivial ?_
  simp only [Act.put]
  refine stage_end ?_
  go_end0
  exact ⟨rfl, .slice (some ⟨bb, 0, none⟩) t cap, HF.out, HT.out, fun j hj => .inl hj⟩
end Go.Proofs.YtolldoclnfnceaaDoor
