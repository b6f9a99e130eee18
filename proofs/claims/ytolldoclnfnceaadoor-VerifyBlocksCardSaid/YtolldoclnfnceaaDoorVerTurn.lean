/-
  A block is opened, turned, or closed.
-/
import Derived.Test.YtolldoclnfnceaaDoorVerStk
set_option linter.unusedVariables false
set_option maxRecDepth 100000
namespace Go.Proofs.YtolldoclnfnceaaDoor
open Go.RowKit

namespace Ver
/-- what an instruction's block does, as the program has it (OpEach's T comes behind it) -/
def tP (i op : Nat) (s : St) : Except Nat St := if op = 22 then .ok { s with bl := ⟨22, s.k, [], false, i⟩ :: s.bl } else turn i op s
theorem tP_19 (i : Nat) (s : St) : tP i 19 s = .ok { s with bl := ⟨19, s.k, [], false, i⟩ :: s.bl } := rfl
theorem tP_22 (i : Nat) (s : St) : tP i 22 s = .ok { s with bl := ⟨22, s.k, [], false, i⟩ :: s.bl } := rfl
end Ver
/-- what is said of a step: the error, or the state behind it -/
def TurnR (B q g n nt role : Nat) (bv kv : Value) (w : World) (r : Except Nat Ver.St) (e : Ending) (w' : World) : Prop :=
  (∀ c, r = .error c → e = .returned (.int .i64 (c : Int)) ∧ Turns (VT q g kv) w w') ∧
  ∀ S', r = .ok S' → e = .returned (.int .i64 0) ∧ ∃ kv', VAt B q g n nt role bv kv' S' w' ∧ Turns (VT q g kv) w w' ∧ ∀ j, kv'.ownBlock = some j → kv.ownBlock = some j ∨ w.heap.size ≤ j
theorem TurnR.bad {B q g n nt role : Nat} {bv kv : Value} {w w' : World} {c : Nat} {e : Ending} (he : e = .returned (.int .i64 (c : Int))) (ht : Turns (VT q g kv) w w') : TurnR B q g n nt role bv kv w (.error c) e w' :=
  ⟨fun d hd => by cases hd; exact ⟨he, ht⟩, fun S' h => (nomatch h)⟩
theorem TurnR.good {B q g n nt role : Nat} {bv kv kv' : Value} {w w' : World} {S' : Ver.St} (h : VAt B q g n nt role bv kv' S' w') (ht : Turns (VT q g kv) w w') (hn : ∀ j, kv'.ownBlock = some j → kv.ownBlock = some j ∨ w.heap.size ≤ j) : TurnR B q g n nt role bv kv w (.ok S') (.returned (.int .i64 0)) w' :=
  ⟨fun d hd => (nomatch hd), fun S'' h' => by cases h'; exact ⟨rfl, kv', h, ht, hn⟩⟩
section
variable {B q g n nt role : Nat} {bv kv : Value} {S : Ver.St} {w : World}
theorem load_txt {w : World} {b o : Nat} {x : Value} (h : w.cell? ⟨b, o, none⟩ = some x) : (Instr.loadAt 9 (.pointer (some ⟨b, o, none⟩))).run Tryd.prog w = .ok x w := load_at Tryd.underlying9 Tryd.isAgg9 h
theorem build_blk (X : Ver.PB) (w : World) : (Instr.build 81 #[(0, .int .u8 (X.op : Int)), (1, .int .i64 (X.at_ : Int)), (2, .string (Ver.kb X.opn)), (3, .string (Ver.kb X.want))]).run Tryd.prog w = .ok (pbV X) w := run_build w _ _ _ (by kernel_rfl)
/-- the innermost block is turned to its other half -/
theorem VAt.else_ {bb cap : Nat} {b : Ver.Blk} {l : List Ver.Blk} {i : Nat} (h : VAt B q g n nt role bv (.slice (some ⟨bb, 0, none⟩) (l.length + 1) cap) S w) (hb : S.bl = b :: l) (hi : i < n) :
    VAt B q g n nt role bv (.slice (some ⟨bb, 0, none⟩) (l.length + 1) cap) { S with bl := { b with kept := S.k, did := true, at_ := i } :: l } (((w.setCell ⟨bb, l.length * 4 + 0, none⟩ (.int .u8 20)).setCell ⟨bb, l.length * 4 + 1, none⟩ (.int .i64 (i : Int))).setCell ⟨bb, l.length * 4 + 3, none⟩ (.string (Ver.kb S.k))) := by
  obtain ⟨bb', cap', e1, _, h2, _⟩ := h.inner hb
  simp only [Value.slice.injEq, Option.some.injEq, Addr.mk.injEq] at e1
  obtain ⟨⟨rfl, _⟩, _, rfl⟩ := e1
  have k0 := h2.setTop (y := ⟨20, b.pb.at_, b.pb.opn, b.pb.want⟩) 0 (by omega) (.int .u8 20) rfl
  have k1 := k0.setTop (y := ⟨20, i, b.pb.opn, b.pb.want⟩) 1 (by omega) (.int .i64 (i : Int)) rfl
  have k2 := k1.setTop (y := ⟨20, i, b.pb.opn, S.k⟩) 3 (by omega) (.string (Ver.kb S.k)) rfl
  have e : (⟨20, i, b.pb.opn, S.k⟩ : Ver.PB) = ({ b with kept := S.k, did := true, at_ := i } : Ver.Blk).pb := rfl
  rw [e, Ver.pbs_length] at k2
  refine h.turnB (grown_trans (grown_trans (grown_set _ _ _ _) (grown_set _ _ _ _)) (grown_set _ _ _ _)) (by rw [Ver.pbs_cons]; exact k2) ⟨fun c hc => ?_, h.ok.nk, ?_, fun c hc => ?_, fun c hc => ?_⟩
  · rcases List.mem_cons.1 hc with rfl | hc
    · exact hi
    · exact h.ok.at_ c (by rw [hb]; exact List.mem_cons_of_mem _ hc)
  · have := h.ok.nb; rw [hb] at this; simpa using this
  · rcases List.mem_cons.1 hc with rfl | hc
    · exact h.ok.op_ b (by rw [hb]; exact List.mem_cons_self ..)
    · exact h.ok.op_ c (by rw [hb]; exact List.mem_cons_of_mem _ hc)
  · rcases List.mem_cons.1 hc with rfl | hc
    · exact h.ok.bk b (by rw [hb]; exact List.mem_cons_self ..)
    · exact h.ok.bk c (by rw [hb]; exact List.mem_cons_of_mem _ hc)
theorem VP.push {o i : Nat} (h : VP n S) (hi : i < n) (ho : o ≤ 23) (hb : S.bl.length < 8) : VP n { S with bl := ⟨o, S.k, [], false, i⟩ :: S.bl } :=
  ⟨fun c hc => by
    rcases List.mem_cons.1 hc with rfl | hc
    · exact hi
    · exact h.at_ c hc, h.nk, by simp only [List.length_cons]; omega, fun c hc => by
    rcases List.mem_cons.1 hc with rfl | hc
    · exact ho
    · exact h.op_ c hc, fun c hc => by
    rcases List.mem_cons.1 hc with rfl | hc
    · exact h.nk
    · exact h.bk c hc⟩

set_option maxHeartbeats 2000000 in
theorem turn_19 (h : VAt B q g n nt role bv kv S w) (i : Nat) (hi : i < n) (hb : S.bl.length < 8) : Calls Tryd.prog 39 #[.pointer (some ⟨q, 0, none⟩), .int .i64 (i : Int), .int .u8 19] w (TurnR B q g n nt role bv kv w (Ver.tP i 19 S)) := by
  rw [Ver.tP_19]
  have hpush := fun u (k : VAt B q g n nt role bv kv S u) => push_any k ⟨19, S.k, [], false, i⟩ hb (h.ok.push hi (by decide) hb)
  have c5 : w.drew.cell? ⟨q, 5, none⟩ = some (.string (Ver.kb S.k)) := h.drew.c 5
  have hX : (⟨19, S.k, [], false, i⟩ : Ver.Blk).pb = ⟨19, i, S.k, S.k⟩ := rfl
  rw [hX] at hpush
  have H := Lib.hid h; clear h
  have HP := Lib.hid hpush; clear hpush
  go_enter Tryd.func39, Tryd.ntmps39
  go_wp2_with fail
  refine wp_region_phases [([0, 1, 2, 3, 4, 5, 6, 7, 8, 9, 10, 11, 12], [13, 14])] (by kernel_rfl) (by kernel_rfl) (fun z => z.cell? ⟨q, 5, none⟩ = some (.string (Ver.kb S.k))) c5 ?_
  simp only [wpPhases, pick, List.filterMap_cons, List.filterMap_nil, List.getElem?_toArray, List.getElem?_cons_zero, List.getElem?_cons_succ]
  refine take_move (.tmp 0) (.pointer (some ⟨q, 0, none⟩)) rfl rfl rfl ?_
  simp only [Act.put, List.setIfInBounds_toArray, List.set_cons_zero, List.set_cons_succ]
  refine take_nil (.tmp 13) ⟨q, 0, none⟩ rfl rfl rfl ?_
  simp only [Act.put, List.setIfInBounds_toArray, List.set_cons_zero, List.set_cons_succ]
  refine take_one (.pointer (some ⟨q, 6, none⟩)) rfl (fun u _ => by go_simp) ?_
  simp only [Act.put, List.setIfInBounds_toArray, List.set_cons_zero, List.set_cons_succ]
  refine take_move (.tmp 2) (.int .u8 19) rfl rfl rfl ?_
  simp only [Act.put, List.setIfInBounds_toArray, List.set_cons_zero, List.set_cons_succ]
  refine take_move (.tmp 1) (.int .i64 (i : Int)) rfl rfl rfl ?_
  simp only [Act.put, List.setIfInBounds_toArray, List.set_cons_zero, List.set_cons_succ]
  refine take_move (.tmp 0) (.pointer (some ⟨q, 0, none⟩)) rfl rfl rfl ?_
  simp only [Act.put, List.setIfInBounds_toArray, List.set_cons_zero, List.set_cons_succ]
  refine take_nil (.tmp 18) ⟨q, 0, none⟩ rfl rfl rfl ?_
  simp only [Act.put, List.setIfInBounds_toArray, List.set_cons_zero, List.set_cons_succ]
  refine take_one (.pointer (some ⟨q, 5, none⟩)) rfl (fun u _ => by go_simp) ?_
  simp only [Act.put, List.setIfInBounds_toArray, List.set_cons_zero, List.set_cons_succ]
  refine take_load 9 (.tmp 20) ⟨q, 5, none⟩ (.string (Ver.kb S.k)) rfl rfl rfl (fun u hu => load_at Tryd.underlying9 Tryd.isAgg9 hu) ?_
  simp only [Act.put, List.setIfInBounds_toArray, List.set_cons_zero, List.set_cons_succ]
  refine take_move (.tmp 0) (.pointer (some ⟨q, 0, none⟩)) rfl rfl rfl ?_
  simp only [Act.put, List.setIfInBounds_toArray, List.set_cons_zero, List.set_cons_succ]
  refine take_nil (.tmp 22) ⟨q, 0, none⟩ rfl rfl rfl ?_
  simp only [Act.put, List.setIfInBounds_toArray, List.set_cons_zero, List.set_cons_succ]
  refine take_one (.pointer (some ⟨q, 5, none⟩)) rfl (fun u _ => by go_simp) ?_
  simp only [Act.put, List.setIfInBounds_toArray, List.set_cons_zero, List.set_cons_succ]
  refine take_load 9 (.tmp 24) ⟨q, 5, none⟩ (.string (Ver.kb S.k)) rfl rfl rfl (fun u hu => load_at Tryd.underlying9 Tryd.isAgg9 hu) ?_
  simp only [Act.put, List.setIfInBounds_toArray, List.set_cons_zero, List.set_cons_succ]
  refine take_done ?_
  refine midk_one (pbV ⟨19, i, S.k, S.k⟩) rfl (run_build_at 81 [(0, .tmp 16), (1, .tmp 17), (2, .tmp 21), (3, .tmp 25)] rfl (build_blk ⟨19, i, S.k, S.k⟩ w.drew)) c5 ?_
  refine midk_wp rfl (call_wp 48 [.tmp 15, .tmp 26] #[59, 81] #[.pointer (some ⟨q, 6, none⟩), pbV ⟨19, i, S.k, S.k⟩] rfl rfl rfl ?_)
  refine (HP.out _ H.out.drew).mono ?_
  rintro e w1 ⟨rfl, kv', h1, ht, hn⟩
  refine ⟨_, rfl, h1.c 5, ?_⟩
  simp only [wpMidK]
  refine NoPanic.normal ?_
  have ht' : Turns (VT q g kv) w w1 := (Turns.of_new ((Below.refl w.heap.size w).drew) _).trans ht (fun _ _ e => e)
  have HG := Lib.hid (TurnR.good h1 ht' hn)
  clear h1 ht hn ht'
  go_wp2_with fail
  go_ret
  exact HG.out

set_option maxHeartbeats 2000000 in
theorem turn_22 (h : VAt B q g n nt role bv kv S w) (i : Nat) (hi : i < n) (hb : S.bl.length < 8) : Calls Tryd.prog 39 #[.pointer (some ⟨q, 0, none⟩), .int .i64 (i : Int), .int .u8 22] w (TurnR B q g n nt role bv kv w (Ver.tP i 22 S)) := by
  rw [Ver.tP_22]
  have hpush := fun u (k : VAt B q g n nt role bv kv S u) => push_any k ⟨22, S.k, [], false, i⟩ hb (h.ok.push hi (by decide) hb)
  have c5 : w.drew.cell? ⟨q, 5, none⟩ = some (.string (Ver.kb S.k)) := h.drew.c 5
  have hX : (⟨22, S.k, [], false, i⟩ : Ver.Blk).pb = ⟨22, i, S.k, S.k⟩ := rfl
  rw [hX] at hpush
  have H := Lib.hid h; clear h
  have HP := Lib.hid hpush; clear hpush
  go_enter Tryd.func39, Tryd.ntmps39
  go_wp2_with fail
  refine wp_region_phases [([0, 1, 2, 3, 4, 5, 6, 7, 8, 9, 10, 11, 12], [13, 14])] (by kernel_rfl) (by kernel_rfl) (fun z => z.cell? ⟨q, 5, none⟩ = some (.string (Ver.kb S.k))) c5 ?_
  simp only [wpPhases, pick, List.filterMap_cons, List.filterMap_nil, List.getElem?_toArray, List.getElem?_cons_zero, List.getElem?_cons_succ]
  refine take_move (.tmp 0) (.pointer (some ⟨q, 0, none⟩)) rfl rfl rfl ?_
  simp only [Act.put, List.setIfInBounds_toArray, List.set_cons_zero, List.set_cons_succ]
  refine take_nil (.tmp 13) ⟨q, 0, none⟩ rfl rfl rfl ?_
  simp only [Act.put, List.setIfInBounds_toArray, List.set_cons_zero, List.set_cons_succ]
  refine take_one (.pointer (some ⟨q, 6, none⟩)) rfl (fun u _ => by go_simp) ?_
  simp only [Act.put, List.setIfInBounds_toArray, List.set_cons_zero, List.set_cons_succ]
  refine take_move (.tmp 2) (.int .u8 22) rfl rfl rfl ?_
  simp only [Act.put, List.setIfInBounds_toArray, List.set_cons_zero, List.set_cons_succ]
  refine take_move (.tmp 1) (.int .i64 (i : Int)) rfl rfl rfl ?_
  simp only [Act.put, List.setIfInBounds_toArray, List.set_cons_zero, List.set_cons_succ]
  refine take_move (.tmp 0) (.pointer (some ⟨q, 0, none⟩)) rfl rfl rfl ?_
  simp only [Act.put, List.setIfInBounds_toArray, List.set_cons_zero, List.set_cons_succ]
  refine take_nil (.tmp 18) ⟨q, 0, none⟩ rfl rfl rfl ?_
  simp only [Act.put, List.setIfInBounds_toArray, List.set_cons_zero, List.set_cons_succ]
  refine take_one (.pointer (some ⟨q, 5, none⟩)) rfl (fun u _ => by go_simp) ?_
  simp only [Act.put, List.setIfInBounds_toArray, List.set_cons_zero, List.set_cons_succ]
  refine take_load 9 (.tmp 20) ⟨q, 5, none⟩ (.string (Ver.kb S.k)) rfl rfl rfl (fun u hu => load_at Tryd.underlying9 Tryd.isAgg9 hu) ?_
  simp only [Act.put, List.setIfInBounds_toArray, List.set_cons_zero, List.set_cons_succ]
  refine take_move (.tmp 0) (.pointer (some ⟨q, 0, none⟩)) rfl rfl rfl ?_
  simp only [Act.put, List.setIfInBounds_toArray, List.set_cons_zero, List.set_cons_succ]
  refine take_nil (.tmp 22) ⟨q, 0, none⟩ rfl rfl rfl ?_
  simp only [Act.put, List.setIfInBounds_toArray, List.set_cons_zero, List.set_cons_succ]
  refine take_one (.pointer (some ⟨q, 5, none⟩)) rfl (fun u _ => by go_simp) ?_
  simp only [Act.put, List.setIfInBounds_toArray, List.set_cons_zero, List.set_cons_succ]
  refine take_load 9 (.tmp 24) ⟨q, 5, none⟩ (.string (Ver.kb S.k)) rfl rfl rfl (fun u hu => load_at Tryd.underlying9 Tryd.isAgg9 hu) ?_
  simp only [Act.put, List.setIfInBounds_toArray, List.set_cons_zero, List.set_cons_succ]
  refine take_done ?_
  refine midk_one (pbV ⟨22, i, S.k, S.k⟩) rfl (run_build_at 81 [(0, .tmp 16), (1, .tmp 17), (2, .tmp 21), (3, .tmp 25)] rfl (build_blk ⟨22, i, S.k, S.k⟩ w.drew)) c5 ?_
  refine midk_wp rfl (call_wp 48 [.tmp 15, .tmp 26] #[59, 81] #[.pointer (some ⟨q, 6, none⟩), pbV ⟨22, i, S.k, S.k⟩] rfl rfl rfl ?_)
  refine (HP.out _ H.out.drew).mono ?_
  rintro e w1 ⟨rfl, kv', h1, ht, hn⟩
  refine ⟨_, rfl, h1.c 5, ?_⟩
  simp only [wpMidK]
  refine NoPanic.normal ?_
  have ht' : Turns (VT q g kv) w w1 := (Turns.of_new ((Below.refl w.heap.size w).drew) _).trans ht (fun _ _ e => e)
  have HG := Lib.hid (TurnR.good h1 ht' hn)
  clear h1 ht hn ht'
  go_wp2_with fail
  go_ret
  exact HG.out

set_option maxHeartbeats 2000000 in
theorem turn_20c (h : VAt B q g n nt role bv kv S w) (i : Nat) (hi : i < n) (hn : n ≤ 256) (b : Ver.Blk) (l : List Ver.Blk) (hb : S.bl = b :: l) : Calls Tryd.prog 39 #[.pointer (some ⟨q, 0, none⟩), .int .i64 (i : Int), .int .u8 20] w (TurnR B q g n nt role bv kv w (.ok { S with ends := S.ends.set b.at_ i, bl := { b with kept := S.k, did := true, at_ := i } :: l, k := b.opn })) := by
  obtain ⟨bb, cap, rfl, h1, h2, hcl⟩ := h.inner hb
  have c6 : w.cell? ⟨q, 6, none⟩ = some (.slice (some ⟨bb, 0, none⟩) (l.length + 1) cap) := h.c 6
  have hl8 : l.length + 1 ≤ 8 := by have := h.ok.nb; rw [hb] at this; exact this
  have d1 : w.drew.cell? ⟨q, 1, none⟩ = some (.slice (some ⟨g, 0, none⟩) n n) := h.drew.c 1
  have hat : b.at_ < n := h.ok.at_ b (by rw [hb]; exact List.mem_cons_self ..)
  have d2 : w.drew.cell? ⟨bb, l.length * 4 + 1, none⟩ = some (.int .i64 (b.at_ : Int)) := (hcl 1 _ rfl).1
  have d3 : w.drew.cell? ⟨g, b.at_, none⟩ = some (.int .i64 ((S.ends.getD b.at_ 0 : Nat) : Int)) := by rw [cell_at h.drew.row, vints_get _ _ (by rw [h.len]; exact hat)]
  have f3 : w.drew.frozen? ⟨g, b.at_, none⟩ = false := row_free h.drew.row _
  have HT := fun u => top_any bb l.length cap (by omega) u
  obtain ⟨t, hte⟩ : ∃ t, t = l.length := ⟨_, rfl⟩
  obtain ⟨A, hA⟩ : ∃ A, A = b.at_ := ⟨_, rfl⟩
  have hat2 : (A : Int) < (n : Int) := by omega
  rw [← hte] at c6 d2 HT hl8
  rw [← hA] at d2 d3 f3
  have Hte := Lib.hid hte; clear hte
  have HAe := Lib.hid hA; clear hA
  have Hcl := Lib.hid hcl; clear hcl
  have H := Lib.hid h; clear h
  have HTo := Lib.hid HT; clear HT
  have H2 := Lib.hid h2; clear h2
  have Hb := Lib.hid hb; clear hb
  go_enter Tryd.func39, Tryd.ntmps39
  go_wp2_with fail
  refine (HTo.out _).mono ?_; rintro e w1 ⟨rfl, rfl⟩
  go_wp2_with fail
  go_region
  obtain ⟨W, hW⟩ : ∃ W, W = (w1.setCell ⟨g, A, none⟩ (.int .i64 (i : Int))).drew := ⟨_, rfl⟩
  have hV : VAt B q g n nt role bv (.slice (some ⟨bb, 0, none⟩) (l.length + 1) cap) { S with ends := S.ends.set b.at_ i } W := by rw [hW, HAe.out]; exact (H.out.setE b.at_ i).drew
  have hT : Turns (VT q g (.slice (some ⟨bb, 0, none⟩) (l.length + 1) cap)) w1 W := by rw [hW]; exact (Turns.set (Turns.refl _ _) g A _ (fun _ => .inr (.inl rfl))).drew
  rw [← hW]
  clear hW d1 d2 d3 f3 c6
  obtain ⟨bb', cap', e1, _, _, hcl⟩ := hV.inner Hb.out
  simp only [Value.slice.injEq, Option.some.injEq, Addr.mk.injEq] at e1
  obtain ⟨⟨rfl, _⟩, _, rfl⟩ := e1
  have a0 := hcl 0 _ rfl
  have a1 := hcl 1 _ rfl
  have a2 := hcl 2 _ rfl
  have a3 := hcl 3 _ rfl
  have hX : (b.pb).opn = b.opn := rfl
  rw [hX] at a2
  have c5 : W.cell? ⟨q, 5, none⟩ = some (.string (Ver.kb S.k)) := hV.c 5
  have f5 : W.frozen? ⟨q, 5, none⟩ = false := hV.f 5
  have hqb : q ≠ bb := fun e => hV.kq (by rw [e]; rfl)
  rw [← Hte.out] at a0 a1 a2 a3
  rw [Nat.add_zero] at a0
  obtain ⟨x0, y0⟩ := a0
  obtain ⟨x1, y1⟩ := a1
  obtain ⟨x2, y2⟩ := a2
  obtain ⟨x3, y3⟩ := a3
  have HV := Lib.hid hV; clear hV
  have HTu := Lib.hid hT; clear hT
  clear hcl hX
  have fin : TurnR B q g n nt role bv (.slice (some ⟨bb, 0, none⟩) (l.length + 1) cap) w1 (.ok { S with ends := S.ends.set b.at_ i, bl := { b with kept := S.k, did := true, at_ := i } :: l, k := b.opn }) (.returned (.int .i64 0))
      ((((W.setCell ⟨bb, t * 4, none⟩ (.int .u8 20)).setCell ⟨bb, t * 4 + 1, none⟩ (.int .i64 (i : Int))).setCell ⟨bb, t * 4 + 3, none⟩ (.string (Ver.kb S.k))).setCell ⟨q, 5, none⟩ (.string (Ver.kb b.opn))) := by
    have h3 := HV.out.else_ Hb.out hi
    rw [Nat.add_zero, ← Hte.out] at h3
    have hok := h3.ok
    have h4 := h3.setK b.opn ⟨hok.at_, H.out.ok.bk b (by rw [Hb.out]; exact List.mem_cons_self ..), hok.nb, hok.op_, hok.bk⟩
    refine TurnR.good h4 ?_ (fun j hj => .inl hj)
    have hlt := H.out.blk
    refine Turns.set (Turns.set (Turns.set (Turns.set HTu.out bb _ _ (fun _ => ?_)) bb _ _ (fun _ => ?_)) bb _ _ (fun _ => ?_)) q _ _ (fun _ => .inl rfl)
    all_goals exact .inr (.inr rfl)
  have FIN := Lib.hid fin; clear fin
  go_wp2_with fail
  go_ret
  exact FIN.out

set_option maxHeartbeats 2000000 in
theorem turn_21c (h : VAt B q g n nt role bv kv S w) (i : Nat) (hi : i < n) (hn : n ≤ 256) (b : Ver.Blk) (l : List Ver.Blk) (hb : S.bl = b :: l) : Calls Tryd.prog 39 #[.pointer (some ⟨q, 0, none⟩), .int .i64 (i : Int), .int .u8 21] w (TurnR B q g n nt role bv kv w (if S.k = (if b.did then b.kept else b.opn) then .ok { S with ends := S.ends.set b.at_ i, bl := l } else .error 132)) := by
  have hpop := fun u S' (k : VAt B q g n nt role bv kv S' u) (e : S'.bl = b :: l) => pop_any k b l e
  obtain ⟨bb, cap, rfl, h1, h2, hcl⟩ := h.inner hb
  have c6 : w.cell? ⟨q, 6, none⟩ = some (.slice (some ⟨bb, 0, none⟩) (l.length + 1) cap) := h.c 6
  have c5 : w.drew.cell? ⟨q, 5, none⟩ = some (.string (Ver.kb S.k)) := h.drew.c 5
  have hl8 : l.length + 1 ≤ 8 := by have := h.ok.nb; rw [hb] at this; exact this
  have hat : b.at_ < n := h.ok.at_ b (by rw [hb]; exact List.mem_cons_self ..)
  have HT := fun u => top_any bb l.length cap (by omega) u
  obtain ⟨V, hV⟩ : ∃ V, V = if b.did then b.kept else b.opn := ⟨_, rfl⟩
  have d2 : w.drew.cell? ⟨bb, l.length * 4 + 3, none⟩ = some (.string (Ver.kb V)) := by rw [hV]; exact (hcl 3 _ rfl).1
  rw [← hV]
  have e1 : w.drew.drew.cell? ⟨q, 1, none⟩ = some (.slice (some ⟨g, 0, none⟩) n n) := h.drew.drew.c 1
  have e2 : w.drew.drew.cell? ⟨bb, l.length * 4 + 1, none⟩ = some (.int .i64 (b.at_ : Int)) := (hcl 1 _ rfl).1
  have e3 : w.drew.drew.cell? ⟨g, b.at_, none⟩ = some (.int .i64 ((S.ends.getD b.at_ 0 : Nat) : Int)) := by rw [cell_at h.drew.drew.row, vints_get _ _ (by rw [h.len]; exact hat)]
  have f3 : w.drew.drew.frozen? ⟨g, b.at_, none⟩ = false := row_free h.drew.drew.row _
  have hKV : (Ver.kb S.k).toList = S.k := Ver.kb_toList _
  have hVV : (Ver.kb V).toList = V := Ver.kb_toList _
  obtain ⟨t, hte⟩ : ∃ t, t = l.length := ⟨_, rfl⟩
  obtain ⟨A, hA⟩ : ∃ A, A = b.at_ := ⟨_, rfl⟩
  have hat2 : (A : Int) < (n : Int) := by omega
  rw [← hte] at c6 d2 e2 HT hl8
  rw [← hA] at e2 e3 f3
  have Hte := Lib.hid hte; clear hte
  have HAe := Lib.hid hA; clear hA
  have H := Lib.hid h; clear h
  have HTo := Lib.hid HT; clear HT
  have Hb := Lib.hid hb; clear hb
  have HP := Lib.hid hpop; clear hpop
  have HKV := Lib.hid hKV; clear hKV
  have HVV := Lib.hid hVV; clear hVV
  clear hcl hV h2
  by_cases hk : S.k = V
  · rw [if_pos hk]
    have dd : ((Ver.kb S.k).toList == (Ver.kb V).toList) = true := by rw [HKV.out, HVV.out, beq_iff_eq]; exact hk
    obtain ⟨K, hKe⟩ : ∃ K, K = Ver.kb S.k := ⟨_, rfl⟩
    obtain ⟨VV, hVe⟩ : ∃ VV, VV = Ver.kb V := ⟨_, rfl⟩
    rw [← hKe] at c5 dd
    rw [← hVe] at d2 dd
    clear hKe hVe hk
    go_enter Tryd.func39, Tryd.ntmps39
    go_wp2_with fail
    refine (HTo.out _).mono ?_; rintro e w1 ⟨rfl, rfl⟩
    go_wp2_with fail
    go_region
    go_wp2_with fail
    go_region
    obtain ⟨W, hW⟩ : ∃ W, W = (w1.setCell ⟨g, A, none⟩ (.int .i64 (i : Int))).drew.drew := ⟨_, rfl⟩
    have hV : VAt B q g n nt role bv (.slice (some ⟨bb, 0, none⟩) (l.length + 1) cap) { S with ends := S.ends.set b.at_ i } W := by rw [hW, HAe.out]; exact (H.out.setE b.at_ i).drew.drew
    have hT : Turns (VT q g (.slice (some ⟨bb, 0, none⟩) (l.length + 1) cap)) w1 W := by rw [hW]; exact (Turns.set (Turns.refl _ _) g A _ (fun _ => .inr (.inl rfl))).drew.drew
    rw [← hW]
    clear hW e1 e2 e3 f3 c5 c6 d2
    have HV := Lib.hid hV; clear hV
    have HTu := Lib.hid hT; clear hT
    go_wp2_with fail
    refine (HP.out _ _ HV.out Hb.out).mono ?_
    rintro e w2 ⟨rfl, kv', hv2, ht2, hn2⟩
    have fin : TurnR B q g n nt role bv (.slice (some ⟨bb, 0, none⟩) (l.length + 1) cap) w1 (.ok { S with ends := S.ends.set b.at_ i, bl := l }) (.returned (.int .i64 0)) w2 :=
      TurnR.good hv2 (HTu.out.trans ht2 (fun _ _ e => e)) (fun j hj => by
        have := HTu.out.size
        rcases hn2 j hj with e | e
        · exact .inl e
        · exact .inr (by omega))
    have FIN := Lib.hid fin; clear fin hv2 ht2 hn2
    go_wp2_with fail
    go_ret
    exact FIN.out
  · rw [if_neg hk]
    have dd : ((Ver.kb S.k).toList == (Ver.kb V).toList) = false := by rw [HKV.out, HVV.out, beq_eq_false_iff_ne]; exact hk
    obtain ⟨K, hKe⟩ : ∃ K, K = Ver.kb S.k := ⟨_, rfl⟩
    obtain ⟨VV, hVe⟩ : ∃ VV, VV = Ver.kb V := ⟨_, rfl⟩
    rw [← hKe] at c5 dd
    rw [← hVe] at d2 dd
    clear hKe hVe hk
    go_enter Tryd.func39, Tryd.ntmps39
    go_wp2_with fail
    refine (HTo.out _).mono ?_; rintro e w1 ⟨rfl, rfl⟩
    go_wp2_with fail
    go_region
    go_wp2_with fail
    go_ret
    exact TurnR.bad rfl ((Turns.refl _ _).drew)

theorem turn_not (h : VAt B q g n nt role bv kv S w) (i op : Nat) (h1 : op ≠ 19) (h2 : op ≠ 22) (h3 : op ≠ 20) (h4 : op ≠ 21) : Calls Tryd.prog 39 #[.pointer (some ⟨q, 0, none⟩), .int .i64 (i : Int), .int .u8 (op : Int)] w (TurnR B q g n nt role bv kv w (.ok S)) := by
  have d1 : ((op : Int) == 19) = false := beq_eq_false_iff_ne.2 (by omega)
  have d2 : ((op : Int) == 22) = false := beq_eq_false_iff_ne.2 (by omega)
  have d3 : ((op : Int) == 20) = false := beq_eq_false_iff_ne.2 (by omega)
  have d4 : ((op : Int) == 21) = false := beq_eq_false_iff_ne.2 (by omega)
  have H := Lib.hid h; clear h
  go_enter Tryd.func39, Tryd.ntmps39
  go_wp2_with fail
  go_ret
  exact TurnR.good H.out (Turns.refl _ _) (fun j hj => .inl hj)

/-- turn -/
theorem turn_any (h : VAt B q g n nt role bv kv S w) (i op : Nat) (hi : i < n) (hn : n ≤ 256) (hne : Ver.nests S.bl op = true) : Calls Tryd.prog 39 #[.pointer (some ⟨q, 0, none⟩), .int .i64 (i : Int), .int .u8 (op : Int)] w (TurnR B q g n nt role bv kv w (Ver.tP i op S)) := by
  by_cases h1 : op = 19
  · subst h1
    exact turn_19 h i hi (of_decide_eq_true hne)
  by_cases h2 : op = 22
  · subst h2
    exact turn_22 h i hi (of_decide_eq_true hne)
  by_cases h3 : op = 20
  · subst h3
    cases hb : S.bl with
    | nil => rw [hb] at hne; cases hne
    | cons b l =>
      show Calls _ _ _ _ (TurnR B q g n nt role bv kv w (Ver.turn i 20 S))
      rw [Ver.turn_20 i S b l hb]
      exact turn_20c h i hi hn b l hb
  by_cases h4 : op = 21
  · subst h4
    cases hb : S.bl with
    | nil => rw [hb] at hne; cases hne
    | cons b l =>
      show Calls _ _ _ _ (TurnR B q g n nt role bv kv w (Ver.turn i 21 S))
      have := turn_21c h i hi hn b l hb
      by_cases hk : S.k = (if b.did then b.kept else b.opn)
      · rw [if_pos hk] at this
        rw [Ver.turn_21 i S b l hb hk]
        exact this
      · rw [if_neg hk] at this
        rw [Ver.turn_21e i S b l hb hk]
        exact this
  have e : Ver.tP i op S = .ok S := by
    unfold Ver.tP
    rw [if_neg h2]
    exact Ver.turn_no i op S h1 h2 h3 h4
  rw [e]
  exact turn_not h i op h1 h2 h3 h4

end
end Go.Proofs.YtolldoclnfnceaaDoor
