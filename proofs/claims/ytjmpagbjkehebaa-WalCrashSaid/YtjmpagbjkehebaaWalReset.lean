/-
  What Reset does.
-/
import Derived.Test.YtjmpagbjkehebaaWalAp5
set_option linter.unusedVariables false
set_option maxRecDepth 100000
namespace Go.Proofs.Ytjmpagbjkehebaa
open Go.RowKit

theorem fn_info : (Try.prog.info? 37).map (fun i => (i.zero, i.size, i.bytes)) = some (some .nilFunc, 1, 8) := by kernel_rfl
theorem fn_u : Try.prog.underlying 76 = some (.slice 37) := Try.underlying76
def fnv (x : Nat × Array Value) : Value := .func (.func x.1) #[] x.2
theorem slice_fn3 (x y z : Nat × Array Value) (w : World) : (Instr.buildSlice 76 3 #[(0, fnv x), (1, fnv y), (2, fnv z)]).run Try.prog w = .ok (.slice (some ⟨w.heap.size, 0, none⟩) 3 3) (w.alloc (.cells #[fnv x, fnv y, fnv z] 37)) := by
  obtain ⟨i, hi, h0, h1, h2⟩ := info_parts fn_info
  have hf := Great.fill_whole (s := 1) (by omega) [fnv x, fnv y, fnv z] ((Array.range (3 * 1)).map (Value.nilFunc.cells[· % Value.nilFunc.cells.size]!)) (fun v hv => by simp at hv; rcases hv with rfl | rfl | rfl <;> rfl) (by simp)
  refine run_buildSlice w 76 37 3 _ #[fnv x, fnv y, fnv z] i _ fn_u hi h0 (by rw [h1]; decide) (by rw [h1]; decide) ?_
  rw [h1]
  have e : ([fnv x, fnv y, fnv z].flatMap fun v => v.cells.toList).toArray = #[fnv x, fnv y, fnv z] := by simp [Value.cells, fnv]
  rw [e] at hf
  exact hf
theorem slice_fn5 (x y z x2 y2 : Nat × Array Value) (w : World) : (Instr.buildSlice 76 5 #[(0, fnv x), (1, fnv y), (2, fnv z), (3, fnv x2), (4, fnv y2)]).run Try.prog w = .ok (.slice (some ⟨w.heap.size, 0, none⟩) 5 5) (w.alloc (.cells #[fnv x, fnv y, fnv z, fnv x2, fnv y2] 37)) := by
  obtain ⟨i, hi, h0, h1, h2⟩ := info_parts fn_info
  have hf := Great.fill_whole (s := 1) (by omega) [fnv x, fnv y, fnv z, fnv x2, fnv y2] ((Array.range (5 * 1)).map (Value.nilFunc.cells[· % Value.nilFunc.cells.size]!)) (fun v hv => by simp at hv; rcases hv with rfl | rfl | rfl | rfl | rfl <;> rfl) (by simp)
  refine run_buildSlice w 76 37 5 _ #[fnv x, fnv y, fnv z, fnv x2, fnv y2] i _ fn_u hi h0 (by rw [h1]; decide) (by rw [h1]; decide) ?_
  rw [h1]
  have e : ([fnv x, fnv y, fnv z, fnv x2, fnv y2].flatMap fun v => v.cells.toList).toArray = #[fnv x, fnv y, fnv z, fnv x2, fnv y2] := by simp [Value.cells, fnv]
  rw [e] at hf
  exact hf
theorem store_err {w : World} {b o : Nat} {x' : Value} {x : Int} (h0 : w.cell? ⟨b, o, none⟩ = some x') (f0 : w.frozen? ⟨b, o, none⟩ = false) :
    (Instr.storeAt 26 (.pointer (some ⟨b, o, none⟩)) (.int .i64 x)).run Try.prog w = .ok () (w.setCell ⟨b, o, none⟩ (.int .i64 x)) := by
  have hz := Try.sizeOf26
  simp [Instr.storeAt, go_sem, hz, h0, f0]

namespace Wal
section
variable (d : Dsk.St) (s : St)
def rsW : Dsk.St × Int := Dsk.write d (s.from_ : Int) (mark (up s.gen) 0)
def rsF : Dsk.St × Int := Dsk.flush (rsW d s).1
def rsE : Nat → Int
  | 0 => (rsW d s).2
  | 1 => (rsF d s).2
  | _ => 0
def rsD : Nat → Dsk.St
  | 0 => d
  | 1 => (rsW d s).1
  | _ => (rsF d s).1
def rsS : Nat → St
  | 3 => { s with gen := up s.gen, used := 0, L := [] }
  | _ => s
theorem steps2 : ((rsW d s).2 ≠ 0 → steps (resetOps s) d = rsW d s) ∧ ((rsW d s).2 = 0 → (rsF d s).2 ≠ 0 → steps (resetOps s) d = rsF d s) ∧ ((rsW d s).2 = 0 → (rsF d s).2 = 0 → steps (resetOps s) d = ((rsF d s).1, 0)) := by
  have e : steps (resetOps s) d = if (rsW d s).2 = 0 then (if (rsF d s).2 = 0 then ((rsF d s).1, 0) else rsF d s) else rsW d s := rfl
  rw [e]
  refine ⟨fun h => if_neg h, fun h h2 => ?_, fun h h2 => ?_⟩
  · rw [if_pos h, if_neg h2]
  · rw [if_pos h, if_pos h2]
end
end Wal

section
variable {w : World} {S0 R0 : Nat → Prop} {p q : Nat} {d : Dsk.St} {s : Wal.St}
def rsG : Nat → Nat
  | 0 => 41
  | 1 => 42
  | _ => 43
def rsL (B na : Nat) : Nat → Array Value
  | 0 => #[.pointer (some ⟨B, 0, none⟩), .pointer (some ⟨na, 0, none⟩)]
  | 1 => #[.pointer (some ⟨B, 0, none⟩)]
  | _ => #[.pointer (some ⟨na, 0, none⟩), .pointer (some ⟨B, 0, none⟩)]
def rsObj (B na : Nat) : Obj := .cells #[fnv (rsG 0, rsL B na 0), fnv (rsG 1, rsL B na 1), fnv (rsG 2, rsL B na 2)] 37 (0, 0)
theorem rs_eg (i : Nat) (args : Array Value) (w : World) : (callFunc (rsG i) args).run Try.prog w = .ok (.enter (rsG i) args) w := by
  match i with
  | 0 => exact enters_of Try.func41 (by kernel_rfl) rfl args w
  | 1 => exact enters_of Try.func42 (by kernel_rfl) rfl args w
  | (j + 2) => exact enters_of Try.func43 (by kernel_rfl) rfl args w
theorem up_lt (g : Nat) : Wal.up g < 18446744073709551616 := Nat.mod_lt _ (by decide)

theorem rs_follow {kept : List (Nat × Obj)} {S R : Nat → Prop} {W : World} {B na fb m : Nat} (h : Apn w S0 R0 kept S R p q d s W) (hs : s.Ok m) (hops : d.ops ≤ 1099511500000)
    (hB : (B, boxW p) ∈ kept) (hna : (na, boxM (Wal.up s.gen) 0) ∈ kept) (hfb : (fb, rsObj B na) ∈ kept) :
    Calls Try.prog 20 #[.slice (some ⟨fb, 0, none⟩) 3 3] W (Went 3 (Wal.rsE d s) (fun j W' => ∃ S', Apn w S0 R0 kept S' R p q (Wal.rsD d s j) (Wal.rsS s j) W')) := by
  have hi := hs.hi
  have hm := hs.m
  have hn := hs.lo
  have ho1 : (Wal.rsW d s).1.ops ≤ 1099511600000 := by
    have := Dsk.write_ops d (s.from_ : Int) (Wal.mark (Wal.up s.gen) 0)
    rw [Wal.mark_length] at this
    show (Dsk.write d (s.from_ : Int) (Wal.mark (Wal.up s.gen) 0)).1.ops ≤ _
    omega
  refine follow_any fb 3 rsG (rsL B na) (fun i _ => rs_eg i) (Wal.rsE d s) _ (by omega) W ?_ ?_ ⟨S, h⟩
  · rintro j W' ⟨S', hI⟩ i hi
    rw [cell_of_row _ _ i _ _ _ (hI.row hfb)]
    match i, hi with
    | 0, _ => rfl
    | 1, _ => rfl
    | 2, _ => rfl
    | (m + 3), h => exact absurd h (by omega)
  · rintro j W' hj hz ⟨S', hI⟩
    match j, hj, hz, hI with
    | 0, _, _, hI => exact (re1_any hI hB hna (by show s.from_ ≤ 16384; omega) (up_lt _) (by omega) (by show d.ops ≤ _; omega)).mono fun e W2 ⟨h1, S2, h2⟩ => ⟨h1, S2, h2⟩
    | 1, _, _, hI => exact (re2_any hI hB (by show (Wal.rsW d s).1.ops ≤ _; omega)).mono fun e W2 ⟨h1, S2, h2⟩ => ⟨h1, S2, h2⟩
    | 2, _, _, hI => exact (re3_any hI hB hna).mono fun e W2 ⟨h1, h2⟩ => ⟨h1, S', h2⟩
    | (m + 3), h, _, _ => exact absurd h (by omega)

theorem reset_nil (w : World) : Calls Try.prog 10 #[.pointer none] w fun e w' => e = .returned (.int .i64 1) ∧ Below w.heap.size w w' := by
  go_enter Try.func10, Try.ntmps10
  go_wp2
  go_ret
  exact ⟨rfl, (Below.refl _ w).alloc (Nat.le_refl _) _⟩

theorem reset_any {m : Nat} (hd : DiskAt S0 q d w) (hw : WalAt R0 p q s w) (ha : ∀ j, S0 j → ¬ R0 j) (hs : s.Ok m) (hops : d.ops ≤ 1099511500000) :
    Calls Try.prog 10 #[.pointer (some ⟨p, 0, none⟩)] w fun e w' => e = .returned (.int .i64 (Wal.reset d s).2.2) ∧ ∃ S R, Apn w S0 R0 [] S R p q (Wal.reset d s).1 (Wal.reset d s).2.1 w' := by
  have h0 := Apn.start hd hw ha
  have h1 := h0.box (.cells #[.pointer (some ⟨p, 0, none⟩)] 29) w.heap.size rfl
  obtain ⟨v1, hv1⟩ := h1.wal
  have c0 := hv1.c0
  have c6 := hv1.c6
  unfold Wal.reset
  by_cases he : s.err = 0
  · rw [if_neg (by simpa using he)]
    obtain ⟨SF, hSF⟩ : ∃ SF : Wal.St, SF = (if (Wal.steps (Wal.resetOps s) d).2 = 0 then { s with gen := Wal.up s.gen, used := 0, L := [] } else { s with err := (Wal.steps (Wal.resetOps s) d).2 }) := ⟨_, rfl⟩
    show Calls Try.prog 10 #[.pointer (some ⟨p, 0, none⟩)] w fun e w' => e = .returned (.int .i64 (Wal.steps (Wal.resetOps s) d).2) ∧ ∃ S R, Apn w S0 R0 [] S R p q (Wal.steps (Wal.resetOps s) d).1 (if (Wal.steps (Wal.resetOps s) d).2 = 0 then { s with gen := Wal.up s.gen, used := 0, L := [] } else { s with err := (Wal.steps (Wal.resetOps s) d).2 }) w'
    rw [← hSF]
    have HSF := Lib.hid hSF; clear hSF
    have h2 := h1.box (.cells #[.int .u64 (Wal.up s.gen : Int), .int .i64 0] 55) (w.heap.size + 1) (by simp)
    have hg := hs.gen
    have hup : IntKind.u64.wrap ((s.gen : Int) + 1) = ((Wal.up s.gen : Nat) : Int) := by
      rw [IntKind.wrap_u64]; unfold Wal.up; omega
    have hst := Wal.steps_err (Wal.resetOps s) d
    have hs2 := Wal.steps2 d s
    rw [he] at c6
    have H2 := Lib.hid h2; clear h2
    have He := Lib.hid he; clear he
    have Hs := Lib.hid hs; clear hs
    have Hs2 := Lib.hid hs2; clear hs2
    have H1 := Lib.hid h1; clear h1
    clear hv1 h0 hd hw
    go_enter Try.func10, Try.ntmps10
    go_wp2_with fail
    have h3 := H2.out.new ((Below.refl _ _).drew)
    refine wp_region_phases [([0, 1, 2, 3], [4, 5, 6, 7, 8])] (by kernel_rfl) (by kernel_rfl) (fun z => z.cell? ⟨w.heap.size, 0, none⟩ = some (.pointer (some ⟨p, 0, none⟩))) (h3.cB (by simp [boxW])) ?_
    simp only [wpPhases, pick, List.filterMap_cons, List.filterMap_nil, List.getElem?_toArray, List.getElem?_cons_zero, List.getElem?_cons_succ]
    refine take_load 29 (.tmp 1) ⟨w.heap.size, 0, none⟩ (.pointer (some ⟨p, 0, none⟩)) rfl rfl rfl (fun u hu => load_any Try.underlying29 Try.isAgg29 hu) ?_
    simp only [Act.put, List.setIfInBounds_toArray, List.set_cons_zero, List.set_cons_succ]
    refine take_one (fnv (rsG 0, rsL w.heap.size (w.heap.size + 1) 0)) rfl (fun u _ => by simp only [fnv, rsG, rsL]; go_simp) ?_
    simp only [Act.put, List.setIfInBounds_toArray, List.set_cons_zero, List.set_cons_succ]
    refine take_one (fnv (rsG 1, rsL w.heap.size (w.heap.size + 1) 1)) rfl (fun u _ => by simp only [fnv, rsG, rsL]; go_simp) ?_
    simp only [Act.put, List.setIfInBounds_toArray, List.set_cons_zero, List.set_cons_succ]
    refine take_one (fnv (rsG 2, rsL w.heap.size (w.heap.size + 1) 2)) rfl (fun u _ => by simp only [fnv, rsG, rsL]; go_simp) ?_
    simp only [Act.put, List.setIfInBounds_toArray, List.set_cons_zero, List.set_cons_succ]
    refine take_done ?_
    generalize hWd : World.drew _ = Wd at h3 ⊢
    have h4 := h3.box (rsObj w.heap.size (w.heap.size + 1)) Wd.heap.size rfl
    refine midk_one (w' := Wd.alloc (rsObj w.heap.size (w.heap.size + 1))) (.slice (some ⟨Wd.heap.size, 0, none⟩) 3 3) rfl (run_slice_op 76 3 [(0, .tmp 25), (1, .tmp 26), (2, .tmp 27)] rfl (slice_fn3 _ _ _ Wd)) (h4.cB (by simp [boxW])) ?_
    simp only [Act.put, List.setIfInBounds_toArray, List.set_cons_zero, List.set_cons_succ]
    have hfo := rs_follow (B := w.heap.size) (na := w.heap.size + 1) (fb := Wd.heap.size) h4 Hs.out hops (by simp [boxW]) (by simp [boxM]) (by simp)
    refine midk_wp rfl (call_wp 20 [.tmp 28] #[76] #[.slice (some ⟨Wd.heap.size, 0, none⟩) 3 3] rfl rfl rfl ?_)
    refine hfo.mono ?_
    rintro e w5 ⟨k, hk, hz, hcase⟩
    obtain ⟨q1, q2, q3⟩ := Hs2.out
    have key : ∃ (E : Int) (S5 : Nat → Prop) (D5 : Dsk.St) (s5 : Wal.St), e = .returned (.int .i64 E) ∧ Apn w S0 R0 ((Wd.heap.size, rsObj w.heap.size (w.heap.size + 1)) :: [(w.heap.size + 1, .cells #[.int .u64 (Wal.up s.gen : Int), .int .i64 0] 55), (w.heap.size, .cells #[.pointer (some ⟨p, 0, none⟩)] 29)]) S5 R0 p q D5 s5 w5 ∧
        Wal.steps (Wal.resetOps s) d = (D5, E) ∧ { s5 with err := E } = (if E = 0 then { s with gen := Wal.up s.gen, used := 0, L := [] } else { s with err := E }) := by
      rcases hcase with ⟨rfl, rfl, S5, h5⟩ | ⟨hlt, hne, rfl, S5, h5⟩
      · refine ⟨0, S5, _, _, rfl, h5, q3 (hz 0 (by omega)) (hz 1 (by omega)), ?_⟩
        rw [if_pos rfl]
        show ({ s with gen := Wal.up s.gen, used := 0, L := [], err := 0 } : Wal.St) = { s with gen := Wal.up s.gen, used := 0, L := [] }
        rw [← He.out]
      · match k, hlt, hz, hne, h5 with
        | 0, _, _, hne, h5 => exact ⟨_, S5, _, _, rfl, h5, by rw [q1 hne]; rfl, by rw [if_neg hne]; rfl⟩
        | 1, _, hz, hne, h5 => exact ⟨_, S5, _, _, rfl, h5, by rw [q2 (hz 0 (by omega)) hne]; rfl, by rw [if_neg hne]; rfl⟩
        | 2, _, _, hne, _ => exact absurd rfl hne
        | (j + 3), h, _, _, _ => exact absurd h (by omega)
    obtain ⟨E, S5, D5, s5, rfl, h5, hst5, hse⟩ := key
    refine ⟨_, rfl, h5.cB (by simp [boxW]), ?_⟩
    simp only [Act.put, List.setIfInBounds_toArray, List.set_cons_zero, List.set_cons_succ]
    refine midk_one (.pointer (some ⟨p, 0, none⟩)) rfl rfl (h5.cB (by simp [boxW])) ?_
    simp only [Act.put, List.setIfInBounds_toArray, List.set_cons_zero, List.set_cons_succ]
    refine midk_one (.pointer (some ⟨p, 6, none⟩)) rfl (by go_simp) (h5.cB (by simp [boxW])) ?_
    simp only [Act.put, List.setIfInBounds_toArray, List.set_cons_zero, List.set_cons_succ]
    have h6 := h5.faulted E
    obtain ⟨v5, hv5⟩ := h5.wal
    refine midk_store 26 (.tmp 31) (.tmp 29) _ _ rfl rfl rfl rfl (store_err hv5.c6 (hv5.free 6)) (h6.cB (by simp [boxW])) ?_
    simp only [Act.put]
    refine midk_end ?_
    have hfin : Apn w S0 R0 [] S5 R0 p q D5 (if E = 0 then { s with gen := Wal.up s.gen, used := 0, L := [] } else { s with err := E }) (w5.setCell ⟨p, 6, none⟩ (.int .i64 E)) := by
      rw [← hse]
      exact ⟨h6.disk, h6.wal, h6.apart, fun x hx => by simp at hx, h6.loS, h6.loR, h6.turns⟩
    have cb := h6.cB (B := w.heap.size) (by simp [boxW])
    obtain ⟨v6, hv6⟩ := h6.wal
    have c66 := hv6.c6
    have hgoal : Ending.returned (.int .i64 E) = .returned (.int .i64 (Wal.steps (Wal.resetOps s) d).2) ∧ ∃ S R, Apn w S0 R0 [] S R p q (Wal.steps (Wal.resetOps s) d).1 SF (w5.setCell ⟨p, 6, none⟩ (.int .i64 E)) := by
      have hq := HSF.out
      rw [hst5] at hq
      exact ⟨by rw [hst5], S5, R0, by rw [hst5, hq]; exact hfin⟩
    have Hgoal := Lib.hid hgoal; clear hgoal
    clear hfin h6 hv6 h5 hv5 hse hst5 hfo h4 h3 hWd q1 q2 q3 hz hcase hst hup c0 c6
    go_wp2_with fail
    go_ret
    obtain ⟨g1, S9, R9, g2⟩ := Hgoal.out
    exact ⟨g1, S9, R9, g2⟩
  · rw [if_pos (by simpa using he)]
    have hx : (s.err != 0) = true := by rw [bne_iff_ne]; exact he
    have H1 := Lib.hid h1; clear h1
    clear hv1 h0 hd hw hs
    go_enter Try.func10, Try.ntmps10
    go_wp2_with fail
    go_ret
    exact ⟨rfl, S0, R0, ⟨H1.out.disk, H1.out.wal, H1.out.apart, fun x hx => by simp at hx, H1.out.loS, H1.out.loR, H1.out.turns⟩⟩
end
end Go.Proofs.Ytjmpagbjkehebaa
