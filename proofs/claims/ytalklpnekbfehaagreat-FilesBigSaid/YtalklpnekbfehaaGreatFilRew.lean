/-
  rewrite: the files go into the other area, the header names it, the log is reset.
-/
import Derived.Test.YtalklpnekbfehaaGreatFilRwA
import Derived.Test.YtalklpnekbfehaaGreatGoFloat
set_option linter.unusedVariables false
set_option maxRecDepth 100000
namespace Go.Proofs.YtalklpnekbfehaaGreat
open Go.RowKit
section
variable {w : World} {S0 R0 : Nat → Prop} {kept : List (Nat × Obj)} {S R : Nat → Prop} {p q pw B Bm Bx bn fb : Nat} {d : Dsk.St} {s : Wal.St} {W : World} {cs : Array Value}

/-- fewer of them, in whatever order -/
theorem Apn.sub {kept' : List (Nat × Obj)} (h : Apn w S0 R0 kept S R p q d s W) (hs : ∀ x ∈ kept', x ∈ kept) : Apn w S0 R0 kept' S R p q d s W :=
  ⟨h.disk, h.wal, h.apart, fun x hx => h.rows x (hs x hx), h.loS, h.loR, h.turns⟩
theorem mark_store (u : World) (x y z : Value) (nm : Bool) (a g : Nat) :
    (Instr.storeAt 66 (.pointer (some ⟨u.heap.size, 0, none⟩)) (.agg #[.bool nm, .int .i64 (a : Int), .int .u64 (g : Int)])).run Tryz.prog (u.alloc (.cells #[x, y, z] 66)) = .ok () (u.alloc (objM nm a g)) := by
  have hst := store_row (P := Tryz.prog) (u.alloc (.cells #[x, y, z] 66)) u.heap.size 66 66 _ #[.bool nm, .int .i64 (a : Int), .int .u64 (g : Int)] (heap_alloc_new _ _) (by kernel_rfl) rfl (by simp [Value.oneCell'])
  rw [World.setRow_alloc_new] at hst
  exact hst

set_option maxHeartbeats 1000000 in
theorem rewrite_any {m : Nat} (h : Apn w S0 R0 [(p, objF cs)] S R pw q d s W) (h0 : p < w.heap.size → S0 p ∨ R0 p) {a0 a g : Nat} (ha0 : a0 < 2) (haa : a = 1 - a0) (hgg : g = Wal.up s.gen)
    {nn : Nat} {r : Fil.Row} (hmp : ContAt bn nn r W) (hs : Fil.Sorted r) (hfi : Fil.Fine r) (hsum : Fil.sum r ≤ 1099511627) (f n : Nat) (hf : f ≤ 1099511627)
    (har : ∀ j v, [Value.pointer (some ⟨q, 0, none⟩), .int .i64 (f : Int), .int .i64 (n : Int)][j]? = some v → cs[4 + 3 * a + j]? = some v) (h3 : cs[3]? = some (.pointer (some ⟨q, 0, none⟩))) (h10 : cs[10]? = some (.pointer (some ⟨pw, 0, none⟩)))
    {x0 x2 : Value} (e0 : cs[0]? = some x0) (e1 : cs[1]? = some (.int .i64 (a0 : Int))) (e2 : cs[2]? = some x2) (hok : s.Ok m) (hops : d.ops ≤ 1000000000) :
    Calls Tryz.prog 61 #[.pointer (some ⟨p, 0, none⟩), .map (some bn)] W (Went 6 (Fil.rwE d s f r a g) (fun k W' => ∃ S' R', Apn w S0 R0 [(p, objF (rwC cs true a g k))] S' R' pw q (Fil.rwD d s f r a g k) (Fil.rwS d s f r a g k) W')) := by
  have hb1 := h.box (boxF p) W.heap.size rfl
  have hb2 := hb1.box (boxC bn) (W.heap.size + 1) (by simp)
  obtain ⟨B, hB⟩ : ∃ B, B = W.heap.size := ⟨_, rfl⟩
  rw [← hB] at hb1 hb2
  have hpl : p < W.heap.size := row_lt (h.row (o := objF cs) (by simp))
  obtain ⟨W1, hW1⟩ : ∃ W1, W1 = ((W.alloc (boxF p)).alloc (boxC bn)).drew := ⟨_, rfl⟩
  have hh1 : Apn w S0 R0 [(B + 1, boxC bn), (B, boxF p), (p, objF cs)] S R pw q d s W1 := by rw [hW1]; exact hb2.new ((Below.refl _ _).drew)
  have hmp1 : ContAt bn nn r W1 := by rw [hW1]; exact hmp.new ((((Below.refl _ W).alloc (Nat.le_refl _) _).alloc (by simp) _).drew)
  have hs2 : W1.heap.size = B + 2 := by rw [hW1, hB]; show ((W.alloc (boxF p)).alloc (boxC bn)).heap.size = _; simp
  obtain ⟨W2, hW2⟩ : ∃ W2, W2 = W1.alloc (objM false 0 0) := ⟨_, rfl⟩
  have hh2 : Apn w S0 R0 [(B + 2, objM false 0 0), (B + 1, boxC bn), (B, boxF p), (p, objF cs)] S R pw q d s W2 := by rw [hW2]; exact hh1.box _ _ hs2
  have hst : ∀ u, W1.heap.size = u → (Instr.storeAt 66 (.pointer (some ⟨u, 0, none⟩)) (.agg #[.bool true, .int .i64 (a : Int), .int .u64 (g : Int)])).run Tryz.prog (W1.alloc (objM false 0 0)) = .ok () (W1.alloc (objM true a g)) := fun u hu => by
    rw [← hu]; exact mark_store W1 _ _ _ true a g
  have hst2 := hst _ hs2
  rw [← hW2] at hst2
  obtain ⟨W3, hW3⟩ : ∃ W3, W3 = W1.alloc (objM true a g) := ⟨_, rfl⟩
  rw [← hW3] at hst2
  have hh3 : Apn w S0 R0 [(B + 2, objM true a g), (B + 1, boxC bn), (B, boxF p), (p, objF cs)] S R pw q d s W3 := by rw [hW3]; exact hh1.box _ _ hs2
  have hmp3 : ContAt bn nn r W3 := by rw [hW3]; exact hmp1.new ((Below.refl _ W1).alloc (Nat.le_refl _) _)
  have hs3 : W3.heap.size = B + 3 := by rw [hW3]; simp [hs2]
  have hgen := hok.gen
  have hup : IntKind.u64.wrap ((s.gen : Int) + 1) = (g : Int) := by
    rw [hgg, IntKind.wrap_u64]; unfold Wal.up; omega
  have hsub : (1 : Int) - (a0 : Int) = (a : Int) := by omega
  have hwa : IntKind.i64.wrap (a : Int) = (a : Int) := IntWalk.i64_in _ (by omega)
  have hg64 : g < 18446744073709551616 := by rw [hgg]; exact up_lt _
  have ha2 : a < 2 := by omega
  have H1 := Lib.hid hh1; clear hh1 hb1 hb2
  have H2 := Lib.hid hh2; clear hh2
  have H3 := Lib.hid hh3; clear hh3
  have K1 : Hid (W1.heap[B]? = some (boxF p) ∧ W1.heap[p]? = some (objF cs)) := Lib.hid ⟨H1.out.row (by simp), H1.out.row (by simp)⟩
  have K2 : Hid (W2.heap[B]? = some (boxF p) ∧ W2.heap[p]? = some (objF cs)) := Lib.hid ⟨H2.out.row (by simp), H2.out.row (by simp)⟩
  have K3 : Hid (W3.heap[B]? = some (boxF p) ∧ W3.heap[p]? = some (objF cs)) := Lib.hid ⟨H3.out.row (by simp), H3.out.row (by simp)⟩
  have E1 := Lib.hid e1; clear e1
  have E0 := Lib.hid e0; clear e0
  have E2 := Lib.hid e2; clear e2
  have H10 := Lib.hid h10; clear h10
  have Q3 := Lib.hid h3; clear h3
  have Hmp := Lib.hid hmp3; clear hmp3 hmp1 hmp
  have Hok := Lib.hid hok; clear hok
  have Har := Lib.hid har; clear har
  have Hup := Lib.hid hup; clear hup
  have Hst := Lib.hid hst2; clear hst2 hst
  have HgW := Lib.hid hgg; clear hgg
  have HW1 := Lib.hid hW1; clear hW1
  have HW2 := Lib.hid hW2; clear hW2
  have HW3 := Lib.hid hW3; clear hW3
  have HS2 := Lib.hid hs2; clear hs2
  have HB := Lib.hid hB; clear hB
  have Hpl := Lib.hid hpl; clear hpl
  have Hops := Lib.hid hops; clear hops
  clear h hgen haa ha0
  go_enter Tryz.func61, Tryz.ntmps61
  go_wp2_with fail
  rw [← HB.out]
  have hw1 : ((W.alloc (.cells #[.pointer (some ⟨p, 0, none⟩)] 26)).alloc (.cells #[.map (some bn)] 74)).drew = W1 := HW1.out.symm
  refine wp_region_float [0, 1, 2, 3, 4, 5, 6, 7, 8, 9] [10, 11, 12] 13 [([], [14])] (by kernel_rfl) (by kernel_rfl) (fun z => z.heap[B]? = some (boxF p) ∧ z.heap[p]? = some (objF cs)) (by rw [hw1]; exact K1.out) ?_
  rw [hw1]
  simp only [pick, List.filterMap_cons, List.filterMap_nil, List.getElem?_toArray, List.getElem?_cons_zero, List.getElem?_cons_succ]
  refine take_load 26 (.tmp 2) ⟨B, 0, none⟩ (.pointer (some ⟨p, 0, none⟩)) rfl rfl rfl (fun u hu => load_any Tryz.underlying26 Tryz.isAgg26 (by rw [cell_of_row u B 0 _ _ _ hu.1]; rfl)) ?_
  simp only [Act.put, List.setIfInBounds_toArray, List.set_cons_zero, List.set_cons_succ]
  refine take_nil (.tmp 6) ⟨p, 0, none⟩ rfl rfl rfl ?_
  simp only [Act.put, List.setIfInBounds_toArray, List.set_cons_zero, List.set_cons_succ]
  refine take_one (.pointer (some ⟨p, 0, none⟩)) rfl (fun u _ => by go_simp) ?_
  simp only [Act.put, List.setIfInBounds_toArray, List.set_cons_zero, List.set_cons_succ]
  refine take_one (.pointer (some ⟨p, 1, none⟩)) rfl (fun u _ => by go_simp) ?_
  simp only [Act.put, List.setIfInBounds_toArray, List.set_cons_zero, List.set_cons_succ]
  refine take_load 3 (.tmp 9) ⟨p, 1, none⟩ (.int .i64 (a0 : Int)) rfl rfl rfl (fun u hu => load_any Tryz.underlying3 Tryz.isAgg3 (by rw [cell_of_row u p 1 _ _ _ hu.2]; exact E1.out)) ?_
  simp only [Act.put, List.setIfInBounds_toArray, List.set_cons_zero, List.set_cons_succ]
  refine take_one (.int .i64 (a : Int)) rfl (fun u hu => by go_simp) ?_
  simp only [Act.put, List.setIfInBounds_toArray, List.set_cons_zero, List.set_cons_succ]
  refine take_load 26 (.tmp 2) ⟨B, 0, none⟩ (.pointer (some ⟨p, 0, none⟩)) rfl rfl rfl (fun u hu => load_any Tryz.underlying26 Tryz.isAgg26 (by rw [cell_of_row u B 0 _ _ _ hu.1]; rfl)) ?_
  simp only [Act.put, List.setIfInBounds_toArray, List.set_cons_zero, List.set_cons_succ]
  refine take_nil (.tmp 12) ⟨p, 0, none⟩ rfl rfl rfl ?_
  simp only [Act.put, List.setIfInBounds_toArray, List.set_cons_zero, List.set_cons_succ]
  refine take_one (.pointer (some ⟨p, 10, none⟩)) rfl (fun u _ => by go_simp) ?_
  simp only [Act.put, List.setIfInBounds_toArray, List.set_cons_zero, List.set_cons_succ]
  refine take_load 72 (.tmp 14) ⟨p, 10, none⟩ (.pointer (some ⟨pw, 0, none⟩)) rfl rfl rfl (fun u hu => load_any Tryz.underlying72 Tryz.isAgg72 (by rw [cell_of_row u p 10 _ _ _ hu.2]; exact H10.out)) ?_
  simp only [Act.put, List.setIfInBounds_toArray, List.set_cons_zero, List.set_cons_succ]
  refine take_done ?_
  refine wpFloat_to { tmps := #[.pointer (some ⟨p, 0, none⟩), .map (some bn), .pointer (some ⟨B, 0, none⟩), .pointer (some ⟨B + 1, 0, none⟩), .int .i64 0, .pointer (some ⟨B + 2, 0, none⟩), .pointer (some ⟨p, 0, none⟩), .pointer (some ⟨p, 0, none⟩), .pointer (some ⟨p, 0, none⟩), .pointer (some ⟨p, 1, none⟩), .int .i64 (a0 : Int), .int .i64 (a : Int), .pointer (some ⟨p, 0, none⟩), .pointer (some ⟨p, 0, none⟩), .pointer (some ⟨p, 10, none⟩), .pointer (some ⟨pw, 0, none⟩), .int .u64 (s.gen : Int), .int .u64 (g : Int), .agg #[.bool true, .int .i64 (a : Int), .int .u64 (g : Int)], undef, undef, undef, undef, undef, undef, undef, undef], defers := [] } W2 ?_ ?_
  · try simp only [wpFloat, pick, List.filterMap_cons, List.filterMap_nil, List.getElem?_toArray, List.getElem?_cons_zero, List.getElem?_cons_succ]
    refine ⟨?_, ?_⟩
    · refine midk_wp rfl (call_wp 80 [.tmp 15] #[72] #[.pointer (some ⟨pw, 0, none⟩)] rfl rfl rfl ?_)
      refine (gen_any H1.out.wal).mono ?_
      rintro e wA ⟨rfl, rfl⟩
      refine ⟨_, rfl, K1.out, ?_⟩
      simp only [Act.put, List.setIfInBounds_toArray, List.set_cons_zero, List.set_cons_succ]
      refine midk_done ?_
      try simp only [wpFloat, pick, List.filterMap_cons, List.filterMap_nil, List.getElem?_toArray, List.getElem?_cons_zero, List.getElem?_cons_succ]
      refine ⟨?_, ?_⟩
      · refine midk_one (.int .u64 (g : Int)) rfl (by go_simp; exact Hup.out) K1.out ?_
        simp only [Act.put, List.setIfInBounds_toArray, List.set_cons_zero, List.set_cons_succ]
        refine midk_done ?_
        try simp only [wpFloat, pick, List.filterMap_cons, List.filterMap_nil, List.getElem?_toArray, List.getElem?_cons_zero, List.getElem?_cons_succ]
        refine ⟨?_, ?_⟩
        · refine midk_one (.agg #[.bool true, .int .i64 (a : Int), .int .u64 (g : Int)]) rfl (by go_simp) K1.out ?_
          simp only [Act.put, List.setIfInBounds_toArray, List.set_cons_zero, List.set_cons_succ]
          refine midk_done ?_
          try simp only [wpFloat, pick, List.filterMap_cons, List.filterMap_nil, List.getElem?_toArray, List.getElem?_cons_zero, List.getElem?_cons_succ]
          refine midk_one (w' := W2) (.pointer (some ⟨B + 2, 0, none⟩)) rfl (by rw [HW2.out, ← HS2.out]; unfold objM; go_simp) K2.out ?_
          simp only [Act.put, List.setIfInBounds_toArray, List.set_cons_zero, List.set_cons_succ]
          exact midk_done ⟨rfl, rfl⟩
        · refine midk_one (w' := W2) (.pointer (some ⟨B + 2, 0, none⟩)) rfl (by rw [HW2.out, ← HS2.out]; unfold objM; go_simp) K2.out ?_
          simp only [Act.put, List.setIfInBounds_toArray, List.set_cons_zero, List.set_cons_succ]
          refine midk_one (.agg #[.bool true, .int .i64 (a : Int), .int .u64 (g : Int)]) rfl (by go_simp) K2.out ?_
          simp only [Act.put, List.setIfInBounds_toArray, List.set_cons_zero, List.set_cons_succ]
          exact midk_done ⟨rfl, rfl⟩
      · refine midk_one (w' := W2) (.pointer (some ⟨B + 2, 0, none⟩)) rfl (by rw [HW2.out, ← HS2.out]; unfold objM; go_simp) K2.out ?_
        simp only [Act.put, List.setIfInBounds_toArray, List.set_cons_zero, List.set_cons_succ]
        refine midk_one (.int .u64 (g : Int)) rfl (by go_simp; exact Hup.out) K2.out ?_
        simp only [Act.put, List.setIfInBounds_toArray, List.set_cons_zero, List.set_cons_succ]
        refine midk_one (.agg #[.bool true, .int .i64 (a : Int), .int .u64 (g : Int)]) rfl (by go_simp) K2.out ?_
        simp only [Act.put, List.setIfInBounds_toArray, List.set_cons_zero, List.set_cons_succ]
        exact midk_done ⟨rfl, rfl⟩
    · refine midk_one (w' := W2) (.pointer (some ⟨B + 2, 0, none⟩)) rfl (by rw [HW2.out, ← HS2.out]; unfold objM; go_simp) K2.out ?_
      simp only [Act.put, List.setIfInBounds_toArray, List.set_cons_zero, List.set_cons_succ]
      refine midk_wp rfl (call_wp 80 [.tmp 15] #[72] #[.pointer (some ⟨pw, 0, none⟩)] rfl rfl rfl ?_)
      refine (gen_any H2.out.wal).mono ?_
      rintro e wA ⟨rfl, rfl⟩
      refine ⟨_, rfl, K2.out, ?_⟩
      simp only [Act.put, List.setIfInBounds_toArray, List.set_cons_zero, List.set_cons_succ]
      refine midk_one (.int .u64 (g : Int)) rfl (by go_simp; exact Hup.out) K2.out ?_
      simp only [Act.put, List.setIfInBounds_toArray, List.set_cons_zero, List.set_cons_succ]
      refine midk_one (.agg #[.bool true, .int .i64 (a : Int), .int .u64 (g : Int)]) rfl (by go_simp) K2.out ?_
      simp only [Act.put, List.setIfInBounds_toArray, List.set_cons_zero, List.set_cons_succ]
      exact midk_done ⟨rfl, rfl⟩
  · simp only [wpPhases, pick, List.filterMap_cons, List.filterMap_nil, List.getElem?_toArray, List.getElem?_cons_zero, List.getElem?_cons_succ]
    refine take_done ?_
    refine midk_store 66 (.tmp 5) (.tmp 18) _ _ rfl rfl rfl rfl Hst.out K3.out ?_
    simp only [Act.put]
    refine midk_end ?_
    have h4 := H3.out.box (rwObj B (B + 2) (B + 1)) (B + 3) hs3
    have h5 := h4.sub (kept' := (p, objF cs) :: [(B + 3, rwObj B (B + 2) (B + 1)), (B + 2, objM true a g), (B + 1, boxC bn), (B, boxF p)]) (fun x hx => by simp at hx ⊢; rcases hx with hx | hx | hx | hx | hx <;> simp [hx])
    have hpB : p < B := by rw [HB.out]; exact Hpl.out
    have hfo := rw_follow (B := B) (Bm := B + 2) (Bx := B + 1) (fb := B + 3) (nn := nn) (r := r) h5 (by simp) (a := a) (g := g) (by simp) (by simp) (by simp) (fun y hy => by simp at hy; rcases hy with rfl | rfl | rfl | rfl <;> (simp only; omega)) h0 ha2 hg64
      (Hmp.out.new ((Below.refl _ W3).alloc (Nat.le_refl _) _)) hs hfi hsum f n hf Har.out Q3.out H10.out E0.out E1.out E2.out Hok.out Hops.out
    simp only [rwObj, fnv, rwG, rwL] at hfo
    have Hfo := Lib.hid hfo; clear hfo h4 h5 hw1
    go_wp2_with fail
    refine Hfo.out.mono ?_
    rintro e w5 ⟨k, hk, hz, hcase⟩
    have key : ∃ E : Int, e = .returned (.int .i64 E) ∧ Went 6 (Fil.rwE d s f r a g) (fun k W' => ∃ S' R', Apn w S0 R0 [(p, objF (rwC cs true a g k))] S' R' pw q (Fil.rwD d s f r a g k) (Fil.rwS d s f r a g k) W') (.returned (.int .i64 E)) w5 := by
      rcases hcase with ⟨h6, rfl, S5, R5, h5⟩ | ⟨hlt, hne, rfl, S5, R5, h5⟩
      · exact ⟨0, rfl, k, hk, hz, .inl ⟨h6, rfl, S5, R5, h5.sub (fun x hx => by simp at hx ⊢; exact .inl hx)⟩⟩
      · exact ⟨_, rfl, k, hk, hz, .inr ⟨hlt, hne, rfl, S5, R5, h5.sub (fun x hx => by simp at hx ⊢; exact .inl hx)⟩⟩
    obtain ⟨E, rfl, hw⟩ := key
    have Hw := Lib.hid hw; clear hw hcase hz
    go_wp2_with fail
    go_ret
    exact Hw.out
end
end Go.Proofs.YtalklpnekbfehaaGreat
