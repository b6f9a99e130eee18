/-
  What the document's Margin of layer 11 returns.
-/
import Derived.Test.YtcmlcpejlmlcfaaEdtRefCut
import Derived.Test.YtcmlcpejlmlcfaaEdtPcP
import Derived.Test.YtcmlcpejlmlcfaaGoFloat
import Derived.Deep.CutRange
set_option linter.unusedVariables false
set_option maxRecDepth 100000
namespace Go.Proofs.Ytcmlcpejlmlcfaa
open Go.RowKit

theorem prd_one {a : Option Addr} {n : Nat} {P Q : Nat → Nat → Prop} (h : ∀ j, j < n → ∃ b, a = some ⟨b, 0, none⟩ ∧ P b j ∧ Q b j) : ∃ b, ∀ j, j < n → a = some ⟨b, 0, none⟩ ∧ P b j ∧ Q b j := by
  rcases Nat.eq_zero_or_pos n with e | e
  · exact ⟨0, fun j hj => by omega⟩
  · obtain ⟨b, rfl, _⟩ := h 0 e
    refine ⟨b, fun j hj => ?_⟩
    obtain ⟨b', e1, h1, h2⟩ := h j hj
    injection e1 with e1
    injection e1 with e1 _ _
    subst e1
    exact ⟨rfl, h1, h2⟩
theorem load_pc {u : World} {g o : Nat} {x y : Int} (h1 : u.cell? ⟨g, o, none⟩ = some (.int .i64 x)) (h2 : u.cell? ⟨g, o + 1, none⟩ = some (.int .i64 y)) : (Instr.loadAt 68 (.pointer (some ⟨g, o, none⟩))).run Try.prog u = .ok (.agg #[.int .i64 x, .int .i64 y]) u := by
  have a1 := Try.isAgg68
  have a2 := Try.sizeOf68
  simp [Instr.loadAt, go_sem, a1, a2, h1, h2]
section
variable {ops : Array Oper} {Q : Exit → Act → World → Prop} {S : World → Prop}
theorem midk_new {K : Act → World → Prop} {o : Oper} {l : List Oper} {a : Act} {w : World} (ty : TypeId) (cs : Array Value) (hw : Region.wanted o (yielded ops a.tmps) = true) (h : ∀ u, (execOp a.eval o).run Try.prog u = .ok (.value (.pointer (some ⟨u.heap.size, 0, none⟩))) (u.alloc (.cells cs ty))) (hS : S (w.alloc (.cells cs ty))) (hK : wpMidK Try.prog ops Q S K l (a.put o.dst (.pointer (some ⟨w.heap.size, 0, none⟩))) (w.alloc (.cells cs ty))) : wpMidK Try.prog ops Q S K (o :: l) a w :=
  midk_one _ hw (h w) hS hK
theorem midk_st {K : Act → World → Prop} {o : Oper} {l : List Oper} {a : Act} {w : World} (x y : Operand) (g : Nat) (p q : Value) (i k : Int) (hw : Region.wanted o (yielded ops a.tmps) = true) (ho : o.op = .store 68 x y) (hx : a.eval x = .pointer (some ⟨g, 0, none⟩)) (hy : a.eval y = .agg #[.int .i64 i, .int .i64 k])
    (hr : w.heap[g]? = some (.cells #[p, q] 68 (0, 0))) (hS : S (w.setRow g #[.int .i64 i, .int .i64 k])) (hK : wpMidK Try.prog ops Q S K l (a.put o.dst undef) (w.setRow g #[.int .i64 i, .int .i64 k])) : wpMidK Try.prog ops Q S K (o :: l) a w :=
  midk_put 68 x y _ _ hw ho hx hy (store_row (P := Try.prog) w g 68 68 #[p, q] #[.int .i64 i, .int .i64 k] hr (by kernel_rfl) rfl (by simp [Value.oneCell'])) hS hK
end

set_option maxHeartbeats 8000000 in
theorem refMargin_any (c : Ctr) (hp : c.p < 18446744073709551616) (hm : c.May) (s t : ByteArray) (zs : s.size ≤ 1099511627776) (zt : t.size ≤ 1099511627776) (w : World) :
    Calls Try.prog 18 #[c.v, .string s, .string t] w fun e w' => e = .returned (.tuple #[.int .i64 (mg1 c s t : Nat), .int .i64 (mg2 c s t : Nat)]) ∧ Below w.heap.size w w' := by
  have c1 := fun u => refLCut_any c hm s zs u
  have c2 := fun u => refLCut_any c hm t zt u
  have hA := Edt.pcF hm s
  have hB := Edt.pcF hm t
  have l1 := atexts_le hm s
  have l2 := atexts_le hm t
  have hpi : ∀ n, n ≤ min (c.atexts s).length (c.atexts t).length → (∀ j, j < n → Edt.eqL ByteArray.empty (c.atexts s) (c.atexts t) j = true) → (n < min (c.atexts s).length (c.atexts t).length → Edt.eqL ByteArray.empty (c.atexts s) (c.atexts t) n = false) → mg1 c s t = n := fun n h1 h2 h3 => Edt.cnt_is h1 h2 h3
  have hsi : ∀ P n, mg1 c s t = P → n ≤ min (c.atexts s).length (c.atexts t).length - P → (∀ j, j < n → Edt.eqR ByteArray.empty (c.atexts s) (c.atexts t) j = true) → (n < min (c.atexts s).length (c.atexts t).length - P → Edt.eqR ByteArray.empty (c.atexts s) (c.atexts t) n = false) → mg2 c s t = (c.atexts t).length - n := fun P n h0 h1 h2 h3 => by
    unfold mg2
    rw [h0]
    have : Edt.suf ByteArray.empty (c.atexts s) (c.atexts t) P = n := Edt.cnt_is h1 h2 h3
    rw [this]
  generalize mg1 c s t = G1 at *
  generalize mg2 c s t = G2 at *
  generalize c.acut s.data.toList = PA at *
  generalize c.acut t.data.toList = PB at *
  generalize c.atexts s = A at *
  generalize c.atexts t = B at *
  obtain ⟨n1, hn1⟩ : ∃ n1, n1 = PA.length := ⟨_, rfl⟩
  obtain ⟨n2, hn2⟩ : ∃ n2, n2 = PB.length := ⟨_, rfl⟩
  rw [hA.len, hB.len, ← hn1, ← hn2] at hpi hsi
  rw [hA.len, ← hn1] at l1
  rw [hB.len, ← hn2] at l2
  obtain ⟨m, hmm⟩ : ∃ m, min n1 n2 = m := ⟨_, rfl⟩
  rw [hmm] at hpi hsi
  have hm1 : m ≤ n1 := by omega
  have hm2 : m ≤ n2 := by omega
  have hmc : m = n1 ∨ m = n2 := by omega
  obtain ⟨u0, hu0⟩ : ∃ u0, w.alloc (.cells #[.int .u64 c.p, .int .i64 c.n, .int .i64 c.mn, .int .i64 c.mx, .int .i64 c.b] 38) = u0 := ⟨_, rfl⟩
  have hbw : Below w.heap.size w u0 := by rw [← hu0]; exact box_below w _
  have hrow : CtrAt c w.heap.size u0 := by rw [← hu0]; exact CtrAt.box c w
  unfold Ctr.v at *
  have C1 := Lib.hid c1; clear c1
  have C2 := Lib.hid c2; clear c2
  have HA := Lib.hid hA; clear hA
  have HB := Lib.hid hB; clear hB
  have Hpi := Lib.hid hpi; clear hpi
  have Hsi := Lib.hid hsi; clear hsi
  have Hn1 := Lib.hid hn1; clear hn1
  have Hn2 := Lib.hid hn2; clear hn2
  have Hmc := Lib.hid hmc; clear hmc
  have Hu0 := Lib.hid hu0; clear hu0
  have Hbw := Lib.hid hbw; clear hbw
  have Hrow := Lib.hid hrow; clear hrow
  clear hmm hm hp
  go_enter Try.func18, Try.ntmps18
  go_wp2_with fail
  rw [Hu0.out]
  go_wp2_with fail
  refine wp_region_phases [([0, 1, 3, 4], [2, 5, 6, 7])] (by kernel_rfl) (by kernel_rfl) (fun z => CtrAt c w.heap.size z) Hrow.out ?_
  simp only [wpPhases, pick, List.filterMap_cons, List.filterMap_nil, List.getElem?_toArray, List.getElem?_cons_zero, List.getElem?_cons_succ]
  refine take_load 38 (.tmp 3) ⟨w.heap.size, 0, none⟩ (.agg #[.int .u64 c.p, .int .i64 c.n, .int .i64 c.mn, .int .i64 c.mx, .int .i64 c.b]) rfl rfl rfl (fun u hu => load_row (P := Try.prog) u w.heap.size 38 38 _ (0, 0) _ hu Try.underlying38 rfl (by kernel_rfl)) ?_
  simp only [Act.put, List.setIfInBounds_toArray, List.set_cons_zero, List.set_cons_succ]
  refine take_move (.tmp 1) (.string s) rfl rfl rfl ?_
  simp only [Act.put, List.setIfInBounds_toArray, List.set_cons_zero, List.set_cons_succ]
  refine take_load 38 (.tmp 3) ⟨w.heap.size, 0, none⟩ (.agg #[.int .u64 c.p, .int .i64 c.n, .int .i64 c.mn, .int .i64 c.mx, .int .i64 c.b]) rfl rfl rfl (fun u hu => load_row (P := Try.prog) u w.heap.size 38 38 _ (0, 0) _ hu Try.underlying38 rfl (by kernel_rfl)) ?_
  simp only [Act.put, List.setIfInBounds_toArray, List.set_cons_zero, List.set_cons_succ]
  refine take_move (.tmp 2) (.string t) rfl rfl rfl ?_
  simp only [Act.put, List.setIfInBounds_toArray, List.set_cons_zero, List.set_cons_succ]
  refine take_done ?_
  refine midk_wp rfl (call_wp 29 [.tmp 15, .tmp 16] #[38, 9] #[.agg #[.int .u64 c.p, .int .i64 c.n, .int .i64 c.mn, .int .i64 c.mx, .int .i64 c.b], .string s] rfl rfl rfl ?_)
  refine (C1.out _).mono ?_
  rintro e w1 ⟨v1, rfl, hv1, h1⟩
  have hr1 : CtrAt c w.heap.size w1 := (show CtrAt c w.heap.size u0.drew from Hrow.out).new h1
  refine ⟨_, rfl, hr1, ?_⟩
  simp only [Act.put, List.setIfInBounds_toArray, List.set_cons_zero, List.set_cons_succ]
  refine midk_wp rfl (call_wp 29 [.tmp 18, .tmp 19] #[38, 9] #[.agg #[.int .u64 c.p, .int .i64 c.n, .int .i64 c.mn, .int .i64 c.mx, .int .i64 c.b], .string t] rfl rfl rfl ?_)
  refine (C2.out _).mono ?_
  rintro e w2 ⟨v2, rfl, hv2, h2⟩
  have hr2 := hr1.new h2
  refine ⟨_, rfl, hr2, ?_⟩
  simp only [Act.put, List.setIfInBounds_toArray, List.set_cons_zero, List.set_cons_succ]
  refine midk_one v1 rfl rfl hr2 ?_
  simp only [Act.put, List.setIfInBounds_toArray, List.set_cons_zero, List.set_cons_succ]
  refine midk_one v2 rfl rfl hr2 ?_
  simp only [Act.put, List.setIfInBounds_toArray, List.set_cons_zero, List.set_cons_succ]
  refine midk_end ?_
  have hbe2 : Below w.heap.size w w2 := (Hbw.out.drew.trans (h1.mono (by have := Hbw.out.size; simpa using this))).trans (h2.mono (by have h3 := h1.size; have h4 := Hbw.out.size; simp at h3; omega))
  obtain ⟨aA, kA, rfl, hkA, hfA⟩ := (hv1.reads).new h2
  obtain ⟨aB, kB, rfl, hkB, hfB⟩ := hv2.reads
  rw [← Hn1.out] at hkA hfA ⊢
  rw [← Hn2.out] at hkB hfB ⊢
  obtain ⟨gA, hfA⟩ := prd_one hfA
  obtain ⟨gB, hfB⟩ := prd_one hfB
  have HfA := Lib.hid hfA; clear hfA
  have HfB := Lib.hid hfB; clear hfB
  have Hbe2 := Lib.hid hbe2; clear hbe2 h1 h2 hr1 hr2 hv1 hv2
  go_wp2_with fail
  go_loopw [10] (fun x wr => ∃ k : Nat, k ≤ m ∧ x = .int .i64 (k : Int) ∧ (∀ j, j < k → Edt.eqL ByteArray.empty A B j = true) ∧ Below w2.heap.size w2 wr) (fun x _ => m - (intOf x).toNat)
  case atStart => exact ⟨0, Nat.zero_le _, rfl, fun j h => by omega, Below.refl _ _⟩
  case round =>
    obtain ⟨k, hk, rfl, hp, hb⟩ := hrel
    by_cases hgo : k < m ∧ Edt.eqL ByteArray.empty A B k = true
    · obtain ⟨hlt, heq⟩ := hgo
      have g1 : decide (k < n1) = true := decide_eq_true (by omega)
      have g2 : decide (k < n2) = true := decide_eq_true (by omega)
      have hxy := Edt.PcF.same HA.out HB.out (k := k) (by rw [← Hn1.out]; omega) (by rw [← Hn2.out]; omega) hp
      have hab : A.getD k .empty = B.getD k .empty := of_decide_eq_true heq
      have hp2 : ∀ j, j < k + 1 → Edt.eqL ByteArray.empty A B j = true := fun j h => by
        rcases Nat.lt_or_ge j k with q | q
        · exact hp j q
        · rw [show j = k by omega]; exact heq
      obtain ⟨haA, p1, p2⟩ := HfA.out (k) (by omega)
      try subst haA
      try clear haA
      obtain ⟨haB, q1, q2⟩ := HfB.out (k) (by omega)
      try subst haB
      try clear haB
      have lA := cell_lt p1
      have lB := cell_lt q1
      have f1 : wr.cell? ⟨gA, k * 2, none⟩ = some (.int .i64 ((PA.getD (k) (0, 0)).1 : Int)) := by rw [hb.cell (p := ⟨gA, k * 2, none⟩) lA]; exact p1
      have f2 : wr.cell? ⟨gA, k * 2 + 1, none⟩ = some (.int .i64 ((PA.getD (k) (0, 0)).2 : Int)) := by rw [hb.cell (p := ⟨gA, k * 2 + 1, none⟩) lA]; exact p2
      have f3 : wr.cell? ⟨gB, k * 2, none⟩ = some (.int .i64 ((PB.getD (k) (0, 0)).1 : Int)) := by rw [hb.cell (p := ⟨gB, k * 2, none⟩) lB]; exact q1
      have f4 : wr.cell? ⟨gB, k * 2 + 1, none⟩ = some (.int .i64 ((PB.getD (k) (0, 0)).2 : Int)) := by rw [hb.cell (p := ⟨gB, k * 2 + 1, none⟩) lB]; exact q2
      clear p1 p2 q1 q2
      have tA := HA.out.tx (k) (by rw [← Hn1.out]; omega)
      have tB := HB.out.tx (k) (by rw [← Hn2.out]; omega)
      have bA := HA.out.bd (k) (by rw [← Hn1.out]; omega)
      have bB := HB.out.bd (k) (by rw [← Hn2.out]; omega)
      have sA := HA.out.sz (k) (by rw [← Hn1.out]; omega)
      have sB := HB.out.sz (k) (by rw [← Hn2.out]; omega)
      rw [← hab] at tB sB
      generalize (PA.getD (k) (0, 0)).1 = x1 at *
      generalize (PA.getD (k) (0, 0)).2 = x2 at *
      generalize (PB.getD (k) (0, 0)).1 = y1 at *
      generalize (PB.getD (k) (0, 0)).2 = y2 at *
      generalize A.getD k .empty = X at *
      have e2 : x2 = y2 := by rw [sA, sB]
      have hxy' := hxy.symm
      subst hxy'
      subst e2
      have t1 := fun u => text_part s x1 (x1 + x2) (by omega) bA u
      have t2 := fun u => text_part t x1 (x1 + x2) (by omega) bB u
      have cc1 : ((x1 + x2 : Nat) : Int) = (x1 : Int) + (x2 : Int) := by omega
      have cc2 : ((x1 + x2 : Nat) : Int) = (x1 : Int) + (x2 : Int) := by omega
      rw [cc1, tA] at t1
      rw [cc2, tB] at t2
      have ww1 : IntKind.i64.wrap ((x1 : Int) + (x2 : Int)) = (x1 : Int) + (x2 : Int) := by simp only [IntKind.wrap_i64]; omega
      have ww2 : IntKind.i64.wrap ((x1 : Int) + (x2 : Int)) = (x1 : Int) + (x2 : Int) := by simp only [IntKind.wrap_i64]; omega
      clear cc1 cc2
      have qX : (X.toList == X.toList) = true := by simp
      have Hp2 := Lib.hid hp2; clear hp2 hp
      have Hb := Lib.hid hb; clear hb
      have r1 : k < kA := by omega
      have r2 : k < kB := by omega
      clear heq hab sA sB tA tB lA lB
      go_wp2_with fail
      go_quiet (fail)
      go_wp2_with fail
      go_roundw
      case rel => exact ⟨k + 1, by omega, by go_num, Hp2.out, drewN_below Hb.out _⟩
      case measure => simp [intOf]; omega
    · have hno : k < m → Edt.eqL ByteArray.empty A B k = false := fun h => by
        cases hc : Edt.eqL ByteArray.empty A B k
        · rfl
        · exact absurd ⟨h, hc⟩ hgo
      have hpre := Hpi.out k hk hp hno
      have Hpre := Lib.hid hpre; clear hpre
      have Hp := Lib.hid hp; clear hp
      have hmc := Hmc.out
      have h4 : (k = n1 ∧ True) ∨ (k < n1 ∧ k = n2) ∨ (k < n1 ∧ k < n2 ∧ Edt.eqL ByteArray.empty A B k = false ∧ (PA.getD k (0, 0)).2 ≠ (PB.getD k (0, 0)).2) ∨ (k < n1 ∧ k < n2 ∧ Edt.eqL ByteArray.empty A B k = false ∧ (PA.getD k (0, 0)).2 = (PB.getD k (0, 0)).2) := by
        rcases Nat.lt_or_ge k m with q | q
        · by_cases hz : (PA.getD k (0, 0)).2 = (PB.getD k (0, 0)).2
          · exact .inr (.inr (.inr ⟨by omega, by omega, hno q, hz⟩))
          · exact .inr (.inr (.inl ⟨by omega, by omega, hno q, hz⟩))
        · rcases Nat.lt_or_ge k n1 with q2 | q2
          · exact .inr (.inl ⟨q2, by omega⟩)
          · exact .inl ⟨by omega, trivial⟩
      clear hno hgo hmc
      rcases h4 with ⟨c1, c2⟩ | ⟨c1, c2⟩ | ⟨c1, c2, c3, c4⟩ | ⟨c1, c2, c3, c4⟩
      have g1 : decide (k < n1) = false := decide_eq_false (by omega)
      clear c1 c2
      rotate_left
      have g1 : decide (k < n1) = true := decide_eq_true (by omega)
      have g2 : decide (k < n2) = false := decide_eq_false (by omega)
      clear c1 c2
      rotate_left
      have g1 : decide (k < n1) = true := decide_eq_true (by omega)
      have g2 : decide (k < n2) = true := decide_eq_true (by omega)
      have hxy := Edt.PcF.same HA.out HB.out (k := k) (by rw [← Hn1.out]; omega) (by rw [← Hn2.out]; omega) Hp.out
      obtain ⟨haA, p1, p2⟩ := HfA.out (k) (by omega)
      try subst haA
      try clear haA
      obtain ⟨haB, q1, q2⟩ := HfB.out (k) (by omega)
      try subst haB
      try clear haB
      have lA := cell_lt p1
      have lB := cell_lt q1
      have f1 : wr.cell? ⟨gA, k * 2, none⟩ = some (.int .i64 ((PA.getD (k) (0, 0)).1 : Int)) := by rw [hb.cell (p := ⟨gA, k * 2, none⟩) lA]; exact p1
      have f2 : wr.cell? ⟨gA, k * 2 + 1, none⟩ = some (.int .i64 ((PA.getD (k) (0, 0)).2 : Int)) := by rw [hb.cell (p := ⟨gA, k * 2 + 1, none⟩) lA]; exact p2
      have f3 : wr.cell? ⟨gB, k * 2, none⟩ = some (.int .i64 ((PB.getD (k) (0, 0)).1 : Int)) := by rw [hb.cell (p := ⟨gB, k * 2, none⟩) lB]; exact q1
      have f4 : wr.cell? ⟨gB, k * 2 + 1, none⟩ = some (.int .i64 ((PB.getD (k) (0, 0)).2 : Int)) := by rw [hb.cell (p := ⟨gB, k * 2 + 1, none⟩) lB]; exact q2
      clear p1 p2 q1 q2
      generalize (PA.getD (k) (0, 0)).1 = x1 at *
      generalize (PA.getD (k) (0, 0)).2 = x2 at *
      generalize (PB.getD (k) (0, 0)).1 = y1 at *
      generalize (PB.getD (k) (0, 0)).2 = y2 at *
      have hxy' := hxy.symm
      subst hxy'
      have q1 : ((x2 : Int) == (y2 : Int)) = false := by simp; omega
      have q2 : decide (x2 = y2) = false := decide_eq_false c4
      have r1 : k < kA := by omega
      have r2 : k < kB := by omega
      clear lA lB c3 c4
      rotate_left
      have g1 : decide (k < n1) = true := decide_eq_true (by omega)
      have g2 : decide (k < n2) = true := decide_eq_true (by omega)
      have hxy := Edt.PcF.same HA.out HB.out (k := k) (by rw [← Hn1.out]; omega) (by rw [← Hn2.out]; omega) Hp.out
      have hab : A.getD k .empty ≠ B.getD k .empty := of_decide_eq_false c3
      obtain ⟨haA, p1, p2⟩ := HfA.out (k) (by omega)
      try subst haA
      try clear haA
      obtain ⟨haB, q1, q2⟩ := HfB.out (k) (by omega)
      try subst haB
      try clear haB
      have lA := cell_lt p1
      have lB := cell_lt q1
      have f1 : wr.cell? ⟨gA, k * 2, none⟩ = some (.int .i64 ((PA.getD (k) (0, 0)).1 : Int)) := by rw [hb.cell (p := ⟨gA, k * 2, none⟩) lA]; exact p1
      have f2 : wr.cell? ⟨gA, k * 2 + 1, none⟩ = some (.int .i64 ((PA.getD (k) (0, 0)).2 : Int)) := by rw [hb.cell (p := ⟨gA, k * 2 + 1, none⟩) lA]; exact p2
      have f3 : wr.cell? ⟨gB, k * 2, none⟩ = some (.int .i64 ((PB.getD (k) (0, 0)).1 : Int)) := by rw [hb.cell (p := ⟨gB, k * 2, none⟩) lB]; exact q1
      have f4 : wr.cell? ⟨gB, k * 2 + 1, none⟩ = some (.int .i64 ((PB.getD (k) (0, 0)).2 : Int)) := by rw [hb.cell (p := ⟨gB, k * 2 + 1, none⟩) lB]; exact q2
      clear p1 p2 q1 q2
      have tA := HA.out.tx (k) (by rw [← Hn1.out]; omega)
      have tB := HB.out.tx (k) (by rw [← Hn2.out]; omega)
      have bA := HA.out.bd (k) (by rw [← Hn1.out]; omega)
      have bB := HB.out.bd (k) (by rw [← Hn2.out]; omega)
      have sA := HA.out.sz (k) (by rw [← Hn1.out]; omega)
      have sB := HB.out.sz (k) (by rw [← Hn2.out]; omega)
      generalize (PA.getD (k) (0, 0)).1 = x1 at *
      generalize (PA.getD (k) (0, 0)).2 = x2 at *
      generalize (PB.getD (k) (0, 0)).1 = y1 at *
      generalize (PB.getD (k) (0, 0)).2 = y2 at *
      generalize A.getD k .empty = X at *
      generalize B.getD k .empty = Y at *
      have hxy' := hxy.symm
      subst hxy'
      subst c4
      have t1 := fun u => text_part s x1 (x1 + x2) (by omega) bA u
      have t2 := fun u => text_part t x1 (x1 + x2) (by omega) bB u
      have cc1 : ((x1 + x2 : Nat) : Int) = (x1 : Int) + (x2 : Int) := by omega
      have cc2 : ((x1 + x2 : Nat) : Int) = (x1 : Int) + (x2 : Int) := by omega
      rw [cc1, tA] at t1
      rw [cc2, tB] at t2
      have ww1 : IntKind.i64.wrap ((x1 : Int) + (x2 : Int)) = (x1 : Int) + (x2 : Int) := by simp only [IntKind.wrap_i64]; omega
      have ww2 : IntKind.i64.wrap ((x1 : Int) + (x2 : Int)) = (x1 : Int) + (x2 : Int) := by simp only [IntKind.wrap_i64]; omega
      clear cc1 cc2
      have qX : (X.toList == Y.toList) = false := by
        cases h : (X.toList == Y.toList)
        · rfl
        · exact absurd (ba_toList_inj (by simpa using h)) hab
      have r1 : k < kA := by omega
      have r2 : k < kB := by omega
      clear c3 hab sA sB tA tB lA lB
      rotate_left
      all_goals
        go_wp2_with fail
        go_quiet (fail)
        have hb6 : Below w2.heap.size w2 (wr.drewN nq) := drewN_below hb nq
        generalize wr.drewN nq = w6 at *
        try clear f1 f2 f3 f4
        try clear t1 t2
        try clear bA bB
        try clear g2
        clear g1 hb
        have Hb6 := Lib.hid hb6; clear hb6
        go_wp2_with fail
        go_loopw [11, 12] (fun x y wr => ∃ j : Nat, k + j ≤ m ∧ x = .int .i64 ((n2 - j : Nat) : Int) ∧ y = .int .i64 ((n1 - j : Nat) : Int) ∧ (∀ i, i < j → Edt.eqR ByteArray.empty A B i = true) ∧ Below w2.heap.size w2 wr) (fun _ y _ => (intOf y).toNat)
        case atStart => exact ⟨0, hk, rfl, rfl, fun j h => by omega, Hb6.out⟩
        case round =>
          clear Hb6
          obtain ⟨j, hj, rfl, rfl, hq, hb⟩ := hrel
          by_cases hin : k + j < m
          · have g1 : decide (k < n2 - j) = true := decide_eq_true (by omega)
            have g2 : decide (k < n1 - j) = true := decide_eq_true (by omega)
            have hsum := Edt.PcF.tail HA.out HB.out (j := j) (by rw [← Hn1.out]; omega) (by rw [← Hn2.out]; omega) hq
            rw [← Hn1.out, ← Hn2.out] at hsum
            obtain ⟨ia, hia⟩ : ∃ ia, n1 - 1 - j = ia := ⟨_, rfl⟩
            obtain ⟨ib, hib⟩ : ∃ ib, n2 - 1 - j = ib := ⟨_, rfl⟩
            rw [hia, hib] at hsum
            have heR : Edt.eqR ByteArray.empty A B j = decide (A.getD ia .empty = B.getD ib .empty) := by
              unfold Edt.eqR
              rw [HA.out.len, HB.out.len, ← Hn1.out, ← Hn2.out, hia, hib]
            have va : IntKind.i64.wrap (((n1 - j : Nat) : Int) - 1) = (ia : Int) := by simp only [IntKind.wrap_i64]; omega
            have vb : IntKind.i64.wrap (((n2 - j : Nat) : Int) - 1) = (ib : Int) := by simp only [IntKind.wrap_i64]; omega
            obtain ⟨haA, p1, p2⟩ := HfA.out (ia) (by omega)
            try subst haA
            try clear haA
            obtain ⟨haB, q1, q2⟩ := HfB.out (ib) (by omega)
            try subst haB
            try clear haB
            have lA := cell_lt p1
            have lB := cell_lt q1
            have f1 : wr.cell? ⟨gA, ia * 2, none⟩ = some (.int .i64 ((PA.getD (ia) (0, 0)).1 : Int)) := by rw [hb.cell (p := ⟨gA, ia * 2, none⟩) lA]; exact p1
            have f2 : wr.cell? ⟨gA, ia * 2 + 1, none⟩ = some (.int .i64 ((PA.getD (ia) (0, 0)).2 : Int)) := by rw [hb.cell (p := ⟨gA, ia * 2 + 1, none⟩) lA]; exact p2
            have f3 : wr.cell? ⟨gB, ib * 2, none⟩ = some (.int .i64 ((PB.getD (ib) (0, 0)).1 : Int)) := by rw [hb.cell (p := ⟨gB, ib * 2, none⟩) lB]; exact q1
            have f4 : wr.cell? ⟨gB, ib * 2 + 1, none⟩ = some (.int .i64 ((PB.getD (ib) (0, 0)).2 : Int)) := by rw [hb.cell (p := ⟨gB, ib * 2 + 1, none⟩) lB]; exact q2
            clear p1 p2 q1 q2
            have tA := HA.out.tx (ia) (by rw [← Hn1.out]; omega)
            have tB := HB.out.tx (ib) (by rw [← Hn2.out]; omega)
            have bA := HA.out.bd (ia) (by rw [← Hn1.out]; omega)
            have bB := HB.out.bd (ib) (by rw [← Hn2.out]; omega)
            have sA := HA.out.sz (ia) (by rw [← Hn1.out]; omega)
            have sB := HB.out.sz (ib) (by rw [← Hn2.out]; omega)
            generalize (PA.getD (ia) (0, 0)).1 = x1 at *
            generalize (PA.getD (ia) (0, 0)).2 = x2 at *
            generalize (PB.getD (ib) (0, 0)).1 = y1 at *
            generalize (PB.getD (ib) (0, 0)).2 = y2 at *
            generalize A.getD ia .empty = X at *
            generalize B.getD ib .empty = Y at *
            have r1 : ia < kA := by omega
            have r2 : ib < kB := by omega
            have r3 : ia < n1 := by omega
            have r4 : ib < n2 := by omega
            have lA2 : gA < wr.heap.size := by have := hb.size; omega
            have lB2 : gB < wr.heap.size := by have := hb.size; omega
            have hl1 : ∀ u, Below wr.heap.size wr u → (Instr.loadAt 68 (.pointer (some ⟨gA, ia * 2, none⟩))).run Try.prog u = .ok (.agg #[.int .i64 (x1 : Int), .int .i64 (x2 : Int)]) u := fun u hu => load_pc (by rw [hu.cell (p := ⟨gA, ia * 2, none⟩) lA2]; exact f1) (by rw [hu.cell (p := ⟨gA, ia * 2 + 1, none⟩) lA2]; exact f2)
            have hl2 : ∀ u, Below wr.heap.size wr u → (Instr.loadAt 68 (.pointer (some ⟨gB, ib * 2, none⟩))).run Try.prog u = .ok (.agg #[.int .i64 (y1 : Int), .int .i64 (y2 : Int)]) u := fun u hu => load_pc (by rw [hu.cell (p := ⟨gB, ib * 2, none⟩) lB2]; exact f3) (by rw [hu.cell (p := ⟨gB, ib * 2 + 1, none⟩) lB2]; exact f4)
            have Hl1 := Lib.hid hl1; clear hl1
            have Hl2 := Lib.hid hl2; clear hl2
            have Hia := Lib.hid va; clear va
            have Hib := Lib.hid vb; clear vb
            have Hb := Lib.hid hb; clear hb
            have Hq := Lib.hid hq; clear hq
            have HeR := Lib.hid heR; clear heR
            have Hsum := Lib.hid hsum; clear hsum
            have HiA := Lib.hid hia; clear hia
            have HiB := Lib.hid hib; clear hib
            clear f1 f2 f3 f4 lA lB lA2 lB2
            have HSd := Lib.hid (show Below wr.heap.size wr wr.drew from (Below.refl _ wr).drew)
            have HSa := Lib.hid (fun (u : World) (o : Obj) (h : Below wr.heap.size wr u) => h.alloc h.size o)
            have HSs := Lib.hid (fun (u : World) (g : Nat) (cs : Array Value) (h : Below wr.heap.size wr u) (hg : wr.heap.size ≤ g) => below_setRow h hg cs)
            go_wp2_with fail
            go_cut [13, 14] from 87 to 147 (fun p q wx => ∃ bx by_ : Nat, p = .pointer (some ⟨bx, 0, none⟩) ∧ q = .pointer (some ⟨by_, 0, none⟩) ∧ wx.heap[bx]? = some (.cells #[.int .i64 (x1 : Int), .int .i64 (x2 : Int)] 68 (0, 0)) ∧ wx.heap[by_]? = some (.cells #[.int .i64 (y1 : Int), .int .i64 (y2 : Int)] 68 (0, 0)) ∧ Below wr.heap.size wr wx)
            case first =>
              refine wp_region_float [0, 1, 2, 3, 4, 5, 6, 7, 8, 9] [10, 12] 11 [([], [13])] (by kernel_rfl) (by kernel_rfl) (fun z => Below wr.heap.size wr z) HSd.out ?_
              simp only [pick, List.filterMap_cons, List.filterMap_nil, List.getElem?_toArray, List.getElem?_cons_zero, List.getElem?_cons_succ]
              refine take_move (.tmp 8) (.slice (some ⟨gA, 0, none⟩) n1 kA) rfl rfl rfl ?_
              simp only [Act.put, List.setIfInBounds_toArray, List.set_cons_zero, List.set_cons_succ]
              refine take_move (.tmp 12) (.int .i64 ((n1 - j : Nat) : Int)) rfl rfl rfl ?_
              simp only [Act.put, List.setIfInBounds_toArray, List.set_cons_zero, List.set_cons_succ]
              refine take_one (.int .i64 (ia : Int)) rfl (fun u hu => by go_simp; exact Hia.out) ?_
              simp only [Act.put, List.setIfInBounds_toArray, List.set_cons_zero, List.set_cons_succ]
              refine take_one (.pointer (some ⟨gA, ia * 2, none⟩)) rfl (fun u hu => by go_simp) ?_
              simp only [Act.put, List.setIfInBounds_toArray, List.set_cons_zero, List.set_cons_succ]
              refine take_load 68 (.tmp 98) ⟨gA, ia * 2, none⟩ (.agg #[.int .i64 (x1 : Int), .int .i64 (x2 : Int)]) rfl rfl rfl (fun u hu => Hl1.out u hu) ?_
              simp only [Act.put, List.setIfInBounds_toArray, List.set_cons_zero, List.set_cons_succ]
              refine take_move (.tmp 9) (.slice (some ⟨gB, 0, none⟩) n2 kB) rfl rfl rfl ?_
              simp only [Act.put, List.setIfInBounds_toArray, List.set_cons_zero, List.set_cons_succ]
              refine take_move (.tmp 11) (.int .i64 ((n2 - j : Nat) : Int)) rfl rfl rfl ?_
              simp only [Act.put, List.setIfInBounds_toArray, List.set_cons_zero, List.set_cons_succ]
              refine take_one (.int .i64 (ib : Int)) rfl (fun u hu => by go_simp; exact Hib.out) ?_
              simp only [Act.put, List.setIfInBounds_toArray, List.set_cons_zero, List.set_cons_succ]
              refine take_one (.pointer (some ⟨gB, ib * 2, none⟩)) rfl (fun u hu => by go_simp) ?_
              simp only [Act.put, List.setIfInBounds_toArray, List.set_cons_zero, List.set_cons_succ]
              refine take_load 68 (.tmp 103) ⟨gB, ib * 2, none⟩ (.agg #[.int .i64 (y1 : Int), .int .i64 (y2 : Int)]) rfl rfl rfl (fun u hu => Hl2.out u hu) ?_
              simp only [Act.put, List.setIfInBounds_toArray, List.set_cons_zero, List.set_cons_succ]
              refine take_done ?_
              try simp only [wpFloat, pick, List.filterMap_cons, List.filterMap_nil, List.getElem?_toArray, List.getElem?_cons_zero, List.getElem?_cons_succ]
              refine ⟨?_, ?_⟩
              · refine midk_new 68 #[.int .i64 0, .int .i64 0] rfl (fun u => by go_simp) (HSa.out _ _ HSd.out) ?_
                simp only [Act.put, List.setIfInBounds_toArray, List.set_cons_zero, List.set_cons_succ]
                obtain ⟨W1, hW1⟩ : ∃ W1, wr.drew.alloc (.cells #[.int .i64 0, .int .i64 0] 68) = W1 := ⟨_, rfl⟩
                have hr1 : W1.heap[wr.drew.heap.size]? = some (.cells #[.int .i64 0, .int .i64 0] 68) := by rw [← hW1]; exact heap_alloc_new _ _
                have hb1 : Below wr.heap.size wr W1 := by rw [← hW1]; exact HSa.out _ _ HSd.out
                rw [hW1]
                clear hW1
                refine midk_done ?_
                try simp only [wpFloat, pick, List.filterMap_cons, List.filterMap_nil, List.getElem?_toArray, List.getElem?_cons_zero, List.getElem?_cons_succ]
                refine ⟨?_, ?_⟩
                · refine midk_st (.tmp 13) (.tmp 99) wr.drew.heap.size (.int .i64 0) (.int .i64 0) (x1 : Int) (x2 : Int) rfl rfl rfl rfl hr1 (HSs.out _ _ _ hb1 (Nat.le_refl _)) ?_
                  simp only [Act.put]
                  obtain ⟨W2, hW2⟩ : ∃ W2, W1.setRow wr.drew.heap.size #[.int .i64 (x1 : Int), .int .i64 (x2 : Int)] = W2 := ⟨_, rfl⟩
                  have hr2 : W2.heap[wr.drew.heap.size]? = some (.cells #[.int .i64 (x1 : Int), .int .i64 (x2 : Int)] 68) := by rw [← hW2]; exact setRow_heap _ _ _ _ _ _ hr1
                  have hb2 : Below wr.heap.size wr W2 := by rw [← hW2]; exact HSs.out _ _ _ hb1 (Nat.le_refl _)
                  rw [hW2]
                  clear hW2
                  refine midk_done ?_
                  try simp only [wpFloat, pick, List.filterMap_cons, List.filterMap_nil, List.getElem?_toArray, List.getElem?_cons_zero, List.getElem?_cons_succ]
                  refine midk_new 68 #[.int .i64 0, .int .i64 0] rfl (fun u => by go_simp) (HSa.out _ _ hb2) ?_
                  simp only [Act.put, List.setIfInBounds_toArray, List.set_cons_zero, List.set_cons_succ]
                  have hr3 : (W2.alloc (.cells #[.int .i64 0, .int .i64 0] 68)).heap[wr.drew.heap.size]? = some (.cells #[.int .i64 (x1 : Int), .int .i64 (x2 : Int)] 68) := row_alloc hr2 _
                  have hn3 := heap_alloc_new W2 (.cells #[.int .i64 0, .int .i64 0] 68)
                  have hge : wr.heap.size ≤ W2.heap.size := hb2.size
                  have hne : wr.drew.heap.size ≠ W2.heap.size := by have := row_lt hr2; omega
                  refine midk_done ?_
                  simp only [wpPhases, pick, List.filterMap_cons, List.filterMap_nil, List.getElem?_toArray, List.getElem?_cons_zero, List.getElem?_cons_succ]
                  refine take_done ?_
                  refine midk_st (.tmp 14) (.tmp 104) W2.heap.size (.int .i64 0) (.int .i64 0) (y1 : Int) (y2 : Int) rfl rfl rfl rfl hn3 (HSs.out _ _ _ (HSa.out _ _ hb2) (by have := hge; omega)) ?_
                  simp only [Act.put]
                  refine midk_end ?_
                  go_wp2_with fail
                  go_meet
                  exact ⟨wr.drew.heap.size, W2.heap.size, rfl, rfl, by rw [setRow_other _ _ _ _ hne]; exact hr3, setRow_heap _ _ _ _ _ _ hn3, HSs.out _ _ _ (HSa.out _ _ hb2) (by have := hge; omega)⟩
                · refine midk_new 68 #[.int .i64 0, .int .i64 0] rfl (fun u => by go_simp) (HSa.out _ _ hb1) ?_
                  simp only [Act.put, List.setIfInBounds_toArray, List.set_cons_zero, List.set_cons_succ]
                  have hr2 : (W1.alloc (.cells #[.int .i64 0, .int .i64 0] 68)).heap[wr.drew.heap.size]? = some (.cells #[.int .i64 0, .int .i64 0] 68) := row_alloc hr1 _
                  have hn2 := heap_alloc_new W1 (.cells #[.int .i64 0, .int .i64 0] 68)
                  have hb2 := HSa.out _ (.cells #[.int .i64 0, .int .i64 0] 68) hb1
                  have hge : wr.heap.size ≤ W1.heap.size := hb1.size
                  have hne : wr.drew.heap.size ≠ W1.heap.size := by have := row_lt hr1; omega
                  refine midk_st (.tmp 13) (.tmp 99) wr.drew.heap.size (.int .i64 0) (.int .i64 0) (x1 : Int) (x2 : Int) rfl rfl rfl rfl hr2 (HSs.out _ _ _ hb2 (Nat.le_refl _)) ?_
                  simp only [Act.put]
                  have hr3 := setRow_heap _ wr.drew.heap.size _ #[.int .i64 (x1 : Int), .int .i64 (x2 : Int)] _ _ hr2
                  have hn3 : ((W1.alloc (.cells #[.int .i64 0, .int .i64 0] 68)).setRow wr.drew.heap.size #[.int .i64 (x1 : Int), .int .i64 (x2 : Int)]).heap[W1.heap.size]? = some (.cells #[.int .i64 0, .int .i64 0] 68) := by rw [setRow_other _ _ _ _ (fun e => hne e.symm)]; exact hn2
                  have hb3 := HSs.out _ wr.drew.heap.size #[.int .i64 (x1 : Int), .int .i64 (x2 : Int)] hb2 (Nat.le_refl _)
                  refine midk_done ?_
                  simp only [wpPhases, pick, List.filterMap_cons, List.filterMap_nil, List.getElem?_toArray, List.getElem?_cons_zero, List.getElem?_cons_succ]
                  refine take_done ?_
                  refine midk_st (.tmp 14) (.tmp 104) W1.heap.size (.int .i64 0) (.int .i64 0) (y1 : Int) (y2 : Int) rfl rfl rfl rfl hn3 (HSs.out _ _ _ hb3 (by have := hge; omega)) ?_
                  simp only [Act.put]
                  refine midk_end ?_
                  go_wp2_with fail
                  go_meet
                  exact ⟨wr.drew.heap.size, W1.heap.size, rfl, rfl, by rw [setRow_other _ _ _ _ hne]; exact hr3, setRow_heap _ _ _ _ _ _ hn3, HSs.out _ _ _ hb3 (by have := hge; omega)⟩
              · refine midk_new 68 #[.int .i64 0, .int .i64 0] rfl (fun u => by go_simp) (HSa.out _ _ HSd.out) ?_
                simp only [Act.put, List.setIfInBounds_toArray, List.set_cons_zero, List.set_cons_succ]
                obtain ⟨W1, hW1⟩ : ∃ W1, wr.drew.alloc (.cells #[.int .i64 0, .int .i64 0] 68) = W1 := ⟨_, rfl⟩
                have hn1 : W1.heap[wr.drew.heap.size]? = some (.cells #[.int .i64 0, .int .i64 0] 68) := by rw [← hW1]; exact heap_alloc_new _ _
                have hb1 : Below wr.heap.size wr W1 := by rw [← hW1]; exact HSa.out _ _ HSd.out
                rw [hW1]
                clear hW1
                refine midk_new 68 #[.int .i64 0, .int .i64 0] rfl (fun u => by go_simp) (HSa.out _ _ hb1) ?_
                simp only [Act.put, List.setIfInBounds_toArray, List.set_cons_zero, List.set_cons_succ]
                have hn2 : (W1.alloc (.cells #[.int .i64 0, .int .i64 0] 68)).heap[wr.drew.heap.size]? = some (.cells #[.int .i64 0, .int .i64 0] 68) := row_alloc hn1 _
                have hr2 := heap_alloc_new W1 (.cells #[.int .i64 0, .int .i64 0] 68)
                have hb2 := HSa.out _ (.cells #[.int .i64 0, .int .i64 0] 68) hb1
                have hg1 : wr.heap.size ≤ W1.heap.size := hb1.size
                have hge : wr.heap.size ≤ wr.drew.heap.size := Nat.le_refl _
                have hne : W1.heap.size ≠ wr.drew.heap.size := by have := row_lt hn1; omega
                refine midk_st (.tmp 13) (.tmp 99) W1.heap.size (.int .i64 0) (.int .i64 0) (x1 : Int) (x2 : Int) rfl rfl rfl rfl hr2 (HSs.out _ _ _ hb2 hg1) ?_
                simp only [Act.put]
                have hr3 := setRow_heap _ W1.heap.size _ #[.int .i64 (x1 : Int), .int .i64 (x2 : Int)] _ _ hr2
                have hn3 : ((W1.alloc (.cells #[.int .i64 0, .int .i64 0] 68)).setRow W1.heap.size #[.int .i64 (x1 : Int), .int .i64 (x2 : Int)]).heap[wr.drew.heap.size]? = some (.cells #[.int .i64 0, .int .i64 0] 68) := by rw [setRow_other _ _ _ _ (fun e => hne e.symm)]; exact hn2
                have hb3 := HSs.out _ W1.heap.size #[.int .i64 (x1 : Int), .int .i64 (x2 : Int)] hb2 hg1
                refine midk_done ?_
                simp only [wpPhases, pick, List.filterMap_cons, List.filterMap_nil, List.getElem?_toArray, List.getElem?_cons_zero, List.getElem?_cons_succ]
                refine take_done ?_
                refine midk_st (.tmp 14) (.tmp 104) wr.drew.heap.size (.int .i64 0) (.int .i64 0) (y1 : Int) (y2 : Int) rfl rfl rfl rfl hn3 (HSs.out _ _ _ hb3 (by have := hge; omega)) ?_
                simp only [Act.put]
                refine midk_end ?_
                go_wp2_with fail
                go_meet
                exact ⟨W1.heap.size, wr.drew.heap.size, rfl, rfl, by rw [setRow_other _ _ _ _ hne]; exact hr3, setRow_heap _ _ _ _ _ _ hn3, HSs.out _ _ _ hb3 (by have := hge; omega)⟩
            case rest =>
              obtain ⟨bx, by_, rfl, rfl, hbx, hby, hbc⟩ := hcut
              have o0 := cell_of_row _ _ 0 _ _ _ hbx
              have o1 := cell_of_row _ _ 1 _ _ _ hbx
              have o2 := cell_of_row _ _ 0 _ _ _ hby
              have o3 := cell_of_row _ _ 1 _ _ _ hby
              have hbw := Hb.out.trans (hbc.mono Hb.out.size)
              have Hbw2 := Lib.hid hbw; clear hbw hbc hbx hby
              have s1 : IntKind.i64.wrap ((s.size : Int) - (x1 : Int)) = (s.size : Int) - (x1 : Int) := by simp only [IntKind.wrap_i64]; omega
              have s2 : IntKind.i64.wrap ((t.size : Int) - (y1 : Int)) = (t.size : Int) - (y1 : Int) := by simp only [IntKind.wrap_i64]; omega
              by_cases hXY : X = Y
              · have heq : Edt.eqR ByteArray.empty A B j = true := by rw [HeR.out]; exact decide_eq_true hXY
                have hq2 : ∀ i, i < j + 1 → Edt.eqR ByteArray.empty A B i = true := fun i h => by
                  rcases Nat.lt_or_ge i j with q | q
                  · exact Hq.out i q
                  · rw [show i = j by omega]; exact heq
                have hsum := Hsum.out
                have e2 : x2 = y2 := by rw [sA, sB, hXY]
                subst hXY
                subst e2
                have t1 := fun u => text_part s x1 (x1 + x2) (by omega) bA u
                have t2 := fun u => text_part t y1 (y1 + x2) (by omega) bB u
                have cc1 : ((x1 + x2 : Nat) : Int) = (x1 : Int) + (x2 : Int) := by omega
                have cc2 : ((y1 + x2 : Nat) : Int) = (y1 : Int) + (x2 : Int) := by omega
                rw [cc1, tA] at t1
                rw [cc2, tB] at t2
                have ww1 : IntKind.i64.wrap ((x1 : Int) + (x2 : Int)) = (x1 : Int) + (x2 : Int) := by simp only [IntKind.wrap_i64]; omega
                have ww2 : IntKind.i64.wrap ((y1 : Int) + (x2 : Int)) = (y1 : Int) + (x2 : Int) := by simp only [IntKind.wrap_i64]; omega
                clear cc1 cc2
                have e3 : (s.size : Int) - (x1 : Int) = (t.size : Int) - (y1 : Int) := by omega
                have e4 : ((s.size : Int) - (x1 : Int) == (t.size : Int) - (y1 : Int)) = true := by rw [e3]; simp
                have e6 : ((s.size : Int) - (x1 : Int) != (t.size : Int) - (y1 : Int)) = false := by rw [e3]; simp
                have E3 := Lib.hid e3; clear e3
                have qX : (X.toList == X.toList) = true := by simp
                have v1 : IntKind.i64.wrap (((n1 - j : Nat) : Int) - 1) = ((n1 - (j + 1) : Nat) : Int) := by simp only [IntKind.wrap_i64]; omega
                have v2 : IntKind.i64.wrap (((n2 - j : Nat) : Int) - 1) = ((n2 - (j + 1) : Nat) : Int) := by simp only [IntKind.wrap_i64]; omega
                have Hq2 := Lib.hid hq2; clear hq2
                clear heq sA sB tA tB hsum
                go_wp2_with fail
                go_quiet (fail)
                go_wp2_with fail
                go_roundw
                case rel => exact ⟨j + 1, by omega, rfl, rfl, Hq2.out, drewN_below Hbw2.out _⟩
                case measure => simp [intOf]; omega
              · have hlast : j < m - k → Edt.eqR ByteArray.empty A B j = false := fun _ => by rw [HeR.out]; exact decide_eq_false hXY
                have hsuf := Hsi.out k j Hpre.out (by omega) Hq.out hlast
                have hfin : (Value.tuple #[.int .i64 (G1 : Int), .int .i64 (G2 : Int)]) = .tuple #[.int .i64 (k : Int), .int .i64 ((n2 - j : Nat) : Int)] := by rw [Hpre.out, hsuf]
                have Hfin := Lib.hid hfin; clear hfin hsuf hlast
                have hsum := Hsum.out
                have hbz : Below w.heap.size w wc := Hbe2.out.trans (Hbw2.out.mono Hbe2.out.size)
                by_cases hxy2 : x2 = y2
                · subst hxy2
                  have t1 := fun u => text_part s x1 (x1 + x2) (by omega) bA u
                  have t2 := fun u => text_part t y1 (y1 + x2) (by omega) bB u
                  have cc1 : ((x1 + x2 : Nat) : Int) = (x1 : Int) + (x2 : Int) := by omega
                  have cc2 : ((y1 + x2 : Nat) : Int) = (y1 : Int) + (x2 : Int) := by omega
                  rw [cc1, tA] at t1
                  rw [cc2, tB] at t2
                  have ww1 : IntKind.i64.wrap ((x1 : Int) + (x2 : Int)) = (x1 : Int) + (x2 : Int) := by simp only [IntKind.wrap_i64]; omega
                  have ww2 : IntKind.i64.wrap ((y1 : Int) + (x2 : Int)) = (y1 : Int) + (x2 : Int) := by simp only [IntKind.wrap_i64]; omega
                  clear cc1 cc2
                  have e3 : (s.size : Int) - (x1 : Int) = (t.size : Int) - (y1 : Int) := by omega
                  have e4 : ((s.size : Int) - (x1 : Int) == (t.size : Int) - (y1 : Int)) = true := by rw [e3]; simp
                  have e6 : ((s.size : Int) - (x1 : Int) != (t.size : Int) - (y1 : Int)) = false := by rw [e3]; simp
                  have E3 := Lib.hid e3; clear e3
                  have qX : (X.toList == Y.toList) = false := by
                    cases h : (X.toList == Y.toList)
                    · rfl
                    · exact absurd (ba_toList_inj (by simpa using h)) hXY
                  have Hbz0 := Lib.hid hbz; clear hbz
                  clear sA sB tA tB hsum hXY
                  go_wp2_with fail
                  go_quiet (fail)
                  have Hbz := Lib.hid (drewN_below Hbz0.out nq); clear Hbz0
                  go_wp2_with fail
                  go_ret2
                  exact ⟨by rw [Hfin.out]; rfl, Hbz.out⟩
                · have e4 : ((s.size : Int) - (x1 : Int) == (t.size : Int) - (y1 : Int)) = false := by simp; omega
                  have e6 : ((s.size : Int) - (x1 : Int) != (t.size : Int) - (y1 : Int)) = true := by simp; omega
                  have e5 : decide ((s.size : Int) - (x1 : Int) = (t.size : Int) - (y1 : Int)) = false := decide_eq_false (by omega)
                  have Hbz0 := Lib.hid hbz; clear hbz
                  clear sA sB tA tB hsum hXY hxy2
                  go_wp2_with fail
                  go_quiet (fail)
                  have Hbz := Lib.hid (drewN_below Hbz0.out nq); clear Hbz0
                  go_wp2_with fail
                  go_ret2
                  exact ⟨by rw [Hfin.out]; rfl, Hbz.out⟩
          · have hlast : j < m - k → Edt.eqR ByteArray.empty A B j = false := fun h => by omega
            have Hq := Lib.hid hq; clear hq
            have hsuf := Hsi.out k j Hpre.out (by omega) Hq.out hlast
            have hfin : (Value.tuple #[.int .i64 (G1 : Int), .int .i64 (G2 : Int)]) = .tuple #[.int .i64 (k : Int), .int .i64 ((n2 - j : Nat) : Int)] := by rw [Hpre.out, hsuf]
            have Hfin := Lib.hid hfin; clear hfin hsuf hlast
            have hmc := Hmc.out
            have Hbz := Lib.hid (Hbe2.out.trans (hb.mono Hbe2.out.size)); clear hb
            rcases (by omega : (¬ k < n2 - j) ∨ (k < n2 - j ∧ ¬ k < n1 - j)) with c5 | ⟨c5, c6⟩
            · have g1 : decide (k < n2 - j) = false := decide_eq_false c5
              clear hmc
              go_wp2_with fail
              go_ret2
              exact ⟨by rw [Hfin.out]; rfl, Hbz.out⟩
            · have g1 : decide (k < n2 - j) = true := decide_eq_true c5
              have g2 : decide (k < n1 - j) = false := decide_eq_false c6
              clear hmc
              go_wp2_with fail
              go_ret2
              exact ⟨by rw [Hfin.out]; rfl, Hbz.out⟩
end Go.Proofs.Ytcmlcpejlmlcfaa
