/-
  What code.Read returns.
-/
import Derived.Test.YtnnfpaheglkmoaaDoorCodNamed
import Derived.Laws.ResultCell
set_option linter.unusedVariables false
set_option maxRecDepth 100000
namespace Go.Proofs.YtnnfpaheglkmoaaDoor
open Go.RowKit

/-- what Read answers -/
def ReadR (s : ByteArray) (e : Ending) : Prop := (∃ x, Cod.IsLine s.data.toList x ∧ e = .returned (.tuple #[insV x, .int .i64 0])) ∨ ((∀ x, ¬ Cod.IsLine s.data.toList x) ∧ e = .returned (.tuple #[insV (0, 0), .int .i64 7]))
theorem read_results (tmps : Array Value) (g : Nat) (x y e : Value) (W : World) (h2 : tmps.getD 2 undef = .pointer (some ⟨g, 0, none⟩)) (h3 : tmps.getD 3 undef = e) (hg : W.heap[g]? = some (.cells #[x, y] 39 (0, 0))) :
    (results Tryd.f18 tmps).run Tryd.prog W = .ok (.tuple #[.agg #[x, y], e]) W := by
  rw [results_cell_tmp (p := 2) (u := 3) rfl, h2, h3]
  simp [asAddr, run_loadVar_row W g _ 39 #[x, y] _ _ hg Tryd.underlying39 rfl (by kernel_rfl)]
theorem lineS_yes {x : Cod.In} (h : Cod.ins x = true) : lineS x = ⟨(Cod.line x).toArray⟩ := if_pos h
theorem lineE_yes {x : Cod.In} (h : Cod.ins x = true) : lineE x = 0 := if_pos h
theorem lineE_no {x : Cod.In} (h : ¬ Cod.ins x = true) : lineE x = 2 := if_neg h

set_option maxHeartbeats 2000000 in
theorem read_any (s : ByteArray) (hs : s.size ≤ 1000) (w : World) (h : Kn w) : Calls Tryd.prog 18 #[.string s] w fun e w' => ReadR s e ∧ Below w.heap.size w w' := by
  have hb0 := obj_below w (.cells #[.int .u8 0, .int .u8 0] 39)
  have hr0 := heap_alloc_new w (.cells #[.int .u8 0, .int .u8 0] 39)
  have hk0 := h.keep hb0
  have Hb0 := Lib.hid hb0; clear hb0
  have Hr0 := Lib.hid hr0; clear hr0
  have Hk0 := Lib.hid hk0; clear hk0 h
  go_enter Tryd.func18, Tryd.ntmps18
  go_wp2_with fail
  refine (cut_any s (by omega) _).mono ?_; rintro e w1 ⟨⟨a, b, f, rfl, hp1, hp2, hsa, hsb⟩, h1⟩
  have hk1 := Hk0.out.keep h1
  have hr1 := row_below Hr0.out h1 (by simp)
  have hb1 := Hb0.out.trans (h1.mono Hb0.out.size)
  have Hk1 := Lib.hid hk1; clear hk1
  have Hr1 := Lib.hid hr1; clear hr1
  have Hb1 := Lib.hid hb1; clear hb1 h1
  have Hp1 := Lib.hid hp1; clear hp1
  have Hp2 := Lib.hid hp2; clear hp2
  clear Hk0 Hr0 Hb0
  go_wp2_with fail
  refine (parse_any b (by omega) _ Hk1.out).mono ?_; rintro e w2 ⟨u, ev, rfl, hq1, hq2, h2⟩
  have hk2 := Hk1.out.keep h2
  have hr2 := row_below Hr1.out h2 (row_lt Hr1.out)
  have hb2 := Hb1.out.trans (h2.mono Hb1.out.size)
  have Hk2 := Lib.hid hk2; clear hk2
  have Hr2 := Lib.hid hr2; clear hr2
  have Hb2 := Lib.hid hb2; clear hb2 h2
  have Hq1 := Lib.hid hq1; clear hq1
  have Hq2 := Lib.hid hq2; clear hq2
  clear Hk1 Hr1 Hb1
  have hwu : IntKind.u8.wrap (u : Int) = ((Cod.b8 u).toNat : Int) := by
    unfold Cod.b8
    rw [UInt8.toNat_ofNat']
    simp only [IntKind.wrap_u8]
    omega
  go_wp2_with fail
  refine (named_any a _ Hk2.out).mono ?_; rintro e w3 ⟨⟨k, hk24, rfl, hq3⟩, rfl⟩
  have hkb : (k : Int) = ((Cod.b8 k).toNat : Int) := by rw [Cod.b8_nat (by omega)]
  rw [hkb]
  have hx : ∀ y, Cod.IsLine s.data.toList y → y = (Cod.b8 k, Cod.b8 u) := fun y hy =>
    Cod.line_parts hy Hp1.out Hp2.out (fun j hj e => hq3 j hj (by unfold nmS; rw [e, ba_eta])) Hq1.out Hq2.out
  obtain ⟨x, hxx⟩ : ∃ x : Cod.In, x = (Cod.b8 k, Cod.b8 u) := ⟨_, rfl⟩
  have e1 : Cod.b8 k = x.1 := by rw [hxx]
  have e2 : Cod.b8 u = x.2 := by rw [hxx]
  rw [← hxx] at hx
  rw [e2] at hwu
  rw [e1]
  have Hx := Lib.hid hx; clear hx
  clear hxx e1 e2 hkb hq3 Hp1 Hp2 Hq1 Hq2 hk24
  have hb3 := obj_below w3 (.cells #[.int .u8 (x.1.toNat : Int), .int .u8 (x.2.toNat : Int)] 39)
  have hrx := heap_alloc_new w3 (.cells #[.int .u8 (x.1.toNat : Int), .int .u8 (x.2.toNat : Int)] 39)
  have hk3 := Hk2.out.keep hb3
  have hr3 := row_below Hr2.out hb3 (row_lt Hr2.out)
  have hbb := Hb2.out.trans (hb3.mono Hb2.out.size)
  have Hrx := Lib.hid hrx; clear hrx
  have Hk3 := Lib.hid hk3; clear hk3
  have Hr3 := Lib.hid hr3; clear hr3
  have Hb3 := Lib.hid hbb; clear hbb hb3
  have hln := fun u h => line_any x u h
  unfold insV at hln
  have Hln := Lib.hid hln; clear hln
  go_wp2_with fail
  refine (Hln.out _ Hk3.out).mono ?_; rintro e w4 ⟨rfl, h4⟩
  have hr4 := row_below Hr3.out h4 (row_lt Hr3.out)
  have hrx4 := row_below Hrx.out h4 (row_lt Hrx.out)
  have hb4 := Hb3.out.trans (h4.mono Hb3.out.size)
  have a0 : w4.cell? ⟨w.heap.size, 0, none⟩ = some (.int .u8 0) := by rw [cell_of_row _ _ 0 _ _ _ hr4]; rfl
  have a1 : w4.cell? ⟨w.heap.size, 1, none⟩ = some (.int .u8 0) := by rw [cell_of_row _ _ 1 _ _ _ hr4]; rfl
  have f0 := row_free hr4 0
  have f1 := row_free hr4 1
  have x0 : w4.cell? ⟨w3.heap.size, 0, none⟩ = some (.int .u8 (x.1.toNat : Int)) := by rw [cell_of_row _ _ 0 _ _ _ hrx4]; rfl
  have x1 : w4.cell? ⟨w3.heap.size, 1, none⟩ = some (.int .u8 (x.2.toNat : Int)) := by rw [cell_of_row _ _ 1 _ _ _ hrx4]; rfl
  have Hr4 := Lib.hid hr4; clear hr4
  have Hb4 := Lib.hid hb4; clear hb4 h4 hrx4
  clear Hk3 Hr3 Hb3 Hrx Hk2 Hr2 Hb2 hwu
  by_cases hi : Cod.ins x = true
  · rw [lineE_yes hi, lineS_yes hi]
    by_cases hl : Cod.line x = s.data.toList
    · have hls : (⟨(Cod.line x).toArray⟩ : ByteArray) = s := by rw [hl, ba_eta]
      rw [hls]
      have hil : Cod.IsLine s.data.toList x := ⟨hi, hl⟩
      have Hil := Lib.hid hil; clear hil hls hl hi
      go_wp2_with fail
      refine bodyPost_ret (read_results _ w.heap.size _ _ _ _ rfl rfl (set_two Hr4.out)) rfl ?_
      exact ⟨.inl ⟨x, Hil.out, rfl⟩, (Hb4.out.setCell (Nat.le_refl _) _).setCell (Nat.le_refl _) _⟩
    · have hno : ∀ y, ¬ Cod.IsLine s.data.toList y := fun y hy => hl (by rw [← Hx.out y hy]; exact hy.2)
      have Hno := Lib.hid hno; clear hno
      have heq : ((⟨(Cod.line x).toArray⟩ : ByteArray).toList == s.toList) = false := by
        refine beq_eq_false_iff_ne.2 (fun e => hl ?_)
        rw [← ba_toList_inj e]
      generalize (⟨(Cod.line x).toArray⟩ : ByteArray) = L at *
      clear hl hi
      go_wp2_with fail
      refine bodyPost_ret (read_results _ w.heap.size _ _ _ _ rfl rfl (set_two Hr4.out)) rfl ?_
      exact ⟨.inr ⟨Hno.out, rfl⟩, (Hb4.out.setCell (Nat.le_refl _) _).setCell (Nat.le_refl _) _⟩
  · rw [lineE_no hi]
    have hno : ∀ y, ¬ Cod.IsLine s.data.toList y := fun y hy => hi (by rw [← Hx.out y hy]; exact hy.1)
    have Hno := Lib.hid hno; clear hno hi
    go_wp2_with fail
    refine bodyPost_ret (read_results _ w.heap.size _ _ _ _ rfl rfl (set_two Hr4.out)) rfl ?_
    exact ⟨.inr ⟨Hno.out, rfl⟩, (Hb4.out.setCell (Nat.le_refl _) _).setCell (Nat.le_refl _) _⟩
end Go.Proofs.YtnnfpaheglkmoaaDoor
