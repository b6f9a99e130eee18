/-
  What edit.Back returns.
-/
import Derived.Test.YtcmlcpejlmlcfaaEdtOf
set_option linter.unusedVariables false
set_option maxRecDepth 100000
namespace Go.Proofs.Ytcmlcpejlmlcfaa
open Go.RowKit

def Ed.nil : Ed := ⟨0, 0, ⟨#[]⟩⟩
theorem back_results (tmps : Array Value) (g : Nat) (cs : Array Value) (e : Value) (W : World) (h2 : tmps.getD 4 undef = .pointer (some ⟨g, 0, none⟩)) (h3 : tmps.getD 5 undef = e) (hg : W.heap[g]? = some (.cells cs 23 (0, 0))) (hs : cs.size = 3) :
    (results Try.f12 tmps).run Try.prog W = .ok (.tuple #[.agg cs, e]) W := by
  have hi : (Try.prog.info? 23).map (·.size) = some cs.size := by rw [hs]; kernel_rfl
  rw [results_cell_tmp (p := 4) (u := 5) rfl, h2, h3]
  simp [asAddr, run_loadVar_row W g _ 23 cs _ _ hg Try.underlying23 rfl hi]

set_option maxHeartbeats 2000000 in
theorem back_any (s : ByteArray) (hsz : s.size ≤ 1099511627776) (e : Ed) (hw : e.Wf) (hp : e.p.size ≤ 1099511627776) (w : World) :
    Calls Try.prog 12 #[.string s, e.v] w fun x w' => x = .returned (if e.May s.size then .tuple #[(e.back s).v, .int .i64 0] else .tuple #[Ed.nil.v, .int .i64 2]) ∧ Below w.heap.size w w' := by
  have ca := fun u => applicable_any s hsz e hw u
  have hb0 : Below w.heap.size w ((w.alloc (.cells #[.int .i64 e.a, .int .i64 e.c, .string e.p] 23)).alloc (.cells #[.int .i64 0, .int .i64 0, .string ⟨#[]⟩] 23)) := (box_below w _).alloc (by simp) _
  have hbx : EdAt w.heap.size e ((w.alloc (.cells #[.int .i64 e.a, .int .i64 e.c, .string e.p] 23)).alloc (.cells #[.int .i64 0, .int .i64 0, .string ⟨#[]⟩] 23)) := row_alloc (EdAt.box e w) _
  have hrz : ((w.alloc (.cells #[.int .i64 e.a, .int .i64 e.c, .string e.p] 23)).alloc (.cells #[.int .i64 0, .int .i64 0, .string ⟨#[]⟩] 23)).heap[w.heap.size + 1]? = some (.cells #[.int .i64 0, .int .i64 0, .string ⟨#[]⟩] 23 (0, 0)) := by
    have := heap_alloc_new (w.alloc (.cells #[.int .i64 e.a, .int .i64 e.c, .string e.p] 23)) (.cells #[.int .i64 0, .int .i64 0, .string ⟨#[]⟩] 23)
    rw [World.size_alloc] at this; exact this
  by_cases hm : e.May s.size
  · simp only [if_pos hm]
    rw [decide_eq_true hm] at ca
    obtain ⟨a, c, p⟩ := e
    obtain ⟨h1, h2, h3⟩ := hm
    simp only at h1 h2 h3 hp
    obtain ⟨i, rfl⟩ : ∃ i : Nat, a = i := ⟨a.toNat, by omega⟩
    obtain ⟨k, rfl⟩ : ∃ k : Nat, c = k := ⟨c.toNat, by omega⟩
    have hik : i + k ≤ s.size := by omega
    have hbk : ((⟨(i : Int), (k : Int), p⟩ : Ed).back s).v = .agg #[.int .i64 (i : Int), .int .i64 (p.size : Int), .string (s.extract i (i + k))] := by unfold Ed.back Ed.v; simp only [Int.toNat_natCast]
    rw [hbk]
    clear hbk
    have e0 := hbx.c0
    have e1 := hbx.c1
    have e2 := hbx.c2
    have hsp := fun u => text_part s i (i + k) (by omega) hik u
    have hcst : ((i + k : Nat) : Int) = (i : Int) + (k : Int) := by omega
    rw [hcst] at hsp
    have hwr : IntKind.i64.wrap ((i : Int) + (k : Int)) = (i : Int) + (k : Int) := by simp only [IntKind.wrap_i64]; omega
    have hxs : (s.extract i (i + k)).size ≤ 281474976710656 := by rw [ByteArray.size_extract]; omega
    have cc := fun u => clone_any (s.extract i (i + k)) u hxs
    have h3' : (i : Int) ≤ (i : Int) + (k : Int) := by omega
    generalize s.extract i (i + k) = X at *
    unfold Ed.v at *
    simp only at ca hb0 e0 e1 e2 ⊢
    have Ca := Lib.hid ca; clear ca
    have Hbx := Lib.hid hbx; clear hbx
    have Hb0 := Lib.hid hb0; clear hb0
    have Hrz := Lib.hid hrz; clear hrz
    have Hsp := Lib.hid hsp; clear hsp
    have Hwr := Lib.hid hwr; clear hwr
    have Cc := Lib.hid cc; clear cc
    clear h1 h2 h3 hw hcst
    go_enter Try.func12, Try.ntmps12
    go_wp2_with fail
    refine (Ca.out _).mono ?_; rintro x w1 ⟨rfl, h1⟩
    have hx1 := Hbx.out.new h1
    have hr1 := Below.row h1 Hrz.out
    have hb1 := Hb0.out.trans (h1.mono Hb0.out.size)
    clear e0 e1 e2 h1
    have e0 := hx1.c0
    have e1 := hx1.c1
    have e2 := hx1.c2
    simp only at e0 e1 e2
    have hsp := Hsp.out
    have hwr := Hwr.out
    have Hx1 := Lib.hid hx1; clear hx1
    have Hr1 := Lib.hid hr1; clear hr1
    have Hb1 := Lib.hid hb1; clear hb1
    go_wp2_with fail
    refine (Cc.out _).mono ?_; rintro x w2 ⟨rfl, h2⟩
    have hx2 := Hx1.out.new h2
    have hr2 := Below.row h2 Hr1.out
    have hb2 := Hb1.out.trans (h2.mono Hb1.out.size)
    clear e0 e1 e2 h2 hsp hwr
    have e0 := hx2.c0
    have e1 := hx2.c1
    have e2 := hx2.c2
    simp only at e0 e1 e2
    have g0 : w2.cell? ⟨w.heap.size + 1, 0, none⟩ = some (.int .i64 0) := cell_of_row _ _ 0 _ _ _ hr2
    have g1 : w2.cell? ⟨w.heap.size + 1, 1, none⟩ = some (.int .i64 0) := cell_of_row _ _ 1 _ _ _ hr2
    have g2 : w2.cell? ⟨w.heap.size + 1, 2, none⟩ = some (.string ⟨#[]⟩) := cell_of_row _ _ 2 _ _ _ hr2
    have f0 := row_free hr2 0
    have f1 := row_free hr2 1
    have f2 := row_free hr2 2
    have Hx2 := Lib.hid hx2; clear hx2
    have Hr2 := Lib.hid hr2; clear hr2
    have Hb2 := Lib.hid hb2; clear hb2
    go_wp2_with fail
    refine bodyPost_ret (back_results _ (w.heap.size + 1) _ _ _ rfl rfl (edit_row (i : Int) (p.size : Int) X Hr2.out) rfl) rfl ?_
    exact ⟨rfl, ((Hb2.out.setCell (by simp) _).setCell (by simp) _).setCell (by simp) _⟩
  · simp only [if_neg hm]
    rw [decide_eq_false hm] at ca
    have e0 := hbx.c0
    have e1 := hbx.c1
    have e2 := hbx.c2
    unfold Ed.v at *
    have hnil : Value.agg #[.int .i64 Ed.nil.a, .int .i64 Ed.nil.c, .string Ed.nil.p] = Value.agg #[.int .i64 0, .int .i64 0, .string ⟨#[]⟩] := rfl
    rw [hnil]
    clear hnil
    have Ca := Lib.hid ca; clear ca hm
    have Hb0 := Lib.hid hb0; clear hb0
    have Hrz := Lib.hid hrz; clear hrz hbx
    go_enter Try.func12, Try.ntmps12
    go_wp2_with fail
    refine (Ca.out _).mono ?_; rintro x w1 ⟨rfl, h1⟩
    have hr1 := Below.row h1 Hrz.out
    have hb1 := Hb0.out.trans (h1.mono Hb0.out.size)
    have g0 : w1.cell? ⟨w.heap.size + 1, 0, none⟩ = some (.int .i64 0) := cell_of_row _ _ 0 _ _ _ hr1
    have g1 : w1.cell? ⟨w.heap.size + 1, 1, none⟩ = some (.int .i64 0) := cell_of_row _ _ 1 _ _ _ hr1
    have g2 : w1.cell? ⟨w.heap.size + 1, 2, none⟩ = some (.string ⟨#[]⟩) := cell_of_row _ _ 2 _ _ _ hr1
    have f0 := row_free hr1 0
    have f1 := row_free hr1 1
    have f2 := row_free hr1 2
    have Hr1 := Lib.hid hr1; clear hr1
    have Hb1 := Lib.hid hb1; clear hb1 h1
    clear e0 e1 e2
    go_wp2_with fail
    refine bodyPost_ret (back_results _ (w.heap.size + 1) _ _ _ rfl rfl (edit_row 0 0 ⟨#[]⟩ Hr1.out) rfl) rfl ?_
    exact ⟨rfl, ((Hb1.out.setCell (by simp) _).setCell (by simp) _).setCell (by simp) _⟩
end Go.Proofs.Ytcmlcpejlmlcfaa
