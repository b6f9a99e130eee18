/-
  What edit.Apply returns.
-/
import Derived.Test.YtcmlcpejlmlcfaaEdtSmall
import Derived.Test.YtcmlcpejlmlcfaaGoBld
set_option linter.unusedVariables false
set_option maxRecDepth 100000
namespace Go.Proofs.Ytcmlcpejlmlcfaa
open Go.RowKit

/-- the box of an edit -/
def EdAt (b : Nat) (e : Ed) (w : World) : Prop := w.heap[b]? = some (.cells #[.int .i64 e.a, .int .i64 e.c, .string e.p] 23 (0, 0))
section
variable {b B : Nat} {e : Ed} {w w' : World}
theorem EdAt.c0 (h : EdAt b e w) : w.cell? ⟨b, 0, none⟩ = some (.int .i64 e.a) := cell_of_row _ _ 0 _ _ _ h
theorem EdAt.c1 (h : EdAt b e w) : w.cell? ⟨b, 1, none⟩ = some (.int .i64 e.c) := cell_of_row _ _ 1 _ _ _ h
theorem EdAt.c2 (h : EdAt b e w) : w.cell? ⟨b, 2, none⟩ = some (.string e.p) := cell_of_row _ _ 2 _ _ _ h
theorem EdAt.keep (h : EdAt b e w) (hb : Below B w w') (hB : b < B) : EdAt b e w' := by
  unfold EdAt
  rw [hb.block b hB]; exact h
theorem EdAt.new (h : EdAt b e w) (hb : Below w.heap.size w w') : EdAt b e w' := h.keep hb (row_lt h)
theorem EdAt.box (e : Ed) (w : World) : EdAt w.heap.size e (w.alloc (.cells #[.int .i64 e.a, .int .i64 e.c, .string e.p] 23)) := heap_alloc_new _ _
end
theorem Ed.on_is (i c : Nat) (p s : ByteArray) : (⟨(([] ++ (s.extract 0 i).data.toList) ++ p.data.toList ++ (s.extract (i + c) s.size).data.toList).toArray⟩ : ByteArray) = (⟨(i : Int), (c : Int), p⟩ : Ed).on s := by
  unfold Ed.on Edt.app
  simp only [Int.toNat_natCast, List.nil_append]
  have e : (s.extract (i + c) s.size).data.toList = s.data.toList.drop (i + c) := by
    rw [ba_part]
    exact List.take_of_length_le (by rw [List.length_drop, ba_len]; exact Nat.le_refl _)
  rw [text_take, e]

set_option maxHeartbeats 2000000 in
theorem apply_any (s : ByteArray) (hsz : s.size ≤ 1099511627776) (e : Ed) (hw : e.Wf) (hp : e.p.size ≤ 1099511627776) (w : World) :
    Calls Try.prog 8 #[.string s, e.v] w fun x w' => x = .returned (if e.May s.size then .tuple #[.string (e.on s), .int .i64 0] else .tuple #[.string ⟨#[]⟩, .int .i64 2]) ∧ Below w.heap.size w w' := by
  have ca := fun u => applicable_any s hsz e hw u
  have hb0 := box_below w (.cells #[.int .i64 e.a, .int .i64 e.c, .string e.p] 23)
  have hbx := EdAt.box e w
  by_cases hm : e.May s.size
  · simp only [if_pos hm]
    rw [decide_eq_true hm] at ca
    obtain ⟨a, c, p⟩ := e
    obtain ⟨h1, h2, h3⟩ := hm
    simp only at h1 h2 h3 hp
    obtain ⟨i, rfl⟩ : ∃ i : Nat, a = i := ⟨a.toNat, by omega⟩
    obtain ⟨k, rfl⟩ : ∃ k : Nat, c = k := ⟨c.toNat, by omega⟩
    have hik : i + k ≤ s.size := by omega
    have hon := Ed.on_is i k p s
    obtain ⟨R, hR⟩ : ∃ R, (⟨(i : Int), (k : Int), p⟩ : Ed).on s = R := ⟨_, rfl⟩
    rw [hR] at hon ⊢
    have e0 := hbx.c0
    have e1 := hbx.c1
    have e2 := hbx.c2
    unfold Ed.v at *
    simp only at ca hb0 e0 e1 e2 ⊢
    have Hon := Lib.hid hon; clear hon hR
    have Ca := Lib.hid ca; clear ca
    have Hbx := Lib.hid hbx; clear hbx
    have Hb0 := Lib.hid hb0; clear hb0
    clear h1 h2 h3 hw
    go_enter Try.func8, Try.ntmps8
    go_wp2_with fail
    refine (Ca.out _).mono ?_; rintro x w1 ⟨rfl, h1⟩
    have hx1 := Hbx.out.new h1
    have hb1 := Hb0.out.trans (h1.mono Hb0.out.size)
    have hl1 : w.heap.size < w1.heap.size := row_lt hx1
    clear e0 e1 e2 h1
    -- the builder's block
    have hx2 := hx1.new (box_below w1 (.cells #[.pointer none, .slice none 0 0] 52))
    have hb2 := hb1.trans ((box_below w1 (.cells #[.pointer none, .slice none 0 0] 52)).mono hb1.size)
    have hbk : (w1.alloc (.cells #[.pointer none, .slice none 0 0] 52)).heap[w1.heap.size]? = some (.cells #[.pointer none, .slice none 0 0] 52 (0, 0)) := heap_alloc_new _ _
    have e0 := hx2.c0
    have e1 := hx2.c1
    have e2 := hx2.c2
    simp only at e0 e1 e2
    have hn : s.size - k + p.size ≤ 281474976710656 := by omega
    have cg := Bld.grow_any w1.heap.size (s.size - k + p.size) _ hbk (by simp) hn
    have hg1 : IntKind.i64.wrap ((s.size : Int) - (k : Int)) = (s.size : Int) - (k : Int) := by simp only [IntKind.wrap_i64]; omega
    have hg2 : IntKind.i64.wrap ((s.size : Int) - (k : Int) + (p.size : Int)) = ((s.size - k + p.size : Nat) : Int) := by simp only [IntKind.wrap_i64]; omega
    have Hx2 := Lib.hid hx2; clear hx2 hx1
    have Hb2 := Lib.hid hb2; clear hb2 hb1
    have Cg := Lib.hid cg; clear cg hbk
    generalize s.size - k + p.size = gn at *
    go_wp2_with fail
    refine Cg.out.mono ?_; rintro x w3 ⟨rfl, hh3, h3⟩
    have hx3 := Hx2.out.keep h3 hl1
    have hl3 : w.heap.size < w3.heap.size := row_lt hx3
    have hsz3 : w1.heap.size ≤ w3.heap.size := by have := h3.size; simp at this; omega
    have hb3 := Hb2.out.trans (h3.mono (by omega))
    have cw := Bld.write_any w1.heap.size [] (s.extract 0 i) w3 hh3 (by rw [ByteArray.size_extract]; simp; omega) hsz3
    clear e0 e1 e2 h3 hh3 hg1 hg2
    have e0 := hx3.c0
    have e1 := hx3.c1
    have e2 := hx3.c2
    simp only at e0 e1 e2
    have ht := fun u => text_head s i (by omega) u
    have Hx3 := Lib.hid hx3; clear hx3
    have Hb3 := Lib.hid hb3; clear hb3
    have Cw := Lib.hid cw; clear cw Cg Hx2 Hb2
    go_wp2_with fail
    refine Cw.out.mono ?_; rintro x w4 ⟨rfl, hh4, h4⟩
    have hx4 := Hx3.out.keep h4 hl1
    have hsz4 : w1.heap.size ≤ w4.heap.size := by have := h4.size; omega
    have hb4 := Hb3.out.trans (h4.mono (by omega))
    have cw := Bld.write_any w1.heap.size _ p w4 hh4 (by rw [List.length_append, ba_len, ByteArray.size_extract]; simp; omega) hsz4
    clear e0 e1 e2 h4 hh4 ht
    have e0 := hx4.c0
    have e1 := hx4.c1
    have e2 := hx4.c2
    simp only at e0 e1 e2
    have Hx4 := Lib.hid hx4; clear hx4
    have Hb4 := Lib.hid hb4; clear hb4
    have Cw2 := Lib.hid cw; clear cw Cw Hx3 Hb3
    go_wp2_with fail
    refine Cw2.out.mono ?_; rintro x w5 ⟨rfl, hh5, h5⟩
    have hx5 := Hx4.out.keep h5 hl1
    have hsz5 : w1.heap.size ≤ w5.heap.size := by have := h5.size; omega
    have hb5 := Hb4.out.trans (h5.mono (by omega))
    have cw := Bld.write_any w1.heap.size _ (s.extract (i + k) s.size) w5 hh5 (by rw [List.length_append, List.length_append, ba_len, ba_len, ByteArray.size_extract, ByteArray.size_extract]; simp; omega) hsz5
    clear e0 e1 e2 h5 hh5
    have e0 := hx5.c0
    have e1 := hx5.c1
    have e2 := hx5.c2
    simp only at e0 e1 e2
    have ht := fun u => text_tail s (i + k) hik u
    have hcst : ((i + k : Nat) : Int) = (i : Int) + (k : Int) := by omega
    rw [hcst] at ht
    have hwr : IntKind.i64.wrap ((i : Int) + (k : Int)) = (i : Int) + (k : Int) := by simp only [IntKind.wrap_i64]; omega
    have Hx5 := Lib.hid hx5; clear hx5
    have Hb5 := Lib.hid hb5; clear hb5
    have Cw3 := Lib.hid cw; clear cw Cw2 Hx4 Hb4 hcst
    go_wp2_with fail
    refine Cw3.out.mono ?_; rintro x w6 ⟨rfl, hh6, h6⟩
    have hsz6 : w1.heap.size ≤ w6.heap.size := by have := h6.size; omega
    have hb6 := Hb5.out.trans (h6.mono (by omega))
    have cs := Bld.string_any w1.heap.size _ w6 hh6 hsz6
    rw [Hon.out] at cs
    clear e0 e1 e2 h6 hh6 ht hwr
    have Hb6 := Lib.hid hb6; clear hb6
    have Cs := Lib.hid cs; clear cs Cw3 Hx5 Hb5
    go_wp2_with fail
    refine Cs.out.mono ?_; rintro x w7 ⟨rfl, h7⟩
    have hb7 := Hb6.out.trans (h7.mono (by omega))
    have Hb7 := Lib.hid hb7; clear hb7 h7
    go_wp2_with fail
    go_ret2
    exact ⟨rfl, Hb7.out⟩
  · simp only [if_neg hm]
    rw [decide_eq_false hm] at ca
    unfold Ed.v at *
    have e0 := hbx.c0
    have e1 := hbx.c1
    have e2 := hbx.c2
    have Ca := Lib.hid ca; clear ca hm
    have Hb0 := Lib.hid hb0; clear hb0 hbx
    go_enter Try.func8, Try.ntmps8
    go_wp2_with fail
    refine (Ca.out _).mono ?_; rintro x w1 ⟨rfl, h1⟩
    have hb1 := Hb0.out.trans (h1.mono Hb0.out.size)
    have Hb1 := Lib.hid hb1; clear hb1 h1
    clear e0 e1 e2
    go_wp2_with fail
    go_ret2
    exact ⟨rfl, Hb1.out⟩
end Go.Proofs.Ytcmlcpejlmlcfaa
