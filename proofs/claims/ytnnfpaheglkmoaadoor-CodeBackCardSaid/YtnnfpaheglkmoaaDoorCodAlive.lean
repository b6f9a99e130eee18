/-
  The chapter's examples.
-/
import Derived.Test.YtnnfpaheglkmoaaDoorCodRefGet
import Derived.Test.YtnnfpaheglkmoaaDoorCodRefRd
import Derived.Test.YtnnfpaheglkmoaaDoorCodSame
import Derived.Test.YtnnfpaheglkmoaaDoorCodCopy
set_option linter.unusedVariables false
set_option maxRecDepth 100000
namespace Go.Proofs.YtnnfpaheglkmoaaDoor
open Go.RowKit

theorem ex_may : (prog [⟨#[97]⟩] [(1, 0)]).May := by decide +kernel
theorem ex_put : Cod.put (prog [⟨#[97]⟩] [(1, 0)]) = [1, 1, 97, 1, 0, 1, 0] := by decide +kernel
theorem ex_line1 : Cod.ins (2, 7) = true ∧ Cod.line (2, 7) = [110, 117, 109, 32, 55] := by decide +kernel
theorem ex_line2 : Cod.ins (4, 0) = true ∧ Cod.line (4, 0) = [99, 97, 116] := by decide +kernel
theorem ex_no : ¬ (prog [] [(0, 0)]).May := by decide +kernel
theorem ex_read : ∀ x, ¬ Cod.IsLine [99, 97, 116, 32, 48] x := fun x ⟨hi, hl⟩ => by
  have hop := Cod.ins_op hi
  have hn := Cod.names_no32 _ hop.2
  unfold Cod.line Cod.name at hl
  cases hh : Cod.has x.1 with
  | true =>
    rw [hh] at hl
    simp only [if_true] at hl
    obtain ⟨e1, e2⟩ := Cod.cut32 (Cod.names.getD x.1.toNat []) [99, 97, 116] (Cod.dec x.2.toNat) [48] hn (by decide) hl
    have e3 := Cod.names_inj _ hop.2 4 (by omega) (by rw [e1]; rfl)
    rw [Cod.has_is, e3] at hh
    revert hh
    decide
  | false =>
    rw [hh] at hl
    simp only [Bool.false_eq_true, if_false] at hl
    rw [hl] at hn
    revert hn
    decide
theorem ex_prog (w : World) : PrAt ⟨some ⟨w.heap.size, 0, none⟩, 1, 1, some ⟨w.heap.size + 1, 0, none⟩, 1, 1⟩ [⟨#[97]⟩] [(1, 0)] ((w.alloc (.cells #[.string ⟨#[97]⟩] 9)).alloc (.cells #[.int .u8 1, .int .u8 0] 39)) := by
  have r1 := heap_alloc_new w (.cells #[.string ⟨#[97]⟩] 9)
  have s1 : (w.alloc (.cells #[.string ⟨#[97]⟩] 9)).heap.size = w.heap.size + 1 := by simp
  have r2 := heap_alloc_new (w.alloc (.cells #[.string ⟨#[97]⟩] 9)) (.cells #[.int .u8 1, .int .u8 0] 39)
  rw [s1] at r2
  refine ⟨⟨rfl, fun j hj => ⟨_, 0, rfl, ?_⟩⟩, ⟨rfl, fun j hj => ⟨_, 0, rfl, ?_, ?_⟩⟩, fun e => (by cases e), fun e => (by cases e)⟩
  · obtain rfl : j = 0 := by simp only at hj; omega
    rw [cell_of_row _ _ _ _ _ _ (row_alloc r1 _)]; rfl
  · obtain rfl : j = 0 := by simp only at hj; omega
    rw [cell_of_row _ _ _ _ _ _ r2]; rfl
  · obtain rfl : j = 0 := by simp only at hj; omega
    rw [cell_of_row _ _ _ _ _ _ r2]; rfl
theorem ex_prog2 (w : World) : PrAt ⟨none, 0, 0, some ⟨w.heap.size, 0, none⟩, 1, 1⟩ [] [(0, 0)] (w.alloc (.cells #[.int .u8 0, .int .u8 0] 39)) := by
  have r1 := heap_alloc_new w (.cells #[.int .u8 0, .int .u8 0] 39)
  refine ⟨Strs.nil _ _, ⟨rfl, fun j hj => ⟨_, 0, rfl, ?_, ?_⟩⟩, fun _ => rfl, fun e => (by cases e)⟩
  · obtain rfl : j = 0 := by simp only at hj; omega
    rw [cell_of_row _ _ _ _ _ _ r1]; rfl
  · obtain rfl : j = 0 := by simp only at hj; omega
    rw [cell_of_row _ _ _ _ _ _ r1]; rfl

set_option maxHeartbeats 4000000 in
theorem alive_any (w : World) (h : Kn w) : Calls Tryd.prog 8 #[] w fun e w' => e = .returned (.bool true) ∧ Below w.heap.size w w' := by
  have hp := fun u => put_any (ex_prog u) (by simp) (by simp)
  rw [putS_yes ex_may, chk_yes ex_may, ex_put] at hp
  have hl1 := fun u k => line_any (2, 7) u k
  rw [lineS_yes ex_line1.1, lineE_yes ex_line1.1, ex_line1.2] at hl1
  have hl2 := fun u k => line_any (4, 0) u k
  rw [lineS_yes ex_line2.1, lineE_yes ex_line2.1, ex_line2.2] at hl2
  have hrd : ∀ u, Kn u → Calls Tryd.prog 18 #[.string ⟨#[99, 97, 116, 32, 48]⟩] u fun e w' => e = .returned (.tuple #[.agg #[.int .u8 0, .int .u8 0], .int .i64 7]) ∧ Below u.heap.size u w' := fun u k => (read_any ⟨#[99, 97, 116, 32, 48]⟩ (by decide) u k).mono fun e w' hh => by
    rcases hh.1 with ⟨x, hx, _⟩ | ⟨_, he⟩
    · exact (ex_read x hx).elim
    · exact ⟨he, hh.2⟩
  have hg : ∀ u, Calls Tryd.prog 12 #[.string ⟨#[]⟩] u fun e w' => e = .returned (.tuple #[.agg #[.slice none 0 0, .slice none 0 0], .int .i64 7]) ∧ Below u.heap.size u w' := fun u => (get_any ⟨#[]⟩ (by decide) u).mono fun e w' hh => by
    rcases hh.1 with ⟨_, he⟩ | ⟨p, x, ts, cs, hx, _⟩
    · exact ⟨he, hh.2⟩
    · cases hx
  have hc := fun u => check_any (ex_prog2 u) (by simp) (by simp)
  rw [chk_no ex_no] at hc
  have hb1 := (obj_below w (.cells #[.string ⟨#[97]⟩] 9)).trans ((obj_below (w.alloc (.cells #[.string ⟨#[97]⟩] 9)) (.cells #[.int .u8 1, .int .u8 0] 39)).mono (obj_below w _).size)
  have Hk1 := Lib.hid (h.keep hb1)
  have Hb1 := Lib.hid hb1; clear hb1 h
  have Hp := Lib.hid hp; clear hp
  have Hl1 := Lib.hid hl1; clear hl1
  have Hl2 := Lib.hid hl2; clear hl2
  have Hrd := Lib.hid hrd; clear hrd
  have Hg := Lib.hid hg; clear hg
  have Hc := Lib.hid hc; clear hc
  go_enter Tryd.func8, Tryd.ntmps8
  go_wp2_with fail
  refine (Hp.out _).mono ?_; rintro e w1 ⟨rfl, h1⟩
  have Hk2 := Lib.hid (Hk1.out.keep h1)
  have Hb2 := Lib.hid (Hb1.out.trans (h1.mono Hb1.out.size)); clear h1
  go_wp2_with fail
  refine (Hl1.out _ Hk2.out).mono ?_; rintro e w2 ⟨rfl, h1⟩
  have Hk3 := Lib.hid (Hk2.out.keep h1)
  have Hb3 := Lib.hid (Hb2.out.trans (h1.mono Hb2.out.size)); clear h1
  go_wp2_with fail
  refine (Hl2.out _ Hk3.out).mono ?_; rintro e w3 ⟨rfl, h1⟩
  have Hk4 := Lib.hid (Hk3.out.keep h1)
  have Hb4 := Lib.hid (Hb3.out.trans (h1.mono Hb3.out.size)); clear h1
  go_wp2_with fail
  refine (Hrd.out _ Hk4.out).mono ?_; rintro e w4 ⟨rfl, h1⟩
  have Hb5 := Lib.hid (Hb4.out.trans (h1.mono Hb4.out.size)); clear h1
  have hb6 := obj_below w4 (.cells #[.int .u8 0, .int .u8 0] 39)
  have Hb6 := Lib.hid (Hb5.out.trans (hb6.mono Hb5.out.size)); clear hb6
  go_wp2_with fail
  refine (Hg.out _).mono ?_; rintro e w5 ⟨rfl, h1⟩
  have Hb7 := Lib.hid (Hb6.out.trans (h1.mono Hb6.out.size)); clear h1
  have hb8 := obj_below w5 (.cells #[.slice none 0 0, .slice none 0 0] 25)
  have Hb8 := Lib.hid (Hb7.out.trans (hb8.mono Hb7.out.size)); clear hb8
  have hb9 := obj_below (w5.alloc (.cells #[.slice none 0 0, .slice none 0 0] 25)) (.cells #[.int .u8 0, .int .u8 0] 39)
  have Hb9 := Lib.hid (Hb8.out.trans (hb9.mono Hb8.out.size)); clear hb9
  have hc8 := Hc.out (w5.alloc (.cells #[.slice none 0 0, .slice none 0 0] 25))
  rw [show (w5.alloc (.cells #[.slice none 0 0, .slice none 0 0] 25)).heap.size = w5.heap.size + 1 by simp] at hc8
  unfold Pv.v at hc8
  simp only at hc8
  have Hc8 := Lib.hid hc8; clear hc8
  go_wp2_with fail
  refine Hc8.out.mono ?_; rintro e w6 ⟨rfl, h1⟩
  have Hb10 := Lib.hid (Hb9.out.trans (h1.mono Hb9.out.size)); clear h1
  go_wp2_with fail
  go_ret
  exact ⟨rfl, Hb10.out⟩
end Go.Proofs.YtnnfpaheglkmoaaDoor
