/-
  The document's log: an error of the disk is kept.
-/
import Derived.Test.YtjmpagbjkehebaaGreatRwMem
set_option linter.unusedVariables false
namespace Go.Proofs.YtjmpagbjkehebaaGreat
open Go.RowKit

theorem rw_ty1 : 120 ≠ 23 := by decide
theorem rw_ty2 : 120 ≠ 9 := by decide
variable {R : Nat → Prop} {p q : Nat} {s : Wal.St} {w : World} {v : Value}
theorem RwIn.set6 (h : RwIn R p q s w v) (e : Int) : RwIn R p q { s with err := e } (w.setCell ⟨p, 6, none⟩ (.int .i64 e)) v :=
  ⟨h.hp, by rw [heap_setCell_same w p 6 _ _ _ h.row]; rfl, h.rows.beside h.row rw_ty1 rw_ty2 ((Turns.refl (fun k => k = p) w).set p 6 _ (fun _ => rfl))⟩

theorem refFall_any (h : RwAt R p q s w) (e : Int) : Calls Tryz.prog 132 #[.pointer (some ⟨p, 0, none⟩), .int .i64 e] w fun x w' => x = .returned (.int .i64 e) ∧ Turns (fun k => k = p) w w' ∧ RwAt R p q (if e = 0 then s else { s with err := e }) w' := by
  obtain ⟨v, h⟩ := h
  have fr := h.free 6
  have c6 := h.c6
  have hset := h.set6 e
  have htu : Turns (fun k => k = p) w (w.setCell ⟨p, 6, none⟩ (.int .i64 e)) := (Turns.refl (fun k => k = p) w).set p 6 _ (fun _ => rfl)
  have H := Lib.hid h; clear h
  have HS := Lib.hid hset; clear hset
  have HT := Lib.hid htu; clear htu
  by_cases h0 : e = 0
  · subst h0
    rw [if_pos rfl]
    go_enter Tryz.func132, Tryz.ntmps132
    go_wp2_with fail
    go_ret
    exact ⟨rfl, Turns.refl _ _, v, H.out⟩
  · rw [if_neg h0]
    have hx : (e != 0) = true := by rw [bne_iff_ne]; exact h0
    clear h0
    go_enter Tryz.func132, Tryz.ntmps132
    go_wp2_with fail
    go_ret
    exact ⟨rfl, HT.out, v, HS.out⟩
end Go.Proofs.YtjmpagbjkehebaaGreat
