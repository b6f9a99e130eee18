/-
  Whether the top kinds are those that an instruction pops; which it pushes.
-/
import Derived.Test.YtolldoclnfnceaaDoorVerEff
set_option linter.unusedVariables false
set_option maxRecDepth 100000
namespace Go.Proofs.YtolldoclnfnceaaDoor
open Go.RowKit

namespace Ver
def fitL (c d : UInt8) : Bool := !((c == 78 || c == 84) && c != d)
theorem fitsP_get (p top : List UInt8) (h : top.length = p.length) : fitsP p top = true ↔ ∀ j, j < top.length → fitL (p.getD j 0) (top.getD j 0) = true := by
  unfold fitsP
  rw [List.all_eq_true]
  constructor
  · intro hh j hj
    have := hh (p[j], top[j]) (by
      rw [← List.getElem_zip (h := by simp; omega)]
      exact List.getElem_mem _)
    rw [List.getD_eq_getElem?_getD, List.getD_eq_getElem?_getD, List.getElem?_eq_getElem (by omega), List.getElem?_eq_getElem hj]
    exact this
  · intro hh x hx
    obtain ⟨j, hj, rfl⟩ := List.getElem_of_mem hx
    rw [List.length_zip] at hj
    have := hh j (by omega)
    rw [List.getD_eq_getElem?_getD, List.getD_eq_getElem?_getD, List.getElem?_eq_getElem (by omega), List.getElem?_eq_getElem (by omega)] at this
    rw [List.getElem_zip]
    exact this
theorem fitL_nat {c d : UInt8} {C D : Nat} (h : c.toNat = C) (k : d.toNat = D) : fitL c d = !((decide (C = 78) || decide (C = 84)) && decide (C ≠ D)) := by
  have e : ∀ x y : UInt8, (x == y) = decide (x.toNat = y.toNat) := fun x y => by
    rw [Bool.eq_iff_iff, beq_iff_eq, decide_eq_true_iff]
    exact ⟨fun h => by rw [h], fun h => UInt8.toNat_inj.1 h⟩
  unfold fitL
  rw [bne, e, e, e, h, k]
  simp only [decide_not]
  rfl
end Ver

set_option maxHeartbeats 2000000 in
theorem fits_any (p q top : List UInt8) (hl : top.length = p.length) (hp : p.length ≤ 3) (w : World) : Calls Tryd.prog 37 #[.agg #[.string (Ver.kb p), .string (Ver.kb q)], .string (Ver.kb top)] w fun e w' =>
    e = .returned (.bool (Ver.fitsP p top)) ∧ Below w.heap.size w w' := by
  have hG := Ver.fitsP_get p top hl
  obtain ⟨R, hR⟩ : ∃ R, R = Ver.fitsP p top := ⟨_, rfl⟩
  rw [← hR] at hG ⊢
  clear hR
  obtain ⟨P, hP⟩ : ∃ P, P = Ver.kb p := ⟨_, rfl⟩
  obtain ⟨T, hT⟩ : ∃ T, T = Ver.kb top := ⟨_, rfl⟩
  rw [← hP, ← hT]
  have zP : P.size = p.length := by rw [hP]; exact Ver.kb_size p
  have zT : T.size = top.length := by rw [hT]; exact Ver.kb_size top
  have gP : ∀ j (h : j < P.size), P[j] = p.getD j 0 := fun j h => by subst hP; rw [← ba_get _ j h (by rw [ba_len]; exact h), List.getD_eq_getElem?_getD, List.getElem?_eq_getElem (show j < p.length by omega)]; rfl
  have gT : ∀ j (h : j < T.size), T[j] = top.getD j 0 := fun j h => by subst hT; rw [← ba_get _ j h (by rw [ba_len]; exact h), List.getD_eq_getElem?_getD, List.getElem?_eq_getElem (show j < top.length by omega)]; rfl
  clear hP hT
  have hT3 : T.size ≤ 3 := by omega
  have HG := Lib.hid hG; clear hG
  have GP := Lib.hid gP; clear gP
  have GT := Lib.hid gT; clear gT
  have ZP := Lib.hid zP; clear zP
  have ZT := Lib.hid zT; clear zT
  have Hb := Lib.hid (obj_below w (.cells #[.string P, .string (Ver.kb q)] 74))
  go_enter Tryd.func37, Tryd.ntmps37
  go_wp2_with fail
  go_loopw [9] (fun i wr => ∃ k : Nat, k ≤ T.size ∧ i = .int .i64 (k : Int) ∧ (∀ j, j < k → Ver.fitL (p.getD j 0) (top.getD j 0) = true) ∧ wr = w.alloc (.cells #[.string P, .string (Ver.kb q)] 74)) (fun i _ => T.size - (intOf i).toNat)
  case atStart => exact ⟨0, Nat.zero_le _, rfl, fun j hj => by omega, rfl⟩
  case round =>
    obtain ⟨k, hk, rfl, hz, rfl⟩ := hrel
    have Hz := Lib.hid hz; clear hz
    by_cases hlt : k < T.size
    · have hlt2 : (k : Int) < (T.size : Int) := by omega
      have hPk : k < P.size := by have := ZP.out; have := ZT.out; omega
      have g1 := GP.out k hPk
      have g2 := GT.out k hlt
      obtain ⟨C, hC⟩ : ∃ C, P[k].toNat = C := ⟨_, rfl⟩
      obtain ⟨D, hD⟩ : ∃ D, T[k].toNat = D := ⟨_, rfl⟩
      have hF : Ver.fitL (p.getD k 0) (top.getD k 0) = !((decide (C = 78) || decide (C = 84)) && decide (C ≠ D)) := by
        rw [← g1, ← g2]
        exact Ver.fitL_nat hC hD
      clear g1 g2
      have yes : Ver.fitL (p.getD k 0) (top.getD k 0) = true → ∀ j, j < k + 1 → Ver.fitL (p.getD j 0) (top.getD j 0) = true := fun h j hj => by
        by_cases e : j = k
        · subst e; exact h
        · exact Hz.out j (by omega)
      have no : Ver.fitL (p.getD k 0) (top.getD k 0) = false → R = false := fun h => by
        cases hr : R with
        | false => rfl
        | true =>
          have := HG.out.1 hr k (by have := ZT.out; omega)
          rw [h] at this; cases this
      rw [hF] at yes no
      clear hF
      have Yes := Lib.hid yes; clear yes
      have No := Lib.hid no; clear no
      by_cases e1 : C = 78
      · subst e1
        by_cases e2 : D = 78
        · subst e2
          go_wp2_with fail
          go_roundw
          case rel => exact ⟨k + 1, by omega, by go_num, Yes.out (by decide), by first | rfl | trivial⟩
          case measure => simp [intOf]; omega
        · have hr : R = false := No.out (by simp [Ne.symm e2])
          subst hr
          have d1 : ((78 : Int) != (D : Int)) = true := bne_iff_ne.2 (by omega)
          go_wp2_with fail
          go_ret
          exact ⟨rfl, Hb.out⟩
      by_cases e3 : C = 84
      · subst e3
        by_cases e2 : D = 84
        · subst e2
          go_wp2_with fail
          go_roundw
          case rel => exact ⟨k + 1, by omega, by go_num, Yes.out (by decide), by first | rfl | trivial⟩
          case measure => simp [intOf]; omega
        · have hr : R = false := No.out (by simp [Ne.symm e2])
          subst hr
          have d1 : ((84 : Int) != (D : Int)) = true := bne_iff_ne.2 (by omega)
          go_wp2_with fail
          go_ret
          exact ⟨rfl, Hb.out⟩
      · have hy := Yes.out (by simp [e1, e3])
        have Hy := Lib.hid hy; clear hy
        have d1 : ((C : Int) == 78) = false := beq_eq_false_iff_ne.2 (by omega)
        have d2 : ((C : Int) == 84) = false := beq_eq_false_iff_ne.2 (by omega)
        go_wp2_with fail
        go_roundw
        case rel => exact ⟨k + 1, by omega, by go_num, Hy.out, by first | rfl | trivial⟩
        case measure => simp [intOf]; omega
    · have hle : ¬ (k : Int) < (T.size : Int) := by omega
      have hr : R = true := HG.out.2 fun j hj => Hz.out j (by have := ZT.out; omega)
      subst hr
      go_wp2_with fail
      go_ret
      exact ⟨rfl, Hb.out⟩
end Go.Proofs.YtolldoclnfnceaaDoor
