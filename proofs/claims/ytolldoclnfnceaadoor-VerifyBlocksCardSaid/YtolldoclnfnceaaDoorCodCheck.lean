/-
  Which programs may be: code.Check.
-/
import Derived.Test.YtolldoclnfnceaaDoorCodSmall
set_option linter.unusedVariables false
set_option maxRecDepth 100000
namespace Go.Proofs.YtolldoclnfnceaaDoor
open Go.RowKit

theorem may_iff (ts : List ByteArray) (cs : List Cod.In) : (prog ts cs).May ↔ ts.length ≤ 16 ∧ cs.length ≤ 256 ∧ (∀ j, j < ts.length → (ts.getD j .empty).size ≤ 64) ∧ ∀ j, j < cs.length → Cod.ins (cs.getD j (0, 0)) = true := by
  unfold prog Cod.Pr.May
  simp only [lists_length]
  constructor
  · rintro ⟨h1, h2, h3, h4⟩
    refine ⟨h1, h3, fun j hj => ?_, fun j hj => ?_⟩
    · have := h2 (ts.getD j .empty).data.toList (by
        rw [List.getD_eq_getElem?_getD, List.getElem?_eq_getElem hj]
        exact List.mem_map.2 ⟨_, List.getElem_mem hj, rfl⟩)
      rwa [ba_len] at this
    · rw [List.getD_eq_getElem?_getD, List.getElem?_eq_getElem hj]
      exact h4 _ (List.getElem_mem hj)
  · rintro ⟨h1, h3, h2, h4⟩
    refine ⟨h1, fun t ht => ?_, h3, fun x hx => ?_⟩
    · obtain ⟨y, hy, rfl⟩ := List.mem_map.1 ht
      obtain ⟨j, hj, rfl⟩ := List.getElem_of_mem hy
      have := h2 j hj
      rw [List.getD_eq_getElem?_getD, List.getElem?_eq_getElem hj] at this
      rw [ba_len]
      exact this
    · obtain ⟨j, hj, rfl⟩ := List.getElem_of_mem hx
      have := h4 j hj
      rwa [List.getD_eq_getElem?_getD, List.getElem?_eq_getElem hj] at this
/-- what Check answers -/
def chk (ts : List ByteArray) (cs : List Cod.In) : Int := if (prog ts cs).May then 0 else 2
theorem chk_yes {ts : List ByteArray} {cs : List Cod.In} (h : (prog ts cs).May) : chk ts cs = 0 := if_pos h
theorem chk_no {ts : List ByteArray} {cs : List Cod.In} (h : ¬ (prog ts cs).May) : chk ts cs = 2 := if_neg h

set_option maxHeartbeats 2000000 in
theorem check_any {x : Pv} {ts : List ByteArray} {cs : List Cod.In} {w : World} (h : PrAt x ts cs w) (hn : x.n ≤ 140737488355328) (hm : x.m ≤ 140737488355328) :
    Calls Tryd.prog 24 #[x.v] w fun e w' => e = .returned (.int .i64 (chk ts cs)) ∧ Below w.heap.size w w' := by
  obtain ⟨R, hR⟩ : ∃ R, R = chk ts cs := ⟨_, rfl⟩
  rw [← hR]
  have hM := may_iff ts cs
  have ht := h.t
  have hi := h.i
  rw [h.n, h.m] at hM
  clear h
  obtain ⟨xa, xn, xc, xb, xm, xd⟩ := x
  simp only at hn hm ht hi hM
  unfold Pv.v
  have hb := obj_below w (.cells #[.slice xa xn xc, .slice xb xm xd] 25)
  have HR := Lib.hid hR; clear hR
  have HM := Lib.hid hM; clear hM
  have Ht := Lib.hid ht; clear ht
  have Hi := Lib.hid hi; clear hi
  have Hb := Lib.hid hb; clear hb
  by_cases g1 : 16 < xn
  · have d1 : decide ((16 : Int) < (xn : Int)) = true := decide_eq_true (by omega)
    have hr : R = 2 := by rw [HR.out]; exact chk_no (fun c => by have := (HM.out.1 c).1; omega)
    subst hr
    clear g1
    go_enter Tryd.func24, Tryd.ntmps24
    go_wp2_with fail
    go_ret
    exact ⟨rfl, Hb.out⟩
  · have d1 : decide ((16 : Int) < (xn : Int)) = false := decide_eq_false (by omega)
    by_cases g2 : 256 < xm
    · have d2 : decide ((256 : Int) < (xm : Int)) = true := decide_eq_true (by omega)
      have hr : R = 2 := by rw [HR.out]; exact chk_no (fun c => by have := (HM.out.1 c).2.1; omega)
      subst hr
      clear g1 g2
      go_enter Tryd.func24, Tryd.ntmps24
      go_wp2_with fail
      go_ret
      exact ⟨rfl, Hb.out⟩
    · have d2 : decide ((256 : Int) < (xm : Int)) = false := decide_eq_false (by omega)
      have G1 := Lib.hid g1; clear g1
      have G2 := Lib.hid g2; clear g2
      go_enter Tryd.func24, Tryd.ntmps24
      go_wp2_with fail
      go_loopw [20] (fun i wr => ∃ k : Nat, k ≤ xn ∧ i = .int .i64 (k : Int) ∧ (∀ j, j < k → (ts.getD j .empty).size ≤ 64) ∧ wr = w.alloc (.cells #[.slice xa xn xc, .slice xb xm xd] 25)) (fun i _ => xn - (intOf i).toNat)
      case atStart => exact ⟨0, Nat.zero_le _, rfl, fun j hj => by omega, rfl⟩
      case round =>
        obtain ⟨k, hk, rfl, hz, rfl⟩ := hrel
        have Hz := Lib.hid hz; clear hz
        by_cases hlt : k < xn
        · have hlt2 : (k : Int) < (xn : Int) := by omega
          obtain ⟨b, off, rfl, c1⟩ := (Ht.out.keep Hb.out).2 k hlt
          obtain ⟨y, hy⟩ : ∃ y, y = ts.getD k .empty := ⟨_, rfl⟩
          rw [← hy] at c1
          by_cases g3 : 64 < y.size
          · have d3 : decide ((64 : Int) < (y.size : Int)) = true := decide_eq_true (by omega)
            have hr : R = 2 := by rw [HR.out]; exact chk_no (fun c => by have := (HM.out.1 c).2.2.1 k hlt; rw [← hy] at this; omega)
            subst hr
            clear g3 hy
            go_wp2_with fail
            go_ret
            exact ⟨rfl, Hb.out⟩
          · have d3 : decide ((64 : Int) < (y.size : Int)) = false := decide_eq_false (by omega)
            have G3 := Lib.hid g3; clear g3
            have Hy := Lib.hid hy; clear hy
            go_wp2_with fail
            go_roundw
            case rel => exact ⟨k + 1, by omega, by go_num, fun j hj => by
              by_cases e : j = k
              · subst e; rw [← Hy.out]; exact Nat.le_of_not_lt G3.out
              · exact Hz.out j (by omega), trivial⟩
            case measure => simp [intOf]; omega
        · obtain rfl : k = xn := by omega
          have hlt2 : ¬ (k : Int) < (k : Int) := by omega
          have Hk := Lib.hid hk; clear hk hlt
          go_wp2_with fail
          go_loopw [31] (fun i wr => ∃ j : Nat, j ≤ xm ∧ i = .int .i64 (j : Int) ∧ (∀ t, t < j → Cod.ins (cs.getD t (0, 0)) = true) ∧ Below w.heap.size w wr) (fun i _ => xm - (intOf i).toNat)
          case atStart => exact ⟨0, Nat.zero_le _, rfl, fun j hj => by omega, Hb.out⟩
          case round =>
            obtain ⟨j, hj, rfl, hzi, hbw⟩ := hrel
            have Hzi := Lib.hid hzi; clear hzi
            have Hbw := Lib.hid hbw; clear hbw
            by_cases hlj : j < xm
            · have hlj2 : (j : Int) < (xm : Int) := by omega
              obtain ⟨b, off, rfl, c1, c2⟩ := (Hi.out.keep Hbw.out).2 j hlj
              obtain ⟨y, hy⟩ : ∃ y, y = cs.getD j (0, 0) := ⟨_, rfl⟩
              rw [← hy] at c1 c2
              have hv := fun u => valid_any y u
              unfold insV at hv
              have Hy := Lib.hid hy; clear hy
              cases hins : Cod.ins y with
              | true =>
                rw [hins] at hv
                have HV := Lib.hid hv; clear hv
                have Hins := Lib.hid hins; clear hins
                have hbx := obj_below wr (.cells #[.int .u8 (y.1.toNat : Int), .int .u8 (y.2.toNat : Int)] 48)
                have Hbx := Lib.hid (Hbw.out.trans (hbx.mono Hbw.out.size)); clear hbx
                go_wp2_with fail
                refine (HV.out _).mono ?_; rintro e w2 ⟨rfl, h2⟩
                have Hb2 := Lib.hid (Hbx.out.trans (h2.mono Hbx.out.size)); clear h2
                go_wp2_with fail
                go_roundw
                case rel => exact ⟨j + 1, by omega, by go_num, fun t ht => by
                  by_cases e : t = j
                  · subst e; rw [← Hy.out]; exact Hins.out
                  · exact Hzi.out t (by omega), Hb2.out⟩
                case measure => simp [intOf]; omega
              | false =>
                rw [hins] at hv
                have HV := Lib.hid hv; clear hv
                have hr : R = 2 := by rw [HR.out]; exact chk_no (fun c => by have := (HM.out.1 c).2.2.2 j hlj; rw [← Hy.out, hins] at this; cases this)
                subst hr
                clear hins
                have hbx := obj_below wr (.cells #[.int .u8 (y.1.toNat : Int), .int .u8 (y.2.toNat : Int)] 48)
                have Hbx := Lib.hid (Hbw.out.trans (hbx.mono Hbw.out.size)); clear hbx
                go_wp2_with fail
                refine (HV.out _).mono ?_; rintro e w2 ⟨rfl, h2⟩
                have Hb2 := Lib.hid (Hbx.out.trans (h2.mono Hbx.out.size)); clear h2
                go_wp2_with fail
                go_ret
                exact ⟨rfl, Hb2.out⟩
            · obtain rfl : j = xm := by omega
              have hlj2 : ¬ (j : Int) < (j : Int) := by omega
              have hr : R = 0 := by rw [HR.out]; exact chk_yes (HM.out.2 ⟨Nat.le_of_not_lt G1.out, Nat.le_of_not_lt G2.out, Hz.out, Hzi.out⟩)
              subst hr
              go_wp2_with fail
              go_ret
              exact ⟨rfl, Hbw.out⟩
end Go.Proofs.YtolldoclnfnceaaDoor
