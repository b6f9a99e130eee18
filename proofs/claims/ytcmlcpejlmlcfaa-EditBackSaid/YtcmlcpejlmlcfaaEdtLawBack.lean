/-
  EditBack: the edit of two texts, done to the first one, is the second one, and no lesser one is; Back brings back: for any two texts, any edit.
  Conditions: none.
-/
import Derived.Test.YtcmlcpejlmlcfaaEdtAlive
import Derived.Test.YtcmlcpejlmlcfaaEdtArg
import Derived.BigQuiet
import Derived.StillTailTactics
import Derived.ProofKit
import Derived.OpenShut
import Derived.ShutString
import Derived.ChangeOld
import Derived.SizedLaws
namespace Go.Proofs.Ytcmlcpejlmlcfaa.editBack
open Go.ChangeShapes Go.WideShapes Go.ChangeAt Go.RowKit
open Go.ChangeMaps (open_string shut_string)
set_option linter.unusedVariables false
set_option maxRecDepth 100000

theorem own : ownKnob Try.prog.godebug = none := by kernel_rfl
theorem laidOut : laidOutB Try.prog = true := by kernel_rfl
theorem nothing (s : ByteArray) (h : s.size = 0) : s = ⟨#[]⟩ := by
  obtain ⟨a⟩ := s
  rw [Array.eq_empty_of_size_eq_zero (show a.size = 0 from h)]

/-- what the edit of two texts is -/
structure OfF (a b : ByteArray) (P CU : Nat) (PU : ByteArray) : Prop where
  is : ofB a b = ⟨(P : Int), (CU : Int), PU⟩
  on : (⟨(P : Int), (CU : Int), PU⟩ : Ed).on a = b
  le : P + CU ≤ a.size
  ps : PU.size ≤ b.size
  head : 0 < CU → 0 < PU.size → (a.data.toList.getD P 0).toNat ≠ (PU.data.toList.getD 0 0).toNat
  last : 0 < CU → 0 < PU.size → (a.data.toList.getD (P + CU - 1) 0).toNat ≠ (PU.data.toList.getD (PU.size - 1) 0).toNat
theorem ofF (a b : ByteArray) : ∃ P CU PU, OfF a b P CU PU := by
  have hp := Edt.pre_le (0 : UInt8) a.data.toList b.data.toList
  have hs := Edt.suf_le (0 : UInt8) a.data.toList b.data.toList _ hp
  have hstop := Edt.pre_stop (d := (0 : UInt8)) (a := a.data.toList) (b := b.data.toList)
  have hend := Edt.suf_stop (d := (0 : UInt8)) (a := a.data.toList) (b := b.data.toList) (n := Edt.pre 0 a.data.toList b.data.toList)
  have hon := ofB_on a b
  have hof : ofB a b = ⟨(Edt.pre 0 a.data.toList b.data.toList : Nat), ((a.size - Edt.suf 0 a.data.toList b.data.toList (Edt.pre 0 a.data.toList b.data.toList) - Edt.pre 0 a.data.toList b.data.toList : Nat) : Int), b.extract (Edt.pre 0 a.data.toList b.data.toList) (b.size - Edt.suf 0 a.data.toList b.data.toList (Edt.pre 0 a.data.toList b.data.toList))⟩ := rfl
  rw [hof] at hon
  rw [ba_len, ba_len] at *
  generalize Edt.pre 0 a.data.toList b.data.toList = P at *
  generalize Edt.suf 0 a.data.toList b.data.toList P = Q at *
  have hz : (b.extract P (b.size - Q)).size = b.size - Q - P := by rw [ByteArray.size_extract]; omega
  have hget : ∀ j, j < b.size - Q - P → (b.extract P (b.size - Q)).data.toList.getD j 0 = b.data.toList.getD (P + j) 0 := fun j hj => by
    rw [ba_part, List.getD_eq_getElem?_getD, List.getD_eq_getElem?_getD, List.getElem?_take_of_lt hj, List.getElem?_drop]
  refine ⟨P, a.size - Q - P, b.extract P (b.size - Q), hof, hon, by omega, by omega, fun h1 h2 e => ?_, fun h1 h2 e => ?_⟩
  · rw [hget 0 (by omega)] at e
    exact hstop (by omega) (by omega) (UInt8.toNat_inj.1 e)
  · rw [hz, hget _ (by omega)] at e
    have e1 : P + (a.size - Q - P) - 1 = a.size - 1 - Q := by omega
    have e2 : P + (b.size - Q - P - 1) = b.size - 1 - Q := by omega
    rw [e1, e2] at e
    exact hend (by omega) (by omega) (UInt8.toNat_inj.1 e)

set_option maxHeartbeats 4000000 in
theorem walk (a b : ByteArray) (e : Ed) (w : World) (za : a.size ≤ 140737488351232) (zb : b.size ≤ 140737488351232) (hw : e.Wf) (zp : e.p.size ≤ 140737488351232) :
    Calls Try.prog 4 #[.string a, .string b, e.v] w fun x w' => x = .returned (.bool true) ∧ Below w.heap.size w w' := by
  have hbw := box_below w (.cells #[.int .i64 e.a, .int .i64 e.c, .string e.p] 23)
  have hex := EdAt.box e w
  have e2 := hex.c2
  have Hb0 := Lib.hid hbw; clear hbw
  by_cases hl : 4000 < a.size + b.size + e.p.size
  · have hd : decide ((4000 : Int) < (a.size : Int) + (b.size : Int) + (e.p.size : Int)) = true := decide_eq_true (by omega)
    have hw1 : IntKind.i64.wrap ((a.size : Int) + (b.size : Int)) = (a.size : Int) + (b.size : Int) := by simp only [IntKind.wrap_i64]; omega
    have hw2 : IntKind.i64.wrap ((a.size : Int) + (b.size : Int) + (e.p.size : Int)) = (a.size : Int) + (b.size : Int) + (e.p.size : Int) := by simp only [IntKind.wrap_i64]; omega
    have HB := Lib.hid Hb0.out
    unfold Ed.v
    clear hex
    go_enter Try.func4, Try.ntmps4
    go_wp2_with fail
    refine (edtAlive_any _).mono ?_; rintro e wz ⟨rfl, hz⟩
    have Hbz := Lib.hid (HB.out.trans (hz.mono HB.out.size)); clear hz
    go_wp2_with fail
    go_ret
    exact ⟨rfl, Hbz.out⟩
  have hd : decide ((4000 : Int) < (a.size : Int) + (b.size : Int) + (e.p.size : Int)) = false := decide_eq_false (by omega)
  have hw1 : IntKind.i64.wrap ((a.size : Int) + (b.size : Int)) = (a.size : Int) + (b.size : Int) := by simp only [IntKind.wrap_i64]; omega
  have hw2 : IntKind.i64.wrap ((a.size : Int) + (b.size : Int) + (e.p.size : Int)) = (a.size : Int) + (b.size : Int) + (e.p.size : Int) := by simp only [IntKind.wrap_i64]; omega
  obtain ⟨P, CU, PU, hF⟩ := ofF a b
  have c1 := fun u => of_any a b (by omega) (by omega) u
  have c2 := fun u => apply_any a (by omega) ⟨(P : Int), (CU : Int), PU⟩ (by have := hF.le; exact ⟨⟨by simp only; omega, by simp only; omega⟩, by simp only; omega, by simp only; omega⟩) (by have := hF.ps; simp only; omega) u
  have hmx : (⟨(P : Int), (CU : Int), PU⟩ : Ed).May a.size := ⟨by simp only; omega, by simp only; omega, by have := hF.le; simp only; omega⟩
  rw [hF.is] at c1
  simp only [if_pos hmx, hF.on] at c2
  have c3 := fun u => apply_any a (by omega) e hw (by omega) u
  have c4 := fun u => back_any a (by omega) e hw (by omega) u
  have hPC := hF.le
  have hPb := hF.ps
  have hhead := hF.head
  have hlast := hF.last
  clear hmx hF
  -- the first half: the edit of both
  have n1 : decide ((P : Int) < 0) = false := decide_eq_false (by omega)
  have n2 : decide ((CU : Int) < 0) = false := decide_eq_false (by omega)
  have n3 : decide ((a.size : Int) < (P : Int)) = false := decide_eq_false (by omega)
  have n4 : decide ((a.size : Int) - (P : Int) < (CU : Int)) = false := decide_eq_false (by omega)
  have n5 : IntKind.i64.wrap ((a.size : Int) - (P : Int)) = (a.size : Int) - (P : Int) := by simp only [IntKind.wrap_i64]; omega
  have C1 := Lib.hid c1; clear c1
  have C2 := Lib.hid c2; clear c2
  have C3 := Lib.hid c3; clear c3
  have C4 := Lib.hid c4; clear c4
  have Hex := Lib.hid hex; clear hex
  unfold Ed.v at *
  simp only at C1 C2
  go_enter Try.func4, Try.ntmps4
  go_wp2_with fail
  refine (C1.out _).mono ?_; rintro x w1 ⟨rfl, h1⟩
  have hex1 := Hex.out.new h1
  have hb1 := Hb0.out.trans (h1.mono Hb0.out.size)
  have hex2 := hex1.new (box_below w1 (.cells #[.int .i64 (P : Int), .int .i64 (CU : Int), .string PU] 23))
  have hb2 := hb1.trans ((box_below w1 (.cells #[.int .i64 (P : Int), .int .i64 (CU : Int), .string PU] 23)).mono hb1.size)
  have hx2 := EdAt.box (⟨(P : Int), (CU : Int), PU⟩ : Ed) w1
  simp only at hx2
  have Hex2 := Lib.hid hex2; clear hex2 hex1
  have Hb2 := Lib.hid hb2; clear hb2 hb1 h1
  have Hx2 := Lib.hid hx2; clear hx2
  clear e2
  go_wp2_with fail
  refine (C2.out _).mono ?_; rintro x w3 ⟨rfl, h3⟩
  have hex3 := Hex2.out.new h3
  have hb3 := Hb2.out.trans (h3.mono Hb2.out.size)
  have hx3 := Hx2.out.new h3
  have x0 := hx3.c0
  have x1 := hx3.c1
  have x2 := hx3.c2
  simp only at x0 x1 x2
  have e0 := hex3.c0
  have e1 := hex3.c1
  have e2 := hex3.c2
  have Hex3 := Lib.hid hex3; clear hex3
  have Hb3 := Lib.hid hb3; clear hb3 h3
  clear hx3
  go_wp2_with fail
  by_cases hm : e.May a.size
  · rcases (by omega : (¬ 0 < CU) ∨ (0 < CU ∧ PU.size = 0) ∨ (0 < CU ∧ 0 < PU.size)) with hcu | ⟨hcu, hpu⟩ | ⟨hcu, hpu⟩
    · have g0 : decide (0 < CU) = false := decide_eq_false hcu
      have g1 : ((0 : Int) < (CU : Int)) = False := by simp; omega
      clear hhead hlast
      go_quiet (fail)
      have c3 := C3.out
      have c4 := C4.out
      simp only [if_pos hm] at c3 c4
      have bm := Ed.back_may hm
      have bo := Ed.back_on hm
      have bsz := Ed.on_size hm
      have c5 := fun u => apply_any (e.on a) (by omega) (e.back a) (by unfold Ed.back; exact ⟨hw.1, by simp only; omega, by simp only; omega⟩) (by unfold Ed.back; simp only; rw [ByteArray.size_extract]; omega) u
      simp only [if_pos bm, bo] at c5
      unfold Ed.v at c5
      generalize e.on a = T at *
      generalize e.back a = EE at *
      obtain ⟨ba, bc, bp⟩ := EE
      simp only at c4 c5
      have D3 := Lib.hid c3; clear c3
      have D4 := Lib.hid c4; clear c4
      have D5 := Lib.hid c5; clear c5
      clear C3 C4 bm bo bsz
      go_wp2_with fail
      refine (D3.out _).mono ?_; rintro x w5 ⟨rfl, h5⟩
      have hex4 : EdAt w.heap.size e (w3.drewN nq) := Hex3.out
      have hex5 := hex4.new h5
      have hb5 := (drewN_below Hb3.out nq).trans (h5.mono (by have := Hb3.out.size; simpa using this))
      clear e0 e1 e2
      have e0 := hex5.c0
      have e1 := hex5.c1
      have e2 := hex5.c2
      have Hex5 := Lib.hid hex5; clear hex5
      have Hb5 := Lib.hid hb5; clear hb5 h5
      go_wp2_with fail
      refine (D4.out _).mono ?_; rintro x w6 ⟨rfl, h6⟩
      have hb6 := Hb5.out.trans (h6.mono Hb5.out.size)
      have hb7 := hb6.trans ((box_below w6 (.cells #[.int .i64 ba, .int .i64 bc, .string bp] 23)).mono hb6.size)
      have hx7 := EdAt.box (⟨ba, bc, bp⟩ : Ed) w6
      have Hb7 := Lib.hid hb7; clear hb7 hb6 h6
      have Hx7 := Lib.hid hx7; clear hx7
      clear e0 e1 e2
      go_wp2_with fail
      refine (D5.out _).mono ?_; rintro x w8 ⟨rfl, h8⟩
      have hb8 := Hb7.out.trans (h8.mono Hb7.out.size)
      have HB := Lib.hid hb8; clear hb8 h8
      go_wp2_with fail
      refine (edtAlive_any _).mono ?_; rintro e wz ⟨rfl, hz⟩
      have Hbz := Lib.hid (HB.out.trans (hz.mono HB.out.size)); clear hz
      go_wp2_with fail
      go_ret
      exact ⟨rfl, Hbz.out⟩
    · have g0 : decide (0 < CU) = true := decide_eq_true hcu
      have hPU := nothing PU hpu
      subst hPU
      clear hhead hlast
      go_quiet (fail)
      have c3 := C3.out
      have c4 := C4.out
      simp only [if_pos hm] at c3 c4
      have bm := Ed.back_may hm
      have bo := Ed.back_on hm
      have bsz := Ed.on_size hm
      have c5 := fun u => apply_any (e.on a) (by omega) (e.back a) (by unfold Ed.back; exact ⟨hw.1, by simp only; omega, by simp only; omega⟩) (by unfold Ed.back; simp only; rw [ByteArray.size_extract]; omega) u
      simp only [if_pos bm, bo] at c5
      unfold Ed.v at c5
      generalize e.on a = T at *
      generalize e.back a = EE at *
      obtain ⟨ba, bc, bp⟩ := EE
      simp only at c4 c5
      have D3 := Lib.hid c3; clear c3
      have D4 := Lib.hid c4; clear c4
      have D5 := Lib.hid c5; clear c5
      clear C3 C4 bm bo bsz
      go_wp2_with fail
      refine (D3.out _).mono ?_; rintro x w5 ⟨rfl, h5⟩
      have hex4 : EdAt w.heap.size e (w3.drewN nq) := Hex3.out
      have hex5 := hex4.new h5
      have hb5 := (drewN_below Hb3.out nq).trans (h5.mono (by have := Hb3.out.size; simpa using this))
      clear e0 e1 e2
      have e0 := hex5.c0
      have e1 := hex5.c1
      have e2 := hex5.c2
      have Hex5 := Lib.hid hex5; clear hex5
      have Hb5 := Lib.hid hb5; clear hb5 h5
      go_wp2_with fail
      refine (D4.out _).mono ?_; rintro x w6 ⟨rfl, h6⟩
      have hb6 := Hb5.out.trans (h6.mono Hb5.out.size)
      have hb7 := hb6.trans ((box_below w6 (.cells #[.int .i64 ba, .int .i64 bc, .string bp] 23)).mono hb6.size)
      have hx7 := EdAt.box (⟨ba, bc, bp⟩ : Ed) w6
      have Hb7 := Lib.hid hb7; clear hb7 hb6 h6
      have Hx7 := Lib.hid hx7; clear hx7
      clear e0 e1 e2
      go_wp2_with fail
      refine (D5.out _).mono ?_; rintro x w8 ⟨rfl, h8⟩
      have hb8 := Hb7.out.trans (h8.mono Hb7.out.size)
      have HB := Lib.hid hb8; clear hb8 h8
      go_wp2_with fail
      refine (edtAlive_any _).mono ?_; rintro e wz ⟨rfl, hz⟩
      have Hbz := Lib.hid (HB.out.trans (hz.mono HB.out.size)); clear hz
      go_wp2_with fail
      go_ret
      exact ⟨rfl, Hbz.out⟩
    · have g0 : decide (0 < CU) = true := decide_eq_true hcu
      have g1 : PU.toList.isEmpty = false := by
        cases h : PU.toList with
        | nil =>
          rw [ByteArray.toList_eq] at h
          have := ba_len PU
          rw [h] at this
          simp at this
          omega
        | cons => rfl
      have hh := hhead hcu (by omega)
      have hl2 := hlast hcu (by omega)
      have i1 := fun u => text_index a P (by omega) u
      have i2 := fun u => text_index PU 0 (by omega) u
      have i3 := fun u => text_index a (P + CU - 1) (by omega) u
      have i4 := fun u => text_index PU (PU.size - 1) (by omega) u
      have k2 : ((0 : Nat) : Int) = 0 := rfl
      have k3 : ((P + CU - 1 : Nat) : Int) = (P : Int) + (CU : Int) - 1 := by omega
      have k4 : ((PU.size - 1 : Nat) : Int) = (PU.size : Int) - 1 := by omega
      rw [k2] at i2
      rw [k3] at i3
      rw [k4] at i4
      have v1 : IntKind.i64.wrap ((P : Int) + (CU : Int)) = (P : Int) + (CU : Int) := by simp only [IntKind.wrap_i64]; omega
      have v2 : IntKind.i64.wrap ((P : Int) + (CU : Int) - 1) = (P : Int) + (CU : Int) - 1 := by simp only [IntKind.wrap_i64]; omega
      have v3 : IntKind.i64.wrap ((PU.size : Int) - 1) = (PU.size : Int) - 1 := by simp only [IntKind.wrap_i64]; omega
      generalize (a.data.toList.getD P 0).toNat = y1 at *
      generalize (PU.data.toList.getD 0 0).toNat = y2 at *
      generalize (a.data.toList.getD (P + CU - 1) 0).toNat = y3 at *
      generalize (PU.data.toList.getD (PU.size - 1) 0).toNat = y4 at *
      have q1 : ((y1 : Int) == (y2 : Int)) = false := by simp; omega
      have q2 : ((y3 : Int) == (y4 : Int)) = false := by simp; omega
      have q3 : decide (y1 = y2) = false := decide_eq_false hh
      have q4 : decide (y3 = y4) = false := decide_eq_false hl2
      clear k2 k3 k4 hh hl2
      clear hhead hlast
      go_quiet (fail)
      have c3 := C3.out
      have c4 := C4.out
      simp only [if_pos hm] at c3 c4
      have bm := Ed.back_may hm
      have bo := Ed.back_on hm
      have bsz := Ed.on_size hm
      have c5 := fun u => apply_any (e.on a) (by omega) (e.back a) (by unfold Ed.back; exact ⟨hw.1, by simp only; omega, by simp only; omega⟩) (by unfold Ed.back; simp only; rw [ByteArray.size_extract]; omega) u
      simp only [if_pos bm, bo] at c5
      unfold Ed.v at c5
      generalize e.on a = T at *
      generalize e.back a = EE at *
      obtain ⟨ba, bc, bp⟩ := EE
      simp only at c4 c5
      have D3 := Lib.hid c3; clear c3
      have D4 := Lib.hid c4; clear c4
      have D5 := Lib.hid c5; clear c5
      clear C3 C4 bm bo bsz
      go_wp2_with fail
      refine (D3.out _).mono ?_; rintro x w5 ⟨rfl, h5⟩
      have hex4 : EdAt w.heap.size e (w3.drewN nq) := Hex3.out
      have hex5 := hex4.new h5
      have hb5 := (drewN_below Hb3.out nq).trans (h5.mono (by have := Hb3.out.size; simpa using this))
      clear e0 e1 e2
      have e0 := hex5.c0
      have e1 := hex5.c1
      have e2 := hex5.c2
      have Hex5 := Lib.hid hex5; clear hex5
      have Hb5 := Lib.hid hb5; clear hb5 h5
      go_wp2_with fail
      refine (D4.out _).mono ?_; rintro x w6 ⟨rfl, h6⟩
      have hb6 := Hb5.out.trans (h6.mono Hb5.out.size)
      have hb7 := hb6.trans ((box_below w6 (.cells #[.int .i64 ba, .int .i64 bc, .string bp] 23)).mono hb6.size)
      have hx7 := EdAt.box (⟨ba, bc, bp⟩ : Ed) w6
      have Hb7 := Lib.hid hb7; clear hb7 hb6 h6
      have Hx7 := Lib.hid hx7; clear hx7
      clear e0 e1 e2
      go_wp2_with fail
      refine (D5.out _).mono ?_; rintro x w8 ⟨rfl, h8⟩
      have hb8 := Hb7.out.trans (h8.mono Hb7.out.size)
      have HB := Lib.hid hb8; clear hb8 h8
      go_wp2_with fail
      refine (edtAlive_any _).mono ?_; rintro e wz ⟨rfl, hz⟩
      have Hbz := Lib.hid (HB.out.trans (hz.mono HB.out.size)); clear hz
      go_wp2_with fail
      go_ret
      exact ⟨rfl, Hbz.out⟩
  · rcases (by omega : (¬ 0 < CU) ∨ (0 < CU ∧ PU.size = 0) ∨ (0 < CU ∧ 0 < PU.size)) with hcu | ⟨hcu, hpu⟩ | ⟨hcu, hpu⟩
    · have g0 : decide (0 < CU) = false := decide_eq_false hcu
      have g1 : ((0 : Int) < (CU : Int)) = False := by simp; omega
      clear hhead hlast
      go_quiet (fail)
      have c3 := C3.out
      have c4 := C4.out
      simp only [if_neg hm] at c3 c4
      have D3 := Lib.hid c3; clear c3
      have D4 := Lib.hid c4; clear c4
      clear C3 C4
      go_wp2_with fail
      refine (D3.out _).mono ?_; rintro x w5 ⟨rfl, h5⟩
      have hex4 : EdAt w.heap.size e (w3.drewN nq) := Hex3.out
      have hex5 := hex4.new h5
      have hb5 := (drewN_below Hb3.out nq).trans (h5.mono (by have := Hb3.out.size; simpa using this))
      clear e0 e1 e2
      have e0 := hex5.c0
      have e1 := hex5.c1
      have e2 := hex5.c2
      have Hex5 := Lib.hid hex5; clear hex5
      have Hb5 := Lib.hid hb5; clear hb5 h5
      go_wp2_with fail
      refine (D4.out _).mono ?_; rintro x w6 ⟨rfl, h6⟩
      have hb6 := Hb5.out.trans (h6.mono Hb5.out.size)
      have hb7 := hb6.trans ((box_below w6 (.cells #[.int .i64 Ed.nil.a, .int .i64 Ed.nil.c, .string Ed.nil.p] 23)).mono hb6.size)
      have HB := Lib.hid hb7; clear hb7 hb6 h6
      clear e0 e1 e2
      go_wp2_with fail
      refine (edtAlive_any _).mono ?_; rintro e wz ⟨rfl, hz⟩
      have Hbz := Lib.hid (HB.out.trans (hz.mono HB.out.size)); clear hz
      go_wp2_with fail
      go_ret
      exact ⟨rfl, Hbz.out⟩
    · have g0 : decide (0 < CU) = true := decide_eq_true hcu
      have hPU := nothing PU hpu
      subst hPU
      clear hhead hlast
      go_quiet (fail)
      have c3 := C3.out
      have c4 := C4.out
      simp only [if_neg hm] at c3 c4
      have D3 := Lib.hid c3; clear c3
      have D4 := Lib.hid c4; clear c4
      clear C3 C4
      go_wp2_with fail
      refine (D3.out _).mono ?_; rintro x w5 ⟨rfl, h5⟩
      have hex4 : EdAt w.heap.size e (w3.drewN nq) := Hex3.out
      have hex5 := hex4.new h5
      have hb5 := (drewN_below Hb3.out nq).trans (h5.mono (by have := Hb3.out.size; simpa using this))
      clear e0 e1 e2
      have e0 := hex5.c0
      have e1 := hex5.c1
      have e2 := hex5.c2
      have Hex5 := Lib.hid hex5; clear hex5
      have Hb5 := Lib.hid hb5; clear hb5 h5
      go_wp2_with fail
      refine (D4.out _).mono ?_; rintro x w6 ⟨rfl, h6⟩
      have hb6 := Hb5.out.trans (h6.mono Hb5.out.size)
      have hb7 := hb6.trans ((box_below w6 (.cells #[.int .i64 Ed.nil.a, .int .i64 Ed.nil.c, .string Ed.nil.p] 23)).mono hb6.size)
      have HB := Lib.hid hb7; clear hb7 hb6 h6
      clear e0 e1 e2
      go_wp2_with fail
      refine (edtAlive_any _).mono ?_; rintro e wz ⟨rfl, hz⟩
      have Hbz := Lib.hid (HB.out.trans (hz.mono HB.out.size)); clear hz
      go_wp2_with fail
      go_ret
      exact ⟨rfl, Hbz.out⟩
    · have g0 : decide (0 < CU) = true := decide_eq_true hcu
      have g1 : PU.toList.isEmpty = false := by
        cases h : PU.toList with
        | nil =>
          rw [ByteArray.toList_eq] at h
          have := ba_len PU
          rw [h] at this
          simp at this
          omega
        | cons => rfl
      have hh := hhead hcu (by omega)
      have hl2 := hlast hcu (by omega)
      have i1 := fun u => text_index a P (by omega) u
      have i2 := fun u => text_index PU 0 (by omega) u
      have i3 := fun u => text_index a (P + CU - 1) (by omega) u
      have i4 := fun u => text_index PU (PU.size - 1) (by omega) u
      have k2 : ((0 : Nat) : Int) = 0 := rfl
      have k3 : ((P + CU - 1 : Nat) : Int) = (P : Int) + (CU : Int) - 1 := by omega
      have k4 : ((PU.size - 1 : Nat) : Int) = (PU.size : Int) - 1 := by omega
      rw [k2] at i2
      rw [k3] at i3
      rw [k4] at i4
      have v1 : IntKind.i64.wrap ((P : Int) + (CU : Int)) = (P : Int) + (CU : Int) := by simp only [IntKind.wrap_i64]; omega
      have v2 : IntKind.i64.wrap ((P : Int) + (CU : Int) - 1) = (P : Int) + (CU : Int) - 1 := by simp only [IntKind.wrap_i64]; omega
      have v3 : IntKind.i64.wrap ((PU.size : Int) - 1) = (PU.size : Int) - 1 := by simp only [IntKind.wrap_i64]; omega
      generalize (a.data.toList.getD P 0).toNat = y1 at *
      generalize (PU.data.toList.getD 0 0).toNat = y2 at *
      generalize (a.data.toList.getD (P + CU - 1) 0).toNat = y3 at *
      generalize (PU.data.toList.getD (PU.size - 1) 0).toNat = y4 at *
      have q1 : ((y1 : Int) == (y2 : Int)) = false := by simp; omega
      have q2 : ((y3 : Int) == (y4 : Int)) = false := by simp; omega
      have q3 : decide (y1 = y2) = false := decide_eq_false hh
      have q4 : decide (y3 = y4) = false := decide_eq_false hl2
      clear k2 k3 k4 hh hl2
      clear hhead hlast
      go_quiet (fail)
      have c3 := C3.out
      have c4 := C4.out
      simp only [if_neg hm] at c3 c4
      have D3 := Lib.hid c3; clear c3
      have D4 := Lib.hid c4; clear c4
      clear C3 C4
      go_wp2_with fail
      refine (D3.out _).mono ?_; rintro x w5 ⟨rfl, h5⟩
      have hex4 : EdAt w.heap.size e (w3.drewN nq) := Hex3.out
      have hex5 := hex4.new h5
      have hb5 := (drewN_below Hb3.out nq).trans (h5.mono (by have := Hb3.out.size; simpa using this))
      clear e0 e1 e2
      have e0 := hex5.c0
      have e1 := hex5.c1
      have e2 := hex5.c2
      have Hex5 := Lib.hid hex5; clear hex5
      have Hb5 := Lib.hid hb5; clear hb5 h5
      go_wp2_with fail
      refine (D4.out _).mono ?_; rintro x w6 ⟨rfl, h6⟩
      have hb6 := Hb5.out.trans (h6.mono Hb5.out.size)
      have hb7 := hb6.trans ((box_below w6 (.cells #[.int .i64 Ed.nil.a, .int .i64 Ed.nil.c, .string Ed.nil.p] 23)).mono hb6.size)
      have HB := Lib.hid hb7; clear hb7 hb6 h6
      clear e0 e1 e2
      go_wp2_with fail
      refine (edtAlive_any _).mono ?_; rintro e wz ⟨rfl, hz⟩
      have Hbz := Lib.hid (HB.out.trans (hz.mono HB.out.size)); clear hz
      go_wp2_with fail
      go_ret
      exact ⟨rfl, Hbz.out⟩

theorem contract (H : Type) (enc : TypeId × Value → H) (W : World) (base : Nat) (args : Array Value) (ds gs : List (DataW H)) (before : List MemPlace)
    (hval : ∀ (j : Nat) t v, Try.f4.params[j]? = some t → args[j]? = some v → Value.okWide Try.prog W .any base t v)
    (hW : DataW.Whole enc Try.prog Try.f4.params.toList Rows.editBackSpec.vars false W args.toList ds gs before)
    (hsz : (DataW.weightsEach Try.prog (Try.f4.params.toList ++ Rows.editBackSpec.plain.varTypes Try.prog) (ds ++ gs)).all (· ≤ reachBytes) = true) :
    Calls Try.prog 4 args W fun e W' => ∃ v, e = .returned v ∧ Rows.editBackSpec.post enc Try.prog Try.f4 false true false false W args v W' := by
  have hW' := hW
  obtain ⟨p, q, hA0, hV, rfl, hfz, hnd⟩ := hW
  have hA : DataW.TrodAll enc Try.prog W 0 (fun _ => true) true Try.f4.params.toList args.toList ds p := hA0
  rw [Try.params4] at hA hval hsz
  obtain ⟨v0, vs0, d0, ds0, p0, q0, hargs, rfl, rfl, h0, r0⟩ := trodAll_cons hA
  obtain ⟨v1, vs1, d1, ds1, p1, q1, rfl, rfl, rfl, h1, r1⟩ := trodAll_cons r0
  obtain ⟨v2, vs2, d2, ds2, p2, q2, rfl, rfl, rfl, h2, r2⟩ := trodAll_cons r1
  obtain ⟨rfl, rfl, rfl⟩ := trodAll_nil r2
  obtain rfl : args = #[v0, v1, v2] := Array.ext' hargs
  obtain ⟨rfl, rfl⟩ := trodVars_none hV
  obtain ⟨s0, rfl, rfl, rfl, m0⟩ := open_string Try.underlying9 (hval 0 9 v0 rfl rfl) h0
  obtain ⟨s1, rfl, rfl, rfl, m1⟩ := open_string Try.underlying9 (hval 1 9 v1 rfl rfl) h1
  have k2 := h2
  have lt2 : ∀ x ∈ p2, x.block < W.heap.size := by obtain ⟨m, hm⟩ := k2; exact DataW.trod_lt m _ _ _ hm
  obtain ⟨e2, rfl, we2, ze2⟩ := open_edit Try.underlying23 rfl rfl rfl Try.underlying3 Try.underlying9 (by kernel_rfl) (by kernel_rfl) (hval 2 23 v2 rfl rfl) h2 (fun n hn => by
    have := List.all_eq_true.1 hsz n (by
      simp only [List.cons_append, DataW.weightsEach]
      exact List.mem_append_right _ (List.mem_append_right _ (List.mem_append_left _ hn)))
    simpa using this)
  clear hA0
  have z0 : s0.size ≤ 140737488351232 := by
    have := List.all_eq_true.1 hsz s0.data.toList.length (by simp [DataW.weightsEach, DataW.weights])
    rw [ba_len] at this
    exact of_decide_eq_true this
  have z1 : s1.size ≤ 140737488351232 := by
    have := List.all_eq_true.1 hsz s1.data.toList.length (by simp [DataW.weightsEach, DataW.weights])
    rw [ba_len] at this
    exact of_decide_eq_true this
  refine (walk s0 s1 e2 W z0 z1 we2 ze2).mono fun e W' ⟨he, bel⟩ => ?_
  subst he
  exact ⟨_, rfl, _, _, _, [], _, [], hW', trodAll_mk1 (shut_bool Try.underlying4 _), (trodAll_cons_mk (shut_string Try.underlying9 m0) (trodAll_cons_mk (shut_string Try.underlying9 m1) (trodAll_cons_mk (Below.trod laidOut (by kernel_rfl) (of_decide_eq_true (by kernel_rfl)) k2 bel lt2) trodAll_mk0))), rfl, bel.frame _, fun h => by cases h⟩

set_option maxRecDepth 100000 in
theorem lifted (os : Os) (started : os.Started) (H : Type) (enc : TypeId × Value → H) :
    ReturnsInHanded {} Try.checked os 4 .any (Rows.editBackSpec.pre6 enc Try.prog Try.f4 Rows.editBackRow.domain false) (Rows.editBackSpec.post enc Try.prog Try.f4 false true false false) := by
  refine returnsInHanded_of_change_sized (C := Try.checked) own started (by kernel_rfl) Try.func4
    (ChangeSpec.witness6 (enc := enc) (C := Try.checked) false ⟨#[], #[.string .empty, .string .empty, .agg #[.int .i64 0, .int .i64 0, .string .empty]], []⟩ 8 (by kernel_rfl) (by kernel_rfl) (by kernel_rfl) (by kernel_rfl)) ?_
  intro W base args ds gs before hval hW hcnd hsz _
  exact contract H enc W base args ds gs before hval hW hsz

theorem over : Rows.editBackRow.holds Try.pinned (OpenSpec.ofChange Rows.editBackSpec) :=
  OpenClaim.holds_of_wide 4 Try.f4 rfl rfl rfl rfl rfl rfl rfl ⟨rfl, rfl, rfl, rfl, rfl⟩ rfl rfl rfl rfl rfl (by kernel_rfl) Try.func4 (by kernel_rfl)
    (of_decide_eq_true (by kernel_rfl)) (by unfold Func.isWrapper; first | (rw [if_pos (by decide +kernel)]; kernel_rfl) | (rw [if_neg (by decide +kernel)]; exact ⟨rfl, rfl⟩))
    (fun os started H enc _ => lifted os started H enc)

theorem proved : Rows.EditBackSaid := over

end Go.Proofs.Ytcmlcpejlmlcfaa.editBack
