/-
  EditTells: what an edit makes of a text, which edit two texts have, which brings back, and which texts are fresh against others: as the document says, for any text, any edit, any two texts, any two rows.
  Conditions: none.
-/
import Derived.Test.YtcmlcpejlmlcfaaEdtAlive
import Derived.Test.YtcmlcpejlmlcfaaEdtArg
import Derived.Test.YtcmlcpejlmlcfaaEdtCopy
import Derived.Test.YtcmlcpejlmlcfaaEdtRefOf
import Derived.BigQuiet
import Derived.StillTailTactics
import Derived.ProofKit
import Derived.OpenShut
import Derived.ShutString
import Derived.ChangeOld
import Derived.SizedLaws
namespace Go.Proofs.Ytcmlcpejlmlcfaa.editTells
open Go.ChangeShapes Go.WideShapes Go.ChangeAt Go.RowKit
open Go.ChangeMaps (open_string shut_string)
set_option linter.unusedVariables false
set_option maxRecDepth 100000

theorem own : ownKnob Try.prog.godebug = none := by kernel_rfl
theorem laidOut : laidOutB Try.prog = true := by kernel_rfl
theorem nothing (s : ByteArray) (h : s.size = 0) : s = ⟨#[]⟩ := by
  obtain ⟨a⟩ := s
  rw [Array.eq_empty_of_size_eq_zero (show a.size = 0 from h)]

theorem bytes16 : Try.prog.bytesOf 9 = 16 := by kernel_rfl
set_option maxHeartbeats 4000000 in
theorem walk (s : ByteArray) (e : Ed) (a b : ByteArray) (a4 : Option Addr) (len4 cap4 : Nat) (l4 : List ByteArray) (a5 : Option Addr) (len5 cap5 : Nat) (l5 : List ByteArray) (w : World) (zs : s.size ≤ 140737488351232) (hw : e.Wf) (zp : e.p.size ≤ 140737488351232) (za : a.size ≤ 140737488351232) (zb : b.size ≤ 140737488351232)
    (hst4 : Strs a4 len4 l4 w) (hlz4 : ∀ y ∈ l4, y.size ≤ 140737488351232) (hll4 : len4 ≤ 8796093022208) (hn4 : a4 = none → len4 = 0 ∧ cap4 = 0)
    (hst5 : Strs a5 len5 l5 w) (hlz5 : ∀ y ∈ l5, y.size ≤ 140737488351232) (hll5 : len5 ≤ 8796093022208) (hn5 : a5 = none → len5 = 0 ∧ cap5 = 0) :
    Calls Try.prog 3 #[.string s, e.v, .string a, .string b, .slice a4 len4 cap4, .slice a5 len5 cap5] w fun x w' => x = .returned (.bool true) ∧ Below w.heap.size w w' := by
  have hbw := box_below w (.cells #[.int .i64 e.a, .int .i64 e.c, .string e.p] 23)
  have hex := EdAt.box e w
  have e0 := hex.c0
  have e1 := hex.c1
  have e2 := hex.c2
  have Hb0 := Lib.hid hbw; clear hbw
  have Hex0 := Lib.hid hex; clear hex
  have Hs4 := Lib.hid hst4; clear hst4
  have Hs5 := Lib.hid hst5; clear hst5
  have z4 : ∀ j, (l4.getD j .empty).size ≤ maxLen := fun j => Nat.le_trans (getD_size_le l4 _ hlz4 j) (by decide)
  have z5 : ∀ j, (l5.getD j .empty).size ≤ maxLen := fun j => Nat.le_trans (getD_size_le l5 _ hlz5 j) (by decide)
  have Hz4 := Lib.hid z4; clear z4 hlz4
  have Hz5 := Lib.hid z5; clear z5 hlz5
  have w1 : IntKind.i64.wrap ((s.size : Int) + (e.p.size : Int)) = (s.size : Int) + (e.p.size : Int) := by simp only [IntKind.wrap_i64]; omega
  have w2 : IntKind.i64.wrap ((s.size : Int) + (e.p.size : Int) + (a.size : Int)) = (s.size : Int) + (e.p.size : Int) + (a.size : Int) := by simp only [IntKind.wrap_i64]; omega
  have w3 : IntKind.i64.wrap ((s.size : Int) + (e.p.size : Int) + (a.size : Int) + (b.size : Int)) = (s.size : Int) + (e.p.size : Int) + (a.size : Int) + (b.size : Int) := by simp only [IntKind.wrap_i64]; omega
  have w4 : IntKind.i64.wrap ((len4 : Int) + (len5 : Int)) = (len4 : Int) + (len5 : Int) := by simp only [IntKind.wrap_i64]; omega
  by_cases hl : 4000 < s.size + e.p.size + a.size + b.size
  · have hd : decide ((4000 : Int) < (s.size : Int) + (e.p.size : Int) + (a.size : Int) + (b.size : Int)) = true := decide_eq_true (by omega)
    have HB := Lib.hid Hb0.out
    unfold Ed.v
    go_enter Try.func3, Try.ntmps3
    go_wp2_with fail
    refine (edtAlive_any _).mono ?_; rintro e wz ⟨rfl, hz⟩
    have Hbz := Lib.hid (HB.out.trans (hz.mono HB.out.size)); clear hz
    go_wp2_with fail
    go_ret
    exact ⟨rfl, Hbz.out⟩
  have hd : decide ((4000 : Int) < (s.size : Int) + (e.p.size : Int) + (a.size : Int) + (b.size : Int)) = false := decide_eq_false (by omega)
  by_cases hl2 : 100 < len4 + len5
  · have hd2 : decide ((100 : Int) < (len4 : Int) + (len5 : Int)) = true := decide_eq_true (by omega)
    have HB := Lib.hid Hb0.out
    unfold Ed.v
    go_enter Try.func3, Try.ntmps3
    go_wp2_with fail
    refine (edtAlive_any _).mono ?_; rintro e wz ⟨rfl, hz⟩
    have Hbz := Lib.hid (HB.out.trans (hz.mono HB.out.size)); clear hz
    go_wp2_with fail
    go_ret
    exact ⟨rfl, Hbz.out⟩
  have hd2 : decide ((100 : Int) < (len4 : Int) + (len5 : Int)) = false := decide_eq_false (by omega)
  have c1 := fun u => apply_any s (by omega) e hw (by omega) u
  have c2 := fun u => refApply11_any s (by omega) e hw (by omega) u
  have c3 := fun u => of_any a b (by omega) (by omega) u
  have c4 := fun u => refOf_any a b (by omega) (by omega) u
  have c5 := fun u => back_any s (by omega) e hw (by omega) u
  generalize ofB a b = X at *
  obtain ⟨xa, xc, xp⟩ := X
  unfold Ed.v at *
  simp only at c3 c4
  obtain ⟨F0, hF0⟩ : ∃ F0, freshL l4 l5 len5 = F0 := ⟨_, rfl⟩
  have hfl := freshL_length l4 l5 len5
  rw [hF0] at hfl
  obtain ⟨n0, hn0⟩ : ∃ n0, n0 = F0.length := ⟨_, rfl⟩
  rw [← hn0] at hfl
  have HF0 := Lib.hid hF0; clear hF0
  have Hn0 := Lib.hid hn0; clear hn0
  have C3 := Lib.hid c3; clear c3
  have C4 := Lib.hid c4; clear c4
  by_cases hm : e.May s.size
  · simp only [if_pos hm] at c1 c2 c5
    have hbk : Value.agg #[.int .i64 (e.back s).a, .int .i64 (e.back s).c, .string (e.back s).p] = .agg #[.int .i64 e.a, .int .i64 (e.p.size : Int), .string (e.back s).p] := rfl
    have hbp : (e.back s).p = s.extract e.a.toNat (e.a.toNat + e.c.toNat) := rfl
    rw [hbk, hbp] at c5
    obtain ⟨h1, h2, h3⟩ := hm
    have hsp := fun u => text_part s e.a.toNat (e.a.toNat + e.c.toNat) (by omega) (by omega) u
    have k1 : ((e.a.toNat : Nat) : Int) = e.a := by omega
    have k2 : ((e.a.toNat + e.c.toNat : Nat) : Int) = e.a + e.c := by omega
    rw [k1, k2] at hsp
    have hwr : IntKind.i64.wrap (e.a + e.c) = e.a + e.c := by simp only [IntKind.wrap_i64]; omega
    generalize s.extract e.a.toNat (e.a.toNat + e.c.toNat) = Z at *
    generalize e.on s = T at *
    have C1 := Lib.hid c1; clear c1
    have C2 := Lib.hid c2; clear c2
    have C5 := Lib.hid c5; clear c5
    have Hsp := Lib.hid hsp; clear hsp
    have Hwr := Lib.hid hwr; clear hwr
    clear hbk hbp h1 h2 h3 k1 k2 hw
    go_enter Try.func3, Try.ntmps3
    go_wp2_with fail
    refine (C1.out _).mono ?_; rintro x w1 ⟨rfl, h1⟩
    have hex1 := Hex0.out.new h1
    have hb1 := Hb0.out.trans (h1.mono Hb0.out.size)
    clear e0 e1 e2
    have e0 := hex1.c0
    have e1 := hex1.c1
    have e2 := hex1.c2
    have Hex1 := Lib.hid hex1; clear hex1
    have Hb1 := Lib.hid hb1; clear hb1 h1
    go_wp2_with fail
    refine (C2.out _).mono ?_; rintro x w2 ⟨rfl, h2⟩
    have hex2 := Hex1.out.new h2
    have hb2 := Hb1.out.trans (h2.mono Hb1.out.size)
    clear e0 e1 e2
    have e0 := hex2.c0
    have e1 := hex2.c1
    have e2 := hex2.c2
    have Hex2 := Lib.hid hex2; clear hex2
    have Hb2 := Lib.hid hb2; clear hb2 h2
    go_wp2_with fail
    refine (C3.out _).mono ?_; rintro x w3 ⟨rfl, h3⟩
    have hex3 := Hex2.out.new h3
    have hb3 := Hb2.out.trans (h3.mono Hb2.out.size)
    clear e0 e1 e2
    have e0 := hex3.c0
    have e1 := hex3.c1
    have e2 := hex3.c2
    have Hex3 := Lib.hid hex3; clear hex3
    have Hb3 := Lib.hid hb3; clear hb3 h3
    go_wp2_with fail
    refine (C4.out _).mono ?_; rintro x w4 ⟨rfl, h4⟩
    have hex4 := Hex3.out.new h4
    have hb4 := Hb3.out.trans (h4.mono Hb3.out.size)
    clear e0 e1 e2
    have e0 := hex4.c0
    have e1 := hex4.c1
    have e2 := hex4.c2
    have Hex4 := Lib.hid hex4; clear hex4
    have Hb4 := Lib.hid hb4; clear hb4 h4
    go_wp2_with fail
    refine (C5.out _).mono ?_; rintro x w5 ⟨rfl, h5⟩
    have hex5 := Hex4.out.new h5
    have hb5 := Hb4.out.trans (h5.mono Hb4.out.size)
    clear e0 e1 e2
    have e0 := hex5.c0
    have e1 := hex5.c1
    have e2 := hex5.c2
    have Hex5 := Lib.hid hex5; clear hex5
    have Hb5 := Lib.hid hb5; clear hb5 h5
    have hx6 := EdAt.box (⟨e.a, (e.p.size : Int), Z⟩ : Ed) w5
    have h6 := box_below w5 (.cells #[.int .i64 e.a, .int .i64 (e.p.size : Int), .string Z] 23)
    have hex6 := Hex5.out.new h6
    have hb6 := Hb5.out.trans (h6.mono Hb5.out.size)
    clear e0 e1 e2
    have e0 := hex6.c0
    have e1 := hex6.c1
    have e2 := hex6.c2
    have x0 := hx6.c0
    have x1 := hx6.c1
    have x2 := hx6.c2
    simp only at x0 x1 x2
    have Hb6 := Lib.hid hb6; clear hb6 h6
    have hsp := Hsp.out
    have hwr := Hwr.out
    clear hex6 hx6
    go_wp2_with fail
    go_quiet (fail)
    clear e0 e1 e2 x0 x1 x2 hsp hwr
    have Hb8 := Lib.hid (drewN_below Hb6.out nq); clear Hb6
    generalize (w5.alloc (.cells #[.int .i64 e.a, .int .i64 (e.p.size : Int), .string Z] 23)).drewN nq = w8 at *
    have hs4 := Hs4.out.keep Hb8.out
    obtain ⟨v9, w9, hr9, hv9, h9⟩ := Edt.copy_strs (lc := cap4) hs4 (fun h => (hn4 h).2) (by omega)
    have hb9 := Hb8.out.trans (h9.mono Hb8.out.size)
    have hs5 := Hs5.out.keep hb9
    obtain ⟨v10, w10, hr10, hv10, h10⟩ := Edt.copy_strs (lc := cap5) hs5 (fun h => (hn5 h).2) (by omega)
    have hb10 := hb9.trans (h10.mono hb9.size)
    have hv9' := hv9.new h10
    have cf := fresh_any v9 v10 l4 l5 w10 hv9'.reads hv10.reads (by rw [Hs4.out.1]; omega) (by rw [Hs5.out.1]; omega) Hz4.out Hz5.out
    rw [Hs5.out.1, HF0.out] at cf
    have HW9 := Lib.hid h9; clear h9
    have HW10 := Lib.hid h10; clear h10
    have Hv9 := Lib.hid hv9; clear hv9
    have Hv10 := Lib.hid hv10; clear hv10 hv9'
    have Hb10 := Lib.hid hb10; clear hb10 hb9 hs4 hs5
    have Cf := Lib.hid cf; clear cf
    go_wp2_with (first
      | (at_builtin; refine Edt.append_hap rfl (.const (.slice none 0 0)) (.tmp 109) 24 rfl (.slice none 0 0) (.slice a4 len4 cap4) v9 w9 rfl rfl hr9 ?_)
      | (at_builtin; refine Edt.append_hap rfl (.const (.slice none 0 0)) (.tmp 111) 24 rfl (.slice none 0 0) (.slice a5 len5 cap5) v10 w10 rfl rfl hr10 ?_))
    refine Cf.out.mono ?_; rintro x w11 ⟨v11, rfl, hv11, h11⟩
    have hb11 := Hb10.out.trans (h11.mono Hb10.out.size)
    have cr := refFresh_any a4 a5 len4 len5 cap4 cap5 l4 l5 w11 (Hs4.out.keep hb11) (Hs5.out.keep hb11) (by omega) (by omega)
    rw [HF0.out] at cr
    have Hv11 := Lib.hid hv11; clear hv11
    have Hb11 := Lib.hid hb11; clear hb11 h11
    have Cr := Lib.hid cr; clear cr
    clear hr9 hr10
    go_wp2_with fail
    refine Cr.out.mono ?_; rintro x w12 ⟨v12, rfl, hv12, h12⟩
    have hb12 := Hb11.out.trans (h12.mono Hb11.out.size)
    have hv11 := Hv11.out.new h12
    obtain ⟨a12, k12, rfl, hk12, hf12⟩ := hv12
    obtain ⟨a11, k11, rfl, hk11, hf11⟩ := hv11
    rw [← Hn0.out] at hk11 hf11 hk12 hf12 ⊢
    have Hf11 := Lib.hid hf11; clear hf11
    have Hf12 := Lib.hid hf12; clear hf12
    have Hb12 := Lib.hid hb12; clear hb12 h12
    clear Cr Cf Hv11
    go_wp2_with fail
    go_loopw [21] (fun x wr => ∃ k : Nat, k ≤ n0 ∧ x = .int .i64 (k : Int) ∧ Below w12.heap.size w12 wr) (fun x _ => n0 - (intOf x).toNat)
    case atStart => exact ⟨0, Nat.zero_le _, rfl, Below.refl _ _⟩
    case round =>
      obtain ⟨k, hk, rfl, hb⟩ := hrel
      by_cases hlt : k < n0
      · have g1 : decide (k < n0) = true := decide_eq_true hlt
        have g2 : (k : Int) < (n0 : Int) := by omega
        obtain ⟨b1, rfl, d1⟩ := Hf11.out k hlt
        obtain ⟨b2, rfl, d2⟩ := Hf12.out k hlt
        have f1 : wr.cell? ⟨b1, k, none⟩ = some (.int .i64 ((F0.getD k 0 : Nat) : Int)) := by rw [hb.cell (p := ⟨b1, k, none⟩) (cell_lt d1)]; exact d1
        have f2 : wr.cell? ⟨b2, k, none⟩ = some (.int .i64 ((F0.getD k 0 : Nat) : Int)) := by rw [hb.cell (p := ⟨b2, k, none⟩) (cell_lt d2)]; exact d2
        generalize F0.getD k 0 = y at *
        have q1 : ((y : Int) == (y : Int)) = true := by simp
        have r1 : k < k11 := by omega
        have r2 : k < k12 := by omega
        have Hb := Lib.hid hb; clear hb
        clear d1 d2
        go_wp2_with fail
        go_quiet (fail)
        go_wp2_with fail
        go_roundw
        case rel => exact ⟨k + 1, by omega, by go_num, drewN_below Hb.out _⟩
        case measure => simp [intOf]; omega
      · have g1 : decide (k < n0) = false := decide_eq_false hlt
        have HB := Lib.hid (Hb12.out.trans (hb.mono Hb12.out.size)); clear hb
        go_wp2_with fail
        refine (edtAlive_any _).mono ?_; rintro e wz ⟨rfl, hz⟩
        have Hbz := Lib.hid (HB.out.trans (hz.mono HB.out.size)); clear hz
        go_wp2_with fail
        go_ret
        exact ⟨rfl, Hbz.out⟩
  · simp only [if_neg hm] at c1 c2 c5
    have hnil : Value.agg #[.int .i64 Ed.nil.a, .int .i64 Ed.nil.c, .string Ed.nil.p] = Value.agg #[.int .i64 0, .int .i64 0, .string ⟨#[]⟩] := rfl
    rw [hnil] at c5
    have C1 := Lib.hid c1; clear c1
    have C2 := Lib.hid c2; clear c2
    have C5 := Lib.hid c5; clear c5
    clear hnil hm hw
    go_enter Try.func3, Try.ntmps3
    go_wp2_with fail
    refine (C1.out _).mono ?_; rintro x w1 ⟨rfl, h1⟩
    have hex1 := Hex0.out.new h1
    have hb1 := Hb0.out.trans (h1.mono Hb0.out.size)
    clear e0 e1 e2
    have e0 := hex1.c0
    have e1 := hex1.c1
    have e2 := hex1.c2
    have Hex1 := Lib.hid hex1; clear hex1
    have Hb1 := Lib.hid hb1; clear hb1 h1
    go_wp2_with fail
    refine (C2.out _).mono ?_; rintro x w2 ⟨rfl, h2⟩
    have hex2 := Hex1.out.new h2
    have hb2 := Hb1.out.trans (h2.mono Hb1.out.size)
    clear e0 e1 e2
    have e0 := hex2.c0
    have e1 := hex2.c1
    have e2 := hex2.c2
    have Hex2 := Lib.hid hex2; clear hex2
    have Hb2 := Lib.hid hb2; clear hb2 h2
    go_wp2_with fail
    refine (C3.out _).mono ?_; rintro x w3 ⟨rfl, h3⟩
    have hex3 := Hex2.out.new h3
    have hb3 := Hb2.out.trans (h3.mono Hb2.out.size)
    clear e0 e1 e2
    have e0 := hex3.c0
    have e1 := hex3.c1
    have e2 := hex3.c2
    have Hex3 := Lib.hid hex3; clear hex3
    have Hb3 := Lib.hid hb3; clear hb3 h3
    go_wp2_with fail
    refine (C4.out _).mono ?_; rintro x w4 ⟨rfl, h4⟩
    have hex4 := Hex3.out.new h4
    have hb4 := Hb3.out.trans (h4.mono Hb3.out.size)
    clear e0 e1 e2
    have e0 := hex4.c0
    have e1 := hex4.c1
    have e2 := hex4.c2
    have Hex4 := Lib.hid hex4; clear hex4
    have Hb4 := Lib.hid hb4; clear hb4 h4
    go_wp2_with fail
    refine (C5.out _).mono ?_; rintro x w5 ⟨rfl, h5⟩
    have hex5 := Hex4.out.new h5
    have hb5 := Hb4.out.trans (h5.mono Hb4.out.size)
    clear e0 e1 e2
    have e0 := hex5.c0
    have e1 := hex5.c1
    have e2 := hex5.c2
    have Hex5 := Lib.hid hex5; clear hex5
    have Hb5 := Lib.hid hb5; clear hb5 h5
    have hx6 := EdAt.box (⟨0, 0, ⟨#[]⟩⟩ : Ed) w5
    have h6 := box_below w5 (.cells #[.int .i64 0, .int .i64 0, .string ⟨#[]⟩] 23)
    have hb6 := Hb5.out.trans (h6.mono Hb5.out.size)
    clear e0 e1 e2
    have x0 := hx6.c0
    have x1 := hx6.c1
    have x2 := hx6.c2
    simp only at x0 x1 x2
    have Hb8 := Lib.hid hb6; clear hb6 h6 hx6
    obtain ⟨w8, hw8⟩ : ∃ w8, w5.alloc (.cells #[.int .i64 0, .int .i64 0, .string ⟨#[]⟩] 23) = w8 := ⟨_, rfl⟩
    rw [hw8] at Hb8
    have Hw8 := Lib.hid hw8; clear hw8
    have hs4 := Hs4.out.keep Hb8.out
    obtain ⟨v9, w9, hr9, hv9, h9⟩ := Edt.copy_strs (lc := cap4) hs4 (fun h => (hn4 h).2) (by omega)
    have hb9 := Hb8.out.trans (h9.mono Hb8.out.size)
    have hs5 := Hs5.out.keep hb9
    obtain ⟨v10, w10, hr10, hv10, h10⟩ := Edt.copy_strs (lc := cap5) hs5 (fun h => (hn5 h).2) (by omega)
    have hb10 := hb9.trans (h10.mono hb9.size)
    have hv9' := hv9.new h10
    have cf := fresh_any v9 v10 l4 l5 w10 hv9'.reads hv10.reads (by rw [Hs4.out.1]; omega) (by rw [Hs5.out.1]; omega) Hz4.out Hz5.out
    rw [Hs5.out.1, HF0.out] at cf
    have HW9 := Lib.hid h9; clear h9
    have HW10 := Lib.hid h10; clear h10
    have Hv9 := Lib.hid hv9; clear hv9
    have Hv10 := Lib.hid hv10; clear hv10 hv9'
    have Hb10 := Lib.hid hb10; clear hb10 hb9 hs4 hs5
    have Cf := Lib.hid cf; clear cf
    go_wp2_with (first
      | (at_builtin; rw [Hw8.out]; refine Edt.append_hap rfl (.const (.slice none 0 0)) (.tmp 109) 24 rfl (.slice none 0 0) (.slice a4 len4 cap4) v9 w9 rfl rfl hr9 ?_)
      | (at_builtin; refine Edt.append_hap rfl (.const (.slice none 0 0)) (.tmp 111) 24 rfl (.slice none 0 0) (.slice a5 len5 cap5) v10 w10 rfl rfl hr10 ?_))
    refine Cf.out.mono ?_; rintro x w11 ⟨v11, rfl, hv11, h11⟩
    have hb11 := Hb10.out.trans (h11.mono Hb10.out.size)
    have cr := refFresh_any a4 a5 len4 len5 cap4 cap5 l4 l5 w11 (Hs4.out.keep hb11) (Hs5.out.keep hb11) (by omega) (by omega)
    rw [HF0.out] at cr
    have Hv11 := Lib.hid hv11; clear hv11
    have Hb11 := Lib.hid hb11; clear hb11 h11
    have Cr := Lib.hid cr; clear cr
    clear hr9 hr10
    go_wp2_with fail
    refine Cr.out.mono ?_; rintro x w12 ⟨v12, rfl, hv12, h12⟩
    have hb12 := Hb11.out.trans (h12.mono Hb11.out.size)
    have hv11 := Hv11.out.new h12
    obtain ⟨a12, k12, rfl, hk12, hf12⟩ := hv12
    obtain ⟨a11, k11, rfl, hk11, hf11⟩ := hv11
    rw [← Hn0.out] at hk11 hf11 hk12 hf12 ⊢
    have Hf11 := Lib.hid hf11; clear hf11
    have Hf12 := Lib.hid hf12; clear hf12
    have Hb12 := Lib.hid hb12; clear hb12 h12
    clear Cr Cf Hv11
    go_wp2_with fail
    go_loopw [21] (fun x wr => ∃ k : Nat, k ≤ n0 ∧ x = .int .i64 (k : Int) ∧ Below w12.heap.size w12 wr) (fun x _ => n0 - (intOf x).toNat)
    case atStart => exact ⟨0, Nat.zero_le _, rfl, Below.refl _ _⟩
    case round =>
      obtain ⟨k, hk, rfl, hb⟩ := hrel
      by_cases hlt : k < n0
      · have g1 : decide (k < n0) = true := decide_eq_true hlt
        have g2 : (k : Int) < (n0 : Int) := by omega
        obtain ⟨b1, rfl, d1⟩ := Hf11.out k hlt
        obtain ⟨b2, rfl, d2⟩ := Hf12.out k hlt
        have f1 : wr.cell? ⟨b1, k, none⟩ = some (.int .i64 ((F0.getD k 0 : Nat) : Int)) := by rw [hb.cell (p := ⟨b1, k, none⟩) (cell_lt d1)]; exact d1
        have f2 : wr.cell? ⟨b2, k, none⟩ = some (.int .i64 ((F0.getD k 0 : Nat) : Int)) := by rw [hb.cell (p := ⟨b2, k, none⟩) (cell_lt d2)]; exact d2
        generalize F0.getD k 0 = y at *
        have q1 : ((y : Int) == (y : Int)) = true := by simp
        have r1 : k < k11 := by omega
        have r2 : k < k12 := by omega
        have Hb := Lib.hid hb; clear hb
        clear d1 d2
        go_wp2_with fail
        go_quiet (fail)
        go_wp2_with fail
        go_roundw
        case rel => exact ⟨k + 1, by omega, by go_num, drewN_below Hb.out _⟩
        case measure => simp [intOf]; omega
      · have g1 : decide (k < n0) = false := decide_eq_false hlt
        have HB := Lib.hid (Hb12.out.trans (hb.mono Hb12.out.size)); clear hb
        go_wp2_with fail
        refine (edtAlive_any _).mono ?_; rintro e wz ⟨rfl, hz⟩
        have Hbz := Lib.hid (HB.out.trans (hz.mono HB.out.size)); clear hz
        go_wp2_with fail
        go_ret
        exact ⟨rfl, Hbz.out⟩

theorem contract (H : Type) (enc : TypeId × Value → H) (W : World) (base : Nat) (args : Array Value) (ds gs : List (DataW H)) (before : List MemPlace)
    (hval : ∀ (j : Nat) t v, Try.f3.params[j]? = some t → args[j]? = some v → Value.okWide Try.prog W .any base t v)
    (hW : DataW.Whole enc Try.prog Try.f3.params.toList Rows.editTellsSpec.vars false W args.toList ds gs before)
    (hsz : (DataW.weightsEach Try.prog (Try.f3.params.toList ++ Rows.editTellsSpec.plain.varTypes Try.prog) (ds ++ gs)).all (· ≤ reachBytes) = true) :
    Calls Try.prog 3 args W fun e W' => ∃ v, e = .returned v ∧ Rows.editTellsSpec.post enc Try.prog Try.f3 false true false false W args v W' := by
  have hW' := hW
  obtain ⟨p, q, hA0, hV, rfl, hfz, hnd⟩ := hW
  have hA : DataW.TrodAll enc Try.prog W 0 (fun _ => true) true Try.f3.params.toList args.toList ds p := hA0
  rw [Try.params3] at hA hval hsz
  obtain ⟨v0, vs0, d0, ds0, p0, q0, hargs, rfl, rfl, h0, r0⟩ := trodAll_cons hA
  obtain ⟨v1, vs1, d1, ds1, p1, q1, rfl, rfl, rfl, h1, r1⟩ := trodAll_cons r0
  obtain ⟨v2, vs2, d2, ds2, p2, q2, rfl, rfl, rfl, h2, r2⟩ := trodAll_cons r1
  obtain ⟨v3, vs3, d3, ds3, p3, q3, rfl, rfl, rfl, h3, r3⟩ := trodAll_cons r2
  obtain ⟨v4, vs4, d4, ds4, p4, q4, rfl, rfl, rfl, h4, r4⟩ := trodAll_cons r3
  obtain ⟨v5, vs5, d5, ds5, p5, q5, rfl, rfl, rfl, h5, r5⟩ := trodAll_cons r4
  obtain ⟨rfl, rfl, rfl⟩ := trodAll_nil r5
  obtain rfl : args = #[v0, v1, v2, v3, v4, v5] := Array.ext' hargs
  obtain ⟨rfl, rfl⟩ := trodVars_none hV
  obtain ⟨s0, rfl, rfl, rfl, m0⟩ := open_string Try.underlying9 (hval 0 9 v0 rfl rfl) h0
  have k1 := h1
  have lt1 : ∀ x ∈ p1, x.block < W.heap.size := by obtain ⟨m, hm⟩ := k1; exact DataW.trod_lt m _ _ _ hm
  obtain ⟨e1, rfl, we1, ze1⟩ := open_edit Try.underlying23 rfl rfl rfl Try.underlying3 Try.underlying9 (by kernel_rfl) (by kernel_rfl) (hval 1 23 v1 rfl rfl) h1 (fun n hn => by
    have := List.all_eq_true.1 hsz n (by
      simp only [List.cons_append, DataW.weightsEach]
      exact List.mem_append_right _ (List.mem_append_left _ hn))
    simpa using this)
  obtain ⟨s2, rfl, rfl, rfl, m2⟩ := open_string Try.underlying9 (hval 2 9 v2 rfl rfl) h2
  obtain ⟨s3, rfl, rfl, rfl, m3⟩ := open_string Try.underlying9 (hval 3 9 v3 rfl rfl) h3
  obtain ⟨a4, len4, cap4, rfl⟩ := okWide_slice Try.underlying24 (hval 4 24 v4 rfl rfl)
  have k4 := h4
  have lt4 : ∀ x ∈ p4, x.block < W.heap.size := by obtain ⟨m, hm⟩ := k4; exact DataW.trod_lt m _ _ _ hm
  obtain ⟨fuel4, hf4⟩ := h4
  obtain ⟨l4, hst4, hlz4, hll4, hnil4⟩ := open_texts Try.underlying24 Try.underlying9 (by kernel_rfl) bytes16 hf4 (fun n hn => by
    have := List.all_eq_true.1 hsz n (by
      simp only [List.cons_append, DataW.weightsEach]
      exact List.mem_append_right _ (List.mem_append_right _ (List.mem_append_right _ (List.mem_append_right _ (List.mem_append_left _ hn)))))
    simpa using this)
  obtain ⟨a5, len5, cap5, rfl⟩ := okWide_slice Try.underlying24 (hval 5 24 v5 rfl rfl)
  have k5 := h5
  have lt5 : ∀ x ∈ p5, x.block < W.heap.size := by obtain ⟨m, hm⟩ := k5; exact DataW.trod_lt m _ _ _ hm
  obtain ⟨fuel5, hf5⟩ := h5
  obtain ⟨l5, hst5, hlz5, hll5, hnil5⟩ := open_texts Try.underlying24 Try.underlying9 (by kernel_rfl) bytes16 hf5 (fun n hn => by
    have := List.all_eq_true.1 hsz n (by
      simp only [List.cons_append, DataW.weightsEach]
      exact List.mem_append_right _ (List.mem_append_right _ (List.mem_append_right _ (List.mem_append_right _ (List.mem_append_right _ (List.mem_append_left _ hn))))))
    simpa using this)
  clear hA0
  have z0 : s0.size ≤ 140737488351232 := by
    have := List.all_eq_true.1 hsz s0.data.toList.length (by simp [DataW.weightsEach, DataW.weights])
    rw [ba_len] at this
    exact of_decide_eq_true this
  have z2 : s2.size ≤ 140737488351232 := by
    have := List.all_eq_true.1 hsz s2.data.toList.length (by simp [DataW.weightsEach, DataW.weights])
    rw [ba_len] at this
    exact of_decide_eq_true this
  have z3 : s3.size ≤ 140737488351232 := by
    have := List.all_eq_true.1 hsz s3.data.toList.length (by simp [DataW.weightsEach, DataW.weights])
    rw [ba_len] at this
    exact of_decide_eq_true this
  refine (walk s0 e1 s2 s3 a4 len4 cap4 l4 a5 len5 cap5 l5 W z0 we1 ze1 z2 z3 hst4 hlz4 hll4 hnil4 hst5 hlz5 hll5 hnil5).mono fun e W' ⟨he, bel⟩ => ?_
  subst he
  exact ⟨_, rfl, _, _, _, [], _, [], hW', trodAll_mk1 (shut_bool Try.underlying4 _), (trodAll_cons_mk (shut_string Try.underlying9 m0) (trodAll_cons_mk (Below.trod laidOut (by kernel_rfl) (of_decide_eq_true (by kernel_rfl)) k1 bel lt1) (trodAll_cons_mk (shut_string Try.underlying9 m2) (trodAll_cons_mk (shut_string Try.underlying9 m3) (trodAll_cons_mk (Below.trod laidOut (by kernel_rfl) (of_decide_eq_true (by kernel_rfl)) k4 bel lt4) (trodAll_cons_mk (Below.trod laidOut (by kernel_rfl) (of_decide_eq_true (by kernel_rfl)) k5 bel lt5) trodAll_mk0)))))), rfl, bel.frame _, fun h => by cases h⟩

set_option maxRecDepth 100000 in
theorem lifted (os : Os) (started : os.Started) (H : Type) (enc : TypeId × Value → H) :
    ReturnsInHanded {} Try.checked os 3 .any (Rows.editTellsSpec.pre6 enc Try.prog Try.f3 Rows.editTellsRow.domain false) (Rows.editTellsSpec.post enc Try.prog Try.f3 false true false false) := by
  refine returnsInHanded_of_change_sized (C := Try.checked) own started (by kernel_rfl) Try.func3
    (ChangeSpec.witness6 (enc := enc) (C := Try.checked) false ⟨#[], #[.string .empty, .agg #[.int .i64 0, .int .i64 0, .string .empty], .string .empty, .string .empty, .slice none 0 0, .slice none 0 0], []⟩ 8 (by kernel_rfl) (by kernel_rfl) (by kernel_rfl) (by kernel_rfl)) ?_
  intro W base args ds gs before hval hW hcnd hsz _
  exact contract H enc W base args ds gs before hval hW hsz

theorem over : Rows.editTellsRow.holds Try.pinned (OpenSpec.ofChange Rows.editTellsSpec) :=
  OpenClaim.holds_of_wide 3 Try.f3 rfl rfl rfl rfl rfl rfl rfl ⟨rfl, rfl, rfl, rfl, rfl⟩ rfl rfl rfl rfl rfl (by kernel_rfl) Try.func3 (by kernel_rfl)
    (of_decide_eq_true (by kernel_rfl)) (by unfold Func.isWrapper; first | (rw [if_pos (by decide +kernel)]; kernel_rfl) | (rw [if_neg (by decide +kernel)]; exact ⟨rfl, rfl⟩))
    (fun os started H enc _ => lifted os started H enc)

theorem proved : Rows.EditTellsSaid := over

end Go.Proofs.Ytcmlcpejlmlcfaa.editTells
