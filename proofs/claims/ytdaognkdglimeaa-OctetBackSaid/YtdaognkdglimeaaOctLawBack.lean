/-
  OctetBack: what was put is got, and what is got is put as it stood: for every number, every size and every text.
  Conditions: none.
-/
import Derived.Test.YtdaognkdglimeaaOctAlive
import Derived.Test.YtdaognkdglimeaaOctPure6
import Derived.Deep.QuietTactic
import Derived.BigQuiet
import Derived.Deep.RegionHeld3
import Derived.Deep.DeepCutAuto
import Derived.ProofKit
import Derived.OpenShut
import Derived.ShutString
import Derived.ChangeOld
namespace Go.Proofs.Ytdaognkdglimeaa.lawBack
open Go.ChangeShapes Go.WideShapes Go.ChangeAt Go.RowKit
open Go.ChangeMaps (open_string shut_string)
set_option linter.unusedVariables false

theorem own : ownKnob Try.prog.godebug = none := by kernel_rfl
theorem laidOut : laidOutB Try.prog = true := by kernel_rfl

set_option maxRecDepth 100000 in
set_option maxHeartbeats 2000000 in
theorem walk (v n : Int) (s : ByteArray) (w : World) (hv : (Lit.int .u64 v).wf = true) (hn : (Lit.int .i64 n).wf = true) (hs : s.size ≤ maxLen) :
    Calls Try.prog 5 #[.int .u64 v, .int .i64 n, .string s] w fun e w' => e = .returned (.bool true) ∧ Below w.heap.size w w' := by
  unfold maxLen at hs
  have hv2 : 0 ≤ v ∧ v ≤ 18446744073709551615 := by simpa [Lit.wf, IntKind.min, IntKind.max, IntKind.signed, IntKind.bits] using hv
  have hn2 : -9223372036854775808 ≤ n ∧ n ≤ 9223372036854775807 := by simpa [Lit.wf, IntKind.min, IntKind.max, IntKind.signed, IntKind.bits] using hn
  obtain ⟨v, rfl⟩ := Int.eq_ofNat_of_zero_le hv2.1
  have hvb : v < 18446744073709551616 := by omega
  by_cases hl : 131072 < s.size
  · have hd : decide ((131072 : Int) < (s.size : Int)) = true := decide_eq_true (by omega)
    clear hv hn hv2 hn2 hvb hl hs
    go_enter Try.func5, Try.ntmps5
    go_wp2_with (go_at_call 7; refine (alive_any _).mono ?_; rintro e w1 ⟨rfl, hb⟩)
    go_ret
    exact ⟨rfl, hb⟩
  · have c1 := fun u => octPut_any v n u hvb hn2.1 hn2.2
    have c3 := fun u => octShort_any v u hvb
    have hp1 := Oct.get_put v n
    have hp2 := Oct.put_cases v n
    have Hvb := Lib.hid hvb
    generalize Oct.put v n = p at *
    have C1 := Lib.hid c1; clear c1
    have C3 := Lib.hid c3; clear c3
    have Hp1 := Lib.hid hp1; clear hp1
    have Hp2 := Lib.hid hp2; clear hp2
    have hd : decide ((131072 : Int) < (s.size : Int)) = false := decide_eq_false (by omega)
    have Hl := Lib.hid hl
    clear hv hn hv2 hvb hl hs
    go_enter Try.func5, Try.ntmps5
    go_upto_if 38 with (go_at_call 8; refine (C1.out _).mono ?_; rintro e w1 ⟨rfl, h1⟩)
    go_cut [7, 8] (fun _ _ wx => Below w.heap.size w wx)
    case first =>
      rcases Hp2.out with e0 | e2
      · obtain ⟨g1, g2⟩ := Hp1.out e0
        have cg := fun u => octGet_any ⟨p.1.toArray⟩ u
        simp only [g1] at cg
        have Cg := Lib.hid cg; clear cg
        rw [e0]
        have G1 := Lib.hid g1; clear g1
        have E0 := Lib.hid e0; clear e0
        obtain ⟨p1, p2⟩ := p
        simp only [] at g2 Cg ⊢
        subst g2
        go_wp2_with fail
        refine (Cg.out _).mono ?_; rintro e w2 ⟨rfl, rfl⟩
        go_wp2_with fail
        go_meet
        exact h1
      · rw [e2]
        have E2 := Lib.hid e2; clear e2
        go_wp2_with fail
        go_meet
        exact h1
    case rest =>
      clear h1 C1 Hp1 Hp2
      have hb := hcut
      clear hcut
      have hg1 := Oct.put_get s.data.toList
      have hg2 := Oct.get_cases s.data.toList
      have hg3 := Oct.get_bound s.data.toList
      have cp := fun u => octPut_any (Oct.get s.data.toList).1 s.size u hg3 (by omega) (by have := Hl.out; omega)
      have cg := fun u => octGet_any s u
      rw [ba_len] at hg1
      generalize Oct.get s.data.toList = q at *
      have Hg1 := Lib.hid hg1; clear hg1
      have Hg2 := Lib.hid hg2; clear hg2
      have Cp := Lib.hid cp; clear cp
      have Cg := Lib.hid cg; clear cg
      clear hg3 hn2
      go_upto_if 63 with (go_at_call 10; refine (Cg.out _).mono ?_; rintro e w2 ⟨rfl, rfl⟩)
      go_cut [11, 12] (fun _ _ wx => Below w.heap.size w wx)
      case first =>
        rcases Hg2.out with e0 | e2
        · have g1 := Hg1.out e0
          have cp := Cp.out
          rw [g1] at cp
          simp only [] at cp
          rw [show (⟨s.data.toList.toArray⟩ : ByteArray) = s from ba_eta s] at cp
          have Cp2 := Lib.hid cp; clear cp Cp
          have G1 := Lib.hid g1; clear g1
          rw [e0]
          have E0 := Lib.hid e0; clear e0
          go_wp2_with fail
          refine (Cp2.out _).mono ?_; rintro e w3 ⟨rfl, h3⟩
          go_wp2_with fail
          go_meet
          exact hb.trans (h3.mono hb.size)
        · rw [e2]
          have E2 := Lib.hid e2; clear e2
          go_wp2_with fail
          go_meet
          exact hb
      case rest =>
        clear hb Cp Cg Hg1 Hg2
        have hb := hcut
        clear hcut
        have hsl : (Oct.short v).length ≤ 10 := Oct.shortF_length 10 v
        have hrs := Oct.rs_short v s.data.toList Hvb.out
        have hs0 := Hl.out
        have cr : ∀ u, Calls Try.prog 12 #[.string (⟨(Oct.short v).toArray⟩ ++ s)] u fun e w' => e = .returned (.tuple #[.int .u64 v, .int .i64 (Oct.short v).length, .int .i64 0]) ∧ u = w' := fun u => by
          have h := octReadShort_any (⟨(Oct.short v).toArray⟩ ++ s) u (by rw [ByteArray.size_append, Lib.size_eq]; simp only []; omega)
          rw [show ((⟨(Oct.short v).toArray⟩ : ByteArray) ++ s).data.toList = Oct.short v ++ s.data.toList by simp, hrs] at h
          exact h
        have Cr := Lib.hid cr; clear cr
        have hrb := Oct.short_read s.data.toList
        have cs := fun u => octReadShort_any s u (by omega)
        rw [ba_len] at hrb
        have hsb : s.size ≤ 131072 := by omega
        have hcb : ¬ 9223372036854775807 < (Oct.short v).length + s.size := by omega
        have Hrs := Lib.hid hrs; clear hrs
        have Hrb := Lib.hid hrb; clear hrb
        have Cs := Lib.hid cs; clear cs
        have Hsb := Lib.hid hsb; clear hsb hs0
        go_upto_if 100 with (first | (go_at_call 14; refine (C3.out _).mono ?_; rintro e w4 ⟨rfl, h4⟩) | (go_at_call 12; refine (Cr.out _).mono ?_; rintro e w5 ⟨rfl, rfl⟩))
        have hb4 := hb.trans (h4.mono hb.size)
        clear hb h4
        go_upto_region 18 with (go_at_call 12; refine (Cs.out _).mono ?_; rintro e w5 ⟨rfl, rfl⟩)
        clear hcb
        go_cut [126] (fun b wx => b = .bool false ∧ Below w.heap.size w wx)
        case first =>
          clear Cs Cr
          generalize (Oct.rs 0 0 s.data.toList).1 = z at *
          generalize (Oct.rs 0 0 s.data.toList).2.1 = m at *
          generalize (Oct.rs 0 0 s.data.toList).2.2 = er at *
          by_cases he : er = 0
          · obtain ⟨r1, r2, r3, r4⟩ := Hrb.out he
            subst he
            have hr2 : (m : Int) ≤ (s.size : Int) := by omega
            have hr1 : (1 : Int) ≤ (m : Int) := by omega
            have d1 : decide ((m : Int) < 1) = false := decide_eq_false (by omega)
            have d1b : ¬ m = 0 := by omega
            have d1c : decide (m = 0) = false := decide_eq_false d1b
            have d2b : m ≤ s.size := r2
            have d2c : decide (s.size < m) = false := decide_eq_false (by omega)
            have d2 : decide ((s.size : Int) < (m : Int)) = false := decide_eq_false (by omega)
            have hx : (s.extract 0 m).toList = s.data.toList.take m := by rw [Lib.extract_toList]; simp
            have hq : (Oct.short z == (s.extract 0 m).toList) = true := by rw [hx, beq_iff_eq]; exact r3
            have csz := fun u => octShort_any z u r4
            have Csz := Lib.hid csz; clear csz
            have R3 := Lib.hid r3; clear r3
            have R4 := Lib.hid r4; clear r4
            have Hx := Lib.hid hx; clear hx
            clear r1 r2
            go_region_held3 (fun w' => Below w.heap.size w w') (first | exact hb4 | exact hb4.drew | exact hb4.drew.trans (h6.mono hb4.drew.size)) ((go_at_call 14; refine (Csz.out _).mono ?_; rintro e w6 ⟨rfl, h6⟩))
            go_wp2_with fail
            go_meet
            exact ⟨rfl, by assumption⟩
          · have d1 : ((er : Int) == 0) = false := beq_eq_false_iff_ne.2 (by omega)
            go_quiet (fail)
            go_wp2_with fail
            go_meet
            exact ⟨rfl, ⟨hb4.os, hb4.tape, hb4.output, hb4.size, hb4.block⟩⟩
        case rest =>
          obtain ⟨rfl, hb⟩ := hcut
          clear hb4 Cs Cr Hrb
          have ht1 := Oct.text_cases s.data.toList
          have ht2 := Oct.read_text' s.data.toList (Oct.short v)
          have ht3 := Oct.text_length s.data.toList
          have hsb := Hsb.out
          have ct := fun u => octText_any s u (by omega)
          rw [ba_len] at ht1 ht3
          by_cases ht : s.size ≤ 65535
          · have e0 : (Oct.text s.data.toList).2 = 0 := ht1.resolve_right (fun c => by omega)
            have ht4 := ht2 e0
            have cr : ∀ u, Calls Try.prog 21 #[.string (⟨(Oct.text s.data.toList).1.toArray⟩ ++ ⟨(Oct.short v).toArray⟩)] u fun e w' => e = .returned (.tuple #[.string s, .int .i64 (Oct.text s.data.toList).1.length, .int .i64 0]) ∧ Below u.heap.size u w' := fun u => by
              have h := octRead_any (⟨(Oct.text s.data.toList).1.toArray⟩ ++ ⟨(Oct.short v).toArray⟩) u (by rw [ByteArray.size_append, Lib.size_eq, Lib.size_eq]; simp only []; omega)
              rw [show ((⟨(Oct.text s.data.toList).1.toArray⟩ : ByteArray) ++ ⟨(Oct.short v).toArray⟩).data.toList = (Oct.text s.data.toList).1 ++ Oct.short v by simp, ht4] at h
              simp only [] at h
              rw [show (⟨s.data.toList.toArray⟩ : ByteArray) = s from ba_eta s] at h
              exact h
            rw [e0] at ct
            have hcb : ¬ 9223372036854775807 < (Oct.text s.data.toList).1.length + (Oct.short v).length := by omega
            generalize (Oct.text s.data.toList).1 = c at *
            have Cr := Lib.hid cr; clear cr
            have Ct := Lib.hid ct; clear ct
            have E0 := Lib.hid e0; clear e0
            have Ht4 := Lib.hid ht4; clear ht4
            clear ht1 ht2 ht3 hsb ht
            go_wp2_with fail
            refine (Ct.out _).mono ?_; rintro e w7 ⟨rfl, h7⟩
            go_wp2_with fail
            refine (Cr.out _).mono ?_; rintro e w8 ⟨rfl, h8⟩
            have k8 := (hb.trans (h7.mono hb.size))
            have k9 := k8.trans (h8.mono k8.size)
            clear hb h7 h8 k8
            go_wp2_with fail
            refine (alive_any _).mono ?_; rintro e w9 ⟨rfl, h9⟩
            go_wp2_with fail
            go_ret
            exact ⟨rfl, k9.trans (h9.mono k9.size)⟩
          · have e5 : (Oct.text s.data.toList).2 = 5 := by
              rcases ht1 with h | h
              · have := Hsb.out
                exfalso
                unfold Oct.text at h
                rw [ba_len, if_neg ht] at h
                simp at h
              · exact h.1
            have d5 : decide ((65535 : Int) < (s.size : Int)) = true := decide_eq_true (by omega)
            rw [e5] at ct
            have Ct := Lib.hid ct; clear ct
            have E5 := Lib.hid e5; clear e5
            clear ht1 ht2 ht3 hsb ht
            go_wp2_with fail
            refine (Ct.out _).mono ?_; rintro e w7 ⟨rfl, h7⟩
            have k8 := (hb.trans (h7.mono hb.size))
            clear hb h7
            go_wp2_with fail
            refine (alive_any _).mono ?_; rintro e w9 ⟨rfl, h9⟩
            go_wp2_with fail
            go_ret
            exact ⟨rfl, k8.trans (h9.mono k8.size)⟩

theorem contract (H : Type) (enc : TypeId × Value → H) (W : World) (base : Nat) (args : Array Value) (ds gs : List (DataW H)) (before : List MemPlace)
    (hval : ∀ (j : Nat) t v, Try.f5.params[j]? = some t → args[j]? = some v → Value.okWide Try.prog W .any base t v)
    (hW : DataW.Whole enc Try.prog Try.f5.params.toList Rows.octetBackSpec.vars false W args.toList ds gs before) :
    Calls Try.prog 5 args W fun e W' => ∃ v, e = .returned v ∧ Rows.octetBackSpec.post enc Try.prog Try.f5 false true false false W args v W' := by
  have hW' := hW
  obtain ⟨p, q, hA0, hV, rfl, hfz, hnd⟩ := hW
  have hA : DataW.TrodAll enc Try.prog W 0 (fun _ => true) true Try.f5.params.toList args.toList ds p := hA0
  rw [Try.params5] at hA hval
  obtain ⟨v0, vs0, d0, ds0, p0, q0, hargs, rfl, rfl, h0, r0⟩ := trodAll_cons hA
  obtain ⟨v1, vs1, d1, ds1, p1, q1, rfl, rfl, rfl, h1, r1⟩ := trodAll_cons r0
  obtain ⟨v2, vs2, d2, ds2, p2, q2, rfl, rfl, rfl, h2, r2⟩ := trodAll_cons r1
  obtain ⟨rfl, rfl, rfl⟩ := trodAll_nil r2
  obtain rfl : args = #[v0, v1, v2] := by cases args; simp_all
  obtain ⟨rfl, rfl⟩ := trodVars_none hV
  obtain ⟨a0, rfl, rfl, rfl, w0⟩ := open_int Try.underlying22 (hval 0 22 v0 rfl rfl) h0
  obtain ⟨a1, rfl, rfl, rfl, w1⟩ := open_int Try.underlying3 (hval 1 3 v1 rfl rfl) h1
  obtain ⟨s, rfl, rfl, rfl, hmax⟩ := open_string Try.underlying9 (hval 2 9 v2 rfl rfl) h2
  clear hA0
  refine (walk a0 a1 s W w0 w1 hmax).mono fun e W' ⟨he, bel⟩ => ?_
  subst he
  exact ⟨_, rfl, _, _, _, [], _, [], hW', trodAll_mk1 (shut_bool Try.underlying4 _), (trodAll_cons_mk (shut_int Try.underlying22 w0) (trodAll_cons_mk (shut_int Try.underlying3 w1) (trodAll_cons_mk (shut_string Try.underlying9 hmax) trodAll_mk0))), rfl, bel.frame _, fun h => by cases h⟩

set_option maxRecDepth 100000 in
theorem lifted (os : Os) (started : os.Started) (H : Type) (enc : TypeId × Value → H) :
    ReturnsInHanded {} Try.checked os 5 .any (Rows.octetBackSpec.pre6 enc Try.prog Try.f5 Rows.octetBackRow.domain false) (Rows.octetBackSpec.post enc Try.prog Try.f5 false true false false) := by
  refine returnsInHanded_of_change (C := Try.checked) own started (by kernel_rfl) Try.func5
    (ChangeSpec.witness6 (enc := enc) (C := Try.checked) false ⟨#[], #[.int .u64 0, .int .i64 0, .string .empty], []⟩ 8 (by kernel_rfl) (by kernel_rfl) (by kernel_rfl) (by kernel_rfl)) ?_
  intro W base args ds gs before hval hW hcnd _
  exact contract H enc W base args ds gs before hval hW

theorem over : Rows.octetBackRow.holds Try.pinned (OpenSpec.ofChange Rows.octetBackSpec) :=
  OpenClaim.holds_of_wide 5 Try.f5 rfl rfl rfl rfl rfl rfl rfl ⟨rfl, rfl, rfl, rfl, rfl⟩ rfl rfl rfl rfl rfl (by kernel_rfl) Try.func5 (by kernel_rfl)
    (of_decide_eq_true (by kernel_rfl)) (by unfold Func.isWrapper; first | (rw [if_pos (by decide +kernel)]; kernel_rfl) | (rw [if_neg (by decide +kernel)]; exact ⟨rfl, rfl⟩))
    (fun os started H enc _ => lifted os started H enc)

theorem proved : Rows.OctetBackSaid := over
end Go.Proofs.Ytdaognkdglimeaa.lawBack
