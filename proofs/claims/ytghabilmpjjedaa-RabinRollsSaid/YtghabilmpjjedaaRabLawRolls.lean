/-
  RabinRolls: whatever a roller was given, its fingerprint is that of its window, the last bytes alone, for every polynomial, every window, every script of steps; also of copies, and nil.
  Conditions: none.
-/
import Derived.Test.YtghabilmpjjedaaRabG
import Derived.Test.YtghabilmpjjedaaRabRef
import Derived.Test.YtghabilmpjjedaaRabSteps
import Derived.StillTailTactics
import Derived.ProofKit
import Derived.OpenShut
import Derived.ShutString
import Derived.ChangeOld
import Derived.SizedLaws
namespace Go.Proofs.Ytghabilmpjjedaa.rabRolls
open Go.ChangeShapes Go.WideShapes Go.ChangeAt Go.RowKit
open Go.ChangeMaps (open_string shut_string)
set_option linter.unusedVariables false
set_option maxRecDepth 100000

theorem own : ownKnob Try.prog.godebug = none := by kernel_rfl
theorem laidOut : laidOutB Try.prog = true := by kernel_rfl
theorem u64_in {n : Int} (h : (Lit.int .u64 n).wf = true) : ∃ a : Nat, n = (a : Int) ∧ a < 18446744073709551616 := by
  have h2 : 0 ≤ n ∧ n ≤ 18446744073709551615 := by simpa [Lit.wf, IntKind.min, IntKind.max, IntKind.signed, IntKind.bits] using h
  exact ⟨n.toNat, by omega, by omega⟩


set_option maxHeartbeats 4000000 in
theorem walk (n0 : Int) (n1 : Int) (a : Option Addr) (len cap : Nat) (l : List RStp) (w : World) (h0 : (Lit.int .u64 n0).wf = true) (h1 : (Lit.int .i64 n1).wf = true) (hst : RStps a len l w) (hok : ∀ y ∈ l, y.Ok) (hlen : len ≤ 5864062014805) :
    Calls Try.prog 4 #[.int .u64 n0, .int .i64 n1, .slice a len cap] w fun e w' => e = .returned (.bool true) ∧ Below w.heap.size w w' := by
  obtain ⟨p, rfl, hp⟩ := u64_in h0
  clear h0 h1
  have hlg := rlong_any a len cap l w hst hok hlen
  have hq : ∀ Q : Ending → World → Prop, (∀ b : Bool, (b = false → len ≤ 60 ∧ rtot l len ≤ 2000) → Q (.returned (.bool b)) w) → Calls Try.prog 13 #[.slice a len cap] w Q := fun Q h => hlg.mono fun e w' ⟨b, he, hb, hw⟩ => by subst he; subst hw; exact h b hb
  have Hq := Lib.hid hq; clear hq hlg
  have hend : ∀ u, Below w.heap.size w u → Calls Try.prog 7 #[] u fun e w' => e = .returned (.bool true) ∧ Below w.heap.size w w' := fun u hu => (rabAlive_any u).mono fun e w' ⟨h1, h2⟩ => ⟨h1, hu.trans (h2.mono hu.size)⟩
  have Hend := Lib.hid hend; clear hend
  have Hst := Lib.hid hst; clear hst
  have Hok := Lib.hid hok; clear hok
  have may := fun u => rmay_any p n1 hp u
  by_cases hm : rabMay p n1
  case neg =>
    rw [decide_eq_false hm] at may
    have May := Lib.hid may; clear may
    have nc := fun u => (new_any p n1 hp u).1 hm
    have NC := Lib.hid nc; clear nc
    clear hm hp
    go_enter Try.func4, Try.ntmps4
    go_wp2_with fail
    refine Hq.out _ ?_
    intro bb hbb
    cases bb with
    | true =>
      clear hbb
      go_wp2_with fail
      refine (Hend.out _ (Below.refl _ _)).mono ?_; rintro e w1 ⟨rfl, hw1⟩
      go_wp2_with fail
      go_ret
      exact ⟨rfl, hw1⟩
    | false =>
      clear hbb
      go_wp2_with fail
      refine (roll_nil ⟨#[97]⟩ _).mono ?_; rintro e w1 ⟨rfl, rfl⟩
      go_wp2_with fail
      refine (reset_nil _).mono ?_; rintro e w1 ⟨rfl, rfl⟩
      go_wp2_with fail
      refine (sum_nil _).mono ?_; rintro e w1 ⟨rfl, rfl⟩
      go_wp2_with fail
      refine (copy_none _).mono ?_; rintro e w1 ⟨rfl, rfl⟩
      go_wp2_with fail
      refine (NC.out _).mono ?_; rintro e w1 ⟨rfl, b1⟩
      have B1 := Lib.hid b1; clear b1
      go_wp2_with fail
      refine (May.out _).mono ?_; rintro e w2 ⟨rfl, rfl⟩
      go_wp2_with fail
      refine (Hend.out _ B1.out).mono ?_; rintro e w1 ⟨rfl, hw1⟩
      go_wp2_with fail
      go_ret
      exact ⟨rfl, hw1⟩
  rw [decide_eq_true hm] at may
  have May := Lib.hid may; clear may
  obtain ⟨N, rfl⟩ : ∃ N : Nat, n1 = (N : Int) := ⟨n1.toNat, by have := hm.2; omega⟩
  have nc := fun u => newG_any p (N : Int) hp u hm
  rw [Int.toNat_natCast] at nc
  have NC := Lib.hid nc; clear nc
  have hN64 : N ≤ 64 := by have := hm.2.2; omega
  have rof := fun (L : List UInt8) (hL : L.length ≤ 64) u => rof_any p ⟨L.toArray⟩ hm.1 (by simp [ByteArray.size]; omega) u
  have Rof := Lib.hid rof; clear rof
  clear hm hp
  go_enter Try.func4, Try.ntmps4
  go_wp2_with fail
  refine Hq.out _ ?_
  intro bb hbb
  cases bb with
  | true =>
    clear hbb
    go_wp2_with fail
    refine (Hend.out _ (Below.refl _ _)).mono ?_; rintro e w1 ⟨rfl, hw1⟩
    go_wp2_with fail
    go_ret
    exact ⟨rfl, hw1⟩
  | false =>
  obtain ⟨hlen60, htot⟩ := hbb rfl
  have hup : ∀ k, k ≤ len → rtot l k ≤ 2000 := fun k hk => Nat.le_trans (rtot_up l hk) htot
  have Hup := Lib.hid hup; clear hup
  clear hbb htot
  go_wp2_with fail
  refine (roll_nil ⟨#[97]⟩ _).mono ?_; rintro e w1 ⟨rfl, rfl⟩
  go_wp2_with fail
  refine (reset_nil _).mono ?_; rintro e w1 ⟨rfl, rfl⟩
  go_wp2_with fail
  refine (sum_nil _).mono ?_; rintro e w1 ⟨rfl, rfl⟩
  go_wp2_with fail
  refine (copy_none _).mono ?_; rintro e w1 ⟨rfl, rfl⟩
  go_wp2_with fail
  refine (NC.out _).mono ?_; rintro e w1 ⟨b, hb, rfl, gr, b1⟩
  have GR := Lib.hid gr; clear gr
  have B1 := Lib.hid b1; clear b1
  have HB := Lib.hid hb; clear hb
  go_wp2_with fail
  refine (May.out _).mono ?_; rintro e w2 ⟨rfl, rfl⟩
  go_wp2_with fail
  clear NC May Hq
  go_loopw [10, 12, 13] (fun rv gv iv wr => ∃ (k b : Nat) (gs : ByteArray), k ≤ len ∧ iv = .int .i64 (k : Int) ∧ rv = .pointer (some ⟨b, 0, none⟩) ∧ gv = .string gs ∧ RolG b p N gs.data.toList wr ∧ w.heap.size ≤ b ∧ Below w.heap.size w wr ∧ gs.size ≤ rtot l k) (fun _ _ iv _ => len - (intOf iv).toNat)
  case atStart => exact ⟨0, b, ⟨#[]⟩, by omega, rfl, rfl, rfl, GR.out, HB.out, B1.out, Nat.zero_le _⟩
  case round =>
    clear GR B1 HB
    obtain ⟨k, b, gs, hk, rfl, rfl, rfl, gr, hb, hbel, hgs⟩ := hrel
    have htk := Hup.out k hk
    have GR := Lib.hid gr; clear gr
    have HB := Lib.hid hb; clear hb
    have BR := Lib.hid hbel; clear hbel
    by_cases hlt : k < len
    · have hsucc := rtot_succ l k (by rw [Hst.out.1]; exact hlt)
      have htk1 := Hup.out (k + 1) (by omega)
      obtain ⟨bs, off, rfl, hst0⟩ := Hst.out.2 k hlt
      have hbs : bs < w.heap.size := cell_lt hst0.d
      have hst1 : RStpAt wr bs (off + k * 2) (l.getD k default) := hst0.same (BR.out.block bs hbs)
      generalize l.getD k default = x at *
      obtain ⟨xd, xs⟩ := x
      have c0 := hst1.d
      have c1 := hst1.s
      simp only at c0 c1 hsucc
      have hge : decide ((k : Int) < (len : Int)) = true := decide_eq_true (by omega)
      have hge' : decide (k < len) = true := decide_eq_true hlt
      have hgs1 : gs.size ≤ rtot l (k + 1) := by omega
      have hxs : gs.size + xs.size ≤ rtot l (k + 1) := by omega
      clear hst0 hst1 hsucc hgs
      by_cases d0 : xd = 0
      · subst d0
        have hxz : xs.size ≤ 140737488351232 := by omega
        go_wp2_with fail
        refine (rollG_any GR.out xs hxz).mono ?_; rintro e3 w3 ⟨rfl, g3, t3⟩
        have B3 := Lib.hid (BR.out.trans (t3.below BR.out.size (fun j _ e => by rw [e]; exact HB.out)))
        have c13 : w3.cell? ⟨bs, off + k * 2 + 1, none⟩ = some (.string xs) := by rw [World.cell?_of_block (t3.block bs (cell_lt c1) (fun e => by have := HB.out; omega))]; exact c1
        clear c0 c1 t3 GR BR
        obtain ⟨gs2, hg2⟩ : ∃ gs2, gs2 = gs ++ xs := ⟨_, rfl⟩
        have hl2 : gs.data.toList ++ xs.data.toList = gs2.data.toList := by rw [hg2]; simp [ByteArray.data_append]
        have hz2 : gs2.size ≤ rtot l (k + 1) := by rw [hg2, ByteArray.size_append]; exact hxs
        rw [hl2] at g3
        rw [hl2]
        have hsum : gs.size + xs.size < 9223372036854775808 := by omega
        have Hgs2 := Lib.hid hz2
        have GR := Lib.hid g3; clear g3
        have BR := B3; clear B3
        have Hg2 := Lib.hid hg2.symm; clear hg2 hl2
        obtain ⟨b2, hb2⟩ : ∃ b2, b2 = b := ⟨_, rfl⟩
        have Hb2 := Lib.hid (show w.heap.size ≤ b2 from by rw [hb2]; exact HB.out)
        rw [← hb2] at GR
        subst hb2
        clear HB
        go_wp2_with fail
        rw [Hg2.out]
        refine (rlast_any gs2 N hN64 (by omega) _).mono ?_; rintro e9 w9 ⟨rfl, b9⟩
        have GR2 := Lib.hid (GR.out.new b9); clear GR
        have BR2 := Lib.hid (BR.out.trans (b9.mono BR.out.size)); clear BR b9
        have GR := GR2; clear GR2
        have BR := BR2; clear BR2
        go_wp2_with fail
        refine (Rof.out (Pol.last N gs2.data.toList) (by rw [Pol.last_length]; exact hN64) _).mono ?_; rintro e8 w8 ⟨rfl, rfl⟩
        go_wp2_with fail
        refine (sumG_any GR.out).mono ?_; rintro e8 w8 ⟨rfl, rfl⟩
        go_wp2_with fail
        refine (rlast_any gs2 N hN64 (by omega) _).mono ?_; rintro e9 w9 ⟨rfl, b9⟩
        have GR9 := Lib.hid (GR.out.new b9); clear GR
        have BR9 := Lib.hid (BR.out.trans (b9.mono BR.out.size)); clear BR b9
        go_wp2_with fail
        refine (Rof.out (Pol.last N gs2.data.toList) (by rw [Pol.last_length]; exact hN64) _).mono ?_; rintro e8 w8 ⟨rfl, rfl⟩
        go_wp2_with fail
        go_roundw
        case rel => exact ⟨k + 1, b2, gs2, by omega, by go_num, rfl, rfl, GR9.out, Hb2.out, BR9.out, Hgs2.out⟩
        case measure => simp [intOf]; omega
      have dd0 : (xd == 0) = false := by rw [beq_eq_false_iff_ne]; exact d0
      by_cases d1 : xd = 1
      · subst d1
        go_wp2_with fail
        refine (resetG_any GR.out).mono ?_; rintro e3 w3 ⟨rfl, g3, t3⟩
        have B3 := Lib.hid (BR.out.trans (t3.below BR.out.size (fun j _ e => by rw [e]; exact HB.out)))
        clear c0 c1 t3 GR BR
        obtain ⟨gs2, hg2⟩ : ∃ gs2 : ByteArray, gs2 = ⟨#[]⟩ := ⟨_, rfl⟩
        have g3' : RolG b p N gs2.data.toList w3 := by rw [hg2]; exact g3
        have GR := Lib.hid g3'; clear g3'
        have BR := B3; clear B3 g3
        have hz2 : gs2.size ≤ rtot l (k + 1) := by rw [hg2]; exact Nat.zero_le _
        have Hgs2 := Lib.hid hz2
        obtain ⟨b2, hb2⟩ : ∃ b2, b2 = b := ⟨_, rfl⟩
        have Hb2 := Lib.hid (show w.heap.size ≤ b2 from by rw [hb2]; exact HB.out)
        rw [← hb2] at GR
        subst hb2
        clear HB
        have Hg2 := Lib.hid hg2.symm; clear hg2
        go_wp2_with fail
        rw [Hg2.out]
        go_wp2_with fail
        refine (sumG_any GR.out).mono ?_; rintro e8 w8 ⟨rfl, rfl⟩
        go_wp2_with fail
        refine (rlast_any gs2 N hN64 (by omega) _).mono ?_; rintro e9 w9 ⟨rfl, b9⟩
        have GR9 := Lib.hid (GR.out.new b9); clear GR
        have BR9 := Lib.hid (BR.out.trans (b9.mono BR.out.size)); clear BR b9
        go_wp2_with fail
        refine (Rof.out (Pol.last N gs2.data.toList) (by rw [Pol.last_length]; exact hN64) _).mono ?_; rintro e8 w8 ⟨rfl, rfl⟩
        go_wp2_with fail
        go_roundw
        case rel => exact ⟨k + 1, b2, gs2, by omega, by go_num, rfl, rfl, GR9.out, Hb2.out, BR9.out, Hgs2.out⟩
        case measure => simp [intOf]; omega
      have dd1 : (xd == 1) = false := by rw [beq_eq_false_iff_ne]; exact d1
      by_cases d2 : xd = 2
      · subst d2
        go_wp2_with fail
        refine (copyG_any GR.out).mono ?_; rintro e3 w3 ⟨rfl, g3, t3⟩
        have hbl := GR.out.lt
        have gold := GR.out.new t3
        have B3 := Lib.hid (BR.out.trans (t3.mono BR.out.size))
        obtain ⟨b2, hb2⟩ : ∃ b2, b2 = wr.heap.size := ⟨_, rfl⟩
        rw [← hb2] at g3
        have Hb2 := Lib.hid (show w.heap.size ≤ b2 from by rw [hb2]; exact BR.out.size)
        have hne : b2 ≠ b := by omega
        rw [← hb2]
        have GO := Lib.hid gold; clear gold
        have G3 := Lib.hid g3; clear g3
        have HNE := Lib.hid hne; clear hne
        clear c0 c1 t3 GR BR hbl hb2
        go_wp2_with fail
        refine (rollG_any GO.out ⟨#[115, 112, 111, 105, 108, 116]⟩ (by decide)).mono ?_; rintro e4 w4 ⟨rfl, g4, t4⟩
        have GR := Lib.hid (G3.out.keeps t4 HNE.out)
        have BR := Lib.hid (B3.out.trans (t4.below B3.out.size (fun j _ e => by rw [e]; exact HB.out)))
        obtain ⟨gs2, hg2⟩ : ∃ gs2 : ByteArray, gs2 = gs := ⟨_, rfl⟩
        subst hg2
        have hz2 := hgs1
        have Hgs2 := Lib.hid hz2
        clear GO G3 g4 t4 HB B3 HNE
        go_wp2_with fail
        refine (sumG_any GR.out).mono ?_; rintro e8 w8 ⟨rfl, rfl⟩
        go_wp2_with fail
        refine (rlast_any gs2 N hN64 (by omega) _).mono ?_; rintro e9 w9 ⟨rfl, b9⟩
        have GR9 := Lib.hid (GR.out.new b9); clear GR
        have BR9 := Lib.hid (BR.out.trans (b9.mono BR.out.size)); clear BR b9
        go_wp2_with fail
        refine (Rof.out (Pol.last N gs2.data.toList) (by rw [Pol.last_length]; exact hN64) _).mono ?_; rintro e8 w8 ⟨rfl, rfl⟩
        go_wp2_with fail
        go_roundw
        case rel => exact ⟨k + 1, b2, gs2, by omega, by go_num, rfl, rfl, GR9.out, Hb2.out, BR9.out, Hgs2.out⟩
        case measure => simp [intOf]; omega
      have dd2 : (xd == 2) = false := by rw [beq_eq_false_iff_ne]; exact d2
      obtain ⟨gs2, hg2⟩ : ∃ gs2 : ByteArray, gs2 = gs := ⟨_, rfl⟩
      subst hg2
      obtain ⟨b2, hb2⟩ : ∃ b2, b2 = b := ⟨_, rfl⟩
      subst hb2
      have hz2 := hgs1
      have Hgs2 := Lib.hid hz2
      have Hb2 := HB; clear HB
      go_wp2_with fail
      refine (sumG_any GR.out).mono ?_; rintro e8 w8 ⟨rfl, rfl⟩
      go_wp2_with fail
      refine (rlast_any gs2 N hN64 (by omega) _).mono ?_; rintro e9 w9 ⟨rfl, b9⟩
      have GR9 := Lib.hid (GR.out.new b9); clear GR
      have BR9 := Lib.hid (BR.out.trans (b9.mono BR.out.size)); clear BR b9
      go_wp2_with fail
      refine (Rof.out (Pol.last N gs2.data.toList) (by rw [Pol.last_length]; exact hN64) _).mono ?_; rintro e8 w8 ⟨rfl, rfl⟩
      go_wp2_with fail
      go_roundw
      case rel => exact ⟨k + 1, b2, gs2, by omega, by go_num, rfl, rfl, GR9.out, Hb2.out, BR9.out, Hgs2.out⟩
      case measure => simp [intOf]; omega
    · obtain rfl : k = len := by omega
      have hge : decide ((k : Int) < (k : Int)) = false := decide_eq_false (by omega)
      go_wp2_with fail
      refine (Hend.out _ BR.out).mono ?_; rintro e w1 ⟨rfl, hw1⟩
      go_wp2_with fail
      go_ret
      exact ⟨rfl, hw1⟩

theorem contract (H : Type) (enc : TypeId × Value → H) (W : World) (base : Nat) (args : Array Value) (ds gs : List (DataW H)) (before : List MemPlace)
    (hval : ∀ (j : Nat) t v, Try.f4.params[j]? = some t → args[j]? = some v → Value.okWide Try.prog W .any base t v)
    (hW : DataW.Whole enc Try.prog Try.f4.params.toList Rows.rabinRollsSpec.vars false W args.toList ds gs before)
    (hsz : (DataW.weightsEach Try.prog (Try.f4.params.toList ++ Rows.rabinRollsSpec.plain.varTypes Try.prog) (ds ++ gs)).all (· ≤ reachBytes) = true) :
    Calls Try.prog 4 args W fun e W' => ∃ v, e = .returned v ∧ Rows.rabinRollsSpec.post enc Try.prog Try.f4 false true false false W args v W' := by
  have hW' := hW
  obtain ⟨p, q, hA0, hV, rfl, hfz, hnd⟩ := hW
  have hA : DataW.TrodAll enc Try.prog W 0 (fun _ => true) true Try.f4.params.toList args.toList ds p := hA0
  rw [Try.params4] at hA hval hsz
  obtain ⟨v0, vs0, d0, ds0, p0, q0, hargs, rfl, rfl, h0, r0⟩ := trodAll_cons hA
  obtain ⟨v1, vs1, d1, ds1, p1, q1, rfl, rfl, rfl, h1, r1⟩ := trodAll_cons r0
  obtain ⟨v2, vs2, d2, ds2, p2, q2, rfl, rfl, rfl, h2, r2⟩ := trodAll_cons r1
  obtain ⟨rfl, rfl, rfl⟩ := trodAll_nil r2
  obtain rfl : args = #[v0, v1, v2] := Array.ext' hargs
  obtain ⟨rfl, rfl⟩ := trodVars_none hV
  obtain ⟨n0, rfl, rfl, rfl, w0⟩ := open_int Try.underlying22 (hval 0 22 v0 rfl rfl) h0
  obtain ⟨n1, rfl, rfl, rfl, w1⟩ := open_int Try.underlying3 (hval 1 3 v1 rfl rfl) h1
  obtain ⟨a2, len2, cap2, rfl⟩ := okWide_slice Try.underlying32 (hval 2 32 v2 rfl rfl)
  have k2 := h2
  have lt2 : ∀ x ∈ p2, x.block < W.heap.size := by obtain ⟨m, hm⟩ := k2; exact DataW.trod_lt m _ _ _ hm
  obtain ⟨fuel2, hf2⟩ := h2
  obtain ⟨l2, hst2, hok2, hll2, hnil2⟩ := open_rsteps Try.underlying32 Try.underlying41 rfl rfl Try.underlying3 Try.underlying9 (by kernel_rfl) (by kernel_rfl) (by kernel_rfl) hf2 (fun n hn => by
    have := List.all_eq_true.1 hsz n (by
      simp only [List.cons_append, DataW.weightsEach]
      exact List.mem_append_right _ (List.mem_append_right _ (List.mem_append_left _ hn)))
    simpa using this)
  clear hA0
  refine (walk n0 n1 a2 len2 cap2 l2 W w0 w1 hst2 hok2 hll2).mono fun e W' ⟨he, bel⟩ => ?_
  subst he
  exact ⟨_, rfl, _, _, _, [], _, [], hW', trodAll_mk1 (shut_bool Try.underlying4 _), (trodAll_cons_mk (shut_int Try.underlying22 w0) (trodAll_cons_mk (shut_int Try.underlying3 w1) (trodAll_cons_mk (Below.trod laidOut (by kernel_rfl) (of_decide_eq_true (by kernel_rfl)) k2 bel lt2) trodAll_mk0))), rfl, bel.frame _, fun h => by cases h⟩

set_option maxRecDepth 100000 in
theorem lifted (os : Os) (started : os.Started) (H : Type) (enc : TypeId × Value → H) :
    ReturnsInHanded {} Try.checked os 4 .any (Rows.rabinRollsSpec.pre6 enc Try.prog Try.f4 Rows.rabinRollsRow.domain false) (Rows.rabinRollsSpec.post enc Try.prog Try.f4 false true false false) := by
  refine returnsInHanded_of_change_sized (C := Try.checked) own started (by kernel_rfl) Try.func4
    (ChangeSpec.witness6 (enc := enc) (C := Try.checked) false ⟨#[], #[.int .u64 0, .int .i64 0, .slice none 0 0], []⟩ 8 (by kernel_rfl) (by kernel_rfl) (by kernel_rfl) (by kernel_rfl)) ?_
  intro W base args ds gs before hval hW hcnd hsz _
  exact contract H enc W base args ds gs before hval hW hsz

theorem over : Rows.rabinRollsRow.holds Try.pinned (OpenSpec.ofChange Rows.rabinRollsSpec) :=
  OpenClaim.holds_of_wide 4 Try.f4 rfl rfl rfl rfl rfl rfl rfl ⟨rfl, rfl, rfl, rfl, rfl⟩ rfl rfl rfl rfl rfl (by kernel_rfl) Try.func4 (by kernel_rfl)
    (of_decide_eq_true (by kernel_rfl)) (by unfold Func.isWrapper; first | (rw [if_pos (by decide +kernel)]; kernel_rfl) | (rw [if_neg (by decide +kernel)]; exact ⟨rfl, rfl⟩))
    (fun os started H enc _ => lifted os started H enc)

theorem proved : Rows.RabinRollsSaid := over

end Go.Proofs.Ytghabilmpjjedaa.rabRolls
