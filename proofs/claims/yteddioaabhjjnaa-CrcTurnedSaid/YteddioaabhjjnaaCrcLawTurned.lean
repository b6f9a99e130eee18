/-
  CrcTurned: whoever turns bits that lie within 32 in a row of a sealed text is found out: for every text, every place and all turns.
  Conditions: none.
-/
import Derived.Test.YteddioaabhjjnaaCrcAlive
import Derived.Test.YteddioaabhjjnaaCrcTurnPure
import Derived.StillTailTactics
import Derived.ProofKit
import Derived.OpenShut
import Derived.ShutString
import Derived.ChangeOld
import Derived.SizedLaws
namespace Go.Proofs.Yteddioaabhjjnaa.lawTurned
open Go.ChangeShapes Go.WideShapes Go.ChangeAt Go.RowKit
open Go.ChangeMaps (open_string shut_string)
set_option linter.unusedVariables false

theorem own : ownKnob Try.prog.godebug = none := by kernel_rfl
theorem laidOut : laidOutB Try.prog = true := by kernel_rfl

set_option maxRecDepth 100000 in
set_option maxHeartbeats 4000000 in
theorem walk (s : ByteArray) (at_ turns : Int) (w : World) (hs : s.size ≤ 140737488351232) (hA : (Lit.int .u16 at_).wf = true) (hT : (Lit.int .u32 turns).wf = true) :
    Calls Try.prog 5 #[.string s, .int .u16 at_, .int .u32 turns] w fun e w' => e = .returned (.bool true) ∧ Below w.heap.size w w' := by
  have hA2 : 0 ≤ at_ ∧ at_ ≤ 65535 := by simpa [Lit.wf, IntKind.min, IntKind.max, IntKind.signed, IntKind.bits] using hA
  have hT2 : 0 ≤ turns ∧ turns ≤ 4294967295 := by simpa [Lit.wf, IntKind.min, IntKind.max, IntKind.signed, IntKind.bits] using hT
  obtain ⟨A, rfl⟩ := Int.eq_ofNat_of_zero_le hA2.1
  obtain ⟨T, rfl⟩ := Int.eq_ofNat_of_zero_le hT2.1
  have hAb : A < 65536 := by omega
  have hTb : T < 4294967296 := by omega
  clear hA hT hA2 hT2
  by_cases hl : 4096 < s.size
  · have hd : decide ((4096 : Int) < (s.size : Int)) = true := decide_eq_true (by omega)
    go_enter Try.func5, Try.ntmps5
    go_wp2_with fail
    refine (alive_any _).mono ?_; rintro e w1 ⟨rfl, hb⟩
    go_wp2_with fail
    go_ret
    exact ⟨rfl, hb⟩
  have hd : decide ((4096 : Int) < (s.size : Int)) = false := decide_eq_false (by omega)
  by_cases h0 : T = 0
  · subst h0
    rw [show ((0 : Nat) : Int) = 0 from rfl]
    go_enter Try.func5, Try.ntmps5
    go_wp2_with fail
    refine (alive_any _).mono ?_; rintro e w1 ⟨rfl, hb⟩
    go_wp2_with fail
    go_ret
    exact ⟨rfl, hb⟩
  have hd0 : decide (T = 0) = false := decide_eq_false h0
  have hd1 : decide ((T : Int) = 0) = false := decide_eq_false (by omega)
  have hd2 : ((T : Int) == 0) = false := beq_eq_false_iff_ne.2 (by omega)
  have cs := fun u => seal_any s hs u
  have hzl := sealB_list s
  have hzz := sealB_size s
  generalize hz : sealB s = z at *
  have Hz := Lib.hid hz; clear hz
  have Hzl := Lib.hid hzl; clear hzl
  have Cs := Lib.hid cs; clear cs
  have hcv := fun u => run_bytesWorld (P := Try.prog) 9 35 5 Try.underlying9 Try.underlying35 Try.underlying5 z u
  go_enter Try.func5, Try.ntmps5
  go_wp2_with fail
  refine (Cs.out _).mono ?_; rintro e w1 ⟨rfl, h1⟩
  go_wp2_with fail
  obtain ⟨fr, hfr⟩ : ∃ fr, fr = A % (8 * (s.size + 4) - 31) := ⟨_, rfl⟩
  have hfb : fr + 32 ≤ 8 * (s.size + 4) := by
    have := Nat.mod_lt A (show 0 < 8 * (s.size + 4) - 31 by omega)
    omega
  have hfi : (A : Int) % (8 * ((s.size : Int) + 4) - 31) = (fr : Int) := by
    rw [hfr, show 8 * ((s.size : Int) + 4) - 31 = ((8 * (s.size + 4) - 31 : Nat) : Int) by omega]
    rfl
  rw [hfi]
  have harr := bytesWorld_arr z 5 w1
  have hbel := bytesWorld_below z 5 h1 h1.size
  have hsz2 := bytesWorld_size z 5 w1
  have hBw := h1.size
  generalize grownCap w1 (s.size + 4) 0 5 = cap at *
  generalize bytesWorld z 5 w1 = w2 at *
  generalize w1.heap.size = B at *
  have Harr := Lib.hid harr; clear harr
  have Hbel := Lib.hid hbel; clear hbel
  clear h1 hcv hfi hfr hAb
  go_loopw [9] (fun i wr => ∃ (k : Nat) (m : List UInt8), k ≤ 32 ∧ i = .int .i64 k ∧ m.length = s.size + 4 ∧ Crc.val m = Crc.val z.data.toList ^^^ (T % 2 ^ k * 2 ^ fr) ∧ ArrB B m wr ∧ wr.heap.size = B + 1 ∧ Below w.heap.size w wr) (fun i _ => 32 - (intOf i).toNat)
  case atStart => exact ⟨0, _, by omega, rfl, by rw [ba_len, hzz], by simp [Nat.mod_one], Harr.out, hsz2, Hbel.out⟩
  case round =>
    clear Harr Hbel hsz2
    obtain ⟨k, m, hk, rfl, hml, hval, harr, hwz, hbel⟩ := hrel
    have Hval := Lib.hid hval; clear hval
    have Hbel := Lib.hid hbel; clear hbel
    have Harr := Lib.hid harr; clear harr
    have Hml := Lib.hid hml; clear hml
    have Hwz := Lib.hid hwz; clear hwz
    by_cases hlt : k < 32
    · have hbit : ((T / 2 ^ k : Nat) : Int) = (T : Int) / 2 ^ k := by simp
      obtain ⟨q, hq⟩ : ∃ q, q = T / 2 ^ k := ⟨_, rfl⟩
      rw [← hq] at hbit
      by_cases ho : q % 2 = 1
      · have ho2 : (q : Int) % 2 = 1 := by omega
        rw [hbit] at ho2
        have hn := Crc.turns_one T k fr (by rw [← hq]; exact ho)
        obtain ⟨j, hj⟩ : ∃ j, j = (fr + k) / 8 := ⟨_, rfl⟩
        obtain ⟨t, ht⟩ : ∃ t, t = (fr + k) % 8 := ⟨_, rfl⟩
        have hjt : 8 * j + t = fr + k := by omega
        have hj1 : ((fr : Int) + (k : Int)) / 8 = (j : Int) := by omega
        have ht1 : ((fr : Int) + (k : Int)) % 8 = (t : Int) := by omega
        have ht8 : t < 8 := by omega
        have hjl : j < s.size + 4 := by omega
        have hjm : j < m.length := by rw [Hml.out]; exact hjl
        have hvs := Crc.val_set m j t hjm ht8
        have hcell := Harr.out.cell hjm
        have hfree := Harr.out.free hjm
        have hob := (m.getD j 0).toNat_lt
        generalize (m.getD j 0).toNat = o at *
        have hpt : 2 ^ t < 2 ^ 8 := Nat.pow_lt_pow_of_lt (by decide) ht8
        have hpt2 : 2 ^ t < 256 := hpt
        have hxb : bits .xor .u8 (o : Int) ((2 : Int) ^ t) = ((o ^^^ 2 ^ t : Nat) : Int) := by
          rw [show ((2 : Int) ^ t) = ((2 ^ t : Nat) : Int) by simp]
          exact u8_xor_nat o (2 ^ t) (by omega) hpt2
        have hxl : o ^^^ 2 ^ t < 256 := Nat.xor_lt_two_pow (n := 8) (by omega) hpt
        have hst := Harr.out.store hjm (UInt8.ofNat (o ^^^ 2 ^ t)) ((o ^^^ 2 ^ t : Nat) : Int) (by rw [UInt8.toNat_ofNat', Nat.mod_eq_of_lt hxl])
        rw [hjt] at hvs
        clear hj ht hjt
        have Hq := Lib.hid hq; clear hq
        have i0 : (0 : Int) ≤ (j : Int) := by omega
        have i1 : (j : Int) < (s.size : Int) + 4 := by omega
        have tj : ((j : Int)).toNat = j := by omega
        have tt : ((t : Int)).toNat = t := by omega
        have hsh : IntKind.u8.wrap ((2 : Int) ^ t) = ((2 ^ t : Nat) : Int) := by
          rw [show ((2 : Int) ^ t) = ((2 ^ t : Nat) : Int) by simp]
          generalize 2 ^ t = g at hpt2
          exact wrap_u8_in _ (by omega) (by omega)
        have Hvs := Lib.hid hvs; clear hvs
        have Hn := Lib.hid hn; clear hn
        have Hst := Lib.hid hst; clear hst
        go_wp2_with fail
        go_roundw
        case rel =>
          refine ⟨k + 1, m.set j (UInt8.ofNat (o ^^^ 2 ^ t)), by omega, by go_num, by rw [List.length_set]; exact Hml.out, ?_, Hst.out, ?_, Hbel.out.setCell (by simp; omega) _⟩
          · rw [Hvs.out, Hval.out, Nat.xor_assoc, Hn.out]
          · rw [World.size_setCell]; exact Hwz.out
        case measure => simp [intOf]; omega
      · have ho0 : q % 2 = 0 := by omega
        have ho2 : (q : Int) % 2 = 0 := by omega
        rw [hbit] at ho2
        have hn := Crc.turns_nil T k fr (by rw [← hq]; exact ho0)
        have Hn := Lib.hid hn; clear hn
        go_wp2_with fail
        go_roundw
        case rel => exact ⟨k + 1, m, by omega, by go_num, Hml.out, by rw [Hval.out, Hn.out], Harr.out, Hwz.out, Hbel.out⟩
        case measure => simp [intOf]; omega
    · obtain rfl : k = 32 := by omega
      have hTm : T % 2 ^ 32 = T := Nat.mod_eq_of_lt hTb
      have hne : ∀ y, m ≠ Crc.sealT y := Crc.turned s.data.toList m (s.size + 4) fr T h0 hTb (by rw [Hml.out, ← Hzl.out, ba_len, hzz]) (by rw [Hml.out]; exact hfb) (by rw [Hval.out, hTm, Hzl.out])
      have hop : opn ⟨m.toArray⟩ = (.empty, 7) := opn_none _ (by show 4 ≤ m.toArray.size; rw [List.size_toArray, Hml.out]; omega) (fun y e => hne y.data.toList (by have := congrArg (fun b : ByteArray => b.data.toList) e; simpa [sealB_list] using this))
      have hms : (⟨m.toArray⟩ : ByteArray).size = s.size + 4 := by show m.toArray.size = _; rw [List.size_toArray, Hml.out]
      have co := fun u => open_any ⟨m.toArray⟩ (by rw [hms]; omega) u
      have ck := fun u => ok_any ⟨m.toArray⟩ (by rw [hms]; omega) u
      rw [hop] at co ck
      have hcv : ∀ u, Below wr.heap.size wr u → (convert 35 9 (.slice (some ⟨B, 0, none⟩) (s.size + 4) cap)).run Try.prog u = .ok (.string ⟨m.toArray⟩) u := by
        intro u hu
        have := (Harr.out.below hu (by rw [Hwz.out]; omega)).conv (P := Try.prog) 35 9 5 Try.underlying35 Try.underlying5 Try.underlying9 (s.size + 4) cap (by rw [Hml.out]; omega)
        rw [this, List.take_of_length_le (by rw [Hml.out]; omega)]
      generalize (⟨m.toArray⟩ : ByteArray) = mb at *
      have hc0 := hcv wr (.refl _ _)
      have Hcv := Lib.hid hcv; clear hcv
      have Co := Lib.hid co; clear co
      have Ck := Lib.hid ck; clear ck
      clear hop hms hne hTm
      rw [show ((32 : Nat) : Int) = 32 from rfl]
      go_wp2_with fail
      refine (Co.out _).mono ?_; rintro e w3 ⟨rfl, h3⟩
      have hc1 := Hcv.out w3 h3
      go_wp2_with fail
      refine (Ck.out _).mono ?_; rintro e w4 ⟨rfl, h4⟩
      go_wp2_with fail
      refine (alive_any _).mono ?_; rintro e w5 ⟨rfl, h5⟩
      go_wp2_with fail
      go_ret
      have k3 := Hbel.out.trans (h3.mono Hbel.out.size)
      have k4 := k3.trans (h4.mono k3.size)
      exact ⟨rfl, k4.trans (h5.mono k4.size)⟩

theorem contract (H : Type) (enc : TypeId × Value → H) (W : World) (base : Nat) (args : Array Value) (ds gs : List (DataW H)) (before : List MemPlace)
    (hval : ∀ (j : Nat) t v, Try.f5.params[j]? = some t → args[j]? = some v → Value.okWide Try.prog W .any base t v)
    (hW : DataW.Whole enc Try.prog Try.f5.params.toList Rows.crcTurnedSpec.vars false W args.toList ds gs before)
    (hsz : (DataW.weightsEach Try.prog (Try.f5.params.toList ++ Rows.crcTurnedSpec.plain.varTypes Try.prog) (ds ++ gs)).all (· ≤ reachBytes) = true) :
    Calls Try.prog 5 args W fun e W' => ∃ v, e = .returned v ∧ Rows.crcTurnedSpec.post enc Try.prog Try.f5 false true false false W args v W' := by
  have hW' := hW
  obtain ⟨p, q, hA0, hV, rfl, hfz, hnd⟩ := hW
  have hA : DataW.TrodAll enc Try.prog W 0 (fun _ => true) true Try.f5.params.toList args.toList ds p := hA0
  rw [Try.params5] at hA hval hsz
  obtain ⟨v0, vs0, d0, ds0, p0, q0, hargs, rfl, rfl, h0, r0⟩ := trodAll_cons hA
  obtain ⟨v1, vs1, d1, ds1, p1, q1, rfl, rfl, rfl, h1, r1⟩ := trodAll_cons r0
  obtain ⟨v2, vs2, d2, ds2, p2, q2, rfl, rfl, rfl, h2, r2⟩ := trodAll_cons r1
  obtain ⟨rfl, rfl, rfl⟩ := trodAll_nil r2
  obtain rfl : args = #[v0, v1, v2] := by cases args; simp_all
  obtain ⟨rfl, rfl⟩ := trodVars_none hV
  obtain ⟨s0, rfl, rfl, rfl, m0⟩ := open_string Try.underlying9 (hval 0 9 v0 rfl rfl) h0
  obtain ⟨n1, rfl, rfl, rfl, w1⟩ := open_int Try.underlying34 (hval 1 34 v1 rfl rfl) h1
  obtain ⟨n2, rfl, rfl, rfl, w2⟩ := open_int Try.underlying26 (hval 2 26 v2 rfl rfl) h2
  clear hA0
  have z0 : s0.size ≤ 140737488351232 := by
    have := List.all_eq_true.1 hsz s0.data.toList.length (by simp [DataW.weightsEach, DataW.weights])
    rw [ba_len] at this
    exact of_decide_eq_true this
  refine (walk s0 n1 n2 W z0 w1 w2).mono fun e W' ⟨he, bel⟩ => ?_
  subst he
  exact ⟨_, rfl, _, _, _, [], _, [], hW', trodAll_mk1 (shut_bool Try.underlying4 _), (trodAll_cons_mk (shut_string Try.underlying9 m0) (trodAll_cons_mk (shut_int Try.underlying34 w1) (trodAll_cons_mk (shut_int Try.underlying26 w2) trodAll_mk0))), rfl, bel.frame _, fun h => by cases h⟩

set_option maxRecDepth 100000 in
theorem lifted (os : Os) (started : os.Started) (H : Type) (enc : TypeId × Value → H) :
    ReturnsInHanded {} Try.checked os 5 .any (Rows.crcTurnedSpec.pre6 enc Try.prog Try.f5 Rows.crcTurnedRow.domain false) (Rows.crcTurnedSpec.post enc Try.prog Try.f5 false true false false) := by
  refine returnsInHanded_of_change_sized (C := Try.checked) own started (by kernel_rfl) Try.func5
    (ChangeSpec.witness6 (enc := enc) (C := Try.checked) false ⟨#[], #[.string .empty, .int .u16 0, .int .u32 0], []⟩ 8 (by kernel_rfl) (by kernel_rfl) (by kernel_rfl) (by kernel_rfl)) ?_
  intro W base args ds gs before hval hW hcnd hsz _
  exact contract H enc W base args ds gs before hval hW hsz

theorem over : Rows.crcTurnedRow.holds Try.pinned (OpenSpec.ofChange Rows.crcTurnedSpec) :=
  OpenClaim.holds_of_wide 5 Try.f5 rfl rfl rfl rfl rfl rfl rfl ⟨rfl, rfl, rfl, rfl, rfl⟩ rfl rfl rfl rfl rfl (by kernel_rfl) Try.func5 (by kernel_rfl)
    (of_decide_eq_true (by kernel_rfl)) (by unfold Func.isWrapper; first | (rw [if_pos (by decide +kernel)]; kernel_rfl) | (rw [if_neg (by decide +kernel)]; exact ⟨rfl, rfl⟩))
    (fun os started H enc _ => lifted os started H enc)

theorem proved : Rows.CrcTurnedSaid := over
end Go.Proofs.Yteddioaabhjjnaa.lawTurned
