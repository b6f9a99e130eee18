/-
  CodeLines: the line of every instruction, and what every text is the line of, are those of the document's answer.
  Conditions: none.
-/
import Derived.Test.YtnnfpaheglkmoaaDoorCodAlive
import Derived.Test.YtnnfpaheglkmoaaDoorCodArg
import Derived.Test.YtnnfpaheglkmoaaDoorCards
import Derived.Test.YtnnfpaheglkmoaaDoorTie
import Derived.SevenTiedAt
import Derived.ProofKit
import Derived.OpenShut
import Derived.ShutString
import Derived.ChangeOld
namespace Go.Proofs.YtnnfpaheglkmoaaDoor.codeLines
open Go.ChangeShapes Go.WideShapes Go.ChangeAt Go.RowKit
open Go.ChangeMaps (open_string shut_string)
set_option linter.unusedVariables false
set_option maxRecDepth 100000

/-- two cells in a box of the call's own -/
structure Two (B : Nat) (x y : Value) (w : World) : Prop where
  c0 : w.cell? ⟨B, 0, none⟩ = some x
  c1 : w.cell? ⟨B, 1, none⟩ = some y
theorem Two.keep {B : Nat} {x y : Value} {w w' : World} (h : Two B x y w) (hb : Below w.heap.size w w') : Two B x y w' := by
  have e : w'.heap[B]? = w.heap[B]? := hb.block B (cell_lt h.c0)
  exact ⟨by rw [World.cell?_of_block e]; exact h.c0, by rw [World.cell?_of_block e]; exact h.c1⟩
theorem Two.new (w : World) (x y : Value) (T : TypeId) : Two w.heap.size x y (w.alloc (.cells #[x, y] T)) :=
  ⟨by rw [cell_of_row _ _ 0 _ _ _ (heap_alloc_new _ _)]; rfl, by rw [cell_of_row _ _ 1 _ _ _ (heap_alloc_new _ _)]; rfl⟩
theorem readR_same {s : ByteArray} {e f : Ending} (h : ReadR s e) (g : ReadR s f) : e = f := by
  rcases h with ⟨x, hx, rfl⟩ | ⟨hn, rfl⟩ <;> rcases g with ⟨y, hy, rfl⟩ | ⟨hm, rfl⟩
  · rw [hx.one hy]
  · exact (hm _ hx).elim
  · exact (hn _ hy).elim
  · rfl
theorem readR_form {s : ByteArray} {e : Ending} (h : ReadR s e) : ∃ (x : Cod.In) (n : Int), e = .returned (.tuple #[insV x, .int .i64 n]) := by
  rcases h with ⟨x, hx, rfl⟩ | ⟨hn, rfl⟩
  · exact ⟨x, 0, rfl⟩
  · exact ⟨(0, 0), 7, rfl⟩

set_option maxHeartbeats 4000000 in
theorem walk (x : Cod.In) (s : ByteArray) (w : World) (hK : Kn w) (hs : s.size ≤ 140737488351232) :
    Calls Tryd.prog 4 #[insV x, .string s] w fun e w' => e = .returned (.bool true) ∧ Below w.heap.size w w' := by
  have hb0 := obj_below w (.cells #[.int .u8 (x.1.toNat : Int), .int .u8 (x.2.toNat : Int)] 39)
  have hk0 := hK.keep hb0
  by_cases hl : 100 < s.size
  · have hd : decide ((100 : Int) < (s.size : Int)) = true := decide_eq_true (by omega)
    have HK := Lib.hid hk0
    have Hb0 := Lib.hid hb0
    clear hk0 hb0 hK hl
    unfold insV
    go_enter Tryd.func4, Tryd.ntmps4
    go_wp2_with fail
    refine (alive_any _ HK.out).mono ?_; rintro e w1 ⟨rfl, h1⟩
    have Hb1 := Lib.hid (Hb0.out.trans (h1.mono Hb0.out.size)); clear h1
    go_wp2_with fail
    go_ret
    exact ⟨rfl, Hb1.out⟩
  · have hd : decide ((100 : Int) < (s.size : Int)) = false := decide_eq_false (by omega)
    have c1 := fun u k => line_any x u k
    have c2 := fun u k => read_any s (by omega) u k
    have c3 := fun u k => refRead12_any s u k
    have c4 := fun u => refIns_any x u
    have c5 := fun u k => refLine_any x u k
    have ht0 := Two.new w (.int .u8 (x.1.toNat : Int)) (.int .u8 (x.2.toNat : Int)) 39
    obtain ⟨L, hL⟩ : ∃ L, L = (⟨(Cod.line x).toArray⟩ : ByteArray) := ⟨_, rfl⟩
    have hly := @lineS_yes x
    rw [← hL] at c5 hly
    have hey := @lineE_yes x
    have hen := @lineE_no x
    have hln : ¬ Cod.ins x = true → lineS x = ⟨#[]⟩ := fun h => if_neg h
    generalize lineS x = LS at *
    generalize lineE x = LE at *
    generalize Cod.ins x = IX at *
    clear hL hl
    have C1 := Lib.hid c1; clear c1
    have C2 := Lib.hid c2; clear c2
    have C3 := Lib.hid c3; clear c3
    have C4 := Lib.hid c4; clear c4
    have C5 := Lib.hid c5; clear c5
    have Hk0 := Lib.hid hk0; clear hk0 hK
    have Hb0 := Lib.hid hb0; clear hb0
    have Ht0 := Lib.hid ht0; clear ht0
    unfold insV at *
    generalize x.1.toNat = X1 at *
    generalize x.2.toNat = X2 at *
    go_enter Tryd.func4, Tryd.ntmps4
    go_wp2_with fail
    refine (C1.out _ Hk0.out).mono ?_; rintro e w1 ⟨rfl, h1⟩
    have Hk1 := Lib.hid (Hk0.out.keep h1)
    have Ht1 := Lib.hid (Ht0.out.keep h1)
    have Hb1 := Lib.hid (Hb0.out.trans (h1.mono Hb0.out.size)); clear h1 Hk0 Ht0 Hb0
    go_wp2_with fail
    refine (C2.out _ Hk1.out).mono ?_; rintro e w2 ⟨hr, h2⟩
    obtain ⟨y, n, rfl⟩ := readR_form hr
    have Hr := Lib.hid hr; clear hr
    have h3 := h2.trans ((obj_below w2 (.cells #[.int .u8 (y.1.toNat : Int), .int .u8 (y.2.toNat : Int)] 39)).mono h2.size)
    have Hk3 := Lib.hid (Hk1.out.keep h3)
    have Ht3 := Lib.hid (Ht1.out.keep h3)
    have Hb3 := Lib.hid (Hb1.out.trans (h3.mono Hb1.out.size))
    have Hy3 := Lib.hid (Two.new w2 (.int .u8 (y.1.toNat : Int)) (.int .u8 (y.2.toNat : Int)) 39)
    clear h2 h3 Hk1 Ht1 Hb1
    unfold insV at *
    go_wp2_with fail
    refine (C3.out _ Hk3.out).mono ?_; rintro e w4 ⟨hr, h4⟩
    obtain rfl := readR_same Hr.out hr
    clear hr Hr
    have h5 := h4.trans ((obj_below w4 (.cells #[.int .u8 (y.1.toNat : Int), .int .u8 (y.2.toNat : Int)] 39)).mono h4.size)
    have hk5 := Hk3.out.keep h5
    have ht5 := Ht3.out.keep h5
    have hb5 := Hb3.out.trans (h5.mono Hb3.out.size)
    have hy5 := Hy3.out.keep h5
    have hz5 := Two.new w4 (.int .u8 (y.1.toNat : Int)) (.int .u8 (y.2.toNat : Int)) 39
    generalize y.1.toNat = Y1 at *
    generalize y.2.toNat = Y2 at *
    clear h4 h5
    have x0 := ht5.c0
    have x1 := ht5.c1
    have y0 := hy5.c0
    have y1 := hy5.c1
    have z0 := hz5.c0
    have z1 := hz5.c1
    have Hk5 := Lib.hid hk5; clear hk5
    have Hb5 := Lib.hid hb5; clear hb5
    clear ht5 hy5 hz5 Hk3 Ht3 Hb3 Hy3
    go_wp2_with fail
    refine (C4.out _).mono ?_; rintro e w6 ⟨rfl, h6⟩
    have hx6 : Two w.heap.size (.int .u8 (X1 : Int)) (.int .u8 (X2 : Int)) w6 := Two.keep ⟨x0, x1⟩ h6
    clear x0 x1 y0 y1 z0 z1
    have x0 := hx6.c0
    have x1 := hx6.c1
    have Hk6 := Lib.hid (Hk5.out.keep h6)
    have Hb6 := Lib.hid (Hb5.out.trans (h6.mono Hb5.out.size)); clear h6 hx6
    cases IX with
    | false =>
      obtain rfl := hln (by simp)
      obtain rfl := hen (by simp)
      clear hln hen hly hey
      go_wp2_with fail
      refine (alive_any _ Hk6.out).mono ?_; rintro e w7 ⟨rfl, h7⟩
      have Hb7 := Lib.hid (Hb6.out.trans (h7.mono Hb6.out.size)); clear h7
      go_wp2_with fail
      go_ret
      exact ⟨rfl, Hb7.out⟩
    | true =>
      obtain rfl := hly rfl
      obtain rfl := hey rfl
      clear hln hen hly hey
      go_wp2_with fail
      refine (C5.out _ Hk6.out).mono ?_; rintro e w7 ⟨rfl, h7⟩
      have Hk7 := Lib.hid (Hk6.out.keep h7)
      have Hb7 := Lib.hid (Hb6.out.trans (h7.mono Hb6.out.size)); clear h7
      go_wp2_with fail
      refine (alive_any _ Hk7.out).mono ?_; rintro e w8 ⟨rfl, h8⟩
      have Hb8 := Lib.hid (Hb7.out.trans (h8.mono Hb7.out.size)); clear h8
      go_wp2_with fail
      go_ret
      exact ⟨rfl, Hb8.out⟩

set_option maxRecDepth 100000 in
theorem lifted (os : Os) (started : os.Started) (H : Type) (enc : TypeId × Value → H) :
    ReturnsInHanded {} Tryd.checked os 4 .any (fun w args => (Rows.codeLinesSpec.pre enc Tryd.prog Tryd.f4 [] false w args ∧ laidMetH Tryd.prog laidList w) ∧ sizedMet enc Tryd.prog Tryd.f4 (OpenSpec.ofChange Rows.codeLinesSpec) false w args)
      (Rows.codeLinesSpec.post enc Tryd.prog Tryd.f4 false true false false) := by
  refine returnsInHanded_of_change_and (C := Tryd.checked) (X := fun w _ => laidMetH Tryd.prog laidList w) (fun _ _ _ hh h => h.of_heap hh) own started (by kernel_rfl) Tryd.func4
    (ChangeSpec.witness_shaped (enc := enc) (C := Tryd.checked) (os := os) (X := fun w _ => laidMetH Tryd.prog laidList w) false (World.doorLaid Tryd.prog 400 os) #[.agg #[.int .u8 0, .int .u8 0], .string .empty] 8 rfl (World.shaped_of_RefB (by kernel_rfl) (by kernel_rfl)) (by kernel_rfl) (by kernel_rfl) (by kernel_rfl) (door_met os _)) ?_
  intro W base args ds gs before hval0 hW _ hsz hL _
  have hval : ∀ (j : Nat) t v, Tryd.f4.params[j]? = some t → args[j]? = some v → Value.okWide Tryd.prog W .any base t v := hval0
  have hW' := hW
  obtain ⟨p, q, hA0, hV, rfl, hfz, hnd⟩ := hW
  have hA : DataW.TrodAll enc Tryd.prog W 0 (fun _ => true) true Tryd.f4.params.toList args.toList ds p := hA0
  rw [Tryd.params4] at hA hval hsz
  obtain ⟨v0, vs0, d0, ds0, p0, q0, hargs, rfl, rfl, h0, r0⟩ := trodAll_cons hA
  obtain ⟨v1, vs1, d1, ds1, p1, q1, rfl, rfl, rfl, h1, r1⟩ := trodAll_cons r0
  obtain ⟨rfl, rfl, rfl⟩ := trodAll_nil r1
  obtain rfl : args = #[v0, v1] := Array.ext' hargs
  obtain ⟨rfl, rfl⟩ := trodVars_none hV
  have k0 := h0
  have lt0 : ∀ x ∈ p0, x.block < W.heap.size := by obtain ⟨m, hm⟩ := k0; exact DataW.trod_lt m _ _ _ hm
  obtain ⟨y0, rfl⟩ := open_instr Tryd.underlying39 rfl rfl Tryd.underlying5 (by kernel_rfl) (by kernel_rfl) (hval 0 39 v0 rfl rfl) h0
  obtain ⟨s1, rfl, rfl, rfl, m1⟩ := open_string Tryd.underlying9 (hval 1 9 v1 rfl rfl) h1
  clear hA0 hval0
  have z1 : s1.size ≤ 140737488351232 := by
    have := List.all_eq_true.1 hsz s1.data.toList.length (by simp [DataW.weightsEach, DataW.weights])
    rw [ba_len] at this
    exact of_decide_eq_true this
  refine (walk y0 s1 W (kn_of_laid hL) z1).mono fun e W' ⟨he, bel⟩ => ?_
  subst he
  exact ⟨_, rfl, _, _, _, [], _, [], hW', trodAll_mk1 (shut_bool Tryd.underlying4 _), (trodAll_cons_mk (Below.trod laidOut (by kernel_rfl) (of_decide_eq_true (by kernel_rfl)) k0 bel lt0) (trodAll_cons_mk (shut_string Tryd.underlying9 m1) trodAll_mk0)), rfl, bel.frame _, fun h => by cases h⟩

theorem over : Rows.CodeLinesSaid :=
  OpenClaim.holds_of_wide 4 Tryd.f4 rfl rfl rfl rfl rfl rfl rfl ⟨rfl, rfl, rfl, rfl, rfl⟩ rfl rfl rfl rfl rfl (by kernel_rfl) Tryd.func4 (by kernel_rfl)
    (of_decide_eq_true (by kernel_rfl)) (by unfold Func.isWrapper; first | (rw [if_pos (by decide +kernel)]; kernel_rfl) | (rw [if_neg (by decide +kernel)]; exact ⟨rfl, rfl⟩))
    (fun os started H enc _ => lifted os started H enc)

theorem proved : Rows.CodeLinesCardSaid :=
  Claim7.holds_tied_plain_at .later [] [.data, .data, .data, .sentinel, .sentinel, .data] true (true, "2de14e119a99bd7d62ecb69984659d0c0f63684b708a2311cf1fd744a6a11253") true
    over (fun _ h => by cases h) (by kernel_rfl) (fun _ h => by cases h) codeLines_row_tie rfl ⟨rfl, rfl⟩ (by kernel_rfl) rfl
    (fun f fn hf hfn => by
      obtain rfl : f = 4 := Option.some.inj ((show Tryd.prog.funcNamed "maslin/maslinlaw12.CodeLines" = some 4 by kernel_rfl).symm.trans hf) |>.symm
      obtain rfl : fn = Tryd.f4 := (Option.some.inj (Tryd.func4.symm.trans hfn)).symm
      exact ⟨by kernel_rfl, fun j t ht => by
        rw [Tryd.params4] at ht
        have hm : t ∈ [39, 9] := by simpa using Array.mem_of_getElem? ht
        have hall : ([39, 9].all fun u => !Tryd.prog.wantsStandIn u) = true := by kernel_rfl
        exact (show Tryd.prog.wantsStandIn t = false by simpa using List.all_eq_true.1 hall t hm)⟩)
    (by kernel_rfl)
end Go.Proofs.YtnnfpaheglkmoaaDoor.codeLines
