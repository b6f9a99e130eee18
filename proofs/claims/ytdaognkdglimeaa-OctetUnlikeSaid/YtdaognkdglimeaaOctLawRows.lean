/-
  OctetRows: for every row of texts and every text, what package octet puts and reads is what the document's answer puts and reads.
  Conditions: none.
-/
import Derived.Test.YtdaognkdglimeaaOctAlive
import Derived.Test.YtdaognkdglimeaaOctReadRow2
import Derived.Test.YtdaognkdglimeaaOctSame
import Derived.Deep.DeepCutAuto
import Derived.Laws.AppendOwnNone
import Derived.ProofKit
import Derived.OpenShut
import Derived.ShutString
import Derived.ChangeOld
import Derived.SizedLaws
namespace Go.Proofs.Ytdaognkdglimeaa.lawRows
open Go.ChangeShapes Go.WideShapes Go.ChangeAt Go.RowKit
open Go.ChangeMaps (open_string shut_string)
set_option linter.unusedVariables false

theorem own : ownKnob Try.prog.godebug = none := by kernel_rfl
theorem laidOut : laidOutB Try.prog = true := by kernel_rfl

/-- the texts whose lists of bytes these are -/
def texts (L : List (List UInt8)) : List ByteArray := L.map fun x => ⟨x.toArray⟩
theorem lists_texts (L : List (List UInt8)) : lists (texts L) = L := by
  simp [lists, texts, Function.comp_def]

theorem long_bounds {l : List ByteArray} (h : longB l = false) : l.length ≤ 300 ∧ ∀ j, (l.getD j .empty).size ≤ 262144 := by
  unfold longB at h
  simp only [Bool.or_eq_false_iff, decide_eq_false_iff_not] at h
  obtain ⟨h1, h2⟩ := h
  refine ⟨by omega, fun j => ?_⟩
  by_cases hj : j < l.length
  · have := size_le_tot l j (min l.length 400) (by omega) hj
    omega
  · rw [List.getD_eq_getElem?_getD, List.getElem?_eq_none (by omega)]
    exact Nat.zero_le _

theorem octNone (s : ByteArray) (w : World) (hm : s.size ≤ 281474976710656) (h : Oct.readRow s.data.toList = none) :
    Calls Try.prog 19 #[.string s] w fun e w' => e = .returned (.tuple #[.slice none 0 0, .int .i64 7]) ∧ Below w.heap.size w w' := by
  refine (octReadRow_any s w hm).mono fun e w' hg => ?_
  rw [h] at hg
  obtain ⟨hb, ⟨_, he⟩ | ⟨l, a, cap, c, _⟩⟩ := hg
  · exact ⟨he, hb⟩
  · cases c
theorem refNone (s : ByteArray) (w : World) (hm : s.size ≤ 281474976710656) (h : Oct.readRow s.data.toList = none) :
    Calls Try.prog 20 #[.string s] w fun e w' => e = .returned (.tuple #[.slice none 0 0, .int .i64 7]) ∧ Below w.heap.size w w' := by
  refine (refReadRow_any s w hm).mono fun e w' hg => ?_
  rw [h] at hg
  obtain ⟨hb, ⟨_, he⟩ | ⟨l, a, cap, c, _⟩⟩ := hg
  · exact ⟨he, hb⟩
  · cases c
theorem octSome (s : ByteArray) (w : World) (hm : s.size ≤ 281474976710656) (l : List ByteArray) (h : Oct.readRow s.data.toList = some (lists l)) :
    Calls Try.prog 19 #[.string s] w fun e w' => (∃ a cap, e = .returned (.tuple #[.slice a l.length cap, .int .i64 0]) ∧ Strs a l.length l w') ∧ Below w.heap.size w w' := by
  refine (octReadRow_any s w hm).mono fun e w' hg => ?_
  rw [h] at hg
  obtain ⟨hb, ⟨c, _⟩ | ⟨l', a, cap, c, he, hs⟩⟩ := hg
  · cases c
  · obtain rfl : l = l' := lists_inj (Option.some.inj c)
    exact ⟨⟨a, cap, he, hs⟩, hb⟩
theorem refSome (s : ByteArray) (w : World) (hm : s.size ≤ 281474976710656) (l : List ByteArray) (h : Oct.readRow s.data.toList = some (lists l)) :
    Calls Try.prog 20 #[.string s] w fun e w' => (∃ a cap, e = .returned (.tuple #[.slice a l.length cap, .int .i64 0]) ∧ Strs a l.length l w') ∧ Below w.heap.size w w' := by
  refine (refReadRow_any s w hm).mono fun e w' hg => ?_
  rw [h] at hg
  obtain ⟨hb, ⟨c, _⟩ | ⟨l', a, cap, c, he, hs⟩⟩ := hg
  · cases c
  · obtain rfl : l = l' := lists_inj (Option.some.inj c)
    exact ⟨⟨a, cap, he, hs⟩, hb⟩

theorem sameB_self (l : List ByteArray) : sameB l l = true := by simp [sameB]

theorem readRow_length {s : List UInt8} {L : List (List UInt8)} (h : Oct.readRow s = some L) : L.length ≤ 65535 := by
  unfold Oct.readRow at h
  split at h
  · have h1 := (Oct.readN_back _ _ _ h).1
    have := Oct.hd_lt s
    omega
  · simp at h

set_option maxRecDepth 100000 in
set_option maxHeartbeats 2000000 in
theorem walk (a : Option Addr) (len cap : Nat) (l : List ByteArray) (s : ByteArray) (w : World) (hl : Strs a len l w) (hz : ∀ x ∈ l, x.size ≤ 140737488351232) (hlen : len ≤ 8796093022208) (hnil : a = none → len = 0 ∧ cap = 0) (hs : s.size ≤ maxLen) :
    Calls Try.prog 4 #[.slice a len cap, .string s] w fun e w' => e = .returned (.bool true) ∧ Below w.heap.size w w' := by
  unfold maxLen at hs
  obtain ⟨i0, hi, hz0, hz1, hz2⟩ := info_parts infoStr
  have clong := fun c => long_any a len c l w hl hlen hz
  have Cl := Lib.hid clong; clear clong
  have HL := Lib.hid hl; clear hl
  have Hz := Lib.hid hz; clear hz
  have Hnil := Lib.hid hnil; clear hnil
  by_cases hlong : longB l = true ∨ 131072 < s.size
  · have hd : (longB l = true) ∨ (longB l = false ∧ decide ((131072 : Int) < (s.size : Int)) = true) := by
      cases hb : longB l with
      | true => exact .inl rfl
      | false => exact .inr ⟨rfl, decide_eq_true (by rcases hlong with h | h; (rw [hb] at h; cases h); omega)⟩
    clear hlong hs
    rcases hd with h1 | ⟨h1, h2⟩
    all_goals
      have cl := Cl.out cap
      rw [h1] at cl
      have Cl2 := Lib.hid cl; clear cl
      have H1 := Lib.hid h1; clear h1
      go_enter Try.func4, Try.ntmps4
      go_wp2_with fail
      refine Cl2.out.mono ?_; rintro e w1 ⟨rfl, rfl⟩
      go_wp2_with fail
      refine (alive_any _).mono ?_; rintro e w1 ⟨rfl, hb⟩
      go_wp2_with fail
      go_ret
      exact ⟨rfl, hb⟩
  · have h1 : longB l = false := by
      cases hb : longB l with
      | true => exact absurd (.inl hb) hlong
      | false => rfl
    have hd : decide ((131072 : Int) < (s.size : Int)) = false := decide_eq_false (by omega)
    obtain ⟨hb1, hb2⟩ := long_bounds h1
    have hll : len ≤ 300 := by rw [HL.out.1] at hb1; exact hb1
    have hsm : s.size ≤ 281474976710656 := by omega
    have cl := Cl.out cap
    rw [h1] at cl
    have Cl2 := Lib.hid cl; clear cl Cl
    have H1 := Lib.hid h1; clear h1
    have Hb2 := Lib.hid (show ∀ j, (l.getD j .empty).size ≤ 9223372036854700000 from fun j => Nat.le_trans (hb2 j) (by decide)); clear hb2
    have Hsm := Lib.hid hsm
    have Hlong := Lib.hid hlong
    clear hlong hs hsm hlen hb1
    go_enter Try.func4, Try.ntmps4
    go_upto_region 3 with (go_at_call 16; refine Cl2.out.mono ?_; rintro e w1 ⟨rfl, rfl⟩)
    go_cut [5, 6] (fun x y wx => x = .string ⟨(Oct.row (lists l)).1.toArray⟩ ∧ y = .int .i64 (Oct.row (lists l)).2 ∧ Below w.heap.size w wx)
    case first =>
      have cr := fun a' c' u hst => octRow_any a' l.length c' l u hst (by rw [HL.out.1]; omega) Hb2.out
      have Cr := Lib.hid cr; clear cr
      rcases a with _ | ad
      · obtain ⟨h0, h00⟩ := Hnil.out rfl
        subst h0; subst h00
        have hle : l = [] := by have := HL.out.1; simpa using this
        have own0 : w.ownsRow w.heap.size 9 1 (.slice none 0 0) 0 [] := World.ownsRow_nil _ _ _ _
        subst hle
        go_wp2_with (at_builtin; refine wpList_append_own_none rfl _ _ 33 rfl w.heap.size 9 i0 1 Try.underlying33 hi (.slice none 0 0) 0 [] rfl own0 rfl ?_)
        refine (Cr.out none 0 w (Strs.nil _ _)).mono ?_; rintro e w2 ⟨rfl, hb⟩
        go_wp2_with fail
        go_meet
        exact ⟨rfl, rfl, hb⟩
      · have own0 : w.ownsRow w.heap.size 9 1 (.slice none 0 0) 0 [] := World.ownsRow_nil _ _ _ _
        have hnews : ∀ (j : Nat) (u : Value), (l.map Value.string)[j]? = some u → w.cell? (ad.add j) = some u := by
          intro j u hj
          rw [List.getElem?_map] at hj
          obtain ⟨x, hx, rfl⟩ := Option.map_eq_some_iff.1 hj
          have hjl : j < l.length := by
            rcases Nat.lt_or_ge j l.length with h | h
            · exact h
            · rw [List.getElem?_eq_none h] at hx; cases hx
          obtain ⟨b, off, he, hc⟩ := HL.out.2 j (by rw [← HL.out.1]; exact hjl)
          cases he
          have ea : (Addr.add ⟨b, off, none⟩ j) = ⟨b, off + j, none⟩ := by cases j <;> simp [Addr.add]
          rw [ea, hc]
          simp [List.getD_eq_getElem?_getD, hx]
        have Hnews := Lib.hid hnews; clear hnews
        go_wp2_with (at_builtin; refine wpList_append_own _ rfl _ _ 33 rfl w.heap.size 9 i0 (.string ⟨#[]⟩) 1 16 Try.underlying33 hi hz0 hz1 hz2 rfl (by decide) _ 0 [] rfl own0 ad len cap (l.map Value.string) rfl ?c0 Hnews.out ?c2 ?c3 ?c4 (Nat.le_refl _) ?_)
        case c0 => rw [List.length_map, HL.out.1]; omega
        case c2 => intro u hu; obtain ⟨x, _, rfl⟩ := List.mem_map.1 hu; rfl
        case c3 => unfold maxLen; omega
        case c4 => omega
        intro v' w2 hown2 hgrow _
        have hown3 : Own w.heap.size v' l w2 := by
          unfold Own
          rw [HL.out.1]
          simpa using hown2
        obtain ⟨a', c', rfl, hst, _⟩ := hown3.strs
        have hb2 : Below w.heap.size w w2 := (Below.refl _ _).grown hgrow (Nat.le_refl _) (fun k hk => by simp [Value.ownBlock] at hk)
        have Hst := Lib.hid hst; clear hst hown2 hown3 hgrow
        go_wp2_with fail
        refine (Cr.out a' c' w2 Hst.out).mono ?_; rintro e w3 ⟨rfl, hb⟩
        go_wp2_with fail
        go_meet
        exact ⟨rfl, rfl, hb2.trans (hb.mono hb2.size)⟩
    case rest =>
      obtain ⟨rfl, rfl, hb⟩ := hcut
      have cr := fun u hst => refRow_any a len cap l u hst (by omega) Hb2.out
      have Cr := Lib.hid cr; clear cr
      have cread := fun u => octRead_any s u Hsm.out
      have crread := fun u => refRead_any s u Hsm.out
      have ctext := fun u => octText_any s u (by have := Hsm.out; omega)
      have crtext := fun u => refText_any s u (by have := Hsm.out; omega)
      have Cread := Lib.hid cread; clear cread
      have Crread := Lib.hid crread; clear crread
      have Ctext := Lib.hid ctext; clear ctext
      have Crtext := Lib.hid crtext; clear crtext
      cases hrr : Oct.readRow s.data.toList with
      | none =>
        have Hrr := Lib.hid hrr; clear hrr
        go_wp2_with fail
        refine (Cr.out _ (HL.out.keep hb)).mono ?_; rintro e w4 ⟨rfl, h4⟩
        have k4 := hb.trans (h4.mono hb.size); clear hb h4
        go_wp2_with fail
        refine (octNone s _ Hsm.out Hrr.out).mono ?_; rintro e w5 ⟨rfl, h5⟩
        have k5 := k4.trans (h5.mono k4.size); clear k4 h5
        go_wp2_with fail
        refine (refNone s _ Hsm.out Hrr.out).mono ?_; rintro e w6 ⟨rfl, h6⟩
        have k6 := k5.trans (h6.mono k5.size); clear k5 h6
        go_wp2_with fail
        refine (Cread.out _).mono ?_; rintro e w7 ⟨rfl, h7⟩
        have k7 := k6.trans (h7.mono k6.size); clear k6 h7
        go_wp2_with fail
        refine (Crread.out _).mono ?_; rintro e w8 ⟨rfl, rfl⟩
        go_wp2_with fail
        refine (Ctext.out _).mono ?_; rintro e w8 ⟨rfl, h8⟩
        have k8 := k7.trans (h8.mono k7.size); clear k7 h8
        go_wp2_with fail
        refine (Crtext.out _).mono ?_; rintro e w9 ⟨rfl, h9⟩
        have k9 := k8.trans (h9.mono k8.size); clear k8 h9
        go_wp2_with fail
        refine (same_any none none 0 0 0 0 [] [] _ (Strs.nil _ _) (Strs.nil _ _) (by decide) (by decide)).mono ?_; rintro e w10 ⟨rfl, h10⟩
        rw [sameB_self]
        have k10 := k9.trans (h10.mono k9.size); clear k9 h10
        go_wp2_with fail
        refine (alive_any _).mono ?_; rintro e w11 ⟨rfl, h11⟩
        go_wp2_with fail
        go_ret
        exact ⟨rfl, k10.trans (h11.mono k10.size)⟩
      | some L =>
        have hll2 := readRow_length hrr
        have hrr2 : Oct.readRow s.data.toList = some (lists (texts L)) := by rw [lists_texts]; exact hrr
        have hll3 : (texts L).length ≤ 65535 := by rw [show (texts L).length = L.length by simp [texts]]; exact hll2
        generalize texts L = l0 at *
        have Hrr := Lib.hid hrr2; clear hrr2 hrr hll2
        have Hll3 := Lib.hid hll3; clear hll3
        go_wp2_with fail
        refine (Cr.out _ (HL.out.keep hb)).mono ?_; rintro e w4 ⟨rfl, h4⟩
        have k4 := hb.trans (h4.mono hb.size); clear hb h4
        go_wp2_with fail
        refine (octSome s _ Hsm.out l0 Hrr.out).mono ?_; rintro e w5 ⟨⟨a5, c5, rfl, s5⟩, h5⟩
        have k5 := k4.trans (h5.mono k4.size); clear k4 h5
        have S5 := Lib.hid s5; clear s5
        go_wp2_with fail
        refine (refSome s _ Hsm.out l0 Hrr.out).mono ?_; rintro e w6 ⟨⟨a6, c6, rfl, s6⟩, h6⟩
        have S5' := Lib.hid (S5.out.keep h6); clear S5
        have k6 := k5.trans (h6.mono k5.size); clear k5 h6
        have S6 := Lib.hid s6; clear s6
        go_wp2_with fail
        refine (Cread.out _).mono ?_; rintro e w7 ⟨rfl, h7⟩
        have S5 := Lib.hid (S5'.out.keep h7); clear S5'
        have S6' := Lib.hid (S6.out.keep h7); clear S6
        have k7 := k6.trans (h7.mono k6.size); clear k6 h7
        go_wp2_with fail
        refine (Crread.out _).mono ?_; rintro e w8 ⟨rfl, rfl⟩
        go_wp2_with fail
        refine (Ctext.out _).mono ?_; rintro e w8 ⟨rfl, h8⟩
        have S5' := Lib.hid (S5.out.keep h8); clear S5
        have S6 := Lib.hid (S6'.out.keep h8); clear S6'
        have k8 := k7.trans (h8.mono k7.size); clear k7 h8
        go_wp2_with fail
        refine (Crtext.out _).mono ?_; rintro e w9 ⟨rfl, h9⟩
        have S5 := Lib.hid (S5'.out.keep h9); clear S5'
        have S6' := Lib.hid (S6.out.keep h9); clear S6
        have k9 := k8.trans (h9.mono k8.size); clear k8 h9
        go_wp2_with fail
        refine (same_any a5 a6 _ _ c5 c6 l0 l0 _ S5.out S6'.out (by have := Hll3.out; omega) (by have := Hll3.out; omega)).mono ?_; rintro e w10 ⟨rfl, h10⟩
        rw [sameB_self]
        have k10 := k9.trans (h10.mono k9.size); clear k9 h10
        go_wp2_with fail
        refine (alive_any _).mono ?_; rintro e w11 ⟨rfl, h11⟩
        go_wp2_with fail
        go_ret
        exact ⟨rfl, k10.trans (h11.mono k10.size)⟩

theorem bytes16 : Try.prog.bytesOf 9 = 16 := by kernel_rfl

theorem contract (H : Type) (enc : TypeId × Value → H) (W : World) (base : Nat) (args : Array Value) (ds gs : List (DataW H)) (before : List MemPlace)
    (hval : ∀ (j : Nat) t v, Try.f4.params[j]? = some t → args[j]? = some v → Value.okWide Try.prog W .any base t v)
    (hW : DataW.Whole enc Try.prog Try.f4.params.toList Rows.octetRowsSpec.vars false W args.toList ds gs before)
    (hsz : (DataW.weightsEach Try.prog (Try.f4.params.toList ++ Rows.octetRowsSpec.plain.varTypes Try.prog) (ds ++ gs)).all (· ≤ reachBytes) = true) :
    Calls Try.prog 4 args W fun e W' => ∃ v, e = .returned v ∧ Rows.octetRowsSpec.post enc Try.prog Try.f4 false true false false W args v W' := by
  have hW' := hW
  obtain ⟨p, q, hA0, hV, rfl, hfz, hnd⟩ := hW
  have hA : DataW.TrodAll enc Try.prog W 0 (fun _ => true) true Try.f4.params.toList args.toList ds p := hA0
  rw [Try.params4] at hA hval hsz
  obtain ⟨v0, vs0, d0, ds0, p0, q0, hargs, rfl, rfl, h0, r0⟩ := trodAll_cons hA
  obtain ⟨v1, vs1, d1, ds1, p1, q1, rfl, rfl, rfl, h1, r1⟩ := trodAll_cons r0
  obtain ⟨rfl, rfl, rfl⟩ := trodAll_nil r1
  obtain rfl : args = #[v0, v1] := by cases args; simp_all
  obtain ⟨rfl, rfl⟩ := trodVars_none hV
  obtain ⟨a0, len0, cap0, rfl⟩ := okWide_slice Try.underlying33 (hval 0 33 v0 rfl rfl)
  have k0 := h0
  have lt0 : ∀ x ∈ p0, x.block < W.heap.size := by obtain ⟨m, hm⟩ := k0; exact DataW.trod_lt m _ _ _ hm
  obtain ⟨fuel, hf⟩ := h0
  obtain ⟨l, hst, hlz, hll, hnil⟩ := open_texts Try.underlying33 Try.underlying9 (by kernel_rfl) bytes16 hf (fun n hn => by
    have := List.all_eq_true.1 hsz n (by
      simp only [List.cons_append, DataW.weightsEach]
      exact List.mem_append_left _ hn)
    simpa using this)
  obtain ⟨s, rfl, rfl, rfl, hmax⟩ := open_string Try.underlying9 (hval 1 9 v1 rfl rfl) h1
  clear hA0
  refine (walk a0 len0 cap0 l s W hst hlz hll hnil hmax).mono fun e W' ⟨he, bel⟩ => ?_
  subst he
  exact ⟨_, rfl, _, _, _, [], _, [], hW', trodAll_mk1 (shut_bool Try.underlying4 _), (trodAll_cons_mk (Below.trod laidOut (by kernel_rfl) (of_decide_eq_true (by kernel_rfl)) k0 bel lt0) (trodAll_cons_mk (shut_string Try.underlying9 hmax) trodAll_mk0)), rfl, bel.frame _, fun h => by cases h⟩

set_option maxRecDepth 100000 in
theorem lifted (os : Os) (started : os.Started) (H : Type) (enc : TypeId × Value → H) :
    ReturnsInHanded {} Try.checked os 4 .any (Rows.octetRowsSpec.pre6 enc Try.prog Try.f4 Rows.octetRowsRow.domain false) (Rows.octetRowsSpec.post enc Try.prog Try.f4 false true false false) := by
  refine returnsInHanded_of_change_sized (C := Try.checked) own started (by kernel_rfl) Try.func4
    (ChangeSpec.witness6 (enc := enc) (C := Try.checked) false ⟨#[], #[.slice none 0 0, .string .empty], []⟩ 8 (by kernel_rfl) (by kernel_rfl) (by kernel_rfl) (by kernel_rfl)) ?_
  intro W base args ds gs before hval hW hcnd hsz _
  exact contract H enc W base args ds gs before hval hW hsz

theorem over : Rows.octetRowsRow.holds Try.pinned (OpenSpec.ofChange Rows.octetRowsSpec) :=
  OpenClaim.holds_of_wide 4 Try.f4 rfl rfl rfl rfl rfl rfl rfl ⟨rfl, rfl, rfl, rfl, rfl⟩ rfl rfl rfl rfl rfl (by kernel_rfl) Try.func4 (by kernel_rfl)
    (of_decide_eq_true (by kernel_rfl)) (by unfold Func.isWrapper; first | (rw [if_pos (by decide +kernel)]; kernel_rfl) | (rw [if_neg (by decide +kernel)]; exact ⟨rfl, rfl⟩))
    (fun os started H enc _ => lifted os started H enc)

theorem proved : Rows.OctetRowsSaid := over

end Go.Proofs.Ytdaognkdglimeaa.lawRows
