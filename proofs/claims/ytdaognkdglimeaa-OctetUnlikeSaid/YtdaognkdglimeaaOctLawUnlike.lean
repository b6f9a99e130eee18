/-
  OctetUnlike: what was put as a row is read as it, what is read is put as it stood, and unlike rows have unlike bytes: for any two rows of texts and any text.
  Conditions: none.
-/
import Derived.Test.YtdaognkdglimeaaOctLawRows
set_option linter.unusedVariables false
namespace Go.Proofs.Ytdaognkdglimeaa.lawUnlike
open Go.ChangeShapes Go.WideShapes Go.ChangeAt Go.RowKit
open Go.ChangeMaps (open_string shut_string)
open Go.Proofs.Ytdaognkdglimeaa.lawRows

theorem row_cases (l : List (List UInt8)) : (Oct.row l).2 = 0 ∨ (Oct.row l).2 = 5 := by
  unfold Oct.row; split <;> simp

theorem row_small (l : List (List UInt8)) (h : l.length ≤ 65535) : (Oct.row l).1.length ≤ 4295032840 := by
  unfold Oct.row
  split
  · rename_i hc
    have := Oct.body_length l hc.2
    rw [List.length_append, Oct.le_length]
    have h2 : 65537 * l.length ≤ 65537 * 65535 := Nat.mul_le_mul_left _ h
    omega
  · simp

theorem readRow_sizes {s : List UInt8} {l : List ByteArray} (h : Oct.readRow s = some (lists l)) (j : Nat) : (l.getD j .empty).size ≤ 65535 := by
  unfold Oct.readRow at h
  split at h
  · have h1 := (Oct.readN_back _ _ _ h).2.1
    refine getD_size_le l 65535 (fun x hx => ?_) j
    have := h1 x.data.toList (List.mem_map.2 ⟨x, hx, rfl⟩)
    rwa [ba_len] at this
  · simp at h

set_option maxRecDepth 100000 in
set_option maxHeartbeats 4000000 in
theorem walk (a : Option Addr) (na ca : Nat) (la : List ByteArray) (b : Option Addr) (nb cb : Nat) (lb : List ByteArray) (s : ByteArray) (w : World)
    (ha : Strs a na la w) (za : ∀ x ∈ la, x.size ≤ 140737488351232) (hna : na ≤ 8796093022208)
    (hb : Strs b nb lb w) (zb : ∀ x ∈ lb, x.size ≤ 140737488351232) (hnb : nb ≤ 8796093022208) (hs : s.size ≤ maxLen) :
    Calls Try.prog 6 #[.slice a na ca, .slice b nb cb, .string s] w fun e w' => e = .returned (.bool true) ∧ Below w.heap.size w w' := by
  unfold maxLen at hs
  have CA := Lib.hid (long_any a na ca la w ha hna za)
  have CB := Lib.hid (long_any b nb cb lb w hb hnb zb)
  have HA := Lib.hid ha; clear ha
  have HB := Lib.hid hb; clear hb
  clear za zb
  by_cases hlong : longB la = true ∨ longB lb = true ∨ 131072 < s.size
  · have hd : (longB la = true) ∨ (longB la = false ∧ longB lb = true) ∨ (longB la = false ∧ longB lb = false ∧ decide ((131072 : Int) < (s.size : Int)) = true) := by
      cases h1 : longB la with
      | true => exact .inl rfl
      | false =>
        cases h2 : longB lb with
        | true => exact .inr (.inl ⟨rfl, rfl⟩)
        | false => exact .inr (.inr ⟨rfl, rfl, decide_eq_true (by rcases hlong with h | h | h; (rw [h1] at h; cases h); (rw [h2] at h; cases h); omega)⟩)
    clear hlong hs
    rcases hd with h1 | ⟨h1, h2⟩ | ⟨h1, h2, h3⟩
    · have cl := CA.out
      rw [h1] at cl
      have C1 := Lib.hid cl; clear cl CA CB
      have H1 := Lib.hid h1; clear h1
      go_enter Try.func6, Try.ntmps6
      go_wp2_with fail
      refine C1.out.mono ?_; rintro e w1 ⟨rfl, rfl⟩
      go_wp2_with fail
      refine (alive_any _).mono ?_; rintro e w1 ⟨rfl, hbl⟩
      go_wp2_with fail
      go_ret
      exact ⟨rfl, hbl⟩
    all_goals
      have cl := CA.out
      have cl2 := CB.out
      rw [h1] at cl
      rw [h2] at cl2
      have C1 := Lib.hid cl; clear cl CA
      have C2 := Lib.hid cl2; clear cl2 CB
      have H1 := Lib.hid h1; clear h1
      have H2 := Lib.hid h2; clear h2
      go_enter Try.func6, Try.ntmps6
      go_wp2_with fail
      refine C1.out.mono ?_; rintro e w1 ⟨rfl, rfl⟩
      go_wp2_with fail
      refine C2.out.mono ?_; rintro e w1 ⟨rfl, rfl⟩
      go_wp2_with fail
      refine (alive_any _).mono ?_; rintro e w1 ⟨rfl, hbl⟩
      go_wp2_with fail
      go_ret
      exact ⟨rfl, hbl⟩
  · have h1 : longB la = false := by
      cases h : longB la with
      | true => exact absurd (.inl h) hlong
      | false => rfl
    have h2 : longB lb = false := by
      cases h : longB lb with
      | true => exact absurd (.inr (.inl h)) hlong
      | false => rfl
    have hd : decide ((131072 : Int) < (s.size : Int)) = false := decide_eq_false (by omega)
    obtain ⟨p1, p2⟩ := long_bounds h1
    obtain ⟨q1, q2⟩ := long_bounds h2
    have hpa : na ≤ 300 := by rw [HA.out.1] at p1; exact p1
    have hpb : nb ≤ 300 := by rw [HB.out.1] at q1; exact q1
    have Hsm := Lib.hid (show s.size ≤ 131072 by omega)
    have BA := Lib.hid (show ∀ j, (la.getD j .empty).size ≤ 9223372036854700000 from fun j => Nat.le_trans (p2 j) (by decide))
    have BB := Lib.hid (show ∀ j, (lb.getD j .empty).size ≤ 9223372036854700000 from fun j => Nat.le_trans (q2 j) (by decide))
    have cl := CA.out
    have cl2 := CB.out
    rw [h1] at cl
    rw [h2] at cl2
    have C1 := Lib.hid cl; clear cl CA
    have C2 := Lib.hid cl2; clear cl2 CB
    have ra := fun u hst => octRow_any a na ca la u hst (by omega) BA.out
    have rb := fun u hst => octRow_any b nb cb lb u hst (by omega) BB.out
    have ea := row_cases (lists la)
    have eb := row_cases (lists lb)
    have sa := row_small (lists la) (by rw [lists_length]; omega)
    have ga := Oct.readRow_row (lists la)
    have ij := Oct.row_inj (lists la) (lists lb)
    generalize Oct.row (lists la) = x at *
    generalize Oct.row (lists lb) = y at *
    have RA := Lib.hid ra; clear ra
    have RB := Lib.hid rb; clear rb
    have EA := Lib.hid ea; clear ea
    have EB := Lib.hid eb; clear eb
    have SA := Lib.hid sa; clear sa
    have GA := Lib.hid ga; clear ga
    have IJ := Lib.hid ij; clear ij
    have H1 := Lib.hid h1; clear h1
    have H2 := Lib.hid h2; clear h2
    clear hlong hs p1 p2 q1 q2 BA BB hna hnb
    go_enter Try.func6, Try.ntmps6
    go_wp2_with fail
    refine C1.out.mono ?_; rintro e w1 ⟨rfl, rfl⟩
    go_wp2_with fail
    refine C2.out.mono ?_; rintro e w1 ⟨rfl, rfl⟩
    go_wp2_with fail
    refine (RA.out _ HA.out).mono ?_; rintro e w1 ⟨rfl, k1⟩
    go_wp2_with fail
    refine (RB.out _ (HB.out.keep k1)).mono ?_; rintro e w2 ⟨rfl, k2⟩
    have k3 := k1.trans (k2.mono k1.size); clear k1 k2
    go_upto_if 40 with fail
    go_cut [] (fun wx => Below w.heap.size w wx)
    case first =>
      rcases EA.out with e0 | e5
      · have d0 : ((x.2 : Int) == 0) = true := by rw [beq_iff_eq]; exact e0
        have hrr := GA.out e0
        have cs := fun u => octSome ⟨x.1.toArray⟩ u (by rw [Lib.size_eq]; have := SA.out; simp only []; omega) la hrr
        have Cs := Lib.hid cs; clear cs
        have Hrr := Lib.hid hrr; clear hrr
        have E0 := Lib.hid e0; clear e0
        go_wp2_with fail
        refine (Cs.out _).mono ?_; rintro e w3 ⟨⟨a5, c5, rfl, s5⟩, h5⟩
        have S5 := Lib.hid s5; clear s5
        have k4 := k3.trans (h5.mono k3.size); clear h5
        go_wp2_with fail
        refine (same_any a5 a _ _ c5 ca la la _ S5.out (HA.out.keep k4) (by rw [HA.out.1]; omega) (by omega)).mono ?_; rintro e w10 ⟨rfl, h10⟩
        rw [sameB_self]
        go_wp2_with fail
        go_meet
        exact k4.trans (h10.mono k4.size)
      · have d0 : ((x.2 : Int) == 0) = false := by rw [beq_eq_false_iff_ne]; omega
        have E5 := Lib.hid e5; clear e5
        go_wp2_with fail
        go_meet
        exact k3
    case rest =>
      clear k3
      have k3 := hcut
      clear hcut
      go_upto_region 9 with fail
      go_cut [68] (fun c wx => c = .bool false ∧ Below w.heap.size w wx)
      case first =>
        rcases EA.out with e0 | e5
        · have d0 : ((x.2 : Int) == 0) = true := by rw [beq_iff_eq]; exact e0
          rcases EB.out with f0 | f5
          · have d1 : ((y.2 : Int) == 0) = true := by rw [beq_iff_eq]; exact f0
            have hij := IJ.out e0 f0
            have hsame : (x.1 == y.1) = sameB la lb := by
              rw [Bool.eq_iff_iff, beq_iff_eq, hij]
              unfold sameB
              rw [decide_eq_true_iff]
              exact ⟨lists_inj, fun h => by rw [h]⟩
            have csm := fun u hu1 hu2 => same_any a b na nb ca cb la lb u hu1 hu2 (by omega) (by omega)
            have Csm := Lib.hid csm; clear csm
            have E0 := Lib.hid e0; clear e0
            have F0 := Lib.hid f0; clear f0
            clear hij
            cases hsb : sameB la lb with
            | true =>
              rw [hsb] at hsame
              have Csm2 := Csm.out
              rw [hsb] at Csm2
              have Csm3 := Lib.hid Csm2; clear Csm2 Csm
              have Hsb := Lib.hid hsb; clear hsb
              go_wp2_with fail
              refine (Csm3.out _ (HA.out.keep k3) (HB.out.keep k3)).mono ?_; rintro e w3 ⟨rfl, h3⟩
              go_wp2_with fail
              go_meet
              exact ⟨rfl, k3.trans (h3.mono k3.size)⟩
            | false =>
              rw [hsb] at hsame
              have Csm2 := Csm.out
              rw [hsb] at Csm2
              have Csm3 := Lib.hid Csm2; clear Csm2 Csm
              have Hsb := Lib.hid hsb; clear hsb
              go_wp2_with fail
              refine (Csm3.out _ (HA.out.keep k3) (HB.out.keep k3)).mono ?_; rintro e w3 ⟨rfl, h3⟩
              go_wp2_with fail
              go_meet
              exact ⟨rfl, k3.trans (h3.mono k3.size)⟩
          · have d1 : ((y.2 : Int) == 0) = false := by rw [beq_eq_false_iff_ne]; omega
            have E0 := Lib.hid e0; clear e0
            have F5 := Lib.hid f5; clear f5
            go_wp2_with fail
            go_meet
            exact ⟨rfl, k3⟩
        · have d0 : ((x.2 : Int) == 0) = false := by rw [beq_eq_false_iff_ne]; omega
          have E5 := Lib.hid e5; clear e5
          go_wp2_with fail
          go_meet
          exact ⟨rfl, k3⟩
      case rest =>
        obtain ⟨rfl, k4⟩ := hcut
        clear k3
        have hsm := Hsm.out
        cases hrr : Oct.readRow s.data.toList with
        | none =>
          have cn := fun u => octNone s u (by omega) hrr
          have Cn := Lib.hid cn; clear cn
          have Hrr := Lib.hid hrr; clear hrr
          clear hsm
          go_wp2_with fail
          refine (Cn.out _).mono ?_; rintro e w5 ⟨rfl, h5⟩
          have k5 := k4.trans (h5.mono k4.size); clear k4 h5
          go_wp2_with fail
          refine (alive_any _).mono ?_; rintro e w6 ⟨rfl, h6⟩
          go_wp2_with fail
          go_ret
          exact ⟨rfl, k5.trans (h6.mono k5.size)⟩
        | some L =>
          have hll2 := readRow_length hrr
          have hrr2 : Oct.readRow s.data.toList = some (lists (texts L)) := by rw [lists_texts]; exact hrr
          have hll3 : (texts L).length ≤ 65535 := by rw [show (texts L).length = L.length by simp [texts]]; exact hll2
          generalize texts L = l0 at *
          have cs := fun u => octSome s u (by omega) l0 hrr2
          have hz0 := readRow_sizes hrr2
          have hrow := Oct.row_readRow s.data.toList (lists l0) hrr2
          have cr : ∀ a' c' u, Strs a' l0.length l0 u → Calls Try.prog 17 #[.slice a' l0.length c'] u fun e w' => e = .returned (.tuple #[.string s, .int .i64 0]) ∧ Below u.heap.size u w' := fun a' c' u hst => by
            have h := octRow_any a' l0.length c' l0 u hst (by omega) (fun j => Nat.le_trans (hz0 j) (by decide))
            rw [hrow] at h
            simp only [] at h
            rw [show (⟨s.data.toList.toArray⟩ : ByteArray) = s from ba_eta s] at h
            exact h
          have Cs := Lib.hid cs; clear cs
          have Cr := Lib.hid cr; clear cr
          have Hrow := Lib.hid hrow; clear hrow
          have Hz0 := Lib.hid hz0; clear hz0
          have Hrr := Lib.hid hrr2; clear hrr2 hrr
          clear hsm hll2 hll3
          go_wp2_with fail
          refine (Cs.out _).mono ?_; rintro e w5 ⟨⟨a5, c5, rfl, s5⟩, h5⟩
          have S5 := Lib.hid s5; clear s5
          have k5 := k4.trans (h5.mono k4.size); clear k4 h5
          go_wp2_with fail
          refine (Cr.out a5 c5 _ S5.out).mono ?_; rintro e w6 ⟨rfl, h6⟩
          have k6 := k5.trans (h6.mono k5.size); clear k5 h6
          go_wp2_with fail
          refine (alive_any _).mono ?_; rintro e w7 ⟨rfl, h7⟩
          go_wp2_with fail
          go_ret
          exact ⟨rfl, k6.trans (h7.mono k6.size)⟩

theorem contract (H : Type) (enc : TypeId × Value → H) (W : World) (base : Nat) (args : Array Value) (ds gs : List (DataW H)) (before : List MemPlace)
    (hval : ∀ (j : Nat) t v, Try.f6.params[j]? = some t → args[j]? = some v → Value.okWide Try.prog W .any base t v)
    (hW : DataW.Whole enc Try.prog Try.f6.params.toList Rows.octetUnlikeSpec.vars false W args.toList ds gs before)
    (hsz : (DataW.weightsEach Try.prog (Try.f6.params.toList ++ Rows.octetUnlikeSpec.plain.varTypes Try.prog) (ds ++ gs)).all (· ≤ reachBytes) = true) :
    Calls Try.prog 6 args W fun e W' => ∃ v, e = .returned v ∧ Rows.octetUnlikeSpec.post enc Try.prog Try.f6 false true false false W args v W' := by
  have hW' := hW
  obtain ⟨p, q, hA0, hV, rfl, hfz, hnd⟩ := hW
  have hA : DataW.TrodAll enc Try.prog W 0 (fun _ => true) true Try.f6.params.toList args.toList ds p := hA0
  rw [Try.params6] at hA hval hsz
  obtain ⟨v0, vs0, d0, ds0, p0, q0, hargs, rfl, rfl, h0, r0⟩ := trodAll_cons hA
  obtain ⟨v1, vs1, d1, ds1, p1, q1, rfl, rfl, rfl, h1, r1⟩ := trodAll_cons r0
  obtain ⟨v2, vs2, d2, ds2, p2, q2, rfl, rfl, rfl, h2, r2⟩ := trodAll_cons r1
  obtain ⟨rfl, rfl, rfl⟩ := trodAll_nil r2
  obtain rfl : args = #[v0, v1, v2] := by cases args; simp_all
  obtain ⟨rfl, rfl⟩ := trodVars_none hV
  obtain ⟨a0, len0, cap0, rfl⟩ := okWide_slice Try.underlying33 (hval 0 33 v0 rfl rfl)
  have k0 := h0
  have lt0 : ∀ x ∈ p0, x.block < W.heap.size := by obtain ⟨m, hm⟩ := k0; exact DataW.trod_lt m _ _ _ hm
  obtain ⟨fuel, hf⟩ := h0
  obtain ⟨l, hst, hlz, hll, hnil⟩ := open_texts Try.underlying33 Try.underlying9 (by kernel_rfl) bytes16 hf (fun n hn => by
    have := List.all_eq_true.1 hsz n (by
      simp only [List.cons_append, DataW.weightsEach]
      exact List.mem_append_left _ hn)
    simpa using this)
  obtain ⟨a1, len1, cap1, rfl⟩ := okWide_slice Try.underlying33 (hval 1 33 v1 rfl rfl)
  have k1 := h1
  have lt1 : ∀ x ∈ p1, x.block < W.heap.size := by obtain ⟨m, hm⟩ := k1; exact DataW.trod_lt m _ _ _ hm
  obtain ⟨fuel1, hf1⟩ := h1
  obtain ⟨l1, hst1, hlz1, hll1, hnil1⟩ := open_texts Try.underlying33 Try.underlying9 (by kernel_rfl) bytes16 hf1 (fun n hn => by
    have := List.all_eq_true.1 hsz n (by
      simp only [List.cons_append, DataW.weightsEach]
      exact List.mem_append_right _ (List.mem_append_left _ hn))
    simpa using this)
  obtain ⟨s, rfl, rfl, rfl, hmax⟩ := open_string Try.underlying9 (hval 2 9 v2 rfl rfl) h2
  clear hA0
  refine (walk a0 len0 cap0 l a1 len1 cap1 l1 s W hst hlz hll hst1 hlz1 hll1 hmax).mono fun e W' ⟨he, bel⟩ => ?_
  subst he
  exact ⟨_, rfl, _, _, _, [], _, [], hW', trodAll_mk1 (shut_bool Try.underlying4 _), (trodAll_cons_mk (Below.trod laidOut (by kernel_rfl) (of_decide_eq_true (by kernel_rfl)) k0 bel lt0) (trodAll_cons_mk (Below.trod laidOut (by kernel_rfl) (of_decide_eq_true (by kernel_rfl)) k1 bel lt1) (trodAll_cons_mk (shut_string Try.underlying9 hmax) trodAll_mk0))), rfl, bel.frame _, fun h => by cases h⟩

set_option maxRecDepth 100000 in
theorem lifted (os : Os) (started : os.Started) (H : Type) (enc : TypeId × Value → H) :
    ReturnsInHanded {} Try.checked os 6 .any (Rows.octetUnlikeSpec.pre6 enc Try.prog Try.f6 Rows.octetUnlikeRow.domain false) (Rows.octetUnlikeSpec.post enc Try.prog Try.f6 false true false false) := by
  refine returnsInHanded_of_change_sized (C := Try.checked) own started (by kernel_rfl) Try.func6
    (ChangeSpec.witness6 (enc := enc) (C := Try.checked) false ⟨#[], #[.slice none 0 0, .slice none 0 0, .string .empty], []⟩ 8 (by kernel_rfl) (by kernel_rfl) (by kernel_rfl) (by kernel_rfl)) ?_
  intro W base args ds gs before hval hW hcnd hsz _
  exact contract H enc W base args ds gs before hval hW hsz

theorem over : Rows.octetUnlikeRow.holds Try.pinned (OpenSpec.ofChange Rows.octetUnlikeSpec) :=
  OpenClaim.holds_of_wide 6 Try.f6 rfl rfl rfl rfl rfl rfl rfl ⟨rfl, rfl, rfl, rfl, rfl⟩ rfl rfl rfl rfl rfl (by kernel_rfl) Try.func6 (by kernel_rfl)
    (of_decide_eq_true (by kernel_rfl)) (by unfold Func.isWrapper; first | (rw [if_pos (by decide +kernel)]; kernel_rfl) | (rw [if_neg (by decide +kernel)]; exact ⟨rfl, rfl⟩))
    (fun os started H enc _ => lifted os started H enc)

theorem proved : Rows.OctetUnlikeSaid := over


end Go.Proofs.Ytdaognkdglimeaa.lawUnlike
