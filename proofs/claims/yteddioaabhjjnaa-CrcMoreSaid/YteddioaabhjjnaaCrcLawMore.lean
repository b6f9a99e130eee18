/-
  CrcMore: a checksum goes on piece by piece, what is sealed is opened, and what is opened is sealed as it stood: for all pieces and all bytes.
  Conditions: none.
-/
import Derived.Test.YteddioaabhjjnaaCrcAlive
import Derived.Test.YteddioaabhjjnaaGoCat
import Derived.ProofKit
import Derived.OpenShut
import Derived.ShutString
import Derived.ChangeOld
import Derived.SizedLaws
namespace Go.Proofs.Yteddioaabhjjnaa.lawMore
open Go.ChangeShapes Go.WideShapes Go.ChangeAt Go.RowKit
open Go.ChangeMaps (open_string shut_string)
set_option linter.unusedVariables false

theorem own : ownKnob Try.prog.godebug = none := by kernel_rfl
theorem laidOut : laidOutB Try.prog = true := by kernel_rfl
theorem bytes16 : Try.prog.bytesOf 9 = 16 := by kernel_rfl

/-- the last part: what stands at the end, for the three answers that Open has -/
def Answer (t y : ByteArray) (f : Int) : Prop :=
  (∀ u, Calls Try.prog 7 #[.string t] u fun e w' => e = .returned (.tuple #[.string y, .int .i64 f]) ∧ Below u.heap.size u w') ∧
  (∀ u, Calls Try.prog 13 #[.string t] u fun e w' => e = .returned (.bool (f == 0)) ∧ Below u.heap.size u w') ∧
  ((f = 0 ∧ ∀ u, Calls Try.prog 11 #[.string y] u fun e w' => e = .returned (.string t) ∧ Below u.heap.size u w') ∨ f = 6 ∨ f = 7)

theorem answer (t : ByteArray) (ht : t.size ≤ 140737488351232) : Answer t (opn t).1 (opn t).2 := by
  refine ⟨fun u => open_any t ht u, fun u => ok_any t ht u, ?_⟩
  rcases opn_cases t with h | h | h
  · refine .inl ⟨h, fun u => ?_⟩
    have hs := seal_any (opn t).1 (Nat.le_trans (opn_size t) ht) u
    rw [opn_ok t h] at hs
    exact hs
  · exact .inr (.inl (by rw [h]))
  · exact .inr (.inr (by rw [h]))

set_option maxRecDepth 100000 in
set_option maxHeartbeats 4000000 in
theorem walk (a : Option Addr) (len cap : Nat) (l : List ByteArray) (t : ByteArray) (w : World) (hl : Strs a len l w) (hz : ∀ x ∈ l, x.size ≤ 140737488351232) (hlen : len ≤ 8796093022208) (ht : t.size ≤ 140737488351232) :
    Calls Try.prog 4 #[.slice a len cap, .string t] w fun e w' => e = .returned (.bool true) ∧ Below w.heap.size w w' := by
  have htl := fun k => tot_le l k _ hz
  have hts := fun k => tot_succ l k
  have hgl := fun k => getD_size_le l _ hz k
  have hll : l.length = len := hl.1
  have H := Lib.hid hl; clear hl
  have Htl := Lib.hid htl; clear htl
  have Hts := Lib.hid hts; clear hts
  have Hgl := Lib.hid hgl; clear hgl
  have Hl := Lib.hid hll; clear hll
  have Hz := Lib.hid hz; clear hz
  have han := answer t ht
  generalize (opn t).1 = y at *
  generalize (opn t).2 = f at *
  obtain ⟨ha1, ha2, ha3⟩ := han
  have A1 := Lib.hid ha1; clear ha1
  have A2 := Lib.hid ha2; clear ha2
  have A3 := Lib.hid ha3; clear ha3
  go_enter Try.func4, Try.ntmps4
  go_wp2
  go_loop [5, 6] (fun s i => ∃ k : Nat, k ≤ len ∧ k ≤ 100 ∧ i = .int .i64 k ∧ s = .int .i64 (tot l k)) (fun _ i => len - (intOf i).toNat)
  case atStart => exact ⟨0, by omega, by omega, rfl, by rw [tot_zero]; rfl⟩
  case round =>
    obtain ⟨k, hk, hk4, rfl, rfl⟩ := hrel
    have h4 : tot l k ≤ 100 * 140737488351232 := Nat.le_trans (Htl.out k) (Nat.mul_le_mul_right _ (by omega))
    by_cases hlt : k < len ∧ k < 100
    · obtain ⟨b, o, rfl, hc⟩ := H.out.2 k hlt.1
      have h2 := Hgl.out k
      have h3 := Hts.out k (by rw [Hl.out]; exact hlt.1)
      generalize l.getD k .empty = x at *
      generalize htk : tot l k = q at *
      have Htk := Lib.hid htk; clear htk
      have H3 := Lib.hid h3; clear h3
      obtain ⟨hlt1, hlt4⟩ := hlt
      have hd : decide ((k : Int) < 100) = true := decide_eq_true (by omega)
      go_wp2
      go_round
      case rel => exact ⟨k + 1, by omega, by omega, by go_num, by rw [H3.out]; go_num⟩
      case measure => simp [intOf]; omega
    · by_cases hlong : 60 < len ∨ 16384 < tot l k + t.size
      · have hkn : (k < len ∧ decide ((k : Int) < 100) = false) ∨ ¬ k < len := by
          by_cases h : k < len
          · exact .inl ⟨h, decide_eq_false (by omega)⟩
          · exact .inr h
        have hlg : decide ((60 : Int) < (len : Int)) = true ∨ (decide ((60 : Int) < (len : Int)) = false ∧ decide ((16384 : Int) < (tot l k : Int) + (t.size : Int)) = true) := by
          by_cases h : 60 < len
          · exact .inl (decide_eq_true (by omega))
          · exact .inr ⟨decide_eq_false (by omega), decide_eq_true (by omega)⟩
        clear hlt hlong
        generalize tot l k = q at *
        rcases hkn with ⟨h1, h2⟩ | h1
        all_goals
          rcases hlg with h3 | ⟨h3, h5⟩
          all_goals
            go_wp2_with fail
            refine (alive_any _).mono ?_; rintro e w1 ⟨rfl, hb⟩
            go_wp2_with fail
            go_ret
            exact ⟨rfl, hb⟩
      · have hlen60 : len ≤ 60 := by omega
        obtain rfl : k = len := by omega
        have htot : tot l k ≤ 16384 := by omega
        have hd60 : decide ((60 : Int) < (k : Int)) = false := decide_eq_false (by omega)
        have hd61 : decide ((16384 : Int) < (tot l k : Int) + (t.size : Int)) = false := decide_eq_false (by omega)
        have Htot := Lib.hid htot; clear htot
        clear hlt hlong hk hk4 hlen
        generalize htk : tot l k = q at hd61 h4 ⊢
        have Htk := Lib.hid htk; clear htk
        go_wp2_with fail
        refine (al_nil _).mono ?_; rintro e w1 ⟨rfl, h1⟩
        have H1 := Lib.hid h1; clear h1
        go_wp2_with fail
        go_loopw [7, 8, 9] (fun c s i wr => ∃ (j : Nat) (S : ByteArray), j ≤ k ∧ i = .int .i64 j ∧ s = .string S ∧ c = .int .u32 (Crc.sum (cat l j) : Nat) ∧ S.data.toList = cat l j ∧ Below w.heap.size w wr) (fun _ _ i _ => k - (intOf i).toNat)
        case atStart => exact ⟨0, ⟨#[]⟩, by omega, rfl, rfl, by rw [cat_zero, Crc.sum_nil]; rfl, by rw [cat_zero], H1.out⟩
        case round =>
          obtain ⟨j, S, hj, rfl, rfl, rfl, hS, hbel⟩ := hrel
          have hcl : (cat l j).length ≤ 16384 := by
            rw [cat_length]; exact Nat.le_trans (tot_le_tot l j k hj (by rw [Hl.out]; exact Nat.le_refl _)) Htot.out
          have hSz : S.size ≤ 16384 := by rw [← ba_len, hS]; exact hcl
          have Hbel := Lib.hid hbel; clear hbel
          have hsl := Crc.sum_lt (cat l j)
          by_cases hlt : j < k
          · obtain ⟨b, o, rfl, hc⟩ := H.out.2 j hlt
            have hcn := cat_succ l j (by rw [Hl.out]; exact hlt)
            have hcl1 : (cat l (j + 1)).length ≤ 16384 := by
              rw [cat_length]; exact Nat.le_trans (tot_le_tot l (j + 1) k (by omega) (by rw [Hl.out]; exact Nat.le_refl _)) Htot.out
            have hxz := Hgl.out j
            generalize l.getD j .empty = x at *
            have hxl : (cat l j).length + x.size ≤ 16384 := by rw [hcn, List.length_append, ba_len] at hcl1; exact hcl1
            have hSx : (S ++ x).data.toList = cat l (j + 1) := by
              rw [hcn, ← hS]; simp
            have hov : ¬ 9223372036854775807 < S.size + x.size := by rw [← hS, ba_len] at hxl; omega
            have hsx : (S ++ x).size ≤ 140737488351232 := by rw [ByteArray.size_append]; omega
            have c1 := fun u => more_any (Crc.sum (cat l j)) hsl x (by omega) u
            rw [Crc.more_sum, ← hcn] at c1
            have c2 := fun u => sum_any (S ++ x) hsx u
            rw [hSx] at c2
            have hcell : ∀ u, Below w.heap.size w u → u.cell? ⟨b, o + j, none⟩ = some (.string x) := fun u hu => by
              rw [hu.cell (p := ⟨b, o + j, none⟩) (cell_lt hc)]; exact hc
            obtain ⟨C1, hC1⟩ : ∃ C1, C1 = cat l (j + 1) := ⟨_, rfl⟩
            rw [← hC1] at hcn hcl1 hSx c1 c2
            have HC1e := Lib.hid hC1; clear hC1
            have hx3 := hcell _ Hbel.out
            generalize hm0 : Crc.sum (cat l j) = m0 at *
            generalize hm1 : Crc.sum C1 = m1 at *
            have Hm1 := Lib.hid hm1; clear hm1
            have Hm0 := Lib.hid hm0; clear hm0
            have HC1 := Lib.hid c1; clear c1
            have HC2 := Lib.hid c2; clear c2
            have Hcell := Lib.hid hcell; clear hcell
            have Hcn := Lib.hid hcn; clear hcn
            have HSx := Lib.hid hSx; clear hSx
            have HS := Lib.hid hS; clear hS
            have Hxl := Lib.hid hxl; clear hxl
            clear hc hcl1 hsl
            go_wp2_with fail
            refine (HC1.out _).mono ?_; rintro e w3 ⟨rfl, h3⟩
            have k3 := Hbel.out.trans (h3.mono Hbel.out.size)
            have hx4 := Hcell.out w3 k3
            have K3 := Lib.hid k3; clear k3
            clear h3 hx3
            go_wp2_with fail
            refine (HC2.out _).mono ?_; rintro e w4 ⟨rfl, h4'⟩
            have k4 := K3.out.trans (h4'.mono K3.out.size)
            have K4 := Lib.hid k4; clear k4
            clear h4' hx4
            go_wp2_with fail
            go_roundw
            case rel => exact ⟨j + 1, S ++ x, by omega, by go_num, rfl, by rw [← HC1e.out, Hm1.out], by rw [HSx.out, HC1e.out], K4.out⟩
            case measure => simp [intOf]; omega
          · obtain rfl : j = k := by omega
            have cs := fun u => seal_any S (by omega) u
            have co := fun u => open_any (sealB S) (by rw [sealB_size]; omega) u
            rw [opn_seal] at co
            generalize sealB S = z at *
            have CS := Lib.hid cs; clear cs
            have CO := Lib.hid co; clear co
            have HS := Lib.hid hS; clear hS
            clear hsl hcl
            generalize Crc.sum (cat l j) = m0 at *
            rcases A3.out with ⟨rfl, a3⟩ | h67
            · have A4 := Lib.hid a3; clear a3
              clear A3
              go_wp2_with fail
              refine (CS.out _).mono ?_; rintro e w3 ⟨rfl, h3⟩
              have k3 := Hbel.out.trans (h3.mono Hbel.out.size)
              clear h3
              go_wp2_with fail
              refine (CO.out _).mono ?_; rintro e w4 ⟨rfl, h4'⟩
              have k4 := k3.trans (h4'.mono k3.size)
              clear h4' k3
              go_wp2_with fail
              refine (A1.out _).mono ?_; rintro e w5 ⟨rfl, h5⟩
              have k5 := k4.trans (h5.mono k4.size)
              clear h5 k4
              go_wp2_with fail
              refine (A4.out _).mono ?_; rintro e w6 ⟨rfl, h6⟩
              have k6 := k5.trans (h6.mono k5.size)
              clear h6 k5
              go_wp2_with fail
              refine (A2.out _).mono ?_; rintro e w7 ⟨rfl, h7⟩
              have k7 := k6.trans (h7.mono k6.size)
              clear h7 k6
              go_wp2_with fail
              refine (alive_any _).mono ?_; rintro e w8 ⟨rfl, h8⟩
              have k8 := k7.trans (h8.mono k7.size)
              clear h8 k7
              go_wp2_with fail
              go_ret
              exact ⟨rfl, k8⟩
            · clear A3
              rcases h67 with rfl | rfl
              all_goals
                go_wp2_with fail
                refine (CS.out _).mono ?_; rintro e w3 ⟨rfl, h3⟩
                have k3 := Hbel.out.trans (h3.mono Hbel.out.size)
                clear h3
                go_wp2_with fail
                refine (CO.out _).mono ?_; rintro e w4 ⟨rfl, h4'⟩
                have k4 := k3.trans (h4'.mono k3.size)
                clear h4' k3
                go_wp2_with fail
                refine (A1.out _).mono ?_; rintro e w5 ⟨rfl, h5⟩
                have k5 := k4.trans (h5.mono k4.size)
                clear h5 k4
                go_wp2_with fail
                refine (A2.out _).mono ?_; rintro e w7 ⟨rfl, h7⟩
                have k7 := k5.trans (h7.mono k5.size)
                clear h7 k5
                go_wp2_with fail
                refine (alive_any _).mono ?_; rintro e w8 ⟨rfl, h8⟩
                have k8 := k7.trans (h8.mono k7.size)
                clear h8 k7
                go_wp2_with fail
                go_ret
                exact ⟨rfl, k8⟩

theorem contract (H : Type) (enc : TypeId × Value → H) (W : World) (base : Nat) (args : Array Value) (ds gs : List (DataW H)) (before : List MemPlace)
    (hval : ∀ (j : Nat) t v, Try.f4.params[j]? = some t → args[j]? = some v → Value.okWide Try.prog W .any base t v)
    (hW : DataW.Whole enc Try.prog Try.f4.params.toList Rows.crcMoreSpec.vars false W args.toList ds gs before)
    (hsz : (DataW.weightsEach Try.prog (Try.f4.params.toList ++ Rows.crcMoreSpec.plain.varTypes Try.prog) (ds ++ gs)).all (· ≤ reachBytes) = true) :
    Calls Try.prog 4 args W fun e W' => ∃ v, e = .returned v ∧ Rows.crcMoreSpec.post enc Try.prog Try.f4 false true false false W args v W' := by
  have hW' := hW
  obtain ⟨p, q, hA0, hV, rfl, hfz, hnd⟩ := hW
  have hA : DataW.TrodAll enc Try.prog W 0 (fun _ => true) true Try.f4.params.toList args.toList ds p := hA0
  rw [Try.params4] at hA hval hsz
  obtain ⟨v0, vs0, d0, ds0, p0, q0, hargs, rfl, rfl, h0, r0⟩ := trodAll_cons hA
  obtain ⟨v1, vs1, d1, ds1, p1, q1, rfl, rfl, rfl, h1, r1⟩ := trodAll_cons r0
  obtain ⟨rfl, rfl, rfl⟩ := trodAll_nil r1
  obtain rfl : args = #[v0, v1] := by cases args; simp_all
  obtain ⟨rfl, rfl⟩ := trodVars_none hV
  obtain ⟨a0, len0, cap0, rfl⟩ := okWide_slice Try.underlying31 (hval 0 31 v0 rfl rfl)
  have k0 := h0
  have lt0 : ∀ x ∈ p0, x.block < W.heap.size := by obtain ⟨m, hm⟩ := k0; exact DataW.trod_lt m _ _ _ hm
  obtain ⟨fuel0, hf0⟩ := h0
  obtain ⟨l0, hst0, hlz0, hll0, hnil0⟩ := open_texts Try.underlying31 Try.underlying9 (by kernel_rfl) bytes16 hf0 (fun n hn => by
    have := List.all_eq_true.1 hsz n (by
      simp only [List.cons_append, DataW.weightsEach]
      exact List.mem_append_left _ hn)
    simpa using this)
  obtain ⟨s1, rfl, rfl, rfl, m1⟩ := open_string Try.underlying9 (hval 1 9 v1 rfl rfl) h1
  clear hA0
  have z1 : s1.size ≤ 140737488351232 := by
    have := List.all_eq_true.1 hsz s1.data.toList.length (by simp [DataW.weightsEach, DataW.weights])
    rw [ba_len] at this
    exact of_decide_eq_true this
  refine (walk a0 len0 cap0 l0 s1 W hst0 hlz0 hll0 z1).mono fun e W' ⟨he, bel⟩ => ?_
  subst he
  exact ⟨_, rfl, _, _, _, [], _, [], hW', trodAll_mk1 (shut_bool Try.underlying4 _), (trodAll_cons_mk (Below.trod laidOut (by kernel_rfl) (of_decide_eq_true (by kernel_rfl)) k0 bel lt0) (trodAll_cons_mk (shut_string Try.underlying9 m1) trodAll_mk0)), rfl, bel.frame _, fun h => by cases h⟩

set_option maxRecDepth 100000 in
theorem lifted (os : Os) (started : os.Started) (H : Type) (enc : TypeId × Value → H) :
    ReturnsInHanded {} Try.checked os 4 .any (Rows.crcMoreSpec.pre6 enc Try.prog Try.f4 Rows.crcMoreRow.domain false) (Rows.crcMoreSpec.post enc Try.prog Try.f4 false true false false) := by
  refine returnsInHanded_of_change_sized (C := Try.checked) own started (by kernel_rfl) Try.func4
    (ChangeSpec.witness6 (enc := enc) (C := Try.checked) false ⟨#[], #[.slice none 0 0, .string .empty], []⟩ 8 (by kernel_rfl) (by kernel_rfl) (by kernel_rfl) (by kernel_rfl)) ?_
  intro W base args ds gs before hval hW hcnd hsz _
  exact contract H enc W base args ds gs before hval hW hsz

theorem over : Rows.crcMoreRow.holds Try.pinned (OpenSpec.ofChange Rows.crcMoreSpec) :=
  OpenClaim.holds_of_wide 4 Try.f4 rfl rfl rfl rfl rfl rfl rfl ⟨rfl, rfl, rfl, rfl, rfl⟩ rfl rfl rfl rfl rfl (by kernel_rfl) Try.func4 (by kernel_rfl)
    (of_decide_eq_true (by kernel_rfl)) (by unfold Func.isWrapper; first | (rw [if_pos (by decide +kernel)]; kernel_rfl) | (rw [if_neg (by decide +kernel)]; exact ⟨rfl, rfl⟩))
    (fun os started H enc _ => lifted os started H enc)

theorem proved : Rows.CrcMoreSaid := over
end Go.Proofs.Yteddioaabhjjnaa.lawMore
