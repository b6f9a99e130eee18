/-
  ShaPieces: in whatever pieces a text is written, its digest is the same, and it can be told ahead of each: for all pieces.
  Conditions: none.
-/
import Derived.Test.YtdlcdbpigcmnbaaDoorShaFrame
import Derived.Test.YtdlcdbpigcmnbaaDoorGoStrs
import Derived.Test.YtdlcdbpigcmnbaaDoorCards
import Derived.Test.YtdlcdbpigcmnbaaDoorTie
import Derived.SevenTiedAt
import Derived.ProofKit
import Derived.OpenShut
import Derived.ShutString
import Derived.ChangeOld
import Derived.SizedLaws
namespace Go.Proofs.YtdlcdbpigcmnbaaDoor.lawPieces
open Go.ChangeShapes Go.WideShapes Go.ChangeAt Go.RowKit
open Go.ChangeMaps (open_string shut_string)
set_option linter.unusedVariables false

def cat (l : List ByteArray) (k : Nat) : List UInt8 := ((l.take k).map (·.data.toList)).flatten
theorem cat_zero (l : List ByteArray) : cat l 0 = [] := by simp [cat]
theorem cat_succ (l : List ByteArray) (k : Nat) (h : k < l.length) : cat l (k + 1) = cat l k ++ (l.getD k .empty).data.toList := by
  unfold cat
  rw [List.take_succ_eq_append_getElem h, List.map_append, List.flatten_append]
  simp [List.getD_eq_getElem?_getD, h]
theorem cat_length (l : List ByteArray) (k : Nat) : (cat l k).length = tot l k := by
  unfold cat tot
  rw [List.length_flatten, List.map_map]
  rfl
theorem tot_mono (l : List ByteArray) (k : Nat) (h : k < l.length) : tot l k ≤ tot l (k + 1) := by rw [tot_succ l k h]; omega
theorem tot_le_tot (l : List ByteArray) (k m : Nat) (h : k ≤ m) (hm : m ≤ l.length) : tot l k ≤ tot l m := by
  induction m with
  | zero => obtain rfl : k = 0 := by omega
            exact Nat.le_refl _
  | succ m ih =>
    by_cases e : k = m + 1
    · subst e; exact Nat.le_refl _
    · exact Nat.le_trans (ih (by omega) (by omega)) (tot_mono l m (by omega))

theorem strs_grown {a : Option Addr} {len : Nat} {l : List ByteArray} {w0 w w' : World} {b : Nat} (h : Strs a len l w) (hl : ∀ b0 off, a = some ⟨b0, off, none⟩ → 0 < len → b0 < b) (hg : w.grownBy w' (some b)) : Strs a len l w' := by
  refine ⟨h.1, fun j hj => ?_⟩
  obtain ⟨b0, off, rfl, hc⟩ := h.2 j hj
  have h1 := cell_lt hc
  have h2 := hl b0 off rfl (by omega)
  exact ⟨b0, off, rfl, by rw [World.cell?_of_block (w := w) (hg.block b0 h1 (by intro e; cases e; omega))]; exact hc⟩

set_option maxRecDepth 100000 in
set_option maxHeartbeats 4000000 in
theorem walk (a : Option Addr) (len cap : Nat) (l : List ByteArray) (w : World) (hK : Kw w) (hl : Strs a len l w) (hz : ∀ x ∈ l, x.size ≤ 140737488351232) (hlen : len ≤ 8796093022208) :
    Calls Tryd.prog 5 #[.slice a len cap] w fun e w' => e = .returned (.bool true) ∧ Below w.heap.size w w' := by
  have HK := Lib.hid hK; clear hK
  have htl := fun k => tot_le l k _ hz
  have hts := fun k => tot_succ l k
  have hgl := fun k => getD_size_le l _ hz k
  have hll : l.length = len := hl.1
  have H := Lib.hid hl; clear hl
  have Htl := Lib.hid htl; clear htl
  have Hts := Lib.hid hts; clear hts
  have Hgl := Lib.hid hgl; clear hgl
  have Hl := Lib.hid hll; clear hll
  have Hz := Lib.hid hz; clear hz
  go_enter Tryd.func5, Tryd.ntmps5
  go_wp2
  go_loop [3, 4] (fun s i => ∃ k : Nat, k ≤ len ∧ k ≤ 100 ∧ i = .int .i64 k ∧ s = .int .i64 (tot l k)) (fun _ i => len - (intOf i).toNat)
  case atStart => exact ⟨0, by omega, by omega, rfl, by rw [tot_zero]; rfl⟩
  case round =>
    obtain ⟨k, hk, hk4, rfl, rfl⟩ := hrel
    by_cases hlt : k < len ∧ k < 100
    · obtain ⟨b, o, rfl, hc⟩ := H.out.2 k hlt.1
      have h1 := Htl.out k
      have h2 := Hgl.out k
      have h3 := Hts.out k (by rw [Hl.out]; exact hlt.1)
      have h4 : tot l k ≤ 100 * 140737488351232 := Nat.le_trans h1 (Nat.mul_le_mul_right _ (by omega))
      generalize l.getD k .empty = x at *
      generalize htk : tot l k = q at *
      have Htk := Lib.hid htk; clear htk
      have H3 := Lib.hid h3; clear h3
      clear h1
      obtain ⟨hlt1, hlt4⟩ := hlt
      have hd : decide ((k : Int) < 100) = true := decide_eq_true (by omega)
      go_wp2
      go_round
      case rel => exact ⟨k + 1, by omega, by omega, by go_num, by rw [H3.out]; go_num⟩
      case measure => simp [intOf]; omega
    · by_cases hlong : 40 < len ∨ 4096 < tot l k
      · have hkn : (k < len ∧ decide ((k : Int) < 100) = false) ∨ ¬ k < len := by
          by_cases h : k < len
          · exact .inl ⟨h, decide_eq_false (by omega)⟩
          · exact .inr h
        have hlg : decide ((40 : Int) < (len : Int)) = true ∨ (decide ((40 : Int) < (len : Int)) = false ∧ decide ((4096 : Int) < (tot l k : Int)) = true) := by
          by_cases h : 40 < len
          · exact .inl (decide_eq_true (by omega))
          · exact .inr ⟨decide_eq_false (by omega), decide_eq_true (by omega)⟩
        clear hlt hlong
        generalize tot l k = q at *
        rcases hkn with ⟨h1, h2⟩ | h1
        all_goals
          rcases hlg with h3 | ⟨h3, h4⟩
          all_goals
            go_wp2_with fail
            refine (alive_any _ HK.out).mono ?_; rintro e w1 ⟨rfl, hb⟩
            go_wp2_with fail
            go_ret
            exact ⟨rfl, hb⟩
      · have hlen40 : len ≤ 40 := by omega
        obtain rfl : k = len := by omega
        have htot : tot l k ≤ 4096 := by omega
        have hd40 : decide ((40 : Int) < (k : Int)) = false := decide_eq_false (by omega)
        have hd41 : decide ((4096 : Int) < (tot l k : Int)) = false := decide_eq_false (by omega)
        have Htot := Lib.hid htot; clear htot
        clear hlt hlong hk hk4 hlen
        generalize htk : tot l k = q at hd41 ⊢
        have Htk := Lib.hid htk; clear htk
        -- two hashes
        have hp := HK.out.pos
        have hn1 := new_any w
        have k1 : Below w.heap.size w (w.alloc (.cells initCells 57)) := (Below.refl _ w).alloc (Nat.le_refl _) _
        have h1 := HashAt.start w hp
        have s1 : (w.alloc (.cells initCells 57)).heap.size = w.heap.size + 1 := by simp
        generalize w.alloc (.cells initCells 57) = w1 at *
        have hn2 := new_any w1
        have k2 : Below w.heap.size w (w1.alloc (.cells initCells 57)) := k1.alloc k1.size _
        have k12 : Below w1.heap.size w1 (w1.alloc (.cells initCells 57)) := (Below.refl _ w1).alloc (Nat.le_refl _) _
        have h2 := HashAt.start w1 (by omega)
        have s2 : (w1.alloc (.cells initCells 57)).heap.size = w.heap.size + 2 := by simp; omega
        generalize w1.alloc (.cells initCells 57) = w2 at *
        have g1 := h1.below k12 (by omega)
        rw [s1] at h2 hn2
        have Hn1 := Lib.hid hn1; clear hn1
        have Hn2 := Lib.hid hn2; clear hn2
        have K2 := Lib.hid k2; clear k2
        have G1 := Lib.hid g1; clear g1
        have H2 := Lib.hid h2; clear h2
        have S2 := Lib.hid s2; clear s2
        clear h1 k1 k12 s1
        go_wp2_with fail
        refine Hn1.out.mono ?_; rintro e w' ⟨rfl, rfl⟩
        go_wp2_with fail
        refine Hn2.out.mono ?_; rintro e w' ⟨rfl, rfl⟩
        go_wp2_with fail
        go_loopw [7, 8] (fun s i wr => ∃ (j : Nat) (S : ByteArray), j ≤ k ∧ i = .int .i64 j ∧ s = .string S ∧ S.data.toList = cat l j ∧ HashAt w.heap.size (cat l j) wr ∧ HashAt (w.heap.size + 1) (cat l j) wr ∧ Below w.heap.size w wr) (fun _ i _ => k - (intOf i).toNat)
        case atStart => exact ⟨0, ⟨#[]⟩, by omega, rfl, rfl, by rw [cat_zero], by rw [cat_zero]; exact G1.out, by rw [cat_zero]; exact H2.out, K2.out⟩
        case round =>
          obtain ⟨j, S, hj, rfl, rfl, hS, ha, hb, hbel⟩ := hrel
          have hcl : (cat l j).length ≤ 4096 := by
            rw [cat_length]; exact Nat.le_trans (tot_le_tot l j k hj (by rw [Hl.out]; exact Nat.le_refl _)) Htot.out
          have hSz : S.size ≤ 4096 := by rw [← ba_len, hS]; exact hcl
          have c1 := fun (u : World) (h1 : Kw u) (h2 : HashAt w.heap.size (cat l j) u) => hsum_any w.heap.size (cat l j) u h1 h2 (by omega)
          have c2 := fun (u : World) (h1 : Kw u) => sum_any S u h1 (by omega)
          rw [hS] at c2
          have Ha := Lib.hid ha; clear ha
          have Hb := Lib.hid hb; clear hb
          have Hbel := Lib.hid hbel; clear hbel
          by_cases hlt : j < k
          · obtain ⟨b, o, rfl, hc⟩ := H.out.2 j hlt
            have hcn := cat_succ l j (by rw [Hl.out]; exact hlt)
            have hcl1 : (cat l (j + 1)).length ≤ 4096 := by
              rw [cat_length]; exact Nat.le_trans (tot_le_tot l (j + 1) k (by omega) (by rw [Hl.out]; exact Nat.le_refl _)) Htot.out
            generalize l.getD j .empty = x at *
            have hxl : (cat l j).length + x.size ≤ 4096 := by rw [hcn, List.length_append, ba_len] at hcl1; exact hcl1
            have hSx : (S ++ x).data.toList = cat l (j + 1) := by
              rw [hcn, ← hS]; simp
            have hov : ¬ 9223372036854775807 < S.size + x.size := by rw [← hS, ba_len] at hxl; omega
            have c3 := fun (bb : Nat) (u : World) (h1 : Kw u) (h2 : HashAt bb (cat l j) u) => write_at bb (cat l j) x u h1 h2 (by omega)
            rw [← hcn] at c3
            have hcell : ∀ u, Below w.heap.size w u → u.cell? ⟨b, o + j, none⟩ = some (.string x) := fun u hu => by
              rw [hu.cell (p := ⟨b, o + j, none⟩) (cell_lt hc)]; exact hc
            obtain ⟨C1, hC1⟩ : ∃ C1, C1 = cat l (j + 1) := ⟨_, rfl⟩
            rw [← hC1] at hcn hcl1 hSx c3
            have HC1e := Lib.hid hC1; clear hC1
            generalize cat l j = C0 at *
            generalize (⟨(Sha.digest C0).toArray⟩ : ByteArray) = d at *
            have HC1 := Lib.hid c1; clear c1
            have HC2 := Lib.hid c2; clear c2
            have HC3 := Lib.hid c3; clear c3
            have Hcell := Lib.hid hcell; clear hcell
            have Hcn := Lib.hid hcn; clear hcn
            have HSx := Lib.hid hSx; clear hSx
            have HS := Lib.hid hS; clear hS
            have Hxl := Lib.hid hxl; clear hxl
            clear hc hcl1
            go_wp2_with fail
            refine (HC1.out _ (HK.out.below Hbel.out) Ha.out).mono ?_; rintro e w3 ⟨rfl, h3⟩
            have k3 := Hbel.out.trans (h3.mono Hbel.out.size)
            have ha3 := Ha.out.below h3 Ha.out.lt
            have hb3 := Hb.out.below h3 Hb.out.lt
            have K3 := Lib.hid k3; clear k3
            have Ha3 := Lib.hid ha3; clear ha3
            have Hb3 := Lib.hid hb3; clear hb3
            clear h3
            go_wp2_with fail
            refine (HC2.out _ (HK.out.below K3.out)).mono ?_; rintro e w4 ⟨rfl, h4⟩
            have k4 := K3.out.trans (h4.mono K3.out.size)
            have ha4 := Ha3.out.below h4 Ha3.out.lt
            have hb4 := Hb3.out.below h4 Hb3.out.lt
            have hx4 := Hcell.out w4 k4
            have K4 := Lib.hid k4; clear k4
            have Ha4 := Lib.hid ha4; clear ha4
            have Hb4 := Lib.hid hb4; clear hb4
            clear h4
            go_wp2_with fail
            refine (HC3.out _ _ (HK.out.below K4.out) Ha4.out).mono ?_; rintro e w5 ⟨rfl, hg5, ha5⟩
            have k5 := below_grown K4.out hg5 K4.out.size (Nat.le_refl _)
            have hb5 := Hb4.out.other hg5 (by omega)
            have hx5 := Hcell.out w5 k5
            have K5 := Lib.hid k5; clear k5
            have Ha5 := Lib.hid ha5; clear ha5
            have Hb5 := Lib.hid hb5; clear hb5
            clear hg5 hx4
            go_wp2_with fail
            refine (HC3.out _ _ (HK.out.below K5.out) Hb5.out).mono ?_; rintro e w6 ⟨rfl, hg6, hb6⟩
            have k6 := below_grown K5.out hg6 K5.out.size (by omega)
            have ha6 := Ha5.out.other hg6 (by omega)
            have hx6 := Hcell.out w6 k6
            have K6 := Lib.hid k6; clear k6
            have Ha6 := Lib.hid ha6; clear ha6
            have Hb6 := Lib.hid hb6; clear hb6
            clear hg6 hx5
            go_wp2_with fail
            go_roundw
            case rel => exact ⟨j + 1, S ++ x, by omega, by go_num, rfl, by rw [HSx.out, HC1e.out], by rw [← HC1e.out]; exact Ha6.out, by rw [← HC1e.out]; exact Hb6.out, K6.out⟩
            case measure => simp [intOf]; omega
          · obtain rfl : j = k := by omega
            have hdz : ByteArray.size ⟨(Sha.digest (cat l j)).toArray⟩ = 32 := by rw [Lib.size_eq]; exact Sha.digest_length _
            have c3 := fun (u : World) (h1 : Kw u) (h2 : HashAt (w.heap.size + 1) (cat l j) u) => hsum_any (w.heap.size + 1) (cat l j) u h1 h2 (by omega)
            generalize (⟨(Sha.digest (cat l j)).toArray⟩ : ByteArray) = d at *
            have HC1 := Lib.hid c1; clear c1
            have HC2 := Lib.hid c2; clear c2
            have HC3 := Lib.hid c3; clear c3
            go_wp2_with fail
            refine (HC1.out _ (HK.out.below Hbel.out) Ha.out).mono ?_; rintro e w3 ⟨rfl, h3⟩
            have k3 := Hbel.out.trans (h3.mono Hbel.out.size)
            have ha3 := Ha.out.below h3 Ha.out.lt
            have hb3 := Hb.out.below h3 Hb.out.lt
            have K3 := Lib.hid k3; clear k3
            have Ha3 := Lib.hid ha3; clear ha3
            have Hb3 := Lib.hid hb3; clear hb3
            clear h3
            go_wp2_with fail
            refine (HC2.out _ (HK.out.below K3.out)).mono ?_; rintro e w4 ⟨rfl, h4⟩
            have k4 := K3.out.trans (h4.mono K3.out.size)
            have ha4 := Ha3.out.below h4 Ha3.out.lt
            have hb4 := Hb3.out.below h4 Hb3.out.lt
            have K4 := Lib.hid k4; clear k4
            have Ha4 := Lib.hid ha4; clear ha4
            have Hb4 := Lib.hid hb4; clear hb4
            clear h4
            go_wp2_with fail
            refine (HC3.out _ (HK.out.below K4.out) Hb4.out).mono ?_; rintro e w5 ⟨rfl, h5⟩
            have k5 := K4.out.trans (h5.mono K4.out.size)
            have ha5 := Ha4.out.below h5 Ha4.out.lt
            have K5 := Lib.hid k5; clear k5
            have Ha5 := Lib.hid ha5; clear ha5
            clear h5
            go_wp2_with fail
            refine (HC1.out _ (HK.out.below K5.out) Ha5.out).mono ?_; rintro e w6 ⟨rfl, h6⟩
            have k6 := K5.out.trans (h6.mono K5.out.size)
            have ha6 := Ha5.out.below h6 Ha5.out.lt
            have K6 := Lib.hid k6; clear k6
            have Ha6 := Lib.hid ha6; clear ha6
            clear h6
            go_wp2_with fail
            refine (HC1.out _ (HK.out.below K6.out) Ha6.out).mono ?_; rintro e w7 ⟨rfl, h7⟩
            have k7 := K6.out.trans (h7.mono K6.out.size)
            have K7 := Lib.hid k7; clear k7
            clear h7
            go_wp2_with fail
            refine (alive_any _ (HK.out.below K7.out)).mono ?_; rintro e w8 ⟨rfl, h8⟩
            go_wp2_with fail
            go_ret
            exact ⟨rfl, K7.out.trans (h8.mono K7.out.size)⟩

theorem bytes16 : Tryd.prog.bytesOf 9 = 16 := by kernel_rfl

set_option maxRecDepth 100000 in
theorem lifted (os : Os) (started : os.Started) (H : Type) (enc : TypeId × Value → H) :
    ReturnsInHanded {} Tryd.checked os 5 .any (fun w args => (Rows.shaPiecesSpec.pre enc Tryd.prog Tryd.f5 [] false w args ∧ laidMetH Tryd.prog laidList w) ∧ sizedMet enc Tryd.prog Tryd.f5 (OpenSpec.ofChange Rows.shaPiecesSpec) false w args)
      (Rows.shaPiecesSpec.post enc Tryd.prog Tryd.f5 false true false false) := by
  refine returnsInHanded_of_change_and (C := Tryd.checked) (X := fun w _ => laidMetH Tryd.prog laidList w) (fun _ _ _ hh h => h.of_heap hh) own started (by kernel_rfl) Tryd.func5
    (ChangeSpec.witness_shaped (enc := enc) (C := Tryd.checked) (os := os) (X := fun w _ => laidMetH Tryd.prog laidList w) false (World.doorLaid Tryd.prog 400 os) #[.slice none 0 0] 8 rfl (World.shaped_of_RefB (by kernel_rfl) (by kernel_rfl)) (by kernel_rfl) (by kernel_rfl) (by kernel_rfl) (door_met os _)) ?_
  intro W base args ds gs before hval0 hW _ hsz hL _
  have hval : ∀ (j : Nat) t v, Tryd.f5.params[j]? = some t → args[j]? = some v → Value.okWide Tryd.prog W .any base t v := hval0
  have hW' := hW
  obtain ⟨p, q, hA0, hV, rfl, hfz, hnd⟩ := hW
  have hA : DataW.TrodAll enc Tryd.prog W 0 (fun _ => true) true Tryd.f5.params.toList args.toList ds p := hA0
  rw [Tryd.params5] at hA hval hsz
  obtain ⟨v0, vs0, d0, ds0, p0, q0, hargs, rfl, rfl, h0, r0⟩ := trodAll_cons hA
  obtain ⟨rfl, rfl, rfl⟩ := trodAll_nil r0
  obtain rfl : args = #[v0] := by cases args; simp_all
  obtain ⟨rfl, rfl⟩ := trodVars_none hV
  obtain ⟨a0, len0, cap0, rfl⟩ := okWide_slice Tryd.underlying29 (hval 0 29 v0 rfl rfl)
  have k0 := h0
  have lt0 : ∀ x ∈ p0, x.block < W.heap.size := by obtain ⟨m, hm⟩ := k0; exact DataW.trod_lt m _ _ _ hm
  obtain ⟨fuel, hf⟩ := h0
  obtain ⟨l, hst, hlz, hll, hnil⟩ := open_texts Tryd.underlying29 Tryd.underlying9 (by kernel_rfl) bytes16 hf (fun n hn => by
    have := List.all_eq_true.1 hsz n (by
      simp only [List.cons_append, DataW.weightsEach]
      exact List.mem_append_left _ hn)
    simpa using this)
  clear hA0 hval0
  refine (walk a0 len0 cap0 l W (kw_of_laid hL) hst hlz hll).mono fun e W' ⟨he, bel⟩ => ?_
  subst he
  exact ⟨_, rfl, _, _, _, [], _, [], hW', trodAll_mk1 (shut_bool Tryd.underlying4 _), (trodAll_cons_mk (Below.trod laidOut (by kernel_rfl) (of_decide_eq_true (by kernel_rfl)) k0 bel lt0) trodAll_mk0), rfl, bel.frame _, fun h => by cases h⟩

theorem over : Rows.ShaPiecesSaid :=
  OpenClaim.holds_of_wide 5 Tryd.f5 rfl rfl rfl rfl rfl rfl rfl ⟨rfl, rfl, rfl, rfl, rfl⟩ rfl rfl rfl rfl rfl (by kernel_rfl) Tryd.func5 (by kernel_rfl)
    (of_decide_eq_true (by kernel_rfl)) (by unfold Func.isWrapper; first | (rw [if_pos (by decide +kernel)]; kernel_rfl) | (rw [if_neg (by decide +kernel)]; exact ⟨rfl, rfl⟩))
    (fun os started H enc _ => lifted os started H enc)

theorem proved : Rows.ShaPiecesCardSaid :=
  Claim7.holds_tied_plain_at .later [] [.data] true (true, "1cd02f54d243a5e022509931f4e663f22cc9b8a96e47fd9b877653311a39a180") false
    over (fun _ h => by cases h) (by kernel_rfl) (fun _ h => by cases h) shaPieces_row_tie rfl ⟨rfl, rfl⟩ (by kernel_rfl) rfl
    (fun f fn hf hfn => by
      obtain rfl : f = 5 := Option.some.inj ((show Tryd.prog.funcNamed "maslin/maslinlaw02.ShaPieces" = some 5 by kernel_rfl).symm.trans hf) |>.symm
      obtain rfl : fn = Tryd.f5 := (Option.some.inj (Tryd.func5.symm.trans hfn)).symm
      exact ⟨by kernel_rfl, fun j t ht => by
        rw [Tryd.params5] at ht
        have hm : t ∈ [29] := by simpa using Array.mem_of_getElem? ht
        have hall : ([29].all fun u => !Tryd.prog.wantsStandIn u) = true := by kernel_rfl
        exact (show Tryd.prog.wantsStandIn t = false by simpa using List.all_eq_true.1 hall t hm)⟩)
    (by kernel_rfl)
end Go.Proofs.YtdlcdbpigcmnbaaDoor.lawPieces
