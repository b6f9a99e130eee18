/-
  What the document's answers constants and Plain return.
-/
import Derived.Test.YtdlcdbpigcmnbaaDoorCstRoot
import Derived.Test.YtdlcdbpigcmnbaaDoorShaRefTold
set_option linter.unusedVariables false
namespace Go.Proofs.YtdlcdbpigcmnbaaDoor
open Go.RowKit

theorem k0_get (j : Nat) (h : j < 64) : Cst.root ((Cst.upTo 312).getD j 0) true = Sha.K0.getD j 0 := by
  have hl := Cst.sixtyFour
  rw [← Cst.theK]
  simp [List.getD_eq_getElem?_getD, hl, h]
theorem h0_get (j : Nat) (h : j < 8) : Cst.root ((Cst.upTo 312).getD j 0) false = Sha.H0.list.getD j 0 := by
  have hl := Cst.sixtyFour
  rw [← Cst.theH]
  simp [List.getD_eq_getElem?_getD, hl, show j < 64 by omega, h]
theorem h0_lt : ∀ x ∈ Sha.H0.list, x < 4294967296 := by decide
theorem upTo_get (j : Nat) (h : j < 64) : (Cst.upTo 312).getD j 0 ≤ 1000 := by
  have hl := Cst.sixtyFour
  have := Cst.upTo_small ((Cst.upTo 312)[j]'(by omega)) (List.getElem_mem _)
  rw [List.getD_eq_getElem?_getD, List.getElem?_eq_getElem (by omega)]
  simp; omega

set_option maxRecDepth 100000 in
set_option maxHeartbeats 2000000 in
theorem const_any (w : World) :
    Calls Tryd.prog 18 #[] w fun e w' => (∃ gk gh ck ch, e = .returned (.tuple #[.slice (some ⟨gk, 0, none⟩) 64 ck, .slice (some ⟨gh, 0, none⟩) 8 ch]) ∧ Num .u32 gk Sha.K0 w' ∧ Num .u32 gh Sha.H0.list w') ∧ Below w.heap.size w w' := by
  obtain ⟨i0, hi, hz0, hz1, hz2⟩ := info_parts infoU32
  have Hi := Lib.hid hi; clear hi
  have Hz0 := Lib.hid hz0; clear hz0
  have Hz1 := Lib.hid hz1; clear hz1
  have Hz2 := Lib.hid hz2; clear hz2
  have kg := k0_get
  have hg := h0_get
  have ub := upTo_get
  have hl64 := Cst.sixtyFour
  have KL : Sha.K0.length = 64 := rfl
  have HL : Sha.H0.list.length = 8 := rfl
  have kl : ∀ j, Sha.K0.getD j 0 < 4294967296 := fun j => Sha.getD_lt Sha.K0_lt j
  have hl : ∀ j, Sha.H0.list.getD j 0 < 4294967296 := fun j => Sha.getD_lt h0_lt j
  have cp := primes_any w
  generalize Sha.K0 = KK at *
  generalize Sha.H0.list = HH at *
  generalize Cst.upTo 312 = PL at *
  have Kg := Lib.hid kg; clear kg
  have Hg := Lib.hid hg; clear hg
  have Ub := Lib.hid ub; clear ub
  have Hl64 := Lib.hid hl64; clear hl64
  have KLn := Lib.hid KL; clear KL
  have HLn := Lib.hid HL; clear HL
  have Kl := Lib.hid kl; clear kl
  have Hll := Lib.hid hl; clear hl
  have Cp := Lib.hid cp; clear cp
  go_enter Tryd.func18, Tryd.ntmps18
  go_wp2_with fail
  refine Cp.out.mono ?_; rintro e w1 ⟨⟨gl, cl, rfl, hpl⟩, hb1⟩
  have Hpl := Lib.hid hpl; clear hpl
  have Hb1 := Lib.hid hb1; clear hb1
  go_wp2_with fail
  go_loopw [2, 5] (fun kv i wr => ∃ (j : Nat) (v : Value), v = kv ∧ j ≤ 64 ∧ i = .int .i64 j ∧ Owns w1.heap.size 51 v (nums .u32 (KK.take j)) wr ∧ Below w1.heap.size w1 wr) (fun _ i _ => 64 - (intOf i).toNat)
  case atStart => exact ⟨0, _, rfl, by omega, rfl, Owns.nil _ _ _, Below.refl _ _⟩
  case round =>
    obtain ⟨j, v, rfl, hj, rfl, hown, hbel⟩ := hrel
    have HO := Lib.hid hown; clear hown
    have HB := Lib.hid hbel; clear hbel
    by_cases hlt : j < 64
    · have hc := (Hpl.out.below HB.out) j (by rw [Hl64.out]; omega)
      have hub := Ub.out j (by omega)
      have hval := Kg.out j hlt
      have hvl := Kl.out j
      have hts := nums_take_succ .u32 KK j (by rw [KLn.out]; exact hlt)
      have hxl : (nums .u32 (KK.take j)).length = j := by rw [nums_length, List.length_take, KLn.out]; omega
      generalize PL.getD j 0 = p at *
      have cr := fun u => root_any p true u hub
      rw [hval] at cr
      generalize KK.getD j 0 = x at *
      have Cr := Lib.hid cr; clear cr
      have Hts := Lib.hid hts; clear hts
      have Hxl := Lib.hid hxl; clear hxl
      clear hval
      have j0 : (0 : Int) ≤ (j : Int) := by omega
      have j1 : (j : Int) < 64 := by omega
      go_wp2_with fail
      refine (Cr.out _).mono ?_; rintro e w2 ⟨rfl, hb2⟩
      have hO2 := HO.out.below hb2
      have hB2 := HB.out.trans (hb2.mono HB.out.size)
      have hown2 : w2.ownsRow w1.heap.size 51 1 v j (nums .u32 (KK.take j)) := by have h := hO2; unfold Owns at h; rw [Hxl.out] at h; exact h
      have HO2 := Lib.hid hO2; clear hO2 HO
      have HB2 := Lib.hid hB2; clear hB2 HB
      have Hown2 := Lib.hid hown2; clear hown2
      clear hb2 hc Cr
      go_wp2_with (at_builtin; refine wpList_append_lies _ rfl (.tmp 12) (.tmp 19) 35 rfl w1.heap.size 51 i0 _ 1 4 Tryd.underlying35 Hi.out Hz0.out Hz1.out Hz2.out rfl (by decide) v j (nums .u32 (KK.take j)) rfl (Hown2.out.alloc _) ⟨w2.heap.size, 0, none⟩ 1 1 [.int .u32 (x : Nat)] rfl rfl (World.news_of_block (cs := #[.int .u32 (x : Nat)]) (t := 51) (fr := (0, 0)) (heap_alloc_new w2 _)) (by simp [Value.oneCell']) (by decide) (by unfold maxLen; omega) (by omega) (by have := HB2.out.size; simp; omega) (w2.heap.size + 1) (by simp) ?_; intro gg cap w3 hown4 hgrow hat hlt4)
      have hb3 : Below w1.heap.size w1 w3 := (HB2.out.alloc HB2.out.size _).grown hgrow (by have := HB2.out.size; simp; omega) (fun t ht => (HO2.out.lt t ht).1)
      go_roundw
      case rel =>
        refine ⟨j + 1, _, rfl, by omega, by go_num, ?_, hb3⟩
        rw [Hts.out]
        unfold Owns
        rw [List.length_append, Hxl.out]
        exact hown4
      case measure => simp [intOf]; omega
    · obtain rfl : j = 64 := by omega
      rw [show ((64 : Nat) : Int) = 64 from rfl]
      have ho := HO.out
      rw [List.take_of_length_le (by rw [KLn.out]; exact Nat.le_refl _)] at ho
      clear HO
      rcases ho.form with ⟨_, h⟩ | ⟨g1, c1, rfl, _⟩
      · exact absurd (congrArg List.length h) (by rw [nums_length, KLn.out]; decide)
      · have hn1 := ho.num
        rw [nums_length, KLn.out]
        have Hn1 := Lib.hid hn1; clear hn1 ho
        have HBx1 := Lib.hid HB.out; clear HB
        have Hpl2 := Lib.hid (Hpl.out.below HBx1.out); clear Hpl
        have Hbz := Lib.hid (Hb1.out.trans (HBx1.out.mono Hb1.out.size)); clear Hb1 HBx1
        have Hpl := Hpl2; clear Hpl2
        generalize wr = wz at *
        go_wp2_with fail
        go_loopw [3, 6] (fun kv i wr => ∃ (j : Nat) (v : Value), v = kv ∧ j ≤ 8 ∧ i = .int .i64 j ∧ Owns wz.heap.size 51 v (nums .u32 (HH.take j)) wr ∧ Below wz.heap.size wz wr) (fun _ i _ => 8 - (intOf i).toNat)
        case atStart => exact ⟨0, _, rfl, by omega, rfl, Owns.nil _ _ _, Below.refl _ _⟩
        case round =>
          obtain ⟨j, v, rfl, hj, rfl, hown, hbel⟩ := hrel
          have HO := Lib.hid hown; clear hown
          have HB := Lib.hid hbel; clear hbel
          by_cases hlt : j < 8
          · have hc := (Hpl.out.below HB.out) j (by rw [Hl64.out]; omega)
            have hub := Ub.out j (by omega)
            have hval := Hg.out j hlt
            have hvl := Hll.out j
            have hts := nums_take_succ .u32 HH j (by rw [HLn.out]; exact hlt)
            have hxl : (nums .u32 (HH.take j)).length = j := by rw [nums_length, List.length_take, HLn.out]; omega
            generalize PL.getD j 0 = p at *
            have cr := fun u => root_any p false u hub
            rw [hval] at cr
            generalize HH.getD j 0 = x at *
            have Cr := Lib.hid cr; clear cr
            have Hts := Lib.hid hts; clear hts
            have Hxl := Lib.hid hxl; clear hxl
            clear hval
            have j0 : (0 : Int) ≤ (j : Int) := by omega
            have j1 : (j : Int) < 64 := by omega
            go_wp2_with fail
            refine (Cr.out _).mono ?_; rintro e w2 ⟨rfl, hb2⟩
            have hO2 := HO.out.below hb2
            have hB2 := HB.out.trans (hb2.mono HB.out.size)
            have hown2 : w2.ownsRow wz.heap.size 51 1 v j (nums .u32 (HH.take j)) := by have h := hO2; unfold Owns at h; rw [Hxl.out] at h; exact h
            have HO2 := Lib.hid hO2; clear hO2 HO
            have HB2 := Lib.hid hB2; clear hB2 HB
            have Hown2 := Lib.hid hown2; clear hown2
            clear hb2 hc Cr
            go_wp2_with (at_builtin; refine wpList_append_lies _ rfl (.tmp 25) (.tmp 32) 35 rfl wz.heap.size 51 i0 _ 1 4 Tryd.underlying35 Hi.out Hz0.out Hz1.out Hz2.out rfl (by decide) v j (nums .u32 (HH.take j)) rfl (Hown2.out.alloc _) ⟨w2.heap.size, 0, none⟩ 1 1 [.int .u32 (x : Nat)] rfl rfl (World.news_of_block (cs := #[.int .u32 (x : Nat)]) (t := 51) (fr := (0, 0)) (heap_alloc_new w2 _)) (by simp [Value.oneCell']) (by decide) (by unfold maxLen; omega) (by omega) (by have := HB2.out.size; simp; omega) (w2.heap.size + 1) (by simp) ?_; intro gg cap w3 hown4 hgrow hat hlt4)
            have hb3 : Below wz.heap.size wz w3 := (HB2.out.alloc HB2.out.size _).grown hgrow (by have := HB2.out.size; simp; omega) (fun t ht => (HO2.out.lt t ht).1)
            go_roundw
            case rel =>
              refine ⟨j + 1, _, rfl, by omega, by go_num, ?_, hb3⟩
              rw [Hts.out]
              unfold Owns
              rw [List.length_append, Hxl.out]
              exact hown4
            case measure => simp [intOf]; omega
          · obtain rfl : j = 8 := by omega
            rw [show ((8 : Nat) : Int) = 8 from rfl]
            have ho := HO.out
            rw [List.take_of_length_le (by rw [HLn.out]; exact Nat.le_refl _)] at ho
            clear HO
            rcases ho.form with ⟨_, h⟩ | ⟨g2, c2, rfl, _⟩
            · exact absurd (congrArg List.length h) (by rw [nums_length, HLn.out]; decide)
            · have hn2 := ho.num
              rw [nums_length, HLn.out]
              have Hn2 := Lib.hid hn2; clear hn2 ho
              have HBx2 := Lib.hid HB.out; clear HB
              have hk2 := Hn1.out.below HBx2.out
              have Hk2 := Lib.hid hk2; clear hk2
              go_wp2
              go_ret2
              exact ⟨⟨g1, g2, c1, c2, rfl, Hk2.out, Hn2.out⟩, Hbz.out.trans (HBx2.out.mono Hbz.out.size)⟩

theorem plain_any (s : ByteArray) (w : World) (hs : s.size ≤ 1048576) :
    Calls Tryd.prog 9 #[.string s] w fun e w' => e = .returned (.string ⟨(Sha.digest s.data.toList).toArray⟩) ∧ Below w.heap.size w w' := by
  have hd : (Sha.fo Sha.K0 Sha.H0 (s.data.toList ++ Sha.pad s.size) ((s.data.toList ++ Sha.pad s.size).length / 64)).text = Sha.digest s.data.toList := by
    unfold Sha.digest Sha.full
    rw [ba_len]
  have c2 := fun (gk gh ck ch : Nat) (u : World) (h1 : Num .u32 gh Sha.H0.list u) (h2 : Num .u32 gk Sha.K0 u) => rsum_any gh ch gk ck Sha.H0 Sha.K0 s u Sha.H0_ok h1 h2 rfl hs
  rw [hd] at c2
  have C2 := Lib.hid c2; clear c2
  clear hd
  go_enter Tryd.func9, Tryd.ntmps9
  go_wp2_with fail
  refine (const_any w).mono ?_; rintro e w1 ⟨⟨gk, gh, ck, ch, rfl, hk, hh⟩, hb⟩
  have HH := Lib.hid hh; clear hh
  have HK := Lib.hid hk; clear hk
  go_wp2_with fail
  refine (C2.out _ _ _ _ _ HH.out HK.out).mono ?_; rintro e w2 ⟨rfl, hb2⟩
  go_wp2_with fail
  go_ret
  exact ⟨rfl, hb.trans (hb2.mono hb.size)⟩
end Go.Proofs.YtdlcdbpigcmnbaaDoor
