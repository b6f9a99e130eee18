/-
  Which kinds an instruction pushes: pushed.
-/
import Derived.Test.YtolldoclnfnceaaDoorVerFit
import Derived.Test.YtolldoclnfnceaaDoorGoByW
set_option linter.unusedVariables false
set_option maxRecDepth 100000
namespace Go.Proofs.YtolldoclnfnceaaDoor
open Go.RowKit

namespace Ver
/-- letters that are any kind are among those that it pops -/
def Named (p q : List UInt8) : Prop := ∀ c ∈ q, c = 97 ∨ c = 98 → ∃ j, j < p.length ∧ Lib.indexByte p c = (j : Int) ∧ p.idxOf c = j
def namedB (p q : List UInt8) : Bool := q.all fun c => !(c == 97 || c == 98) || (decide (p.idxOf c < p.length) && (Lib.indexByte p c == ((p.idxOf c : Nat) : Int)))
theorem named_of {p q : List UInt8} (h : namedB p q = true) : Named p q := by
  intro c hc hab
  have := List.all_eq_true.1 h c hc
  have h1 : (c == 97 || c == 98) = true := by rcases hab with rfl | rfl <;> rfl
  rw [h1] at this
  simp only [Bool.not_true, Bool.false_or, Bool.and_eq_true, decide_eq_true_eq, beq_iff_eq] at this
  exact ⟨_, this.1, this.2, rfl⟩
theorem named_all : ∀ j, j < 24 → ∀ b : Bool, namedB (rp (if b then [78] else [84]) (effP j)) (rp (if b then [78] else [84]) (effQ j)) = true := by decide +kernel
theorem named_op (op a : Nat) (h : op < 24) : Named (pops op a) (pushes op a) := by
  have : ∃ b : Bool, reg a = (if b then [78] else [84]) := by
    unfold reg
    by_cases c : a < 4
    · exact ⟨true, by rw [if_pos c]; rfl⟩
    · exact ⟨false, by rw [if_neg c]; rfl⟩
  obtain ⟨b, hb⟩ := this
  unfold pops pushes
  rw [hb]
  exact named_of (named_all op h b)
/-- what stands there when k are done -/
def half (p q top : List UInt8) (k : Nat) : List UInt8 := pushedP p (q.take k) top ++ q.drop k
theorem half_zero (p q top : List UInt8) : half p q top 0 = q := rfl
theorem half_all (p q top : List UInt8) : half p q top q.length = pushedP p q top := by unfold half; rw [List.take_length, List.drop_length, List.append_nil]
theorem half_len (p q top : List UInt8) (k : Nat) : (half p q top k).length = q.length := by
  unfold half pushedP
  rw [List.length_append, List.length_map, List.length_take, List.length_drop]
  omega
theorem half_get (p q top : List UInt8) (k : Nat) (h : k < q.length) : (half p q top k).getD k 0 = q.getD k 0 := by
  unfold half pushedP
  have hl : (List.map (kindOf p top) (q.take k)).length = k := by rw [List.length_map, List.length_take]; omega
  rw [List.getD_eq_getElem?_getD, List.getElem?_append_right (by omega), hl, Nat.sub_self, List.getElem?_drop, Nat.add_zero, ← List.getD_eq_getElem?_getD]
theorem half_step (p q top : List UInt8) (k : Nat) (h : k < q.length) : (half p q top k).set k (kindOf p top (q.getD k 0)) = half p q top (k + 1) := by
  unfold half pushedP
  have hl : (List.map (kindOf p top) (q.take k)).length = k := by rw [List.length_map, List.length_take]; omega
  rw [List.set_append, if_neg (by omega), hl, Nat.sub_self, List.drop_eq_getElem_cons h, List.set_cons_zero, List.take_succ_eq_append_getElem h, List.map_append, List.append_assoc]
  congr 1
  rw [List.getD_eq_getElem?_getD, List.getElem?_eq_getElem h]
  rfl
end Ver

set_option maxHeartbeats 2000000 in
theorem pushed_any (p q top : List UInt8) (hl : top.length = p.length) (hp : p.length ≤ 3) (hq : q.length ≤ 2) (hn : Ver.Named p q) (w : World) : Calls Tryd.prog 38 #[.agg #[.string (Ver.kb p), .string (Ver.kb q)], .string (Ver.kb top)] w fun e w' =>
    e = .returned (.string (Ver.kb (Ver.pushedP p q top))) ∧ Below w.heap.size w w' := by
  have hcv := fun u => Byw.run_bytesWorld (P := Tryd.prog) 9 86 5 Tryd.underlying9 Tryd.underlying86 Tryd.underlying5 (Ver.kb q) u
  have zq : (Ver.kb q).size = q.length := Ver.kb_size q
  rw [zq] at hcv
  obtain ⟨P, hP⟩ : ∃ P, P = Ver.kb p := ⟨_, rfl⟩
  obtain ⟨T, hT⟩ : ∃ T, T = Ver.kb top := ⟨_, rfl⟩
  have zT : T.size = top.length := by rw [hT]; exact Ver.kb_size top
  have gT : ∀ j (h : j < T.size), T[j] = top.getD j 0 := fun j h => by subst hT; rw [← ba_get _ j h (by rw [ba_len]; exact h), List.getD_eq_getElem?_getD, List.getElem?_eq_getElem (show j < top.length by omega)]; rfl
  have CI : ∀ (c : Int) u, Calls Tryd.prog 47 #[.string P, .int .u8 c] u fun e w' => e = .returned (.int .i64 (Lib.indexByte p c.toNat.toUInt8)) ∧ w' = u := fun c u => by
    have := Tryd.strings_IndexByte P c u
    rw [hP] at this ⊢
    exact this
  rw [← hP, ← hT]
  clear hP hT
  have hr1 := alloc_at (w := w) (o := .cells #[.string P, .string (Ver.kb q)] 74) rfl
  have hb1 := obj_below w (.cells #[.string P, .string (Ver.kb q)] 74)
  have hs1 := alloc_size w (.cells #[.string P, .string (Ver.kb q)] 74)
  have hbw := Byw.bytesWorld_below (Ver.kb q) 5 hb1 (by omega)
  have harr := Byw.bytesWorld_arr (Ver.kb q) 5 (w.alloc (.cells #[.string P, .string (Ver.kb q)] 74))
  have hsz := Byw.bytesWorld_size (Ver.kb q) 5 (w.alloc (.cells #[.string P, .string (Ver.kb q)] 74))
  have hnew := Byw.bytesWorld_below (Ver.kb q) 5 (Below.refl (w.alloc (.cells #[.string P, .string (Ver.kb q)] 74)).heap.size _) (Nat.le_refl _)
  have hrw := row_below hr1 hnew (by omega)
  have HB := Lib.hid hbw; clear hbw hb1 hnew
  have HA := Lib.hid harr; clear harr
  have HR := Lib.hid hrw; clear hrw hr1
  have Hs1 := Lib.hid hs1; clear hs1
  have Hsz := Lib.hid hsz; clear hsz
  have HN := Lib.hid hn; clear hn
  have HC := Lib.hid CI; clear CI
  have GT := Lib.hid gT; clear gT
  have ZT := Lib.hid zT; clear zT
  go_enter Tryd.func38, Tryd.ntmps38
  go_wp2_with fail
  have hA := HA.out
  rw [Hs1.out] at hA
  have hZ := Hsz.out
  rw [Hs1.out] at hZ
  have hBo := HB.out
  have hRo := HR.out
  clear HA Hsz HB HR Hs1 hcv
  generalize Byw.bytesWorld (Ver.kb q) 5 (w.alloc (.cells #[.string P, .string (Ver.kb q)] 74)) = w2 at *
  generalize grownCap (w.alloc (.cells #[.string P, .string (Ver.kb q)] 74)) q.length 0 5 = cap at *
  have HA := Lib.hid hA; clear hA
  have HZ := Lib.hid hZ; clear hZ
  have HB := Lib.hid hBo; clear hBo
  have HR := Lib.hid hRo; clear hRo
  obtain ⟨B, hB⟩ : ∃ B, B = w.heap.size := ⟨_, rfl⟩
  have HBe := Lib.hid hB
  rw [← hB] at HA HZ HB HR ⊢
  clear hB
  obtain ⟨n, hn⟩ : ∃ n, n = q.length := ⟨_, rfl⟩
  rw [← hn] at hq ⊢
  have Hn := Lib.hid hn; clear hn zq
  go_loopw [13] (fun i wr => ∃ k : Nat, k ≤ n ∧ i = .int .i64 (k : Int) ∧ ArrB (B + 1) (Ver.half p q top k) wr ∧ wr.heap[B]? = some (.cells #[.string P, .string (Ver.kb q)] 74 (0, 0)) ∧ Below B w wr) (fun i _ => n - (intOf i).toNat)
  case atStart => exact ⟨0, Nat.zero_le _, rfl, HA.out, HR.out, HB.out⟩
  case round =>
    clear HA HR HB
    obtain ⟨k, hk, rfl, ha, hr, hb⟩ := hrel
    have HA := Lib.hid ha; clear ha
    have HR := Lib.hid hr; clear hr
    have HB := Lib.hid hb; clear hb
    by_cases hlt : k < n
    · have hlt2 : (k : Int) < (n : Int) := by omega
      have hkq : k < q.length := by have := Hn.out; omega
      have hkh : k < (Ver.half p q top k).length := by rw [Ver.half_len]; exact hkq
      have hcell := HA.out.cell hkh
      have hfree := HA.out.free hkh
      rw [Ver.half_get p q top k hkq] at hcell
      have hstep := Ver.half_step p q top k hkq
      have hst := fun (y : UInt8) (x : Int) (e : x = (y.toNat : Int)) => HA.out.store hkh y x e
      obtain ⟨c, hc⟩ : ∃ c, c = q.getD k 0 := ⟨_, rfl⟩
      rw [← hc] at hcell hstep
      have hmem : c ∈ q := by rw [hc, List.getD_eq_getElem?_getD, List.getElem?_eq_getElem hkq]; exact List.getElem_mem _
      clear hc
      have Hstep := Lib.hid hstep; clear hstep
      have Hst := Lib.hid hst; clear hst
      by_cases hab : c = 97 ∨ c = 98
      · obtain ⟨j, hj, hji, hjo⟩ := HN.out c hmem hab
        have hkind : Ver.kindOf p top c = top.getD j 0 := by unfold Ver.kindOf; rw [if_pos hab, hjo]
        have hci : ∀ u, Calls Tryd.prog 47 #[.string P, .int .u8 (c.toNat : Int)] u fun e w' => e = .returned (.int .i64 (j : Int)) ∧ w' = u := fun u => by
          have := HC.out (c.toNat : Int) u
          rwa [show ((c.toNat : Int)).toNat.toUInt8 = c from by simp, hji] at this
        have HCI := Lib.hid hci; clear hci
        have hjT : j < T.size := by have := ZT.out; omega
        have hgt := GT.out j hjT
        have hne := Hst.out (top.getD j 0) _ rfl
        rw [← hkind, Hstep.out] at hne
        rw [hkind] at hne
        rw [← hgt] at hne
        have HNE := Lib.hid hne; clear hne
        have c0 : wr.cell? ⟨B, 0, none⟩ = some (.string P) := by rw [cell_at HR.out 0]; rfl
        have hjT2 : (j : Int) < (T.size : Int) := by omega
        have fin : ∀ wz, wz = wr.setCell ⟨B + 1, k, none⟩ (.int .u8 (T[j].toNat : Int)) → ArrB (B + 1) (Ver.half p q top (k + 1)) wz ∧ wz.heap[B]? = some (.cells #[.string P, .string (Ver.kb q)] 74 (0, 0)) ∧ Below B w wz := by
          rintro wz rfl
          exact ⟨HNE.out, set_other HR.out (by omega), HB.out.setCell (show B ≤ B + 1 by omega) _⟩
        have Fin := Lib.hid fin; clear fin hgt hkind
        have hca : (((c.toNat : Nat) : Int) == 97) = decide (c = 97) := by
          rw [Bool.eq_iff_iff, beq_iff_eq, decide_eq_true_iff]
          exact ⟨fun h => UInt8.toNat_inj.1 (by simp; omega), fun h => by rw [h]; rfl⟩
        rcases hab with rfl | rfl
        · go_wp2_with fail
          refine (HCI.out _).mono ?_; rintro e w3 ⟨rfl, rfl⟩
          go_wp2_with fail
          go_roundw
          case rel => exact ⟨k + 1, by omega, by go_num, (Fin.out _ rfl).1, (Fin.out _ rfl).2.1, (Fin.out _ rfl).2.2⟩
          case measure => simp [intOf]; omega
        · go_wp2_with fail
          refine (HCI.out _).mono ?_; rintro e w3 ⟨rfl, rfl⟩
          go_wp2_with fail
          go_roundw
          case rel => exact ⟨k + 1, by omega, by go_num, (Fin.out _ rfl).1, (Fin.out _ rfl).2.1, (Fin.out _ rfl).2.2⟩
          case measure => simp [intOf]; omega
      · have hkind : Ver.kindOf p top c = c := by unfold Ver.kindOf; rw [if_neg hab]
        have hsame : (Ver.half p q top k).set k c = Ver.half p q top (k + 1) := by rw [← hkind]; exact Hstep.out
        have hid0 : (Ver.half p q top k).set k c = Ver.half p q top k := by
          apply List.ext_getElem?
          intro i
          rw [List.getElem?_set]
          split
          · rename_i e
            subst e
            have hci : (wr.cell? ⟨B + 1, k, none⟩) = some (.int .u8 (((Ver.half p q top k).getD k 0).toNat : Int)) := HA.out.cell hkh
            rw [hcell] at hci
            simp only [Option.some.injEq, Value.int.injEq, true_and] at hci
            have : c = (Ver.half p q top k).getD k 0 := UInt8.toNat_inj.1 (by omega)
            rw [this, List.getD_eq_getElem?_getD, List.getElem?_eq_getElem hkh]; rfl
          · rfl
        rw [hid0] at hsame
        have Hsame := Lib.hid hsame; clear hsame hid0 hkind
        have n1 : c.toNat ≠ 97 := fun e => hab (.inl (UInt8.toNat_inj.1 e))
        have n2 : c.toNat ≠ 98 := fun e => hab (.inr (UInt8.toNat_inj.1 e))
        obtain ⟨C, hC⟩ : ∃ C, c.toNat = C := ⟨_, rfl⟩
        rw [hC] at hcell n1 n2
        have d1 : ((C : Int) == 97) = false := beq_eq_false_iff_ne.2 (by omega)
        have d2 : ((C : Int) == 98) = false := beq_eq_false_iff_ne.2 (by omega)
        clear hC hab
        go_wp2_with fail
        go_roundw
        case rel => exact ⟨k + 1, by omega, by go_num, by rw [← Hsame.out]; exact HA.out, HR.out, HB.out⟩
        case measure => simp [intOf]; omega
    · obtain rfl : k = n := by omega
      have hnl : ¬ (k : Int) < (k : Int) := by omega
      have hcv := HA.out.conv (P := Tryd.prog) 86 9 5 Tryd.underlying86 Tryd.underlying5 Tryd.underlying9 k cap (by rw [Ver.half_len, ← Hn.out]; exact Nat.le_refl _)
      have ht : (Ver.half p q top k).take k = Ver.pushedP p q top := by
        rw [List.take_of_length_le (by rw [Ver.half_len, ← Hn.out]; exact Nat.le_refl _), Hn.out, Ver.half_all]
      rw [ht] at hcv
      go_wp2_with fail
      go_ret
      exact ⟨rfl, by have := HB.out; rwa [HBe.out] at this⟩
end Go.Proofs.YtolldoclnfnceaaDoor
