/-
  slices.Chunk of a row of strings, two by two.
-/
import Derived.Test.YtalklpnekbfehaaGreatFilSt
import Derived.Test.YtalklpnekbfehaaGreatGoRangeStop
import Derived.Test.YtalklpnekbfehaaGreatWalA
import Derived.OwnWalkIn
import Derived.TacticsInMore
import Derived.LoopNIn
import Derived.LoopIn
set_option linter.unusedVariables false
set_option maxRecDepth 100000
namespace Go.Proofs.YtalklpnekbfehaaGreat
open Go.RowKit
attribute [local go_sem] Oper.semAt_some

theorem chunk_any (a : Option Addr) (len cap : Nat) (w : World) :
    Calls Tryz.prog 121 #[.slice a len cap, .int .i64 2] w fun e w' => e = .returned (.func (.func 147) #[] #[.pointer (some ⟨w.heap.size, 0, none⟩), .pointer (some ⟨w.heap.size + 1, 0, none⟩)]) ∧ w' = (w.alloc (.cells #[.slice a len cap] 29)).alloc (.cells #[.int .i64 2] 3) := by
  go_enter Tryz.func121, Tryz.ntmps121
  go_wp2
  go_ret
  exact ⟨rfl, rfl⟩

/-- the k-th two of a row of len strings -/
def chk (b off len k : Nat) : Value := .slice (some ⟨b, off + 2 * k, none⟩) (min 2 (len - 2 * k)) (min 2 (len - 2 * k))

set_option maxHeartbeats 1000000 in
theorem chunk1_any {b off len cap B1 B2 : Nat} {J : Nat → World → Prop} {JS : World → Prop} {W1 : World} (hlen : len ≤ 1099511627776) (hcap : len ≤ cap) (hcm : cap ≤ 9223372036854775807)
    (hJ : ∀ k W, J k W → W.heap[B1]? = some (.cells #[.slice (some ⟨b, off, none⟩) len cap] 29 (0, 0)) ∧ W.heap[B2]? = some (.cells #[.int .i64 2] 3 (0, 0))) (hJd : ∀ k W, J k W → J k W.drew) (h0 : J 0 W1)
    (ly : Nat) (Book BookS : World → Prop) (hBook : ∀ A A', KeepsOthers A A' → Book A → Book A') (hb1 : Book W1)
    (hY : ∀ k W, 2 * k < len → Book W → J k W → YieldAt Fence.wide 3 Tryz.prog ly #[chk b off len k] W fun e W' => (e = .returned (.bool true) ∧ Book W' ∧ J (k + 1) W') ∨ (e = .returned (.bool false) ∧ BookS W' ∧ JS W')) :
    CallsIn Fence.wide 4 Tryz.prog 147 (#[.func (.yield ly) #[] #[]] ++ #[.pointer (some ⟨B1, 0, none⟩), .pointer (some ⟨B2, 0, none⟩)]) W1
      fun e W' => (∃ v, e = .returned v) ∧ ((Book W' ∧ J ((len + 1) / 2) W') ∨ (BookS W' ∧ JS W')) := by
  refine callsIn_of_wp Tryz.func147 rfl trivial ?_ rfl
  simp only [Tryz.ntmps147, List.size_toArray, List.length_cons, List.length_nil, Nat.reduceAdd, Nat.reduceSub, Array.replicate_succ, Array.replicate_zero, List.push_toArray, List.append_toArray, List.nil_append, List.cons_append]
  have HY := Lib.hid hY; clear hY
  have HB := Lib.hid hBook; clear hBook
  have Hb1 := Lib.hid hb1; clear hb1
  have HJ := Lib.hid hJ; clear hJ
  have HJd := Lib.hid hJd; clear hJd
  have H0 := Lib.hid h0; clear h0
  gi_wp2
  gi_loopw [4] (fun c wr => ∃ k : Nat, 2 * k ≤ len + 1 ∧ c = .int .i64 ((2 * k : Nat) : Int) ∧ Book wr ∧ J k wr) (fun c _ => len + 2 - (intOf c).toNat)
  case atStart => exact ⟨0, by omega, rfl, Hb1.out, H0.out⟩
  case round =>
    clear Hb1 H0
    obtain ⟨k, hk, rfl, hbk, hj⟩ := hrel
    have hbx := HJ.out k wr hj
    have c1 := cell_of_one hbx.1
    have c2 := cell_of_one hbx.2
    have Hbk := Lib.hid hbk; clear hbk
    have Hj := Lib.hid hj; clear hj
    clear hbx
    obtain ⟨m, hm⟩ : ∃ m, m = 2 * k := ⟨_, rfl⟩
    rw [← hm]
    by_cases hlt : 2 * k < len
    · have hml : (m : Int) < (len : Int) := by omega
      have hm0 : (0 : Int) ≤ (m : Int) := by omega
      have hm1 : (m : Int) ≤ (len : Int) := by omega
      have hm2 : (m : Int) ≤ (cap : Int) := by omega
      have hc0 : (len : Int) ≤ (cap : Int) := by omega
      have hne : ¬ cap = m := by omega
      have hmn : min (2 : Int) ((len - m : Nat) : Int) = ((min 2 (len - m) : Nat) : Int) := by omega
      have hmx : m < len := by omega
      have Hm := Lib.hid hm; clear hm
      have Hlt := Lib.hid hlt; clear hlt
      gi_wp2
      refine wpIn_wide.2 ?_
      refine wp_region_phases [([0, 1, 2, 3, 4, 5, 6], [])] (by kernel_rfl) (by kernel_rfl) (fun z => z.cell? ⟨B1, 0, none⟩ = some (.slice (some ⟨b, off, none⟩) len cap) ∧ z.cell? ⟨B2, 0, none⟩ = some (.int .i64 2)) ⟨c1, c2⟩ ?_
      simp only [wpPhases, pick, List.filterMap_cons, List.filterMap_nil, List.getElem?_toArray, List.getElem?_cons_zero, List.getElem?_cons_succ]
      refine take_load 3 (.tmp 2) ⟨B2, 0, none⟩ (.int .i64 2) rfl rfl rfl (fun u hu => load_any Tryz.underlying3 Tryz.isAgg3 hu.2) ?_
      simp only [Act.put, List.setIfInBounds_toArray, List.set_cons_zero, List.set_cons_succ]
      refine take_load 29 (.tmp 1) ⟨B1, 0, none⟩ (.slice (some ⟨b, off, none⟩) len cap) rfl rfl rfl (fun u hu => load_any Tryz.underlying29 Tryz.isAgg29 hu.1) ?_
      simp only [Act.put, List.setIfInBounds_toArray, List.set_cons_zero, List.set_cons_succ]
      refine take_move (.tmp 4) (.int .i64 (m : Int)) rfl rfl rfl ?_
      simp only [Act.put, List.setIfInBounds_toArray, List.set_cons_zero, List.set_cons_succ]
      refine take_one (.slice (some ⟨b, off + m, none⟩) (len - m) (cap - m)) rfl (fun u _ => by go_simp) ?_
      simp only [Act.put, List.setIfInBounds_toArray, List.set_cons_zero, List.set_cons_succ]
      refine take_one (.int .i64 ((len - m : Nat) : Int)) rfl (fun u _ => by go_simp) ?_
      simp only [Act.put, List.setIfInBounds_toArray, List.set_cons_zero, List.set_cons_succ]
      refine take_one (.int .i64 ((min 2 (len - m) : Nat) : Int)) rfl (fun u _ => by go_simp) ?_
      simp only [Act.put, List.setIfInBounds_toArray, List.set_cons_zero, List.set_cons_succ]
      refine take_one (.int .i64 ((min 2 (len - m) : Nat) : Int)) rfl (fun u _ => by go_simp) ?_
      simp only [Act.put, List.setIfInBounds_toArray, List.set_cons_zero, List.set_cons_succ]
      refine take_done ?_
      refine midk_end ?_
      have hbk2 := HB.out _ _ (KeepsOthers.drew wr) Hbk.out
      have hj2 := HJd.out k wr Hj.out
      obtain ⟨fn, tmps, assign, body, hy, hR⟩ := HY.out k wr.drew Hlt.out hbk2 hj2
      unfold chk at hy
      rw [← Hm.out] at hy
      have HR := Lib.hid hR; clear hR
      have c1' : wr.drew.cell? ⟨B1, 0, none⟩ = some (.slice (some ⟨b, off, none⟩) len cap) := c1
      have h5 : (m : Int) + ((min 2 (len - m) : Nat) : Int) ≤ (cap : Int) := by omega
      have h6 : (m : Int) ≤ (m : Int) + ((min 2 (len - m) : Nat) : Int) := by omega
      have h7 : ((m : Int) + ((min 2 (len - m) : Nat) : Int)).toNat = m + min 2 (len - m) := by omega
      have h8 : m + min 2 (len - m) - m = min 2 (len - m) := by omega
      generalize min 2 (len - m) = q at *
      gi_wp2
      refine HR.out.mono ?_
      rintro e W7 (⟨rfl, hbk7, hj7⟩ | ⟨rfl, hbk7, hj7⟩)
      · have hbx := HJ.out (k + 1) W7 hj7
        have d2 := cell_of_one hbx.2
        have Hbk7 := Lib.hid hbk7; clear hbk7
        have Hj7 := Lib.hid hj7; clear hj7
        clear hbx hy hbk2 hj2 c1 c2 c1' h5 h6 h7 h8
        gi_wp2
        go_roundw
        case rel => exact ⟨k + 1, by have := Hlt.out; omega, by rw [Hm.out]; congr 1, Hbk7.out, Hj7.out⟩
        case measure => simp [intOf]; omega
      · have Hbk7 := Lib.hid hbk7; clear hbk7
        have Hj7 := Lib.hid hj7; clear hj7
        clear hy hbk2 hj2 c1 c2 c1' h5 h6 h7 h8
        gi_wp2
        (try simp only [Exit.inBlock, Exit.then])
        refine bodyPost_ret (v := .tuple #[]) (results_none rfl _ _ _) rfl ?_
        exact ⟨⟨_, rfl⟩, .inr ⟨Hbk7.out, Hj7.out⟩⟩
    · have hkl : k = (len + 1) / 2 := by omega
      have hml : ¬ (m : Int) < (len : Int) := by omega
      have Hkl := Lib.hid hkl; clear hkl
      gi_wp2
      go_end0
      exact ⟨⟨_, rfl⟩, .inl ⟨Hbk.out, by rw [← Hkl.out]; exact Hj.out⟩⟩
end Go.Proofs.YtalklpnekbfehaaGreat
