/-
  What the document's Fresh of layer 11 returns.
-/
import Derived.Test.YtcmlcpejlmlcfaaEdtFresh
set_option linter.unusedVariables false
set_option maxRecDepth 100000
namespace Go.Proofs.Ytcmlcpejlmlcfaa
open Go.RowKit

theorem hasT_take (l : List ByteArray) (y : ByteArray) (k : Nat) (hk : k < l.length) : hasT (l.take (k + 1)) y = (hasT (l.take k) y || decide (l.getD k .empty = y)) := by
  unfold hasT
  rw [List.take_add_one, List.any_append, List.getD_eq_getElem?_getD, List.getElem?_eq_getElem hk]
  simp
theorem SRd.strs {v : Value} {l : List ByteArray} {w : World} (h : SRd v l w) : ∃ a cap, v = .slice a l.length cap ∧ Strs a l.length l w := by
  obtain ⟨a, cap, rfl, hc, hf⟩ := h
  refine ⟨a, cap, rfl, rfl, fun j hj => ?_⟩
  obtain ⟨b, rfl, e⟩ := hf j hj
  exact ⟨b, 0, rfl, by rw [Nat.zero_add]; exact e⟩
theorem text_same (x y : ByteArray) : decide (x = y) = (x.toList == y.toList) := by
  rw [Bool.eq_iff_iff]
  simp only [decide_eq_true_eq, beq_iff_eq]
  constructor
  · rintro rfl; rfl
  · intro e; exact ba_toList_inj e

set_option maxHeartbeats 4000000 in
theorem refFresh_any (a1 a2 : Option Addr) (m1 m2 c1 c2 : Nat) (l1 l2 : List ByteArray) (w : World) (h1 : Strs a1 m1 l1 w) (h2 : Strs a2 m2 l2 w) (n1 : m1 ≤ 1099511627776) (n2 : m2 ≤ 1099511627776) :
    Calls Try.prog 14 #[.slice a1 m1 c1, .slice a2 m2 c2] w fun e w' => ∃ v, e = .returned v ∧ IRd v (freshL l1 l2 m2) w' ∧ Below w.heap.size w w' := by
  obtain ⟨hm1, hf1⟩ := h1
  obtain ⟨hm2, hf2⟩ := h2
  obtain ⟨i0, hi0, hz0, hz1, hz2⟩ := info_parts int_info
  have Hf1 := Lib.hid hf1; clear hf1
  have Hf2 := Lib.hid hf2; clear hf2
  have Hm1 := Lib.hid hm1.symm; clear hm1
  have Hm2 := Lib.hid hm2.symm; clear hm2
  have hnil : freshL l1 l2 0 = [] := rfl
  have Hnil := Lib.hid hnil; clear hnil
  go_enter Try.func14, Try.ntmps14
  go_wp2_with fail
  go_loopw [5, 6] (fun v i wr => ∃ (j : Nat), j ≤ m2 ∧ i = .int .i64 (j : Int) ∧ IOwn w.heap.size v (freshL l1 l2 j) wr ∧ Below w.heap.size w wr) (fun _ i _ => m2 - (intOf i).toNat)
  case atStart => exact ⟨0, Nat.zero_le _, rfl, by rw [Hnil.out]; exact World.ownsRow_nil _ _ 3 1, Below.refl _ _⟩
  case round =>
    obtain ⟨j, hj, rfl, hv, hb⟩ := hrel
    by_cases hlt : j < m2
    · have g1 : decide (j < m2) = true := decide_eq_true hlt
      have g2 : (j : Int) < (m2 : Int) := by omega
      obtain ⟨b2, o2, rfl, e2⟩ := Hf2.out j hlt
      have hst := freshL_succ l1 l2 j
      have hfl := freshL_length l1 l2 j
      obtain ⟨F, hF⟩ : ∃ F, freshL l1 l2 j = F := ⟨_, rfl⟩
      obtain ⟨x, hx⟩ : ∃ x, l2.getD j .empty = x := ⟨_, rfl⟩
      rw [hF] at hv hst hfl
      rw [hx] at hst e2
      have Hst := Lib.hid hst; clear hst
      have E2 := Lib.hid e2; clear e2
      have Hb := Lib.hid hb; clear hb
      have Hv := Lib.hid hv; clear hv
      have h0 : hasT (l1.take 0) x = false := rfl
      have H0 := Lib.hid h0; clear h0
      clear hF hx
      generalize wr = wm at *
      go_wp2_with fail
      go_loopw [7, 8] (fun u i wr => ∃ (k : Nat), k ≤ m1 ∧ i = .int .i64 (k : Int) ∧ u = .bool (hasT (l1.take k) x) ∧ Below wm.heap.size wm wr) (fun _ i _ => m1 - (intOf i).toNat)
      case atStart => exact ⟨0, Nat.zero_le _, rfl, by rw [H0.out], Below.refl _ _⟩
      case round =>
        clear g1 g2
        obtain ⟨k, hk, rfl, rfl, hbz⟩ := hrel
        by_cases hlk : k < m1
        · have g1 : decide (k < m1) = true := decide_eq_true hlk
          have g2 : (k : Int) < (m1 : Int) := by omega
          have hnx := hasT_take l1 x k (by have := Hm1.out; omega)
          obtain ⟨b1, o1, rfl, e1⟩ := Hf1.out k hlk
          have hbe := Hb.out.trans (hbz.mono Hb.out.size)
          have d1 : wr.cell? ⟨b1, o1 + k, none⟩ = some (.string (l1.getD k .empty)) := by rw [hbe.cell (p := ⟨b1, o1 + k, none⟩) (cell_lt e1)]; exact e1
          have d2 : wr.cell? ⟨b2, o2 + j, none⟩ = some (.string x) := by rw [hbe.cell (p := ⟨b2, o2 + j, none⟩) (cell_lt E2.out)]; exact E2.out
          obtain ⟨y, hy⟩ : ∃ y, l1.getD k .empty = y := ⟨_, rfl⟩
          rw [hy] at hnx d1
          rw [text_same] at hnx
          obtain ⟨t, ht⟩ : ∃ t, hasT (l1.take k) x = t := ⟨_, rfl⟩
          rw [ht] at hnx ⊢
          have Hnx := Lib.hid hnx; clear hnx
          have Hbz := Lib.hid hbz; clear hbz
          clear hy ht e1 hbe
          cases t
          · have h1 := Hnx.out
            rw [Bool.false_or] at h1
            have H1 := Lib.hid h1; clear h1
            go_wp2_with fail
            go_quiet (fail)
            go_wp2_with fail
            go_roundw
            case rel => exact ⟨k + 1, by omega, by go_num, by rw [H1.out], drewN_below Hbz.out _⟩
            case measure => simp [intOf]; omega
          · have h1 := Hnx.out
            rw [Bool.true_or] at h1
            have H1 := Lib.hid h1; clear h1
            go_wp2_with fail
            go_quiet (fail)
            go_wp2_with fail
            go_roundw
            case rel => exact ⟨k + 1, by omega, by go_num, by rw [H1.out], drewN_below Hbz.out _⟩
            case measure => simp [intOf]; omega
        · have g1 : decide (k < m1) = false := decide_eq_false hlk
          have hall : l1.take k = l1 := by rw [show k = m1 by omega, Hm1.out]; exact List.take_length
          rw [hall]
          have hbe := Hb.out.trans (hbz.mono Hb.out.size)
          have hv2 := Hv.out.new hbz
          obtain ⟨t, ht⟩ : ∃ t, hasT l1 x = t := ⟨_, rfl⟩
          have hst := Hst.out
          rw [ht] at hst ⊢
          have Hbe := Lib.hid hbe; clear hbe hbz
          have Hv2 := Lib.hid hv2; clear hv2
          clear ht hall
          cases t
          · rw [if_neg (by simp)] at hst
            have Hs := Lib.hid hst; clear hst
            have hbs := Hbe.out.size
            go_wp2_with (at_builtin; go_loud (refine wpList_append_own_at _ rfl _ _ 32 rfl w.heap.size 3 i0 (.int .i64 0) 1 8 Try.underlying32 hi0 hz0 hz1 hz2 rfl (by decide) _ _ _ rfl (World.ownsRow.alloc Hv2.out _) ⟨wr.heap.size, 0, none⟩ 1 1 [.int .i64 (j : Int)] rfl rfl (cell_new_row wr [.int .i64 (j : Int)] 3) ?c2 ?c3 ?c4 ?c5 ?_))
            case c2 => intro z hz; simp at hz; subst hz; rfl
            case c3 => unfold maxLen; omega
            case c4 => omega
            case c5 => simp; omega
            intro v' w5 hown5 hgrow _ hvb
            have hbY := box_below wr (.cells #[.int .i64 (j : Int)] 3)
            have hb5 : Below w.heap.size w w5 := ((Hbe.out).trans (hbY.mono hbs)).grown hgrow (by have := hbY.size; omega) (fun b' h => (World.ownsRow.lt Hv2.out b' h).1)
            have hv5 : IOwn w.heap.size v' (F ++ [j]) w5 := by
              unfold IOwn ints
              rw [List.length_append, List.map_append]
              exact hown5
            have Hb5 := Lib.hid hb5; clear hb5
            have Hv5 := Lib.hid hv5; clear hv5
            clear hown5 hgrow hvb hbY hbs
            go_wp2_with fail
            go_roundw
            case rel => exact ⟨j + 1, by omega, by go_num, by rw [Hs.out]; exact Hv5.out, Hb5.out⟩
            case measure => simp [intOf]; omega
          · rw [if_pos rfl] at hst
            have Hs := Lib.hid hst; clear hst
            go_wp2_with fail
            go_roundw
            case rel => exact ⟨j + 1, by omega, by go_num, by rw [Hs.out]; exact Hv2.out, Hbe.out⟩
            case measure => simp [intOf]; omega
    · have g1 : decide (j < m2) = false := decide_eq_false hlt
      have hjm : j = m2 := by omega
      rw [hjm] at hv
      have hvr := hv.reads
      have Hvr := Lib.hid hvr; clear hvr hv
      have Hb := Lib.hid hb; clear hb hjm
      go_wp2_with fail
      go_ret
      exact ⟨_, rfl, Hvr.out, Hb.out⟩
end Go.Proofs.Ytcmlcpejlmlcfaa
