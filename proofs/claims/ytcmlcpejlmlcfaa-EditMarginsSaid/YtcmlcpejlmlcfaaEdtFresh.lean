/-
  What edit.Fresh returns: it counts, in a map, how often each text is there.
-/
import Derived.Test.YtcmlcpejlmlcfaaEdtDifS
import Derived.Maps.OwnOps
import Derived.Maps.OwnSet
set_option linter.unusedVariables false
set_option maxRecDepth 100000
namespace Go.Proofs.Ytcmlcpejlmlcfaa
open Go.RowKit Go.Maps

theorem tlaw : Keyed Try.prog 9 := string_keyed Try.underlying9
theorem zero_int11 (w : World) : (zeroValue 3).run Try.prog w = .ok (.int .i64 0) w := by kernel_rfl
theorem lit_int_inj {a b : Int} (h : (DataW.lit (.int .i64 a) : DataW Unit) = .lit (.int .i64 b)) : a = b := by
  injection h with h; injection h
/-- how often a text is there -/
def cnT (l : List ByteArray) (y : ByteArray) : Nat := l.countP fun x => decide (x = y)
theorem cnT_has (l : List ByteArray) (y : ByteArray) : (cnT l y = 0) = (hasT l y = false) := by
  unfold cnT hasT
  rw [eq_iff_iff, List.countP_eq_zero, List.any_eq_false]
theorem cnT_le (l : List ByteArray) (y : ByteArray) : cnT l y ≤ l.length := List.countP_le_length
theorem cnT_take (l : List ByteArray) (y : ByteArray) (k : Nat) (hk : k < l.length) : cnT (l.take (k + 1)) y = cnT (l.take k) y + if l.getD k .empty = y then 1 else 0 := by
  unfold cnT
  rw [List.take_add_one, List.countP_append, List.getD_eq_getElem?_getD, List.getElem?_eq_getElem hk]
  simp [List.countP_cons]
/-- the map reads as the counts of the first k texts -/
def TCnt (D : DataW Unit) (l : List ByteArray) (k : Nat) : Prop := IsMap D ∧ ∀ y : ByteArray, D.atKey (.string y.data.toList) (.lit (.int .i64 0)) = .lit (.int .i64 (cnT (l.take k) y : Nat))
theorem TCnt.zero (l : List ByteArray) : TCnt (.map []) l 0 := ⟨isMap_empty, fun y => rfl⟩
theorem TCnt.next {D : DataW Unit} {l : List ByteArray} {k : Nat} (h : TCnt D l k) (hk : k < l.length) {c : Int} (hc : c = (cnT (l.take k) (l.getD k .empty) : Nat) + 1) : TCnt (D.put (.string (l.getD k .empty).data.toList) (.lit (.int .i64 c))) l (k + 1) := by
  refine ⟨h.1.put _ _, fun y => ?_⟩
  rw [cnT_take l y k hk]
  by_cases e : l.getD k .empty = y
  · rw [if_pos e, e, atKey_put_same h.1 (by trivial), hc, e]
    rfl
  · rw [if_neg e, atKey_put_other (fun g => e (ba_ext (by injection g with g; exact g.symm))), h.2 y]
    rfl

set_option maxHeartbeats 2000000 in
theorem fresh_any (v1 v2 : Value) (l1 l2 : List ByteArray) (w : World) (h1 : SRd v1 l1 w) (h2 : SRd v2 l2 w) (n1 : l1.length ≤ 1099511627776) (n2 : l2.length ≤ 1099511627776) (z1 : ∀ j, (l1.getD j .empty).size ≤ maxLen) (z2 : ∀ j, (l2.getD j .empty).size ≤ maxLen) :
    Calls Try.prog 13 #[v1, v2] w fun e w' => ∃ v, e = .returned v ∧ IRd v (freshL l1 l2 l2.length) w' ∧ Below w.heap.size w w' := by
  obtain ⟨a1, c1, rfl, hc1, hf1⟩ := h1
  obtain ⟨a2, c2, rfl, hc2, hf2⟩ := h2
  obtain ⟨i0, hi0, hz0, hz1, hz2⟩ := info_parts int_info
  obtain ⟨m1, hm1⟩ : ∃ m1, m1 = l1.length := ⟨_, rfl⟩
  obtain ⟨m2, hm2⟩ : ∃ m2, m2 = l2.length := ⟨_, rfl⟩
  rw [← hm1] at n1 hc1 hf1 ⊢
  rw [← hm2] at n2 hc2 hf2 ⊢
  have Hf1 := Lib.hid hf1; clear hf1
  have Hf2 := Lib.hid hf2; clear hf2
  have Hz1 := Lib.hid z1; clear z1
  have Hz2 := Lib.hid z2; clear z2
  have Hm1 := Lib.hid hm1; clear hm1
  have Hm2 := Lib.hid hm2; clear hm2
  have hmm := @run_makeMap Try.prog
  go_enter Try.func13, Try.ntmps13
  go_wp2_with fail
  go_loopw [14] (fun i wr => ∃ (k : Nat) (D : DataW Unit), k ≤ m1 ∧ i = .int .i64 (k : Int) ∧ TCnt D l1 k ∧ wr.ownsMap Try.prog 9 (plainElem Try.prog 3) w.heap.size k D ∧ Below w.heap.size w wr) (fun i _ => m1 - (intOf i).toNat)
  case atStart => exact ⟨0, .map [], Nat.zero_le _, rfl, TCnt.zero l1, World.ownsMap_made _ _ _ _, (Below.refl _ _).alloc (Nat.le_refl _) _⟩
  case round =>
    obtain ⟨k, D, hk, rfl, hD, hown, hb⟩ := hrel
    by_cases hlt : k < m1
    · have g1 : decide (k < m1) = true := decide_eq_true hlt
      have g2 : (k : Int) < (m1 : Int) := by omega
      have hkl : k < l1.length := by have := Hm1.out; omega
      obtain ⟨b1, rfl, e1⟩ := Hf1.out k hlt
      have d1 : wr.cell? ⟨b1, k, none⟩ = some (.string (l1.getD k .empty)) := by rw [hb.cell (p := ⟨b1, k, none⟩) (cell_lt e1)]; exact e1
      have hzk := Hz1.out k
      have hnx := fun c hc => hD.next hkl (c := c) hc
      have hat0 := hD.2 (l1.getD k .empty)
      have hcl := cnT_le (l1.take k) (l1.getD k .empty)
      have hcl2 : (l1.take k).length ≤ k := List.length_take_le _ _
      obtain ⟨cv, hcv⟩ : ∃ cv, cv = cnT (l1.take k) (l1.getD k .empty) := ⟨_, rfl⟩
      rw [← hcv] at hnx hat0 hcl
      clear hcv e1 hD
      obtain ⟨x, hx⟩ : ∃ x, l1.getD k .empty = x := ⟨_, rfl⟩
      rw [hx] at d1 hzk hnx hat0
      have hkey : keyOf Try.prog 9 (.string x) = some (.string x.data.toList) := Go.WideMaps.keyOf_string_mk Try.underlying9 hzk
      have hcc : cv ≤ 1099511627776 := by omega
      have hkc : k < c1 := by omega
      have hwr : IntKind.i64.wrap ((cv : Int) + 1) = (cv : Int) + 1 := by simp only [IntKind.wrap_i64]; omega
      have hwf : (Lit.int .i64 ((cv : Int) + 1)).wf = true := WalkArith.wf_i64 (by omega)
      have Hb := Lib.hid hb; clear hb
      have Hnx := Lib.hid hnx; clear hnx
      have Hat := Lib.hid hat0; clear hat0
      clear hx hcl hcl2 hkl
      go_wp2_with (first
        | (at_lookup; refine wpList_lookup_own_int _ rfl _ _ 62 rfl 9 3 .i64 tlaw Try.underlying62 Try.underlying3 (zero_int11 _) w.heap.size k _ rfl hown _ _ rfl hkey ?_; intro c hat hwc; obtain rfl : c = (cv : Int) := lit_int_inj (hat.symm.trans Hat.out))
        | (at_mapUpdate; refine wpList_mapUpdate_own _ rfl _ _ _ 62 rfl 9 3 tlaw Try.underlying62 _ w.heap.size k _ rfl hown (by unfold maxLen; omega) _ _ _ rfl rfl hkey _ [] (plainElem_int Try.underlying3 hwf) ?_)
        | go_in)
      intro w1 hown1 hgrow1
      have R1 := Hnx.out ((cv : Int) + 1) rfl
      have R2 := Hb.out.grown hgrow1 Hb.out.size (fun j hj => by cases hj; exact Nat.le_refl _)
      have HR1 := Lib.hid R1; clear R1
      have HR2 := Lib.hid R2; clear R2
      have HO1 := Lib.hid hown1; clear hown1 hgrow1 hown
      go_wp2_with fail
      go_roundw
      case rel => exact ⟨k + 1, _, by omega, by go_num, HR1.out, HO1.out, HR2.out⟩
      case measure => simp [intOf]; omega
    · have g1 : decide (k < m1) = false := decide_eq_false hlt
      have hkm : k = m1 := by omega
      have hall : l1.take k = l1 := by rw [hkm, Hm1.out]; exact List.take_length
      have hat : ∀ y, D.atKey (.string y.data.toList) (.lit (.int .i64 0)) = .lit (.int .i64 (cnT l1 y : Nat)) := fun y => by have := hD.2 y; rw [hall] at this; exact this
      have Hat := Lib.hid hat; clear hat
      have Hb := Lib.hid hb; clear hb
      have hown0 := hown
      have Hown := Lib.hid hown; clear hown hown0
      clear hD hall hlt hkm
      have hnil : freshL l1 l2 0 = [] := rfl
      have Hnil := Lib.hid hnil; clear hnil
      have hk0 : k ≤ m1 := hk
      generalize wr = wm at *
      go_wp2_with fail
      go_loopw [8, 25] (fun v i wr => ∃ (j : Nat), j ≤ m2 ∧ i = .int .i64 (j : Int) ∧ IOwn wm.heap.size v (freshL l1 l2 j) wr ∧ Below wm.heap.size wm wr) (fun _ i _ => m2 - (intOf i).toNat)
      case atStart => exact ⟨0, Nat.zero_le _, rfl, by rw [Hnil.out]; exact World.ownsRow_nil _ _ 3 1, Below.refl _ _⟩
      case round =>
        obtain ⟨j, hj, rfl, hv, hbz⟩ := hrel
        clear g1 hk0 hk
        by_cases hlt : j < m2
        · have g1 : decide (j < m2) = true := decide_eq_true hlt
          have g2 : (j : Int) < (m2 : Int) := by omega
          obtain ⟨b2, rfl, e2⟩ := Hf2.out j hlt
          have d2 : wr.cell? ⟨b2, j, none⟩ = some (.string (l2.getD j .empty)) := by rw [hbz.cell (p := ⟨b2, j, none⟩) (by have := cell_lt e2; have := Hb.out.size; simp only; omega), Hb.out.cell (p := ⟨b2, j, none⟩) (cell_lt e2)]; exact e2
          have hown : wr.ownsMap Try.prog 9 (plainElem Try.prog 3) w.heap.size k D := ownsMap_same Hown.out (hbz.block _ Hown.out.lt)
          have hzj := Hz2.out j
          have hst := freshL_succ l1 l2 j
          have hfl := freshL_length l1 l2 j
          have hat0 := Hat.out (l2.getD j .empty)
          have hcl := cnT_le l1 (l2.getD j .empty)
          have hch := cnT_has l1 (l2.getD j .empty)
          rw [← Hm1.out] at hcl
          obtain ⟨x, hx⟩ : ∃ x, l2.getD j .empty = x := ⟨_, rfl⟩
          rw [hx] at d2 hzj hst hat0 hcl hch
          obtain ⟨cv, hcv⟩ : ∃ cv, cv = cnT l1 x := ⟨_, rfl⟩
          rw [← hcv] at hat0 hcl hch
          have hkey : keyOf Try.prog 9 (.string x) = some (.string x.data.toList) := Go.WideMaps.keyOf_string_mk Try.underlying9 hzj
          have hjc : j < c2 := by omega
          obtain ⟨F, hF⟩ : ∃ F, freshL l1 l2 j = F := ⟨_, rfl⟩
          rw [hF] at hv hst hfl
          have Hat0 := Lib.hid hat0; clear hat0
          have Hbz := Lib.hid hbz; clear hbz
          have Hv := Lib.hid hv; clear hv
          have hbs := Hbz.out.size
          clear hx hcv e2 hF
          by_cases hc0 : cv = 0
          · subst hc0
            have q0 : (((0 : Nat) : Int) == 0) = true := rfl
            have hh : hasT l1 x = false := by simpa using hch
            rw [hh, if_neg (by simp)] at hst
            have Hst := Lib.hid hst; clear hst hh hch
            go_wp2_with (first
              | (at_lookup; refine wpList_lookup_own_int _ rfl _ _ 62 rfl 9 3 .i64 tlaw Try.underlying62 Try.underlying3 (zero_int11 _) w.heap.size k _ rfl hown _ _ rfl hkey ?_; intro c hat hwc; obtain rfl : c = ((0 : Nat) : Int) := lit_int_inj (hat.symm.trans Hat0.out))
              | (at_builtin; go_loud (refine wpList_append_own_at _ rfl _ _ 32 rfl wm.heap.size 3 i0 (.int .i64 0) 1 8 Try.underlying32 hi0 hz0 hz1 hz2 rfl (by decide) _ _ _ rfl (World.ownsRow.alloc Hv.out _) ⟨wr.heap.size, 0, none⟩ 1 1 [.int .i64 (j : Int)] rfl rfl (cell_new_row wr [.int .i64 (j : Int)] 3) ?c2 ?c3 ?c4 ?c5 ?_))
              | go_in)
            case c2 => intro z hz; simp at hz; subst hz; rfl
            case c3 => unfold maxLen; omega
            case c4 => omega
            case c5 => simp; omega
            intro v' w5 hown5 hgrow _ hvb
            have hbY := box_below wr (.cells #[.int .i64 (j : Int)] 3)
            have hb5 : Below wm.heap.size wm w5 := ((Hbz.out).trans (hbY.mono hbs)).grown hgrow (by have := hbY.size; omega) (fun b' h => (World.ownsRow.lt Hv.out b' h).1)
            have hv5 : IOwn wm.heap.size v' (F ++ [j]) w5 := by
              unfold IOwn ints
              rw [List.length_append, List.map_append]
              exact hown5
            have Hb5 := Lib.hid hb5; clear hb5
            have Hv5 := Lib.hid hv5; clear hv5
            clear hown5 hgrow hvb hbY hbs hown
            go_wp2_with fail
            go_roundw
            case rel => exact ⟨j + 1, by omega, by go_num, by rw [Hst.out]; exact Hv5.out, Hb5.out⟩
            case measure => simp [intOf]; omega
          · have q0 : ((cv : Int) == 0) = false := by simp; omega
            have q1 : decide (cv = 0) = false := decide_eq_false hc0
            have hh : hasT l1 x = true := by
              cases h : hasT l1 x
              · rw [h] at hch; simp at hch; exact absurd hch hc0
              · rfl
            rw [hh, if_pos rfl] at hst
            have Hst := Lib.hid hst; clear hst hh hch hc0
            go_wp2_with (first
              | (at_lookup; refine wpList_lookup_own_int _ rfl _ _ 62 rfl 9 3 .i64 tlaw Try.underlying62 Try.underlying3 (zero_int11 _) w.heap.size k _ rfl hown _ _ rfl hkey ?_; intro c hat hwc; obtain rfl : c = (cv : Int) := lit_int_inj (hat.symm.trans Hat0.out))
              | go_in)
            go_roundw
            case rel => exact ⟨j + 1, by omega, by go_num, by rw [Hst.out]; exact Hv.out, Hbz.out⟩
            case measure => simp [intOf]; omega
        · have g1 : decide (j < m2) = false := decide_eq_false hlt
          have hjm : j = m2 := by omega
          rw [hjm] at hv
          have hvr := hv.reads
          have hbe := Hb.out.trans (hbz.mono Hb.out.size)
          have Hvr := Lib.hid hvr; clear hvr hv
          have Hbe := Lib.hid hbe; clear hbe hbz hjm
          go_wp2_with fail
          go_ret
          exact ⟨_, rfl, Hvr.out, Hbe.out⟩
end Go.Proofs.Ytcmlcpejlmlcfaa
