/-
  The document's log: what Reset and Append do.
-/
import Derived.Test.YtjmpagbjkehebaaGreatRwMarkW
import Derived.Test.YtjmpagbjkehebaaGreatRwGroup
import Derived.Test.YtjmpagbjkehebaaGreatWalRow
import Derived.Test.YtjmpagbjkehebaaGreatWalSure
import Derived.Test.YtjmpagbjkehebaaGreatWalAppend
set_option linter.unusedVariables false
set_option maxRecDepth 100000
namespace Go.Proofs.YtjmpagbjkehebaaGreat
open Go.RowKit

section
variable {w : World} {S0 R0 S R : Nat → Prop} {p q : Nat} {d : Dsk.St} {s : Wal.St} {W : World}
/-- what an append, or a reset, of the document's log leaves -/
def RapR (w : World) (S0 R0 : Nat → Prop) (p q : Nat) (x : Dsk.St × Wal.St × Int) (e : Ending) (w' : World) : Prop :=
  e = .returned (.int .i64 x.2.2) ∧ ∃ S R, Rpn w S0 R0 S R p q x.1 x.2.1 w'

theorem Rpn.setUsed (h : Rpn w S0 R0 S R p q d s W) (u : Nat) : Rpn w S0 R0 S R p q d { s with used := u } (W.setCell ⟨p, 5, none⟩ (.int .i64 (u : Int))) := by
  have hp := h.hp
  obtain ⟨v, hv⟩ := h.wal
  have ht : Turns (fun k => k = p) W (W.setCell ⟨p, 5, none⟩ (.int .i64 (u : Int))) := (Turns.refl (fun k => k = p) W).set p 5 _ (fun _ => rfl)
  exact h.turnWal (ht.mono fun j _ e => by rw [e]; exact hp) (fun j hj => .inl hj) ⟨v, ⟨hp, by rw [heap_setCell_same W p 5 _ _ _ hv.row]; rfl, hv.rows.beside hv.row rw_ty1 rw_ty2 ht⟩⟩
theorem Rpn.setGen (h : Rpn w S0 R0 S R p q d s W) (u : Nat) : Rpn w S0 R0 S R p q d { s with gen := u } (W.setCell ⟨p, 3, none⟩ (.int .u64 (u : Int))) := by
  have hp := h.hp
  obtain ⟨v, hv⟩ := h.wal
  have ht : Turns (fun k => k = p) W (W.setCell ⟨p, 3, none⟩ (.int .u64 (u : Int))) := (Turns.refl (fun k => k = p) W).set p 3 _ (fun _ => rfl)
  exact h.turnWal (ht.mono fun j _ e => by rw [e]; exact hp) (fun j hj => .inl hj) ⟨v, ⟨hp, by rw [heap_setCell_same W p 3 _ _ _ hv.row]; rfl, hv.rows.beside hv.row rw_ty1 rw_ty2 ht⟩⟩
/-- other groups are put in -/
theorem Rpn.setL (h : Rpn w S0 R0 S R p q d s W) {R' : Nat → Prop} {v' : Value} {L' : List Wal.Grp} {W6 : World} (hb : Below W.heap.size W W6) (hg : GRows R' v' L' W6) (hR : ∀ j, R j → R' j) (hR' : ∀ j, R' j → R j ∨ W.heap.size ≤ j) :
    Rpn w S0 R0 S R' p q d { s with L := L' } (W6.setCell ⟨p, 4, none⟩ v') := by
  have hp := h.hp
  have h6 := h.new hb
  obtain ⟨v, hv⟩ := h6.wal
  have ht : Turns (fun k => k = p) W6 (W6.setCell ⟨p, 4, none⟩ v') := (Turns.refl (fun k => k = p) W6).set p 4 _ (fun _ => rfl)
  have hw : RwAt R' p q { s with L := L' } (W6.setCell ⟨p, 4, none⟩ v') := ⟨v', ⟨hR _ hp, by rw [heap_setCell_same W6 p 4 _ _ _ hv.row]; rfl, hg.beside hv.row rw_ty1 rw_ty2 ht⟩⟩
  have ht2 : Turns R W (W6.setCell ⟨p, 4, none⟩ v') := (Turns.of_new hb R).trans (ht.mono (fun j _ e => e)) (fun j hj e => by rw [e]; exact hp)
  exact h.turnWal ht2 hR' hw

theorem rwErr_any (h : Rpn w S0 R0 S R p q d s W) (he : s.err ≠ 0) : Calls Tryz.prog 72 #[.pointer (some ⟨p, 0, none⟩)] W (RapR w S0 R0 p q (d, s, s.err)) := by
  have c6 := h.c6
  have hx : (s.err != 0) = true := by rw [bne_iff_ne]; exact he
  have H := Lib.hid h; clear h
  clear he
  generalize hE : s.err = E at *
  go_enter Tryz.func72, Tryz.ntmps72
  go_wp2_with fail
  go_ret
  exact ⟨rfl, S, R, H.out⟩

set_option maxHeartbeats 1000000 in
theorem rwReset_any {m : Nat} (h : Rpn w S0 R0 S R p q d s W) (hs : s.Ok m) (hops : d.ops ≤ 1099511500000) :
    Calls Tryz.prog 72 #[.pointer (some ⟨p, 0, none⟩)] W (RapR w S0 R0 p q (Wal.reset d s)) := by
  by_cases he : s.err = 0
  · have hm := rwMark_any h (by have := hs.hi; have := hs.m; omega) (by omega) (Wal.up s.gen) 0 (up_lt _) (by omega)
    have hg := hs.gen
    have hup : IntKind.u64.wrap ((s.gen : Int) + 1) = ((Wal.up s.gen : Nat) : Int) := by
      rw [IntKind.wrap_u64]; unfold Wal.up; omega
    obtain ⟨X, hX⟩ : ∃ X, X = Wal.reset d s := ⟨_, rfl⟩
    have hXe : X = ((Wal.steps (Wal.resetOps s) d).1, (if (Wal.steps (Wal.resetOps s) d).2 = 0 then { s with gen := Wal.up s.gen, used := 0, L := [] } else { s with err := (Wal.steps (Wal.resetOps s) d).2 }), (Wal.steps (Wal.resetOps s) d).2) := by
      rw [hX, Wal.reset, if_neg (by simpa using he)]
    rw [← hX]
    clear hX
    have ho : Wal.resetOps s = [.wr s.from_ (Wal.mark (Wal.up s.gen) 0), .fl] := rfl
    rw [← ho] at hm
    generalize Wal.steps (Wal.resetOps s) d = Z at *
    have c3 := h.c3
    have c6 := h.c6
    rw [he] at c6
    have hm0 : Calls Tryz.prog 133 #[.pointer (some ⟨p, 0, none⟩), .int .u64 ((Wal.up s.gen : Nat) : Int), .int .i64 0] W (RmkR w S0 R0 R p q Z s) := hm
    have Hm := Lib.hid hm0; clear hm hm0
    have HX := Lib.hid hXe; clear hXe
    clear h hs he ho
    go_enter Tryz.func72, Tryz.ntmps72
    go_wp2_with fail
    refine Hm.out.mono ?_; rintro e w1 ⟨rfl, S1, h1⟩
    clear c3 c6
    by_cases hz : Z.2 = 0
    · rw [if_pos hz] at h1
      have hXe := HX.out
      rw [if_pos hz] at hXe
      rw [hz] at hXe ⊢
      have k1 := h1.setGen (Wal.up s.gen)
      have k2 := k1.setUsed 0
      have k3 := k2.setL (Below.refl _ _) (R' := R) (v' := .slice none 0 0) (L' := []) (GRows.nil _ _ k2.wal.lt) (fun j hj => hj) (fun j hj => .inl hj)
      obtain ⟨v0, hv0⟩ := h1.wal
      obtain ⟨v1, hv1⟩ := k1.wal
      obtain ⟨v2, hv2⟩ := k2.wal
      have a3 := hv0.c3
      have f3 := hv0.free 3
      have a5 := hv0.c5
      have f5 := hv0.free 5
      have a4 := hv0.c4
      have f4 := hv0.free 4
      have K3 := Lib.hid k3; clear k3
      have HX2 := Lib.hid hXe; clear hXe
      clear hv0 hv1 hv2 k1 k2 h1 hz HX
      go_wp2_with fail
      go_ret
      rw [HX2.out]
      exact ⟨rfl, S1, R, K3.out⟩
    · rw [if_neg hz] at h1
      have hXe := HX.out
      rw [if_neg hz] at hXe
      have hx : (Z.2 == 0) = false := by rw [beq_eq_false_iff_ne]; exact hz
      have HX2 := Lib.hid hXe; clear hXe
      have H1 := Lib.hid h1; clear h1
      clear hz HX
      go_wp2_with fail
      go_ret
      rw [HX2.out]
      exact ⟨rfl, S1, R, H1.out⟩
  · have hX : Wal.reset d s = (d, s, s.err) := by rw [Wal.reset, if_pos (by simpa using he)]
    rw [hX]
    exact rwErr_any h he
end

section
variable {w : World} {S0 R0 : Nat → Prop} {p q : Nat} {d : Dsk.St} {s : Wal.St}
theorem rwApp_err (hd : RefAt S0 q d w) (hw : RwAt R0 p q s w) (ha : ∀ j, S0 j → ¬ R0 j) (a : Option Addr) (len cap : Nat) (he : s.err ≠ 0) :
    Calls Tryz.prog 71 #[.pointer (some ⟨p, 0, none⟩), .slice a len cap] w (RapR w S0 R0 p q (d, s, s.err)) := by
  have h := Rpn.start hd hw ha
  have c6 := h.c6
  have hx : (s.err != 0) = true := by rw [bne_iff_ne]; exact he
  have H := Lib.hid h; clear h
  clear he hd hw ha
  generalize hE : s.err = E at *
  go_enter Tryz.func71, Tryz.ntmps71
  go_wp2_with fail
  go_ret
  exact ⟨rfl, S0, R0, H.out⟩

theorem rwApp_row {m : Nat} (hd : RefAt S0 q d w) (hw : RwAt R0 p q s w) (ha : ∀ j, S0 j → ¬ R0 j) (hs : s.Ok m) (a : Option Addr) (len cap : Nat) (l : Wal.Grp) (hst : Strs a len (bas l) w) (hlen : len ≤ 140737488355328) (hz : ∀ j, ((bas l).getD j .empty).size ≤ 9223372036854700000)
    (he : s.err = 0) (hr : (Oct.row l).2 ≠ 0 ∨ s.n - 1 - s.used < Wal.secs (Oct.row l).1) :
    Calls Tryz.prog 71 #[.pointer (some ⟨p, 0, none⟩), .slice a len cap] w (RapR w S0 R0 p q (d, s, if (Oct.row l).2 ≠ 0 then (Oct.row l).2 else 4)) := by
  have h := Rpn.start hd hw ha
  have c6 := h.c6
  rw [he] at c6
  have hrs := Wal.row_short (l := l)
  have hg := refGroup_any a len cap (bas l) w hst hlen hz (by rw [lists_bas]; omega)
  rw [lists_bas] at hg
  have hgs := grpB_size l
  have hsl := hs.lo
  have hsh := hs.hi
  have hsm := hs.m
  have hsu := hs.used
  have hkb : Wal.secs (Oct.row l).1 ≤ 35184372088833 := by unfold Wal.secs Wal.whole; omega
  generalize grpB l = B at *
  generalize Wal.secs (Oct.row l).1 = k at *
  generalize (Oct.row l).2 = E at *
  have Hg := Lib.hid hg; clear hg
  have H := Lib.hid h; clear h
  clear hd hw he hst hrs hz
  by_cases h0 : E = 0
  · subst h0
    rw [if_neg (by decide)]
    rw [if_pos rfl] at hgs
    have hk : s.n - 1 - s.used < k := by
      rcases hr with hr | hr
      · exact absurd rfl hr
      · exact hr
    have hd64 : (B.size : Int) / 64 = (k : Int) := by omega
    have hdt : (B.size : Int).tdiv 64 = (k : Int) := by rw [Int.tdiv_eq_ediv_of_nonneg (by omega)]; exact hd64
    have hx : decide ((s.n : Int) - 1 - (s.used : Int) < (k : Int)) = true := decide_eq_true (by omega)
    clear hr
    go_enter Tryz.func71, Tryz.ntmps71
    go_wp2_with fail
    refine Hg.out.mono ?_; rintro e w3 ⟨rfl, h3⟩
    have h4 := H.out.new h3
    have c2 := h4.c2
    have c5 := h4.c5
    have H4 := Lib.hid h4; clear h4
    clear h3
    go_wp2_with fail
    go_quiet (fail)
    go_wp2_with fail
    go_ret
    exact ⟨rfl, S0, R0, H4.out.new (drewN_below (Below.refl _ _) _)⟩
  · rw [if_pos h0]
    have hx : (E != 0) = true := by rw [bne_iff_ne]; exact h0
    clear hr h0
    go_enter Tryz.func71, Tryz.ntmps71
    go_wp2_with fail
    refine Hg.out.mono ?_; rintro e w3 ⟨rfl, h3⟩
    have H4 := Lib.hid (H.out.new h3)
    clear h3
    go_wp2_with fail
    go_ret
    exact ⟨rfl, S0, R0, H4.out⟩

set_option maxHeartbeats 3000000 in
theorem rwApp_go {m : Nat} (hd : RefAt S0 q d w) (hw : RwAt R0 p q s w) (ha : ∀ j, S0 j → ¬ R0 j) (hs : s.Ok m) (hops : d.ops ≤ 1099511400000) (a : Option Addr) (len cap : Nat) (l : Wal.Grp) (hst : Strs a len (bas l) w) (hz0 : a = none → cap = 0) (hap : ∀ b off, 0 < len → a = some ⟨b, off, none⟩ → ¬ (S0 b ∨ R0 b))
    (hlen : len ≤ 8796093022208) (hz : ∀ j, ((bas l).getD j .empty).size ≤ 9223372036854700000) (he : s.err = 0) (h0 : (Oct.row l).2 = 0) (hfit : Wal.secs (Oct.row l).1 ≤ s.n - 1 - s.used) :
    Calls Tryz.prog 71 #[.pointer (some ⟨p, 0, none⟩), .slice a len cap] w (RapR w S0 R0 p q
      ((Wal.steps (Wal.appendOps s (Oct.row l).1) d).1, (if (Wal.steps (Wal.appendOps s (Oct.row l).1) d).2 = 0 then { s with used := s.used + Wal.secs (Oct.row l).1, L := s.L ++ [l] } else { s with err := (Wal.steps (Wal.appendOps s (Oct.row l).1) d).2 }), (Wal.steps (Wal.appendOps s (Oct.row l).1) d).2)) := by
  obtain ⟨i0, hi0, hi1, hi2, hi3⟩ := info_parts grp_info
  have h := Rpn.start hd hw ha
  have c6 := h.c6
  rw [he] at c6
  have hrs := Wal.row_short (l := l)
  have hg := refGroup_any a len cap (bas l) w hst (by omega) hz (by rw [lists_bas]; omega)
  rw [lists_bas, show grpB l = ba (Wal.grp (Oct.row l).1) from by unfold grpB; rw [if_pos h0], h0] at hg
  have hgs : (ba (Wal.grp (Oct.row l).1)).size = Wal.secs (Oct.row l).1 * 64 := by rw [ba_size, Wal.grp_length]
  have hgl : (ba (Wal.grp (Oct.row l).1)).data.toList = Wal.grp (Oct.row l).1 := ba_list _
  have hsl := hs.lo
  have hsh := hs.hi
  have hsm := hs.m
  have hsu := hs.used
  have hsg := hs.gen
  have hLs : s.L.length ≤ 16384 := by have := hs.len; omega
  have hll : l.length = len := by have := hst.1; rw [bas_length] at this; exact this
  obtain ⟨X, hX⟩ : ∃ X : Dsk.St × Wal.St × Int, X = ((Wal.steps (Wal.appendOps s (Oct.row l).1) d).1, (if (Wal.steps (Wal.appendOps s (Oct.row l).1) d).2 = 0 then { s with used := s.used + Wal.secs (Oct.row l).1, L := s.L ++ [l] } else { s with err := (Wal.steps (Wal.appendOps s (Oct.row l).1) d).2 }), (Wal.steps (Wal.appendOps s (Oct.row l).1) d).2) := ⟨_, rfl⟩
  rw [← hX]
  have hap2 : Wal.appendOps s (Oct.row l).1 = [.wr (s.from_ + 1 + s.used) (Wal.grp (Oct.row l).1), .fl, .wr s.from_ (Wal.mark s.gen (s.used + Wal.secs (Oct.row l).1)), .fl] := rfl
  rw [hap2] at hX
  have hst2 := Wal.steps_two d (s.from_ + 1 + s.used) (Wal.grp (Oct.row l).1) [.wr s.from_ (Wal.mark s.gen (s.used + Wal.secs (Oct.row l).1)), .fl]
  rw [← hgl] at hst2 hX
  clear hap2 hgl hrs
  generalize Wal.secs (Oct.row l).1 = k at *
  generalize ba (Wal.grp (Oct.row l).1) = B at *
  generalize Wal.steps (.wr (s.from_ + 1 + s.used) B.data.toList :: .fl :: [.wr s.from_ (Wal.mark s.gen (s.used + k)), .fl]) d = Z at *
  have hcA : ((s.from_ + 1 + s.used : Nat) : Int) = (s.from_ : Int) + 1 + (s.used : Int) := by omega
  rw [hcA] at hst2
  have HMk := Lib.hid (fun (S5 : Nat → Prop) (D5 : Dsk.St) (W5 : World) (h5 : Rpn w S0 R0 S5 R0 p q D5 s W5) (ho : D5.ops + 1 ≤ 1099511627776) => rwMark_any h5 (show s.from_ ≤ 16384 by omega) ho s.gen (s.used + k) hsg (by omega))
  have hd64 : (B.size : Int) / 64 = (k : Int) := by omega
  have hdt : (B.size : Int).tdiv 64 = (k : Int) := by rw [Int.tdiv_eq_ediv_of_nonneg (by omega)]; exact hd64
  have hx : decide ((s.n : Int) - 1 - (s.used : Int) < (k : Int)) = false := decide_eq_false (by omega)
  have hwo := Dsk.write_ops d ((s.from_ : Int) + 1 + (s.used : Int)) B.data.toList
  rw [ba_len] at hwo
  have Hg := Lib.hid hg; clear hg
  have H := Lib.hid h; clear h
  have HX := Lib.hid hX; clear hX
  have Hst2 := Lib.hid hst2; clear hst2
  have Hst := Lib.hid hst; clear hst
  have Hap := Lib.hid hap; clear hap
  have He := Lib.hid he; clear he
  have Hz0 := Lib.hid hz0; clear hz0
  have Hi := Lib.hid hi0; clear hi0
  have Hi1 := Lib.hid hi1; clear hi1
  have Hi2 := Lib.hid hi2; clear hi2
  have Hi3 := Lib.hid hi3; clear hi3
  clear hd hw hz h0 hs hcA
  go_enter Tryz.func71, Tryz.ntmps71
  go_wp2_with fail
  refine Hg.out.mono ?_; rintro e w1 ⟨rfl, h1⟩
  have h2 := H.out.new h1
  have c2 := h2.c2
  have c5 := h2.c5
  have H2 := Lib.hid h2; clear h2
  clear h1 c6
  go_wp2_with fail
  go_quiet (fail)
  go_wp2_with fail
  have h3 := H2.out.new ((drewN_below (Below.refl _ _) nq).drew)
  refine wp_region_phases [([0, 1, 2, 3, 4, 5, 6, 7, 8, 9, 10, 11, 12, 13, 14], [15, 16])] (by kernel_rfl) (by kernel_rfl) (fun z => z.cell? ⟨p, 0, none⟩ = some (.pointer (some ⟨q, 0, none⟩)) ∧ z.cell? ⟨p, 1, none⟩ = some (.int .i64 (s.from_ : Int)) ∧ z.cell? ⟨p, 2, none⟩ = some (.int .i64 (s.n : Int)) ∧ z.cell? ⟨p, 3, none⟩ = some (.int .u64 (s.gen : Int)) ∧ z.cell? ⟨p, 5, none⟩ = some (.int .i64 (s.used : Int))) ⟨h3.c0, h3.c1, h3.c2, h3.c3, h3.c5⟩ ?_
  simp only [wpPhases, pick, List.filterMap_cons, List.filterMap_nil, List.getElem?_toArray, List.getElem?_cons_zero, List.getElem?_cons_succ]
  refine take_move (.tmp 0) (.pointer (some ⟨p, 0, none⟩)) rfl rfl rfl ?_
  simp only [Act.put, List.setIfInBounds_toArray, List.set_cons_zero, List.set_cons_succ]
  refine take_nil (.tmp 40) ⟨p, 0, none⟩ rfl rfl rfl ?_
  simp only [Act.put, List.setIfInBounds_toArray, List.set_cons_zero, List.set_cons_succ]
  refine take_one (.pointer (some ⟨p, 0, none⟩)) rfl (fun u _ => by go_simp) ?_
  simp only [Act.put, List.setIfInBounds_toArray, List.set_cons_zero, List.set_cons_succ]
  refine take_load 45 (.tmp 42) ⟨p, 0, none⟩ (.pointer (some ⟨q, 0, none⟩)) rfl rfl rfl (fun u hu => load_any Tryz.underlying45 Tryz.isAgg45 hu.1) ?_
  simp only [Act.put, List.setIfInBounds_toArray, List.set_cons_zero, List.set_cons_succ]
  refine take_move (.tmp 0) (.pointer (some ⟨p, 0, none⟩)) rfl rfl rfl ?_
  simp only [Act.put, List.setIfInBounds_toArray, List.set_cons_zero, List.set_cons_succ]
  refine take_nil (.tmp 44) ⟨p, 0, none⟩ rfl rfl rfl ?_
  simp only [Act.put, List.setIfInBounds_toArray, List.set_cons_zero, List.set_cons_succ]
  refine take_one (.pointer (some ⟨p, 1, none⟩)) rfl (fun u _ => by go_simp) ?_
  simp only [Act.put, List.setIfInBounds_toArray, List.set_cons_zero, List.set_cons_succ]
  refine take_load 3 (.tmp 46) ⟨p, 1, none⟩ (.int .i64 (s.from_ : Int)) rfl rfl rfl (fun u hu => load_any Tryz.underlying3 Tryz.isAgg3 hu.2.1) ?_
  simp only [Act.put, List.setIfInBounds_toArray, List.set_cons_zero, List.set_cons_succ]
  refine take_one (.int .i64 ((s.from_ : Int) + 1)) rfl (fun u hu => by go_simp; exact IntWalk.i64_in _ (by omega)) ?_
  simp only [Act.put, List.setIfInBounds_toArray, List.set_cons_zero, List.set_cons_succ]
  refine take_move (.tmp 0) (.pointer (some ⟨p, 0, none⟩)) rfl rfl rfl ?_
  simp only [Act.put, List.setIfInBounds_toArray, List.set_cons_zero, List.set_cons_succ]
  refine take_nil (.tmp 49) ⟨p, 0, none⟩ rfl rfl rfl ?_
  simp only [Act.put, List.setIfInBounds_toArray, List.set_cons_zero, List.set_cons_succ]
  refine take_one (.pointer (some ⟨p, 5, none⟩)) rfl (fun u _ => by go_simp) ?_
  simp only [Act.put, List.setIfInBounds_toArray, List.set_cons_zero, List.set_cons_succ]
  refine take_load 3 (.tmp 51) ⟨p, 5, none⟩ (.int .i64 (s.used : Int)) rfl rfl rfl (fun u hu => load_any Tryz.underlying3 Tryz.isAgg3 hu.2.2.2.2) ?_
  simp only [Act.put, List.setIfInBounds_toArray, List.set_cons_zero, List.set_cons_succ]
  refine take_one (.int .i64 ((s.from_ : Int) + 1 + (s.used : Int))) rfl (fun u hu => by go_simp; exact IntWalk.i64_in _ (by omega)) ?_
  simp only [Act.put, List.setIfInBounds_toArray, List.set_cons_zero, List.set_cons_succ]
  refine take_move (.tmp 5) (.string B) rfl rfl rfl ?_
  simp only [Act.put, List.setIfInBounds_toArray, List.set_cons_zero, List.set_cons_succ]
  refine take_done ?_
  refine midk_wp rfl (call_wp 27 [.tmp 43, .tmp 53, .tmp 54] #[45, 3, 9] #[.pointer (some ⟨q, 0, none⟩), .int .i64 ((s.from_ : Int) + 1 + (s.used : Int)), .string B] rfl rfl rfl ?_)
  refine (refWrite_all h3.disk ((s.from_ : Int) + 1 + (s.used : Int)) ⟨by omega, by omega⟩ B (by omega) (by omega)).mono ?_
  rintro e w3 ⟨rfl, t3, S3, l3, d3⟩
  have hA3 := h3.turnDisk t3 l3 d3
  refine ⟨_, rfl, ⟨hA3.c0, hA3.c1, hA3.c2, hA3.c3, hA3.c5⟩, ?_⟩
  refine midk_one (.int .i64 (Dsk.write d ((s.from_ : Int) + 1 + (s.used : Int)) B.data.toList).2) rfl rfl ⟨hA3.c0, hA3.c1, hA3.c2, hA3.c3, hA3.c5⟩ ?_
  refine midk_end ?_
  have HA3 := Lib.hid hA3; clear hA3
  clear h3 t3 l3 d3 c2 c5 H2 H hx hd64 hdt
  have hwl : (Dsk.write d ((s.from_ : Int) + 1 + (s.used : Int)) B.data.toList).1.ops ≤ 1099511500000 := by omega
  clear hwo
  by_cases he1 : (Dsk.write d ((s.from_ : Int) + 1 + (s.used : Int)) B.data.toList).2 = 0
  · have hst3 := Hst2.out
    rw [if_pos he1] at hst3
    rw [he1]
    clear Hst2 he1
    generalize (Dsk.write d ((s.from_ : Int) + 1 + (s.used : Int)) B.data.toList).1 = D1 at *
    have Hst3 := Lib.hid hst3; clear hst3
    have c0 := HA3.out.c0
    have hF := refFlush_all HA3.out.disk (by omega)
    have HF := Lib.hid hF; clear hF
    go_wp2_with fail
    refine HF.out.mono ?_; rintro e w4 ⟨rfl, t4, S4, l4, d4⟩
    have hA4 := HA3.out.turnDisk t4 l4 d4
    have HA4 := Lib.hid hA4; clear hA4
    have hfo := Dsk.flush_ops D1
    clear t4 l4 d4 c0 HF HA3
    by_cases he2 : (Dsk.flush D1).2 = 0
    · have hst4 := Hst3.out
      rw [if_pos he2] at hst4
      rw [he2]
      clear Hst3 he2
      generalize (Dsk.flush D1).1 = D2 at *
      go_wp2_with fail
      have h5 := HA4.out.new ((Below.refl _ _).drew)
      have HMk2 := Lib.hid (fun (S5 : Nat → Prop) (W5 : World) (h5 : Rpn w S0 R0 S5 R0 p q D2 s W5) => HMk.out S5 D2 W5 h5 (by omega))
      clear HMk
      have hcB : ((s.used + k : Nat) : Int) = (s.used : Int) + (k : Int) := by omega
      rw [← hst4] at HMk2
      clear hst4
      rw [hcB] at HMk2
      refine wp_region_phases [([0, 1, 2, 3, 4, 5, 6, 7, 8, 9, 10], [11, 12])] (by kernel_rfl) (by kernel_rfl) (fun z => z.cell? ⟨p, 0, none⟩ = some (.pointer (some ⟨q, 0, none⟩)) ∧ z.cell? ⟨p, 1, none⟩ = some (.int .i64 (s.from_ : Int)) ∧ z.cell? ⟨p, 2, none⟩ = some (.int .i64 (s.n : Int)) ∧ z.cell? ⟨p, 3, none⟩ = some (.int .u64 (s.gen : Int)) ∧ z.cell? ⟨p, 5, none⟩ = some (.int .i64 (s.used : Int))) ⟨h5.c0, h5.c1, h5.c2, h5.c3, h5.c5⟩ ?_
      simp only [wpPhases, pick, List.filterMap_cons, List.filterMap_nil, List.getElem?_toArray, List.getElem?_cons_zero, List.getElem?_cons_succ]
      refine take_move (.tmp 0) (.pointer (some ⟨p, 0, none⟩)) rfl rfl rfl ?_
      simp only [Act.put, List.setIfInBounds_toArray, List.set_cons_zero, List.set_cons_succ]
      refine take_move (.tmp 0) (.pointer (some ⟨p, 0, none⟩)) rfl rfl rfl ?_
      simp only [Act.put, List.setIfInBounds_toArray, List.set_cons_zero, List.set_cons_succ]
      refine take_nil (.tmp 69) ⟨p, 0, none⟩ rfl rfl rfl ?_
      simp only [Act.put, List.setIfInBounds_toArray, List.set_cons_zero, List.set_cons_succ]
      refine take_one (.pointer (some ⟨p, 3, none⟩)) rfl (fun u _ => by go_simp) ?_
      simp only [Act.put, List.setIfInBounds_toArray, List.set_cons_zero, List.set_cons_succ]
      refine take_load 35 (.tmp 71) ⟨p, 3, none⟩ (.int .u64 (s.gen : Int)) rfl rfl rfl (fun u hu => load_any Tryz.underlying35 Tryz.isAgg35 hu.2.2.2.1) ?_
      simp only [Act.put, List.setIfInBounds_toArray, List.set_cons_zero, List.set_cons_succ]
      refine take_move (.tmp 0) (.pointer (some ⟨p, 0, none⟩)) rfl rfl rfl ?_
      simp only [Act.put, List.setIfInBounds_toArray, List.set_cons_zero, List.set_cons_succ]
      refine take_nil (.tmp 73) ⟨p, 0, none⟩ rfl rfl rfl ?_
      simp only [Act.put, List.setIfInBounds_toArray, List.set_cons_zero, List.set_cons_succ]
      refine take_one (.pointer (some ⟨p, 5, none⟩)) rfl (fun u _ => by go_simp) ?_
      simp only [Act.put, List.setIfInBounds_toArray, List.set_cons_zero, List.set_cons_succ]
      refine take_load 3 (.tmp 75) ⟨p, 5, none⟩ (.int .i64 (s.used : Int)) rfl rfl rfl (fun u hu => load_any Tryz.underlying3 Tryz.isAgg3 hu.2.2.2.2) ?_
      simp only [Act.put, List.setIfInBounds_toArray, List.set_cons_zero, List.set_cons_succ]
      refine take_move (.tmp 7) (.int .i64 (k : Int)) rfl rfl rfl ?_
      simp only [Act.put, List.setIfInBounds_toArray, List.set_cons_zero, List.set_cons_succ]
      refine take_one (.int .i64 ((s.used : Int) + (k : Int))) rfl (fun u hu => by go_simp; exact IntWalk.i64_in _ (by omega)) ?_
      simp only [Act.put, List.setIfInBounds_toArray, List.set_cons_zero, List.set_cons_succ]
      refine take_done ?_
      refine midk_wp rfl (call_wp 133 [.tmp 68, .tmp 72, .tmp 78] #[47, 35, 3] #[.pointer (some ⟨p, 0, none⟩), .int .u64 (s.gen : Int), .int .i64 ((s.used : Int) + (k : Int))] rfl rfl rfl ?_)
      refine (HMk2.out _ _ h5).mono ?_
      rintro e w6 ⟨rfl, S6, h6⟩
      refine ⟨_, rfl, ⟨h6.c0, by have := h6.c1; split at this <;> exact this, by have := h6.c2; split at this <;> exact this, by have := h6.c3; split at this <;> exact this, by have := h6.c5; split at this <;> exact this⟩, ?_⟩
      refine midk_one (.int .i64 Z.2) rfl rfl ⟨h6.c0, by have := h6.c1; split at this <;> exact this, by have := h6.c2; split at this <;> exact this, by have := h6.c3; split at this <;> exact this, by have := h6.c5; split at this <;> exact this⟩ ?_
      refine midk_end ?_
      clear h5 HA4 HMk2 hfo hwl
      by_cases hz : Z.2 = 0
      · rw [if_pos hz] at h6
        have hX := HX.out
        rw [if_pos hz] at hX
        rw [hz] at hX ⊢
        have k1 := h6.setUsed (s.used + k)
        rw [hcB] at k1
        obtain ⟨v6, hv6⟩ := h6.wal
        have a5 := hv6.c5
        have f5 := hv6.free 5
        have a4 := hv6.c4
        have f4 := hv6.free 4
        obtain ⟨a9, c9, hv9, _⟩ := hv6.rows.form
        subst hv9
        have hG7 : GRows R0 (.slice a9 s.L.length c9) s.L (w6.setCell ⟨p, 5, none⟩ (.int .i64 ((s.used : Int) + (k : Int)))) := hv6.rows.beside hv6.row rw_ty1 rw_ty2 ((Turns.refl (fun j => j = p) w6).set p 5 _ (fun _ => rfl))
        obtain ⟨hr0, vs, hr1, hr2, hr3⟩ := hG7
        have hone := Grps.onecell hr3
        have hs7 := Hst.out.turns k1.turns (fun b off h1 h2 h3 => Hap.out b off h1 h2 h3)
        have K1 := Lib.hid k1; clear k1
        have HX2 := Lib.hid hX; clear hX
        have Hr0 := Lib.hid hr0; clear hr0
        have Hr3 := Lib.hid hr3; clear hr3
        have Hs7 := Lib.hid hs7; clear hs7
        clear hv6 h6 HX hz hcB hr2
        have hws : IntKind.i64.wrap ((s.used : Int) + (k : Int)) = (s.used : Int) + (k : Int) := IntWalk.i64_in _ (by omega)
        go_wp2_with (at_builtin; go_loud (refine wpList_append_row rfl (.const (.slice none 0 0)) (.tmp 95) 33 rfl (w6.setCell ⟨p, 5, none⟩ (.int .i64 ((s.used : Int) + (k : Int)))).heap.size 23 i0 (.slice none 0 0) 1 24 Tryz.underlying33 Hi.out Hi1.out Hi2.out Hi3.out rfl (by decide) (.slice none 0 0) 0 [] rfl (World.ownsRow_nil _ _ _ _) 0 (.slice a9 s.L.length c9) s.L.length vs rfl hr1 hone (by unfold maxLen; omega) (by omega) (Nat.le_refl _) ?_))
        intro v1 wa hown1 hg1 _
        have e7 : (w6.setCell ⟨p, 5, none⟩ (.int .i64 ((s.used : Int) + (k : Int)))).heap.size = w6.heap.size := by simp
        generalize w6.setCell ⟨p, 5, none⟩ (.int .i64 ((s.used : Int) + (k : Int))) = w7 at *
        rw [← e7] at hown1
        clear e7
        have hba : Below w7.heap.size w7 wa := below_of_grown hg1 (fun k hk => by simp [Value.ownBlock] at hk)
        have hown1' : wa.ownsRow w7.heap.size 23 1 v1 s.L.length vs := by simpa using hown1
        obtain ⟨u9, wb, hrun, hown9, hbb⟩ := run_append_strs (w := wa) (Hs7.out.keep hba) Hz0.out hlen
        have hbab : Below w7.heap.size w7 wb := hba.trans (hbb.mono hba.size)
        obtain ⟨a8, c8, hv8, _⟩ := hown9.strs
        subst hv8
        have Hown1 := Lib.hid hown1'; clear hown1'
        have Hown9 := Lib.hid hown9; clear hown9
        have Hba := Lib.hid hba; clear hba
        have Hbb := Lib.hid hbb; clear hbb
        have Hbab := Lib.hid hbab; clear hbab
        clear hown1 hg1 a4 f4 a5 f5
        have hbA : Below wb.heap.size wb (wb.alloc (.cells #[.slice a8 (bas l).length c8] 23)) := (Below.refl _ wb).alloc (Nat.le_refl _) _
        have hb5 : Below w7.heap.size w7 (wb.alloc (.cells #[.slice a8 (bas l).length c8] 23)) := Hbab.out.trans (hbA.mono Hbab.out.size)
        have h15 : (wb.alloc (.cells #[.slice a8 (bas l).length c8] 23)).ownsRow w7.heap.size 23 1 v1 s.L.length vs := ownsRow_new (ownsRow_new Hown1.out Hbb.out) hbA
        have hu5 : Own w7.heap.size (.slice a8 (bas l).length c8) (bas l) (wb.alloc (.cells #[.slice a8 (bas l).length c8] 23)) := ((Own.low Hown9.out Hba.out.size).new hbA)
        have Hb5 := Lib.hid hb5; clear hb5
        have Hu5 := Lib.hid hu5; clear hu5
        go_wp2_with (at_builtin; first | (refine wpList_plain rfl fun K hK => wp_append_run (.const (.slice none 0 0)) (.tmp 97) 23 rfl (.slice none 0 0) (.slice a len cap) rfl rfl hrun (hK _ _ ?_)) | go_loud (refine wpList_append_row rfl (.tmp 96) (.tmp 99) 33 rfl w7.heap.size 23 i0 (.slice none 0 0) 1 24 Tryz.underlying33 Hi.out Hi1.out Hi2.out Hi3.out rfl (by decide) v1 s.L.length vs rfl h15 0 (.slice (some ⟨wb.heap.size, 0, none⟩) 1 1) 1 [.slice a8 (bas l).length c8] rfl (World.ownsRow_lit (e := 23) (size := 1) wb #[.slice a8 (bas l).length c8] 1 (Nat.zero_le _) (by decide) rfl) (by intro z hz; simp at hz; subst hz; rfl) (by unfold maxLen; omega) (by omega) Hb5.out.size ?_))
        intro v6 w8 hown6 hg6 _
        obtain ⟨hsure, hb46⟩ := sure_next Hr0.out Hr3.out Hb5.out h15 Hu5.out hown6 hg6
        obtain ⟨a6, c6, hv6, _⟩ := hsure.form
        have k8 := K1.out.setL hb46 hsure (fun j hj => .inl hj) (fun j hj => hj.imp id (fun h => h.1))
        obtain ⟨v0, hv0⟩ := (K1.out.new hb46).wal
        have a4 := hv0.c4
        have f4 := hv0.free 4
        subst hv6
        rw [show (s.L ++ [l]).length = s.L.length + 1 from by simp] at k8
        have K8 := Lib.hid k8; clear k8
        clear hsure hb46 hown6 hg6 h15 hbA hv0
        go_wp2_with fail
        go_ret
        rw [HX2.out]
        exact ⟨rfl, _, _, K8.out⟩
      · rw [if_neg hz] at h6
        have hX := HX.out
        rw [if_neg hz] at hX
        have hx1 : (Z.2 == 0) = false := by rw [beq_eq_false_iff_ne]; exact hz
        have HX2 := Lib.hid hX; clear hX
        have H6 := Lib.hid h6; clear h6
        clear HX hz
        go_wp2_with fail
        go_ret
        rw [HX2.out]
        exact ⟨rfl, S6, R0, H6.out⟩
    · have hst4 := Hst3.out
      rw [if_neg he2] at hst4
      have hf := HA4.out.fallen (Dsk.flush D1).2
      rw [if_neg he2] at hf
      have hX := HX.out
      rw [hst4, if_neg he2] at hX
      have hx1 : ((Dsk.flush D1).2 != 0) = true := by rw [bne_iff_ne]; exact he2
      have HX2 := Lib.hid hX; clear hX
      have Hf := Lib.hid hf; clear hf
      clear HX Hst3 HMk he2 hst4 hfo hwl
      generalize hE : (Dsk.flush D1).2 = E at *
      go_wp2_with fail
      refine Hf.out.mono ?_; rintro e w5 ⟨rfl, h5⟩
      have H5 := Lib.hid h5; clear h5
      go_wp2_with fail
      go_ret
      rw [HX2.out]
      exact ⟨rfl, S4, R0, H5.out⟩
  · have hst3 := Hst2.out
    rw [if_neg he1] at hst3
    have hf := HA3.out.fallen (Dsk.write d ((s.from_ : Int) + 1 + (s.used : Int)) B.data.toList).2
    rw [if_neg he1] at hf
    have hX := HX.out
    rw [hst3, if_neg he1] at hX
    have hx1 : ((Dsk.write d ((s.from_ : Int) + 1 + (s.used : Int)) B.data.toList).2 != 0) = true := by rw [bne_iff_ne]; exact he1
    have hx2 : ((Dsk.write d ((s.from_ : Int) + 1 + (s.used : Int)) B.data.toList).2 == 0) = false := by rw [beq_eq_false_iff_ne]; exact he1
    have HX2 := Lib.hid hX; clear hX
    have Hf := Lib.hid hf; clear hf
    clear HX Hst2 HMk he1 hst3 hwl
    generalize (Dsk.write d ((s.from_ : Int) + 1 + (s.used : Int)) B.data.toList).1 = D1 at *
    generalize hE : (Dsk.write d ((s.from_ : Int) + 1 + (s.used : Int)) B.data.toList).2 = E at *
    go_wp2_with fail
    refine Hf.out.mono ?_; rintro e w5 ⟨rfl, h5⟩
    have H5 := Lib.hid h5; clear h5
    go_wp2_with fail
    go_ret
    rw [HX2.out]
    exact ⟨rfl, S3, R0, H5.out⟩

theorem rwAppend_any {m : Nat} (hd : RefAt S0 q d w) (hw : RwAt R0 p q s w) (ha : ∀ j, S0 j → ¬ R0 j) (hs : s.Ok m) (hops : d.ops ≤ 1099511400000) (a : Option Addr) (len cap : Nat) (l : Wal.Grp) (hst : Strs a len (bas l) w) (hz0 : a = none → cap = 0) (hap : ∀ b off, 0 < len → a = some ⟨b, off, none⟩ → ¬ (S0 b ∨ R0 b))
    (hlen : len ≤ 8796093022208) (hz : ∀ j, ((bas l).getD j .empty).size ≤ 9223372036854700000) :
    Calls Tryz.prog 71 #[.pointer (some ⟨p, 0, none⟩), .slice a len cap] w (RapR w S0 R0 p q (Wal.append d s l)) := by
  unfold Wal.append
  by_cases he : s.err = 0
  · rw [if_neg (by simpa using he)]
    by_cases hr : (Oct.row l).2 = 0
    · rw [if_neg (by simpa using hr)]
      by_cases hk : s.n - 1 - s.used < Wal.secs (Oct.row l).1
      · rw [if_pos hk]
        have := rwApp_row hd hw ha hs a len cap l hst (by omega) hz he (.inr hk)
        rw [if_neg (by simpa using hr)] at this
        exact this
      · rw [if_neg hk]
        exact rwApp_go hd hw ha hs hops a len cap l hst hz0 hap hlen hz he hr (by omega)
    · rw [if_pos hr]
      have := rwApp_row hd hw ha hs a len cap l hst (by omega) hz he (.inl hr)
      rw [if_pos hr] at this
      exact this
  · rw [if_pos he]
    exact rwApp_err hd hw ha a len cap he
end
end Go.Proofs.YtjmpagbjkehebaaGreat
