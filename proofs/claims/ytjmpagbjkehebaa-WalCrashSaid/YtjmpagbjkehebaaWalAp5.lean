/-
  The last steps of Append and of Reset: the log itself is turned.
-/
import Derived.Test.YtjmpagbjkehebaaWalRow
set_option linter.unusedVariables false
set_option maxRecDepth 100000
namespace Go.Proofs.Ytjmpagbjkehebaa
open Go.RowKit

section
variable {w : World} {S0 R0 : Nat → Prop} {kept : List (Nat × Obj)} {S R : Nat → Prop} {p q : Nat} {d : Dsk.St} {s : Wal.St} {W W' : World}
theorem Apn.marked (h : Apn w S0 R0 kept S R p q d s W) (g u : Nat) : Apn w S0 R0 kept S R p q d { s with gen := g, used := u } ((W.setCell ⟨p, 0, none⟩ (.int .u64 (g : Int))).setCell ⟨p, 1, none⟩ (.int .i64 (u : Int))) := by
  obtain ⟨v, hv⟩ := h.wal
  exact h.turnWal (((Turns.refl R W).set p 0 _ (fun _ => hv.hp)).set p 1 _ (fun _ => hv.hp)) (fun j hj => .inl hj) ⟨v, hv.putMark g u⟩
theorem Apn.faulted (h : Apn w S0 R0 kept S R p q d s W) (E : Int) : Apn w S0 R0 kept S R p q d { s with err := E } (W.setCell ⟨p, 6, none⟩ (.int .i64 E)) := by
  obtain ⟨v, hv⟩ := h.wal
  exact h.turnWal ((Turns.refl R W).set p 6 _ (fun _ => hv.hp)) (fun j hj => .inl hj) ⟨v, hv.putErr E⟩
theorem Apn.emptied (h : Apn w S0 R0 kept S R p q d s W) : Apn w S0 R0 kept S R p q d { s with L := [] } (W.setCell ⟨p, 5, none⟩ (.slice none 0 0)) := by
  obtain ⟨v, hv⟩ := h.wal
  exact h.turnWal ((Turns.refl R W).set p 5 _ (fun _ => hv.hp)) (fun j hj => .inl hj) ⟨_, hv.putRow hv.hp (GRows.nil R W hv.lt)⟩

theorem re3_any (h : Apn w S0 R0 kept S R p q d s W) {B na g u : Nat} (hB : (B, boxW p) ∈ kept) (hna : (na, boxM g u) ∈ kept) :
    Calls Try.prog 43 #[.pointer (some ⟨na, 0, none⟩), .pointer (some ⟨B, 0, none⟩)] W fun e W' => e = .returned (.int .i64 0) ∧ Apn w S0 R0 kept S R p q d { s with gen := g, used := u, L := [] } W' := by
  have H := Lib.hid h; clear h
  go_enter Try.func43, Try.ntmps43
  go_wp2_with fail
  refine wp_region_phases [([0, 1, 2], [3, 4, 5, 6, 7, 8])] (by kernel_rfl) (by kernel_rfl) (fun z => z.cell? ⟨B, 0, none⟩ = some (.pointer (some ⟨p, 0, none⟩)) ∧ z.heap[na]? = some (boxM g u)) ⟨H.out.cB hB, H.out.row hna⟩ ?_
  simp only [wpPhases, pick, List.filterMap_cons, List.filterMap_nil, List.getElem?_toArray, List.getElem?_cons_zero, List.getElem?_cons_succ]
  refine take_load 29 (.tmp 1) ⟨B, 0, none⟩ (.pointer (some ⟨p, 0, none⟩)) rfl rfl rfl (fun u hu => load_any Try.underlying29 Try.isAgg29 hu.1) ?_
  simp only [Act.put, List.setIfInBounds_toArray, List.set_cons_zero, List.set_cons_succ]
  refine take_load 29 (.tmp 1) ⟨B, 0, none⟩ (.pointer (some ⟨p, 0, none⟩)) rfl rfl rfl (fun u hu => load_any Try.underlying29 Try.isAgg29 hu.1) ?_
  simp only [Act.put, List.setIfInBounds_toArray, List.set_cons_zero, List.set_cons_succ]
  refine take_load 55 (.tmp 0) ⟨na, 0, none⟩ (markV g u) rfl rfl rfl (fun u hu => load_mark hu.2) ?_
  simp only [Act.put, List.setIfInBounds_toArray, List.set_cons_zero, List.set_cons_succ]
  refine take_done ?_
  have h2 := H.out.new ((Below.refl _ W).drew)
  obtain ⟨v, hv⟩ := h2.wal
  refine midk_one (.pointer (some ⟨p, 0, none⟩)) rfl rfl ⟨h2.cB hB, h2.row hna⟩ ?_
  simp only [Act.put, List.setIfInBounds_toArray, List.set_cons_zero, List.set_cons_succ]
  refine midk_one (.pointer (some ⟨p, 0, none⟩)) rfl (by go_simp) ⟨h2.cB hB, h2.row hna⟩ ?_
  simp only [Act.put, List.setIfInBounds_toArray, List.set_cons_zero, List.set_cons_succ]
  have h3 := h2.marked g u
  refine midk_store 55 (.tmp 7) (.tmp 5) _ _ rfl rfl rfl rfl (store_mark (g : Int) (u : Int) hv.c0 hv.c1 (hv.free 0) (hv.free 1)) ⟨h3.cB hB, h3.row hna⟩ ?_
  simp only [Act.put]
  refine midk_one (.pointer (some ⟨p, 0, none⟩)) rfl rfl ⟨h3.cB hB, h3.row hna⟩ ?_
  simp only [Act.put, List.setIfInBounds_toArray, List.set_cons_zero, List.set_cons_succ]
  refine midk_one (.pointer (some ⟨p, 5, none⟩)) rfl (by go_simp) ⟨h3.cB hB, h3.row hna⟩ ?_
  simp only [Act.put, List.setIfInBounds_toArray, List.set_cons_zero, List.set_cons_succ]
  have h4 := h3.emptied
  obtain ⟨v3, hv3⟩ := h3.wal
  refine midk_store 32 (.tmp 9) (.const (.slice none 0 0)) _ _ rfl rfl rfl rfl (store_grps hv3.c5 (hv3.free 5)) ⟨h4.cB hB, h4.row hna⟩ ?_
  simp only [Act.put]
  refine midk_end ?_
  have H4 := Lib.hid h4; clear h4
  clear h2 h3 hv hv3 hB hna
  go_wp2_with fail
  go_ret
  exact ⟨rfl, H4.out⟩

set_option maxHeartbeats 400000 in
theorem ap5_any (h : Apn w S0 R0 kept S R p q d s W) {B C na g u : Nat} {a : Option Addr} {len cap : Nat} {l : Wal.Grp} (hB : (B, boxW p) ∈ kept) (hna : (na, boxM g u) ∈ kept) (hC : (C, boxL a len cap) ∈ kept) (hs : Strs a len (bas l) W)
    (hz : Slim l) (hm : s.L.length ≤ 1048576) :
    Calls Try.prog 38 #[.pointer (some ⟨na, 0, none⟩), .pointer (some ⟨B, 0, none⟩), .pointer (some ⟨C, 0, none⟩)] W fun e W' => e = .returned (.int .i64 0) ∧ ∃ R', Apn w S0 R0 kept S R' p q d { s with gen := g, used := u, L := s.L ++ [l] } W' := by
  obtain ⟨i0, hi, hz0, hz1, hz2⟩ := info_parts grp_info
  have hlen : len = l.length := by rw [← hs.1, bas_length]
  have hcp := fun (z : World) (hz' : Strs a len (bas l) z) => copiedStrs_any a len cap (bas l) z hz' (by have := hz.1; omega) (fun j => by have := hz.get j; omega)
  have Hcp := Lib.hid hcp; clear hcp
  have Hs := Lib.hid hs; clear hs
  obtain ⟨v, hv⟩ := h.wal
  have H := Lib.hid h; clear h
  obtain ⟨ag, capg, hvv, hcl, hcm, _⟩ := hv.rows.form
  have Hv := Lib.hid hv; clear hv
  have Hvv := Lib.hid hvv; clear hvv
  go_enter Try.func38, Try.ntmps38
  go_wp2_with fail
  refine wp_region_text [0, 1, 2, 3, 4, 5, 6, 7] [8, 9, 10, 11, 12, 13] [14, 15, 16] (by kernel_rfl) (by kernel_rfl) (fun z => z.cell? ⟨B, 0, none⟩ = some (.pointer (some ⟨p, 0, none⟩)) ∧ z.heap[na]? = some (boxM g u) ∧ z.cell? ⟨C, 0, none⟩ = some (.slice a len cap) ∧ z.cell? ⟨p, 5, none⟩ = some v) ⟨H.out.cB hB, H.out.row hna, H.out.cL hC, Hv.out.c5⟩ ?_
  simp only [pick, List.filterMap_cons, List.filterMap_nil, List.getElem?_toArray, List.getElem?_cons_zero, List.getElem?_cons_succ]
  refine take_load 29 (.tmp 1) ⟨B, 0, none⟩ (.pointer (some ⟨p, 0, none⟩)) rfl rfl rfl (fun u hu => load_any Try.underlying29 Try.isAgg29 hu.1) ?_
  simp only [Act.put, List.setIfInBounds_toArray, List.set_cons_zero, List.set_cons_succ]
  refine take_load 29 (.tmp 1) ⟨B, 0, none⟩ (.pointer (some ⟨p, 0, none⟩)) rfl rfl rfl (fun u hu => load_any Try.underlying29 Try.isAgg29 hu.1) ?_
  simp only [Act.put, List.setIfInBounds_toArray, List.set_cons_zero, List.set_cons_succ]
  refine take_load 55 (.tmp 0) ⟨na, 0, none⟩ (markV g u) rfl rfl rfl (fun u hu => load_mark hu.2.1) ?_
  simp only [Act.put, List.setIfInBounds_toArray, List.set_cons_zero, List.set_cons_succ]
  refine take_load 29 (.tmp 1) ⟨B, 0, none⟩ (.pointer (some ⟨p, 0, none⟩)) rfl rfl rfl (fun u hu => load_any Try.underlying29 Try.isAgg29 hu.1) ?_
  simp only [Act.put, List.setIfInBounds_toArray, List.set_cons_zero, List.set_cons_succ]
  refine take_nil (.tmp 7) ⟨p, 0, none⟩ rfl rfl rfl ?_
  simp only [Act.put, List.setIfInBounds_toArray, List.set_cons_zero, List.set_cons_succ]
  refine take_one (.pointer (some ⟨p, 5, none⟩)) rfl (fun u _ => by go_simp) ?_
  simp only [Act.put, List.setIfInBounds_toArray, List.set_cons_zero, List.set_cons_succ]
  refine take_load 32 (.tmp 9) ⟨p, 5, none⟩ v rfl rfl rfl (fun u hu => load_any Try.underlying32 Try.isAgg32 hu.2.2.2) ?_
  simp only [Act.put, List.setIfInBounds_toArray, List.set_cons_zero, List.set_cons_succ]
  refine take_load 34 (.tmp 2) ⟨C, 0, none⟩ (.slice a len cap) rfl rfl rfl (fun u hu => load_any Try.underlying34 Try.isAgg34 hu.2.2.1) ?_
  simp only [Act.put, List.setIfInBounds_toArray, List.set_cons_zero, List.set_cons_succ]
  refine take_done ?_
  have h2 := H.out.new ((Below.refl _ W).drew)
  have hv2 : WalIn R p q s W.drew v := Hv.out.keeps (Turns.of_new ((Below.refl _ W).drew) (fun _ => False)) (fun _ _ => id)
  refine mid_wp rfl (call_wp 39 [.tmp 11, .func 40] #[34, 68] #[.slice a len cap, .func (.func 40) #[] #[]] rfl rfl rfl ?_)
  refine (Hcp.out _ (Hs.out.keep ((Below.refl _ W).drew))).mono ?_; rintro e w1 ⟨h1, u9, rfl, ho⟩
  have h3 := h2.new h1
  have hv3 : WalIn R p q s w1 v := hv2.keeps (Turns.of_new h1 (fun _ => False)) (fun _ _ => id)
  refine ⟨_, rfl, ⟨h3.cB hB, h3.row hna, h3.cL hC, hv3.c5⟩, ?_⟩
  simp only [Act.put, List.setIfInBounds_toArray, List.set_cons_zero, List.set_cons_succ]
  obtain ⟨a9, cap9, hv9, _⟩ := ho.strs
  have hsA : (w1.alloc (.cells #[.slice a9 (bas l).length cap9] 34)).heap.size = w1.heap.size + 1 := by simp
  have hbA : Below w1.heap.size w1 (w1.alloc (.cells #[.slice a9 (bas l).length cap9] 34)) := (Below.refl _ w1).alloc (Nat.le_refl _) _
  have h4 := h3.new hbA
  have hv4 : WalIn R p q s (w1.alloc (.cells #[.slice a9 (bas l).length cap9] 34)) v := hv3.keeps (Turns.of_new hbA (fun _ => False)) (fun _ _ => id)
  subst hv9
  refine mid_one (w' := w1.alloc (.cells #[.slice a9 (bas l).length cap9] 34)) (.slice (some ⟨w1.heap.size, 0, none⟩) 1 1) rfl (run_slice_op 32 1 [(0, .tmp 12)] rfl (slice_grp _ _ _ w1)) ⟨h4.cB hB, h4.row hna, h4.cL hC, hv4.c5⟩ ?_
  simp only [Act.put, List.setIfInBounds_toArray, List.set_cons_zero, List.set_cons_succ]
  obtain ⟨hr0, vs, hr1, hr2, hr3⟩ := hv2.rows
  have hr1A : (w1.alloc (.cells #[.slice a9 (bas l).length cap9] 34)).ownsRow 0 34 1 v s.L.length vs := ownsRow_same (ownsRow_same hr1 fun g hg => h1.block g (hr1.lt g hg).2) fun g hg => hbA.block g (Nat.lt_of_lt_of_le (hr1.lt g hg).2 h1.size)
  refine mid_wp rfl (wp_append_row (.tmp 10) (.tmp 13) 32 rfl 0 34 i0 (.slice none 0 0) 1 24 Try.underlying32 hi hz0 hz1 hz2 rfl (by decide) v s.L.length vs rfl hr1A 0 (.slice (some ⟨w1.heap.size, 0, none⟩) 1 1) 1 [.slice a9 (bas l).length cap9] rfl (World.ownsRow_lit (e := 34) (size := 1) w1 #[.slice a9 (bas l).length cap9] 1 (Nat.zero_le _) (by decide) rfl) (by intro x hx; simp at hx; subst hx; rfl) (by unfold maxLen; omega) (by omega) (Nat.zero_le _) ?_)
  intro v' w5 hown5 hg5 hvb5
  have hs1 := h1.size
  have hs5 := hg5.size
  rw [hsA] at hs5
  have hb2A : Below W.drew.heap.size W.drew (w1.alloc (.cells #[.slice a9 (bas l).length cap9] 34)) := h1.trans (hbA.mono hs1)
  have hgr := GRows.more (v' := v') (u := .slice a9 (bas l).length cap9) hr1 hr2 hr3 hr0 hb2A (Own.new ho hbA) hown5 hg5 hvb5
  obtain ⟨av, capv, hvv'', _⟩ := hgr.form
  have hvv' : v' = .slice av (s.L.length + 1) capv := by simpa using hvv''
  clear hvv''
  have ht5 : Turns R (w1.alloc (.cells #[.slice a9 (bas l).length cap9] 34)) w5 := (Turns.of_grown hg5).mono (fun j _ e => hr2 j e)
  have hnp : ∀ k, v.ownBlock = some k → k ≠ p := fun k hk e => hv2.rows.vp hv2.row wal_ty1 (by rw [hk, e])
  have hrow5 : w5.heap[p]? = some (.cells (wlcells s q v) 57 (0, 0)) := (Turns.of_grown hg5).same hv4.row (fun e => hnp p e rfl)
  have hgr2 : GRows (fun k => R k ∨ (W.heap.size ≤ k ∧ k < w5.heap.size)) v' (s.L ++ [l]) w5 := hgr
  have hw5 : WalAt (fun k => R k ∨ (W.heap.size ≤ k ∧ k < w5.heap.size)) p q { s with L := s.L ++ [l] } (w5.setCell ⟨p, 5, none⟩ v') := ⟨v', .inl hv4.hp, by rw [heap_setCell_same w5 p 5 _ _ _ hrow5]; rfl, hgr2.beside hrow5 wal_ty1 wal_ty2 ((Turns.refl (fun k => k = p) w5).set p 5 _ (fun _ => rfl))⟩
  have e0 : w5.cell? ⟨p, 0, none⟩ = some (.int .u64 (s.gen : Int)) := by rw [cell_of_row w5 p 0 _ _ _ hrow5]; rfl
  have e1 : w5.cell? ⟨p, 1, none⟩ = some (.int .i64 (s.used : Int)) := by rw [cell_of_row w5 p 1 _ _ _ hrow5]; rfl
  have e5 : w5.cell? ⟨p, 5, none⟩ = some v := by rw [cell_of_row w5 p 5 _ _ _ hrow5]; rfl
  have hK5 : ∀ x ∈ kept, w5.heap[x.1]? = some x.2 := fun x hx => ht5.same (h4.rows x hx).1 (h4.rows x hx).2.2
  have cB5 : w5.cell? ⟨B, 0, none⟩ = some (.pointer (some ⟨p, 0, none⟩)) := by rw [cell_of_row w5 B 0 _ _ _ (hK5 _ hB)]; rfl
  have cC5 : w5.cell? ⟨C, 0, none⟩ = some (.slice a len cap) := by rw [cell_of_row w5 C 0 _ _ _ (hK5 _ hC)]; rfl
  refine ⟨⟨cB5, hK5 _ hna, cC5, e5⟩, ?_⟩
  simp only [Act.put, List.setIfInBounds_toArray, List.set_cons_zero, List.set_cons_succ]
  refine mid_one (.pointer (some ⟨p, 0, none⟩)) rfl rfl ⟨cB5, hK5 _ hna, cC5, e5⟩ ?_
  simp only [Act.put, List.setIfInBounds_toArray, List.set_cons_zero, List.set_cons_succ]
  refine mid_one (.pointer (some ⟨p, 0, none⟩)) rfl (by go_simp) ⟨cB5, hK5 _ hna, cC5, e5⟩ ?_
  simp only [Act.put, List.setIfInBounds_toArray, List.set_cons_zero, List.set_cons_succ]
  have nB : B ≠ p := fun e => (h4.rows _ hB).2.2 (by rw [e]; exact hv4.hp)
  have nC : C ≠ p := fun e => (h4.rows _ hC).2.2 (by rw [e]; exact hv4.hp)
  have nN : na ≠ p := fun e => (h4.rows _ hna).2.2 (by rw [e]; exact hv4.hp)
  have hrow6 : ((w5.setCell ⟨p, 0, none⟩ (.int .u64 (g : Int))).setCell ⟨p, 1, none⟩ (.int .i64 (u : Int))).heap[p]? = some (.cells (wlcells { s with gen := g, used := u } q v) 57 (0, 0)) := by
    have q1 : (w5.setCell ⟨p, 0, none⟩ (.int .u64 (g : Int))).heap[p]? = some (.cells (wlcells { s with gen := g } q v) 57 (0, 0)) := by rw [heap_setCell_same w5 p 0 _ _ _ hrow5]; rfl
    rw [heap_setCell_same _ p 1 _ _ _ q1]; rfl
  have cB6 : ((w5.setCell ⟨p, 0, none⟩ (.int .u64 (g : Int))).setCell ⟨p, 1, none⟩ (.int .i64 (u : Int))).cell? ⟨B, 0, none⟩ = some (.pointer (some ⟨p, 0, none⟩)) := by rw [cell_of_row _ B 0 _ _ _ (other_row (other_row (hK5 _ hB) nB) nB)]; rfl
  have cC6 : ((w5.setCell ⟨p, 0, none⟩ (.int .u64 (g : Int))).setCell ⟨p, 1, none⟩ (.int .i64 (u : Int))).cell? ⟨C, 0, none⟩ = some (.slice a len cap) := by rw [cell_of_row _ C 0 _ _ _ (other_row (other_row (hK5 _ hC) nC) nC)]; rfl
  have e65 : ((w5.setCell ⟨p, 0, none⟩ (.int .u64 (g : Int))).setCell ⟨p, 1, none⟩ (.int .i64 (u : Int))).cell? ⟨p, 5, none⟩ = some v := by rw [cell_of_row _ p 5 _ _ _ hrow6]; rfl
  refine mid_wp rfl (store_wp 55 (.tmp 16) (.tmp 6) (.pointer (some ⟨p, 0, none⟩)) (markV g u) rfl rfl rfl (store_mark (g : Int) (u : Int) e0 e1 (row_free hrow5 0) (row_free hrow5 1)) ⟨⟨cB6, other_row (other_row (hK5 _ hna) nN) nN, cC6, e65⟩, ?_⟩)
  simp only [Act.put]
  refine mid_list ?_
  have f6 := row_free hrow6 5
  have ht6 : Turns R (w1.alloc (.cells #[.slice a9 (bas l).length cap9] 34)) (((w5.setCell ⟨p, 0, none⟩ (.int .u64 (g : Int))).setCell ⟨p, 1, none⟩ (.int .i64 (u : Int))).setCell ⟨p, 5, none⟩ v') := ((ht5.set p 0 _ (fun _ => hv4.hp)).set p 1 _ (fun _ => hv4.hp)).set p 5 _ (fun _ => hv4.hp)
  have hsz6 : (((w5.setCell ⟨p, 0, none⟩ (.int .u64 (g : Int))).setCell ⟨p, 1, none⟩ (.int .i64 (u : Int))).setCell ⟨p, 5, none⟩ v').heap.size = w5.heap.size := by simp [World.setCell]
  have hw6 : WalAt (fun k => R k ∨ (W.heap.size ≤ k ∧ k < w5.heap.size)) p q { s with gen := g, used := u, L := s.L ++ [l] } (((w5.setCell ⟨p, 0, none⟩ (.int .u64 (g : Int))).setCell ⟨p, 1, none⟩ (.int .i64 (u : Int))).setCell ⟨p, 5, none⟩ v') :=
    ⟨v', .inl hv4.hp, by rw [heap_setCell_same _ p 5 _ _ _ hrow6]; rfl, (hgr2.beside hrow5 wal_ty1 wal_ty2 ((((Turns.refl (fun k => k = p) w5).set p 0 _ (fun _ => rfl)).set p 1 _ (fun _ => rfl)).set p 5 _ (fun _ => rfl)))⟩
  have hdk : ∀ j, (fun k => R k ∨ (W.heap.size ≤ k ∧ k < w5.heap.size)) j → R j ∨ (w1.alloc (.cells #[.slice a9 (bas l).length cap9] 34)).heap.size ≤ j ∨ W.heap.size ≤ j := fun j hj => by
    rcases hj with hj | hj
    · exact .inl hj
    · exact .inr (.inr hj.1)
  have hfin : Apn w S0 R0 kept S (fun k => R k ∨ (W.heap.size ≤ k ∧ k < w5.heap.size)) p q d { s with gen := g, used := u, L := s.L ++ [l] } (((w5.setCell ⟨p, 0, none⟩ (.int .u64 (g : Int))).setCell ⟨p, 1, none⟩ (.int .i64 (u : Int))).setCell ⟨p, 5, none⟩ v') := by
    refine H.out.turnWal (W' := ((w5.setCell ⟨p, 0, none⟩ (.int .u64 (g : Int))).setCell ⟨p, 1, none⟩ (.int .i64 (u : Int))).setCell ⟨p, 5, none⟩ v') ?_ (fun j hj => ?_) hw6
    · exact (((Turns.refl R W).drew).trans (Turns.of_new hb2A R) (fun _ _ e => e)).trans ht6 (fun _ _ e => e)
    · rcases hj with hj | hj
      · exact .inl hj
      · exact .inr hj.1
  have Hfin := Lib.hid hfin; clear hfin
  have hvq := Hvv.out
  clear hw5 hw6 hgr hgr2 hdk ht6 ht5 h2 h3 h4 hv2 hv3 hv4 hown5 hg5 hvb5 hr1A hr0 hr1 hr2 hr3 hb2A hbA ho h1 hK5 e0 e1 e5 cB5 cC5 hnp cC6 hsz6
  clear Hv H Hs Hcp Hvv
  subst hvv'
  go_wp2_with fail
  apply NoPanic.normal
  go_wp2_with fail
  go_ret
  exact ⟨rfl, _, Hfin.out⟩
end
end Go.Proofs.Ytjmpagbjkehebaa
