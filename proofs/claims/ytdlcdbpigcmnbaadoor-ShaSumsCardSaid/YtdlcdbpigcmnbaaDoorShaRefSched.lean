/-
  What the document's answer schedule returns.
-/
import Derived.Test.YtdlcdbpigcmnbaaDoorShaRefPad
import Derived.Test.YtdlcdbpigcmnbaaDoorShaSched
set_option linter.unusedVariables false
namespace Go.Proofs.YtdlcdbpigcmnbaaDoor
open Go.RowKit

theorem make64 : ∀ w, (Instr.makeSlice 35 (.int .i64 64) (.int .i64 64)).run Tryd.prog w = .ok (.slice (some ⟨w.heap.size, 0, none⟩) 64 64) (w.alloc (.cells (u32s (nils 64)) 51)) := fun _ => by kernel_rfl

theorem index_at (b : ByteArray) (j : Nat) (hj : j < b.size) (x : Nat) (hx : (b[j]'hj).toNat = x) (i : Int) (hi : i = (j : Int)) (u : World) :
    (Instr.index 9 (.string b) (.int .i64 i)).run Tryd.prog u = .ok (.int .u8 (x : Int)) u := by
  subst hi; subst hx
  rw [run_index_string (h := Tryd.underlying9), dif_pos ⟨by omega, by omega⟩]
  rfl

set_option maxRecDepth 100000 in
set_option maxHeartbeats 6000000 in
theorem rsched_any (b : ByteArray) (w : World) (hlen : b.size = 64) :
    Calls Tryd.prog 44 #[.string b] w fun e w' => e = .returned (.slice (some ⟨w.heap.size, 0, none⟩) 64 64) ∧ Num .u32 w.heap.size (Sha.sched b.data.toList) w' ∧ w.heap.size < w'.heap.size ∧ Below w.heap.size w w' := by
  have hmk := make64
  have hbl : b.data.toList.length = 64 := by rw [ba_len]; exact hlen
  have hget : ∀ j, j < 64 → ∀ h, (b[j]'h).toNat = (b.data.toList.getD j 0).toNat := fun j hj h => by
    rw [← ba_get b j h (by omega), List.getD_eq_getElem?_getD, List.getElem?_eq_getElem (by omega)]; rfl
  generalize b.data.toList = bs at *
  have Hget := Lib.hid hget; clear hget
  have Hlen := Lib.hid hbl; clear hbl
  go_enter Tryd.func44, Tryd.ntmps44
  go_wp2
  go_loopw [4] (fun i wr => ∃ k : Nat, k ≤ 16 ∧ i = .int .i64 k ∧ wr.heap[w.heap.size]? = some (.cells (u32s (upto (Sha.first bs k))) 51 (0, 0)) ∧ Below w.heap.size w wr) (fun i _ => 16 - (intOf i).toNat)
  case atStart => exact ⟨0, by omega, rfl, heap_alloc_new _ _, ((Below.refl _ w).alloc (Nat.le_refl _) _)⟩
  case round =>
    obtain ⟨k, hk, rfl, hrow, hbel⟩ := hrel
    have Hrow := Lib.hid hrow; clear hrow
    have Hbel := Lib.hid hbel; clear hbel
    by_cases hlt : k < 16
    · have c0 := Hget.out (4 * k) (by omega)
      have c1 := Hget.out (4 * k + 1) (by omega)
      have c2 := Hget.out (4 * k + 2) (by omega)
      have c3 := Hget.out (4 * k + 3) (by omega)
      have b0 := (bs.getD (4 * k) 0).toNat_lt
      have b1 := (bs.getD (4 * k + 1) 0).toNat_lt
      have b2 := (bs.getD (4 * k + 2) 0).toNat_lt
      have b3 := (bs.getD (4 * k + 3) 0).toNat_lt
      have hw : Sha.word bs k = Sha.be4 (bs.getD (4 * k) 0).toNat (bs.getD (4 * k + 1) 0).toNat (bs.getD (4 * k + 2) 0).toNat (bs.getD (4 * k + 3) 0).toNat := rfl
      generalize (bs.getD (4 * k) 0).toNat = x0 at *
      generalize (bs.getD (4 * k + 1) 0).toNat = x1 at *
      generalize (bs.getD (4 * k + 2) 0).toNat = x2 at *
      generalize (bs.getD (4 * k + 3) 0).toNat = x3 at *
      have hv := be4_val x0 x1 x2 x3 b0 b1 b2 b3
      rw [← hw] at hv
      have Hv := Lib.hid hv; clear hv
      have Hw := Lib.hid hw; clear hw
      have hf := row_free Hrow.out k
      have ho : wr.cell? ⟨w.heap.size, k, none⟩ = some (.int .u32 ((upto (Sha.first bs k)).getD k 0 : Nat)) := row_u32 Hrow.out k (by rw [upto_length _ (by rw [Sha.first_length]; omega)]; omega)
      generalize (upto (Sha.first bs k)).getD k 0 = old at *
      have i0 : (0 : Int) ≤ (k : Int) := by omega
      have i1 : (k : Int) < 64 := by omega
      have j0 : (0 : Int) ≤ 4 * (k : Int) := by omega
      have j1 : 4 * (k : Int) < (b.size : Int) := by omega
      have l0 : (0 : Int) ≤ 4 * (k : Int) + 1 := by omega
      have l1 : 4 * (k : Int) + 1 < (b.size : Int) := by omega
      have m0 : (0 : Int) ≤ 4 * (k : Int) + 2 := by omega
      have m1 : 4 * (k : Int) + 2 < (b.size : Int) := by omega
      have n0 : (0 : Int) ≤ 4 * (k : Int) + 3 := by omega
      have n1 : 4 * (k : Int) + 3 < (b.size : Int) := by omega
      have tk : ((k : Int)).toNat = k := by omega
      have t4 : (4 * (k : Int)).toNat = 4 * k := by omega
      have t5 : (4 * (k : Int) + 1).toNat = 4 * k + 1 := by omega
      have t6 : (4 * (k : Int) + 2).toNat = 4 * k + 2 := by omega
      have t7 : (4 * (k : Int) + 3).toNat = 4 * k + 3 := by omega
      have w0 : IntKind.i64.wrap (4 * (k : Int)) = 4 * (k : Int) := IntWalk.i64_in _ (by omega)
      have w1 : IntKind.i64.wrap (4 * (k : Int) + 1) = 4 * (k : Int) + 1 := IntWalk.i64_in _ (by omega)
      have w2 : IntKind.i64.wrap (4 * (k : Int) + 2) = 4 * (k : Int) + 2 := IntWalk.i64_in _ (by omega)
      have w3 : IntKind.i64.wrap (4 * (k : Int) + 3) = 4 * (k : Int) + 3 := IntWalk.i64_in _ (by omega)
      have x0' := fun u => index_at b (4 * k) (by omega) x0 (c0 (by omega)) (4 * (k : Int)) (by omega) u
      have x1' := fun u => index_at b (4 * k + 1) (by omega) x1 (c1 (by omega)) (4 * (k : Int) + 1) (by omega) u
      have x2' := fun u => index_at b (4 * k + 2) (by omega) x2 (c2 (by omega)) (4 * (k : Int) + 2) (by omega) u
      have x3' := fun u => index_at b (4 * k + 3) (by omega) x3 (c3 (by omega)) (4 * (k : Int) + 3) (by omega) u
      clear c0 c1 c2 c3 hlen
      go_wp2
      have hf2 : wr.drew.frozen? ⟨w.heap.size, k, none⟩ = false := hf
      have ho2 : wr.drew.cell? ⟨w.heap.size, k, none⟩ = some (.int .u32 (old : Nat)) := ho
      have hrow2 : wr.drew.heap[w.heap.size]? = some (.cells (u32s (upto (Sha.first bs k))) 51 (0, 0)) := Hrow.out
      have hbel2 : Below w.heap.size w wr.drew := Hbel.out.drew
      have Hrow2 := Lib.hid hrow2; clear hrow2
      have Hbel2 := Lib.hid hbel2; clear hbel2
      clear hf ho Hrow Hbel
      go_still_tail 32, (by kernel_rfl)
      clear w0 w1 w2 w3 t4 t5 t6 t7 tk x0' x1' x2' x3' j0 j1 l0 l1 m0 m1 n0 n1
      change wpList _ _ _ _ _ wr.drew
      generalize wr.drew = w2 at *
      rw [Hv.out]
      go_wp2
      go_roundw
      case rel =>
        refine ⟨k + 1, by omega, by go_num, ?_, (Hbel2.out.setCell (p := ⟨w.heap.size, k, none⟩) (by simp) _)⟩
        have h := row_set32 Hrow2.out k (Sha.word bs k)
        have e := upto_set (Sha.first bs k) (Sha.word bs k) (by rw [Sha.first_length]; omega)
        rw [Sha.first_length] at e
        rw [e, ← Sha.first_succ] at h
        exact h
      case measure => simp [intOf]; omega
    · obtain rfl : k = 16 := by omega
      rw [show ((16 : Nat) : Int) = 16 from rfl]
      go_wp2
      have r0 := Hrow.out
      have r1 := Hbel.out
      clear Hrow Hbel
      go_loopw [5] (fun i ws => ∃ m : Nat, m ≤ 48 ∧ i = .int .i64 ((16 + m : Nat) : Int) ∧ ws.heap[w.heap.size]? = some (.cells (u32s (upto (Sha.ext (Sha.first bs 16) m))) 51 (0, 0)) ∧ Below w.heap.size w ws) (fun i _ => 64 - (intOf i).toNat)
      case atStart => exact ⟨0, by omega, rfl, r0, r1⟩
      case round =>
        clear r0 r1
        obtain ⟨m, hm, rfl, hrow, hbel⟩ := hrel
        have Hrow := Lib.hid hrow; clear hrow
        have Hbel := Lib.hid hbel; clear hbel
        have hel : (Sha.ext (Sha.first bs 16) m).length = 16 + m := by rw [Sha.ext_length, Sha.first_length]
        have Hel := Lib.hid hel; clear hel
        have hxs : Sha.ext (Sha.first bs 16) (m + 1) = Sha.ext (Sha.first bs 16) m ++ [Sha.nxt (Sha.ext (Sha.first bs 16) m)] := rfl
        have hlt64 := Sha.ext_lt (Sha.first_lt bs 16) m
        have Hxs := Lib.hid hxs; clear hxs
        obtain ⟨k, hk⟩ : ∃ k, k = 16 + m := ⟨_, rfl⟩
        have hkm : m = k - 16 := by omega
        have hk16 : 16 ≤ k := by omega
        have hk64 : k ≤ 64 := by omega
        rw [← hk] at Hel ⊢
        have hws : m = 48 → Sha.ext (Sha.first bs 16) m = Sha.sched bs := fun e => by rw [e]; rfl
        generalize Sha.ext (Sha.first bs 16) m = ws at *
        have Hws := Lib.hid hws; clear hws
        by_cases hlt : k < 64
        · have hul := upto_length ws (by rw [Hel.out]; omega)
          have c0 := row_u32 Hrow.out (k - 2) (by omega)
          have c1 := row_u32 Hrow.out (k - 7) (by omega)
          have c2 := row_u32 Hrow.out (k - 15) (by omega)
          have c3 := row_u32 Hrow.out (k - 16) (by omega)
          rw [upto_get _ _ (by rw [Hel.out]; omega)] at c0 c1 c2 c3
          have hf := row_free Hrow.out k
          have ho := row_u32 Hrow.out k (by omega)
          clear hul
          have hn : Sha.nxt ws = Sha.ad (Sha.ad (Sha.ad (Sha.sm1 (ws.getD (k - 2) 0)) (ws.getD (k - 7) 0)) (Sha.sm0 (ws.getD (k - 15) 0))) (ws.getD (k - 16) 0) := by unfold Sha.nxt; rw [Hel.out]
          have b0 := Sha.getD_lt hlt64 (k - 2)
          have b2 := Sha.getD_lt hlt64 (k - 15)
          clear hlt64
          generalize ws.getD (k - 2) 0 = x0 at *
          generalize ws.getD (k - 7) 0 = x1 at *
          generalize ws.getD (k - 15) 0 = x2 at *
          generalize ws.getD (k - 16) 0 = x3 at *
          generalize (upto ws).getD k 0 = old at *
          have r1 := Sha.rot_lt x2 7 b2
          have r2 := Sha.rot_lt x2 18 b2
          have q1 := Sha.rot_lt x0 17 b0
          have q2 := Sha.rot_lt x0 19 b0
          have hv0 : bits .xor .u32 (bits .xor .u32 ((Sha.rot x2 7 : Nat) : Int) ((Sha.rot x2 18 : Nat) : Int)) ((x2 : Int) / 8) = ((Sha.sm0 x2 : Nat) : Int) := by
            rw [show ((x2 : Int) / 8) = ((x2 / 8 : Nat) : Int) by simp, u32_xor _ _ r1 r2, u32_xor _ _ (Sha.xor_lt r1 r2) (by omega)]; rfl
          have hv1 : bits .xor .u32 (bits .xor .u32 ((Sha.rot x0 17 : Nat) : Int) ((Sha.rot x0 19 : Nat) : Int)) ((x0 : Int) / 1024) = ((Sha.sm1 x0 : Nat) : Int) := by
            rw [show ((x0 : Int) / 1024) = ((x0 / 1024 : Nat) : Int) by simp, u32_xor _ _ q1 q2, u32_xor _ _ (Sha.xor_lt q1 q2) (by omega)]; rfl
          have p1 : ∀ u, Calls Tryd.prog 45 #[.int .u32 x2, .int .i64 7] u fun e w' => e = .returned (.int .u32 (Sha.rot x2 7 : Nat)) ∧ ∃ k, w' = u.drewN k := fun u => rrot_any x2 7 u b2 (by decide) (by decide)
          have p2 : ∀ u, Calls Tryd.prog 45 #[.int .u32 x2, .int .i64 18] u fun e w' => e = .returned (.int .u32 (Sha.rot x2 18 : Nat)) ∧ ∃ k, w' = u.drewN k := fun u => rrot_any x2 18 u b2 (by decide) (by decide)
          have p3 : ∀ u, Calls Tryd.prog 45 #[.int .u32 x0, .int .i64 17] u fun e w' => e = .returned (.int .u32 (Sha.rot x0 17 : Nat)) ∧ ∃ k, w' = u.drewN k := fun u => rrot_any x0 17 u b0 (by decide) (by decide)
          have p4 : ∀ u, Calls Tryd.prog 45 #[.int .u32 x0, .int .i64 19] u fun e w' => e = .returned (.int .u32 (Sha.rot x0 19 : Nat)) ∧ ∃ k, w' = u.drewN k := fun u => rrot_any x0 19 u b0 (by decide) (by decide)
          generalize Sha.rot x2 7 = ra at *
          generalize Sha.rot x2 18 = rb at *
          generalize Sha.rot x0 17 = rc at *
          generalize Sha.rot x0 19 = rd at *
          have hv : ((((Sha.sm1 x0 : Nat) : Int) + (x1 : Int)) + ((Sha.sm0 x2 : Nat) : Int) + (x3 : Int)) % 4294967296 = ((Sha.nxt ws : Nat) : Int) := by
            rw [hn]; exact Sha.sum4 _ _ _ _
          have hw : IntKind.u32.wrap (IntKind.u32.wrap (IntKind.u32.wrap (((Sha.sm1 x0 : Nat) : Int) + (x1 : Int)) + ((Sha.sm0 x2 : Nat) : Int)) + (x3 : Int)) = ((Sha.nxt ws : Nat) : Int) := by
            rw [u32_add, u32_add, u32_add, hn]; rfl
          have Hw := Lib.hid hw; clear hw
          clear r1 r2 q1 q2
          generalize Sha.sm1 x0 = y1 at *
          generalize Sha.sm0 x2 = y0 at *
          have Hv := Lib.hid hv; clear hv
          have Hn := Lib.hid hn; clear hn
          have Hv0 := Lib.hid hv0; clear hv0
          have Hv1 := Lib.hid hv1; clear hv1
          have P1 := Lib.hid p1; clear p1
          have P2 := Lib.hid p2; clear p2
          have P3 := Lib.hid p3; clear p3
          have P4 := Lib.hid p4; clear p4
          have Hk := Lib.hid hk; clear hk
          have Hkm := Lib.hid hkm; clear hkm
          have i0 : (0 : Int) ≤ (k : Int) := by omega
          have i1 : (k : Int) < 64 := by omega
          have j0 : (0 : Int) ≤ (k : Int) - 2 := by omega
          have j1 : (k : Int) - 2 < 64 := by omega
          have l0 : (0 : Int) ≤ (k : Int) - 7 := by omega
          have l1 : (k : Int) - 7 < 64 := by omega
          have m0 : (0 : Int) ≤ (k : Int) - 15 := by omega
          have m1 : (k : Int) - 15 < 64 := by omega
          have n0 : (0 : Int) ≤ (k : Int) - 16 := by omega
          have n1 : (k : Int) - 16 < 64 := by omega
          have a0 : (2 : Int) ≤ (k : Int) := by omega
          have a1 : (7 : Int) ≤ (k : Int) := by omega
          have a2 : (15 : Int) ≤ (k : Int) := by omega
          have a3 : (16 : Int) ≤ (k : Int) := by omega
          have tk : ((k : Int)).toNat = k := by omega
          have t4 : ((k : Int) - 2).toNat = k - 2 := by omega
          have t5 : ((k : Int) - 7).toNat = k - 7 := by omega
          have t6 : ((k : Int) - 15).toNat = k - 15 := by omega
          have t7 : ((k : Int) - 16).toNat = k - 16 := by omega
          have w0 : IntKind.i64.wrap ((k : Int) - 2) = (k : Int) - 2 := IntWalk.i64_in _ (by omega)
          have w1 : IntKind.i64.wrap ((k : Int) - 7) = (k : Int) - 7 := IntWalk.i64_in _ (by omega)
          have w2 : IntKind.i64.wrap ((k : Int) - 15) = (k : Int) - 15 := IntWalk.i64_in _ (by omega)
          have w3 : IntKind.i64.wrap ((k : Int) - 16) = (k : Int) - 16 := IntWalk.i64_in _ (by omega)
          go_wp2
          go_quiet ((first | (with_reducible exact Calls.quiet_of (P1.out _)) | (with_reducible exact Calls.quiet_of (P2.out _))))
          have hv := Hv0.out
          go_wp2
          rw [hv]
          clear hv P1 P2
          have c0' : (wr.drewN nq).cell? ⟨w.heap.size, k - 2, none⟩ = some (.int .u32 (x0 : Nat)) := c0
          have c1' : (wr.drewN nq).cell? ⟨w.heap.size, k - 7, none⟩ = some (.int .u32 (x1 : Nat)) := c1
          have c3' : (wr.drewN nq).cell? ⟨w.heap.size, k - 16, none⟩ = some (.int .u32 (x3 : Nat)) := c3
          have hf' : (wr.drewN nq).frozen? ⟨w.heap.size, k, none⟩ = false := hf
          have ho' : (wr.drewN nq).cell? ⟨w.heap.size, k, none⟩ = some (.int .u32 (old : Nat)) := ho
          have hrow' : (wr.drewN nq).heap[w.heap.size]? = some (.cells (u32s (upto ws)) 51 (0, 0)) := Hrow.out
          have hbel' : Below w.heap.size w (wr.drewN nq) := drewN_below Hbel.out _
          have Hrow' := Lib.hid hrow'; clear hrow'
          have Hbel' := Lib.hid hbel'; clear hbel'
          clear c0 c1 c2 c3 hf ho Hrow Hbel
          generalize wr.drewN nq = w4 at *
          go_quiet ((first | (with_reducible exact Calls.quiet_of (P3.out _)) | (with_reducible exact Calls.quiet_of (P4.out _))))
          have hv := Hv1.out
          go_wp2
          rw [hv]
          clear hv P3 P4
          have c0 : (w4.drewN nq).cell? ⟨w.heap.size, k - 2, none⟩ = some (.int .u32 (x0 : Nat)) := c0'
          have c1 : (w4.drewN nq).cell? ⟨w.heap.size, k - 7, none⟩ = some (.int .u32 (x1 : Nat)) := c1'
          have c3 : (w4.drewN nq).cell? ⟨w.heap.size, k - 16, none⟩ = some (.int .u32 (x3 : Nat)) := c3'
          have hf : (w4.drewN nq).drew.frozen? ⟨w.heap.size, k, none⟩ = false := hf'
          have ho : (w4.drewN nq).drew.cell? ⟨w.heap.size, k, none⟩ = some (.int .u32 (old : Nat)) := ho'
          have hrow : (w4.drewN nq).drew.heap[w.heap.size]? = some (.cells (u32s (upto ws)) 51 (0, 0)) := Hrow'.out
          have hbel : Below w.heap.size w (w4.drewN nq).drew := (drewN_below Hbel'.out _).drew
          have Hrow := Lib.hid hrow; clear hrow
          have Hbel := Lib.hid hbel; clear hbel
          clear c0' c1' c3' hf' ho' Hrow' Hbel'
          generalize w4.drewN nq = w5 at *
          go_still_tail 18, (by kernel_rfl)
          change wpList _ _ _ _ _ w5.drew
          clear c0 c1 c3
          generalize w5.drew = w6 at *
          rw [Hw.out]
          clear w0 w1 w2 w3 t4 t5 t6 t7 tk
          go_wp2
          go_roundw
          case rel =>
            have h1 := Hk.out
            have h2 := Hel.out
            refine ⟨m + 1, by omega, by rw [h1]; go_num, ?_, ?_⟩
            · rw [Hxs.out]
              have h := row_set32 Hrow.out k (Sha.nxt ws)
              have e := upto_set ws (Sha.nxt ws) (by omega)
              rw [h2] at e
              rw [e] at h
              exact h
            · exact Hbel.out.setCell (p := ⟨w.heap.size, k, none⟩) (by simp) _
          case measure => simp [intOf]; omega
        · obtain rfl : k = 64 := by omega
          obtain rfl : m = 48 := by omega
          have hws : ws = Sha.sched bs := Hws.out rfl
          rw [upto_full ws Hel.out, hws] at Hrow
          rw [show ((64 : Nat) : Int) = 64 from rfl]
          clear hws Hws Hxs Hel hlt64
          go_wp2
          go_ret
          exact ⟨rfl, Num.of_row Hrow.out, row_lt Hrow.out, Hbel.out⟩
end Go.Proofs.YtdlcdbpigcmnbaaDoor
