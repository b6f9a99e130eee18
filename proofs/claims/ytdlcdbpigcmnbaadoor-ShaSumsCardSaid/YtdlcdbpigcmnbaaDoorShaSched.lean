/-
  What schedule returns: the 64 words of a block.
-/
import Derived.Test.YtdlcdbpigcmnbaaDoorShaBits
import Derived.Test.YtdlcdbpigcmnbaaDoorGoRow
import Derived.Deep.RegionHeld3
import Derived.StillTailTactics
import Derived.Outline
set_option linter.unusedVariables false
namespace Go.Proofs.YtdlcdbpigcmnbaaDoor
open Go.RowKit

theorem zero73 : ∀ w, (zeroValue 73).run Tryd.prog w = .ok (.agg (u32s (nils 64))) w := fun _ => by kernel_rfl

/-- the words that are there, and zeros behind them -/
def upto (ws : List Nat) : List Nat := ws ++ nils (64 - ws.length)
theorem upto_length (ws : List Nat) (h : ws.length ≤ 64) : (upto ws).length = 64 := by simp [upto]; omega
theorem upto_nil : upto [] = nils 64 := rfl
theorem upto_set (ws : List Nat) (x : Nat) (h : ws.length < 64) : (upto ws).set ws.length x = upto (ws ++ [x]) := by
  unfold upto nils
  rw [List.set_append_right _ _ (Nat.le_refl _), Nat.sub_self]
  obtain ⟨m, hm⟩ : ∃ m, 64 - ws.length = m + 1 := ⟨63 - ws.length, by omega⟩
  rw [hm, List.replicate_succ, List.set_cons_zero, List.length_append, List.length_singleton, show 64 - (ws.length + 1) = m by omega]
  simp
theorem upto_get (ws : List Nat) (j : Nat) (h : j < ws.length) : (upto ws).getD j 0 = ws.getD j 0 := by
  simp [upto, List.getD_eq_getElem?_getD, List.getElem?_append_left h]
theorem upto_full (ws : List Nat) (h : ws.length = 64) : upto ws = ws := by simp [upto, h, nils]

theorem wr_one (a : Nat) (h : a < 4294967296) : IntKind.u32.wrap (a : Int) = (a : Int) := by rw [u32_wrap, Nat.mod_eq_of_lt h]
theorem wr_mul (a m : Nat) (ha : a < 4294967296) (h : a * m < 4294967296) : IntKind.u32.wrap (IntKind.u32.wrap (a : Int) * (m : Int)) = ((a * m : Nat) : Int) := by
  rw [wr_one a ha, show (a : Int) * (m : Int) = ((a * m : Nat) : Int) by simp, wr_one _ h]
theorem be4_val (a b c d : Nat) (ha : a < 256) (hb : b < 256) (hc : c < 256) (hd : d < 256) :
    bits .or .u32 (bits .or .u32 (bits .or .u32 (IntKind.u32.wrap (IntKind.u32.wrap (a : Int) * 16777216)) (IntKind.u32.wrap (IntKind.u32.wrap (b : Int) * 65536))) (IntKind.u32.wrap (IntKind.u32.wrap (c : Int) * 256))) (IntKind.u32.wrap (d : Int)) = ((Sha.be4 a b c d : Nat) : Int) := by
  have h1 := Sha.up24 a ha
  have h2 := Sha.up16 b hb
  have h3 := Sha.up8 c hc
  have e1 := wr_mul a 16777216 (by omega) h1
  have e2 := wr_mul b 65536 (by omega) h2
  have e3 := wr_mul c 256 (by omega) h3
  rw [show ((16777216 : Nat) : Int) = 16777216 from rfl] at e1
  rw [show ((65536 : Nat) : Int) = 65536 from rfl] at e2
  rw [show ((256 : Nat) : Int) = 256 from rfl] at e3
  rw [e1, e2, e3, wr_one d (by omega), u32_or _ _ h1 h2, u32_or _ _ (Sha.or_lt h1 h2) h3, u32_or _ _ (Sha.or_lt (Sha.or_lt h1 h2) h3) (by omega)]
  rfl

set_option maxRecDepth 100000 in
set_option maxHeartbeats 1000000 in
theorem sched_any (c : Nat) (T : TypeId) (fr : Nat × Nat) (bs : List UInt8) (w : World) (hb : w.heap[c]? = some (.cells (u8s bs) T fr)) (hlen : bs.length = 64) :
    Calls Tryd.prog 37 #[.pointer (some ⟨c, 0, none⟩)] w fun e w' => e = .returned (.agg (u32s (Sha.sched bs))) ∧ Below w.heap.size w w' := by
  have hz := zero73
  have hcl := row_lt hb
  have Hb := Lib.hid hb; clear hb
  have Hlen := Lib.hid hlen; clear hlen
  go_enter Tryd.func37, Tryd.ntmps37
  go_wp2
  go_loopw [7] (fun i wr => ∃ k : Nat, k ≤ 16 ∧ i = .int .i64 k ∧ wr.heap[w.heap.size + 1]? = some (.cells (u32s (upto (Sha.first bs k))) 73 (0, 0)) ∧ (∃ cs : Array Value, cs.size = 64 ∧ wr.heap[w.heap.size]? = some (.cells cs 73 (0, 0))) ∧ Below w.heap.size w wr) (fun i _ => 16 - (intOf i).toNat)
  case atStart => exact ⟨0, by omega, rfl, heap_alloc2_new _ _ _, ⟨_, by rw [u32s_size, nils_length], heap_alloc2_old _ _ _⟩, ((Below.refl _ w).alloc (Nat.le_refl _) _).alloc (by simp) _⟩
  case round =>
    obtain ⟨k, hk, rfl, hrow, hres, hbel⟩ := hrel
    have Hrow := Lib.hid hrow; clear hrow
    have Hbel := Lib.hid hbel; clear hbel
    have Hres := Lib.hid hres; clear hres
    by_cases hlt : k < 16
    · have hcr := row_below Hb.out Hbel.out hcl
      have hl := Hlen.out
      have c0 := row_u8 hcr (4 * k) (by omega)
      have c1 := row_u8 hcr (4 * k + 1) (by omega)
      have c2 := row_u8 hcr (4 * k + 2) (by omega)
      have c3 := row_u8 hcr (4 * k + 3) (by omega)
      clear hcr hl
      have b0 := (bs.getD (4 * k) 0).toNat_lt
      have b1 := (bs.getD (4 * k + 1) 0).toNat_lt
      have b2 := (bs.getD (4 * k + 2) 0).toNat_lt
      have b3 := (bs.getD (4 * k + 3) 0).toNat_lt
      have hw : Sha.word bs k = Sha.be4 (bs.getD (4 * k) 0).toNat (bs.getD (4 * k + 1) 0).toNat (bs.getD (4 * k + 2) 0).toNat (bs.getD (4 * k + 3) 0).toNat := rfl
      generalize (bs.getD (4 * k) 0).toNat = x0 at *
      generalize (bs.getD (4 * k + 1) 0).toNat = x1 at *
      generalize (bs.getD (4 * k + 2) 0).toNat = x2 at *
      generalize (bs.getD (4 * k + 3) 0).toNat = x3 at *
      have hv := be4_val x0 x1 x2 x3 b0 b1 b2 b3
      rw [← hw] at hv
      have Hv := Lib.hid hv; clear hv
      have Hw := Lib.hid hw; clear hw
      have hf := row_free Hrow.out k
      have ho : wr.cell? ⟨w.heap.size + 1, k, none⟩ = some (.int .u32 ((upto (Sha.first bs k)).getD k 0 : Nat)) := row_u32 Hrow.out k (by rw [upto_length _ (by rw [Sha.first_length]; omega)]; omega)
      generalize (upto (Sha.first bs k)).getD k 0 = old at *
      have kc : ∀ (u : World) (j : Nat) (v x : Value), u.cell? ⟨c, j, none⟩ = some x → (u.setCell ⟨w.heap.size + 1, k, none⟩ v).drew.cell? ⟨c, j, none⟩ = some x := fun u j v x h => by
        show (u.setCell ⟨w.heap.size + 1, k, none⟩ v).cell? ⟨c, j, none⟩ = some x
        rw [World.cell?_setCell_other _ _ _ _ (by intro e; have := (Addr.mk.inj e).1; omega)]; exact h
      have Kc := Lib.hid kc; clear kc
      have i0 : (0 : Int) ≤ (k : Int) := by omega
      have i1 : (k : Int) < 64 := by omega
      have j0 : (0 : Int) ≤ 4 * (k : Int) := by omega
      have j1 : 4 * (k : Int) < 64 := by omega
      have l0 : (0 : Int) ≤ 4 * (k : Int) + 1 := by omega
      have l1 : 4 * (k : Int) + 1 < 64 := by omega
      have m0 : (0 : Int) ≤ 4 * (k : Int) + 2 := by omega
      have m1 : 4 * (k : Int) + 2 < 64 := by omega
      have n0 : (0 : Int) ≤ 4 * (k : Int) + 3 := by omega
      have n1 : 4 * (k : Int) + 3 < 64 := by omega
      have tk : ((k : Int)).toNat = k := by omega
      have t4 : (4 * (k : Int)).toNat = 4 * k := by omega
      have t5 : (4 * (k : Int) + 1).toNat = 4 * k + 1 := by omega
      have t6 : (4 * (k : Int) + 2).toNat = 4 * k + 2 := by omega
      have t7 : (4 * (k : Int) + 3).toNat = 4 * k + 3 := by omega
      have w1 : IntKind.i64.wrap (4 * (k : Int) + 1) = 4 * (k : Int) + 1 := IntWalk.i64_in _ (by omega)
      have w2 : IntKind.i64.wrap (4 * (k : Int) + 2) = 4 * (k : Int) + 2 := IntWalk.i64_in _ (by omega)
      have w3 : IntKind.i64.wrap (4 * (k : Int) + 3) = 4 * (k : Int) + 3 := IntWalk.i64_in _ (by omega)
      go_wp2
      go_region_held3 (fun w' => w'.cell? ⟨c, 4 * k, none⟩ = some (.int .u8 x0) ∧ w'.cell? ⟨c, 4 * k + 1, none⟩ = some (.int .u8 x1) ∧ w'.cell? ⟨c, 4 * k + 2, none⟩ = some (.int .u8 x2) ∧ w'.cell? ⟨c, 4 * k + 3, none⟩ = some (.int .u8 x3)) (first | exact ⟨Kc.out _ _ _ _ c0, Kc.out _ _ _ _ c1, Kc.out _ _ _ _ c2, Kc.out _ _ _ _ c3⟩ | exact ⟨c0, c1, c2, c3⟩ | go_keep) (fail)
      clear w1 w2 w3 t4 t5 t6 t7 tk
      rw [Hv.out]
      go_wp2
      go_roundw
      case rel =>
        refine ⟨k + 1, by omega, by go_num, ?_, ?_, (Hbel.out.setCell (p := ⟨w.heap.size + 1, k, none⟩) (by simp) _).drew⟩
        · have h := row_set32 Hrow.out k (Sha.word bs k)
          have e := upto_set (Sha.first bs k) (Sha.word bs k) (by rw [Sha.first_length]; omega)
          rw [Sha.first_length] at e
          rw [e, ← Sha.first_succ] at h
          exact h
        · obtain ⟨cs, hs, h⟩ := Hres.out
          exact ⟨cs, hs, (heap_setCell_other _ _ _ _ (by simp)).trans h⟩
      case measure => simp [intOf]; omega
    · obtain rfl : k = 16 := by omega
      rw [show ((16 : Nat) : Int) = 16 from rfl]
      go_wp2
      have r0 := Hrow.out
      have r1 := Hbel.out
      have r2 := Hres.out
      clear Hrow Hbel Hres
      go_loopw [6] (fun i ws => ∃ m : Nat, m ≤ 48 ∧ i = .int .i64 ((16 + m : Nat) : Int) ∧ ws.heap[w.heap.size + 1]? = some (.cells (u32s (upto (Sha.ext (Sha.first bs 16) m))) 73 (0, 0)) ∧ (∃ cs : Array Value, cs.size = 64 ∧ ws.heap[w.heap.size]? = some (.cells cs 73 (0, 0))) ∧ Below w.heap.size w ws) (fun i _ => 64 - (intOf i).toNat)
      case atStart => exact ⟨0, by omega, rfl, r0, r2, r1⟩
      case round =>
        clear r0 r1 r2
        obtain ⟨m, hm, rfl, hrow, hres, hbel⟩ := hrel
        have Hrow := Lib.hid hrow; clear hrow
        have Hbel := Lib.hid hbel; clear hbel
        have Hres := Lib.hid hres; clear hres
        have hel : (Sha.ext (Sha.first bs 16) m).length = 16 + m := by rw [Sha.ext_length, Sha.first_length]
        have Hel := Lib.hid hel; clear hel
        have hxs : Sha.ext (Sha.first bs 16) (m + 1) = Sha.ext (Sha.first bs 16) m ++ [Sha.nxt (Sha.ext (Sha.first bs 16) m)] := rfl
        have hlt64 := Sha.ext_lt (Sha.first_lt bs 16) m
        have Hxs := Lib.hid hxs; clear hxs
        obtain ⟨k, hk⟩ : ∃ k, k = 16 + m := ⟨_, rfl⟩
        have hkm : m = k - 16 := by omega
        have hk16 : 16 ≤ k := by omega
        have hk64 : k ≤ 64 := by omega
        rw [← hk] at Hel ⊢
        have hws : m = 48 → Sha.ext (Sha.first bs 16) m = Sha.sched bs := fun e => by rw [e]; rfl
        generalize Sha.ext (Sha.first bs 16) m = ws at *
        have Hws := Lib.hid hws; clear hws
        by_cases hlt : k < 64
        · have hul := upto_length ws (by rw [Hel.out]; omega)
          have c0 := row_u32 Hrow.out (k - 2) (by omega)
          have c1 := row_u32 Hrow.out (k - 7) (by omega)
          have c2 := row_u32 Hrow.out (k - 15) (by omega)
          have c3 := row_u32 Hrow.out (k - 16) (by omega)
          rw [upto_get _ _ (by rw [Hel.out]; omega)] at c0 c1 c2 c3
          have hf := row_free Hrow.out k
          have ho := row_u32 Hrow.out k (by omega)
          clear hul
          have hn : Sha.nxt ws = Sha.ad (Sha.ad (Sha.ad (Sha.sm1 (ws.getD (k - 2) 0)) (ws.getD (k - 7) 0)) (Sha.sm0 (ws.getD (k - 15) 0))) (ws.getD (k - 16) 0) := by unfold Sha.nxt; rw [Hel.out]
          have b0 := Sha.getD_lt hlt64 (k - 2)
          have b2 := Sha.getD_lt hlt64 (k - 15)
          clear hlt64
          generalize ws.getD (k - 2) 0 = x0 at *
          generalize ws.getD (k - 7) 0 = x1 at *
          generalize ws.getD (k - 15) 0 = x2 at *
          generalize ws.getD (k - 16) 0 = x3 at *
          generalize (upto ws).getD k 0 = old at *
          have s1 := fun u => sm1_any x0 u b0
          have s0 := fun u => sm0_any x2 u b2
          generalize Sha.sm1 x0 = y1 at *
          generalize Sha.sm0 x2 = y0 at *
          have hv : IntKind.u32.wrap (IntKind.u32.wrap (IntKind.u32.wrap ((y1 : Int) + (x1 : Int)) + (y0 : Int)) + (x3 : Int)) = ((Sha.nxt ws : Nat) : Int) := by
            rw [u32_add, u32_add, u32_add, hn]; rfl
          have Hv := Lib.hid hv; clear hv
          have Hn := Lib.hid hn; clear hn
          have S1 := Lib.hid s1; clear s1
          have S0 := Lib.hid s0; clear s0
          have kc : ∀ (u : World) (j : Nat) (v x : Value), j ≠ k → u.cell? ⟨w.heap.size + 1, j, none⟩ = some x → (u.setCell ⟨w.heap.size + 1, k, none⟩ v).cell? ⟨w.heap.size + 1, j, none⟩ = some x := fun u j v x hne h => by
            rw [World.cell?_setCell_other _ _ _ _ (by intro e; exact hne (Addr.mk.inj e).2.1.symm)]; exact h
          have Kc := Lib.hid kc; clear kc
          have Hk := Lib.hid hk; clear hk
          have Hkm := Lib.hid hkm; clear hkm
          have i0 : (0 : Int) ≤ (k : Int) := by omega
          have i1 : (k : Int) < 64 := by omega
          have j0 : (0 : Int) ≤ (k : Int) - 2 := by omega
          have j1 : (k : Int) - 2 < 64 := by omega
          have l0 : (0 : Int) ≤ (k : Int) - 7 := by omega
          have l1 : (k : Int) - 7 < 64 := by omega
          have m0 : (0 : Int) ≤ (k : Int) - 15 := by omega
          have m1 : (k : Int) - 15 < 64 := by omega
          have n0 : (0 : Int) ≤ (k : Int) - 16 := by omega
          have n1 : (k : Int) - 16 < 64 := by omega
          have a0 : (2 : Int) ≤ (k : Int) := by omega
          have a1 : (7 : Int) ≤ (k : Int) := by omega
          have a2 : (15 : Int) ≤ (k : Int) := by omega
          have a3 : (16 : Int) ≤ (k : Int) := by omega
          have tk : ((k : Int)).toNat = k := by omega
          have t4 : ((k : Int) - 2).toNat = k - 2 := by omega
          have t5 : ((k : Int) - 7).toNat = k - 7 := by omega
          have t6 : ((k : Int) - 15).toNat = k - 15 := by omega
          have t7 : ((k : Int) - 16).toNat = k - 16 := by omega
          have w0 : IntKind.i64.wrap ((k : Int) - 2) = (k : Int) - 2 := IntWalk.i64_in _ (by omega)
          have w1 : IntKind.i64.wrap ((k : Int) - 7) = (k : Int) - 7 := IntWalk.i64_in _ (by omega)
          have w2 : IntKind.i64.wrap ((k : Int) - 15) = (k : Int) - 15 := IntWalk.i64_in _ (by omega)
          have w3 : IntKind.i64.wrap ((k : Int) - 16) = (k : Int) - 16 := IntWalk.i64_in _ (by omega)
          have g0 : k - 2 ≠ k := by omega
          have g1 : k - 7 ≠ k := by omega
          have g2 : k - 15 ≠ k := by omega
          have g3 : k - 16 ≠ k := by omega
          have G0 := Lib.hid g0; clear g0
          have G1 := Lib.hid g1; clear g1
          have G2 := Lib.hid g2; clear g2
          have G3 := Lib.hid g3; clear g3
          go_wp2
          go_region_held3 (fun w' => w'.cell? ⟨w.heap.size + 1, k - 2, none⟩ = some (.int .u32 x0) ∧ w'.cell? ⟨w.heap.size + 1, k - 7, none⟩ = some (.int .u32 x1) ∧ w'.cell? ⟨w.heap.size + 1, k - 15, none⟩ = some (.int .u32 x2) ∧ w'.cell? ⟨w.heap.size + 1, k - 16, none⟩ = some (.int .u32 x3)) (first | exact ⟨Kc.out _ _ _ _ G0.out c0, Kc.out _ _ _ _ G1.out c1, Kc.out _ _ _ _ G2.out c2, Kc.out _ _ _ _ G3.out c3⟩ | exact ⟨c0, c1, c2, c3⟩ | go_keep) (first | (go_at_call 48; refine (S1.out _).mono ?_; rintro e w1 ⟨rfl, k1, rfl⟩) | (go_at_call 49; refine (S0.out _).mono ?_; rintro e w1 ⟨rfl, k1, rfl⟩))
          clear w0 w1 w2 w3 t4 t5 t6 t7 tk
          rw [Hv.out]
          go_wp2
          go_roundw
          case rel =>
            have h1 := Hk.out
            have h2 := Hel.out
            refine ⟨m + 1, by omega, by rw [h1]; go_num, ?_, ?_, ?_⟩
            · rw [Hxs.out]
              have h := row_set32 Hrow.out k (Sha.nxt ws)
              have e := upto_set ws (Sha.nxt ws) (by omega)
              rw [h2] at e
              rw [e] at h
              exact h
            · obtain ⟨cs, hs, h⟩ := Hres.out
              exact ⟨cs, hs, (heap_setCell_other _ _ _ _ (by simp)).trans h⟩
            · exact (drewN_below Hbel.out _).setCell (p := ⟨w.heap.size + 1, k, none⟩) (by simp) _
          case measure => simp [intOf]; omega
        · obtain rfl : k = 64 := by omega
          obtain rfl : m = 48 := by omega
          have hws : ws = Sha.sched bs := Hws.out rfl
          obtain ⟨cs, hs, hr⟩ := Hres.out
          rw [upto_full ws Hel.out] at Hrow
          have hi64 : (Tryd.prog.info? 73).map (·.size) = some 64 := by kernel_rfl
          have hsz : (Tryd.prog.info? 73).map (·.size) = some (u32s ws).size := by rw [u32s_size, Hel.out]; exact hi64
          have hss : cs.size = (u32s ws).size := by rw [u32s_size, Hel.out]; exact hs
          have Hw2 := Lib.hid hws; clear hws
          have Hr := Lib.hid hr; clear hr
          have Hsz := Lib.hid hsz; clear hsz
          have Hss := Lib.hid hss; clear hss
          clear hs hi64 hk hk16 hk64 hlt hm hkm hlt64
          go_wp2_with (first | (with_reducible refine wpList_load_row rfl 73 (.tmp 3) rfl (w.heap.size + 1) rfl _ (u32s ws) _ _ Hrow.out Tryd.underlying73 rfl Hsz.out ?_) | (with_reducible refine wpList_store_whole rfl 73 (.tmp 2) (.tmp 75) rfl w.heap.size (u32s ws) rfl rfl _ cs Hr.out Hsz.out Hss.out (u32s_one ws) ?_))
          refine bodyPost_ret (v := .agg (u32s ws)) (results_cell_row (P := Tryd.prog) rfl _ _ w.heap.size _ (u32s ws) (0, 0) _ rfl (setRow_heap _ _ cs _ _ _ Hr.out) Tryd.underlying73 rfl Hsz.out) rfl ?_
          exact ⟨by rw [Hw2.out], below_setRow Hbel.out (Nat.le_refl _) _⟩
end Go.Proofs.YtdlcdbpigcmnbaaDoor
