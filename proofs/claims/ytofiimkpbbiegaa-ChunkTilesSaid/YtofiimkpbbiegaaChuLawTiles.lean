/-
  ChunkTiles: the pieces are the text, each has at most Max bytes, each but the last one at least Min, no more are there than Most tells, and each cut that is less than Max bytes behind the one ahead is a mark, but the text's end: for every cutter, every text.
  Conditions: none.
-/
import Derived.Test.YtofiimkpbbiegaaChuAlive
import Derived.Test.YtofiimkpbbiegaaChuLawP
import Derived.Test.YtofiimkpbbiegaaChuTil
import Derived.Test.YtofiimkpbbiegaaChuArg
import Derived.BigQuiet
import Derived.StillTailTactics
import Derived.ProofKit
import Derived.OpenShut
import Derived.ShutString
import Derived.ChangeOld
import Derived.SizedLaws
namespace Go.Proofs.Ytofiimkpbbiegaa.chunkTiles
open Go.ChangeShapes Go.WideShapes Go.ChangeAt Go.RowKit
open Go.ChangeMaps (open_string shut_string)
set_option linter.unusedVariables false
set_option maxRecDepth 100000

theorem own : ownKnob Try.prog.godebug = none := by kernel_rfl
theorem laidOut : laidOutB Try.prog = true := by kernel_rfl
theorem nothing (s : ByteArray) (h : s.size = 0) : s = ⟨#[]⟩ := by
  obtain ⟨a⟩ := s
  rw [Array.eq_empty_of_size_eq_zero (show a.size = 0 from h)]

theorem most_ge {c : Ctr} (h : c.May) (s : ByteArray) : ((c.texts s).length : Int) ≤ c.most s.size := by
  obtain ⟨h1, h2, _, _, _⟩ := h.nat
  have hl : (c.texts s).length = (c.ends s.data.toList).length := by
    unfold Ctr.texts Ctr.cut
    rw [pcTexts_length, Chu.pcs_length]
  have hm := Chu.ends_most (mk := c.isMk s.data.toList) (len := s.data.toList.length) h1 h2 s.data.toList.length 0 (Nat.zero_le _)
  rw [← Ctr.ends_is, ← hl, ba_len] at hm
  unfold Ctr.most
  obtain ⟨m, hmn⟩ : ∃ m : Nat, c.mn = (m : Int) := ⟨c.mn.toNat, by omega⟩
  rw [hmn] at h1 hm ⊢
  simp only [Int.toNat_natCast] at h1 hm
  generalize (c.texts s).length = n at *
  generalize s.size = z at *
  have hd := Nat.div_add_mod z m
  have hr := Nat.mod_lt z h1
  have e1 : (z : Int) / (m : Int) = ((z / m : Nat) : Int) := by omega
  have e2 : (z : Int) % (m : Int) = ((z % m : Nat) : Int) := by omega
  rw [e1, e2]
  generalize z / m = q at *
  generalize z % m = r at *
  have hqm : m * q = q * m := Nat.mul_comm _ _
  by_cases h0 : (0 : Int) < (r : Int)
  · rw [if_pos h0]
    rcases Nat.lt_or_ge n (q + 2) with g | g
    · omega
    · have := Nat.mul_le_mul_right m g
      rw [Nat.add_mul] at this
      omega
  · rw [if_neg h0]
    rcases Nat.lt_or_ge n (q + 1) with g | g
    · omega
    · have := Nat.mul_le_mul_right m g
      rw [Nat.add_mul] at this
      omega

set_option maxHeartbeats 2000000 in
theorem walk (c0 : Ctr) (s1 : ByteArray) (w : World) (wc0 : c0.Wf) (z1 : s1.size ≤ 140737488351232) :
    Calls Try.prog 4 #[c0.v, .string s1] w fun e w' => e = .returned (.bool true) ∧ Below w.heap.size w w' := by
  have hbw := box_below w (.cells #[.int .u64 c0.p, .int .i64 c0.n, .int .i64 c0.mn, .int .i64 c0.mx, .int .i64 c0.b] 24)
  have hrow := CtrAt.box c0 w
  have Hbw := Lib.hid hbw; clear hbw
  by_cases hl : 3000 < s1.size
  · have hd : decide ((3000 : Int) < (s1.size : Int)) = true := decide_eq_true (by omega)
    unfold Ctr.v
    clear hrow
    go_enter Try.func4, Try.ntmps4
    go_wp2_with fail
    refine (chuAlive_any _).mono ?_; rintro e w1 ⟨rfl, hb1⟩
    have hbe := Hbw.out.trans (hb1.mono Hbw.out.size)
    have Hbe := Lib.hid hbe; clear hbe hb1
    go_wp2_with fail
    go_ret
    exact ⟨rfl, Hbe.out⟩
  have hd : decide ((3000 : Int) < (s1.size : Int)) = false := decide_eq_false (by omega)
  have c1 := fun u => chTexts_any c0 wc0.p s1 (by omega) u
  have c2 := fun u => chMarks_any c0 wc0.p s1 (by omega) u
  have c3 := fun u => most_any c0 wc0.p (s1.size : Int) (by omega) u
  by_cases hm : c0.May
  rotate_left
  · simp only [if_neg hm] at c1 c2
    simp only [if_neg (fun h => hm h.1 : ¬ (c0.May ∧ 0 ≤ (s1.size : Int)))] at c3
    unfold Ctr.v at *
    have C1 := Lib.hid c1; clear c1
    have C2 := Lib.hid c2; clear c2
    have C3 := Lib.hid c3; clear c3
    clear hm
    have e0 := hrow.c0
    have e1 := hrow.c1
    have e2 := hrow.c2
    have e3 := hrow.c3
    have e4 := hrow.c4
    have Hrow := Lib.hid hrow; clear hrow
    go_enter Try.func4, Try.ntmps4
    go_wp2_with fail
    refine (C1.out _).mono ?_; rintro e w1 ⟨h1, rfl⟩
    have hrow1 := Hrow.out.new h1
    have Hb1 := Lib.hid (Hbw.out.trans (h1.mono Hbw.out.size)); clear h1
    clear e0 e1 e2 e3 e4
    have e0 := hrow1.c0
    have e1 := hrow1.c1
    have e2 := hrow1.c2
    have e3 := hrow1.c3
    have e4 := hrow1.c4
    have Hrow1 := Lib.hid hrow1; clear hrow1
    go_wp2_with fail
    refine (C2.out _).mono ?_; rintro e w2 ⟨h2, rfl⟩
    have hrow2 := Hrow1.out.new h2
    have Hb2 := Lib.hid (Hb1.out.trans (h2.mono Hb1.out.size)); clear h2
    clear e0 e1 e2 e3 e4
    have e0 := hrow2.c0
    have e1 := hrow2.c1
    have e2 := hrow2.c2
    have e3 := hrow2.c3
    have e4 := hrow2.c4
    clear hrow2
    go_wp2_with fail
    refine (C3.out _).mono ?_; rintro e w3 ⟨rfl, h3⟩
    have Hb3 := Lib.hid (Hb2.out.trans (h3.mono Hb2.out.size)); clear h3
    clear e0 e1 e2 e3 e4
    go_wp2_with fail
    refine (chuAlive_any _).mono ?_; rintro e w4 ⟨rfl, h4⟩
    have Hb4 := Lib.hid (Hb3.out.trans (h4.mono Hb3.out.size)); clear h4
    go_wp2_with fail
    go_ret
    exact ⟨rfl, Hb4.out⟩
  · simp only [if_pos hm] at c1 c2
    simp only [if_pos (⟨hm, by omega⟩ : c0.May ∧ 0 ≤ (s1.size : Int))] at c3
    have htil := til_is hm s1
    have hmost := most_ge hm s1
    have hl1 : (c0.texts s1).length ≤ s1.size := by unfold Ctr.texts; rw [pcTexts_length, ← ba_len]; exact Ctr.cut_len hm _
    have hl2 : (c0.marks s1.data.toList).length ≤ s1.size := by unfold Ctr.marks; rw [ba_len]; exact Nat.le_trans (Chu.mks_length _ _ _) (by omega)
    have hmn : (c0.mn.toNat : Int) = c0.mn := by have := hm.1.2.1; have := hm.2.1; omega
    have hmx : (c0.mx.toNat : Int) = c0.mx := by have := hm.2.2.1.1; omega
    have hml : ∀ x ∈ c0.marks s1.data.toList, x ≤ s1.size := fun x hx => by
      unfold Ctr.marks at hx
      rw [ba_len, Chu.mks_mem] at hx
      omega
    generalize c0.mn.toNat = mn at *
    generalize c0.mx.toNat = mx at *
    generalize c0.marks s1.data.toList = M at *
    generalize c0.most (s1.size : Int) = MO at *
    generalize c0.texts s1 = L at *
    generalize hT : tot L = T at *
    generalize hP : (fun i => s1.extract 0 (T i)) = P at *
    obtain ⟨n, hn⟩ : ∃ n, n = L.length := ⟨_, rfl⟩
    obtain ⟨nm, hnm⟩ : ∃ nm, nm = M.length := ⟨_, rfl⟩
    unfold TxR at c1
    simp only [← hn] at c1 htil hl1 hmost
    simp only [← hnm] at htil hl2
    have hget := fun (u : World) (g : Nat) (h : u.heap[g]? = some (.cells (L.map Value.string).toArray 9 (0, 0))) j (hj : j < n) => TRd.cell (L := L) h j (by rw [← hn]; exact hj)
    generalize hD : (fun i => L.getD i .empty) = D at *
    have hD' : ∀ i, L.getD i .empty = D i := fun i => by rw [← hD]
    simp only [hD'] at hget
    have hml2 : ∀ j, j < nm → M.getD j 0 ≤ s1.size := fun j hj => by
      rw [List.getD_eq_getElem?_getD, List.getElem?_eq_getElem (by omega)]; exact hml _ (List.getElem_mem _)
    clear hT hP hD hD' hml
    unfold Ctr.v at *
    have C1 := Lib.hid c1; clear c1
    have C2 := Lib.hid c2; clear c2
    have C3 := Lib.hid c3; clear c3
    have Htil := Lib.hid htil; clear htil
    have Hget := Lib.hid hget; clear hget
    have Hn := Lib.hid hn; clear hn
    have Hnm := Lib.hid hnm; clear hnm
    have Hml := Lib.hid hml2; clear hml2
    have Hmn := Lib.hid hmn; clear hmn
    have Hmx := Lib.hid hmx; clear hmx
    have Hmost := Lib.hid hmost; clear hmost
    clear hm
    have e0 := hrow.c0
    have e1 := hrow.c1
    have e2 := hrow.c2
    have e3 := hrow.c3
    have e4 := hrow.c4
    have Hrow := Lib.hid hrow; clear hrow
    go_enter Try.func4, Try.ntmps4
    go_wp2_with fail
    refine (C1.out _).mono ?_; rintro e w1 ⟨h1, g, hg1, rfl, hr1⟩
    have hrow1 := Hrow.out.new h1
    have Hb1 := Lib.hid (Hbw.out.trans (h1.mono Hbw.out.size)); clear h1
    clear e0 e1 e2 e3 e4
    have e0 := hrow1.c0
    have e1 := hrow1.c1
    have e2 := hrow1.c2
    have e3 := hrow1.c3
    have e4 := hrow1.c4
    have Hrow1 := Lib.hid hrow1; clear hrow1
    have Hr1 := Lib.hid hr1; clear hr1 hg1
    go_wp2_with fail
    refine (C2.out _).mono ?_; rintro e w2 ⟨h2, v, rfl, hv⟩
    have hrow2 := Hrow1.out.new h2
    have hr2 : w2.heap[g]? = some (.cells (L.map Value.string).toArray 9 (0, 0)) := by rw [h2.block _ (row_lt Hr1.out)]; exact Hr1.out
    have Hb2 := Lib.hid (Hb1.out.trans (h2.mono Hb1.out.size)); clear h2
    clear e0 e1 e2 e3 e4
    have e0 := hrow2.c0
    have e1 := hrow2.c1
    have e2 := hrow2.c2
    have e3 := hrow2.c3
    have e4 := hrow2.c4
    have Hrow2 := Lib.hid hrow2; clear hrow2
    have Hr2 := Lib.hid hr2; clear hr2
    have hv := hv.reads
    obtain ⟨av, kv, rfl, hkv, hfv⟩ := hv
    rw [← Hnm.out] at hkv hfv ⊢
    have Hfv := Lib.hid hfv; clear hfv
    go_wp2_with fail
    refine (C3.out _).mono ?_; rintro e w3 ⟨rfl, h3⟩
    have hrow3 := Hrow2.out.new h3
    have hr3 : w3.heap[g]? = some (.cells (L.map Value.string).toArray 9 (0, 0)) := by rw [h3.block _ (row_lt Hr2.out)]; exact Hr2.out
    have hfv3 : ∀ j, j < nm → ∃ b, av = some ⟨b, 0, none⟩ ∧ w3.cell? ⟨b, j, none⟩ = some (.int .i64 ((M.getD j 0 : Nat) : Int)) := fun j hj => by
      obtain ⟨b, e, hc⟩ := Hfv.out j hj
      exact ⟨b, e, by rw [h3.cell (p := ⟨b, j, none⟩) (cell_lt hc)]; exact hc⟩
    have Hb3 := Lib.hid (Hb2.out.trans (h3.mono Hb2.out.size)); clear h3
    have Hrow3 := Lib.hid hrow3; clear hrow3
    have Hr3 := Lib.hid hr3; clear hr3
    have Hfv3 := Lib.hid hfv3; clear hfv3
    clear e0 e1 e2 e3 e4 Hrow Hrow1 Hrow2 Hr1 Hr2 Hb1 Hb2 Hfv C1 C2 C3
    go_wp2_with fail
    go_loopw [11, 12, 13] (fun x y z wr => ∃ i k : Nat, i ≤ n ∧ k ≤ nm ∧ x = .string (P i) ∧ y = .int .i64 (k : Int) ∧ z = .int .i64 (i : Int) ∧ (∀ j, j < k → M.getD j 0 < T i) ∧ Below w3.heap.size w3 wr) (fun x y z _ => n - (intOf z).toNat)
    case atStart => exact ⟨0, 0, Nat.zero_le _, Nat.zero_le _, by rw [Htil.out.p0], rfl, rfl, fun j hj => by omega, Below.refl _ _⟩
    case round =>
      obtain ⟨i, k, hi, hk, rfl, rfl, rfl, hkM, hb⟩ := hrel
      have hbe := Hb3.out.trans (hb.mono Hb3.out.size)
      by_cases hlt : i < n
      · have g1 : decide (i < n) = true := decide_eq_true hlt
        have g1' : (i : Int) < (n : Int) := by omega
        obtain ⟨q1, q2, q3, q4⟩ := Htil.out.d1 i hlt
        have q5 := Htil.out.ps i hlt
        have q6 := Htil.out.pz i (by omega)
        have q7 := Htil.out.pz (i + 1) (by omega)
        have q8 := Htil.out.d2 i
        have q9 := Htil.out.d3 i
        have hrw := Hrow3.out.new hb
        have d1 := Hget.out wr g (by rw [hb.block _ (row_lt Hr3.out)]; exact Hr3.out) i hlt
        have m3 := hrw.c3
        have m2 := hrw.c2
        clear hrw
        generalize hDi : D i = d at *
        have a1 : decide ((d.size : Int) < 1) = false := decide_eq_false (by omega)
        have a1' : decide (d.size < 1) = false := decide_eq_false (by omega)
        have a2 : decide (c0.mx < (d.size : Int)) = false := decide_eq_false (by have := Hmx.out; omega)
        have hsz : (P i).size + d.size < 9223372036854775808 := by omega
        have Hbe := Lib.hid hbe; clear hbe
        have Hb := Lib.hid hb; clear hb
        have Q8 := Lib.hid q8; clear q8
        have Q9 := Lib.hid q9; clear q9
        have HkM := Lib.hid hkM; clear hkM
        have Q5 := Lib.hid q5; clear q5
        have Q3 := Lib.hid q3; clear q3
        have Q6 := Lib.hid q6; clear q6
        have Q7 := Lib.hid q7; clear q7
        have HDi := Lib.hid hDi; clear hDi
        go_wp2_with fail
        rw [Q5.out]
        by_cases hl3 : i + 1 < n
        · have a3 : decide ((i : Int) + 1 < (n : Int)) = true := decide_eq_true (by omega)
          have q8 := Q8.out hl3
          have a4 : decide ((d.size : Int) < c0.mn) = false := decide_eq_false (by have := Hmn.out; omega)
          go_quiet (fail)
          go_wp2_with fail
          have HbQ := Lib.hid (drewN_below Hb.out nq)
          clear d1 m3 m2 a1 a1' a2
          go_loopw [12] (fun y wz => ∃ k2 : Nat, k2 ≤ nm ∧ y = .int .i64 (k2 : Int) ∧ (∀ j, j < k2 → M.getD j 0 < T (i + 1)) ∧ Below w3.heap.size w3 wz) (fun y _ => nm - (intOf y).toNat)
          case atStart => exact ⟨k, hk, rfl, fun j hj => by have := HkM.out j hj; have := Q3.out; omega, HbQ.out⟩
          case round =>
            obtain ⟨k2, hk2, rfl, hkM2, hb2⟩ := hrel
            have q9 := Q9.out
            have hrw := Hrow3.out.new hb2
            have d1 := Hget.out wr g (by rw [hb2.block _ (row_lt Hr3.out)]; exact Hr3.out) i hlt
            rw [HDi.out] at d1
            have m3 := hrw.c3
            clear hrw
            by_cases hk3 : k2 < nm
            · have b1 : decide (k2 < nm) = true := decide_eq_true hk3
              have b1' : (k2 : Int) < (nm : Int) := by omega
              obtain ⟨bv, rfl, dv⟩ := Hfv3.out k2 hk3
              have dv : wr.cell? ⟨bv, k2, none⟩ = some (.int .i64 ((M.getD k2 0 : Nat) : Int)) := by rw [hb2.cell (p := ⟨bv, k2, none⟩) (cell_lt dv)]; exact dv
              by_cases hx : M.getD k2 0 < (P (i + 1)).size
              · have b2 : decide (M.getD k2 0 < (P (i + 1)).size) = true := decide_eq_true hx
                have hnext : ∀ j, j < k2 + 1 → M.getD j 0 < T (i + 1) := fun j hj => by
                  rcases Nat.lt_or_ge j k2 with q | q
                  · exact hkM2 j q
                  · rw [show j = k2 by omega]; have := Q7.out; omega
                have Hnext := Lib.hid hnext; clear hnext q9
                have Hb2 := Lib.hid hb2; clear hb2
                have HkM2 := Lib.hid hkM2; clear hkM2
                clear d1 m3
                generalize M.getD k2 0 = x at *
                go_wp2_with fail
                go_roundw
                case rel => exact ⟨k2 + 1, by omega, by go_num, Hnext.out, Hb2.out⟩
                case measure => simp [intOf]; omega
              · have b2 : decide (M.getD k2 0 < (P (i + 1)).size) = false := decide_eq_false hx
                have hisB : M.getD k2 0 ≠ (P (i + 1)).size → i + 1 < n → d.size < mx → False := fun hne h1 h2 => by
                  have q7 := Q7.out
                  have := q9 h1 h2 k2 hk2 hkM2 (fun _ => by omega)
                  omega
                generalize M.getD k2 0 = x at *
                have Hb2 := Lib.hid hb2; clear hb2
                have HkM2 := Lib.hid hkM2; clear hkM2 q9
                by_cases hxe : x = (P (i + 1)).size
                · have b3 : ((x : Int) == ((P (i + 1)).size : Int)) = true := by rw [hxe]; simp
                  have b4 : (x == (P (i + 1)).size) = true := by rw [hxe]; simp
                  have Hxe := Lib.hid hxe; clear hxe hisB
                  by_cases h5 : d.size < mx
                  · have a5 : decide ((d.size : Int) < c0.mx) = true := decide_eq_true (by have := Hmx.out; omega)
                    go_wp2_with fail
                    go_quiet (fail)
                    go_wp2_with fail
                    go_roundw
                    case rel => exact ⟨i + 1, k2, by omega, hk2, rfl, rfl, by go_num, HkM2.out, drewN_below Hb2.out _⟩
                    case measure => simp [intOf]; omega
                  · have a5 : decide ((d.size : Int) < c0.mx) = false := decide_eq_false (by have := Hmx.out; omega)
                    go_wp2_with fail
                    go_quiet (fail)
                    go_wp2_with fail
                    go_roundw
                    case rel => exact ⟨i + 1, k2, by omega, hk2, rfl, rfl, by go_num, HkM2.out, drewN_below Hb2.out _⟩
                    case measure => simp [intOf]; omega
                · have b3 : ((x : Int) == ((P (i + 1)).size : Int)) = false := by simp; omega
                  have b4 : (x == (P (i + 1)).size) = false := by simp; omega
                  have hq := hisB hxe
                  have HisB := Lib.hid (fun (h : d.size < mx) => hq hl3 h)
                  clear hisB hxe hq
                  by_cases h5 : d.size < mx
                  · have a5 : decide ((d.size : Int) < c0.mx) = true := decide_eq_true (by have := Hmx.out; omega)
                    have hh := HisB.out h5
                    cases hh
                  · have a5 : decide ((d.size : Int) < c0.mx) = false := decide_eq_false (by have := Hmx.out; omega)
                    go_wp2_with fail
                    go_quiet (fail)
                    go_wp2_with fail
                    go_roundw
                    case rel => exact ⟨i + 1, k2, by omega, hk2, rfl, rfl, by go_num, HkM2.out, drewN_below Hb2.out _⟩
                    case measure => simp [intOf]; omega
            · have b1 : decide (k2 < nm) = false := decide_eq_false hk3
              have hisB : i + 1 < n → d.size < mx → False := fun h1 h2 => by
                have := q9 h1 h2 k2 hk2 hkM2 (fun h => by omega)
                omega
              have HisB := Lib.hid (fun (h : d.size < mx) => hisB hl3 h)
              have Hb2 := Lib.hid hb2; clear hb2
              have HkM2 := Lib.hid hkM2; clear hkM2 q9 hisB
              by_cases h5 : d.size < mx
              · have a5 : decide ((d.size : Int) < c0.mx) = true := decide_eq_true (by have := Hmx.out; omega)
                have hh := HisB.out h5
                cases hh
              · have a5 : decide ((d.size : Int) < c0.mx) = false := decide_eq_false (by have := Hmx.out; omega)
                go_wp2_with fail
                go_quiet (fail)
                go_wp2_with fail
                go_roundw
                case rel => exact ⟨i + 1, k2, by omega, hk2, rfl, rfl, by go_num, HkM2.out, drewN_below Hb2.out _⟩
                case measure => simp [intOf]; omega
        · have a3 : decide ((i : Int) + 1 < (n : Int)) = false := decide_eq_false (by omega)
          go_quiet (fail)
          go_wp2_with fail
          have HbQ := Lib.hid (drewN_below Hb.out nq)
          clear d1 m3 m2 a1 a1' a2
          go_loopw [12] (fun y wz => ∃ k2 : Nat, k2 ≤ nm ∧ y = .int .i64 (k2 : Int) ∧ (∀ j, j < k2 → M.getD j 0 < T (i + 1)) ∧ Below w3.heap.size w3 wz) (fun y _ => nm - (intOf y).toNat)
          case atStart => exact ⟨k, hk, rfl, fun j hj => by have := HkM.out j hj; have := Q3.out; omega, HbQ.out⟩
          case round =>
            obtain ⟨k2, hk2, rfl, hkM2, hb2⟩ := hrel
            have q9 := Q9.out
            have hrw := Hrow3.out.new hb2
            have d1 := Hget.out wr g (by rw [hb2.block _ (row_lt Hr3.out)]; exact Hr3.out) i hlt
            rw [HDi.out] at d1
            have m3 := hrw.c3
            clear hrw
            by_cases hk3 : k2 < nm
            · have b1 : decide (k2 < nm) = true := decide_eq_true hk3
              have b1' : (k2 : Int) < (nm : Int) := by omega
              obtain ⟨bv, rfl, dv⟩ := Hfv3.out k2 hk3
              have dv : wr.cell? ⟨bv, k2, none⟩ = some (.int .i64 ((M.getD k2 0 : Nat) : Int)) := by rw [hb2.cell (p := ⟨bv, k2, none⟩) (cell_lt dv)]; exact dv
              by_cases hx : M.getD k2 0 < (P (i + 1)).size
              · have b2 : decide (M.getD k2 0 < (P (i + 1)).size) = true := decide_eq_true hx
                have hnext : ∀ j, j < k2 + 1 → M.getD j 0 < T (i + 1) := fun j hj => by
                  rcases Nat.lt_or_ge j k2 with q | q
                  · exact hkM2 j q
                  · rw [show j = k2 by omega]; have := Q7.out; omega
                have Hnext := Lib.hid hnext; clear hnext q9
                have Hb2 := Lib.hid hb2; clear hb2
                have HkM2 := Lib.hid hkM2; clear hkM2
                clear d1 m3
                generalize M.getD k2 0 = x at *
                go_wp2_with fail
                go_roundw
                case rel => exact ⟨k2 + 1, by omega, by go_num, Hnext.out, Hb2.out⟩
                case measure => simp [intOf]; omega
              · have b2 : decide (M.getD k2 0 < (P (i + 1)).size) = false := decide_eq_false hx
                have hisB : M.getD k2 0 ≠ (P (i + 1)).size → i + 1 < n → d.size < mx → False := fun hne h1 h2 => by
                  have q7 := Q7.out
                  have := q9 h1 h2 k2 hk2 hkM2 (fun _ => by omega)
                  omega
                generalize M.getD k2 0 = x at *
                have Hb2 := Lib.hid hb2; clear hb2
                have HkM2 := Lib.hid hkM2; clear hkM2 q9
                by_cases hxe : x = (P (i + 1)).size
                · have b3 : ((x : Int) == ((P (i + 1)).size : Int)) = true := by rw [hxe]; simp
                  have b4 : (x == (P (i + 1)).size) = true := by rw [hxe]; simp
                  have Hxe := Lib.hid hxe; clear hxe hisB
                  by_cases h5 : d.size < mx
                  · have a5 : decide ((d.size : Int) < c0.mx) = true := decide_eq_true (by have := Hmx.out; omega)
                    go_wp2_with fail
                    go_quiet (fail)
                    go_wp2_with fail
                    go_roundw
                    case rel => exact ⟨i + 1, k2, by omega, hk2, rfl, rfl, by go_num, HkM2.out, drewN_below Hb2.out _⟩
                    case measure => simp [intOf]; omega
                  · have a5 : decide ((d.size : Int) < c0.mx) = false := decide_eq_false (by have := Hmx.out; omega)
                    go_wp2_with fail
                    go_quiet (fail)
                    go_wp2_with fail
                    go_roundw
                    case rel => exact ⟨i + 1, k2, by omega, hk2, rfl, rfl, by go_num, HkM2.out, drewN_below Hb2.out _⟩
                    case measure => simp [intOf]; omega
                · have b3 : ((x : Int) == ((P (i + 1)).size : Int)) = false := by simp; omega
                  have b4 : (x == (P (i + 1)).size) = false := by simp; omega
                  have hq := hisB hxe
                  have HisB := Lib.hid (fun (h : False) => h)
                  clear hisB hxe hq
                  by_cases h5 : d.size < mx
                  · have a5 : decide ((d.size : Int) < c0.mx) = true := decide_eq_true (by have := Hmx.out; omega)
                    go_wp2_with fail
                    go_quiet (fail)
                    go_wp2_with fail
                    go_roundw
                    case rel => exact ⟨i + 1, k2, by omega, hk2, rfl, rfl, by go_num, HkM2.out, drewN_below Hb2.out _⟩
                    case measure => simp [intOf]; omega
                  · have a5 : decide ((d.size : Int) < c0.mx) = false := decide_eq_false (by have := Hmx.out; omega)
                    go_wp2_with fail
                    go_quiet (fail)
                    go_wp2_with fail
                    go_roundw
                    case rel => exact ⟨i + 1, k2, by omega, hk2, rfl, rfl, by go_num, HkM2.out, drewN_below Hb2.out _⟩
                    case measure => simp [intOf]; omega
            · have b1 : decide (k2 < nm) = false := decide_eq_false hk3
              have hisB : i + 1 < n → d.size < mx → False := fun h1 h2 => by
                have := q9 h1 h2 k2 hk2 hkM2 (fun h => by omega)
                omega
              have Hb2 := Lib.hid hb2; clear hb2
              have HkM2 := Lib.hid hkM2; clear hkM2 q9 hisB
              by_cases h5 : d.size < mx
              · have a5 : decide ((d.size : Int) < c0.mx) = true := decide_eq_true (by have := Hmx.out; omega)
                go_wp2_with fail
                go_quiet (fail)
                go_wp2_with fail
                go_roundw
                case rel => exact ⟨i + 1, k2, by omega, hk2, rfl, rfl, by go_num, HkM2.out, drewN_below Hb2.out _⟩
                case measure => simp [intOf]; omega
              · have a5 : decide ((d.size : Int) < c0.mx) = false := decide_eq_false (by have := Hmx.out; omega)
                go_wp2_with fail
                go_quiet (fail)
                go_wp2_with fail
                go_roundw
                case rel => exact ⟨i + 1, k2, by omega, hk2, rfl, rfl, by go_num, HkM2.out, drewN_below Hb2.out _⟩
                case measure => simp [intOf]; omega
      · have g1 : decide (i < n) = false := decide_eq_false hlt
        have hin : i = n := by omega
        have p1 := Htil.out.pn
        rw [← hin] at p1
        rw [p1]
        have a9 : decide ((n : Int) ≤ MO) = true := decide_eq_true Hmost.out
        have Hbe := Lib.hid hbe; clear hbe
        clear hb hkM p1
        have a8 : (s1.toList == s1.toList) = true := by simp
        go_wp2_with fail
        refine (chuAlive_any _).mono ?_; rintro e w4 ⟨rfl, h4⟩
        have Hb4 := Lib.hid (Hbe.out.trans (h4.mono Hbe.out.size)); clear h4
        go_wp2_with fail
        go_ret
        exact ⟨rfl, Hb4.out⟩

theorem contract (H : Type) (enc : TypeId × Value → H) (W : World) (base : Nat) (args : Array Value) (ds gs : List (DataW H)) (before : List MemPlace)
    (hval : ∀ (j : Nat) t v, Try.f4.params[j]? = some t → args[j]? = some v → Value.okWide Try.prog W .any base t v)
    (hW : DataW.Whole enc Try.prog Try.f4.params.toList Rows.chunkTilesSpec.vars false W args.toList ds gs before)
    (hsz : (DataW.weightsEach Try.prog (Try.f4.params.toList ++ Rows.chunkTilesSpec.plain.varTypes Try.prog) (ds ++ gs)).all (· ≤ reachBytes) = true) :
    Calls Try.prog 4 args W fun e W' => ∃ v, e = .returned v ∧ Rows.chunkTilesSpec.post enc Try.prog Try.f4 false true false false W args v W' := by
  have hW' := hW
  obtain ⟨p, q, hA0, hV, rfl, hfz, hnd⟩ := hW
  have hA : DataW.TrodAll enc Try.prog W 0 (fun _ => true) true Try.f4.params.toList args.toList ds p := hA0
  rw [Try.params4] at hA hval hsz
  obtain ⟨v0, vs0, d0, ds0, p0, q0, hargs, rfl, rfl, h0, r0⟩ := trodAll_cons hA
  obtain ⟨v1, vs1, d1, ds1, p1, q1, rfl, rfl, rfl, h1, r1⟩ := trodAll_cons r0
  obtain ⟨rfl, rfl, rfl⟩ := trodAll_nil r1
  obtain rfl : args = #[v0, v1] := Array.ext' hargs
  obtain ⟨rfl, rfl⟩ := trodVars_none hV
  have k0 := h0
  have lt0 : ∀ x ∈ p0, x.block < W.heap.size := by obtain ⟨m, hm⟩ := k0; exact DataW.trod_lt m _ _ _ hm
  obtain ⟨c0, rfl, wc0⟩ := open_cutter Try.underlying24 rfl rfl rfl rfl rfl Try.underlying22 Try.underlying3 (by kernel_rfl) (by kernel_rfl) (hval 0 24 v0 rfl rfl) h0
  obtain ⟨s1, rfl, rfl, rfl, m1⟩ := open_string Try.underlying9 (hval 1 9 v1 rfl rfl) h1
  clear hA0
  have z1 : s1.size ≤ 140737488351232 := by
    have := List.all_eq_true.1 hsz s1.data.toList.length (by simp [DataW.weightsEach, DataW.weights])
    rw [ba_len] at this
    exact of_decide_eq_true this
  refine (walk c0 s1 W wc0 z1).mono fun e W' ⟨he, bel⟩ => ?_
  subst he
  exact ⟨_, rfl, _, _, _, [], _, [], hW', trodAll_mk1 (shut_bool Try.underlying4 _), (trodAll_cons_mk (Below.trod laidOut (by kernel_rfl) (of_decide_eq_true (by kernel_rfl)) k0 bel lt0) (trodAll_cons_mk (shut_string Try.underlying9 m1) trodAll_mk0)), rfl, bel.frame _, fun h => by cases h⟩

set_option maxRecDepth 100000 in
theorem lifted (os : Os) (started : os.Started) (H : Type) (enc : TypeId × Value → H) :
    ReturnsInHanded {} Try.checked os 4 .any (Rows.chunkTilesSpec.pre6 enc Try.prog Try.f4 Rows.chunkTilesRow.domain false) (Rows.chunkTilesSpec.post enc Try.prog Try.f4 false true false false) := by
  refine returnsInHanded_of_change_sized (C := Try.checked) own started (by kernel_rfl) Try.func4
    (ChangeSpec.witness6 (enc := enc) (C := Try.checked) false ⟨#[], #[.agg #[.int .u64 0, .int .i64 0, .int .i64 0, .int .i64 0, .int .i64 0], .string .empty], []⟩ 8 (by kernel_rfl) (by kernel_rfl) (by kernel_rfl) (by kernel_rfl)) ?_
  intro W base args ds gs before hval hW hcnd hsz _
  exact contract H enc W base args ds gs before hval hW hsz

theorem over : Rows.chunkTilesRow.holds Try.pinned (OpenSpec.ofChange Rows.chunkTilesSpec) :=
  OpenClaim.holds_of_wide 4 Try.f4 rfl rfl rfl rfl rfl rfl rfl ⟨rfl, rfl, rfl, rfl, rfl⟩ rfl rfl rfl rfl rfl (by kernel_rfl) Try.func4 (by kernel_rfl)
    (of_decide_eq_true (by kernel_rfl)) (by unfold Func.isWrapper; first | (rw [if_pos (by decide +kernel)]; kernel_rfl) | (rw [if_neg (by decide +kernel)]; exact ⟨rfl, rfl⟩))
    (fun os started H enc _ => lifted os started H enc)

theorem proved : Rows.ChunkTilesSaid := over

end Go.Proofs.Ytofiimkpbbiegaa.chunkTiles
