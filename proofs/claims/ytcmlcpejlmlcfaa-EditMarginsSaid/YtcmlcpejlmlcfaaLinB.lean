/- Put together of: LinRef LinRef2 LinAlive LinLawP -/
import Derived.Test.YtcmlcpejlmlcfaaLinA
import Derived.BigQuiet
import Derived.Test.YtcmlcpejlmlcfaaChuC
import Derived.Test.YtcmlcpejlmlcfaaRabA
set_option maxRecDepth 100000
/-
  What the document's Same, Align, Records and Longest of layer 10 return.
-/
set_option linter.unusedVariables false
set_option maxRecDepth 100000
namespace Go.Proofs.Ytcmlcpejlmlcfaa
open Go.RowKit

theorem text_index (s : ByteArray) (i : Nat) (h : i < s.size) (u : World) : (Instr.index 9 (.string s) (.int .i64 (i : Int))).run Try.prog u = .ok (.int .u8 ((s.data.toList.getD i 0).toNat : Int)) u := by
  have e : s.data.toList.getD i 0 = s[i] := by
    rw [List.getD_eq_getElem?_getD, List.getElem?_eq_getElem (by rw [ba_len]; exact h)]
    exact ba_get s i h (by rw [ba_len]; exact h)
  rw [e]
  simp [Instr.index, go_sem, run_underlying Try.underlying9, h]
theorem isE_step (s : ByteArray) (i : Nat) (h1 : 1 ≤ i) (h2 : i < s.size) : Lin.isE s.data.toList i = ((s.data.toList.getD (i - 1) 0).toNat == 10) := by
  unfold Lin.isE
  have : (i == s.data.toList.length) = false := by simp; omega
  rw [this, Bool.false_or]
  generalize s.data.toList.getD (i - 1) 0 = x
  rw [Bool.eq_iff_iff]
  simp only [beq_iff_eq]
  constructor
  · rintro rfl; rfl
  · intro e; exact UInt8.toNat_inj.1 e

set_option maxHeartbeats 1000000 in
theorem refAlign_any (s : ByteArray) (hsz : s.size ≤ 1099511627776) (a : Int) (ha : -9223372036854775808 ≤ a ∧ a ≤ 9223372036854775807) (w : World) :
    Calls Try.prog 45 #[.string s, .int .i64 a] w fun e w' => e = .returned (.int .i64 (alI s a : Nat)) ∧ w = w' := by
  obtain ⟨m, hm⟩ : ∃ m : Nat, (m : Int) = max a 1 := ⟨(max a 1).toNat, by omega⟩
  have hmm : max a.toNat 1 = m := by omega
  have hal : alI s a = Lin.al s.data.toList m := by unfold alI; rw [← hmm, Lin.al_one]
  rw [hal]
  have hm1 : 1 ≤ m := by omega
  have hmx : max a 1 = (m : Int) := hm.symm
  clear hal hmm hm
  have hbig := fun h => Lin.al_big (l := s.data.toList) (a := m) h
  have heq := fun r h1 h2 h3 h4 => Lin.al_eq (l := s.data.toList) (a := m) (r := r) h1 h2 h3 h4
  obtain ⟨R, hR⟩ : ∃ R, Lin.al s.data.toList m = R := ⟨_, rfl⟩
  rw [hR] at hbig heq ⊢
  rw [ba_len] at hbig heq
  have hsl := Lin.isE_len s.data.toList
  rw [ba_len] at hsl
  have Hbig := Lib.hid hbig; clear hbig
  have Heq := Lib.hid heq; clear heq hR
  have Hsl := Lib.hid hsl; clear hsl
  go_enter Try.func45, Try.ntmps45
  go_wp2_with fail
  go_loopw [5] (fun x wr => ∃ j : Nat, m ≤ j ∧ (j ≤ s.size ∨ (j = m ∧ s.size < m)) ∧ x = .int .i64 (j : Int) ∧ (∀ i, m ≤ i → i < j → Lin.isE s.data.toList i = false) ∧ wr = w) (fun x _ => s.size + 1 - (intOf x).toNat)
  case atStart => exact ⟨m, Nat.le_refl _, by omega, rfl, fun i x y => by omega, rfl⟩
  case round =>
    obtain ⟨j, hj1, hj2, rfl, hno, rfl⟩ := hrel
    by_cases hle : j ≤ s.size
    · have g1 : decide (j ≤ s.size) = true := decide_eq_true hle
      by_cases he : j = s.size
      · have hRR := Heq.out j (by omega) hle (by rw [he]; exact Hsl.out) (fun i x y => hno i (by omega) y)
        have g2 : decide (j = s.size) = true := decide_eq_true he
        have g3 : ((j : Int) == (s.size : Int)) = true := by rw [he]; simp
        have HRR := Lib.hid hRR; clear hRR hno hj2 he
        go_wp2_with fail
        go_ret
        exact ⟨by rw [HRR.out]; rfl, rfl⟩
      · have g2 : decide (j = s.size) = false := decide_eq_false he
        have g3 : ((j : Int) == (s.size : Int)) = false := by simp; omega
        have hix := fun u => text_index s (j - 1) (by omega) u
        have hjc : ((j - 1 : Nat) : Int) = (j : Int) - 1 := by omega
        rw [hjc] at hix
        have hw1 : IntKind.i64.wrap ((j : Int) - 1) = (j : Int) - 1 := by simp only [IntKind.wrap_i64]; omega
        have hst := isE_step s j (by omega) (by omega)
        have hjs : j < s.size := by omega
        generalize s.data.toList.getD (j - 1) 0 = x at *
        obtain ⟨y, hy⟩ : ∃ y, y = x.toNat := ⟨_, rfl⟩
        rw [← hy] at hst hix
        by_cases hxe : y = 10
        · have hRR := Heq.out j (by omega) hle (by rw [hst]; simpa using hxe) (fun i x y => hno i (by omega) y)
          have HRR := Lib.hid hRR; clear hRR hno hj2 he hst hy hjc
          subst hxe
          go_wp2_with fail
          go_ret
          exact ⟨by rw [HRR.out]; rfl, rfl⟩
        · have q1 : ((y : Int) == 10) = false := by simp; omega
          have q2 : decide (y = 10) = false := decide_eq_false hxe
          have hno2 : ∀ i, m ≤ i → i < j + 1 → Lin.isE s.data.toList i = false := fun i h1 h2 => by
            rcases Nat.lt_or_ge i j with q | q
            · exact hno i h1 q
            · rw [show i = j by omega, hst]; simpa using hxe
          have Hno2 := Lib.hid hno2; clear hno2 hno hj2 he hst hy hjc
          go_wp2_with fail
          go_roundw
          case rel => exact ⟨j + 1, by omega, by omega, by go_num, Hno2.out, by first | exact rfl | trivial⟩
          case measure => simp [intOf]; omega
    · have g1 : decide (j ≤ s.size) = false := decide_eq_false hle
      have hRR := Hbig.out (by omega)
      have HRR := Lib.hid hRR; clear hRR hno hj2
      go_wp2_with fail
      go_ret
      exact ⟨by rw [HRR.out]; rfl, rfl⟩
end Go.Proofs.Ytcmlcpejlmlcfaa

/-
  What the document's Longest and Cut of layer 10, and the law's ends, return.
-/
set_option linter.unusedVariables false
set_option maxRecDepth 100000
namespace Go.Proofs.Ytcmlcpejlmlcfaa
open Go.RowKit

theorem lg_append : ∀ (a b : List ByteArray), lg (a ++ b) = max (lg a) (lg b)
  | [], b => by simp [lg]
  | x :: a, b => by rw [List.cons_append, lg, lg, lg_append a b]; omega
theorem lg_take (L : List ByteArray) (k : Nat) (h : k < L.length) : lg (L.take (k + 1)) = max (lg (L.take k)) (L.getD k .empty).size := by
  rw [List.take_add_one, List.getElem?_eq_getElem h, lg_append, List.getD_eq_getElem?_getD, List.getElem?_eq_getElem h]
  simp [lg]
theorem lg_take_le (L : List ByteArray) (k : Nat) : lg (L.take k) ≤ lg L := by
  have := lg_append (L.take k) (L.drop k)
  rw [List.take_append_drop] at this
  omega

set_option maxHeartbeats 1000000 in
theorem refLCut_any (c : Ctr) (hm : c.May) (s : ByteArray) (hsz : s.size ≤ 1099511627776) (w : World) :
    Calls Try.prog 29 #[c.v, .string s] w fun e w' => ∃ v, e = .returned v ∧ POwn w.heap.size v (c.acut s.data.toList) w' ∧ Below w.heap.size w w' := by
  obtain ⟨i0, hi0, hz0, hz1, hz2⟩ := info_parts piece_info
  have cf := fun u => refCut_any c hm s hsz u
  have hlen := Ctr.cut_len hm s.data.toList
  have hsum := Ctr.cut_sum hm s.data.toList
  rw [ba_len] at hlen hsum
  obtain ⟨F, hF⟩ : ∃ F, F = c.ends s.data.toList := ⟨_, rfl⟩
  obtain ⟨A, hA⟩ : ∃ A, A = c.acut s.data.toList := ⟨_, rfl⟩
  have hA0 : A = [] ++ Chu.pcs 0 (Lin.acut s.data.toList 0 (F.drop 0)) := by rw [hA, List.drop_zero, hF]; rfl
  have hFL : F.length = (c.cut s.data.toList).length := by rw [hF]; unfold Ctr.cut; rw [Chu.pcs_length]
  rw [← hA]
  rw [← hF] at hsum
  obtain ⟨L, hL⟩ : ∃ L, L = c.cut s.data.toList := ⟨_, rfl⟩
  rw [← hL] at hlen hsum cf hFL
  obtain ⟨n, hn⟩ : ∃ n, n = L.length := ⟨_, rfl⟩
  rw [← hn] at hlen hFL
  rw [hFL] at hsum
  unfold Ctr.v at *
  have Cf := Lib.hid cf; clear cf
  have hbw := box_below w (.cells #[.int .u64 c.p, .int .i64 c.n, .int .i64 c.mn, .int .i64 c.mx, .int .i64 c.b] 38)
  have hrow := CtrAt.box c w
  have e0 := hrow.c0
  have e1 := hrow.c1
  have e2 := hrow.c2
  have e3 := hrow.c3
  have e4 := hrow.c4
  have Hbw := Lib.hid hbw; clear hbw
  have Hsum := Lib.hid hsum; clear hsum
  have HA0 := Lib.hid hA0; clear hA0 hA
  have Hn := Lib.hid hn; clear hn
  have HFL := Lib.hid hFL; clear hFL
  clear hm hL hF hrow
  go_enter Try.func29, Try.ntmps29
  go_wp2_with fail
  refine (Cf.out _).mono ?_; rintro e w1 ⟨v, rfl, hv, h1⟩
  obtain ⟨va, vcap, hvf⟩ := hv.form
  rw [← Hn.out] at hvf
  subst hvf
  have Hv := Lib.hid hv.reads; clear hv
  have H1 := Lib.hid h1; clear h1
  have hs1 := H1.out.size
  simp only [World.size_alloc] at hs1
  clear e0 e1 e2 e3 e4
  go_wp2_with fail
  go_loopw [6, 7, 8] (fun u x y wr => ∃ (k a : Nat) (ps : List Pc), k ≤ n ∧ y = .int .i64 (k : Int) ∧ x = .int .i64 (a : Int) ∧ A = ps ++ Chu.pcs a (Lin.acut s.data.toList a (F.drop k)) ∧ ps.length ≤ k ∧ a ≤ s.size ∧ (a = 0 ∨ Lin.isE s.data.toList a = true) ∧ POwn w1.heap.size u ps wr ∧ Below w1.heap.size w1 wr) (fun _ _ y _ => n - (intOf y).toNat)
  case atStart => exact ⟨0, 0, [], Nat.zero_le _, rfl, rfl, HA0.out, Nat.le_refl _, Nat.zero_le _, .inl rfl, World.ownsRow_nil _ _ 68 2, Below.refl _ _⟩
  case round =>
    clear HA0
    obtain ⟨k, a, ps, hk, rfl, rfl, hA, hps, ha, hae, ho, hb⟩ := hrel
    by_cases hlt : k < n
    · have g1 : decide (k < n) = true := decide_eq_true hlt
      have hge2 : (k : Int) < (n : Int) := by omega
      obtain ⟨va', cap', hve, hcap, hcells⟩ := Hv.out
      injection hve with e1 e2 e3
      subst e1
      subst e3
      obtain ⟨g, rfl, d1, d2⟩ := hcells k (by rw [← Hn.out]; exact hlt)
      have hcl : wr.cell? ⟨g, k * 2, none⟩ = some (.int .i64 ((L.getD k (0, 0)).1 : Int)) := by rw [hb.cell (p := ⟨g, k * 2, none⟩) (cell_lt d1)]; exact d1
      have hcm : wr.cell? ⟨g, k * 2 + 1, none⟩ = some (.int .i64 ((L.getD k (0, 0)).2 : Int)) := by rw [hb.cell (p := ⟨g, k * 2 + 1, none⟩) (cell_lt d2)]; exact d2
      obtain ⟨hsm, hs1', hs2⟩ := Hsum.out k hlt
      have hdr : F.drop k = F.getD k 0 :: F.drop (k + 1) := by
        rw [List.drop_eq_getElem_cons (by rw [HFL.out]; exact hlt), List.getD_eq_getElem?_getD, List.getElem?_eq_getElem (by rw [HFL.out]; exact hlt)]; rfl
      rw [hdr] at hA
      clear d1 d2 hcells hdr
      generalize F.getD k 0 = q at *
      generalize (L.getD k (0, 0)).1 = P at *
      generalize (L.getD k (0, 0)).2 = M at *
      have hkc : k < vcap := by have := Hn.out; omega
      have hcw : IntKind.i64.wrap ((P : Int) + (M : Int)) = (q : Int) := by simp only [IntKind.wrap_i64]; omega
      have hal := Lin.al_range (l := s.data.toList) (a := q) (by rw [ba_len]; omega)
      have hal2 : Lin.al s.data.toList q ≤ s.size := by have := hal.2.1; rw [ba_len] at this; exact this
      have haq : Lin.al s.data.toList q ≤ a → ¬ a < q := fun h => by omega
      have haq2 : ¬ a < q → Lin.al s.data.toList q ≤ a := fun h => by
        rcases hae with e | e
        · omega
        · rcases Nat.lt_or_ge a (Lin.al s.data.toList q) with g | g
          · rw [hal.2.2.2 a (by omega) g] at e; cases e
          · exact g
      have hpos : a < q → A = (ps ++ [(a, Lin.al s.data.toList q - a)]) ++ Chu.pcs (Lin.al s.data.toList q) (Lin.acut s.data.toList (Lin.al s.data.toList q) (F.drop (k + 1))) := fun h => by
        rw [hA, Lin.acut, if_pos h, Chu.pcs]; simp
      have hneg : ¬ a < q → A = ps ++ Chu.pcs a (Lin.acut s.data.toList a (F.drop (k + 1))) := fun h => by
        rw [hA, Lin.acut, if_neg h]
      have hre := hal.2.2.1
      have cal := fun u => refAlign_any s hsz (q : Int) (by omega) u
      unfold alI at cal
      simp only [Int.toNat_natCast] at cal
      clear hal hA
      generalize Lin.al s.data.toList q = r at *
      have Cal := Lib.hid cal; clear cal
      have Hpos := Lib.hid hpos; clear hpos
      have Hneg := Lib.hid hneg; clear hneg
      have Hre := Lib.hid hre; clear hre
      have Hae := Lib.hid hae; clear hae
      have Ho := Lib.hid ho; clear ho
      have Hb := Lib.hid hb; clear hb
      have Hcw := Lib.hid hcw; clear hcw
      have Haq := Lib.hid haq; clear haq
      have Haq2 := Lib.hid haq2; clear haq2
      have Hsm := Lib.hid hsm; clear hsm e2 hcap
      go_wp2_with fail
      refine wp_region_phases [([0, 1, 2, 3, 4, 5, 6, 7, 8, 9, 10, 11], [12, 13])] (by kernel_rfl) (by kernel_rfl) (fun z => z.cell? ⟨g, k * 2, none⟩ = some (.int .i64 (P : Int)) ∧ z.cell? ⟨g, k * 2 + 1, none⟩ = some (.int .i64 (M : Int))) ⟨hcl, hcm⟩ ?_
      simp only [wpPhases, pick, List.filterMap_cons, List.filterMap_nil, List.getElem?_toArray, List.getElem?_cons_zero, List.getElem?_cons_succ]
      refine take_move (.tmp 1) (.string s) rfl rfl rfl ?_
      simp only [Act.put, List.setIfInBounds_toArray, List.set_cons_zero, List.set_cons_succ]
      refine take_move (.tmp 5) (.slice (some ⟨g, 0, none⟩) n vcap) rfl rfl rfl ?_
      simp only [Act.put, List.setIfInBounds_toArray, List.set_cons_zero, List.set_cons_succ]
      refine take_move (.tmp 8) (.int .i64 (k : Int)) rfl rfl rfl ?_
      simp only [Act.put, List.setIfInBounds_toArray, List.set_cons_zero, List.set_cons_succ]
      refine take_one (.pointer (some ⟨g, k * 2, none⟩)) rfl (fun u hu => by go_simp) ?_
      simp only [Act.put, List.setIfInBounds_toArray, List.set_cons_zero, List.set_cons_succ]
      refine take_one (.pointer (some ⟨g, k * 2, none⟩)) rfl (fun u hu => by go_simp) ?_
      simp only [Act.put, List.setIfInBounds_toArray, List.set_cons_zero, List.set_cons_succ]
      refine take_load 3 (.tmp 23) ⟨g, k * 2, none⟩ (.int .i64 (P : Int)) rfl rfl rfl (fun u hu => load_at Try.underlying3 Try.isAgg3 hu.1) ?_
      simp only [Act.put, List.setIfInBounds_toArray, List.set_cons_zero, List.set_cons_succ]
      refine take_move (.tmp 5) (.slice (some ⟨g, 0, none⟩) n vcap) rfl rfl rfl ?_
      simp only [Act.put, List.setIfInBounds_toArray, List.set_cons_zero, List.set_cons_succ]
      refine take_move (.tmp 8) (.int .i64 (k : Int)) rfl rfl rfl ?_
      simp only [Act.put, List.setIfInBounds_toArray, List.set_cons_zero, List.set_cons_succ]
      refine take_one (.pointer (some ⟨g, k * 2, none⟩)) rfl (fun u hu => by go_simp) ?_
      simp only [Act.put, List.setIfInBounds_toArray, List.set_cons_zero, List.set_cons_succ]
      refine take_one (.pointer (some ⟨g, k * 2 + 1, none⟩)) rfl (fun u hu => by go_simp) ?_
      simp only [Act.put, List.setIfInBounds_toArray, List.set_cons_zero, List.set_cons_succ]
      refine take_load 3 (.tmp 28) ⟨g, k * 2 + 1, none⟩ (.int .i64 (M : Int)) rfl rfl rfl (fun u hu => load_at Try.underlying3 Try.isAgg3 hu.2) ?_
      simp only [Act.put, List.setIfInBounds_toArray, List.set_cons_zero, List.set_cons_succ]
      refine take_one (.int .i64 (q : Int)) rfl (fun u hu => by go_simp; rw [Hcw.out]) ?_
      simp only [Act.put, List.setIfInBounds_toArray, List.set_cons_zero, List.set_cons_succ]
      refine take_done ?_
      refine midk_wp rfl (call_wp 45 [.tmp 19, .tmp 30] #[9, 3] #[.string s, .int .i64 (q : Int)] rfl rfl rfl ?_)
      refine (Cal.out _).mono ?_
      rintro e w3 ⟨rfl, hw3⟩
      have hw3' := hw3.symm
      subst hw3'
      refine ⟨_, rfl, ⟨hcl, hcm⟩, ?_⟩
      simp only [Act.put, List.setIfInBounds_toArray, List.set_cons_zero, List.set_cons_succ]
      refine midk_one (.int .i64 (r : Int)) rfl rfl ⟨hcl, hcm⟩ ?_
      simp only [Act.put, List.setIfInBounds_toArray, List.set_cons_zero, List.set_cons_succ]
      refine midk_end ?_
      have hcl : True := trivial
      clear hcm
      have hsD : Below w1.heap.size w1 wr.drew := Hb.out.drew
      have hoD : POwn w1.heap.size u6 ps wr.drew := World.ownsRow.drew Ho.out
      have HsD := Lib.hid hsD; clear hsD
      have HoD := Lib.hid hoD; clear hoD
      by_cases hra : a < r
      · have q1 : decide (a < r) = true := decide_eq_true hra
        have hq : a < q := by
          rcases Nat.lt_or_ge a q with g | g
          · exact g
          · have := Haq2.out (by omega); omega
        have hA2 := Hpos.out hq
        have hwr : IntKind.i64.wrap ((r : Int) - (a : Int)) = ((r - a : Nat) : Int) := by simp only [IntKind.wrap_i64]; omega
        have HA2 := Lib.hid hA2; clear hA2 hq
        have hbs := HsD.out.size
        go_wp2_with (at_builtin; go_loud (refine wpList_append_own_at _ rfl _ _ 65 rfl w1.heap.size 68 i0 (.agg #[.int .i64 0, .int .i64 0]) 2 16 Try.underlying65 hi0 hz0 hz1 hz2 rfl (by decide) _ _ _ rfl (World.ownsRow.alloc HoD.out _) ⟨wr.drew.heap.size, 0, none⟩ 1 1 [.int .i64 (a : Int), .int .i64 ((r - a : Nat) : Int)] rfl rfl (cell_new_row wr.drew [.int .i64 (a : Int), .int .i64 ((r - a : Nat) : Int)] 68) ?c2 ?c3 ?c4 ?c5 ?_))
        case c2 => first | (intro z hz; simp at hz; rcases hz with rfl | rfl <;> rfl) | exact ⟨rfl, rfl⟩
        case c3 => unfold maxLen; omega
        case c4 => omega
        case c5 => have hz := hbs; simp only [World.size_drew] at hz; omega
        intro v' w5 hown5 hgrow _ hvb
        have hbY := box_below wr.drew (.cells #[.int .i64 (a : Int), .int .i64 ((r - a : Nat) : Int)] 68)
        have hb5 : Below w1.heap.size w1 w5 := ((HsD.out).trans (hbY.mono hbs)).grown hgrow (by have := hbY.size; omega) (fun b' h => (World.ownsRow.lt HoD.out b' h).1)
        have hv5 : POwn w1.heap.size v' (ps ++ [(a, r - a)]) w5 := by
          unfold POwn
          rw [List.length_append, List.flatMap_append]
          exact hown5
        have hl5 : (ps ++ [(a, r - a)]).length ≤ k + 1 := by rw [List.length_append]; simp; exact hps
        have Hb5 := Lib.hid hb5; clear hb5
        have Hv5 := Lib.hid hv5; clear hv5
        have Hl5 := Lib.hid hl5; clear hl5
        clear hown5 hgrow hvb hbY hbs
        go_wp2_with fail
        go_roundw
        case rel => exact ⟨k + 1, r, _, by omega, by go_num, rfl, HA2.out, Hl5.out, hal2, .inr Hre.out, Hv5.out, Hb5.out⟩
        case measure => simp [intOf]; omega
      · have q1 : decide (a < r) = false := decide_eq_false hra
        have hA2 := Hneg.out (Haq.out (by omega))
        have HA2 := Lib.hid hA2; clear hA2
        go_wp2_with fail
        go_roundw
        case rel => exact ⟨k + 1, a, ps, by omega, by go_num, rfl, HA2.out, by omega, ha, Hae.out, HoD.out, HsD.out⟩
        case measure => simp [intOf]; omega
    · have g1 : decide (k < n) = false := decide_eq_false hlt
      have hkn : k = n := by omega
      have hAp : A = ps := by rw [hA, List.drop_of_length_le (by rw [HFL.out]; omega)]; simp [Lin.acut, Chu.pcs]
      have ho2 := ho.base (B' := w.heap.size) (by omega)
      have hbe : Below w.heap.size w wr := (Hbw.out.trans (H1.out.mono (by simp))).trans (hb.mono (by omega))
      have Ho := Lib.hid ho2; clear ho2 ho
      have Hbe := Lib.hid hbe; clear hbe hb
      have HAp := Lib.hid hAp; clear hAp hA hkn
      go_wp2_with fail
      go_ret
      exact ⟨_, rfl, by rw [HAp.out]; exact Ho.out, Hbe.out⟩
end Go.Proofs.Ytcmlcpejlmlcfaa

/-
  The places where texts of a row end, from a place on; the chapter's example.
-/
set_option linter.unusedVariables false
set_option maxRecDepth 100000
namespace Go.Proofs.Ytcmlcpejlmlcfaa
open Go.RowKit

/-- where the first k texts end, from f on, told from there -/
def endsF (L : List ByteArray) (f k : Nat) : List Nat := ((endsT L k).filter fun x => decide (f ≤ x)).map (· - f)
theorem endsF_succ (L : List ByteArray) (f k : Nat) : endsF L f (k + 1) = if f ≤ tot L (k + 1) then endsF L f k ++ [tot L (k + 1) - f] else endsF L f k := by
  unfold endsF
  rw [endsT_succ, List.filter_append, List.map_append]
  by_cases h : f ≤ tot L (k + 1)
  · simp [h]
  · simp [h]
theorem endsF_len (L : List ByteArray) (f k : Nat) : (endsF L f k).length ≤ k := by
  unfold endsF
  rw [List.length_map]
  refine Nat.le_trans (List.length_filter_le _ _) ?_
  simp [endsT]

def lcut0 : Ctr := ⟨0, 0, 0, 0, 0⟩
def lcutA : Ctr := ⟨283, 1, 1, 1, 0⟩
def ltxA : ByteArray := ⟨#[97, 98, 10, 99, 10, 100]⟩
def lrows : List ByteArray := [⟨#[97, 98, 10]⟩, ⟨#[99, 10]⟩, ⟨#[100]⟩]
theorem lcut0_not : ¬ lcut0.May := fun h => absurd h.1.1.1 (by decide +kernel)
theorem lcutA_may : lcutA.May := by decide +kernel
theorem lcutA_cut : lcutA.acut ltxA.data.toList = [(0, 3), (3, 2), (5, 1)] := by decide +kernel
theorem lcutA_texts : lcutA.atexts ltxA = lrows := by
  unfold Ctr.atexts
  rw [lcutA_cut]
  rfl
theorem lrecs_is : recs ltxA = lrows := by
  unfold recs recsF
  rw [show Chu.pcs 0 (Lin.ee ltxA.data.toList 0) = [(0, 3), (3, 2), (5, 1)] by decide +kernel]
  rfl
theorem llg_is : lg (recs ltxA) = 3 := by rw [lrecs_is]; rfl
theorem lal_is : alI ltxA 4 = 5 := by decide +kernel
theorem lrows_at (w : World) : SRd (.slice (some ⟨w.heap.size, 0, none⟩) 3 3) lrows (w.alloc (.cells #[.string ⟨#[97, 98, 10]⟩, .string ⟨#[99, 10]⟩, .string ⟨#[100]⟩] 9)) := by
  have := SRd.made (L := lrows) (heap_alloc_new w (.cells #[.string ⟨#[97, 98, 10]⟩, .string ⟨#[99, 10]⟩, .string ⟨#[100]⟩] 9))
  exact this

end Go.Proofs.Ytcmlcpejlmlcfaa

/-
  Plain mathematics of layer 10's laws: where records and aligned pieces end, one behind the other.
-/
set_option linter.unusedVariables false
namespace Go.Proofs.Ytcmlcpejlmlcfaa
open Go.RowKit

theorem endsT_pcs (s : ByteArray) (E : List Nat) (h1 : ∀ x ∈ E, x ≤ s.size) (h2 : (0 :: E).Pairwise (· ≤ ·)) : endsT (pcTexts s (Chu.pcs 0 E)) E.length = E := by
  apply List.ext_getElem
  · simp [endsT]
  · intro j h3 h4
    have ht := tot_pcs s 0 E j h1 h2 h4
    simp only [endsT, List.getElem_map, List.getElem_range]
    rw [List.getD_eq_getElem?_getD, List.getElem?_eq_getElem h4] at ht
    simpa using ht
theorem pw_le {l : List Nat} (h : l.Pairwise (· < ·)) : l.Pairwise (· ≤ ·) := h.imp (fun h => Nat.le_of_lt h)
namespace Lin
theorem ee_pw (l : List UInt8) (i : Nat) : (i :: ee l i).Pairwise (· < ·) := List.pairwise_cons.2 ⟨fun x hx => ((ee_mem l i x).1 hx).1, Chu.mks_pw _ _ _⟩
theorem ee_last {l : List UInt8} {n : Nat} (h : (ee l 0).length = n) : (n = 0 ∧ l.length = 0) ∨ (1 ≤ n ∧ (ee l 0).getD (n - 1) 0 = l.length) := by
  rcases Nat.eq_zero_or_pos l.length with h0 | h0
  · exact .inl ⟨by rw [← h, ee_nil (by omega)]; rfl, h0⟩
  · refine .inr ?_
    have hm := (ee_mem l 0 l.length).2 ⟨h0, Nat.le_refl _, isE_len l⟩
    obtain ⟨j, hj, e⟩ := List.getElem_of_mem hm
    have hj1 : j = n - 1 := by
      rcases Nat.lt_or_ge (j + 1) n with g | g
      · have h1 := List.pairwise_iff_getElem.1 (List.pairwise_cons.1 (ee_pw l 0)).2 j (j + 1) hj (by omega) (by omega)
        have h2 := ((ee_mem l 0 _).1 (List.getElem_mem (by omega : j + 1 < (ee l 0).length))).2.1
        omega
      · omega
    refine ⟨by omega, ?_⟩
    rw [← hj1, List.getD_eq_getElem?_getD, List.getElem?_eq_getElem hj]
    exact e
end Lin
theorem recs_len (s : ByteArray) : (recs s).length = (Lin.ee s.data.toList 0).length := by
  unfold recs recsF
  rw [pcTexts_length, Chu.pcs_length]
theorem recs_endsT (s : ByteArray) : endsT (recs s) (recs s).length = Lin.ee s.data.toList 0 := by
  rw [recs_len]
  exact endsT_pcs s _ (fun x hx => by rw [← ba_len]; exact ((Lin.ee_mem _ _ _).1 hx).2.1) (pw_le (Lin.ee_pw _ _))
theorem recs_tot {s : ByteArray} {k : Nat} (h : k < (recs s).length) : tot (recs s) (k + 1) ∈ Lin.ee s.data.toList 0 := by
  rw [← recs_endsT]
  exact List.mem_map.2 ⟨k, List.mem_range.2 h, rfl⟩
theorem recs_all (s : ByteArray) : tot (recs s) (recs s).length = s.size := by
  have hl := recs_len s
  rcases Lin.ee_last (l := s.data.toList) rfl with ⟨h1, h2⟩ | ⟨h1, h2⟩
  · rw [hl, h1, tot_zero]; rw [ba_len] at h2; exact h2.symm
  · obtain ⟨m, hm⟩ : ∃ m, (recs s).length = m + 1 := ⟨(recs s).length - 1, by omega⟩
    rw [hm]
    have : (endsT (recs s) (recs s).length).getD m 0 = tot (recs s) (m + 1) := by
      rw [hm]; simp [endsT, List.getD_eq_getElem?_getD]
    rw [← this, recs_endsT, show m = (Lin.ee s.data.toList 0).length - 1 by omega, h2, ba_len]
/-- what LinesAlign asks of a place that is aligned -/
structure AlF (s : ByteArray) (a : Int) (x : Nat) : Prop where
  le : x ≤ s.size
  ge : a ≤ (s.size : Int) → a ≤ (x : Int)
  again : alI s (x : Int) = x
  isx : s.size = 0 ∨ x ∈ Lin.ee s.data.toList 0
  least : ∀ e ∈ Lin.ee s.data.toList 0, e < x → (e : Int) < a
theorem alF (s : ByteArray) (a : Int) : AlF s a (alI s a) := by
  have hl := ba_len s
  unfold alI
  rcases Nat.lt_or_ge s.data.toList.length (max a.toNat 1) with h | h
  · have e := Lin.al_big h
    have hx : Lin.al s.data.toList a.toNat = s.size := by rw [e, hl]
    refine ⟨by omega, fun g => by omega, ?_, ?_, fun z hz g => ?_⟩
    · unfold alI
      rw [hx, Int.toNat_natCast]
      rcases Nat.eq_zero_or_pos s.size with q | q
      · rw [Lin.al_big (by omega), hl]
      · exact Lin.al_eq (by omega) (by omega) (by rw [← hl]; exact Lin.isE_len _) (fun j x y => by omega)
    · rcases Nat.eq_zero_or_pos s.size with q | q
      · exact .inl q
      · exact .inr ((Lin.ee_mem _ _ _).2 ⟨by omega, by omega, by rw [hx, ← hl]; exact Lin.isE_len _⟩)
    · rw [hx] at g; omega
  · obtain ⟨h1, h2, h3, h4⟩ := Lin.al_range h
    refine ⟨by omega, fun g => by omega, ?_, .inr ((Lin.ee_mem _ _ _).2 ⟨by omega, by omega, h3⟩), fun z hz g => ?_⟩
    · unfold alI
      rw [Int.toNat_natCast]
      exact Lin.al_eq (by omega) h2 h3 (fun j x y => by omega)
    · obtain ⟨z1, z2, z3⟩ := (Lin.ee_mem _ _ _).1 hz
      rcases Nat.lt_or_ge z (max a.toNat 1) with q | q
      · omega
      · rw [h4 z q g] at z3; cases z3
theorem al_mono (s : ByteArray) {a b : Int} (h : a ≤ b) : alI s a ≤ alI s b := by
  have hl := ba_len s
  unfold alI
  rcases Nat.lt_or_ge s.data.toList.length (max b.toNat 1) with hb | hb
  · rw [Lin.al_big hb]; exact Lin.al_le _ _
  · obtain ⟨h1, h2, h3, h4⟩ := Lin.al_range hb
    obtain ⟨g1, g2, g3, g4⟩ := Lin.al_range (l := s.data.toList) (a := a.toNat) (by omega)
    rcases Nat.lt_or_ge (Lin.al s.data.toList b.toNat) (Lin.al s.data.toList a.toNat) with q | q
    · rw [g4 _ (by omega) q] at h3; cases h3
    · exact q
/-- has one of the first k ends been x -/
def seen (z : Bool) (T : Nat → Nat) (x : Nat) : Nat → Bool
  | 0 => z
  | k + 1 => seen z T x k || T (k + 1) == x
theorem seen_at (z : Bool) (T : Nat → Nat) (x : Nat) : ∀ (n k : Nat), k < n → T (k + 1) = x → seen z T x n = true
  | 0, k, h, _ => by omega
  | n + 1, k, h, e => by
    unfold seen
    rcases Nat.lt_or_ge k n with g | g
    · rw [seen_at z T x n k g e]; rfl
    · rw [show n = k by omega, e]; simp
theorem seen_zero (z : Bool) (T : Nat → Nat) (x : Nat) (h : z = true) : ∀ n, seen z T x n = true
  | 0 => h
  | n + 1 => by unfold seen; rw [seen_zero z T x h n]; rfl
theorem seen_all (s : ByteArray) (a : Int) : seen (decide (s.size = 0)) (tot (recs s)) (alI s a) (recs s).length = true := by
  rcases (alF s a).isx with h | h
  · exact seen_zero _ _ _ (decide_eq_true h) _
  · rw [← recs_endsT] at h
    obtain ⟨k, hk, e⟩ := List.mem_map.1 h
    exact seen_at _ _ _ _ k (List.mem_range.1 hk) e
end Go.Proofs.Ytcmlcpejlmlcfaa
