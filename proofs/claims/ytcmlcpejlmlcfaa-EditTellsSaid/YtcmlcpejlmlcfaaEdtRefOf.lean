/-
  What the document's Of of layer 11 returns.
-/
import Derived.Test.YtcmlcpejlmlcfaaEdtRef
import Derived.Test.YtcmlcpejlmlcfaaLinB
set_option linter.unusedVariables false
set_option maxRecDepth 100000
namespace Go.Proofs.Ytcmlcpejlmlcfaa
open Go.RowKit

theorem part_get (s : ByteArray) (i j k : Nat) (h : k < j - i) : (s.extract i j).data.toList.getD k 0 = s.data.toList.getD (i + k) 0 := by
  rw [ba_part, List.getD_eq_getElem?_getD, List.getD_eq_getElem?_getD, List.getElem?_take_of_lt h, List.getElem?_drop]
theorem part_head (s : ByteArray) (i j k : Nat) (h : i + k ≤ j) (hj : j ≤ s.size) : (s.extract i j).extract 0 k = s.extract i (i + k) := by
  refine ba_ext ?_
  rw [ba_part, ba_part, ba_part, List.drop_zero, List.take_take]
  congr 1
  omega
theorem eqL_is {a b : ByteArray} {k y1 y2 : Nat} (h1 : (a.data.toList.getD k 0).toNat = y1) (h2 : (b.data.toList.getD k 0).toNat = y2) : Edt.eqL (0 : UInt8) a.data.toList b.data.toList k = decide (y1 = y2) := by
  unfold Edt.eqL
  rw [Bool.eq_iff_iff]
  simp only [decide_eq_true_eq]
  constructor
  · intro e; rw [← h1, ← h2, e]
  · intro e; exact UInt8.toNat_inj.1 (by omega)
theorem eqR_is {a b : ByteArray} {k y1 y2 : Nat} (h1 : (a.data.toList.getD (a.size - 1 - k) 0).toNat = y1) (h2 : (b.data.toList.getD (b.size - 1 - k) 0).toNat = y2) : Edt.eqR (0 : UInt8) a.data.toList b.data.toList k = decide (y1 = y2) := by
  unfold Edt.eqR
  rw [ba_len, ba_len, Bool.eq_iff_iff]
  simp only [decide_eq_true_eq]
  constructor
  · intro e; rw [← h1, ← h2, e]
  · intro e; exact UInt8.toNat_inj.1 (by omega)

set_option maxHeartbeats 4000000 in
theorem refOf_any (a b : ByteArray) (ha : a.size ≤ 1099511627776) (hb : b.size ≤ 1099511627776) (w : World) :
    Calls Try.prog 11 #[.string a, .string b] w fun x w' => x = .returned (ofB a b).v ∧ Below w.heap.size w w' := by
  have hof : ofB a b = ⟨(Edt.pre 0 a.data.toList b.data.toList : Nat), ((a.size - Edt.suf 0 a.data.toList b.data.toList (Edt.pre 0 a.data.toList b.data.toList) - Edt.pre 0 a.data.toList b.data.toList : Nat) : Int), b.extract (Edt.pre 0 a.data.toList b.data.toList) (b.size - Edt.suf 0 a.data.toList b.data.toList (Edt.pre 0 a.data.toList b.data.toList))⟩ := rfl
  have hpi : ∀ n, n ≤ min a.size b.size → (∀ j, j < n → Edt.eqL 0 a.data.toList b.data.toList j = true) → (n < min a.size b.size → Edt.eqL 0 a.data.toList b.data.toList n = false) → Edt.pre 0 a.data.toList b.data.toList = n := fun n h1 h2 h3 => by
    unfold Edt.pre
    rw [ba_len, ba_len]
    exact Edt.cnt_is h1 h2 h3
  have hsi : ∀ P n, n ≤ min a.size b.size - P → (∀ j, j < n → Edt.eqR 0 a.data.toList b.data.toList j = true) → (n < min a.size b.size - P → Edt.eqR 0 a.data.toList b.data.toList n = false) → Edt.suf 0 a.data.toList b.data.toList P = n := fun P n h1 h2 h3 => by
    unfold Edt.suf
    rw [ba_len, ba_len]
    exact Edt.cnt_is h1 h2 h3
  have hfin : ∀ n k, Edt.pre 0 a.data.toList b.data.toList = n → Edt.suf 0 a.data.toList b.data.toList n = k → (ofB a b).v = .agg #[.int .i64 (n : Int), .int .i64 ((a.size - k - n : Nat) : Int), .string (b.extract n (b.size - k))] := fun n k h1 h2 => by
    rw [hof, h1, h2]; rfl
  obtain ⟨R, hR⟩ : ∃ R, (ofB a b).v = R := ⟨_, rfl⟩
  rw [hR] at hfin ⊢
  clear hof hR
  obtain ⟨m, hm⟩ : ∃ m, min a.size b.size = m := ⟨_, rfl⟩
  rw [hm] at hpi hsi
  have hma : m ≤ a.size := by omega
  have hmb : m ≤ b.size := by omega
  have hmc : m = a.size ∨ m = b.size := by omega
  clear hm
  obtain ⟨u0, hu0⟩ : ∃ u0, w.alloc (.cells #[.int .i64 0, .int .i64 0, .string ⟨#[]⟩] 23) = u0 := ⟨_, rfl⟩
  have hz0 : Below w.heap.size w u0 := by rw [← hu0]; exact box_below w _
  have hr0 : u0.heap[w.heap.size]? = some (.cells #[.int .i64 0, .int .i64 0, .string ⟨#[]⟩] 23 (0, 0)) := by rw [← hu0]; exact heap_alloc_new _ _
  have Hpi := Lib.hid hpi; clear hpi
  have Hsi := Lib.hid hsi; clear hsi
  have Hfin := Lib.hid hfin; clear hfin
  have Hz0 := Lib.hid hz0; clear hz0
  have Hr0 := Lib.hid hr0; clear hr0
  have Hu0 := Lib.hid hu0; clear hu0
  have Hmc := Lib.hid hmc; clear hmc
  go_enter Try.func11, Try.ntmps11
  go_wp2_with fail
  rw [Hu0.out]
  go_wp2_with fail
  go_loopw [5] (fun x wr => ∃ n : Nat, n ≤ m ∧ x = .int .i64 (n : Int) ∧ (∀ j, j < n → Edt.eqL 0 a.data.toList b.data.toList j = true) ∧ Below u0.heap.size u0 wr) (fun x _ => m - (intOf x).toNat)
  case atStart => exact ⟨0, Nat.zero_le _, rfl, fun j h => by omega, Below.refl _ _⟩
  case round =>
    obtain ⟨n, hn, rfl, hp, hbw⟩ := hrel
    by_cases hgo : n < m ∧ Edt.eqL 0 a.data.toList b.data.toList n = true
    · obtain ⟨hlt, heq⟩ := hgo
      have g1 : decide (n < a.size) = true := decide_eq_true (by omega)
      have g2 : decide (n < b.size) = true := decide_eq_true (by omega)
      have i1 := fun u => text_index a n (by omega) u
      have i2 := fun u => text_index b n (by omega) u
      have hp2 : ∀ j, j < n + 1 → Edt.eqL 0 a.data.toList b.data.toList j = true := fun j h => by
        rcases Nat.lt_or_ge j n with q | q
        · exact hp j q
        · rw [show j = n by omega]; exact heq
      obtain ⟨y1, hy1⟩ : ∃ y1, (a.data.toList.getD n 0).toNat = y1 := ⟨_, rfl⟩
      obtain ⟨y2, hy2⟩ : ∃ y2, (b.data.toList.getD n 0).toNat = y2 := ⟨_, rfl⟩
      rw [eqL_is hy1 hy2] at heq
      have he : y1 = y2 := of_decide_eq_true heq
      rw [hy1] at i1
      rw [hy2] at i2
      rw [← he] at i2
      have q1 : ((y1 : Int) == (y1 : Int)) = true := by simp
      have Hp2 := Lib.hid hp2; clear hp2 hp
      have Hbw := Lib.hid hbw; clear hbw
      clear hy1 hy2 heq he
      go_wp2_with fail
      go_quiet (fail)
      go_wp2_with fail
      go_roundw
      case rel => exact ⟨n + 1, by omega, by go_num, Hp2.out, drewN_below Hbw.out _⟩
      case measure => simp [intOf]; omega
    · have hno : n < m → Edt.eqL 0 a.data.toList b.data.toList n = false := fun h => by
        cases hc : Edt.eqL 0 a.data.toList b.data.toList n
        · rfl
        · exact absurd ⟨h, hc⟩ hgo
      have hpre := Hpi.out n hn hp hno
      have hmab := Hmc.out
      have Hbw := Lib.hid hbw; clear hbw
      have Hpre := Lib.hid hpre; clear hpre
      have h3 : (n = a.size ∧ True) ∨ (n < a.size ∧ n = b.size) ∨ (n < a.size ∧ n < b.size ∧ Edt.eqL 0 a.data.toList b.data.toList n = false) := by
        rcases Nat.lt_or_ge n m with q | q
        · exact .inr (.inr ⟨by omega, by omega, hno q⟩)
        · rcases Nat.lt_or_ge n a.size with q2 | q2
          · exact .inr (.inl ⟨q2, by omega⟩)
          · exact .inl ⟨by omega, trivial⟩
      clear hno hgo hp hmab
      have t1 := fun u => text_tail a n (by omega) u
      have t2 := fun u => text_tail b n (by omega) u
      have i1 : n < a.size → ∀ u, (Instr.index 9 (.string a) (.int .i64 (n : Int))).run Try.prog u = .ok (.int .u8 ((a.data.toList.getD n 0).toNat : Int)) u := fun h u => text_index a n h u
      have i2 : n < b.size → ∀ u, (Instr.index 9 (.string b) (.int .i64 (n : Int))).run Try.prog u = .ok (.int .u8 ((b.data.toList.getD n 0).toNat : Int)) u := fun h u => text_index b n h u
      obtain ⟨y1, hy1⟩ : ∃ y1, (a.data.toList.getD n 0).toNat = y1 := ⟨_, rfl⟩
      obtain ⟨y2, hy2⟩ : ∃ y2, (b.data.toList.getD n 0).toNat = y2 := ⟨_, rfl⟩
      rw [eqL_is hy1 hy2] at h3
      rw [hy1] at i1
      rw [hy2] at i2
      have Hi1 := Lib.hid i1; clear i1 hy1
      have Hi2 := Lib.hid i2; clear i2 hy2
      have T1 := Lib.hid t1; clear t1
      have T2 := Lib.hid t2; clear t2
      -- whichever of the three ended the first loop
      rcases h3 with ⟨c1, c2⟩ | ⟨c1, c2⟩ | ⟨c1, c2, c3⟩
      case' inl => have g1 : decide (n < a.size) = false := decide_eq_false (by omega)
      case' inr.inl =>
        have g1 : decide (n < a.size) = true := decide_eq_true (by omega)
        have g2 : decide (n < b.size) = false := decide_eq_false (by omega)
      case' inr.inr =>
        have g1 : decide (n < a.size) = true := decide_eq_true (by omega)
        have g2 : decide (n < b.size) = true := decide_eq_true (by omega)
        have i1 := Hi1.out c1
        have i2 := Hi2.out c2
        have c4 := of_decide_eq_false c3
        have q1 : ((y1 : Int) == (y2 : Int)) = false := by simp; omega
        clear c3 c4
      all_goals
        clear Hi1 Hi2 c1 c2
        go_wp2_with fail
        go_quiet (fail)
        have t1 := T1.out
        have t2 := T2.out
        go_wp2_with fail
        go_quiet (fail)
        clear t1 t2 T1 T2 g1
        generalize wr = wm at *
        go_wp2_with fail
        go_loopw [6, 7] (fun x y wr => ∃ (k : Nat) (X Y : ByteArray), n + k ≤ m ∧ x = .string X ∧ y = .string Y ∧ X = a.extract n (a.size - k) ∧ Y = b.extract n (b.size - k) ∧ (∀ j, j < k → Edt.eqR 0 a.data.toList b.data.toList j = true) ∧ Below u0.heap.size u0 wr) (fun x _ _ => (match x with | .string X => X.size | _ => 0))
        case atStart => exact ⟨0, _, _, hn, rfl, rfl, by simp, by simp, fun j h => by omega, drewN_below (drewN_below Hbw.out _) _⟩
        case round =>
          clear Hbw
          obtain ⟨k, X, Y, hk, rfl, rfl, hX, hY, hq, hbw⟩ := hrel
          have hsX : X.size = a.size - k - n := by rw [hX, ByteArray.size_extract]; omega
          have hsY : Y.size = b.size - k - n := by rw [hY, ByteArray.size_extract]; omega
          have hpX : 0 < X.size → (X.data.toList.getD (X.size - 1) 0).toNat = (a.data.toList.getD (a.size - 1 - k) 0).toNat := fun h => by
            rw [hsX]
            rw [hX, part_get _ _ _ _ (by omega), show n + (a.size - k - n - 1) = a.size - 1 - k by omega]
          have hpY : 0 < Y.size → (Y.data.toList.getD (Y.size - 1) 0).toNat = (b.data.toList.getD (b.size - 1 - k) 0).toNat := fun h => by
            rw [hsY]
            rw [hY, part_get _ _ _ _ (by omega), show n + (b.size - k - n - 1) = b.size - 1 - k by omega]
          obtain ⟨z1, hz1⟩ : ∃ z1, (a.data.toList.getD (a.size - 1 - k) 0).toNat = z1 := ⟨_, rfl⟩
          obtain ⟨z2, hz2⟩ : ∃ z2, (b.data.toList.getD (b.size - 1 - k) 0).toNat = z2 := ⟨_, rfl⟩
          have heR := eqR_is hz1 hz2
          rw [hz1] at hpX
          rw [hz2] at hpY
          have Hbw := Lib.hid hbw; clear hbw
          have Hq := Lib.hid hq; clear hq
          have HX := Lib.hid hX; clear hX
          have HY := Lib.hid hY; clear hY
          have HpX := Lib.hid hpX; clear hpX
          have HpY := Lib.hid hpY; clear hpY
          have HeR := Lib.hid heR; clear heR
          have HsX := Lib.hid hsX; clear hsX
          have HsY := Lib.hid hsY; clear hsY
          clear hz1 hz2
          have hgo : (0 < X.size ∧ 0 < Y.size ∧ z1 = z2) ∨ (X.size = 0 ∧ n + k = m) ∨ (0 < X.size ∧ Y.size = 0 ∧ n + k = m) ∨ (0 < X.size ∧ 0 < Y.size ∧ z1 ≠ z2 ∧ n + k < m) := by
            have h1 := HsX.out
            have h2 := HsY.out
            have h3 := Hmc.out
            rcases Nat.eq_zero_or_pos X.size with q | q
            · exact .inr (.inl ⟨q, by omega⟩)
            · rcases Nat.eq_zero_or_pos Y.size with q2 | q2
              · exact .inr (.inr (.inl ⟨q, q2, by omega⟩))
              · by_cases hz : z1 = z2
                · exact .inl ⟨q, q2, hz⟩
                · exact .inr (.inr (.inr ⟨q, q2, hz, by omega⟩))
          rcases hgo with ⟨d1, d2, d3⟩ | hgo
          · have g1 : decide (0 < X.size) = true := decide_eq_true d1
            have g2 : decide (0 < Y.size) = true := decide_eq_true d2
            have i1 := fun u => text_index X (X.size - 1) (by omega) u
            have i2 := fun u => text_index Y (Y.size - 1) (by omega) u
            have k1 : ((X.size - 1 : Nat) : Int) = (X.size : Int) - 1 := by omega
            have k2 : ((Y.size - 1 : Nat) : Int) = (Y.size : Int) - 1 := by omega
            rw [HpX.out d1, k1] at i1
            rw [HpY.out d2, k2, ← d3] at i2
            have zX : X.size ≤ 1099511627776 := by have := HsX.out; omega
            have zY : Y.size ≤ 1099511627776 := by have := HsY.out; omega
            have v1 : IntKind.i64.wrap ((X.size : Int) - 1) = (X.size : Int) - 1 := by simp only [IntKind.wrap_i64]; omega
            have v2 : IntKind.i64.wrap ((Y.size : Int) - 1) = (Y.size : Int) - 1 := by simp only [IntKind.wrap_i64]; omega
            have q1 : ((z1 : Int) == (z1 : Int)) = true := by simp
            have hq2 : ∀ j, j < k + 1 → Edt.eqR 0 a.data.toList b.data.toList j = true := fun j h => by
              rcases Nat.lt_or_ge j k with q | q
              · exact Hq.out j q
              · rw [show j = k by omega, HeR.out]; exact decide_eq_true d3
            have hnX : X.extract 0 (X.size - 1) = a.extract n (a.size - (k + 1)) := by
              have := HsX.out
              rw [this, HX.out, part_head _ _ _ _ (by omega) (by omega), show n + (a.size - k - n - 1) = a.size - (k + 1) by omega]
            have hnY : Y.extract 0 (Y.size - 1) = b.extract n (b.size - (k + 1)) := by
              have := HsY.out
              rw [this, HY.out, part_head _ _ _ _ (by omega) (by omega), show n + (b.size - k - n - 1) = b.size - (k + 1) by omega]
            have hlk : n + (k + 1) ≤ m := by
              have h1 := HsX.out
              have h2 := HsY.out
              have h3 := Hmc.out
              omega
            have t1 := fun u => text_head X (X.size - 1) (by omega) u
            have t2 := fun u => text_head Y (Y.size - 1) (by omega) u
            rw [k1] at t1
            rw [k2] at t2
            have hm1 : (X.extract 0 (X.size - 1)).size < X.size := by rw [ByteArray.size_extract]; omega
            generalize X.extract 0 (X.size - 1) = X' at *
            generalize Y.extract 0 (Y.size - 1) = Y' at *
            have Hq2 := Lib.hid hq2; clear hq2
            have HnX := Lib.hid hnX; clear hnX
            have HnY := Lib.hid hnY; clear hnY
            have T1 := Lib.hid t1; clear t1
            have T2 := Lib.hid t2; clear t2
            have Hm1 := Lib.hid hm1; clear hm1
            clear d3 k1 k2 zX zY
            go_wp2_with fail
            go_quiet (fail)
            have t1 := T1.out
            have t2 := T2.out
            clear i1 i2
            go_wp2_with fail
            go_roundw
            case rel => exact ⟨k + 1, _, _, hlk, rfl, rfl, HnX.out, HnY.out, Hq2.out, drewN_below Hbw.out _⟩
            case measure => exact Hm1.out
          · have hlast : n + k < m → Edt.eqR 0 a.data.toList b.data.toList k = false := fun h => by
              rw [HeR.out]
              rcases hgo with ⟨_, q⟩ | ⟨_, _, q⟩ | ⟨_, _, q, _⟩
              · omega
              · omega
              · exact decide_eq_false q
            have hsuf := Hsi.out n k (by omega) Hq.out (fun h => hlast (by omega))
            have hfin := Hfin.out n k Hpre.out hsuf
            rw [← HsX.out, ← HY.out] at hfin
            have Hfin2 := Lib.hid hfin; clear hfin hsuf hlast
            have hgo2 : (X.size = 0) ∨ (0 < X.size ∧ Y.size = 0) ∨ (0 < X.size ∧ 0 < Y.size ∧ z1 ≠ z2) := by
              rcases hgo with ⟨q, _⟩ | ⟨q, q2, _⟩ | ⟨q, q2, q3, _⟩
              · exact .inl q
              · exact .inr (.inl ⟨q, q2⟩)
              · exact .inr (.inr ⟨q, q2, q3⟩)
            clear hgo
            have hi1 : 0 < X.size → ∀ u, (Instr.index 9 (.string X) (.int .i64 ((X.size : Int) - 1))).run Try.prog u = .ok (.int .u8 (z1 : Int)) u := fun h u => by
              have := text_index X (X.size - 1) (by omega) u
              rw [HpX.out h, show ((X.size - 1 : Nat) : Int) = (X.size : Int) - 1 by omega] at this
              exact this
            have hi2 : 0 < Y.size → ∀ u, (Instr.index 9 (.string Y) (.int .i64 ((Y.size : Int) - 1))).run Try.prog u = .ok (.int .u8 (z2 : Int)) u := fun h u => by
              have := text_index Y (Y.size - 1) (by omega) u
              rw [HpY.out h, show ((Y.size - 1 : Nat) : Int) = (Y.size : Int) - 1 by omega] at this
              exact this
            have zX : X.size ≤ 1099511627776 := by have := HsX.out; omega
            have zY : Y.size ≤ 1099511627776 := by have := HsY.out; omega
            have hrow := Below.row Hbw.out Hr0.out
            have hbe := Hz0.out.trans (Hbw.out.mono Hz0.out.size)
            have Hrow := Lib.hid hrow; clear hrow
            have Hbe := Lib.hid hbe; clear hbe
            have Hi1 := Lib.hid hi1; clear hi1
            have Hi2 := Lib.hid hi2; clear hi2
            rcases hgo2 with d1 | ⟨d1, d2⟩ | ⟨d1, d2, d3⟩
            have g1 : decide (0 < X.size) = false := decide_eq_false (by omega)
            clear d1
            rotate_left
            have g1 : decide (0 < X.size) = true := decide_eq_true d1
            have g2 : decide (0 < Y.size) = false := decide_eq_false (by omega)
            clear d1 d2
            rotate_left
            have g1 : decide (0 < X.size) = true := decide_eq_true d1
            have g2 : decide (0 < Y.size) = true := decide_eq_true d2
            have v1 : IntKind.i64.wrap ((X.size : Int) - 1) = (X.size : Int) - 1 := by simp only [IntKind.wrap_i64]; omega
            have v2 : IntKind.i64.wrap ((Y.size : Int) - 1) = (Y.size : Int) - 1 := by simp only [IntKind.wrap_i64]; omega
            have i1 := Hi1.out d1
            have i2 := Hi2.out d2
            have q1 : ((z1 : Int) == (z2 : Int)) = false := by simp; omega
            clear d3
            rotate_left
            all_goals
              clear Hi1 Hi2
              go_wp2_with fail
              go_quiet (fail)
              have hrow : (wr.drewN nq).heap[w.heap.size]? = some (.cells #[.int .i64 0, .int .i64 0, .string ⟨#[]⟩] 23 (0, 0)) := Hrow.out
              have hbe : Below w.heap.size w (wr.drewN nq) := drewN_below Hbe.out nq
              generalize wr.drewN nq = w4 at *
              have e0 : w4.cell? ⟨w.heap.size, 0, none⟩ = some (.int .i64 0) := cell_of_row _ _ 0 _ _ _ hrow
              have e1 : w4.cell? ⟨w.heap.size, 1, none⟩ = some (.int .i64 0) := cell_of_row _ _ 1 _ _ _ hrow
              have e2 : w4.cell? ⟨w.heap.size, 2, none⟩ = some (.string ⟨#[]⟩) := cell_of_row _ _ 2 _ _ _ hrow
              have f0 := row_free hrow 0
              have f1 := row_free hrow 1
              have f2 := row_free hrow 2
              have Hrow4 := Lib.hid hrow; clear hrow
              have Hbe4 := Lib.hid hbe; clear hbe
              clear g1
              go_wp2_with fail
              refine bodyPost_ret (v := .agg #[.int .i64 (n : Int), .int .i64 (X.size : Int), .string Y]) (results_cell_row (P := Try.prog) rfl _ _ w.heap.size _ #[.int .i64 (n : Int), .int .i64 (X.size : Int), .string Y] (0, 0) _ rfl (edit_row (n : Int) (X.size : Int) Y Hrow4.out) Try.underlying23 rfl (by kernel_rfl)) rfl ?_
              exact ⟨by rw [Hfin2.out], ((Hbe4.out.setCell (Nat.le_refl _) _).setCell (Nat.le_refl _) _).setCell (Nat.le_refl _) _⟩
end Go.Proofs.Ytcmlcpejlmlcfaa
