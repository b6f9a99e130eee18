/- Put together of: RabSmall GoU8 RabRef RabMem GoPhase GoPh2 -/
import Derived.Test.YtcmlcpejlmlcfaaPolAll
import Derived.Test.YtcmlcpejlmlcfaaRabPure
import Derived.Test.YtcmlcpejlmlcfaaRows
import Derived.Test.YtcmlcpejlmlcfaaGoAll
import Derived.Deep.Slices
import Derived.Deep.MidRow
set_option maxRecDepth 100000
/-
  What divides, Check, followed and Of return.
-/
set_option linter.unusedVariables false
namespace Go.Proofs.Ytcmlcpejlmlcfaa
open Go.RowKit

theorem divides_any (p : Nat) (hp : p < 18446744073709551616) (w : World) :
    Calls Try.prog 79 #[.int .u64 p] w fun e w' => e = .returned (.bool (decide (9 ≤ Pol.len p ∧ Pol.len p ≤ 57))) ∧ w = w' := by
  have cp := fun u => deg_any p hp u
  have Cp := Lib.hid cp; clear cp
  have hlp := len64 hp
  have Hp := Lib.hid hp; clear hp
  generalize Pol.len p = L at *
  go_enter Try.func79, Try.ntmps79
  go_wp2_with fail
  refine (Cp.out _).mono ?_; rintro e w1 ⟨rfl, rfl⟩
  by_cases h1 : 9 ≤ L
  · have g1 : decide ((8 : Int) ≤ ((L : Int) - 1)) = true := decide_eq_true (by omega)
    by_cases h2 : L ≤ 57
    · have g2 : decide (((L : Int) - 1) ≤ 56) = true := decide_eq_true (by omega)
      go_wp2_with fail
      go_ret
      exact ⟨by rw [decide_eq_true (⟨h1, h2⟩ : 9 ≤ L ∧ L ≤ 57)]; rfl, rfl⟩
    · have g2 : decide (((L : Int) - 1) ≤ 56) = false := decide_eq_false (by omega)
      go_wp2_with fail
      go_ret
      exact ⟨by rw [decide_eq_false (fun h => h2 h.2 : ¬ (9 ≤ L ∧ L ≤ 57))]; rfl, rfl⟩
  · have g1 : decide ((8 : Int) ≤ ((L : Int) - 1)) = false := decide_eq_false (by omega)
    go_wp2_with fail
    go_ret
    exact ⟨by rw [decide_eq_false (fun h => h1 h.1 : ¬ (9 ≤ L ∧ L ≤ 57))]; rfl, rfl⟩

/-- may there be a roller? -/
def rabMay (p : Nat) (n : Int) : Prop := Pol.fine p ∧ 1 ≤ n ∧ n ≤ 64
instance (p : Nat) (n : Int) : Decidable (rabMay p n) := by unfold rabMay Pol.fine; infer_instance

theorem check_any (p : Nat) (n : Int) (hp : p < 18446744073709551616) (w : World) :
    (¬ rabMay p n → Calls Try.prog 70 #[.int .u64 p, .int .i64 n] w fun e w' => e = .returned (.int .i64 2) ∧ w = w') ∧
    (rabMay p n → Calls Try.prog 70 #[.int .u64 p, .int .i64 n] w fun e w' => e = .returned (.int .i64 0) ∧ w = w') := by
  have cd := fun u => divides_any p hp u
  by_cases hf : 9 ≤ Pol.len p ∧ Pol.len p ≤ 57
  · rw [decide_eq_true hf] at cd
    have Cd := Lib.hid cd; clear cd
    by_cases h1 : n < 1
    · refine ⟨fun _ => ?_, fun h => by have := h.2; omega⟩
      have g : decide (n < 1) = true := decide_eq_true h1
      clear hp hf
      go_enter Try.func70, Try.ntmps70
      go_wp2_with fail
      refine (Cd.out _).mono ?_; rintro e w1 ⟨rfl, rfl⟩
      go_wp2_with fail
      go_ret
      exact ⟨rfl, rfl⟩
    · have g : decide (n < 1) = false := decide_eq_false h1
      by_cases h2 : 64 < n
      · refine ⟨fun _ => ?_, fun h => by have := h.2; omega⟩
        have g2 : decide (64 < n) = true := decide_eq_true h2
        clear hp hf
        go_enter Try.func70, Try.ntmps70
        go_wp2_with fail
        refine (Cd.out _).mono ?_; rintro e w1 ⟨rfl, rfl⟩
        go_wp2_with fail
        go_ret
        exact ⟨rfl, rfl⟩
      · refine ⟨fun h => absurd ⟨hf, by omega, by omega⟩ h, fun _ => ?_⟩
        have g2 : decide (64 < n) = false := decide_eq_false h2
        clear hp hf
        go_enter Try.func70, Try.ntmps70
        go_wp2_with fail
        refine (Cd.out _).mono ?_; rintro e w1 ⟨rfl, rfl⟩
        go_wp2_with fail
        go_ret
        exact ⟨rfl, rfl⟩
  · refine ⟨fun _ => ?_, fun h => absurd h.1 hf⟩
    rw [decide_eq_false hf] at cd
    have Cd := Lib.hid cd; clear cd
    clear hp hf
    go_enter Try.func70, Try.ntmps70
    go_wp2_with fail
    refine (Cd.out _).mono ?_; rintro e w1 ⟨rfl, rfl⟩
    go_wp2_with fail
    go_ret
    exact ⟨rfl, rfl⟩

theorem fp_room {p f : Nat} (hp : Pol.fine p) (hf : Pol.len f < Pol.len p) : f < 72057594037927936 :=
  (Pol.len_le f 56).1 (by have := hp.2; omega)

theorem followed_any (f b p : Nat) (hp : Pol.fine p) (hf : Pol.len f < Pol.len p) (hb : b < 256) (w : World) :
    Calls Try.prog 75 #[.int .u64 f, .int .u8 b, .int .u64 p] w fun e w' => e = .returned (.int .u64 (Pol.foll p f b : Nat)) ∧ w = w' := by
  have hr := fp_room hp hf
  have c := fun u => (mod_any (f * 256 + b) p (by omega) (Pol.fine_lt hp) u).2 (Pol.fine_ne hp)
  have ho : bits .or .u64 ((f : Int) * 256) (b : Int) = ((f * 256 + b : Nat) : Int) := by
    have h1 := Nat.two_pow_add_eq_or_of_lt (i := 8) (show b < 2 ^ 8 by omega) f
    rw [show (2 : Nat) ^ 8 = 256 from rfl, Nat.mul_comm] at h1
    rw [show (f : Int) * 256 = ((f * 256 : Nat) : Int) by omega, u64_or_nat _ _ (by omega) (by omega), ← h1]
  have w1 := wrap_u64_in ((f : Int) * 256) (by omega) (by omega)
  have w2 := wrap_u64_in (b : Int) (by omega) (by omega)
  rw [show Pol.rem (f * 256 + b) p = Pol.foll p f b from rfl] at c
  generalize Pol.foll p f b = r at *
  have C := Lib.hid c; clear c
  have Ho := Lib.hid ho; clear ho
  clear hr hp hf hb
  go_enter Try.func75, Try.ntmps75
  go_wp2_with fail
  rw [Ho.out]
  refine (C.out _).mono ?_; rintro e w1 ⟨rfl, rfl⟩
  go_wp2_with fail
  go_ret
  exact ⟨rfl, rfl⟩

end Go.Proofs.Ytcmlcpejlmlcfaa

/-
  A row of noughts that is made, and the text of it.
-/
set_option linter.unusedVariables false
namespace Go.Proofs.Ytcmlcpejlmlcfaa
open Go.RowKit

theorem noughts_made (n : Nat) : madeCells (Value.int .u8 0).cells n = u8s (List.replicate n 0) := by
  rw [u8s_zeros]
  apply Array.ext
  · simp [madeCells]
  · intro i h1 h2
    simp [madeCells, Value.cells, Nat.mod_one]
theorem make_noughts (m : Nat) (hm : m ≤ 140737488355328) (u : World) : (Instr.makeSlice 50 (.int .i64 (m : Int)) (.int .i64 (m : Int))).run Try.prog u = .ok (.slice (some ⟨u.heap.size, 0, none⟩) m m) (u.alloc (.cells (u8s (List.replicate m 0)) 5)) := by
  obtain ⟨i, hi, h0, h1, h2⟩ := info_parts (show (Try.prog.info? 5).map (fun i => (i.zero, i.size, i.bytes)) = some (some (.int .u8 0), 1, 1) by kernel_rfl)
  have := run_make (P := Try.prog) u 50 5 i (.int .u8 0) Try.underlying50 hi h0 .i64 .i64 (m : Int) (m : Int) (by omega) (by omega) (by rw [h2]; omega) (by omega)
  rw [this, h1, Int.toNat_natCast, Nat.mul_one, noughts_made]
theorem conv_noughts (n : Nat) (u : World) : (convert 50 9 (.slice (some ⟨u.heap.size, 0, none⟩) n n)).run Try.prog (u.alloc (.cells (u8s (List.replicate n 0)) 5)) = .ok (.string ⟨(List.replicate n 0).toArray⟩) (u.alloc (.cells (u8s (List.replicate n 0)) 5)) := by
  have h := ArrB.start u 5 n
  rw [← u8s_zeros] at h
  have r := h.conv (P := Try.prog) 50 9 5 Try.underlying50 Try.underlying5 Try.underlying9 n n (by simp)
  rw [List.take_of_length_le (by simp)] at r
  exact r
end Go.Proofs.Ytcmlcpejlmlcfaa

/-
  What the document's Deg, May, Of and Last return.
-/
set_option linter.unusedVariables false
namespace Go.Proofs.Ytcmlcpejlmlcfaa
open Go.RowKit

theorem rdeg_any (p : Nat) (hp : p < 18446744073709551616) (w : World) :
    Calls Try.prog 43 #[.int .u64 p] w fun e w' => e = .returned (.bool (decide (9 ≤ Pol.len p ∧ Pol.len p ≤ 57))) ∧ w = w' := by
  have cp := fun u => refDeg_any p hp u
  have Cp := Lib.hid cp; clear cp
  have hlp := len64 hp
  have Hp := Lib.hid hp; clear hp
  generalize Pol.len p = L at *
  go_enter Try.func43, Try.ntmps43
  go_wp2_with fail
  refine (Cp.out _).mono ?_; rintro e w1 ⟨rfl, rfl⟩
  by_cases h1 : 9 ≤ L
  · have g1 : decide ((8 : Int) ≤ ((L : Int) - 1)) = true := decide_eq_true (by omega)
    go_wp2_with fail
    refine (Cp.out _).mono ?_; rintro e w1 ⟨rfl, rfl⟩
    by_cases h2 : L ≤ 57
    · have g2 : decide (((L : Int) - 1) ≤ 56) = true := decide_eq_true (by omega)
      go_wp2_with fail
      go_ret
      exact ⟨by rw [decide_eq_true (⟨h1, h2⟩ : 9 ≤ L ∧ L ≤ 57)]; rfl, rfl⟩
    · have g2 : decide (((L : Int) - 1) ≤ 56) = false := decide_eq_false (by omega)
      go_wp2_with fail
      go_ret
      exact ⟨by rw [decide_eq_false (fun h => h2 h.2 : ¬ (9 ≤ L ∧ L ≤ 57))]; rfl, rfl⟩
  · have g1 : decide ((8 : Int) ≤ ((L : Int) - 1)) = false := decide_eq_false (by omega)
    go_wp2_with fail
    go_ret
    exact ⟨by rw [decide_eq_false (fun h => h1 h.1 : ¬ (9 ≤ L ∧ L ≤ 57))]; rfl, rfl⟩

theorem rmay_any (p : Nat) (n : Int) (hp : p < 18446744073709551616) (w : World) :
    Calls Try.prog 28 #[.int .u64 p, .int .i64 n] w fun e w' => e = .returned (.bool (decide (rabMay p n))) ∧ w = w' := by
  have cd := fun u => rdeg_any p hp u
  by_cases hf : 9 ≤ Pol.len p ∧ Pol.len p ≤ 57
  · rw [decide_eq_true hf] at cd
    have Cd := Lib.hid cd; clear cd
    by_cases h1 : n < 1
    · rw [decide_eq_false (show ¬ rabMay p n from fun h => by have := h.2; omega)]
      have g : decide (1 ≤ n) = false := decide_eq_false (by omega)
      clear hp hf
      go_enter Try.func28, Try.ntmps28
      go_wp2_with fail
      refine (Cd.out _).mono ?_; rintro e w1 ⟨rfl, rfl⟩
      go_wp2_with fail
      go_ret
      exact ⟨rfl, rfl⟩
    · have g : decide (1 ≤ n) = true := decide_eq_true (by omega)
      by_cases h2 : 64 < n
      · rw [decide_eq_false (show ¬ rabMay p n from fun h => by have := h.2; omega)]
        have g2 : decide (n ≤ 64) = false := decide_eq_false (by omega)
        clear hp hf
        go_enter Try.func28, Try.ntmps28
        go_wp2_with fail
        refine (Cd.out _).mono ?_; rintro e w1 ⟨rfl, rfl⟩
        go_wp2_with fail
        go_ret
        exact ⟨rfl, rfl⟩
      · rw [decide_eq_true (show rabMay p n from ⟨hf, by omega, by omega⟩)]
        have g2 : decide (n ≤ 64) = true := decide_eq_true (by omega)
        clear hp hf
        go_enter Try.func28, Try.ntmps28
        go_wp2_with fail
        refine (Cd.out _).mono ?_; rintro e w1 ⟨rfl, rfl⟩
        go_wp2_with fail
        go_ret
        exact ⟨rfl, rfl⟩
  · rw [decide_eq_false hf] at cd
    rw [decide_eq_false (show ¬ rabMay p n from fun h => hf h.1)]
    have Cd := Lib.hid cd; clear cd
    clear hp hf
    go_enter Try.func28, Try.ntmps28
    go_wp2_with fail
    refine (Cd.out _).mono ?_; rintro e w1 ⟨rfl, rfl⟩
    go_wp2_with fail
    go_ret
    exact ⟨rfl, rfl⟩

/-- bit k of a byte, as the walk writes it -/
theorem byte_bit (b k : Nat) (hb : b < 256) : ((b : Int) / 2 ^ k).tmod 2 = ((b / 2 ^ k % 2 : Nat) : Int) := bit_tmod b k
theorem bit_in {p f b : Nat} (hp : Pol.fine p) (hf : Pol.len f < Pol.len p) (hb : b < 2) : bits .or .u64 ((f : Int) * 2) (b : Int) = ((2 * f + b : Nat) : Int) := by
  have hr := fp_room hp hf
  have h1 := Nat.two_pow_add_eq_or_of_lt (i := 1) (show b < 2 ^ 1 by omega) f
  rw [Nat.pow_one] at h1
  rw [show (f : Int) * 2 = ((2 * f : Nat) : Int) by omega, u64_or_nat _ _ (by omega) (by omega), ← h1]

theorem rof_any (p : Nat) (s : ByteArray) (hp : Pol.fine p) (hs : s.size ≤ 9223372036854775807) (w : World) :
    Calls Try.prog 64 #[.int .u64 p, .string s] w fun e w' => e = .returned (.int .u64 (Pol.fp p s.data.toList : Nat)) ∧ w = w' := by
  have hp64 := Pol.fine_lt hp
  have hp0 := Pol.fine_ne hp
  obtain ⟨R, hR⟩ : ∃ R, R = Pol.fp p s.data.toList := ⟨_, rfl⟩
  rw [← hR]
  have HR := Lib.hid hR; clear hR
  have hlen := fun k => Pol.fp_len hp0 (s.data.toList.take k)
  have Hlen := Lib.hid hlen; clear hlen
  have hst : ∀ k (hk : k < s.size), Pol.fp p (s.data.toList.take (k + 1)) = Pol.foll p (Pol.fp p (s.data.toList.take k)) (s[k]).toNat := fun k hk => by
    rw [List.take_succ_eq_append_getElem (by rw [ba_len]; exact hk), Pol.fp_snoc, ba_get s k hk]
  have Hst := Lib.hid hst; clear hst
  have hall : s.data.toList.take s.size = s.data.toList := List.take_of_length_le (by rw [ba_len]; exact Nat.le_refl _)
  have Hall := Lib.hid hall; clear hall
  -- the bits of one byte
  have hb0 : ∀ f b, Pol.len f < Pol.len p → b < 256 → Pol.rem (f * 2 ^ 0 + b / 2 ^ (8 - 0)) p = f := fun f b hf hb => by
    rw [Nat.pow_zero, Nat.mul_one, show b / 2 ^ (8 - 0) = 0 by omega, Nat.add_zero]
    exact Pol.rem_small hf
  have hb8 : ∀ f b, Pol.rem (f * 2 ^ 8 + b / 2 ^ (8 - 8)) p = Pol.foll p f b := fun f b => by
    rw [Nat.sub_self, Nat.pow_zero, Nat.div_one]; rfl
  have hbs : ∀ f b k, k < 8 → Pol.rem (2 * Pol.rem (f * 2 ^ k + b / 2 ^ (8 - k)) p + b / 2 ^ (7 - k) % 2) p = Pol.rem (f * 2 ^ (k + 1) + b / 2 ^ (8 - (k + 1))) p := fun f b k hk => by
    rcases Pol.bits_step hp0 f b k with h | h
    · rw [show 8 - (k + 1) = 7 - k by omega] at h ⊢; exact h
    · omega
  have hbl : ∀ x, Pol.len (Pol.rem x p) < Pol.len p := fun x => Pol.rem_len x hp0
  have cm := fun a ha u => (refMod_any a p ha hp64 u).2 hp0
  have hin := fun f b hf hb => bit_in (p := p) (f := f) (b := b) hp hf hb
  have hroom := fun f (hf : Pol.len f < Pol.len p) => fp_room hp hf
  have Hb0 := Lib.hid hb0; clear hb0
  have Hb8 := Lib.hid hb8; clear hb8
  have Hbs := Lib.hid hbs; clear hbs
  have Hbl := Lib.hid hbl; clear hbl
  have Cm := Lib.hid cm; clear cm
  have Hin := Lib.hid hin; clear hin
  have Hroom := Lib.hid hroom; clear hroom
  clear hp hp64 hp0
  go_enter Try.func64, Try.ntmps64
  go_wp2_with fail
  go_loop [5, 6] (fun f i => ∃ k : Nat, k ≤ s.size ∧ i = .int .i64 (k : Int) ∧ f = .int .u64 (Pol.fp p (s.data.toList.take k) : Nat)) (fun _ i => s.size - (intOf i).toNat)
  case atStart => exact ⟨0, Nat.zero_le _, rfl, rfl⟩
  case round =>
    obtain ⟨k, hk, rfl, rfl⟩ := hrel
    by_cases hc : k = s.size
    · subst hc
      rw [Hall.out, ← HR.out]
      have hge : decide ((s.size : Int) < (s.size : Int)) = false := decide_eq_false (by omega)
      go_wp2_with fail
      go_ret
      exact ⟨rfl, rfl⟩
    · have hlt : k < s.size := by omega
      have hge : decide ((k : Int) < (s.size : Int)) = true := decide_eq_true (by omega)
      have hge' : decide (k < s.size) = true := decide_eq_true hlt
      have hf := Hlen.out k
      have hb := (s[k]).toNat_lt
      have hst := Hst.out k hlt
      generalize Pol.fp p (s.data.toList.take k) = f at *
      generalize hf2 : Pol.fp p (s.data.toList.take (k + 1)) = f2 at *
      have Hf2 := Lib.hid hf2; clear hf2
      have hB : ((s[k]).toNat : Int) = ((s[k]).toNat : Int) := rfl
      obtain ⟨b, hbe⟩ : ∃ b, b = (s[k]).toNat := ⟨_, rfl⟩
      rw [← hbe] at hst hb
      have Hst1 := Lib.hid hst; clear hst
      have Hbe := Lib.hid hbe; clear hbe hB
      have h0 := Hb0.out f b hf hb
      have Hf := Lib.hid hf; clear hf
      have H0 := Lib.hid h0; clear h0
      go_wp2_with fail
      go_loop [5, 7] (fun g i => ∃ j : Nat, j ≤ 8 ∧ i = .int .i64 (7 - (j : Int)) ∧ g = .int .u64 (Pol.rem (f * 2 ^ j + b / 2 ^ (8 - j)) p : Nat)) (fun _ i => (intOf i + 1).toNat)
      case atStart => exact ⟨0, by omega, rfl, by rw [H0.out]⟩
      case round =>
        obtain ⟨j, hj, rfl, rfl⟩ := hrel
        by_cases h8 : j = 8
        · subst h8
          rw [Hb8.out, ← Hst1.out]
          have g1 : decide ((0 : Int) ≤ (7 - ((8 : Nat) : Int))) = false := by decide
          go_wp2_with fail
          go_round
          case rel => exact ⟨k + 1, by omega, by go_num, by rw [Hf2.out]⟩
          case measure => simp [intOf]; omega
        · obtain ⟨m, hm⟩ : ∃ m : Nat, m + j = 7 := ⟨7 - j, by omega⟩
          have e1 : (7 - (j : Int)) = (m : Int) := by omega
          rw [e1]
          have g1 : decide ((0 : Int) ≤ (m : Int)) = true := decide_eq_true (by omega)
          have hs8 := Hbs.out f b j (by omega)
          rw [show 7 - j = m by omega] at hs8
          have hgl := Hbl.out (f * 2 ^ j + b / 2 ^ (8 - j))
          have hgr := Hroom.out _ hgl
          generalize Pol.rem (f * 2 ^ j + b / 2 ^ (8 - j)) p = g at *
          have hy : b / 2 ^ m % 2 < 2 := Nat.mod_lt _ (by decide)
          have ho := Hin.out g _ hgl hy
          have hbt := byte_bit b m hb
          have c := fun u => Cm.out (2 * g + b / 2 ^ m % 2) (by omega) u
          rw [hs8] at c
          generalize b / 2 ^ m % 2 = y at *
          generalize hg2 : Pol.rem (f * 2 ^ (j + 1) + b / 2 ^ (8 - (j + 1))) p = g2 at *
          have Hg2 := Lib.hid hg2; clear hg2
          have C := Lib.hid c; clear c
          have w1 := wrap_u64_in ((g : Int) * 2) (by omega) (by omega)
          have w2 := wrap_u64_in (y : Int) (by omega) (by omega)
          have Ho := Lib.hid ho; clear ho
          have hm7 : m ≤ 7 := by omega
          have hbt2 : ((((s[k]).toNat : Nat) : Int) / 2 ^ m).tmod 2 = (y : Int) := by rw [← Hbe.out]; exact hbt
          have Hbt := Lib.hid hbt2; clear hbt2 hbt
          have W2 := Lib.hid w2; clear w2
          clear hs8 hgl hgr hy e1
          go_wp2_with fail
          rw [Hbt.out, W2.out, Ho.out]
          refine (C.out _).mono ?_; rintro e w1 ⟨rfl, rfl⟩
          go_wp2_with fail
          go_round
          case rel => exact ⟨j + 1, by omega, by go_num, by rw [Hg2.out]⟩
          case measure => simp [intOf]

theorem rlast_any (s : ByteArray) (n : Nat) (hn : n ≤ 64) (hs : s.size ≤ 140737488351232) (w : World) :
    Calls Try.prog 65 #[.string s, .int .i64 (n : Int)] w fun e w' => e = .returned (.string ⟨(Pol.last n s.data.toList).toArray⟩) ∧ Below w.heap.size w w' := by
  have hm := make_noughts n (by omega)
  have hc := conv_noughts n
  have hsz : (⟨(List.replicate n (0 : UInt8)).toArray⟩ : ByteArray).size = n := by simp [ByteArray.size]
  have hz : n + s.size < 9223372036854775808 := by omega
  have e1 : ((⟨(List.replicate n (0 : UInt8)).toArray⟩ : ByteArray) ++ s) = ⟨(List.replicate n 0 ++ s.data.toList).toArray⟩ := by
    have := cat_list (List.replicate n 0) s.data.toList
    rwa [ba_eta] at this
  go_enter Try.func65, Try.ntmps65
  go_wp2_with fail
  go_ret
  refine ⟨ret_string ?_, ((Below.refl _ w).alloc (Nat.le_refl _) _)⟩
  have e2 : (⟨Array.replicate n (0 : UInt8)⟩ : ByteArray) = ⟨(List.replicate n (0 : UInt8)).toArray⟩ := by rw [List.toArray_replicate]
  rw [e2, e1, Lib.extract_eq]
  congr 1
  apply Array.ext'
  simp only [Pol.last]
  rw [show s.data.toList.length = s.size from ba_len s, List.take_of_length_le (by simp), show n + s.size - n = s.size by omega]
end Go.Proofs.Ytcmlcpejlmlcfaa

/-
  How a roller lies in memory: 64 bytes, how many of them are its window's, the oldest one's place, its polynomial, what each byte still counts, its fingerprint.
-/
set_option linter.unusedVariables false
namespace Go.Proofs.Ytcmlcpejlmlcfaa
open Go.RowKit

structure Rol where
  bs : List UInt8
  n : Nat
  o : Nat
  p : Nat
  g : List Nat
  f : Nat
def u64l (l : List Nat) : List Value := l.map fun (n : Nat) => Value.int .u64 (n : Int)
def Rol.list (r : Rol) : List Value := (u8s r.bs).toList ++ (.int .i64 (r.n : Int) :: .int .i64 (r.o : Int) :: .int .u64 (r.p : Int) :: (u64l r.g ++ [.int .u64 (r.f : Int)]))
def Rol.cells (r : Rol) : Array Value := r.list.toArray
/-- of whatever window, of whatever table: the sizes are right -/
structure Rol.Fit (r : Rol) : Prop where
  bs : r.bs.length = 64
  g : r.g.length = 256
  n1 : 1 ≤ r.n
  n2 : r.n ≤ 64
  o : r.o < r.n
/-- the window's bytes are W -/
structure Rol.Ok (r : Rol) (W : List UInt8) : Prop where
  fit : r.Fit
  p : Pol.fine r.p
  g : ∀ v, v < 256 → r.g.getD v 0 = Pol.gone r.p r.n v
  w : Pol.wind r.bs r.n r.o = W
  f : r.f = Pol.fp r.p W

theorem u8s_list (bs : List UInt8) : (u8s bs).toList = bs.map fun (b : UInt8) => Value.int .u8 (b.toNat : Int) := by simp [u8s]
theorem Rol.list_length {r : Rol} (h : r.Fit) : r.list.length = 324 := by simp [Rol.list, u8s_list, u64l, h.bs, h.g]
theorem Rol.size {r : Rol} (h : r.Fit) : r.cells.size = 324 := by simp [Rol.cells, Rol.list_length h]
theorem Rol.byte {r : Rol} (h : r.Fit) (j : Nat) (hj : j < 64) : r.cells[j]? = some (.int .u8 ((r.bs.getD j 0).toNat : Int)) := by
  have hb := h.bs
  rw [Rol.cells, List.getElem?_toArray, Rol.list, List.getElem?_append_left (by rw [u8s_list]; simp; omega), u8s_list, List.getElem?_map, List.getD_eq_getElem?_getD, List.getElem?_eq_getElem (by omega)]
  rfl
theorem Rol.mid {r : Rol} (h : r.Fit) (j : Nat) : r.cells[64 + j]? = (Value.int .i64 (r.n : Int) :: .int .i64 (r.o : Int) :: .int .u64 (r.p : Int) :: (u64l r.g ++ [.int .u64 (r.f : Int)]))[j]? := by
  have hb := h.bs
  rw [Rol.cells, List.getElem?_toArray, Rol.list, List.getElem?_append_right (by rw [u8s_list]; simp; omega)]
  congr 1
  rw [u8s_list]; simp; omega
theorem Rol.c64 {r : Rol} (h : r.Fit) : r.cells[64]? = some (.int .i64 (r.n : Int)) := Rol.mid h 0
theorem Rol.c65 {r : Rol} (h : r.Fit) : r.cells[65]? = some (.int .i64 (r.o : Int)) := Rol.mid h 1
theorem Rol.c66 {r : Rol} (h : r.Fit) : r.cells[66]? = some (.int .u64 (r.p : Int)) := Rol.mid h 2
theorem Rol.tab {r : Rol} (h : r.Fit) (v : Nat) (hv : v < 256) : r.cells[67 + v]? = some (.int .u64 (r.g.getD v 0 : Nat)) := by
  have hg := h.g
  rw [show 67 + v = 64 + (v + 3) by omega, Rol.mid h]
  show (u64l r.g ++ [.int .u64 (r.f : Int)])[v]? = _
  rw [List.getElem?_append_left (by simp [u64l]; omega), u64l, List.getElem?_map, List.getD_eq_getElem?_getD, List.getElem?_eq_getElem (by omega)]
  rfl
theorem Rol.c323 {r : Rol} (h : r.Fit) : r.cells[323]? = some (.int .u64 (r.f : Int)) := by
  have hg := h.g
  rw [show 323 = 64 + (256 + 3) by omega, Rol.mid h]
  show (u64l r.g ++ [.int .u64 (r.f : Int)])[256]? = _
  rw [List.getElem?_append_right (by simp [u64l]; omega)]
  simp [u64l, hg]
theorem Rol.one (r : Rol) : r.cells.all (·.oneCell') = true := by
  rw [Array.all_eq_true_iff_forall_mem]
  intro v hv
  simp only [Rol.cells, Rol.list, u8s_list, u64l, List.mem_toArray, List.mem_append, List.mem_cons, List.mem_map, List.not_mem_nil, or_false] at hv
  rcases hv with ⟨_, _, rfl⟩ | rfl | rfl | rfl | ⟨_, _, rfl⟩ | rfl <;> rfl

theorem Rol.set_byte {r : Rol} (h : r.Fit) (j : Nat) (hj : j < 64) (b : UInt8) : r.cells.setIfInBounds j (.int .u8 (b.toNat : Int)) = Rol.cells { r with bs := r.bs.set j b } := by
  have hb := h.bs
  apply Array.ext'
  simp only [Rol.cells, Rol.list, Array.toList_setIfInBounds, u8s_list]
  rw [List.set_append_left _ _ (by simp; omega), List.map_set]
theorem Rol.set_mid {r : Rol} (h : r.Fit) (j : Nat) (v : Value) : r.cells.setIfInBounds (64 + j) v = ((u8s r.bs).toList ++ (Value.int .i64 (r.n : Int) :: .int .i64 (r.o : Int) :: .int .u64 (r.p : Int) :: (u64l r.g ++ [.int .u64 (r.f : Int)])).set j v).toArray := by
  have hb := h.bs
  apply Array.ext'
  simp only [Rol.cells, Rol.list, Array.toList_setIfInBounds]
  rw [List.set_append_right _ _ (by rw [u8s_list]; simp; omega)]
  congr 2
  rw [u8s_list]; simp; omega
theorem Rol.set_o {r : Rol} (h : r.Fit) (o : Nat) : r.cells.setIfInBounds 65 (.int .i64 (o : Int)) = Rol.cells { r with o := o } := Rol.set_mid h 1 _
theorem Rol.set_f {r : Rol} (h : r.Fit) (f : Nat) : r.cells.setIfInBounds 323 (.int .u64 (f : Int)) = Rol.cells { r with f := f } := by
  have hg := h.g
  rw [show 323 = 64 + (256 + 3) by omega, Rol.set_mid h]
  show ((u8s r.bs).toList ++ (Value.int .i64 (r.n : Int) :: .int .i64 (r.o : Int) :: .int .u64 (r.p : Int) :: (u64l r.g ++ [Value.int .u64 (r.f : Int)]).set 256 _)).toArray = _
  rw [List.set_append_right _ _ (by simp [u64l]; omega)]
  simp [Rol.cells, Rol.list, u64l, hg]

/-- block b is the roller r -/
def RolAt (b : Nat) (r : Rol) (w : World) : Prop := w.heap[b]? = some (.cells r.cells 114 (0, 0))
section
variable {b : Nat} {r : Rol} {w w' : World}
theorem RolAt.cell (h : RolAt b r w) {j : Nat} {v : Value} (hv : r.cells[j]? = some v) : w.cell? ⟨b, j, none⟩ = some v := by rw [cell_of_row w b j _ _ _ h]; exact hv
theorem RolAt.free (h : RolAt b r w) (j : Nat) : w.frozen? ⟨b, j, none⟩ = false := row_free h j
theorem RolAt.lt (h : RolAt b r w) : b < w.heap.size := row_lt h
theorem RolAt.set (h : RolAt b r w) (j : Nat) (v : Value) {r' : Rol} (hr : r.cells.setIfInBounds j v = r'.cells) : RolAt b r' (w.setCell ⟨b, j, none⟩ v) := by
  unfold RolAt; rw [heap_setCell_same w b j _ _ _ h, hr]
theorem RolAt.same (h : RolAt b r w) (e : w'.heap[b]? = w.heap[b]?) : RolAt b r w' := by unfold RolAt; rw [e]; exact h
theorem RolAt.new (h : RolAt b r w) (hb : Below w.heap.size w w') : RolAt b r w' := h.same (hb.block b h.lt)
theorem RolAt.keeps {T : Nat → Prop} (h : RolAt b r w) (ht : Turns T w w') (hT : ¬ T b) : RolAt b r w' := h.same (ht.block b h.lt hT)
theorem RolAt.drew (h : RolAt b r w) (n : Nat) : RolAt b r (w.drewN n) := h
end
/-- a byte is pushed into the window -/
def Rol.push (r : Rol) (x : UInt8) : Rol := { r with bs := r.bs.set r.o x, o := (r.o + 1) % r.n }
theorem Rol.push_fit {r : Rol} (h : r.Fit) (x : UInt8) : (r.push x).Fit :=
  ⟨by simp [Rol.push, h.bs], h.g, h.n1, h.n2, Nat.mod_lt _ h.n1⟩
def Rol.step (r : Rol) (x : UInt8) : Rol := { r.push x with f := Pol.foll r.p r.f x.toNat ^^^ r.g.getD (r.bs.getD r.o 0).toNat 0 }
theorem Rol.step_fit {r : Rol} (h : r.Fit) (x : UInt8) : (r.step x).Fit := ⟨(Rol.push_fit h x).bs, h.g, h.n1, h.n2, (Rol.push_fit h x).o⟩
theorem Rol.step_ok {r : Rol} {W : List UInt8} (h : r.Ok W) (x : UInt8) : (r.step x).Ok (W.drop 1 ++ [x]) := by
  have hf := h.fit
  have hn : r.n ≤ r.bs.length := by rw [hf.bs]; exact hf.n2
  have hc := Pol.wind_cons hn hf.o
  have hp := Pol.wind_push hn hf.o x
  have hl : ((r.bs.take r.n).drop (r.o + 1) ++ r.bs.take r.o).length + 1 = r.n := by
    have := Pol.wind_length hn hf.o
    rw [hc] at this
    simpa using this
  refine ⟨Rol.step_fit hf x, h.p, h.g, ?_, ?_⟩
  · rw [← h.w, hc, List.drop_succ_cons, List.drop_zero]; exact hp
  · show _ = Pol.fp r.p _
    rw [← h.w, hc, List.drop_succ_cons, List.drop_zero, Pol.fp_slide (Pol.fine_ne h.p) (r.bs.getD r.o 0) x, ← hc, hl, h.w, ← h.f, ← h.g _ (r.bs.getD r.o 0).toNat_lt]
    rfl
def Rol.steps (r : Rol) (l : List UInt8) : Rol := l.foldl Rol.step r
theorem Rol.steps_ok {r : Rol} : ∀ (l W : List UInt8), r.Ok W → l.length ≤ W.length → (r.steps l).Ok ((W ++ l).drop l.length) := by
  intro l
  induction l using Pol.snocInd with
  | nil => intro W h _; simpa [Rol.steps] using h
  | snoc l x ih =>
    intro W h hl
    rw [List.length_append, List.length_singleton] at hl
    have h1 := ih W h (by omega)
    have h2 := Rol.step_ok h1 x
    have e : (r.steps (l ++ [x])) = (r.steps l).step x := by simp [Rol.steps]
    rw [e]
    have e2 : (W ++ (l ++ [x])).drop (l ++ [x]).length = ((W ++ l).drop l.length).drop 1 ++ [x] := by
      rw [List.drop_drop, ← List.append_assoc, List.length_append, List.length_singleton, List.drop_append_of_le_length (by simp; omega)]
    rw [e2]; exact h2
theorem Rol.steps_fit {r : Rol} (h : r.Fit) (l : List UInt8) : (r.steps l).Fit ∧ (r.steps l).n = r.n ∧ (r.steps l).p = r.p ∧ (r.steps l).g = r.g := by
  induction l using Pol.snocInd with
  | nil => exact ⟨h, rfl, rfl, rfl⟩
  | snoc l x ih =>
    have e : (r.steps (l ++ [x])) = (r.steps l).step x := by simp [Rol.steps]
    rw [e]
    obtain ⟨h1, h2, h3, h4⟩ := ih
    exact ⟨⟨(Rol.push_fit h1 x).bs, h1.g, h1.n1, h1.n2, (Rol.push_fit h1 x).o⟩, h2, h3, h4⟩
theorem Rol.roll_ok {r : Rol} {G : List UInt8} (h : r.Ok (Pol.last r.n G)) (s : List UInt8) : (r.steps (s.drop (s.length - r.n))).Ok (Pol.last r.n (G ++ s)) := by
  rw [Pol.last_cut]
  exact Rol.steps_ok _ _ h (by rw [Pol.last_length, List.length_drop]; omega)
end Go.Proofs.Ytcmlcpejlmlcfaa

/-
  A region that draws its order, walked in phases: each has operations that yield under S whatever was done ahead of them (taken anywhere in the text), then ones that are forced, one behind the other; all keep S.
-/
set_option linter.unusedVariables false
namespace Go.Proofs.Ytcmlcpejlmlcfaa
open Go.RowKit

section
variable {P : Program} {ops : Array Oper} {Q : Exit → Act → World → Prop} {md : Region.Mode} {S : World → Prop}

def takeC (md : Region.Mode) (ops : Array Oper) (C : Array Bool → Bool) : List Nat → Array Bool → Bool
  | [], listed => C listed
  | i :: l, listed => (Region.ready md ops listed).contains i && (Region.free md ops listed i && takeC md ops C l (listed.setIfInBounds i true))
def chainC (md : Region.Mode) (ops : Array Oper) (C : Array Bool → Bool) : List Nat → Array Bool → Bool
  | [], listed => C listed
  | k :: l, listed => decide (Region.ready md ops listed = [k]) && (decide (k < ops.size) && chainC md ops C l (listed.setIfInBounds k true))
def phasesC (md : Region.Mode) (ops : Array Oper) : List (List Nat × List Nat) → Array Bool → Bool
  | [], listed => (Region.ready md ops listed).isEmpty
  | x :: l, listed => takeC md ops (chainC md ops (phasesC md ops l) x.2) x.1 listed
def phasesN : List (List Nat × List Nat) → Nat
  | [] => 0
  | x :: l => x.1.length + (x.2.length + phasesN l)

/-- forced ones that keep S; then K -/
def wpMidK (P : Program) (ops : Array Oper) (Q : Exit → Act → World → Prop) (S : World → Prop) (K : Act → World → Prop) : List Oper → Act → World → Prop
  | [], a, w => K a w
  | o :: l, a, w => if Region.wanted o (yielded ops a.tmps) = true then o.wp P a w (fun a' w' => S w' ∧ wpMidK P ops Q S K l a' w') Q else S w ∧ wpMidK P ops Q S K l (a.put o.dst undef) w
def wpPhases (P : Program) (ops : Array Oper) (Q : Exit → Act → World → Prop) (S : World → Prop) : List (List Nat × List Nat) → Act → World → Prop
  | [], a, w => Q .normal a w
  | x :: l, a, w => wpTake P ops S (fun a' => wpMidK P ops Q S (wpPhases P ops Q S l) (pick ops x.2) a' w) (pick ops x.1) a

theorem wpV_takeC {w : World} {L : Act → Prop} {C : Array Bool → Bool} {n : Nat} (hs : Region.noSelect ops = true) (hS : S w) (hQ : ∀ o v c a w, Q (.panic c) (a.put o v) w → Q (.panic c) a w)
    (hL : ∀ listed a, C listed = true → L a → wpV P md ops Q S (fun _ => true) n listed a w) :
    ∀ (l : List Nat) (listed : Array Bool) (a : Act), takeC md ops C l listed = true → wpTake P ops S L (pick ops l) a → wpV P md ops Q S (fun _ => true) (l.length + n) listed a w
  | [], listed, a, hB, h => by
    simp only [List.length_nil, Nat.zero_add]
    exact hL listed a hB h
  | k :: l, listed, a, hB, h => by
    simp only [takeC, Bool.and_eq_true] at hB
    obtain ⟨hr, hf, hB'⟩ := hB
    have hr' : k ∈ Region.ready md ops listed := by simpa using hr
    obtain ⟨_, o, h0, _⟩ := mem_ready.1 hr'
    have hp : pick ops (k :: l) = o :: pick ops l := by unfold pick; rw [List.filterMap_cons, h0]
    rw [hp] at h
    obtain ⟨v, hy, h'⟩ := h
    have hn : (k :: l).length + n = (l.length + n) + 1 := by simp; omega
    rw [hn]
    exact wpV_first h0 (Region.noSelect_spec hs) (fun c a w => hQ _ _ c a w) (fun t ot ht => absurd ht (by simp)) rfl _ listed a w (Region.free_spec h0 hf) hr' hy hS
      (wpV_takeC hs hS hQ hL l _ _ hB' h')

theorem wpV_chainC {K : Act → World → Prop} {C : Array Bool → Bool} {n : Nat} (hL : ∀ listed a w, C listed = true → S w → K a w → wpV P md ops Q S (fun _ => true) n listed a w) :
    ∀ (l : List Nat) (listed : Array Bool) (a : Act) (w : World), chainC md ops C l listed = true → S w → wpMidK P ops Q S K (pick ops l) a w → wpV P md ops Q S (fun _ => true) (l.length + n) listed a w
  | [], listed, a, w, hB, hS, h => by
    simp only [List.length_nil, Nat.zero_add]
    exact hL listed a w hB hS h
  | k :: l, listed, a, w, hB, hS, h => by
    simp only [chainC, Bool.and_eq_true, decide_eq_true_eq] at hB
    obtain ⟨hB1, hlt, hB2⟩ := hB
    have h0 : ops[k]? = some ops[k] := Array.getElem?_eq_getElem hlt
    have hp : pick ops (k :: l) = ops[k] :: pick ops l := by unfold pick; rw [List.filterMap_cons, h0]
    rw [hp] at h
    have hn : (k :: l).length + n = (l.length + n) + 1 := by simp; omega
    rw [hn]
    refine ⟨fun e => by rw [hB1] at e; exact absurd e (List.cons_ne_nil _ _), fun i hi => ?_⟩
    rw [hB1] at hi
    obtain rfl : i = k := by simpa using hi
    have hw : wpOp P ops Q i (fun a' w' => S w' ∧ wpMidK P ops Q S K (pick ops l) a' w') a w := by
      unfold wpOp
      simp only [h0]
      unfold wpMidK at h
      split
      · rename_i hwd; rw [if_pos hwd] at h; exact .inl h
      · rename_i hwd; rw [if_neg hwd] at h; exact h
    exact wpOp_mono (fun a' w' x => ⟨fun _ => x.1, wpV_chainC hL l _ a' w' hB2 x.1 x.2⟩) hw

theorem wpV_phases (hs : Region.noSelect ops = true) (hQ : ∀ o v c a w, Q (.panic c) (a.put o v) w → Q (.panic c) a w) :
    ∀ (l : List (List Nat × List Nat)) (listed : Array Bool) (a : Act) (w : World), phasesC md ops l listed = true → S w → wpPhases P ops Q S l a w → wpV P md ops Q S (fun _ => true) (phasesN l) listed a w
  | [], listed, a, w, hB, _, h => ⟨by simpa [phasesC] using hB, h⟩
  | x :: l, listed, a, w, hB, hS, h =>
    wpV_takeC (n := x.2.length + phasesN l) hs hS hQ (fun listed a hC hL => wpV_chainC (fun listed a w hC hS hK => wpV_phases hs hQ l listed a w hC hS hK) x.2 listed a w hC hS hL) x.1 listed a hB h

def phasesB (ops : Array Oper) (l : List (List Nat × List Nat)) : Bool :=
  Region.noSelect ops && (decide (phasesN l = ops.size) && phasesC .any ops l (Array.replicate ops.size false))

theorem wp_region_phases {id : Nat} {a : Act} {w : World} (l : List (List Nat × List Nat)) (hm : P.follows .mixedOrders = true) (hB : phasesB ops l = true) (S : World → Prop) (hS : S w.drew)
    (h : wpPhases P ops (NoPanic Q) S l a w.drew) : (Code.region id ops true).wp P Q a w := by
  simp only [phasesB, Bool.and_eq_true, decide_eq_true_eq] at hB
  refine wp_region_noPanic (wp_region_any hm ?_)
  have key := wpV_phases (md := .any) (Q := NoPanic Q) hB.1 frameless_np l (Array.replicate ops.size false) a w.drew hB.2.2 hS h
  rw [hB.2.1] at key
  exact key.any

theorem midk_wp {K : Act → World → Prop} {o : Oper} {l : List Oper} {a : Act} {w : World} (hw : Region.wanted o (yielded ops a.tmps) = true) (h : o.wp P a w (fun a' w' => S w' ∧ wpMidK P ops Q S K l a' w') Q) : wpMidK P ops Q S K (o :: l) a w := by
  unfold wpMidK
  rw [if_pos hw]
  exact h
theorem midk_one {K : Act → World → Prop} {o : Oper} {l : List Oper} {a : Act} {w w' : World} (v : Value) (hw : Region.wanted o (yielded ops a.tmps) = true) (h : (execOp a.eval o).run P w = .ok (.value v) w') (hS : S w') (hK : wpMidK P ops Q S K l (a.put o.dst v) w') : wpMidK P ops Q S K (o :: l) a w :=
  midk_wp hw (run_wp h ⟨hS, hK⟩)
theorem midk_done {K : Act → World → Prop} {a : Act} {w : World} (h : K a w) : wpMidK P ops Q S K [] a w := h
theorem midk_end {a : Act} {w : World} (h : Q .normal a w) : wpMidK P ops (NoPanic Q) S (wpPhases P ops (NoPanic Q) S []) [] a w := NoPanic.normal h
end
end Go.Proofs.Ytcmlcpejlmlcfaa

/-
  More steps of a region that is walked in phases: a load and a store of a plain cell.
-/
set_option linter.unusedVariables false
namespace Go.Proofs.Ytcmlcpejlmlcfaa
open Go.RowKit

section
variable {P : Program} {ops : Array Oper} {Q : Exit → Act → World → Prop} {S : World → Prop}
theorem midk_put {K : Act → World → Prop} {o : Oper} {l : List Oper} {a : Act} {w w' : World} (ty : TypeId) (x y : Operand) (pv vv : Value) (hw : Region.wanted o (yielded ops a.tmps) = true) (ho : o.op = .store ty x y) (hx : a.eval x = pv) (hy : a.eval y = vv)
    (h : (Instr.storeAt ty pv vv).run P w = .ok () w') (hS : S w') (hK : wpMidK P ops Q S K l (a.put o.dst undef) w') : wpMidK P ops Q S K (o :: l) a w := by
  refine midk_wp hw ?_
  unfold Oper.wp execOp
  simp only [ho, hx, hy, h, Sem.run_bind, Sem.run_pure, Result.andThen_ok]
  exact ⟨hS, hK⟩
theorem mid_pure {rest : List Oper} {o : Oper} {l : List Oper} {a : Act} {w : World} (v : Value) (hw : Region.wanted o (yielded ops a.tmps) = true) (h : ∀ w, (execOp a.eval o).run P w = .ok (.value v) w) (hS : S w) (hK : wpMid P ops Q S rest l (a.put o.dst v) w) : wpMid P ops Q S rest (o :: l) a w := mid_one v hw (h w) hS hK
theorem midk_pure {K : Act → World → Prop} {o : Oper} {l : List Oper} {a : Act} {w : World} (v : Value) (hw : Region.wanted o (yielded ops a.tmps) = true) (h : ∀ w, (execOp a.eval o).run P w = .ok (.value v) w) (hS : S w) (hK : wpMidK P ops Q S K l (a.put o.dst v) w) : wpMidK P ops Q S K (o :: l) a w := midk_one v hw (h w) hS hK
theorem midk_load {K : Act → World → Prop} {o : Oper} {l : List Oper} {a : Act} {w : World} (ty : TypeId) (x : Operand) (p : Addr) (v : Value) (hw : Region.wanted o (yielded ops a.tmps) = true) (ho : o.op = .load ty x) (hx : a.eval x = .pointer (some p)) (hr : (Instr.loadAt ty (.pointer (some p))).run P w = .ok v w) (hS : S w) (hK : wpMidK P ops Q S K l (a.put o.dst v) w) : wpMidK P ops Q S K (o :: l) a w :=
  midk_one v hw (by unfold execOp; rw [ho]; simp only [hx, hr, Sem.run_bind, Sem.run_pure, Result.andThen_ok]) hS hK
theorem midk_box {K : Act → World → Prop} {o : Oper} {l : List Oper} {a : Act} {w : World} (ty : TypeId) (x : Operand) (cs : Array Value) (hw : Region.wanted o (yielded ops a.tmps) = true) (ho : o.op = .box ty x) (hx : a.eval x = .agg cs) (hS : S (w.alloc (.cells cs ty))) (hK : wpMidK P ops Q S K l (a.put o.dst (.pointer (some ⟨w.heap.size, 0, none⟩))) (w.alloc (.cells cs ty))) : wpMidK P ops Q S K (o :: l) a w :=
  midk_one (.pointer (some ⟨w.heap.size, 0, none⟩)) hw (by unfold execOp; rw [ho]; simp only [hx]; simp [Instr.box, newVar, go_sem, Value.cells]) hS hK
/-- a call of a closure without parameters of its own -/
theorem call_fn_wp {o : Oper} {a : Act} {w : World} {K : Act → World → Prop} (f : FuncId) (t : Tmp) (caps : Array Value) (ho : o.op = .call { callee := .value (.tmp t), args := #[], argTypes := #[] }) (ht : a.eval (.tmp t) = .func (.func f) #[] caps)
    (he : (callFunc f caps).run P w = .ok (.enter f caps) w) (h : Calls P f caps w fun e w' => ∃ v, e = .returned v ∧ K (a.put o.dst v) w') : o.wp P a w K Q := by
  unfold Oper.wp execOp
  simp only [ho, resolve, ht]
  simp [invoke, go_sem, he]
  refine h.mono fun e w' ⟨v, hv, hk⟩ => ?_
  subst hv
  exact hk
theorem run_build_at {o : Oper} {a : Act} {w : World} {v : Value} (t : TypeId) (parts : List (Nat × Operand)) (ho : o.op = .build t parts.toArray) (h : (Instr.build t (parts.map fun (i, x) => (i, a.eval x)).toArray).run P w = .ok v w) : (execOp a.eval o).run P w = .ok (.value v) w := by
  unfold execOp
  rw [ho]
  simp only [List.map_toArray, h, Sem.run_bind, Sem.run_pure, Result.andThen_ok]
theorem run_make_at {o : Oper} {a : Act} {w w' : World} {v xv yv : Value} (t : TypeId) (x y : Operand) (ho : o.op = .makeSlice t x y) (hx : a.eval x = xv) (hy : a.eval y = yv) (h : (Instr.makeSlice t xv yv).run P w = .ok v w') : (execOp a.eval o).run P w = .ok (.value v) w' := by
  unfold execOp
  rw [ho]
  simp only [hx, hy, h, Sem.run_bind, Sem.run_pure, Result.andThen_ok]
theorem run_conv_at {o : Oper} {a : Act} {w w' : World} {v xv : Value} (s d : TypeId) (x : Operand) (ho : o.op = .convert s d x) (hx : a.eval x = xv) (h : (convert s d xv).run P w = .ok v w') : (execOp a.eval o).run P w = .ok (.value v) w' := by
  unfold execOp
  rw [ho]
  simp only [hx, h, Sem.run_bind, Sem.run_pure, Result.andThen_ok]
end
theorem load_at {w : World} {t : TypeId} {b o : Nat} {x : Value} {D : TypeDesc} (hu : Try.prog.underlying t = some D) (ha : ∀ w, (isAgg t).run Try.prog w = .ok false w) (h : w.cell? ⟨b, o, none⟩ = some x) :
    (Instr.loadAt t (.pointer (some ⟨b, o, none⟩))).run Try.prog w = .ok x w := by
  simp [Instr.loadAt, go_sem, ha, h]
theorem store_num {w : World} {t : TypeId} {b o : Nat} {x' : Value} {k : IntKind} {x : Int} (hz : ∀ w, (sizeOf t).run Try.prog w = .ok 1 w) (h0 : w.cell? ⟨b, o, none⟩ = some x') (f0 : w.frozen? ⟨b, o, none⟩ = false) :
    (Instr.storeAt t (.pointer (some ⟨b, o, none⟩)) (.int k x)).run Try.prog w = .ok () (w.setCell ⟨b, o, none⟩ (.int k x)) := by
  simp [Instr.storeAt, go_sem, hz, h0, f0]
end Go.Proofs.Ytcmlcpejlmlcfaa
