/-
  What the document's Deg, May, Of and Last return.
-/
import Derived.Test.YtofiimkpbbiegaaRabSmall
import Derived.Test.YtofiimkpbbiegaaPolRef
import Derived.Test.YtofiimkpbbiegaaGoU8
set_option linter.unusedVariables false
namespace Go.Proofs.Ytofiimkpbbiegaa
open Go.RowKit

theorem rdeg_any (p : Nat) (hp : p < 18446744073709551616) (w : World) :
    Calls Try.prog 38 #[.int .u64 p] w fun e w' => e = .returned (.bool (decide (9 ≤ Pol.len p ∧ Pol.len p ≤ 57))) ∧ w = w' := by
  have cp := fun u => refDeg_any p hp u
  have Cp := Lib.hid cp; clear cp
  have hlp := len64 hp
  have Hp := Lib.hid hp; clear hp
  generalize Pol.len p = L at *
  go_enter Try.func38, Try.ntmps38
  go_wp2_with fail
  refine (Cp.out _).mono ?_; rintro e w1 ⟨rfl, rfl⟩
  by_cases h1 : 9 ≤ L
  · have g1 : decide ((8 : Int) ≤ ((L : Int) - 1)) = true := decide_eq_true (by omega)
    go_wp2_with fail
    refine (Cp.out _).mono ?_; rintro e w1 ⟨rfl, rfl⟩
    by_cases h2 : L ≤ 57
    · have g2 : decide (((L : Int) - 1) ≤ 56) = true := decide_eq_true (by omega)
      go_wp2_with fail
      go_ret
      exact ⟨by rw [decide_eq_true (⟨h1, h2⟩ : 9 ≤ L ∧ L ≤ 57)]; rfl, rfl⟩
    · have g2 : decide (((L : Int) - 1) ≤ 56) = false := decide_eq_false (by omega)
      go_wp2_with fail
      go_ret
      exact ⟨by rw [decide_eq_false (fun h => h2 h.2 : ¬ (9 ≤ L ∧ L ≤ 57))]; rfl, rfl⟩
  · have g1 : decide ((8 : Int) ≤ ((L : Int) - 1)) = false := decide_eq_false (by omega)
    go_wp2_with fail
    go_ret
    exact ⟨by rw [decide_eq_false (fun h => h1 h.1 : ¬ (9 ≤ L ∧ L ≤ 57))]; rfl, rfl⟩

theorem rmay_any (p : Nat) (n : Int) (hp : p < 18446744073709551616) (w : World) :
    Calls Try.prog 28 #[.int .u64 p, .int .i64 n] w fun e w' => e = .returned (.bool (decide (rabMay p n))) ∧ w = w' := by
  have cd := fun u => rdeg_any p hp u
  by_cases hf : 9 ≤ Pol.len p ∧ Pol.len p ≤ 57
  · rw [decide_eq_true hf] at cd
    have Cd := Lib.hid cd; clear cd
    by_cases h1 : n < 1
    · rw [decide_eq_false (show ¬ rabMay p n from fun h => by have := h.2; omega)]
      have g : decide (1 ≤ n) = false := decide_eq_false (by omega)
      clear hp hf
      go_enter Try.func28, Try.ntmps28
      go_wp2_with fail
      refine (Cd.out _).mono ?_; rintro e w1 ⟨rfl, rfl⟩
      go_wp2_with fail
      go_ret
      exact ⟨rfl, rfl⟩
    · have g : decide (1 ≤ n) = true := decide_eq_true (by omega)
      by_cases h2 : 64 < n
      · rw [decide_eq_false (show ¬ rabMay p n from fun h => by have := h.2; omega)]
        have g2 : decide (n ≤ 64) = false := decide_eq_false (by omega)
        clear hp hf
        go_enter Try.func28, Try.ntmps28
        go_wp2_with fail
        refine (Cd.out _).mono ?_; rintro e w1 ⟨rfl, rfl⟩
        go_wp2_with fail
        go_ret
        exact ⟨rfl, rfl⟩
      · rw [decide_eq_true (show rabMay p n from ⟨hf, by omega, by omega⟩)]
        have g2 : decide (n ≤ 64) = true := decide_eq_true (by omega)
        clear hp hf
        go_enter Try.func28, Try.ntmps28
        go_wp2_with fail
        refine (Cd.out _).mono ?_; rintro e w1 ⟨rfl, rfl⟩
        go_wp2_with fail
        go_ret
        exact ⟨rfl, rfl⟩
  · rw [decide_eq_false hf] at cd
    rw [decide_eq_false (show ¬ rabMay p n from fun h => hf h.1)]
    have Cd := Lib.hid cd; clear cd
    clear hp hf
    go_enter Try.func28, Try.ntmps28
    go_wp2_with fail
    refine (Cd.out _).mono ?_; rintro e w1 ⟨rfl, rfl⟩
    go_wp2_with fail
    go_ret
    exact ⟨rfl, rfl⟩

/-- bit k of a byte, as the walk writes it -/
theorem byte_bit (b k : Nat) (hb : b < 256) : ((b : Int) / 2 ^ k).tmod 2 = ((b / 2 ^ k % 2 : Nat) : Int) := bit_tmod b k
theorem bit_in {p f b : Nat} (hp : Pol.fine p) (hf : Pol.len f < Pol.len p) (hb : b < 2) : bits .or .u64 ((f : Int) * 2) (b : Int) = ((2 * f + b : Nat) : Int) := by
  have hr := fp_room hp hf
  have h1 := Nat.two_pow_add_eq_or_of_lt (i := 1) (show b < 2 ^ 1 by omega) f
  rw [Nat.pow_one] at h1
  rw [show (f : Int) * 2 = ((2 * f : Nat) : Int) by omega, u64_or_nat _ _ (by omega) (by omega), ← h1]

theorem rof_any (p : Nat) (s : ByteArray) (hp : Pol.fine p) (hs : s.size ≤ 9223372036854775807) (w : World) :
    Calls Try.prog 39 #[.int .u64 p, .string s] w fun e w' => e = .returned (.int .u64 (Pol.fp p s.data.toList : Nat)) ∧ w = w' := by
  have hp64 := Pol.fine_lt hp
  have hp0 := Pol.fine_ne hp
  obtain ⟨R, hR⟩ : ∃ R, R = Pol.fp p s.data.toList := ⟨_, rfl⟩
  rw [← hR]
  have HR := Lib.hid hR; clear hR
  have hlen := fun k => Pol.fp_len hp0 (s.data.toList.take k)
  have Hlen := Lib.hid hlen; clear hlen
  have hst : ∀ k (hk : k < s.size), Pol.fp p (s.data.toList.take (k + 1)) = Pol.foll p (Pol.fp p (s.data.toList.take k)) (s[k]).toNat := fun k hk => by
    rw [List.take_succ_eq_append_getElem (by rw [ba_len]; exact hk), Pol.fp_snoc, ba_get s k hk]
  have Hst := Lib.hid hst; clear hst
  have hall : s.data.toList.take s.size = s.data.toList := List.take_of_length_le (by rw [ba_len]; exact Nat.le_refl _)
  have Hall := Lib.hid hall; clear hall
  -- the bits of one byte
  have hb0 : ∀ f b, Pol.len f < Pol.len p → b < 256 → Pol.rem (f * 2 ^ 0 + b / 2 ^ (8 - 0)) p = f := fun f b hf hb => by
    rw [Nat.pow_zero, Nat.mul_one, show b / 2 ^ (8 - 0) = 0 by omega, Nat.add_zero]
    exact Pol.rem_small hf
  have hb8 : ∀ f b, Pol.rem (f * 2 ^ 8 + b / 2 ^ (8 - 8)) p = Pol.foll p f b := fun f b => by
    rw [Nat.sub_self, Nat.pow_zero, Nat.div_one]; rfl
  have hbs : ∀ f b k, k < 8 → Pol.rem (2 * Pol.rem (f * 2 ^ k + b / 2 ^ (8 - k)) p + b / 2 ^ (7 - k) % 2) p = Pol.rem (f * 2 ^ (k + 1) + b / 2 ^ (8 - (k + 1))) p := fun f b k hk => by
    rcases Pol.bits_step hp0 f b k with h | h
    · rw [show 8 - (k + 1) = 7 - k by omega] at h ⊢; exact h
    · omega
  have hbl : ∀ x, Pol.len (Pol.rem x p) < Pol.len p := fun x => Pol.rem_len x hp0
  have cm := fun a ha u => (refMod_any a p ha hp64 u).2 hp0
  have hin := fun f b hf hb => bit_in (p := p) (f := f) (b := b) hp hf hb
  have hroom := fun f (hf : Pol.len f < Pol.len p) => fp_room hp hf
  have Hb0 := Lib.hid hb0; clear hb0
  have Hb8 := Lib.hid hb8; clear hb8
  have Hbs := Lib.hid hbs; clear hbs
  have Hbl := Lib.hid hbl; clear hbl
  have Cm := Lib.hid cm; clear cm
  have Hin := Lib.hid hin; clear hin
  have Hroom := Lib.hid hroom; clear hroom
  clear hp hp64 hp0
  go_enter Try.func39, Try.ntmps39
  go_wp2_with fail
  go_loop [5, 6] (fun f i => ∃ k : Nat, k ≤ s.size ∧ i = .int .i64 (k : Int) ∧ f = .int .u64 (Pol.fp p (s.data.toList.take k) : Nat)) (fun _ i => s.size - (intOf i).toNat)
  case atStart => exact ⟨0, Nat.zero_le _, rfl, rfl⟩
  case round =>
    obtain ⟨k, hk, rfl, rfl⟩ := hrel
    by_cases hc : k = s.size
    · subst hc
      rw [Hall.out, ← HR.out]
      have hge : decide ((s.size : Int) < (s.size : Int)) = false := decide_eq_false (by omega)
      go_wp2_with fail
      go_ret
      exact ⟨rfl, rfl⟩
    · have hlt : k < s.size := by omega
      have hge : decide ((k : Int) < (s.size : Int)) = true := decide_eq_true (by omega)
      have hge' : decide (k < s.size) = true := decide_eq_true hlt
      have hf := Hlen.out k
      have hb := (s[k]).toNat_lt
      have hst := Hst.out k hlt
      generalize Pol.fp p (s.data.toList.take k) = f at *
      generalize hf2 : Pol.fp p (s.data.toList.take (k + 1)) = f2 at *
      have Hf2 := Lib.hid hf2; clear hf2
      have hB : ((s[k]).toNat : Int) = ((s[k]).toNat : Int) := rfl
      obtain ⟨b, hbe⟩ : ∃ b, b = (s[k]).toNat := ⟨_, rfl⟩
      rw [← hbe] at hst hb
      have Hst1 := Lib.hid hst; clear hst
      have Hbe := Lib.hid hbe; clear hbe hB
      have h0 := Hb0.out f b hf hb
      have Hf := Lib.hid hf; clear hf
      have H0 := Lib.hid h0; clear h0
      go_wp2_with fail
      go_loop [5, 7] (fun g i => ∃ j : Nat, j ≤ 8 ∧ i = .int .i64 (7 - (j : Int)) ∧ g = .int .u64 (Pol.rem (f * 2 ^ j + b / 2 ^ (8 - j)) p : Nat)) (fun _ i => (intOf i + 1).toNat)
      case atStart => exact ⟨0, by omega, rfl, by rw [H0.out]⟩
      case round =>
        obtain ⟨j, hj, rfl, rfl⟩ := hrel
        by_cases h8 : j = 8
        · subst h8
          rw [Hb8.out, ← Hst1.out]
          have g1 : decide ((0 : Int) ≤ (7 - ((8 : Nat) : Int))) = false := by decide
          go_wp2_with fail
          go_round
          case rel => exact ⟨k + 1, by omega, by go_num, by rw [Hf2.out]⟩
          case measure => simp [intOf]; omega
        · obtain ⟨m, hm⟩ : ∃ m : Nat, m + j = 7 := ⟨7 - j, by omega⟩
          have e1 : (7 - (j : Int)) = (m : Int) := by omega
          rw [e1]
          have g1 : decide ((0 : Int) ≤ (m : Int)) = true := decide_eq_true (by omega)
          have hs8 := Hbs.out f b j (by omega)
          rw [show 7 - j = m by omega] at hs8
          have hgl := Hbl.out (f * 2 ^ j + b / 2 ^ (8 - j))
          have hgr := Hroom.out _ hgl
          generalize Pol.rem (f * 2 ^ j + b / 2 ^ (8 - j)) p = g at *
          have hy : b / 2 ^ m % 2 < 2 := Nat.mod_lt _ (by decide)
          have ho := Hin.out g _ hgl hy
          have hbt := byte_bit b m hb
          have c := fun u => Cm.out (2 * g + b / 2 ^ m % 2) (by omega) u
          rw [hs8] at c
          generalize b / 2 ^ m % 2 = y at *
          generalize hg2 : Pol.rem (f * 2 ^ (j + 1) + b / 2 ^ (8 - (j + 1))) p = g2 at *
          have Hg2 := Lib.hid hg2; clear hg2
          have C := Lib.hid c; clear c
          have w1 := wrap_u64_in ((g : Int) * 2) (by omega) (by omega)
          have w2 := wrap_u64_in (y : Int) (by omega) (by omega)
          have Ho := Lib.hid ho; clear ho
          have hm7 : m ≤ 7 := by omega
          have hbt2 : ((((s[k]).toNat : Nat) : Int) / 2 ^ m).tmod 2 = (y : Int) := by rw [← Hbe.out]; exact hbt
          have Hbt := Lib.hid hbt2; clear hbt2 hbt
          have W2 := Lib.hid w2; clear w2
          clear hs8 hgl hgr hy e1
          go_wp2_with fail
          rw [Hbt.out, W2.out, Ho.out]
          refine (C.out _).mono ?_; rintro e w1 ⟨rfl, rfl⟩
          go_wp2_with fail
          go_round
          case rel => exact ⟨j + 1, by omega, by go_num, by rw [Hg2.out]⟩
          case measure => simp [intOf]

theorem rlast_any (s : ByteArray) (n : Nat) (hn : n ≤ 64) (hs : s.size ≤ 140737488351232) (w : World) :
    Calls Try.prog 40 #[.string s, .int .i64 (n : Int)] w fun e w' => e = .returned (.string ⟨(Pol.last n s.data.toList).toArray⟩) ∧ Below w.heap.size w w' := by
  have hm := make_noughts n (by omega)
  have hc := conv_noughts n
  have hsz : (⟨(List.replicate n (0 : UInt8)).toArray⟩ : ByteArray).size = n := by simp [ByteArray.size]
  have hz : n + s.size < 9223372036854775808 := by omega
  have e1 : ((⟨(List.replicate n (0 : UInt8)).toArray⟩ : ByteArray) ++ s) = ⟨(List.replicate n 0 ++ s.data.toList).toArray⟩ := by
    have := cat_list (List.replicate n 0) s.data.toList
    rwa [ba_eta] at this
  go_enter Try.func40, Try.ntmps40
  go_wp2_with fail
  go_ret
  refine ⟨ret_string ?_, ((Below.refl _ w).alloc (Nat.le_refl _) _)⟩
  have e2 : (⟨Array.replicate n (0 : UInt8)⟩ : ByteArray) = ⟨(List.replicate n (0 : UInt8)).toArray⟩ := by rw [List.toArray_replicate]
  rw [e2, e1, Lib.extract_eq]
  congr 1
  apply Array.ext'
  simp only [Pol.last]
  rw [show s.data.toList.length = s.size from ba_len s, List.take_of_length_le (by simp), show n + s.size - n = s.size by omega]
end Go.Proofs.Ytofiimkpbbiegaa
