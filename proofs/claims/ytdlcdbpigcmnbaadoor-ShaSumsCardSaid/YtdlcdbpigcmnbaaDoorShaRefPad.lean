/-
  What the document's answers rot and pad return; rows of numbers.
-/
import Derived.Test.YtdlcdbpigcmnbaaDoorShaPure2
import Derived.Test.YtdlcdbpigcmnbaaDoorGoU32
import Derived.Test.YtdlcdbpigcmnbaaDoorGoRow
import Derived.Test.YtdlcdbpigcmnbaaDoorShelf
import Derived.Test.YtdlcdbpigcmnbaaDoorRows
import Derived.Deep.QuietTactic
import Derived.BigQuiet
set_option linter.unusedVariables false
namespace Go.Proofs.YtdlcdbpigcmnbaaDoor
open Go.RowKit

/-- the numbers that lie from the beginning of a block on -/
def Num (k : IntKind) (g : Nat) (ns : List Nat) (w : World) : Prop := ∀ j, j < ns.length → w.cell? ⟨g, j, none⟩ = some (.int k (ns.getD j 0 : Nat))
theorem Num.below {k : IntKind} {g : Nat} {ns : List Nat} {w w' : World} (h : Num k g ns w) (hb : Below w.heap.size w w') : Num k g ns w' := fun j hj => by
  rw [hb.cell (p := ⟨g, j, none⟩) (block_lt_of_cell (h j hj))]; exact h j hj
theorem Num.of_row {g : Nat} {ns : List Nat} {w : World} {T : TypeId} {fr : Nat × Nat} (h : w.heap[g]? = some (.cells (u32s ns) T fr)) : Num .u32 g ns w := fun j hj => row_u32 h j hj

theorem rrot_any (x n : Nat) (w : World) (hx : x < 4294967296) (h0 : 0 < n) (h1 : n < 32) :
    Calls Tryd.prog 45 #[.int .u32 x, .int .i64 n] w fun e w' => e = .returned (.int .u32 (Sha.rot x n)) ∧ ∃ k, w' = w.drewN k := by
  have hv : bits .or .u32 ((x : Int) / 2 ^ n) ((x : Int) * 2 ^ (32 - n) % 4294967296) = ((Sha.rot x n : Nat) : Int) := by
    have e1 : ((x : Int) / 2 ^ n) = ((x / 2 ^ n : Nat) : Int) := by simp
    have e2 : ((x : Int) * 2 ^ (32 - n) % 4294967296) = ((x * 2 ^ (32 - n) % 4294967296 : Nat) : Int) := by simp
    rw [e1, e2, u32_or _ _ (Sha.div_lt x n hx) (Nat.mod_lt _ (by decide))]
    rfl
  have Hv := Lib.hid hv; clear hv
  go_enter Tryd.func45, Tryd.ntmps45
  go_wp2
  go_ret
  exact ⟨ret_int Hv.out, 0, rfl⟩

namespace Pad
theorem stop (n k : Nat) (hk : k ≤ Sha.padLen n - 9) : (n + 1 + k) % 64 = 56 ↔ k = Sha.padLen n - 9 := by
  unfold Sha.padLen at hk ⊢
  by_cases e : 64 - n % 64 < 9
  · rw [if_pos e] at hk ⊢; omega
  · rw [if_neg e] at hk ⊢; omega
theorem take8 (c j : Nat) (h : j < 8) : (Sha.be8 c).take (j + 1) = (Sha.be8 c).take j ++ [UInt8.ofNat (c / 2 ^ (8 * (7 - j)))] := by
  have : j = 0 ∨ j = 1 ∨ j = 2 ∨ j = 3 ∨ j = 4 ∨ j = 5 ∨ j = 6 ∨ j = 7 := by omega
  rcases this with rfl | rfl | rfl | rfl | rfl | rfl | rfl | rfl <;> simp [Sha.be8]
end Pad

set_option maxHeartbeats 1000000 in
theorem rpad_any (s : ByteArray) (w : World) (hs : s.size ≤ 1048576) :
    Calls Tryd.prog 32 #[.string s] w fun e w' => e = .returned (.string ⟨(s.data.toList ++ Sha.pad s.size).toArray⟩) ∧ Below w.heap.size w w' := by
  have hpb := Sha.padLen_bd s.size
  have hstop := Pad.stop s.size
  have hpad : Sha.pad s.size = 128 :: List.replicate (Sha.padLen s.size - 9) 0 ++ Sha.be8 (s.size * 8 % 18446744073709551616) := rfl
  have hc8 : s.size * 8 % 18446744073709551616 = s.size * 8 := Nat.mod_eq_of_lt (by omega)
  rw [hc8] at hpad
  obtain ⟨l, hl⟩ : ∃ l, l = s.data.toList := ⟨_, rfl⟩
  have hsl : l.length = s.size := by rw [hl]; exact ba_len s
  have he : s = ⟨l.toArray⟩ := by rw [hl, ba_eta]
  rw [← hl]
  generalize hm : s.size = n at *
  subst he
  generalize Sha.padLen n = P at *
  have Hstop := Lib.hid hstop; clear hstop
  have Hpad := Lib.hid hpad; clear hpad
  have Hl := Lib.hid hsl; clear hsl
  clear hl hc8
  go_enter Tryd.func32, Tryd.ntmps32
  go_wp2
  go_loop [0] (fun s => ∃ (k : Nat) (S : ByteArray), k ≤ P - 9 ∧ s = .string S ∧ S.data.toList = l ++ 128 :: List.replicate k 0) (fun s => P - 8 + n - (match s with | .string x => x.size | _ => 0))
  case atStart => exact ⟨0, _, by omega, rfl, by simp⟩
  case round =>
    obtain ⟨k, S, hk, rfl, hS⟩ := hrel
    have h1 := Hstop.out k hk
    have hsz : S.size = n + 1 + k := by rw [← ba_len, hS]; simp [Hl.out]; omega
    have HS := Lib.hid hS; clear hS
    have Hsz := Lib.hid hsz
    have hov : ¬ 9223372036854775807 < S.size + 1 := by omega
    by_cases hlt : k = P - 9
    · have hd : ((S.size : Int) % 64 != 56) = false := by simp; omega
      clear h1 hsz hov
      go_wp2
      have hS := HS.out
      subst hlt
      go_loopw [0, 4] (fun s i wr => ∃ (j : Nat) (S : ByteArray), j ≤ 8 ∧ i = .int .i64 (7 - (j : Int)) ∧ s = .string S ∧ S.data.toList = l ++ 128 :: List.replicate (P - 9) 0 ++ (Sha.be8 (n * 8)).take j ∧ Below w.heap.size w wr) (fun _ i _ => (intOf i + 1).toNat)
      case atStart => exact ⟨0, S, by omega, rfl, rfl, by rw [hS]; simp, Below.refl _ _⟩
      case round =>
        clear hS HS Hsz hd
        obtain ⟨j, S2, hj, rfl, rfl, hS2, hb⟩ := hrel
        by_cases hlt : j < 8
        · have htk := Pad.take8 (n * 8) j hlt
          have hyv : ((UInt8.ofNat (n * 8 / 2 ^ (8 * (7 - j)))).toNat : Int) = ((n * 8 / 2 ^ (8 * (7 - j)) : Nat) : Int) % 256 := by simp
          have hsz2 : S2.size ≤ 1048576 + 73 + 8 := by rw [← ba_len, hS2]; simp [Hl.out, Sha.be8]; omega
          have hov : ¬ 9223372036854775807 < S2.size + 1 := by omega
          have hnew : (S2 ++ ⟨#[UInt8.ofNat (n * 8 / 2 ^ (8 * (7 - j)))]⟩ : ByteArray).data.toList = l ++ 128 :: List.replicate (P - 9) 0 ++ (Sha.be8 (n * 8)).take (j + 1) := by
            rw [htk, ← List.append_assoc, ← hS2]; simp
          generalize UInt8.ofNat (n * 8 / 2 ^ (8 * (7 - j))) = y at *
          have Hnew := Lib.hid hnew; clear hnew
          have Hb := Lib.hid hb; clear hb
          clear hS2 htk hsz2
          have h8 : j = 0 ∨ j = 1 ∨ j = 2 ∨ j = 3 ∨ j = 4 ∨ j = 5 ∨ j = 6 ∨ j = 7 := by omega
          rcases h8 with rfl | rfl | rfl | rfl | rfl | rfl | rfl | rfl
          · have hv : (n : Int) * 8 / 72057594037927936 = (y.toNat : Int) := by rw [hyv]; simp; omega
            have hcv := conv_byte (P := Tryd.prog) 40 9 5 Tryd.underlying40 Tryd.underlying5 Tryd.underlying9 wr y ((n : Int) * 8 / 72057594037927936) hv
            clear hv hyv
            go_wp2
            go_roundw
            case rel => exact ⟨0 + 1, _, by omega, by go_num, rfl, Hnew.out, Hb.out.alloc (Below.size Hb.out) _⟩
            case measure => simp [intOf]
          · have hv : (n : Int) * 8 / 281474976710656 = (y.toNat : Int) := by rw [hyv]; simp; omega
            have hcv := conv_byte (P := Tryd.prog) 40 9 5 Tryd.underlying40 Tryd.underlying5 Tryd.underlying9 wr y ((n : Int) * 8 / 281474976710656) hv
            clear hv hyv
            go_wp2
            go_roundw
            case rel => exact ⟨1 + 1, _, by omega, by go_num, rfl, Hnew.out, Hb.out.alloc (Below.size Hb.out) _⟩
            case measure => simp [intOf]
          · have hv : (n : Int) * 8 / 1099511627776 = (y.toNat : Int) := by rw [hyv]; simp; omega
            have hcv := conv_byte (P := Tryd.prog) 40 9 5 Tryd.underlying40 Tryd.underlying5 Tryd.underlying9 wr y ((n : Int) * 8 / 1099511627776) hv
            clear hv hyv
            go_wp2
            go_roundw
            case rel => exact ⟨2 + 1, _, by omega, by go_num, rfl, Hnew.out, Hb.out.alloc (Below.size Hb.out) _⟩
            case measure => simp [intOf]
          · have hv : (n : Int) * 8 / 4294967296 = (y.toNat : Int) := by rw [hyv]; simp; omega
            have hcv := conv_byte (P := Tryd.prog) 40 9 5 Tryd.underlying40 Tryd.underlying5 Tryd.underlying9 wr y ((n : Int) * 8 / 4294967296) hv
            clear hv hyv
            go_wp2
            go_roundw
            case rel => exact ⟨3 + 1, _, by omega, by go_num, rfl, Hnew.out, Hb.out.alloc (Below.size Hb.out) _⟩
            case measure => simp [intOf]
          · have hv : (n : Int) * 8 / 16777216 = (y.toNat : Int) := by rw [hyv]; simp; omega
            have hcv := conv_byte (P := Tryd.prog) 40 9 5 Tryd.underlying40 Tryd.underlying5 Tryd.underlying9 wr y ((n : Int) * 8 / 16777216) hv
            clear hv hyv
            go_wp2
            go_roundw
            case rel => exact ⟨4 + 1, _, by omega, by go_num, rfl, Hnew.out, Hb.out.alloc (Below.size Hb.out) _⟩
            case measure => simp [intOf]
          · have hv : (n : Int) * 8 / 65536 = (y.toNat : Int) := by rw [hyv]; simp; omega
            have hcv := conv_byte (P := Tryd.prog) 40 9 5 Tryd.underlying40 Tryd.underlying5 Tryd.underlying9 wr y ((n : Int) * 8 / 65536) hv
            clear hv hyv
            go_wp2
            go_roundw
            case rel => exact ⟨5 + 1, _, by omega, by go_num, rfl, Hnew.out, Hb.out.alloc (Below.size Hb.out) _⟩
            case measure => simp [intOf]
          · have hv : ((n : Int) * 8 / 256) % 256 = (y.toNat : Int) := by rw [hyv]; simp
            have hcv := conv_byte (P := Tryd.prog) 40 9 5 Tryd.underlying40 Tryd.underlying5 Tryd.underlying9 wr y (((n : Int) * 8 / 256) % 256) hv
            clear hv hyv
            go_wp2
            go_roundw
            case rel => exact ⟨6 + 1, _, by omega, by go_num, rfl, Hnew.out, Hb.out.alloc (Below.size Hb.out) _⟩
            case measure => simp [intOf]
          · have hv : ((n : Int) * 8) % 256 = (y.toNat : Int) := by rw [hyv]; simp
            have hcv := conv_byte (P := Tryd.prog) 40 9 5 Tryd.underlying40 Tryd.underlying5 Tryd.underlying9 wr y (((n : Int) * 8) % 256) hv
            clear hv hyv
            go_wp2
            go_roundw
            case rel => exact ⟨7 + 1, _, by omega, by go_num, rfl, Hnew.out, Hb.out.alloc (Below.size Hb.out) _⟩
            case measure => simp [intOf]
        · obtain rfl : j = 8 := by omega
          have he8 : (Sha.be8 (n * 8)).take 8 = Sha.be8 (n * 8) := rfl
          rw [he8, List.append_assoc, ← Hpad.out] at hS2
          go_wp2
          go_ret
          exact ⟨ret_string (by rw [← hS2, ba_eta]), hb⟩
    · have hd : ((S.size : Int) % 64 != 56) = true := by simp; omega
      clear h1 hsz
      go_wp2
      go_round
      case rel => exact ⟨k + 1, _, by omega, rfl, by simp [HS.out, List.replicate_succ']⟩
      case measure =>
        have h1 := Hsz.out
        show P - 8 + n - (S ++ (⟨#[0]⟩ : ByteArray)).size < P - 8 + n - S.size
        rw [ByteArray.size_append, show (⟨#[0]⟩ : ByteArray).size = 1 from rfl]
        omega
end Go.Proofs.YtdlcdbpigcmnbaaDoor
