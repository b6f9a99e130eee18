/-
  What Hex and Unhex return.
-/
import Derived.Test.YtdlcdbpigcmnbaaDoorRows
import Derived.Test.YtdlcdbpigcmnbaaDoorGoWriteByte
import Derived.Test.YtdlcdbpigcmnbaaDoorGoRow
import Derived.Test.YtdlcdbpigcmnbaaDoorHexPure
import Derived.Deep.QuietTactic
import Derived.BigQuiet
import Derived.Outline
set_option linter.unusedVariables false
namespace Go.Proofs.YtdlcdbpigcmnbaaDoor
open Go.RowKit

/-- the builder in block B holds these bytes -/
def Holds (B : Nat) (bs : List UInt8) (w : World) : Prop := Lib.IsBuilder 42 5 B B (Lib.byteCells bs) w

theorem builderAt_keep {T e : TypeId} {B b : Nat} {p : Value} {bs : List Value} {w w' : World} (h : Lib.BuilderAt T e B b p bs w) (hb : Below w.heap.size w w') : Lib.BuilderAt T e B b p bs w' := by
  have hlt := h.lt
  obtain ⟨h1, v, h2, h3, h4⟩ := h
  refine ⟨h1, v, by rw [hb.block b hlt]; exact h2, h3.kept (grown_of_below hb none) ?_, h4⟩
  by_cases e : v.ownBlock = none
  · exact .inl e
  · exact .inr e
theorem Holds.keep {B : Nat} {bs : List UInt8} {w w' : World} (h : Holds B bs w) (hb : Below w.heap.size w w') : Holds B bs w' := by
  rcases h with h | h
  · exact .inl (builderAt_keep h hb)
  · exact .inr (builderAt_keep h hb)
theorem byte_any (B : Nat) (bs : List UInt8) (c : UInt8) (x : Int) (hx : x = (c.toNat : Int)) (w : World) (h : Holds B bs w) (hlen : bs.length + 1 ≤ 140737488355328) (hB : B ≤ w.heap.size) :
    Calls Tryd.prog 23 #[.pointer (some ⟨B, 0, none⟩), .int .u8 x] w fun e w' => e = .returned .nilIface ∧ Holds B (bs ++ [c]) w' ∧ Below B w w' := by
  subst hx
  refine (Tryd.writeByte B B (Lib.byteCells bs) _ w h (by rw [Lib.byteCells_length]; exact hlen) hB).mono ?_
  rintro e w' ⟨he, h1, h2⟩
  refine ⟨he, .inr ?_, h2⟩
  rw [Lib.byteCells_append]
  exact h1
theorem grow_any (B n : Nat) (w : World) (hbk : w.heap[B]? = some (.cells #[.pointer none, .slice none 0 0] 42 (0, 0))) (hBw : B ≤ w.heap.size) (hn : n ≤ 281474976710656) :
    Calls Tryd.prog 21 #[.pointer (some ⟨B, 0, none⟩), .int .i64 n] w fun e w' => e = .returned (.tuple #[]) ∧ Holds B [] w' ∧ Below B w w' := by
  refine (Tryd.Builder_Grow_fresh B B n w (Nat.le_refl _) hbk hBw hn).mono ?_
  rintro e w' ⟨he, h1, h2⟩
  exact ⟨he, .inr h1, h2⟩
theorem string_any (B : Nat) (bs : List UInt8) (w : World) (h : Holds B bs w) (hB : B ≤ w.heap.size) :
    Calls Tryd.prog 24 #[.pointer (some ⟨B, 0, none⟩)] w fun e w' => e = .returned (.string ⟨bs.toArray⟩) ∧ Below B w w' :=
  Tryd.Builder_String_any B B bs w h hB

theorem and_15 (c : Nat) (h : c < 256) : bits .and .u8 (c : Int) 15 = ((c % 16 : Nat) : Int) := by
  have := u8_and_nat c 15 h (by decide)
  rw [show ((15 : Nat) : Int) = 15 from rfl] at this
  rw [this, Nat.and_two_pow_sub_one_eq_mod c 4]
theorem table_get (n : Nat) (h : n < 16) (h' : n < (⟨#[48, 49, 50, 51, 52, 53, 54, 55, 56, 57, 97, 98, 99, 100, 101, 102]⟩ : ByteArray).size) : (⟨#[48, 49, 50, 51, 52, 53, 54, 55, 56, 57, 97, 98, 99, 100, 101, 102]⟩ : ByteArray)[n] = Hex.dig n := by
  have : n = 0 ∨ n = 1 ∨ n = 2 ∨ n = 3 ∨ n = 4 ∨ n = 5 ∨ n = 6 ∨ n = 7 ∨ n = 8 ∨ n = 9 ∨ n = 10 ∨ n = 11 ∨ n = 12 ∨ n = 13 ∨ n = 14 ∨ n = 15 := by omega
  rcases this with rfl | rfl | rfl | rfl | rfl | rfl | rfl | rfl | rfl | rfl | rfl | rfl | rfl | rfl | rfl | rfl <;> rfl

set_option maxHeartbeats 1000000 in
theorem hex_any (s : ByteArray) (w : World) (hs : s.size ≤ 16777216) :
    Calls Tryd.prog 13 #[.string s] w fun e w' => e = .returned (.string ⟨(Hex.hex s.data.toList).toArray⟩) ∧ Below w.heap.size w w' := by
  have hbk : (w.alloc (.cells #[.pointer none, .slice none 0 0] 42)).heap[w.heap.size]? = some (.cells #[.pointer none, .slice none 0 0] 42 (0, 0)) := heap_alloc_new _ _
  have hB0 : Below w.heap.size w (w.alloc (.cells #[.pointer none, .slice none 0 0] 42)) := (Below.refl _ _).alloc (Nat.le_refl _) _
  have hgr := grow_any w.heap.size (2 * s.size) _ hbk hB0.size (by omega)
  have Hgr := Lib.hid hgr; clear hgr
  have HB0 := Lib.hid hB0; clear hB0
  clear hbk
  go_enter Tryd.func13, Tryd.ntmps13
  go_wp2_with fail
  refine Hgr.out.mono ?_
  rintro e w1 ⟨rfl, h1, h2⟩
  have hb1 := HB0.out.trans h2
  clear h2
  go_wp2_with fail
  go_loopw [11] (fun i wr => ∃ k : Nat, k ≤ s.size ∧ i = .int .i64 k ∧ Holds w.heap.size (Hex.hex (s.data.toList.take k)) wr ∧ Below w.heap.size w wr) (fun i _ => s.size - (intOf i).toNat)
  case atStart => exact ⟨0, by omega, rfl, h1, hb1⟩
  case round =>
    obtain ⟨k, hk, rfl, hh, hb⟩ := hrel
    have Hh := Lib.hid hh; clear hh
    have Hb := Lib.hid hb; clear hb
    have hl1 : s.data.toList.length = s.size := ba_len s
    by_cases hlt : k < s.size
    · have hts := Hex.hex_take_succ s.data.toList k (by omega)
      rw [ba_get s k hlt] at hts
      have hxl := Hex.hex_length (s.data.toList.take k)
      rw [List.length_take] at hxl
      have hbt : s[k].toNat < 256 := s[k].toNat_lt
      have i0 : (0 : Int) ≤ (s[k].toNat : Int) / 16 := by omega
      have i1 : (s[k].toNat : Int) / 16 < 16 := by omega
      have i2 : (0 : Int) ≤ (s[k].toNat : Int) % 16 := by omega
      have i3 : (s[k].toNat : Int) % 16 < 16 := by omega
      have htw : Hex.two s[k] = [Hex.dig (s[k].toNat / 16), Hex.dig (s[k].toNat % 16)] := rfl
      rw [htw] at hts
      have hand := and_15 s[k].toNat hbt
      have c1 := fun (u : World) (hH : Holds w.heap.size (Hex.hex (s.data.toList.take k)) u) (hB : w.heap.size ≤ u.heap.size) => byte_any w.heap.size (Hex.hex (s.data.toList.take k)) (Hex.dig (s[k].toNat / 16)) _ rfl u hH (by omega) hB
      have c2 := fun (u : World) (hH : Holds w.heap.size (Hex.hex (s.data.toList.take k) ++ [Hex.dig (s[k].toNat / 16)]) u) (hB : w.heap.size ≤ u.heap.size) => byte_any w.heap.size (Hex.hex (s.data.toList.take k) ++ [Hex.dig (s[k].toNat / 16)]) (Hex.dig (s[k].toNat % 16)) _ rfl u hH (by rw [List.length_append, List.length_singleton]; omega) hB
      have Hts := Lib.hid hts; clear hts
      have Hxl := Lib.hid hxl; clear hxl
      have Htw := Lib.hid htw; clear htw
      have C1 := Lib.hid c1; clear c1
      have C2 := Lib.hid c2; clear c2
      have Hl1 := Lib.hid hl1; clear hl1
      go_wp2_with fail
      rw [table_get _ (by omega) (by show _ < 16; omega)]
      refine (C1.out _ Hh.out Hb.out.size).mono ?_
      rintro e w2 ⟨rfl, h2, h3⟩
      have hb2 := Hb.out.trans h3
      have H2 := Lib.hid h2; clear h2
      have Hb2 := Lib.hid hb2; clear hb2
      clear h3
      go_wp2_with fail
      rw [table_get _ (by omega) (by show _ < 16; omega)]
      refine (C2.out _ H2.out Hb2.out.size).mono ?_
      rintro e w3 ⟨rfl, h4, h5⟩
      have hb3 := Hb2.out.trans h5
      rw [List.append_assoc] at h4
      have H4 := Lib.hid h4; clear h4
      have Hb3 := Lib.hid hb3; clear hb3
      clear h5
      go_wp2_with fail
      go_roundw
      case rel => exact ⟨k + 1, by omega, by go_num, by rw [Hts.out]; exact H4.out, Hb3.out⟩
      case measure => simp [intOf]; omega
    · obtain rfl : k = s.size := by omega
      have ht : s.data.toList.take s.size = s.data.toList := List.take_of_length_le (by omega)
      have h4 := Hh.out
      rw [ht] at h4
      have hst := string_any w.heap.size _ wr h4 Hb.out.size
      have Hst := Lib.hid hst; clear hst
      clear ht h4 hl1
      go_wp2_with fail
      refine Hst.out.mono ?_
      rintro e w5 ⟨rfl, h5⟩
      go_wp2_with fail
      go_ret
      exact ⟨rfl, Hb.out.trans h5⟩
end Go.Proofs.YtdlcdbpigcmnbaaDoor
