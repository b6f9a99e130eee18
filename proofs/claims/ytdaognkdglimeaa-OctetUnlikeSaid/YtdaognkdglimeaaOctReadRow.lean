/-
  What ReadRow and the document's answer for it return.
-/
import Derived.Test.YtdaognkdglimeaaOctRow2
import Derived.Test.YtdaognkdglimeaaOctPure6
set_option linter.unusedVariables false
namespace Go.Proofs.Ytdaognkdglimeaa
open Go.RowKit

theorem infoStr : (Try.prog.info? 9).map (fun i => (i.zero, i.size, i.bytes)) = some (some (.string ⟨#[]⟩), 1, 16) := by kernel_rfl

/-- a slice of the call's own that holds these texts -/
def Own (B : Nat) (v : Value) (l : List ByteArray) (w : World) : Prop := w.ownsRow B 9 1 v l.length (l.map Value.string)

theorem Own.strs {B : Nat} {v : Value} {l : List ByteArray} {w : World} (h : Own B v l w) : ∃ a cap, v = .slice a l.length cap ∧ Strs a l.length l w ∧ (l = [] → v = .slice none 0 0 ∨ ∃ a cap, v = .slice a 0 cap) := by
  obtain ⟨_, h | ⟨g, cap, cur, hv, hg, hb, hn, hc, hs, ht⟩⟩ := h
  · obtain ⟨hv, h0⟩ := h
    refine ⟨none, 0, by rw [hv, h0], ⟨rfl, fun j hj => by omega⟩, fun _ => .inl hv⟩
  · refine ⟨some ⟨g, 0, none⟩, cap, hv, ⟨rfl, fun j hj => ⟨g, 0, rfl, ?_⟩⟩, fun e => .inr ⟨some ⟨g, 0, none⟩, cap, by rw [hv, e]; rfl⟩⟩
    rw [Lib.cell_of_heap hb]
    have e1 : (cur.toList.take (l.length * 1))[j]? = cur[0 + j]? := by
      rw [List.getElem?_take_of_lt (by omega), Nat.zero_add]; simp
    rw [← e1, ht]
    simp [List.getD_eq_getElem?_getD, hj]

/-- how far the reading of a row has come -/
def RowAt (cnt : Nat) (r0 : List UInt8) (k : Nat) (acc : List (List UInt8)) (rest : List UInt8) : Prop :=
  k ≤ cnt ∧ Oct.readN cnt r0 = (Oct.readN (cnt - k) rest).map (acc ++ ·)

theorem RowAt.start (cnt : Nat) (r0 : List UInt8) : RowAt cnt r0 0 [] r0 := ⟨by omega, by simp⟩

theorem RowAt.next {cnt k : Nat} {r0 rest : List UInt8} {acc : List (List UInt8)} (h : RowAt cnt r0 k acc rest) (hk : k < cnt) (hz : (Oct.read rest).2.2 = 0) :
    RowAt cnt r0 (k + 1) (acc ++ [(Oct.read rest).1]) (rest.drop (Oct.read rest).2.1) := by
  refine ⟨by omega, ?_⟩
  rw [h.2, show cnt - k = (cnt - (k + 1)) + 1 by omega, Oct.readN, if_pos hz, Option.map_map]
  congr 1
  funext x
  simp

theorem RowAt.fail {cnt k : Nat} {r0 rest : List UInt8} {acc : List (List UInt8)} (h : RowAt cnt r0 k acc rest) (hk : k < cnt) (hz : (Oct.read rest).2.2 ≠ 0) : Oct.readN cnt r0 = none := by
  rw [h.2, show cnt - k = (cnt - (k + 1)) + 1 by omega, Oct.readN, if_neg hz]; rfl

theorem RowAt.done {cnt : Nat} {r0 : List UInt8} {acc : List (List UInt8)} (h : RowAt cnt r0 cnt acc []) : Oct.readN cnt r0 = some acc := by
  rw [h.2, Nat.sub_self, Oct.readN, if_pos rfl]; simp

theorem RowAt.more {cnt : Nat} {r0 rest : List UInt8} {acc : List (List UInt8)} (h : RowAt cnt r0 cnt acc rest) (hr : rest ≠ []) : Oct.readN cnt r0 = none := by
  rw [h.2, Nat.sub_self, Oct.readN, if_neg hr]; rfl

/-- what ReadRow hands back -/
def Got (r : Option (List (List UInt8))) (w : World) (e : Ending) (w' : World) : Prop :=
  Below w.heap.size w w' ∧
  ((r = none ∧ e = .returned (.tuple #[.slice none 0 0, .int .i64 7])) ∨
   ∃ (l : List ByteArray) (a : Option Addr) (cap : Nat), r = some (lists l) ∧ e = .returned (.tuple #[.slice a l.length cap, .int .i64 0]) ∧ Strs a l.length l w')

theorem read_cases (l : List UInt8) : (Oct.read l).2.2 = 0 ∨ (Oct.read l).2.2 = 6 := by
  unfold Oct.read; split <;> simp

theorem read_le (l : List UInt8) : (Oct.read l).2.1 ≤ l.length := by
  unfold Oct.read; split
  · rename_i h; exact h.2
  · simp

set_option maxHeartbeats 1000000 in
theorem refReadRow_any (s : ByteArray) (w : World) (hm : s.size ≤ 281474976710656) :
    Calls Try.prog 20 #[.string s] w (Got (Oct.readRow s.data.toList) w) := by
  obtain ⟨i0, hi, hz0, hz1, hz2⟩ := info_parts infoStr
  by_cases h2 : 2 ≤ s.size
  · have hh := Oct.hd_lt s.data.toList
    have hrow : Oct.readRow s.data.toList = Oct.readN (Oct.hd s.data.toList) (s.data.toList.drop 2) := by unfold Oct.readRow; rw [ba_len, if_pos h2]
    have hrv : ∀ u, Calls Try.prog 27 #[.string (s.extract 0 2)] u fun e w' => e = .returned (.int .u64 (Oct.hd s.data.toList)) ∧ u = w' := fun u => by
      have h := refValue_any (s.extract 0 2) u (by rw [ByteArray.size_extract]; omega)
      rw [Lib.extract_data] at h
      exact h
    have hs0 : ∀ u : World, (Instr.slice 9 (.string s) none (some (.int .i64 2)) none).run Try.prog u = .ok (.string (s.extract 0 2)) u := fun u => by
      rw [run_slice_string_to_if (P := Try.prog) u 9 s .i64 2 Try.underlying9, if_pos ⟨by omega, by omega⟩]; rfl
    have hs2 : ∀ u : World, (Instr.slice 9 (.string s) (some (.int .i64 2)) none none).run Try.prog u = .ok (.string ⟨(s.data.toList.drop 2).toArray⟩) u := fun u => by
      rw [run_slice_string_from_if (P := Try.prog) u 9 s .i64 2 Try.underlying9, if_pos ⟨by omega, by omega⟩, Lib.extract_eq]
      have : (s.data.toList.drop 2).take (s.size - 2) = s.data.toList.drop 2 := List.take_of_length_le (by rw [List.length_drop, ba_len]; omega)
      rw [show (2 : Int).toNat = 2 from rfl, this]
    have hr0 : (s.data.toList.drop 2).length ≤ 281474976710656 := by rw [List.length_drop, ba_len]; omega
    generalize Oct.hd s.data.toList = cnt at *
    generalize s.data.toList.drop 2 = r0 at *
    rw [hrow]
    have Hrow := Lib.hid hrow; clear hrow
    have Hrv := Lib.hid hrv; clear hrv
    go_enter Try.func20, Try.ntmps20
    go_wp2_with (go_at_call 27; refine (Hrv.out _).mono ?_; rintro e w' ⟨rfl, rfl⟩)
    clear hs0 hs2
    go_loopw [0, 5, 6] (fun r v i wr => ∃ (k : Nat) (acc : List ByteArray) (rest : List UInt8), acc.length = k ∧ k ≤ cnt ∧ i = .int .i64 k ∧ r = .string ⟨rest.toArray⟩ ∧ rest.length ≤ 281474976710656 ∧ Own w.heap.size v acc wr ∧ RowAt cnt r0 k (lists acc) rest ∧ Below w.heap.size w wr) (fun _ _ i _ => cnt - (intOf i).toNat)
    case atStart => exact ⟨0, [], r0, rfl, by omega, rfl, rfl, hr0, World.ownsRow_nil _ _ _ _, RowAt.start _ _, Below.refl _ _⟩
    case round =>
      obtain ⟨k, acc, rest, hacc, hk, rfl, rfl, hrl, hown, hat, hb⟩ := hrel
      by_cases hlt : k < cnt
      · have crd := fun u => refRead_any ⟨rest.toArray⟩ u (by rw [Lib.size_eq]; exact hrl)
        simp only [] at crd
        rcases read_cases rest with e0 | e6
        · have hn := hat.next hlt e0
          have hle := read_le rest
          rw [e0] at crd
          have hsd : ∀ u : World, (Instr.slice 9 (.string ⟨rest.toArray⟩) (some (.int .i64 (Oct.read rest).2.1)) none none).run Try.prog u = .ok (.string ⟨(rest.drop (Oct.read rest).2.1).toArray⟩) u := fun u => by
            rw [run_slice_string_from_if (P := Try.prog) u 9 _ .i64 _ Try.underlying9, if_pos ⟨by omega, by rw [Lib.size_eq]; simp only []; omega⟩, Lib.extract_eq]
            rw [Int.toNat_natCast, Lib.size_eq]
            simp only []
            rw [List.take_of_length_le (by rw [List.length_drop]; omega)]
          have hdl : (rest.drop (Oct.read rest).2.1).length ≤ 281474976710656 := by rw [List.length_drop]; omega
          generalize (Oct.read rest).1 = t at *
          generalize (Oct.read rest).2.1 = m at *
          generalize rest.drop m = rest2 at *
          have E0 := Lib.hid e0; clear e0
          have Crd := Lib.hid crd; clear crd
          have Hn := Lib.hid hn; clear hn
          have Hat := Lib.hid hat; clear hat
          have Hacc := Lib.hid hacc; clear hacc
          go_wp2_with fail
          refine (Crd.out _).mono ?_; rintro e w2 ⟨rfl, rfl⟩
          have hown1 : wr.ownsRow w.heap.size 9 1 u5 acc.length (acc.map Value.string) := hown
          have Hown := Lib.hid hown; clear hown
          go_wp2_with (at_builtin; refine wpList_append_own _ rfl _ _ 33 rfl w.heap.size 9 i0 (.string ⟨#[]⟩) 1 16 Try.underlying33 hi hz0 hz1 hz2 rfl (by decide) _ _ _ rfl (hown1.alloc _) ⟨wr.heap.size, 0, none⟩ 1 1 [.string ⟨t.toArray⟩] rfl rfl ?c1 ?c2 ?c3 ?c4 ?c5 ?_)
          case c1 => exact cell_one_new _ _ _
          case c2 => intro u hu; simp at hu; subst hu; rfl
          case c3 => have := Hacc.out; unfold maxLen; omega
          case c4 => have := Hacc.out; omega
          case c5 => have := hb.size; simp; omega
          intro v' w3 hown3 hgrow _
          have hown4 : Own w.heap.size v' (acc ++ [⟨t.toArray⟩]) w3 := by
            unfold Own
            rw [List.length_append, List.map_append]
            exact hown3
          have hb3 : Below w.heap.size w w3 := (hb.alloc hb.size _).grown hgrow (by have := hb.size; simp; omega) (fun b' h => hown1.lt b' h |>.1)
          have Hown4 := Lib.hid hown4; clear hown4
          clear hown3 hgrow hown1
          go_wp2
          go_roundw
          case rel => exact ⟨k + 1, acc ++ [⟨t.toArray⟩], rest2, by rw [List.length_append, Hacc.out]; rfl, by omega, by go_num, rfl, hdl, Hown4.out, by rw [show lists (acc ++ [(⟨t.toArray⟩ : ByteArray)]) = lists acc ++ [t] by simp [lists]]; exact Hn.out, hb3⟩
          case measure => simp [intOf]; omega
        · have hf := hat.fail hlt (by omega)
          rw [e6] at crd
          generalize (Oct.read rest).1 = t at *
          generalize (Oct.read rest).2.1 = m at *
          have E6 := Lib.hid e6; clear e6
          have Crd := Lib.hid crd; clear crd
          have Hf := Lib.hid hf; clear hf
          have Hat := Lib.hid hat; clear hat
          have Hacc := Lib.hid hacc; clear hacc
          have Hown := Lib.hid hown; clear hown
          go_wp2_with fail
          refine (Crd.out _).mono ?_; rintro e w2 ⟨rfl, rfl⟩
          go_wp2_with fail
          go_ret2
          exact ⟨hb, .inl ⟨Hf.out, rfl⟩⟩
      · obtain rfl : k = cnt := by omega
        have Hown := Lib.hid hown; clear hown
        by_cases hr : rest = []
        · subst hr
          have hd := hat.done
          have Hd := Lib.hid hd; clear hd
          have Hat := Lib.hid hat; clear hat
          have Hacc := Lib.hid hacc; clear hacc
          go_wp2
          go_ret2
          obtain ⟨a, cap, hv, hst, _⟩ := Hown.out.strs
          exact ⟨hb, .inr ⟨acc, a, cap, Hd.out, by rw [← hv]; rfl, hst⟩⟩
        · have hd := hat.more hr
          have hne : rest.isEmpty = false := by simpa using hr
          have Hd := Lib.hid hd; clear hd
          have Hat := Lib.hid hat; clear hat
          have Hacc := Lib.hid hacc; clear hacc
          go_wp2
          go_ret2
          exact ⟨hb, .inl ⟨Hd.out, rfl⟩⟩
  · have hn : Oct.readRow s.data.toList = none := by unfold Oct.readRow; rw [ba_len, if_neg h2]
    rw [hn]
    have Hn := Lib.hid hn; clear hn
    go_enter Try.func20, Try.ntmps20
    go_wp2
    go_ret2
    exact ⟨Below.refl _ _, .inl ⟨rfl, rfl⟩⟩

end Go.Proofs.Ytdaognkdglimeaa
