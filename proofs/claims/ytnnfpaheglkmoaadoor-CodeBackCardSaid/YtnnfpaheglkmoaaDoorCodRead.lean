/-
  Which instruction a text is the line of: code.Read.
-/
import Derived.Test.YtnnfpaheglkmoaaDoorCodLine
import Derived.Test.YtnnfpaheglkmoaaDoorCodCutP
import Derived.Test.YtnnfpaheglkmoaaDoorGoTxt
import Derived.Test.YtnnfpaheglkmoaaDoorCodTake
import Derived.Lib.AtoiErrMem
import Derived.Shelf.Pu.ParseUintPublic10
import Derived.Laws.Rows
import Derived.Shelf.Pu.ErrVarParseUint
set_option linter.unusedVariables false
set_option maxRecDepth 100000
namespace Go.Proofs.YtnnfpaheglkmoaaDoor
open Go.RowKit

theorem parse_any (d : ByteArray) (hd : d.size ≤ 1000) (w : World) (h : Kn w) :
    Calls Tryd.prog 31 #[.string d, .int .i64 10, .int .i64 8] w fun e w' => ∃ (u : Nat) (ev : Value), e = .returned (.tuple #[.int .u64 (u : Int), ev]) ∧ (∀ n, n < 256 → d.data.toList = Cod.dec n → u = n) ∧ (d.data.toList = [] → u = 0) ∧ Below w.heap.size w w' := by
  obtain ⟨t1, p1, e1⟩ := h.syn
  obtain ⟨t2, p2, e2⟩ := h.ran
  rcases hp : Lib.parseUintB 8 d.data.toList with u | _ | _
  · refine (Tryd.strconv_ParseUint_10_at8_ok d (by omega) u hp w).mono ?_
    rintro e w' ⟨rfl, hw⟩
    refine ⟨u, _, rfl, fun n hn hdn => ?_, fun hdn => ?_, ?_⟩
    · have := Cod.parse_dec n hn
      rw [← hdn, hp] at this
      simpa using this
    · have := Cod.parse_nil
      rw [← hdn, hp] at this
      simp at this
    · rcases hw with rfl | rfl
      · exact Below.refl _ _
      · exact Lib.bytesWorld_below _ _ _
  · refine (Any.strconv_ParseUint_10_at8_syntax_var Tryd.laysPu14 d (by omega) hp t1 p1 w e1).mono ?_
    rintro e w' ⟨N, rfl, h1, h2, h3⟩
    refine ⟨0, _, rfl, fun n hn hdn => ?_, fun _ => rfl, h3⟩
    have := Cod.parse_dec n hn
    rw [← hdn, hp] at this
    simp at this
  · refine (Any.strconv_ParseUint_10_at8_range_var Tryd.laysPu14 d (by omega) hp t2 p2 w e2).mono ?_
    rintro e w' ⟨N, rfl, h1, h2, h3⟩
    refine ⟨255, _, rfl, fun n hn hdn => ?_, fun hdn => ?_, h3⟩
    · have := Cod.parse_dec n hn
      rw [← hdn, hp] at this
      simp at this
    · have := Cod.parse_nil
      rw [← hdn, hp] at this
      simp at this

/-- what Cut answers at a space -/
def CutR (s : ByteArray) (e : Ending) : Prop := ∃ (a b : ByteArray) (f : Bool), e = .returned (.tuple #[.string a, .string b, .bool f]) ∧ (∀ p q, s.data.toList = p ++ 32 :: q → p.contains 32 = false → a.data.toList = p ∧ b.data.toList = q) ∧ (s.data.toList.contains 32 = false → a.data.toList = s.data.toList ∧ b.data.toList = []) ∧ a.size ≤ s.size ∧ b.size ≤ s.size
set_option maxHeartbeats 1000000 in
theorem cut0_any (s : ByteArray) (hs : s.size ≤ 1099511627776) (w : World) :
    Calls Tryd.prog 39 #[.string s, .string ⟨#[32]⟩] w fun e w' => CutR s e ∧ Below w.heap.size w w' := by
  have hix := fun u => Tryd.stringslite_Index_one s 32 u
  have hln := ba_len s
  rcases Cod.ix_range s.data.toList with h | ⟨i, h, hi⟩
  · rw [h] at hix
    have hns : ∀ p q, s.data.toList = p ++ 32 :: q → p.contains 32 = false → False := fun p q e1 e2 => by
      rw [e1, Cod.ix_some p q e2] at h
      omega
    have Hns := Lib.hid hns; clear hns
    have HX := Lib.hid hix; clear hix
    clear h
    go_enter Tryd.func39, Tryd.ntmps39
    go_wp2_with fail
    refine (HX.out _).mono ?_; rintro e w1 ⟨rfl, rfl⟩
    go_wp2_with fail
    go_ret3
    exact ⟨⟨s, ⟨#[]⟩, false, rfl, fun p q e1 e2 => (Hns.out p q e1 e2).elim, fun _ => ⟨rfl, rfl⟩, Nat.le_refl _, Nat.zero_le _⟩, Below.refl _ _⟩
  · rw [h] at hix
    rw [hln] at hi
    have hsm : ∀ p q, s.data.toList = p ++ 32 :: q → p.contains 32 = false → i = p.length := fun p q e1 e2 => by
      rw [e1, Cod.ix_some p q e2] at h
      omega
    have hno : ¬ s.data.toList.contains 32 = false := fun e => by
      rw [Cod.ix_none _ e] at h
      omega
    have hres : CutR s (.returned (.tuple #[.string (s.extract 0 i), .string (s.extract (i + 1) s.size), .bool true])) := by
      refine ⟨_, _, _, rfl, fun p q e1 e2 => ?_, fun e => (hno e).elim, by rw [ByteArray.size_extract]; omega, by rw [ByteArray.size_extract]; omega⟩
      have hip := hsm p q e1 e2
      have hln2 : s.size = p.length + (q.length + 1) := by rw [← hln, e1]; simp
      rw [ByteArray.data_extract, ByteArray.data_extract, Array.toList_extract, Array.toList_extract, List.extract_eq_take_drop, List.extract_eq_take_drop, e1, hip]
      constructor
      · simp
      · rw [hln2]
        simp [List.drop_append]
        rw [List.drop_eq_nil_of_le (by omega), List.nil_append, List.take_of_length_le (by omega)]
    have Hres := Lib.hid hres; clear hres
    have HX := Lib.hid hix; clear hix
    clear h hsm hno
    have c1 : (0 : Int) ≤ (i : Int) := by omega
    have c2 : (i : Int) ≤ (s.size : Int) := by omega
    have c3 : (0 : Int) ≤ (i : Int) + 1 := by omega
    have c4 : (i : Int) + 1 ≤ (s.size : Int) := by omega
    have c5 : IntKind.i64.wrap ((i : Int) + 1) = (i : Int) + 1 := by simp only [IntKind.wrap_i64]; omega
    go_enter Tryd.func39, Tryd.ntmps39
    go_wp2_with fail
    refine (HX.out _).mono ?_; rintro e w1 ⟨rfl, rfl⟩
    go_wp2_with fail
    go_region
    go_wp2_with fail
    go_ret3
    exact ⟨Hres.out, (Below.refl _ _).drew⟩
theorem cut_any (s : ByteArray) (hs : s.size ≤ 1099511627776) (w : World) :
    Calls Tryd.prog 30 #[.string s, .string ⟨#[32]⟩] w fun e w' => CutR s e ∧ Below w.heap.size w w' := by
  go_enter Tryd.func30, Tryd.ntmps30
  go_wp2_with fail
  refine (cut0_any s hs _).mono ?_; rintro e w1 ⟨⟨a, b, f, rfl, h⟩, hb⟩
  go_wp2_with fail
  go_ret3
  exact ⟨⟨a, b, f, rfl, h⟩, hb⟩
end Go.Proofs.YtnnfpaheglkmoaaDoor
