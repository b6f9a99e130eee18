/-
  What Seal, opened, Open and Ok return.
-/
import Derived.Test.YteddioaabhjjnaaCrcMore
import Derived.Test.YteddioaabhjjnaaCrcSealPure
import Derived.Test.YteddioaabhjjnaaOctGet
import Derived.Test.YteddioaabhjjnaaOctPut
import Derived.Test.YteddioaabhjjnaaGoClone
import Derived.Deep.QuietTactic
import Derived.BigQuiet
set_option linter.unusedVariables false
namespace Go.Proofs.Yteddioaabhjjnaa
open Go.RowKit

set_option maxHeartbeats 400000 in
theorem seal_any (s : ByteArray) (hs : s.size ≤ 140737488351232) (w : World) :
    Calls Try.prog 11 #[.string s] w fun e w' => e = .returned (.string (sealB s)) ∧ Below w.heap.size w w' := by
  have hsl := Crc.sum_lt s.data.toList
  have hp := fun u => octPut_any (Crc.sum s.data.toList) 4 u (by omega) (by decide) (by decide)
  have he : Oct.put (Crc.sum s.data.toList) 4 = (Crc.le4 (Crc.sum s.data.toList), 0) := by
    unfold Oct.put
    rw [if_pos ⟨by decide, by decide, by simpa using hsl⟩]
    show (Oct.le 4 _, _) = _
    rw [le4_eq]
  rw [he] at hp
  have hq : sealB s = s ++ ⟨(Crc.le4 (Crc.sum s.data.toList)).toArray⟩ := rfl
  have cs := fun u => sum_any s hs u
  have hl := le4_length (Crc.sum s.data.toList)
  have hl2 : (⟨(Crc.le4 (Crc.sum s.data.toList)).toArray⟩ : ByteArray).size = 4 := rfl
  generalize Crc.le4 (Crc.sum s.data.toList) = t at *
  generalize Crc.sum s.data.toList = c at *
  have hb : ¬ 9223372036854775807 < s.size + t.length := by omega
  have hb2 : ¬ 9223372036854775807 < s.size + 4 := by omega
  have Hp := Lib.hid hp; clear hp
  have Cs := Lib.hid cs; clear cs
  have Hq := Lib.hid hq; clear hq
  clear he
  go_enter Try.func11, Try.ntmps11
  go_wp2_with fail
  refine (Cs.out _).mono ?_; rintro e w1 ⟨rfl, h1⟩
  go_wp2_with fail
  refine (Hp.out _).mono ?_; rintro e w2 ⟨rfl, h2⟩
  go_wp2_with fail
  go_ret
  exact ⟨by rw [Hq.out]; rfl, h1.trans (h2.mono h1.size)⟩

set_option maxHeartbeats 400000 in
theorem opened_any (s : ByteArray) (hs : s.size ≤ 140737488351232) (w : World) :
    Calls Try.prog 15 #[.string s] w fun e w' => e = .returned (.tuple #[.string (opn s).1, .int .i64 (opn s).2]) ∧ Below w.heap.size w w' := by
  by_cases h4 : s.size < 4
  · have hp : opn s = (.empty, 6) := if_pos h4
    have hd : decide ((s.size : Int) < 4) = true := decide_eq_true (by omega)
    have Hp := Lib.hid hp; clear hp
    go_enter Try.func15, Try.ntmps15
    go_wp2
    go_ret2
    exact ⟨by rw [Hp.out]; rfl, Below.refl _ _⟩
  · have hd : decide ((s.size : Int) < 4) = false := decide_eq_false (by omega)
    have hw : IntKind.i64.wrap ((s.size : Int) - 4) = (s.size : Int) - 4 := IntWalk.i64_in _ (by omega)
    have hiff := seal_iff s (by omega)
    have htl : (s.extract (s.size - 4) s.size).data.toList.length = 4 := by rw [ba_len, ByteArray.size_extract]; omega
    have hbs : (s.extract 0 (s.size - 4)).size ≤ 140737488351232 := by rw [ByteArray.size_extract]; omega
    have cs := fun u => sum_any (s.extract 0 (s.size - 4)) hbs u
    have cg := fun u => octGet_any (s.extract (s.size - 4) s.size) u
    have hge : Oct.get (s.extract (s.size - 4) s.size).data.toList = (Oct.un (s.extract (s.size - 4) s.size).data.toList, 0) := by
      unfold Oct.get; rw [htl]; rfl
    rw [hge] at cg
    have hcl := Crc.sum_lt (s.extract 0 (s.size - 4)).data.toList
    have hul := Oct.un_small (s.extract (s.size - 4) s.size).data.toList (by omega)
    have t0 : ((s.size : Int) - 4).toNat = s.size - 4 := by omega
    have x1 : ∀ u : World, (Instr.slice 9 (.string s) none (some (.int .i64 ((s.size : Int) - 4))) none).run Try.prog u = .ok (.string (s.extract 0 (s.size - 4))) u := fun u => by
      rw [run_slice_string_to_if (P := Try.prog) u 9 s .i64 _ Try.underlying9, if_pos ⟨by omega, by omega⟩, t0]
    have x2 : ∀ u : World, (Instr.slice 9 (.string s) (some (.int .i64 ((s.size : Int) - 4))) none none).run Try.prog u = .ok (.string (s.extract (s.size - 4) s.size)) u := fun u => by
      rw [run_slice_string_from_if (P := Try.prog) u 9 s .i64 _ Try.underlying9, if_pos ⟨by omega, by omega⟩, t0]
    have hopn : opn s = if sealB (s.extract 0 (s.size - 4)) = s then (s.extract 0 (s.size - 4), 0) else (.empty, 7) := if_neg h4
    generalize s.extract (s.size - 4) s.size = t at *
    generalize s.extract 0 (s.size - 4) = b at *
    generalize Oct.un t.data.toList = x at *
    generalize Crc.sum b.data.toList = c at *
    have hwc : IntKind.u64.wrap (c : Int) = (c : Int) := wrap_u64_in _ (by omega) (by omega)
    have Cs := Lib.hid cs; clear cs
    have Cg := Lib.hid cg; clear cg
    clear hge htl
    by_cases hq : x = c
    · subst hq
      rw [if_pos (hiff.1 rfl)] at hopn
      have Hopn := Lib.hid hopn; clear hopn
      clear hiff t0 hul hbs
      go_enter Try.func15, Try.ntmps15
      go_wp2_with fail
      go_quiet (fail)
      go_wp2_with fail
      refine (Cg.out _).mono ?_; rintro e w1 ⟨rfl, rfl⟩
      go_wp2_with fail
      refine (Cs.out _).mono ?_; rintro e w2 ⟨rfl, h2⟩
      go_wp2_with fail
      go_ret2
      exact ⟨by rw [Hopn.out]; rfl, below_drewN_left h2⟩
    · rw [if_neg (fun e => hq (hiff.2 e))] at hopn
      have Hopn := Lib.hid hopn; clear hopn
      have hne : ((x : Int) != (c : Int)) = true := by rw [bne_iff_ne]; omega
      have hne2 : (!decide (x = c)) = true := by rw [decide_eq_false hq]; rfl
      have hne3 : decide (x = c) = false := decide_eq_false hq
      have hne4 : ((x : Int) == (c : Int)) = false := beq_eq_false_iff_ne.2 (by omega)
      clear hiff t0 hul hbs
      go_enter Try.func15, Try.ntmps15
      go_wp2_with fail
      go_quiet (fail)
      go_wp2_with fail
      refine (Cg.out _).mono ?_; rintro e w1 ⟨rfl, rfl⟩
      go_wp2_with fail
      refine (Cs.out _).mono ?_; rintro e w2 ⟨rfl, h2⟩
      go_wp2_with fail
      go_ret2
      exact ⟨by rw [Hopn.out]; rfl, below_drewN_left h2⟩

set_option maxHeartbeats 400000 in
theorem open_any (s : ByteArray) (hs : s.size ≤ 140737488351232) (w : World) :
    Calls Try.prog 7 #[.string s] w fun e w' => e = .returned (.tuple #[.string (opn s).1, .int .i64 (opn s).2]) ∧ Below w.heap.size w w' := by
  have co := fun u => opened_any s hs u
  have hz := opn_size s
  have cc := fun u => clone_any (opn s).1 u (by omega)
  generalize (opn s).1 = x at *
  generalize (opn s).2 = f at *
  have Co := Lib.hid co; clear co
  have Cc := Lib.hid cc; clear cc
  go_enter Try.func7, Try.ntmps7
  go_wp2_with fail
  refine (Co.out _).mono ?_; rintro e w1 ⟨rfl, h1⟩
  go_wp2_with fail
  refine (Cc.out _).mono ?_; rintro e w2 ⟨rfl, h2⟩
  go_wp2_with fail
  go_ret2
  exact ⟨rfl, h1.trans (h2.mono h1.size)⟩

set_option maxHeartbeats 400000 in
theorem ok_any (s : ByteArray) (hs : s.size ≤ 140737488351232) (w : World) :
    Calls Try.prog 13 #[.string s] w fun e w' => e = .returned (.bool ((opn s).2 == 0)) ∧ Below w.heap.size w w' := by
  have co := fun u => opened_any s hs u
  generalize (opn s).1 = x at *
  generalize (opn s).2 = f at *
  have Co := Lib.hid co; clear co
  go_enter Try.func13, Try.ntmps13
  go_wp2_with fail
  refine (Co.out _).mono ?_; rintro e w1 ⟨rfl, h1⟩
  go_wp2_with fail
  go_ret
  exact ⟨rfl, h1⟩
end Go.Proofs.Yteddioaabhjjnaa
