/-
  An area is read.
-/
import Derived.Test.YticcipgdjpoimaaGreatFilDec
set_option linter.unusedVariables false
set_option maxRecDepth 100000
namespace Go.Proofs.YticcipgdjpoimaaGreat
open Go.RowKit

namespace Fil
/-- the files that sectors have -/
def aread (s : Txt) : Option Row := match cut s with
  | none => none
  | some (c, _) => dec c
theorem aread_atext (r : Row) (hs : Sorted r) (hf : Fine r) (hn : used r < 4294967296) (t : Txt) : aread (atext r ++ t) = some r := by
  have h1 : (enc r).length = used r := enc_length r
  have h2 : r.length < 4294967296 := by
    have := len_used r
    unfold used at hn
    omega
  unfold aread atext Wal.fill
  rw [List.append_assoc, cut_of _ (by omega)]
  exact dec_enc r hs hf h2
end Fil
/-- what read returns, where the disk's answer is x with the error E -/
structure AreadR (E : Int) (x : List UInt8) (w : World) (e : Ending) (w' : World) : Prop where
  bad : E ≠ 0 → Below w.heap.size w w' ∧ e = .returned (.tuple #[.map none, .int .i64 E])
  good : E = 0 → DecR (Fil.aread x) w e w'

section
variable {S : Nat → Prop} {p : Nat} {d : Dsk.St} {w : World}
set_option maxHeartbeats 600000 in
theorem aread_any (h : DiskAt S p d w) (f n : Nat) (hf : f ≤ 1099511627) (hn : n ≤ 16384) (hsz : (Dsk.read d (f : Int) (n : Int)).1.length ≤ 1099511627) :
    Calls Tryz.prog 70 #[areaV p f n] w (AreadR (Dsk.read d (f : Int) (n : Int)).2 (Dsk.read d (f : Int) (n : Int)).1 w) := by
  have hr := fun u (hu : DiskAt S p d u) => read_all hu (f : Int) (n : Int) ⟨by omega, by omega⟩ ⟨by omega, by omega⟩
  generalize (Dsk.read d (f : Int) (n : Int)).1 = x at *
  generalize (Dsk.read d (f : Int) (n : Int)).2 = E at *
  have hr2 : ∀ u (hu : DiskAt S p d u), Calls Tryz.prog 66 #[.pointer (some ⟨p, 0, none⟩), .int .i64 (f : Int), .int .i64 (n : Int)] u fun e w' => e = .returned (.tuple #[.string (ba x), .int .i64 E]) ∧ Below u.heap.size u w' := hr
  have hk : Below w.heap.size w (w.alloc (.cells #[.pointer (some ⟨p, 0, none⟩), .int .i64 (f : Int), .int .i64 (n : Int)] 70)) := (Below.refl _ w).alloc (Nat.le_refl _) _
  have hr3 := hr2 _ (h.new hk)
  have Hr := Lib.hid hr3; clear hr hr2 hr3
  have Hk := Lib.hid hk; clear hk
  clear h
  unfold areaV
  by_cases hE : E = 0
  · subst hE
    have hc := fun u => cut_any (ba x) (by rw [ba_size]; omega) u
    rw [ba_list] at hc
    cases hq : Fil.cut x with
    | none =>
      rw [hq] at hc
      have hA : Fil.aread x = none := by unfold Fil.aread; rw [hq]
      have Hc := Lib.hid hc; clear hc
      have HA := Lib.hid hA; clear hA
      clear hq
      go_enter Tryz.func70, Tryz.ntmps70
      go_wp2_with fail
      refine Hr.out.mono ?_; rintro e w1 ⟨rfl, h1⟩
      go_wp2_with fail
      refine (Hc.out _).mono ?_; rintro e w2 ⟨rfl, h2⟩
      simp only [cutR]
      go_wp2_with fail
      go_ret2
      refine ⟨fun e => absurd rfl e, fun _ => ⟨(Hk.out.trans (h1.mono Hk.out.size)).trans (h2.mono (Nat.le_trans Hk.out.size h1.size)), ?_⟩⟩
      rw [HA.out]; rfl
    | some y =>
      obtain ⟨c, t⟩ := y
      rw [hq] at hc
      have hA : Fil.aread x = Fil.dec c := by unfold Fil.aread; rw [hq]
      obtain ⟨e1, _⟩ := Fil.cut_is hq
      have hcl : c.length ≤ 1099511627 := by
        have := congrArg List.length e1
        simp only [List.length_append] at this
        omega
      have hd := fun u => decoded_any (ba c) (by rw [ba_size]; exact hcl) u
      rw [ba_list] at hd
      have Hd := Lib.hid hd; clear hd
      have Hc := Lib.hid hc; clear hc
      have HA := Lib.hid hA; clear hA
      clear hq e1 hcl
      go_enter Tryz.func70, Tryz.ntmps70
      go_wp2_with fail
      refine Hr.out.mono ?_; rintro e w1 ⟨rfl, h1⟩
      go_wp2_with fail
      refine (Hc.out _).mono ?_; rintro e w2 ⟨rfl, h2⟩
      simp only [cutR]
      go_wp2_with fail
      have hb2 : Below w.heap.size w w2 := (Hk.out.trans (h1.mono Hk.out.size)).trans (h2.mono (Nat.le_trans Hk.out.size h1.size))
      have Hb2 := Lib.hid hb2; clear hb2
      clear h1 h2
      refine (Hd.out _).mono ?_; rintro e w3 ⟨h3, hres⟩
      cases hdc : Fil.dec c with
      | none =>
        rw [hdc] at hres
        simp only [] at hres
        subst hres
        have HA2 : Hid (Fil.aread x = none) := Lib.hid (by rw [HA.out, hdc])
        clear hdc
        go_wp2_with fail
        go_ret2
        refine ⟨fun e => absurd rfl e, fun _ => ⟨Hb2.out.trans (h3.mono Hb2.out.size), ?_⟩⟩
        rw [HA2.out]; rfl
      | some r =>
        rw [hdc] at hres
        simp only [] at hres
        obtain ⟨b, nn, hb, hnn, rfl, hm⟩ := hres
        have HA2 : Hid (Fil.aread x = some r) := Lib.hid (by rw [HA.out, hdc])
        have Hm := Lib.hid hm; clear hm
        have Hnn := Lib.hid hnn; clear hnn
        clear hdc
        go_wp2_with fail
        go_ret2
        refine ⟨fun e => absurd rfl e, fun _ => ⟨Hb2.out.trans (h3.mono Hb2.out.size), ?_⟩⟩
        rw [HA2.out]
        exact ⟨b, nn, Nat.le_trans Hb2.out.size hb, Hnn.out, rfl, Hm.out⟩
  · have hx : (E != 0) = true := by rw [bne_iff_ne]; exact hE
    have HE := Lib.hid hE; clear hE
    go_enter Tryz.func70, Tryz.ntmps70
    go_wp2_with fail
    refine Hr.out.mono ?_; rintro e w1 ⟨rfl, h1⟩
    go_wp2_with fail
    go_ret2
    exact ⟨fun _ => ⟨Hk.out.trans (h1.mono Hk.out.size), rfl⟩, fun e => absurd e HE.out⟩
end
end Go.Proofs.YticcipgdjpoimaaGreat
