/-
  The chapter's examples hold.
-/
import Derived.Test.YtdlcdbpigcmnbaaDoorShaSum
import Derived.Test.YtdlcdbpigcmnbaaDoorShaUnhex
set_option linter.unusedVariables false
namespace Go.Proofs.YtdlcdbpigcmnbaaDoor
open Go.RowKit

theorem ev_empty : Hex.hex (Sha.digest []) = [101, 51, 98, 48, 99, 52, 52, 50, 57, 56, 102, 99, 49, 99, 49, 52, 57, 97, 102, 98, 102, 52, 99, 56, 57, 57, 54, 102, 98, 57, 50, 52, 50, 55, 97, 101, 52, 49, 101, 52, 54, 52, 57, 98, 57, 51, 52, 99, 97, 52, 57, 53, 57, 57, 49, 98, 55, 56, 53, 50, 98, 56, 53, 53] := by decide +kernel
theorem ev_abc : Hex.hex (Sha.digest [97, 98, 99]) = [98, 97, 55, 56, 49, 54, 98, 102, 56, 102, 48, 49, 99, 102, 101, 97, 52, 49, 52, 49, 52, 48, 100, 101, 53, 100, 97, 101, 50, 50, 50, 51, 98, 48, 48, 51, 54, 49, 97, 51, 57, 54, 49, 55, 55, 97, 57, 99, 98, 52, 49, 48, 102, 102, 54, 49, 102, 50, 48, 48, 49, 53, 97, 100] := by decide +kernel
theorem ev_bad : Hex.un [48, 71] = ([], 7) := by decide +kernel

theorem al_hex0 (w : World) : Calls Tryd.prog 13 #[.string ⟨(Sha.digest []).toArray⟩] w fun e w' => e = .returned (.string ⟨#[101, 51, 98, 48, 99, 52, 52, 50, 57, 56, 102, 99, 49, 99, 49, 52, 57, 97, 102, 98, 102, 52, 99, 56, 57, 57, 54, 102, 98, 57, 50, 52, 50, 55, 97, 101, 52, 49, 101, 52, 54, 52, 57, 98, 57, 51, 52, 99, 97, 52, 57, 53, 57, 57, 49, 98, 55, 56, 53, 50, 98, 56, 53, 53]⟩) ∧ Below w.heap.size w w' := by
  have h := hex_any ⟨(Sha.digest []).toArray⟩ w (by rw [Lib.size_eq]; simp only []; rw [Sha.digest_length]; decide)
  rw [show (⟨(Sha.digest []).toArray⟩ : ByteArray).data.toList = Sha.digest [] from rfl, ev_empty] at h
  exact h
theorem al_hex3 (w : World) : Calls Tryd.prog 13 #[.string ⟨(Sha.digest [97, 98, 99]).toArray⟩] w fun e w' => e = .returned (.string ⟨#[98, 97, 55, 56, 49, 54, 98, 102, 56, 102, 48, 49, 99, 102, 101, 97, 52, 49, 52, 49, 52, 48, 100, 101, 53, 100, 97, 101, 50, 50, 50, 51, 98, 48, 48, 51, 54, 49, 97, 51, 57, 54, 49, 55, 55, 97, 57, 99, 98, 52, 49, 48, 102, 102, 54, 49, 102, 50, 48, 48, 49, 53, 97, 100]⟩) ∧ Below w.heap.size w w' := by
  have h := hex_any ⟨(Sha.digest [97, 98, 99]).toArray⟩ w (by rw [Lib.size_eq]; simp only []; rw [Sha.digest_length]; decide)
  rw [show (⟨(Sha.digest [97, 98, 99]).toArray⟩ : ByteArray).data.toList = Sha.digest [97, 98, 99] from rfl, ev_abc] at h
  exact h
theorem al_un (w : World) : Calls Tryd.prog 11 #[.string ⟨#[48, 71]⟩] w fun e w' => e = .returned (.tuple #[.string ⟨#[]⟩, .int .i64 7]) ∧ Below w.heap.size w w' := by
  have h := unhex_any ⟨#[48, 71]⟩ w (by decide)
  rw [show (⟨#[48, 71]⟩ : ByteArray).data.toList = [48, 71] from rfl, ev_bad] at h
  exact h
theorem al_sum0 (w : World) (hK : Kw w) : Calls Tryd.prog 8 #[.string ⟨#[]⟩] w fun e w' => e = .returned (.string ⟨(Sha.digest []).toArray⟩) ∧ Below w.heap.size w w' := sum_any ⟨#[]⟩ w hK (by decide)
theorem al_sum3 (w : World) (hK : Kw w) : Calls Tryd.prog 8 #[.string ⟨#[97, 98, 99]⟩] w fun e w' => e = .returned (.string ⟨(Sha.digest [97, 98, 99]).toArray⟩) ∧ Below w.heap.size w w' := sum_any ⟨#[97, 98, 99]⟩ w hK (by decide)

set_option maxRecDepth 100000 in
set_option maxHeartbeats 2000000 in
theorem alive_any (w : World) (hK : Kw w) : Calls Tryd.prog 7 #[] w fun e w' => e = .returned (.bool true) ∧ Below w.heap.size w w' := by
  have hp := hK.pos
  have h0 := HashAt.start w hp
  have k0 : Below w.heap.size w (w.alloc (.cells initCells 57)) := (Below.refl _ w).alloc (Nat.le_refl _) _
  have hn := new_any w
  generalize w.alloc (.cells initCells 57) = w0 at *
  have hw1 := write_at w.heap.size [] ⟨#[97, 98]⟩ w0 (hK.below k0) h0 (by decide)
  rw [show ([] : List UInt8) ++ (⟨#[97, 98]⟩ : ByteArray).data.toList = [97, 98] from rfl] at hw1
  have Hn := Lib.hid hn; clear hn
  have Hw1 := Lib.hid hw1; clear hw1
  have K0 := Lib.hid k0; clear k0
  have HK := Lib.hid hK; clear hK
  clear h0
  go_enter Tryd.func7, Tryd.ntmps7
  go_wp2_with fail
  refine Hn.out.mono ?_; rintro e w' ⟨rfl, rfl⟩
  go_wp2_with fail
  refine Hw1.out.mono ?_; rintro e w1 ⟨rfl, hg1, ha1⟩
  have k1 := below_grown K0.out hg1 K0.out.size (Nat.le_refl _)
  have hw2 := write_at w.heap.size [97, 98] ⟨#[99]⟩ w1 (HK.out.below k1) ha1 (by decide)
  rw [show ([97, 98] : List UInt8) ++ (⟨#[99]⟩ : ByteArray).data.toList = [97, 98, 99] from rfl] at hw2
  have Hw2 := Lib.hid hw2; clear hw2
  have K1 := Lib.hid k1; clear k1
  clear hg1 ha1
  go_wp2_with fail
  refine Hw2.out.mono ?_; rintro e w2 ⟨rfl, hg2, ha2⟩
  have k2 := below_grown K1.out hg2 K1.out.size (Nat.le_refl _)
  have Ha2 := Lib.hid ha2; clear ha2
  have K2 := Lib.hid k2; clear k2
  clear hg2
  go_wp2_with fail
  refine (al_un _).mono ?_; rintro e w3 ⟨rfl, h3⟩
  have ha3 := Ha2.out.below h3 Ha2.out.lt
  have k3 := K2.out.trans (h3.mono K2.out.size)
  have Ha3 := Lib.hid ha3; clear ha3
  have K3 := Lib.hid k3; clear k3
  clear h3
  go_wp2_with fail
  refine (al_sum0 _ (HK.out.below K3.out)).mono ?_; rintro e w4 ⟨rfl, h4⟩
  have ha4 := Ha3.out.below h4 Ha3.out.lt
  have k4 := K3.out.trans (h4.mono K3.out.size)
  have Ha4 := Lib.hid ha4; clear ha4
  have K4 := Lib.hid k4; clear k4
  clear h4
  have ah0 := al_hex0
  have ah3 := al_hex3
  have as3 := al_sum3
  have hs5 := fun (u : World) (h1 : Kw u) (h2 : HashAt w.heap.size [97, 98, 99] u) => hsum_any w.heap.size [97, 98, 99] u h1 h2 (by decide)
  generalize (Sha.digest []).toArray = d0 at *
  generalize (Sha.digest [97, 98, 99]).toArray = d3 at *
  have Ah0 := Lib.hid ah0; clear ah0
  have Ah3 := Lib.hid ah3; clear ah3
  have As3 := Lib.hid as3; clear as3
  have Hs5 := Lib.hid hs5; clear hs5
  go_wp2_with fail
  refine (Ah0.out _).mono ?_; rintro e w5 ⟨rfl, h5⟩
  have ha5 := Ha4.out.below h5 Ha4.out.lt
  have k5 := K4.out.trans (h5.mono K4.out.size)
  have Ha5 := Lib.hid ha5; clear ha5
  have K5 := Lib.hid k5; clear k5
  clear h5
  go_wp2_with fail
  refine (Hs5.out _ (HK.out.below K5.out) Ha5.out).mono ?_; rintro e w6 ⟨rfl, h6⟩
  have ha6 := Ha5.out.below h6 Ha5.out.lt
  have k6 := K5.out.trans (h6.mono K5.out.size)
  have Ha6 := Lib.hid ha6; clear ha6
  have K6 := Lib.hid k6; clear k6
  clear h6
  go_wp2_with fail
  refine (Ah3.out _).mono ?_; rintro e w7 ⟨rfl, h7⟩
  have ha7 := Ha6.out.below h7 Ha6.out.lt
  have k7 := K6.out.trans (h7.mono K6.out.size)
  have Ha7 := Lib.hid ha7; clear ha7
  have K7 := Lib.hid k7; clear k7
  clear h7
  go_wp2_with fail
  refine (Hs5.out _ (HK.out.below K7.out) Ha7.out).mono ?_; rintro e w8 ⟨rfl, h8⟩
  have k8 := K7.out.trans (h8.mono K7.out.size)
  have K8 := Lib.hid k8; clear k8
  clear h8
  go_wp2_with fail
  refine (As3.out _ (HK.out.below K8.out)).mono ?_; rintro e w9 ⟨rfl, h9⟩
  have k9 := K8.out.trans (h9.mono K8.out.size)
  have K9 := Lib.hid k9; clear k9
  clear h9
  go_wp2_with fail
  refine (write_nil _ _).mono ?_; rintro e w10 ⟨rfl, h10⟩
  have k10 := K9.out.trans (h10.mono K9.out.size)
  have K10 := Lib.hid k10; clear k10
  clear h10
  go_wp2_with fail
  refine (hsum_nil _).mono ?_; rintro e w11 ⟨rfl, rfl⟩
  go_wp2_with fail
  go_ret
  exact ⟨rfl, K10.out⟩
end Go.Proofs.YtdlcdbpigcmnbaaDoor
