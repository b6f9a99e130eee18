/-
  The chapter's example.
-/
import Derived.Test.YticcipgdjpoimaaGreatFilAlive0
set_option linter.unusedVariables false
set_option maxRecDepth 100000
namespace Go.Proofs.YticcipgdjpoimaaGreat
open Go.RowKit
set_option maxHeartbeats 2000000 in
theorem filAlive_any (w : World) : Calls Tryz.prog 9 #[] w fun e w' => e = .returned (.bool true) ∧ Below w.heap.size w w' := by
  have hb1 := build_chg ⟨#[97]⟩ ⟨#[120, 121, 122]⟩
  have hb2 := build_gone ⟨#[97]⟩
  have hb3 := build_none
  go_enter Tryz.func9, Tryz.ntmps9
  go_wp2_with fail
  refine (new_any 40 (by decide) (by decide) _).mono ?_; rintro e w1 ⟨rfl, b1, d1⟩
  generalize w.heap.size + 2 = q at d1 ⊢
  have s1 : ∀ j, NewS w j → w.heap.size ≤ j := fun j h => h.1
  have B1 := Lib.hid b1; clear b1
  have D1 := Lib.hid d1; clear d1
  go_wp2_with fail
  refine (fopen_live D1.out Fil.alLive0 (by decide)).mono ?_; rintro e w2 ⟨p, S2, R2, pw, bm, rfl, hp, hA, ⟨nn, hn1, hn2⟩, x1, x2, x3⟩
  have h2 : Sys w (fun _ => False) 21000000000 S2 R2 p q pw bm (Dsk.new 40) Fil.alS0 Fil.alT0 w2 := Sys.opened hA B1.out s1 hp hn1 hn2 x1 x2 x3 (by simp [Fil.Sorted, Fil.alT0]) (by intro x hx; simp [Fil.alT0] at hx) (by decide)
  have H2 := Lib.hid h2; clear h2 hA hn2 x1 x2 x3 hp hn1
  go_wp2_with fail
  have a3 := froom_any H2.out.row (by decide)
  rw [show ((Fil.arN Fil.alT0.n : Int) * 64 - 4) = 1084 from by decide] at a3
  refine a3.mono ?_; rintro e w3 ⟨rfl, b3⟩
  have H3 := Lib.hid (H2.out.new b3); clear b3 a3
  go_wp2_with fail
  refine (commit_one H3.out Fil.alLive0 (by decide) (by decide) ⟨⟨#[97]⟩, ⟨#[120, 121, 122]⟩, false⟩ ⟨by decide, by decide⟩).mono ?_; rintro e w4 ⟨rfl, S4, R4, bm4, h4⟩
  have e4 : (Fil.commit (Dsk.new 40) Fil.alS0 Fil.alT0 [⟨⟨#[97]⟩, ⟨#[120, 121, 122]⟩, false⟩]).2.2.2 = 0 := Fil.alE1
  rw [e4]
  have H4 : Hid (Sys w (fun _ => False) 21000000001 S4 R4 p q pw bm4 Fil.alC1.1 Fil.alC1.2.1 Fil.alC1.2.2.1 w4) := Lib.hid h4
  clear h4 e4
  obtain ⟨o1, rb1, xs1, l1, l2, l3, l4⟩ := Fil.alLive1
  have L1 := Lib.hid l1; clear l1
  have L2 := Lib.hid l2; clear l2
  have L3 := Lib.hid l3; clear l3
  clear l4
  go_wp2_with fail
  have a5 := fused_any H4.out.row
  rw [L2.out, show ((Fil.used [([97], [120, 121, 122])] : Nat) : Int) = 16 from by decide] at a5
  refine a5.mono ?_; rintro e w5 ⟨rfl, b5⟩
  have H5 := Lib.hid (H4.out.new b5); clear b5 a5
  go_wp2_with fail
  refine (fopen_live H5.out.a.disk L1.out (by have := Fil.alO1; omega)).mono ?_; rintro e w6 ⟨p6, S6, R6, pw6, bm6, rfl, hp6, hA6, ⟨n6, hn1, hn2⟩, x1, x2, x3⟩
  have H6 := Lib.hid (H5.out.reopen (hA6.turns.mono (fun _ _ e => e.elim id id)) hA6.loS hA6.disk)
  have HX : Hid (FilRow p6 q pw6 bm6 Fil.alC1.2.2.1 w6) := Lib.hid ⟨hA6.row (o := objF (fcells Fil.alC1.2.2.1 q pw6 bm6)) (by simp), ⟨n6, hn2⟩, L1.out.g.rows.1, L1.out.g.rows.2, by rw [L2.out]; decide⟩
  clear hA6 hn2 x1 x2 x3 hn1 hp6
  go_wp2_with fail
  have a7 := fget_any HX.out ⟨#[97]⟩ (by decide)
  rw [L2.out, show Fil.get [([97], [120, 121, 122])] (⟨#[97]⟩ : ByteArray).data.toList = some [120, 121, 122] from by decide, show ba ((some [120, 121, 122] : Option (List UInt8)).getD []) = (⟨#[120, 121, 122]⟩ : ByteArray) from rfl] at a7
  refine a7.mono ?_; rintro e w7 ⟨rfl, b7⟩
  have H7 := Lib.hid (H6.out.new b7); clear b7 a7
  go_wp2_with fail
  refine (commit_one H7.out L1.out (by decide) (by have := Fil.alO1; omega) ⟨⟨#[97]⟩, ⟨#[]⟩, true⟩ ⟨by decide, by decide⟩).mono ?_; rintro e w8 ⟨rfl, S8, R8, bm8, h8⟩
  have e8 : (Fil.commit Fil.alC1.1 Fil.alC1.2.1 Fil.alC1.2.2.1 [⟨⟨#[97]⟩, ⟨#[]⟩, true⟩]).2.2.2 = 0 := Fil.alE2
  rw [e8]
  have H8 : Hid (Sys w (fun _ => False) 21000000002 S8 R8 p q pw bm8 Fil.alC2.1 Fil.alC2.2.1 Fil.alC2.2.2.1 w8) := Lib.hid h8
  clear h8 e8
  obtain ⟨o2, rb2, xs2, m1, m2, m3⟩ := Fil.alLive2
  have M1 := Lib.hid m1; clear m1
  have M2 := Lib.hid m2; clear m2
  have M3 := Lib.hid m3; clear m3
  go_wp2_with fail
  have a9 := fget_any H8.out.row ⟨#[97]⟩ (by decide)
  rw [M2.out, show Fil.get [] (⟨#[97]⟩ : ByteArray).data.toList = none from by decide] at a9
  refine a9.mono ?_; rintro e w9 ⟨rfl, b9⟩
  have H9 := Lib.hid (H8.out.new b9); clear b9 a9
  go_wp2_with fail
  refine (fopen_nil _).mono ?_; rintro e w10 ⟨rfl, b10⟩
  have H10 := Lib.hid (H9.out.new b10); clear b10
  go_wp2_with fail
  have a11 := fused_any H10.out.row
  rw [M2.out, show ((Fil.used [] : Nat) : Int) = 4 from by decide] at a11
  refine a11.mono ?_; rintro e w11 ⟨rfl, b11⟩
  have H11 := Lib.hid (H10.out.new b11); clear b11 a11
  go_wp2_with fail
  have a12 := commit_one H11.out M1.out (by decide) (by have := Fil.alO2; omega) ⟨⟨#[]⟩, ⟨#[]⟩, false⟩ ⟨by decide, by decide⟩
  have e12 : Fil.commit Fil.alC2.1 Fil.alC2.2.1 Fil.alC2.2.2.1 [⟨⟨#[]⟩, ⟨#[]⟩, false⟩] = (Fil.alC2.1, Fil.alC2.2.1, Fil.alC2.2.2.1, 2) := by
    unfold Fil.commit
    rw [if_neg (fun e => e M1.out.err), if_pos (by decide +kernel)]
  rw [e12] at a12
  refine a12.mono ?_; rintro e w12 ⟨rfl, S12, R12, bm12, h12⟩
  have H12 := Lib.hid h12; clear h12 e12 a12
  go_wp2_with fail
  go_ret
  exact ⟨rfl, H12.out.a.below⟩
end Go.Proofs.YticcipgdjpoimaaGreat
