/-
  The chapter's example holds.
-/
import Derived.Test.YtjlkppdailkanaaDskNew
import Derived.Test.YtjlkppdailkanaaDskFill
import Derived.Test.YtjlkppdailkanaaDskRead
import Derived.Test.YtjlkppdailkanaaDskCrash
set_option linter.unusedVariables false
namespace Go.Proofs.Ytjlkppdailkanaa
namespace Dsk
def a1 : St := wr (round [97] 128) 0 2 0 (new 4)
def a2 : St := settle a1 [1]
def a3 : St := wr (round [98] 128) 1 2 0 a2
def a4 : St := crash a3 [48, 49]
def a5 : St := { a4 with fuse := 1 }
def a6 : St := wr (round [99] 128) 0 2 0 a5
def a7 : St := crash a6 [49]
theorem ev1 : a1.down = false ∧ a1.ops = 2 ∧ a1.n = 4 := by decide +kernel
theorem ev2 : a2.down = false ∧ a2.ops = 2 ∧ a2.n = 4 := by decide +kernel
theorem ev3 : a3.down = false ∧ a3.ops = 4 ∧ a3.n = 4 ∧ a3.L.length = 2 := by decide +kernel
theorem ev4 : a4.down = false ∧ a4.ops = 4 ∧ a4.n = 4 ∧ rd a4 0 4 = round [97] 128 ++ round [98] 64 ++ round [0] 64 := by decide +kernel
theorem ev5 : a5.down = false ∧ a5.ops = 4 ∧ a5.n = 4 := by decide +kernel
theorem ev6 : a6.down = true ∧ a6.ops = 5 ∧ a6.n = 4 := by decide +kernel
theorem ev7 : a7.down = false ∧ a7.ops = 5 ∧ a7.n = 4 ∧ rd a7 0 2 = round [99] 64 ++ round [97] 64 := by decide +kernel
end Dsk
open Go.RowKit

def fA2 : ByteArray := ⟨(Dsk.round [97] 128).toArray⟩
def fB2 : ByteArray := ⟨(Dsk.round [98] 128).toArray⟩
def fC2 : ByteArray := ⟨(Dsk.round [99] 128).toArray⟩
def fB1 : ByteArray := ⟨(Dsk.round [98] 64).toArray⟩
def fZ1 : ByteArray := ⟨(Dsk.round [0] 64).toArray⟩
def fC1 : ByteArray := ⟨(Dsk.round [99] 64).toArray⟩
def fA1 : ByteArray := ⟨(Dsk.round [97] 64).toArray⟩
/-- the disk has gone on: what it is now, where it lies -/
theorem gone_on {S S' : Nat → Prop} {B : Nat} {a w w' : World} (hb : Below B a w) (ht : Turns S w w') (hS : ∀ j, S j → B ≤ j) (hB : B ≤ w.heap.size) (hS' : ∀ j, S' j → S j ∨ w.heap.size ≤ j) : Below B a w' ∧ (∀ j, S' j → B ≤ j) ∧ B ≤ w'.heap.size := by
  refine ⟨hb.trans (ht.below hB (fun k _ h => hS k h)), fun j hj => ?_, Nat.le_trans hB ht.size⟩
  rcases hS' j hj with h | h
  · exact hS j h
  · omega

theorem fill_a2 (w : World) : Calls Try.prog 14 #[.string ⟨#[97]⟩, .int .i64 2] w fun e w' => e = .returned (.string fA2) ∧ Below w.heap.size w w' := fill_pos ⟨#[97]⟩ (by decide) 2 (by decide) w
theorem fill_b2 (w : World) : Calls Try.prog 14 #[.string ⟨#[98]⟩, .int .i64 2] w fun e w' => e = .returned (.string fB2) ∧ Below w.heap.size w w' := fill_pos ⟨#[98]⟩ (by decide) 2 (by decide) w
theorem fill_c2 (w : World) : Calls Try.prog 14 #[.string ⟨#[99]⟩, .int .i64 2] w fun e w' => e = .returned (.string fC2) ∧ Below w.heap.size w w' := fill_pos ⟨#[99]⟩ (by decide) 2 (by decide) w
theorem fill_b1 (w : World) : Calls Try.prog 14 #[.string ⟨#[98]⟩, .int .i64 1] w fun e w' => e = .returned (.string fB1) ∧ Below w.heap.size w w' := fill_pos ⟨#[98]⟩ (by decide) 1 (by decide) w
theorem fill_z1 (w : World) : Calls Try.prog 14 #[.string ⟨#[0]⟩, .int .i64 1] w fun e w' => e = .returned (.string fZ1) ∧ Below w.heap.size w w' := fill_pos ⟨#[0]⟩ (by decide) 1 (by decide) w
theorem fill_c1 (w : World) : Calls Try.prog 14 #[.string ⟨#[99]⟩, .int .i64 1] w fun e w' => e = .returned (.string fC1) ∧ Below w.heap.size w w' := fill_pos ⟨#[99]⟩ (by decide) 1 (by decide) w
theorem fill_a1 (w : World) : Calls Try.prog 14 #[.string ⟨#[97]⟩, .int .i64 1] w fun e w' => e = .returned (.string fA1) ∧ Below w.heap.size w w' := fill_pos ⟨#[97]⟩ (by decide) 1 (by decide) w

def al_s (c : UInt8) : ByteArray := ⟨(Dsk.round [c] 128).toArray⟩
theorem al_size (l : List UInt8) (n : Nat) : (⟨(Dsk.round l n).toArray⟩ : ByteArray).size = n := by show (Dsk.round l n).toArray.size = n; rw [List.size_toArray, Dsk.round_length]
theorem al_new (w : World) : Calls Try.prog 9 #[.int .i64 4] w fun e w' => e = .returned (.tuple #[.pointer (some ⟨w.heap.size + 2, 0, none⟩), .int .i64 0]) ∧ Below w.heap.size w w' ∧ DiskAt (NewS w) (w.heap.size + 2) (Dsk.new 4) w' := new_any 4 (by decide) (by decide) w
section
variable {S : Nat → Prop} {p : Nat} {w : World}
theorem al_w1 (h : DiskAt S p (Dsk.new 4) w) : Calls Try.prog 13 #[.pointer (some ⟨p, 0, none⟩), .int .i64 0, .string fA2] w fun e w' => e = .returned (.int .i64 0) ∧ Turns S w w' ∧ ∃ S', (∀ j, S' j → S j ∨ w.heap.size ≤ j) ∧ DiskAt S' p Dsk.a1 w' := by
  have h1 := write_good h (by rfl) 0 ⟨(Dsk.round [97] 128).toArray⟩ 2 (al_size _ _) (by decide) (by decide)
  rw [show (⟨(Dsk.round [97] 128).toArray⟩ : ByteArray).data.toList = Dsk.round [97] 128 from rfl, show Dsk.wr (Dsk.round [97] 128) 0 2 0 (Dsk.new 4) = Dsk.a1 from rfl, Dsk.ev1.1] at h1
  exact h1
theorem al_f2 (h : DiskAt S p Dsk.a1 w) : Calls Try.prog 15 #[.pointer (some ⟨p, 0, none⟩)] w fun e w' => e = .returned (.int .i64 0) ∧ Turns S w w' ∧ ∃ S', (∀ j, S' j → S j ∨ w.heap.size ≤ j) ∧ DiskAt S' p Dsk.a2 w' :=
  flush_any h Dsk.ev1.1 (by rw [Dsk.ev1.2.1]; decide)
theorem al_w3 (h : DiskAt S p Dsk.a2 w) : Calls Try.prog 13 #[.pointer (some ⟨p, 0, none⟩), .int .i64 1, .string fB2] w fun e w' => e = .returned (.int .i64 0) ∧ Turns S w w' ∧ ∃ S', (∀ j, S' j → S j ∨ w.heap.size ≤ j) ∧ DiskAt S' p Dsk.a3 w' := by
  have h1 := write_good h Dsk.ev2.1 1 ⟨(Dsk.round [98] 128).toArray⟩ 2 (al_size _ _) (by rw [Dsk.ev2.2.2]; decide) (by rw [Dsk.ev2.2.1]; decide)
  rw [show (⟨(Dsk.round [98] 128).toArray⟩ : ByteArray).data.toList = Dsk.round [98] 128 from rfl, show Dsk.wr (Dsk.round [98] 128) 1 2 0 Dsk.a2 = Dsk.a3 from rfl, Dsk.ev3.1] at h1
  exact h1
theorem al_l3 (h : DiskAt S p Dsk.a3 w) : Calls Try.prog 22 #[.pointer (some ⟨p, 0, none⟩)] w fun e w' => e = .returned (.int .i64 2) ∧ w = w' := by
  have h1 := loose_any h
  rw [Dsk.ev3.2.2.2] at h1
  exact h1
theorem al_c4 (h : DiskAt S p Dsk.a3 w) : Calls Try.prog 17 #[.pointer (some ⟨p, 0, none⟩), .string ⟨#[48, 49]⟩] w fun e w' => e = .returned (.int .i64 0) ∧ Turns S w w' ∧ ∃ S', (∀ j, S' j → S j ∨ w.heap.size ≤ j) ∧ DiskAt S' p Dsk.a4 w' :=
  crash_any h ⟨#[48, 49]⟩ (by decide) (by rw [Dsk.ev3.2.1]; decide)
theorem al_r4 (h : DiskAt S p Dsk.a4 w) : Calls Try.prog 25 #[.pointer (some ⟨p, 0, none⟩), .int .i64 0, .int .i64 4] w fun e w' => e = .returned (.tuple #[.string (fA2 ++ fB1 ++ fZ1), .int .i64 0]) ∧ Below w.heap.size w w' := by
  have h1 := read_good h Dsk.ev4.1 0 4 (by rw [Dsk.ev4.2.2.1]; decide)
  rw [Dsk.ev4.2.2.2, ← cat_list, ← cat_list] at h1
  exact h1
theorem al_f5 (h : DiskAt S p Dsk.a4 w) : Calls Try.prog 16 #[.pointer (some ⟨p, 0, none⟩), .int .i64 1] w fun e w' => e = .returned (.int .i64 0) ∧ Turns (fun k => k = p) w w' ∧ DiskAt S p Dsk.a5 w' := fuse_any h 1 ⟨by decide, by decide⟩
theorem al_w6 (h : DiskAt S p Dsk.a5 w) : Calls Try.prog 13 #[.pointer (some ⟨p, 0, none⟩), .int .i64 0, .string fC2] w fun e w' => e = .returned (.int .i64 40) ∧ Turns S w w' ∧ ∃ S', (∀ j, S' j → S j ∨ w.heap.size ≤ j) ∧ DiskAt S' p Dsk.a6 w' := by
  have h1 := write_good h Dsk.ev5.1 0 ⟨(Dsk.round [99] 128).toArray⟩ 2 (al_size _ _) (by rw [Dsk.ev5.2.2]; decide) (by rw [Dsk.ev5.2.1]; decide)
  rw [show (⟨(Dsk.round [99] 128).toArray⟩ : ByteArray).data.toList = Dsk.round [99] 128 from rfl, show Dsk.wr (Dsk.round [99] 128) 0 2 0 Dsk.a5 = Dsk.a6 from rfl, Dsk.ev6.1] at h1
  exact h1
theorem al_r6 (h : DiskAt S p Dsk.a6 w) : Calls Try.prog 25 #[.pointer (some ⟨p, 0, none⟩), .int .i64 0, .int .i64 1] w fun e w' => e = .returned (.tuple #[.string ⟨#[]⟩, .int .i64 40]) ∧ w = w' := read_down h Dsk.ev6.1 0 1
theorem al_d6 (h : DiskAt S p Dsk.a6 w) : Calls Try.prog 24 #[.pointer (some ⟨p, 0, none⟩)] w fun e w' => e = .returned (.bool true) ∧ w = w' := by
  have h1 := down_any h
  rw [Dsk.ev6.1] at h1
  exact h1
theorem al_c7 (h : DiskAt S p Dsk.a6 w) : Calls Try.prog 17 #[.pointer (some ⟨p, 0, none⟩), .string ⟨#[49]⟩] w fun e w' => e = .returned (.int .i64 0) ∧ Turns S w w' ∧ ∃ S', (∀ j, S' j → S j ∨ w.heap.size ≤ j) ∧ DiskAt S' p Dsk.a7 w' :=
  crash_any h ⟨#[49]⟩ (by decide) (by rw [Dsk.ev6.2.1]; decide)
theorem al_r7 (h : DiskAt S p Dsk.a7 w) : Calls Try.prog 25 #[.pointer (some ⟨p, 0, none⟩), .int .i64 0, .int .i64 2] w fun e w' => e = .returned (.tuple #[.string (fC1 ++ fA1), .int .i64 0]) ∧ Below w.heap.size w w' := by
  have h1 := read_good h Dsk.ev7.1 0 2 (by rw [Dsk.ev7.2.2.1]; decide)
  rw [Dsk.ev7.2.2.2, ← cat_list] at h1
  exact h1
theorem al_w8 (h : DiskAt S p Dsk.a7 w) : Calls Try.prog 13 #[.pointer (some ⟨p, 0, none⟩), .int .i64 0, .string ⟨#[97]⟩] w fun e w' => e = .returned (.int .i64 2) ∧ w = w' := write_bad h Dsk.ev7.1 0 ⟨by decide, by decide⟩ ⟨#[97]⟩ (by decide) (.inl (by decide))
end

set_option maxRecDepth 100000 in
set_option maxHeartbeats 2000000 in
theorem alive_any (w : World) : Calls Try.prog 8 #[] w fun e w' => e = .returned (.bool true) ∧ Below w.heap.size w w' := by
  go_enter Try.func8, Try.ntmps8
  go_wp2_with fail
  refine (al_new _).mono ?_; rintro e w1 ⟨rfl, b1, d1⟩
  have s1 : ∀ j, NewS w j → w.heap.size ≤ j := fun j h => h.1
  have z1 := b1.size
  have B1 := Lib.hid b1; clear b1
  have D1 := Lib.hid d1; clear d1
  have S1 := Lib.hid s1; clear s1
  have Z1 := Lib.hid z1; clear z1
  go_wp2_with fail
  refine (fill_a2 _).mono ?_; rintro e w2 ⟨rfl, b2⟩
  have D2 := Lib.hid (D1.out.new b2)
  have B2 := Lib.hid (B1.out.trans (b2.mono Z1.out)); clear b2
  have Z2 := Lib.hid B2.out.size
  go_wp2_with fail
  refine (al_w1 D2.out).mono ?_; rintro e w3 ⟨rfl, t3, T3, hT3, d3⟩
  obtain ⟨b3, s3, z3⟩ := gone_on B2.out t3 S1.out Z2.out hT3
  have D3 := Lib.hid d3; clear d3
  have B3 := Lib.hid b3; clear b3
  have S3 := Lib.hid s3; clear s3
  have Z3 := Lib.hid z3; clear z3
  clear t3 hT3
  go_wp2_with fail
  refine (al_f2 D3.out).mono ?_; rintro e w4 ⟨rfl, t4, T4, hT4, d4⟩
  obtain ⟨b4, s4, z4⟩ := gone_on B3.out t4 S3.out Z3.out hT4
  have D4 := Lib.hid d4; clear d4
  have B4 := Lib.hid b4; clear b4
  have S4 := Lib.hid s4; clear s4
  have Z4 := Lib.hid z4; clear z4
  clear t4 hT4
  go_wp2_with fail
  refine (fill_b2 _).mono ?_; rintro e w5 ⟨rfl, b5⟩
  have D5 := Lib.hid (D4.out.new b5)
  have B5 := Lib.hid (B4.out.trans (b5.mono Z4.out)); clear b5
  have Z5 := Lib.hid B5.out.size
  go_wp2_with fail
  refine (al_w3 D5.out).mono ?_; rintro e w6 ⟨rfl, t6, T6, hT6, d6⟩
  obtain ⟨b6, s6, z6⟩ := gone_on B5.out t6 S4.out Z5.out hT6
  have D6 := Lib.hid d6; clear d6
  have B6 := Lib.hid b6; clear b6
  have S6 := Lib.hid s6; clear s6
  have Z6 := Lib.hid z6; clear z6
  clear t6 hT6
  go_wp2_with fail
  refine (al_l3 D6.out).mono ?_; rintro e w' ⟨rfl, rfl⟩
  go_wp2_with fail
  refine (al_c4 D6.out).mono ?_; rintro e w7 ⟨rfl, t7, T7, hT7, d7⟩
  obtain ⟨b7, s7, z7⟩ := gone_on B6.out t7 S6.out Z6.out hT7
  have D7 := Lib.hid d7; clear d7
  have B7 := Lib.hid b7; clear b7
  have S7 := Lib.hid s7; clear s7
  have Z7 := Lib.hid z7; clear z7
  clear t7 hT7
  go_wp2_with fail
  refine (al_r4 D7.out).mono ?_; rintro e w8 ⟨rfl, b8⟩
  have D8 := Lib.hid (D7.out.new b8)
  have B8 := Lib.hid (B7.out.trans (b8.mono Z7.out)); clear b8
  have Z8 := Lib.hid B8.out.size
  go_wp2_with fail
  refine (al_f5 D8.out).mono ?_; rintro e w9 ⟨rfl, t9, d9⟩
  obtain ⟨b9, s9, z9⟩ := gone_on B8.out (t9.mono (fun j _ (e : j = _) => by rw [e]; exact D8.out.hp)) S7.out Z8.out (S' := T7) (fun j h => .inl h)
  have D9 := Lib.hid d9; clear d9
  have B9 := Lib.hid b9; clear b9
  have S9 := Lib.hid s9; clear s9
  have Z9 := Lib.hid z9; clear z9
  clear t9
  go_wp2_with fail
  refine (fill_c2 _).mono ?_; rintro e wa ⟨rfl, ba⟩
  have Da := Lib.hid (D9.out.new ba)
  have Ba := Lib.hid (B9.out.trans (ba.mono Z9.out)); clear ba
  have Za := Lib.hid Ba.out.size
  go_wp2_with fail
  refine (al_w6 Da.out).mono ?_; rintro e wb ⟨rfl, tb, Tb, hTb, db⟩
  obtain ⟨bb, sb, zb⟩ := gone_on Ba.out tb S9.out Za.out hTb
  have Db := Lib.hid db; clear db
  have Bb := Lib.hid bb; clear bb
  have Sb := Lib.hid sb; clear sb
  have Zb := Lib.hid zb; clear zb
  clear tb hTb
  go_wp2_with fail
  refine (al_r6 Db.out).mono ?_; rintro e w' ⟨rfl, rfl⟩
  go_wp2_with fail
  refine (al_d6 Db.out).mono ?_; rintro e w' ⟨rfl, rfl⟩
  go_wp2_with fail
  refine (al_c7 Db.out).mono ?_; rintro e wc ⟨rfl, tc, Tc, hTc, dc⟩
  obtain ⟨bc, sc, zc⟩ := gone_on Bb.out tc Sb.out Zb.out hTc
  have Dc := Lib.hid dc; clear dc
  have Bc := Lib.hid bc; clear bc
  have Sc := Lib.hid sc; clear sc
  have Zc := Lib.hid zc; clear zc
  clear tc hTc
  go_wp2_with fail
  refine (al_r7 Dc.out).mono ?_; rintro e wd ⟨rfl, bd⟩
  have Dd := Lib.hid (Dc.out.new bd)
  have Bd := Lib.hid (Bc.out.trans (bd.mono Zc.out)); clear bd
  have Zd := Lib.hid Bd.out.size
  go_wp2_with fail
  refine (fill_a2 _).mono ?_; rintro e we ⟨rfl, be⟩
  have De := Lib.hid (Dd.out.new be)
  have Be := Lib.hid (Bd.out.trans (be.mono Zd.out)); clear be
  have Ze := Lib.hid Be.out.size
  go_wp2_with fail
  refine (fill_b1 _).mono ?_; rintro e wf ⟨rfl, bf⟩
  have Df := Lib.hid (De.out.new bf)
  have Bf := Lib.hid (Be.out.trans (bf.mono Ze.out)); clear bf
  have Zf := Lib.hid Bf.out.size
  go_wp2_with fail
  refine (fill_z1 _).mono ?_; rintro e wg ⟨rfl, bg⟩
  have Dg := Lib.hid (Df.out.new bg)
  have Bg := Lib.hid (Bf.out.trans (bg.mono Zf.out)); clear bg
  have Zg := Lib.hid Bg.out.size
  go_wp2_with fail
  refine (fill_c1 _).mono ?_; rintro e wh ⟨rfl, bh⟩
  have Dh := Lib.hid (Dg.out.new bh)
  have Bh := Lib.hid (Bg.out.trans (bh.mono Zg.out)); clear bh
  have Zh := Lib.hid Bh.out.size
  go_wp2_with fail
  refine (fill_a1 _).mono ?_; rintro e wi ⟨rfl, bi⟩
  have Di := Lib.hid (Dh.out.new bi)
  have Bi := Lib.hid (Bh.out.trans (bi.mono Zh.out)); clear bi
  go_wp2_with fail
  refine (al_w8 Di.out).mono ?_; rintro e w' ⟨rfl, rfl⟩
  go_wp2_with fail
  go_ret
  exact ⟨rfl, Bi.out⟩
end Go.Proofs.Ytjlkppdailkanaa
