/-
  What chunk.Marks returns.
-/
import Derived.Test.YtofiimkpbbiegaaChuColl
set_option linter.unusedVariables false
set_option maxRecDepth 100000
namespace Go.Proofs.Ytofiimkpbbiegaa
open Go.RowKit

/-- is a place of the text a mark of c's -/
def Ctr.isMk (c : Ctr) (l : List UInt8) : Nat → Bool := Chu.mark c.p c.n.toNat c.b.toNat l
/-- all marks -/
def Ctr.marks (c : Ctr) (l : List UInt8) : List Nat := Chu.mks (c.isMk l) 1 (l.length + 1)
theorem mkAny_start {b p n k B : Nat} {s : ByteArray} {f t : Int} {G : List UInt8} {w : World} (h1 : RolG b p n G w) (h2 : MkBox b k s f t B w) : MkAny b p n k s f t B w := ⟨⟨G, h1⟩, h2⟩

set_option maxHeartbeats 1000000 in
theorem chMarks_any (c : Ctr) (hp : c.p < 18446744073709551616) (s : ByteArray) (hsz : s.size ≤ 8796093022208) (w : World) :
    Calls Try.prog 9 #[c.v, .string s] w fun e w' => Below w.heap.size w w' ∧ if c.May then ∃ v, e = .returned (.tuple #[v, .int .i64 0]) ∧ IOwn w.heap.size v (c.marks s.data.toList) w' else e = .returned (.tuple #[.slice none 0 0, .int .i64 2]) := by
  have cf := fun u => finder_any c hp u
  by_cases hm : c.May
  · simp only [if_pos hm] at cf ⊢
    have hb0 := hm.2.2.2.1
    have hb1 := hm.2.2.2.2
    obtain ⟨k, hk⟩ : ∃ k : Nat, c.b = (k : Int) := ⟨c.b.toNat, by omega⟩
    have hk16 : k ≤ 16 := by omega
    have hkb : c.b.toNat = k := by omega
    have hfine := hm.1.1
    obtain ⟨L, hL⟩ : ∃ L, L = c.marks s.data.toList := ⟨_, rfl⟩
    have hL2 := hL
    unfold Ctr.marks Ctr.isMk at hL2
    rw [hkb, ba_len] at hL2
    rw [hkb] at cf
    rw [← hL]
    have HL := Lib.hid hL2; clear hL hL2
    obtain ⟨n, hn⟩ : ∃ n, n = c.n.toNat := ⟨_, rfl⟩
    rw [← hn] at cf
    rw [← hn] at HL
    obtain ⟨p, n0, mn, mx, b0⟩ := c
    unfold Ctr.v finV at *
    simp only at *
    have Cf := Lib.hid cf; clear cf
    have hbw := box_below w (.cells #[.int .u64 p, .int .i64 n0, .int .i64 mn, .int .i64 mx, .int .i64 b0] 24)
    have Hbw := Lib.hid hbw; clear hbw
    clear hm hb0 hb1 hk hkb hn
    go_enter Try.func9, Try.ntmps9
    go_wp2_with fail
    refine (Cf.out _).mono ?_; rintro e w1 ⟨h1, b, hb, rfl, hg⟩
    have hbB : Below w1.heap.size w1 (w1.alloc (.cells #[.pointer (some ⟨b, 0, none⟩), .int .u64 ((2 ^ k - 1 : Nat) : Int)] 54)) := box_below w1 _
    have hgl := hg.lt
    have hg2 := hg.new hbB
    have hbe := Hbw.out.trans ((h1.mono Hbw.out.size).trans (hbB.mono (by have := Hbw.out.size; have := h1.size; omega)))
    have hbw0 : w.heap.size ≤ b := Nat.le_trans Hbw.out.size hb
    have cm := cmarks_any b k s 1 s.size (w1.alloc (.cells #[.pointer (some ⟨b, 0, none⟩), .int .u64 ((2 ^ k - 1 : Nat) : Int)] 54))
    unfold finV mkF at cm
    have hs2 : (w1.alloc (.cells #[.pointer (some ⟨b, 0, none⟩), .int .u64 ((2 ^ k - 1 : Nat) : Int)] 54)).heap.size = w1.heap.size + 1 := by simp
    have Cm := Lib.hid cm; clear cm
    have Hg2 := Lib.hid hg2; clear hg2 hg
    have Hbe := Lib.hid hbe; clear hbe hbB h1 hb
    have Hs2 := Lib.hid hs2; clear hs2
    go_wp2_with fail
    refine Cm.out.mono ?_; rintro e w3 ⟨rfl, hbx, hb3⟩
    rw [Hs2.out] at hbx
    have cc := collect_any (b := b) (p := p) (n := n) (k := k) (B := w1.heap.size + 1) (f := 1) (t := s.size) (s := s) (w := w3) (Nat.le_refl _) (Nat.le_refl _) hk16 hfine hsz (by omega) (mkAny_start (Hg2.out.new hb3) hbx)
    rw [← HL.out] at cc
    unfold mkF at cc
    have hbe3 := Hbe.out.trans (hb3.mono Hbe.out.size)
    have Cc := Lib.hid cc; clear cc
    have Hbe3 := Lib.hid hbe3; clear hbe3
    clear hbx hb3
    rw [Hs2.out]
    go_wp2_with fail
    refine Cc.out.mono ?_; rintro e w4 ⟨v, rfl, hv, ht⟩
    have Hv := Lib.hid hv; clear hv
    have Ht := Lib.hid ht; clear ht
    go_wp2_with fail
    go_ret2
    have h3 := Hbe3.out
    have hfin : Below w.heap.size w w4 := h3.trans (Ht.out.below (by have := h3.size; omega) (fun j _ e => by omega))
    refine ⟨hfin, v, rfl, ?_⟩
    refine ⟨Hv.out.1, ?_⟩
    rcases Hv.out.2 with hh | ⟨g, cap, cur, e1, e2, e3⟩
    · exact .inl hh
    · exact .inr ⟨g, cap, cur, e1, Nat.le_trans h3.size e2, e3⟩
  · simp only [if_neg hm] at cf ⊢
    unfold Ctr.v noFin at *
    have Cf := Lib.hid cf; clear cf
    have hbw := box_below w (.cells #[.int .u64 c.p, .int .i64 c.n, .int .i64 c.mn, .int .i64 c.mx, .int .i64 c.b] 24)
    have Hbw := Lib.hid hbw; clear hbw
    clear hm
    go_enter Try.func9, Try.ntmps9
    go_wp2_with fail
    refine (Cf.out _).mono ?_; rintro e w1 ⟨h1, rfl⟩
    have hbe := (Hbw.out.trans (h1.mono Hbw.out.size)).alloc (Nat.le_trans Hbw.out.size h1.size) (.cells #[.pointer none, .int .u64 0] 54)
    have Hbe := Lib.hid hbe; clear hbe h1
    go_wp2_with fail
    go_ret2
    exact ⟨Hbe.out, rfl⟩
end Go.Proofs.Ytofiimkpbbiegaa
