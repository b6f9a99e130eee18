/-
  What edit.Margin returns.
-/
import Derived.Test.YtcmlcpejlmlcfaaEdtApply
import Derived.Test.YtcmlcpejlmlcfaaEdtDifS
import Derived.Test.YtcmlcpejlmlcfaaLinB
set_option linter.unusedVariables false
set_option maxRecDepth 100000
namespace Go.Proofs.Ytcmlcpejlmlcfaa
open Go.RowKit

/-- the first piece of the margin, and the first one behind it -/
def mg1 (c : Ctr) (s t : ByteArray) : Nat := Edt.pre .empty (c.atexts s) (c.atexts t)
def mg2 (c : Ctr) (s t : ByteArray) : Nat := (c.atexts t).length - Edt.suf .empty (c.atexts s) (c.atexts t) (mg1 c s t)
theorem atexts_length (c : Ctr) (s : ByteArray) : (c.atexts s).length = (c.acut s.data.toList).length := pcTexts_length _ _
theorem atexts_le {c : Ctr} (h : c.May) (s : ByteArray) : (c.atexts s).length ≤ s.size := by
  rw [atexts_length, ← ba_len]
  exact Ctr.acut_len h _

def MgR (c : Ctr) (s : ByteArray) (e : Ed) : Value := if e.May s.size ∧ c.May then .tuple #[.int .i64 (mg1 c s (e.on s) : Nat), .int .i64 (mg2 c s (e.on s) : Nat), .int .i64 0] else .tuple #[.int .i64 0, .int .i64 0, .int .i64 2]

set_option maxHeartbeats 2000000 in
theorem margin_any (c : Ctr) (hcp : c.p < 18446744073709551616) (s : ByteArray) (e : Ed) (hw : e.Wf) (hon : s.size ≤ 1099511627776 ∧ e.p.size ≤ 1099511627776) (hsum : s.size + e.p.size ≤ 1099511627776) (w : World) :
    Calls Try.prog 15 #[c.v, .string s, e.v] w fun x w' => x = .returned (MgR c s e) ∧ Below w.heap.size w w' := by
  have ca := fun u => apply_any s hon.1 e hw hon.2 u
  have ct1 := fun u => ltexts_any c hcp s hon.1 u
  obtain ⟨u2, hu2⟩ : ∃ u2, (w.alloc (.cells #[.int .u64 c.p, .int .i64 c.n, .int .i64 c.mn, .int .i64 c.mx, .int .i64 c.b] 38)).alloc (.cells #[.int .i64 e.a, .int .i64 e.c, .string e.p] 23) = u2 := ⟨_, rfl⟩
  have hb0 : Below w.heap.size w u2 := by rw [← hu2]; exact (box_below w _).alloc (by simp) _
  have hcx : CtrAt c w.heap.size u2 := by rw [← hu2]; exact row_alloc (CtrAt.box c w) _
  have hex : EdAt (w.heap.size + 1) e u2 := by
    rw [← hu2]
    have := EdAt.box e (w.alloc (.cells #[.int .u64 c.p, .int .i64 c.n, .int .i64 c.mn, .int .i64 c.mx, .int .i64 c.b] 38))
    rw [World.size_alloc] at this; exact this
  have d0 := hcx.c0
  have d1 := hcx.c1
  have d2 := hcx.c2
  have d3 := hcx.c3
  have d4 := hcx.c4
  have e0 := hex.c0
  have e1 := hex.c1
  have e2 := hex.c2
  have Hu2 := Lib.hid hu2; clear hu2
  have Hb0 := Lib.hid hb0; clear hb0
  have Hcx := Lib.hid hcx; clear hcx
  have Hex := Lib.hid hex; clear hex
  by_cases hm : e.May s.size
  · simp only [if_pos hm] at ca
    have hos := Ed.on_size hm
    by_cases hc : c.May
    · simp only [if_pos hc] at ct1
      have hR : MgR c s e = .tuple #[.int .i64 (mg1 c s (e.on s) : Nat), .int .i64 (mg2 c s (e.on s) : Nat), .int .i64 0] := if_pos ⟨hm, hc⟩
      rw [hR]
      clear hR
      have hl1 := atexts_le hc s
      have hl2 := atexts_le hc (e.on s)
      obtain ⟨T, hT⟩ : ∃ T, e.on s = T := ⟨_, rfl⟩
      rw [hT] at ca hos hl2 ⊢
      have ct2 := fun u => ltexts_any c hcp T (by omega) u
      simp only [if_pos hc] at ct2
      obtain ⟨A, hA⟩ : ∃ A, c.atexts s = A := ⟨_, rfl⟩
      obtain ⟨B, hB⟩ : ∃ B, c.atexts T = B := ⟨_, rfl⟩
      have hm1 : mg1 c s T = Edt.pre .empty A B := by unfold mg1; rw [hA, hB]
      have hm2 : mg2 c s T = B.length - Edt.suf .empty A B (Edt.pre .empty A B) := by unfold mg2; rw [hm1, hA, hB]
      rw [hA] at ct1 hl1
      rw [hB] at ct2 hl2
      rw [hm1, hm2]
      have cd := fun va vb u (h1 : SRd va A u) (h2 : SRd vb B u) => differS_any h1 h2 (by omega) (by omega)
      clear hm1 hm2 hA hB hT hm hc hw hos hsum
      generalize Edt.suf .empty A B (Edt.pre .empty A B) = Q at *
      generalize Edt.pre .empty A B = P at *
      obtain ⟨n1, hn1⟩ : ∃ n1, n1 = A.length := ⟨_, rfl⟩
      obtain ⟨n2, hn2⟩ : ∃ n2, n2 = B.length := ⟨_, rfl⟩
      unfold TxR at ct1 ct2
      simp only [← hn1] at ct1 cd
      simp only [← hn2] at ct2 cd ⊢
      unfold Ctr.v Ed.v at *
      have Ca := Lib.hid ca; clear ca
      have Ct1 := Lib.hid ct1; clear ct1
      have Ct2 := Lib.hid ct2; clear ct2
      have Cd := Lib.hid cd; clear cd
      have Hn1 := Lib.hid hn1; clear hn1
      have Hn2 := Lib.hid hn2; clear hn2
      clear hl1 hl2 hon
      go_enter Try.func15, Try.ntmps15
      go_wp2_with fail
      rw [Hu2.out]
      go_wp2_with fail
      refine (Ca.out _).mono ?_; rintro x w1 ⟨rfl, h1⟩
      have hc1 := Hcx.out.new h1
      have hb1 := Hb0.out.trans (h1.mono Hb0.out.size)
      clear d0 d1 d2 d3 d4 e0 e1 e2 h1
      have d0 := hc1.c0
      have d1 := hc1.c1
      have d2 := hc1.c2
      have d3 := hc1.c3
      have d4 := hc1.c4
      have Hc1 := Lib.hid hc1; clear hc1
      have Hb1 := Lib.hid hb1; clear hb1
      go_wp2_with fail
      refine (Ct1.out _).mono ?_; rintro x w2 ⟨h2, g1, hg1, rfl, hr1⟩
      have hc2 := Hc1.out.new h2
      have hb2 := Hb1.out.trans (h2.mono Hb1.out.size)
      clear d0 d1 d2 d3 d4 h2 hg1
      have d0 := hc2.c0
      have d1 := hc2.c1
      have d2 := hc2.c2
      have d3 := hc2.c3
      have d4 := hc2.c4
      have Hc2 := Lib.hid hc2; clear hc2
      have Hb2 := Lib.hid hb2; clear hb2
      have Hr1 := Lib.hid hr1; clear hr1
      go_wp2_with fail
      refine (Ct2.out _).mono ?_; rintro x w3 ⟨h3, g2, hg2, rfl, hr2⟩
      have hr1 := Below.row h3 Hr1.out
      have hb3 := Hb2.out.trans (h3.mono Hb2.out.size)
      have s1 := SRd.made hr1
      have s2 := SRd.made hr2
      have cd := Cd.out _ _ w3 s1 s2
      rw [← Hn1.out, ← Hn2.out] at cd
      clear d0 d1 d2 d3 d4 h3 hg2 hr1 hr2 s1 s2
      have Hb3 := Lib.hid hb3; clear hb3
      have Cd3 := Lib.hid cd; clear cd
      go_wp2_with fail
      refine Cd3.out.mono ?_; rintro x w4 ⟨rfl, h4⟩
      have hb4 := Hb3.out.trans (h4.mono Hb3.out.size)
      have Hb4 := Lib.hid hb4; clear hb4 h4
      go_wp2_with fail
      go_ret3
      exact ⟨rfl, Hb4.out⟩
    · simp only [if_neg hc] at ct1
      have hR : MgR c s e = .tuple #[.int .i64 0, .int .i64 0, .int .i64 2] := if_neg (fun h => hc h.2)
      rw [hR]
      clear hR
      obtain ⟨T, hT⟩ : ∃ T, e.on s = T := ⟨_, rfl⟩
      rw [hT] at ca
      clear hT hos hm hc hw hsum hon
      unfold Ctr.v Ed.v at *
      have Ca := Lib.hid ca; clear ca
      have Ct1 := Lib.hid ct1; clear ct1
      go_enter Try.func15, Try.ntmps15
      go_wp2_with fail
      rw [Hu2.out]
      go_wp2_with fail
      refine (Ca.out _).mono ?_; rintro x w1 ⟨rfl, h1⟩
      have hc1 := Hcx.out.new h1
      have hb1 := Hb0.out.trans (h1.mono Hb0.out.size)
      clear d0 d1 d2 d3 d4 e0 e1 e2 h1
      have d0 := hc1.c0
      have d1 := hc1.c1
      have d2 := hc1.c2
      have d3 := hc1.c3
      have d4 := hc1.c4
      have Hc1 := Lib.hid hc1; clear hc1
      have Hb1 := Lib.hid hb1; clear hb1
      go_wp2_with fail
      refine (Ct1.out _).mono ?_; rintro x w2 ⟨h2, rfl⟩
      have hb2 := Hb1.out.trans (h2.mono Hb1.out.size)
      have Hb2 := Lib.hid hb2; clear hb2 h2
      clear d0 d1 d2 d3 d4
      go_wp2_with fail
      go_ret3
      exact ⟨rfl, Hb2.out⟩
  · simp only [if_neg hm] at ca
    have hR : MgR c s e = .tuple #[.int .i64 0, .int .i64 0, .int .i64 2] := if_neg (fun h => hm h.1)
    rw [hR]
    clear hR ct1 hm hw hsum hon
    unfold Ctr.v Ed.v at *
    have Ca := Lib.hid ca; clear ca
    go_enter Try.func15, Try.ntmps15
    go_wp2_with fail
    rw [Hu2.out]
    go_wp2_with fail
    refine (Ca.out _).mono ?_; rintro x w1 ⟨rfl, h1⟩
    have hb1 := Hb0.out.trans (h1.mono Hb0.out.size)
    have Hb1 := Lib.hid hb1; clear hb1 h1
    clear d0 d1 d2 d3 d4 e0 e1 e2
    go_wp2_with fail
    go_ret3
    exact ⟨rfl, Hb1.out⟩
end Go.Proofs.Ytcmlcpejlmlcfaa
