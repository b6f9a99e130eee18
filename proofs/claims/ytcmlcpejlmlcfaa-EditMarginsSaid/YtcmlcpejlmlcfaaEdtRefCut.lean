/-
  What the document's Cut of layer 11 returns.
-/
import Derived.Test.YtcmlcpejlmlcfaaEdtRefTx
import Derived.Test.YtcmlcpejlmlcfaaLinB
set_option linter.unusedVariables false
set_option maxRecDepth 100000
namespace Go.Proofs.Ytcmlcpejlmlcfaa
open Go.RowKit

set_option maxHeartbeats 1000000 in
theorem refCut11_any (c : Ctr) (hp : c.p < 18446744073709551616) (hm : c.May) (s : ByteArray) (hsz : s.size ≤ 1099511627776) (w : World) :
    Calls Try.prog 19 #[c.v, .string s] w fun e w' => ∃ v, e = .returned v ∧ TOwn w.heap.size v (c.atexts s) w' ∧ Below w.heap.size w w' := by
  have c1 := fun u => refMay9_any c hp u
  rw [decide_eq_true hm] at c1
  have c2 := fun u => refLCut_any c hm s hsz u
  have hcl := Ctr.acut_len hm s.data.toList
  have hok := Ctr.acut_ok hm s.data.toList
  rw [ba_len] at hcl hok
  have htx : c.atexts s = pcTexts s (c.acut s.data.toList) := rfl
  rw [htx]
  generalize c.acut s.data.toList = C at *
  have c3 := fun pv u (h : PRd pv C u) => refTexts11_any s hsz pv C u h (by omega) hok
  have hbw := box_below w (.cells #[.int .u64 c.p, .int .i64 c.n, .int .i64 c.mn, .int .i64 c.mx, .int .i64 c.b] 38)
  have hrow := CtrAt.box c w
  have d0 := hrow.c0
  have d1 := hrow.c1
  have d2 := hrow.c2
  have d3 := hrow.c3
  have d4 := hrow.c4
  unfold Ctr.v at *
  have C1 := Lib.hid c1; clear c1
  have C2 := Lib.hid c2; clear c2
  have C3 := Lib.hid c3; clear c3
  have Hbw := Lib.hid hbw; clear hbw
  have Hrow := Lib.hid hrow; clear hrow
  clear hm htx hok
  go_enter Try.func19, Try.ntmps19
  go_wp2_with fail
  refine (C1.out _).mono ?_; rintro e w1 ⟨rfl, h1⟩
  have hr1 := Hrow.out.new h1
  have Hb1 := Lib.hid (Hbw.out.trans (h1.mono Hbw.out.size))
  clear d0 d1 d2 d3 d4 h1
  have d0 := hr1.c0
  have d1 := hr1.c1
  have d2 := hr1.c2
  have d3 := hr1.c3
  have d4 := hr1.c4
  have Hr1 := Lib.hid hr1; clear hr1
  go_wp2_with fail
  refine (C2.out _).mono ?_; rintro e w2 ⟨v2, rfl, hv2, h2⟩
  have Hb2 := Lib.hid (Hb1.out.trans (h2.mono Hb1.out.size))
  have Hc3 := Lib.hid (C3.out v2 w2 hv2.reads)
  clear d0 d1 d2 d3 d4 h2 hv2
  go_wp2_with fail
  refine Hc3.out.mono ?_; rintro e w3 ⟨v3, rfl, hv3, h3⟩
  have Hb3 := Lib.hid (Hb2.out.trans (h3.mono Hb2.out.size))
  have Hv3 := Lib.hid (hv3.base (B' := w.heap.size) Hb2.out.size)
  clear h3 hv3
  go_wp2_with fail
  go_ret
  exact ⟨_, rfl, Hv3.out, Hb3.out⟩
end Go.Proofs.Ytcmlcpejlmlcfaa
