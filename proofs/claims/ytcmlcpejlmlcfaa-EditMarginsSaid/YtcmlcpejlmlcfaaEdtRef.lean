/-
  What the document's Apply and Of of layer 11 return.
-/
import Derived.Test.YtcmlcpejlmlcfaaEdtBack
set_option linter.unusedVariables false
set_option maxRecDepth 100000
namespace Go.Proofs.Ytcmlcpejlmlcfaa
open Go.RowKit

theorem Ed.on_cat (i c : Nat) (p s : ByteArray) : (s.extract 0 i ++ p) ++ s.extract (i + c) s.size = (⟨(i : Int), (c : Int), p⟩ : Ed).on s := by
  rw [← Ed.on_is]
  refine ba_ext ?_
  have h1 := Go.Joins.data_append (s.extract 0 i ++ p) (s.extract (i + c) s.size)
  have h2 := Go.Joins.data_append (s.extract 0 i) p
  rw [h1, h2]
  simp

set_option maxHeartbeats 2000000 in
theorem refApply11_any (s : ByteArray) (hsz : s.size ≤ 1099511627776) (e : Ed) (hw : e.Wf) (hp : e.p.size ≤ 1099511627776) (w : World) :
    Calls Try.prog 9 #[.string s, e.v] w fun x w' => x = .returned (if e.May s.size then .tuple #[.string (e.on s), .int .i64 0] else .tuple #[.string ⟨#[]⟩, .int .i64 2]) ∧ Below w.heap.size w w' := by
  have ca := fun u => refMay11_any s hsz e hw u
  have hb0 := box_below w (.cells #[.int .i64 e.a, .int .i64 e.c, .string e.p] 23)
  have hbx := EdAt.box e w
  have e0 := hbx.c0
  have e1 := hbx.c1
  have e2 := hbx.c2
  by_cases hm : e.May s.size
  · simp only [if_pos hm]
    rw [decide_eq_true hm] at ca
    obtain ⟨a, c, p⟩ := e
    obtain ⟨h1, h2, h3⟩ := hm
    simp only at h1 h2 h3 hp
    obtain ⟨i, rfl⟩ : ∃ i : Nat, a = i := ⟨a.toNat, by omega⟩
    obtain ⟨k, rfl⟩ : ∃ k : Nat, c = k := ⟨c.toNat, by omega⟩
    have hik : i + k ≤ s.size := by omega
    have hon := Ed.on_cat i k p s
    obtain ⟨R, hR⟩ : ∃ R, (⟨(i : Int), (k : Int), p⟩ : Ed).on s = R := ⟨_, rfl⟩
    rw [hR] at hon ⊢
    unfold Ed.v at *
    simp only at ca hb0 e0 e1 e2 ⊢
    have ht1 := fun u => text_head s i (by omega) u
    have ht2 := fun u => text_tail s (i + k) hik u
    have hcst : ((i + k : Nat) : Int) = (i : Int) + (k : Int) := by omega
    rw [hcst] at ht2
    have hwr : IntKind.i64.wrap ((i : Int) + (k : Int)) = (i : Int) + (k : Int) := by simp only [IntKind.wrap_i64]; omega
    have hx1 : (s.extract 0 i).size ≤ 1099511627776 := by rw [ByteArray.size_extract]; omega
    have hx2 : (s.extract (i + k) s.size).size ≤ 1099511627776 := by rw [ByteArray.size_extract]; omega
    generalize s.extract 0 i = X1 at *
    generalize s.extract (i + k) s.size = X2 at *
    have hz12 : (X1 ++ p).size = X1.size + p.size := by simp
    have hz3 : (X1 ++ p ++ X2).size = X1.size + p.size + X2.size := by simp
    have Hon := Lib.hid hon; clear hon hR
    have Ca := Lib.hid ca; clear ca
    have Hbx := Lib.hid hbx; clear hbx
    have Hb0 := Lib.hid hb0; clear hb0
    clear h1 h2 h3 hw hcst
    go_enter Try.func9, Try.ntmps9
    go_wp2_with fail
    refine (Ca.out _).mono ?_; rintro x w1 ⟨rfl, h1⟩
    have hx1 := Hbx.out.new h1
    have hb1 := Hb0.out.trans (h1.mono Hb0.out.size)
    clear e0 e1 e2 h1
    have e0 := hx1.c0
    have e1 := hx1.c1
    have e2 := hx1.c2
    simp only at e0 e1 e2
    have Hb1 := Lib.hid hb1; clear hb1 hx1
    go_wp2_with fail
    go_quiet (fail)
    go_wp2_with fail
    go_ret2
    exact ⟨by rw [Hon.out]; rfl, drewN_below Hb1.out _⟩
  · simp only [if_neg hm]
    rw [decide_eq_false hm] at ca
    unfold Ed.v at *
    have Ca := Lib.hid ca; clear ca hm
    have Hb0 := Lib.hid hb0; clear hb0 hbx
    go_enter Try.func9, Try.ntmps9
    go_wp2_with fail
    refine (Ca.out _).mono ?_; rintro x w1 ⟨rfl, h1⟩
    have hb1 := Hb0.out.trans (h1.mono Hb0.out.size)
    have Hb1 := Lib.hid hb1; clear hb1 h1
    clear e0 e1 e2
    go_wp2_with fail
    go_ret2
    exact ⟨rfl, Hb1.out⟩
end Go.Proofs.Ytcmlcpejlmlcfaa
