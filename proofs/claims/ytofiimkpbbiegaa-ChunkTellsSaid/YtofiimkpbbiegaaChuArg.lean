/-
  An argument that is a cutter (a struct of five numbers, by value).
-/
import Derived.Test.YtofiimkpbbiegaaChuSmall
import Derived.Lib.SmallJoins
import Derived.Deep.Fields
import Derived.ChangeSame
import Derived.SizedLaws
set_option linter.unusedVariables false
namespace Go.Proofs.Ytofiimkpbbiegaa
open Go.ChangeShapes Go.WideShapes Go.Deep Go.RowKit

structure Ctr.Wf (c : Ctr) : Prop where
  p : c.p < 18446744073709551616
  n : -9223372036854775808 ≤ c.n ∧ c.n ≤ 9223372036854775807
  mn : -9223372036854775808 ≤ c.mn ∧ c.mn ≤ 9223372036854775807
  mx : -9223372036854775808 ≤ c.mx ∧ c.mx ≤ 9223372036854775807
  b : -9223372036854775808 ≤ c.b ∧ c.b ≤ 9223372036854775807
theorem wf64 {n : Int} (h : (Lit.int .i64 n).wf = true) : -9223372036854775808 ≤ n ∧ n ≤ 9223372036854775807 := by
  simp [Lit.wf] at h
  have h1 : (-9223372036854775808 : Int) ≤ n := h.1
  exact ⟨h1, h.2⟩
theorem array5 {α : Type} {cs : Array α} (h : cs.size = 5) : ∃ c0 c1 c2 c3 c4, cs = #[c0, c1, c2, c3, c4] := by
  obtain ⟨l⟩ := cs
  match l, h with
  | [c0, c1, c2, c3, c4], _ => exact ⟨c0, c1, c2, c3, c4, rfl⟩
section
variable {H : Type} {enc : TypeId × Value → H} {P : Program} {w : World} {base : Nat} {spare : Nat → Bool} {held : Bool}
theorem open_cutter {r : Reach} {b0 : Nat} {t tu ti : TypeId} {f0 f1 f2 f3 f4 : Field} {v : Value} {d : DataW H} {p : List MemPlace} (hs : P.underlying t = some (.struct #[f0, f1, f2, f3, f4]))
    (h0 : f0.type = tu) (h1 : f1.type = ti) (h2 : f2.type = ti) (h3 : f3.type = ti) (h4 : f4.type = ti) (htu : P.underlying tu = some (.int .u64)) (hti : P.underlying ti = some (.int .i64))
    (hone : oneCellFields P #[f0, f1, f2, f3, f4] = true) (hC : P.cellsOf t = 5) (hv : Value.okWide P w r b0 t v) (h : DataW.Trod enc P w base spare held t v d p) :
    ∃ c : Ctr, v = c.v ∧ c.Wf := by
  obtain ⟨cs, rfl, hsz⟩ := okWide_struct hs hv
  obtain ⟨c0, c1, c2, c3, c4, rfl⟩ := array5 (hsz.trans hC)
  obtain ⟨fuel, hf⟩ := h
  obtain ⟨xs, n, _, hx, _, hlen, hfl⟩ := DataW.trod_struct hs hf
  have t0 := hfl 0 f0 rfl
  have t1 := hfl 1 f1 rfl
  have t2 := hfl 2 f2 rfl
  have t3 := hfl 3 f3 rfl
  have t4 := hfl 4 f4 rfl
  obtain ⟨o0, k0⟩ := hone_of hone 0 f0 rfl
  obtain ⟨o1, k1⟩ := hone_of hone 1 f1 rfl
  obtain ⟨o2, k2⟩ := hone_of hone 2 f2 rfl
  obtain ⟨o3, k3⟩ := hone_of hone 3 f3 rfl
  obtain ⟨o4, k4⟩ := hone_of hone 4 f4 rfl
  match xs, hlen with
  | [y0, y1, y2, y3, y4], _ =>
    rw [h0] at t0 k0; rw [h1] at t1 k1; rw [h2] at t2 k2; rw [h3] at t3 k3; rw [h4] at t4 k4
    simp [Value.cells, o0, k0] at t0
    simp [Value.cells, o1, k1] at t1
    simp [Value.cells, o2, k2] at t2
    simp [Value.cells, o3, k3] at t3
    simp [Value.cells, o4, k4] at t4
    obtain ⟨n0, e0, _, w0⟩ := DataW.trod_int htu t0
    obtain ⟨n1, e1, _, w1⟩ := DataW.trod_int hti t1
    obtain ⟨n2, e2, _, w2⟩ := DataW.trod_int hti t2
    obtain ⟨n3, e3, _, w3⟩ := DataW.trod_int hti t3
    obtain ⟨n4, e4, _, w4⟩ := DataW.trod_int hti t4
    obtain rfl : c0 = .int .u64 n0 := by simpa using e0
    obtain rfl : c1 = .int .i64 n1 := by simpa using e1
    obtain rfl : c2 = .int .i64 n2 := by simpa using e2
    obtain rfl : c3 = .int .i64 n3 := by simpa using e3
    obtain rfl : c4 = .int .i64 n4 := by simpa using e4
    have hw0 : 0 ≤ n0 ∧ n0 ≤ 18446744073709551615 := by
      simp [Lit.wf] at w0
      exact ⟨w0.1, w0.2⟩
    refine ⟨⟨n0.toNat, n1, n2, n3, n4⟩, ?_, ⟨by simp only; omega, wf64 w1, wf64 w2, wf64 w3, wf64 w4⟩⟩
    unfold Ctr.v
    simp only [Int.toNat_of_nonneg hw0.1]
end
end Go.Proofs.Ytofiimkpbbiegaa
