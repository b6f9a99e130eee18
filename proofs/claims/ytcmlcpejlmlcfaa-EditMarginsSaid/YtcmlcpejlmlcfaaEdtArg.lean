/-
  An argument that is an edit (two numbers and a text, by value).
-/
import Derived.Test.YtcmlcpejlmlcfaaEdtPure
import Derived.Test.YtcmlcpejlmlcfaaChuC
set_option linter.unusedVariables false
namespace Go.Proofs.Ytcmlcpejlmlcfaa
open Go.ChangeShapes Go.WideShapes Go.Deep Go.RowKit

theorem array3 {α : Type} {cs : Array α} (h : cs.size = 3) : ∃ c0 c1 c2, cs = #[c0, c1, c2] := by
  obtain ⟨l⟩ := cs
  match l, h with
  | [c0, c1, c2], _ => exact ⟨c0, c1, c2, rfl⟩
section
variable {H : Type} {enc : TypeId × Value → H} {P : Program} {w : World} {base : Nat} {spare : Nat → Bool} {held : Bool}
theorem open_edit {r : Reach} {b0 : Nat} {t ti ts : TypeId} {f0 f1 f2 : Field} {v : Value} {d : DataW H} {p : List MemPlace} (hs : P.underlying t = some (.struct #[f0, f1, f2]))
    (h0 : f0.type = ti) (h1 : f1.type = ti) (h2 : f2.type = ts) (hti : P.underlying ti = some (.int .i64)) (hts : P.underlying ts = some .string)
    (hone : oneCellFields P #[f0, f1, f2] = true) (hC : P.cellsOf t = 3) (hv : Value.okWide P w r b0 t v) (h : DataW.Trod enc P w base spare held t v d p) (hsz : ∀ n ∈ DataW.weights P t d, n ≤ reachBytes) :
    ∃ e : Ed, v = e.v ∧ e.Wf ∧ e.p.size ≤ 140737488351232 := by
  obtain ⟨cs, rfl, hsz0⟩ := okWide_struct hs hv
  obtain ⟨c0, c1, c2, rfl⟩ := array3 (hsz0.trans hC)
  obtain ⟨fuel, hf⟩ := h
  obtain ⟨xs, n, _, hx, _, hlen, hfl⟩ := DataW.trod_struct hs hf
  have t0 := hfl 0 f0 rfl
  have t1 := hfl 1 f1 rfl
  have t2 := hfl 2 f2 rfl
  obtain ⟨o0, k0⟩ := hone_of hone 0 f0 rfl
  obtain ⟨o1, k1⟩ := hone_of hone 1 f1 rfl
  obtain ⟨o2, k2⟩ := hone_of hone 2 f2 rfl
  match xs, hlen with
  | [y0, y1, y2], _ =>
    rw [h0] at t0 k0; rw [h1] at t1 k1; rw [h2] at t2 k2
    simp [Value.cells, o0, k0] at t0
    simp [Value.cells, o1, k1] at t1
    simp [Value.cells, o2, k2] at t2
    obtain ⟨n0, e0, _, w0⟩ := DataW.trod_int hti t0
    obtain ⟨n1, e1, _, w1⟩ := DataW.trod_int hti t1
    obtain ⟨s2, e2, x2, _⟩ := DataW.trod_string hts t2
    obtain rfl : c0 = .int .i64 n0 := by simpa using e0
    obtain rfl : c1 = .int .i64 n1 := by simpa using e1
    obtain rfl : c2 = .string s2 := by simpa using e2
    have hs2 : s2.size ≤ 140737488351232 := by
      have hw : s2.data.toList.length ∈ DataW.weights P t d := by
        rw [(Prod.mk.inj hx).1]
        simp only [DataW.weights, hs]
        subst x2
        simp only [List.map_cons, List.map_nil, DataW.weightsEach]
        refine List.mem_append_right _ (List.mem_append_right _ (List.mem_append_left _ ?_))
        simp [DataW.weights]
      have := hsz _ hw
      rw [ba_len] at this
      exact this
    exact ⟨⟨n0, n1, s2⟩, rfl, ⟨wf64 w0, wf64 w1⟩, hs2⟩
end
end Go.Proofs.Ytcmlcpejlmlcfaa
