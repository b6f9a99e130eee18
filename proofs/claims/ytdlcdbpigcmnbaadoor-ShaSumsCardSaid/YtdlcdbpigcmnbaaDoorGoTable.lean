/-
  A package-level table of numbers that is laid: what its cells hold.
-/
import Derived.Test.YtdlcdbpigcmnbaaDoorRows
import Derived.OpenShut
import Derived.ProofKit
import Derived.LaidMore
import Derived.Stop.Joined
import Derived.ChangeVars
set_option linter.unusedVariables false
namespace Go.Proofs.YtdlcdbpigcmnbaaDoor
open Go.ChangeShapes Go.WideShapes Go.ChangeAt Go.RowKit

theorem table_int {P : Program} {W : World} {name : String} {D : DataW Unit} {g t n e : Nat} {k : IntKind} (h : laidMetH P [(name, D)] W) (hpl : ([(name, D)].all fun x => x.2.handleName?.isNone) = true)
    (hg : P.globalNamed name = some g) (ht : (P.globals[g]?).map (·.type) = some t) (hu : P.underlying t = some (.array n e)) (he : P.underlying e = some (.int k)) (hc : P.cellsOf e = 1)
    (ns : List Int) (hD : D = .agg (ns.map fun z => .lit (.int k z))) : ∀ j (hj : j < ns.length), W.cell? ⟨g, j, none⟩ = some (.int k ns[j]) := by
  rw [MakeChecks.laidMetH_plain _ _ _ hpl] at h
  obtain ⟨ps, ⟨g0, t0, cs, fuel, p, q, hg0, ht0, hv, hd, _, _⟩, _⟩ := h
  obtain rfl := Option.some.inj (hg.symm.trans hg0)
  obtain rfl := Option.some.inj (ht.symm.trans ht0)
  obtain ⟨xs, m, rfl, hx, hl, hn, hel⟩ := DataW.trod_array hu hd
  simp only [Prod.mk.injEq] at hx
  have hxs := hx.1
  rw [hD, DataW.agg.injEq] at hxs
  intro j hj
  have hlen : ns.length = xs.length := by have := congrArg List.length hxs; simpa using this
  have hjx : j < xs.length := by omega
  have h1 := hel j (by omega)
  rw [hc, Nat.mul_one, List.getElem?_eq_getElem hjx] at h1
  obtain ⟨z, e1, e2, _⟩ := DataW.trod_int he h1
  have e3 : (xs.map (·.1))[j]? = some (.lit (.int k z)) := by rw [List.getElem?_map, List.getElem?_eq_getElem hjx, e2]; rfl
  rw [← hxs, List.getElem?_map, List.getElem?_eq_getElem hj] at e3
  simp only [Option.map_some, Option.some.injEq, DataW.lit.injEq, Lit.int.injEq, true_and] at e3
  rw [World.var?_cell hg0 hv j, e3]
  have h2 : cs.toList[j]? = some (.int k z) := by
    have := congrArg (fun l : List Value => l[0]?) e1
    simpa using this
  simpa using h2
end Go.Proofs.YtdlcdbpigcmnbaaDoor
