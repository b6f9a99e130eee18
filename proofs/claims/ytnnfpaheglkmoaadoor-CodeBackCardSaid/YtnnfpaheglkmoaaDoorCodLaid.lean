/-
  What the laid variables give: the names of the ops, a table of powers, two errors; the world in which they lie as the program's own text lays them.
-/
import Derived.Test.YtnnfpaheglkmoaaDoorCodMem
import Derived.OpenShut
import Derived.ProofKit
import Derived.LaidMore
import Derived.Stop.Joined
import Derived.Stop.LaidErr
import Derived.Lib.LaidTab
import Derived.ChangeVars
import Derived.Shelf.Strconv.Itoa3
set_option linter.unusedVariables false
set_option maxRecDepth 100000
namespace Go.Proofs.YtnnfpaheglkmoaaDoor
open Go.ChangeShapes Go.WideShapes Go.ChangeAt Go.RowKit

theorem own : ownKnob Tryd.prog.godebug = none := by kernel_rfl
theorem laidOut : laidOutB Tryd.prog = true := by kernel_rfl
abbrev laidList : List (String × DataW Unit) := [("math/bits.deBruijn32tab", Rows.laid_math_bits_deBruijn32tab), ("math/bits.deBruijn64tab", Rows.laid_math_bits_deBruijn64tab), ("internal/strconv.uint64pow10", Rows.laid_internal_strconv_uint64pow10), ("strconv.ErrRange", Rows.laid_strconv_ErrRange), ("strconv.ErrSyntax", Rows.laid_strconv_ErrSyntax), ("maslin/code.names", Rows.laid_maslin_code_names)]
theorem door_met (os : Os) (args : Array Value) : laidMetH Tryd.prog laidList ((World.doorLaid Tryd.prog 400 os).forCall (fun _ _ => 0) ⟨#[], args, []⟩).memory :=
  laidMetH_of_parts3 (fuel := 8) (laidMet_of_run' 8 (by kernel_rfl) (by kernel_rfl)) (by kernel_rfl) (by kernel_rfl)

/-- a laid table of texts -/
theorem table_str {P : Program} {W : World} {name : String} {D : DataW Unit} {rest : List (String × DataW Unit)} {g t n e : Nat} (h : laidMet P ((name, D) :: rest) W)
    (hg : P.globalNamed name = some g) (ht : (P.globals[g]?).map (·.type) = some t) (hu : P.underlying t = some (.array n e)) (he : P.underlying e = some .string) (hc : P.cellsOf e = 1)
    (ns : List (List UInt8)) (hD : D = .agg (ns.map fun z => .lit (.string z))) : ∀ j (hj : j < ns.length), W.cell? ⟨g, j, none⟩ = some (.string ⟨ns[j].toArray⟩) := by
  obtain ⟨ps, ⟨g0, t0, cs, fuel, p, q, hg0, ht0, hv, hd, _, _⟩, _⟩ := h
  obtain rfl := Option.some.inj (hg.symm.trans hg0)
  obtain rfl := Option.some.inj (ht.symm.trans ht0)
  obtain ⟨xs, m, rfl, hx, hl, hn, hel⟩ := DataW.trod_array hu hd
  simp only [Prod.mk.injEq] at hx
  have hxs := hx.1
  rw [hD, DataW.agg.injEq] at hxs
  intro j hj
  have hlen : ns.length = xs.length := by have := congrArg List.length hxs; simpa using this
  have hjx : j < xs.length := by omega
  have h1 := hel j (by omega)
  rw [hc, Nat.mul_one, List.getElem?_eq_getElem hjx] at h1
  obtain ⟨s, e1, e2, _⟩ := DataW.trod_string he h1
  have e3 : (xs.map (·.1))[j]? = some (.lit (.string s.data.toList)) := by rw [List.getElem?_map, List.getElem?_eq_getElem hjx, e2]; rfl
  rw [← hxs, List.getElem?_map, List.getElem?_eq_getElem hj] at e3
  simp only [Option.map_some, Option.some.injEq, DataW.lit.injEq, Lit.string.injEq] at e3
  rw [World.var?_cell hg0 hv j, e3, ba_eta]
  have h2 : cs.toList[j]? = some (.string s) := by
    have := congrArg (fun l : List Value => l[0]?) e1
    simpa using this
  simpa using h2
theorem var_below {P : Program} {W W' : World} {n : String} {cs : Array Value} (h : W.var? P n = some cs) (hb : Below W.heap.size W W') : W'.var? P n = some cs := by
  unfold World.var? at h ⊢
  cases hg : P.globalNamed n with
  | none => simp [hg] at h
  | some g =>
    simp only [hg, Option.bind_some] at h ⊢
    have hlt : g < W.heap.size := by
      rcases Nat.lt_or_ge g W.heap.size with h' | h'
      · exact h'
      · simp [Array.getElem?_eq_none h'] at h
    rw [hb.block g hlt]
    exact h
/-- the text of a name -/
def nmS (j : Nat) : ByteArray := ⟨(Cod.names.getD j []).toArray⟩
/-- the names as one value -/
def nmA : Array Value := (Cod.names.map fun l => Value.string ⟨l.toArray⟩).toArray
/-- a laid table of texts, whole -/
theorem table_whole {P : Program} {W : World} {name : String} {D : DataW Unit} {rest : List (String × DataW Unit)} {g t n e : Nat} (h : laidMet P ((name, D) :: rest) W)
    (hg : P.globalNamed name = some g) (ht : (P.globals[g]?).map (·.type) = some t) (hu : P.underlying t = some (.array n e)) (he : P.underlying e = some .string) (hc : P.cellsOf e = 1) (hct : P.cellsOf t = n)
    (ns : List (List UInt8)) (hD : D = .agg (ns.map fun z => .lit (.string z))) : W.var? P name = some (ns.map fun l => Value.string ⟨l.toArray⟩).toArray := by
  have h0 := table_str h hg ht hu he hc ns hD
  obtain ⟨ps, ⟨g0, t0, cs, fuel, p, q, hg0, ht0, hv, hd, _, _⟩, _⟩ := h
  obtain rfl := Option.some.inj (hg.symm.trans hg0)
  obtain rfl := Option.some.inj (ht.symm.trans ht0)
  obtain ⟨xs, m, rfl, hx, hl, hn, hel⟩ := DataW.trod_array hu hd
  simp only [Prod.mk.injEq] at hx
  have hxs := hx.1
  rw [hD, DataW.agg.injEq] at hxs
  have hlen : ns.length = xs.length := by have := congrArg List.length hxs; simpa using this
  rw [hct, Array.length_toList] at hl
  rw [hv]
  congr 1
  apply Array.ext'
  apply List.ext_getElem?
  intro j
  by_cases hj : j < ns.length
  · have h1 := h0 j hj
    rw [World.var?_cell hg0 hv j] at h1
    rw [Array.getElem?_toList, h1]
    simp [hj]
  · rw [List.getElem?_eq_none (by rw [Array.length_toList]; omega), List.getElem?_eq_none (by simp; omega)]
/-- what the code reads of package-level variables -/
structure Kn (w : World) : Prop where
  row : w.var? Tryd.prog "maslin/code.names" = some nmA
  nm : ∀ j, j < 24 → w.cell? ⟨0, j, none⟩ = some (.string (nmS j))
  pow : Lib.TabIs Tryd.prog w "internal/strconv.uint64pow10" .u64 Lib.pow10Tab
  syn : ∃ tp p, w.var? Tryd.prog "strconv.ErrSyntax" = some #[.iface tp p]
  ran : ∃ tp p, w.var? Tryd.prog "strconv.ErrRange" = some #[.iface tp p]
theorem Kn.keep {w w' : World} (h : Kn w) (hb : Below w.heap.size w w') : Kn w' := by
  obtain ⟨t1, p1, e1⟩ := h.syn
  obtain ⟨t2, p2, e2⟩ := h.ran
  exact ⟨var_below h.row hb, fun j hj => by rw [hb.cell (cell_lt (h.nm j hj))]; exact h.nm j hj, var_below h.pow hb, ⟨t1, p1, var_below e1 hb⟩, ⟨t2, p2, var_below e2 hb⟩⟩
theorem Kn.drew {w : World} (h : Kn w) : Kn w.drew := h.keep ((Below.refl _ _).drew)
theorem err_star : "*" ++ "errors.errorString" = "*errors.errorString" := by decide
theorem err_row (u : TypeId) (h : Tryd.prog.typeName? 3 u = some "*errors.errorString") : u = 105 :=
  typeName_ptr_named (nm := "errors.errorString") (by rw [err_star]; kernel_rfl) (by kernel_rfl) (by decide) u (by rw [err_star]; exact h)
theorem kn_of_laid {W : World} (h : laidMetH Tryd.prog laidList W) : Kn W := by
  rw [MakeChecks.laidMetH_plain _ _ _ (by kernel_rfl)] at h
  have h3 := h.tail.tail
  have h4 := h3.tail
  have h5 := h4.tail
  have h6 := h5.tail
  refine ⟨table_whole h6 (g := 0) (t := 63) (by kernel_rfl) (by kernel_rfl) Tryd.underlying63 Tryd.underlying9 (by kernel_rfl) (by kernel_rfl) Cod.names (by kernel_rfl), fun j hj => ?_, ?_, ?_, ?_⟩
  · have hl : Cod.names.length = 24 := rfl
    have := table_str h6 (g := 0) (t := 63) (by kernel_rfl) (by kernel_rfl) Tryd.underlying63 Tryd.underlying9 (by kernel_rfl) Cod.names (by kernel_rfl) j (by rw [hl]; exact hj)
    rw [this]
    unfold nmS
    congr 3
    rw [List.getD_eq_getElem?_getD, List.getElem?_eq_getElem (show j < Cod.names.length from by rw [hl]; exact hj)]
    rfl
  · exact Lib.tabIs_of_head (g := 4) (t := 98) (by kernel_rfl) (by kernel_rfl) Tryd.underlying98 Tryd.underlying68 (by kernel_rfl) (by kernel_rfl) h3
  · obtain ⟨a0, s0, hv0, _⟩ := laid_sentinel h5 (g := 2) (ti := 54) (by kernel_rfl) (by kernel_rfl) Tryd.underlying54 err_row Tryd.underlying105 Tryd.underlying107 rfl rfl Tryd.underlying9 (by kernel_rfl) (by kernel_rfl)
    exact ⟨_, _, hv0⟩
  · obtain ⟨a0, s0, hv0, _⟩ := laid_sentinel h4 (g := 3) (ti := 54) (by kernel_rfl) (by kernel_rfl) Tryd.underlying54 err_row Tryd.underlying105 Tryd.underlying107 rfl rfl Tryd.underlying9 (by kernel_rfl) (by kernel_rfl)
    exact ⟨_, _, hv0⟩
end Go.Proofs.YtnnfpaheglkmoaaDoor
