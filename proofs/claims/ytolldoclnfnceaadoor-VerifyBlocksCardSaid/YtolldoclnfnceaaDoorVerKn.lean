/-
  What the laid variables give: what each instruction takes and gives; the world in which they lie as the program's own text lays them.
-/
import Derived.Test.YtolldoclnfnceaaDoorCodMem
import Derived.Test.YtolldoclnfnceaaDoorVerTab
import Derived.OpenShut
import Derived.ProofKit
import Derived.LaidMore
import Derived.Stop.Joined
import Derived.Stop.LaidErr
import Derived.Lib.LaidTab
import Derived.ChangeVars
import Derived.ShapedOpen
import Derived.Deep.Slices
import Derived.Deep.Fields
import Derived.Lay
set_option linter.unusedVariables false
set_option maxRecDepth 100000
namespace Go.Proofs.YtolldoclnfnceaaDoor
open Go.ChangeShapes Go.WideShapes Go.ChangeAt Go.RowKit Go.Deep

theorem own : ownKnob Tryd.prog.godebug = none := by kernel_rfl
theorem laidOut : laidOutB Tryd.prog = true := by kernel_rfl
abbrev laidList : List (String × DataW Unit) := [("unicode/utf8.acceptRanges", Rows.laid_unicode_utf8_acceptRanges), ("maslin/verify.effects", Rows.laid_maslin_verify_effects), ("unicode/utf8.first", Rows.laid_unicode_utf8_first)]
theorem door_met (os : Os) (args : Array Value) : laidMetH Tryd.prog laidList ((World.laidAll Tryd.prog os laidList).forCall (fun _ _ => 0) ⟨#[], args, []⟩).memory := by
  rw [MakeChecks.laidMetH_plain _ _ _ (by kernel_rfl)]
  exact laidMet_laidAll _ (by kernel_rfl) (by kernel_rfl)

/-- a laid table of two texts each -/
theorem table_str2 {P : Program} {W : World} {name : String} {D : DataW Unit} {rest : List (String × DataW Unit)} {g t n e ts : Nat} {f0 f1 : Field} (h : laidMet P ((name, D) :: rest) W)
    (hg : P.globalNamed name = some g) (ht : (P.globals[g]?).map (·.type) = some t) (hu : P.underlying t = some (.array n e)) (he : P.underlying e = some (.struct #[f0, f1])) (h0 : f0.type = ts) (h1 : f1.type = ts)
    (hs : P.underlying ts = some .string) (hone : oneCellFields P #[f0, f1] = true) (hc : P.cellsOf e = 2)
    (ns : List (List UInt8 × List UInt8)) (hD : D = .agg (ns.map fun z => .agg [.lit (.string z.1), .lit (.string z.2)])) : ∀ j (hj : j < ns.length), W.cell? ⟨g, j * 2, none⟩ = some (.string ⟨ns[j].1.toArray⟩) ∧ W.cell? ⟨g, j * 2 + 1, none⟩ = some (.string ⟨ns[j].2.toArray⟩) := by
  obtain ⟨ps, ⟨g0, t0, cs, fuel, p, q, hg0, ht0, hv, hd, _, _⟩, _⟩ := h
  obtain rfl := Option.some.inj (hg.symm.trans hg0)
  obtain rfl := Option.some.inj (ht.symm.trans ht0)
  obtain ⟨xs, m, rfl, hx, hl, hn, hel⟩ := DataW.trod_array hu hd
  simp only [Prod.mk.injEq] at hx
  have hxs := hx.1
  rw [hD, DataW.agg.injEq] at hxs
  intro j hj
  have hlen : ns.length = xs.length := by have := congrArg List.length hxs; simpa using this
  have hjx : j < xs.length := by omega
  have hh := hel j (by omega)
  rw [hc, List.getElem?_eq_getElem hjx] at hh
  obtain ⟨ys, n', hn', hy, hylen, hyl, hfl⟩ := DataW.trod_struct he hh
  have e3 : (xs.map (·.1))[j]? = some (xs[j].1) := by rw [List.getElem?_map, List.getElem?_eq_getElem hjx]; rfl
  rw [← hxs, List.getElem?_map, List.getElem?_eq_getElem hj] at e3
  simp only [Option.map_some, Option.some.injEq] at e3
  have look : ∀ (i : Nat) (f : Field), #[f0, f1][i]? = some f → ∃ v y, cs.toList[j * 2 + i]? = some v ∧ ys[i]? = some y ∧ DataW.trod (fun _ => ()) P W 0 (fun _ => true) false n' f.type [v] = some y := by
    intro i f hi
    obtain ⟨ho, hk⟩ := hone_of hone i f hi
    have hil : i < 2 := (Array.getElem?_eq_some_iff.1 hi).1
    have hx1 := hfl i f hi
    rw [ho, hk] at hx1
    have hlen2 : ((cs.toList.drop (j * 2)).take 2).length = 2 := by rw [hylen]; exact hc
    have hone' : (((cs.toList.drop (j * 2)).take 2).drop i).take 1 = [((cs.toList.drop (j * 2)).take 2)[i]'(by omega)] := by
      rw [List.drop_eq_getElem_cons (by omega)]
      rfl
    rw [hone'] at hx1
    have hys : ys[i]? = some (ys[i]'(by rw [hyl]; exact hil)) := List.getElem?_eq_getElem (by rw [hyl]; exact hil)
    refine ⟨_, _, ?_, hys, hx1.trans hys⟩
    have : ((cs.toList.drop (j * 2)).take 2)[i]? = some (((cs.toList.drop (j * 2)).take 2)[i]'(by omega)) := List.getElem?_eq_getElem (by omega)
    rw [← this, List.getElem?_take_of_lt hil, List.getElem?_drop]
  obtain ⟨v0, y0, c0, q0, t0⟩ := look 0 f0 rfl
  obtain ⟨v1, y1, c1, q1, t1⟩ := look 1 f1 rfl
  rw [h0] at t0
  rw [h1] at t1
  obtain ⟨s0, a0, b0, _⟩ := DataW.trod_string hs t0
  obtain ⟨s1, a1, b1, _⟩ := DataW.trod_string hs t1
  have hxj : xs[j].1 = .agg (ys.map (·.1)) := by rw [hy]
  rw [hxj] at e3
  obtain ⟨z0, z1, rfl⟩ : ∃ z0 z1, ys = [z0, z1] := by
    match ys, hyl with
    | [z0, z1], _ => exact ⟨z0, z1, rfl⟩
  simp only [List.map_cons, List.map_nil, DataW.agg.injEq, List.cons.injEq, and_true] at e3
  simp only [List.getElem?_cons_zero, List.getElem?_cons_succ, Option.some.injEq] at q0 q1
  subst q0
  subst q1
  rw [b0, b1] at e3
  simp only [DataW.lit.injEq, Lit.string.injEq] at e3
  have w0 : v0 = .string s0 := by simpa using a0
  have w1 : v1 = .string s1 := by simpa using a1
  rw [World.var?_cell hg0 hv, World.var?_cell hg0 hv, e3.1, e3.2, ba_eta, ba_eta, ← w0, ← w1]
  exact ⟨by simpa using c0, by simpa using c1⟩

/-- what the code reads of package-level variables -/
structure Kn (w : World) : Prop where
  eff : ∀ j, j < 24 → w.cell? ⟨0, j * 2, none⟩ = some (.string (Ver.kb (Ver.effP j))) ∧ w.cell? ⟨0, j * 2 + 1, none⟩ = some (.string (Ver.kb (Ver.effQ j)))
  len : ∃ m, w.cell? ⟨1, 0, none⟩ = some (.int .i64 m)
theorem Kn.keep {w w' : World} (h : Kn w) (hb : Below w.heap.size w w') : Kn w' := by
  obtain ⟨m, hm⟩ := h.len
  exact ⟨fun j hj => by
    have := h.eff j hj
    rw [hb.cell (cell_lt this.1), hb.cell (cell_lt this.2)]; exact this, m, by rw [hb.cell (cell_lt hm)]; exact hm⟩
theorem Kn.drew {w : World} (h : Kn w) : Kn w.drew := h.keep ((Below.refl _ _).drew)
theorem Kn.past2 {w w' : World} (h : Kn w) (hb : Below w.heap.size w w') : Kn w' := h.keep hb
theorem Kn.past {w w' : World} (h : Kn w) {B : Nat} (hb : Below B w w') (hB : 4 ≤ B) : Kn w' := by
  obtain ⟨m, hm⟩ := h.len
  exact ⟨fun j hj => by
    have := h.eff j hj
    rw [hb.cell (show 0 < B by omega), hb.cell (show 0 < B by omega)]; exact this, m, by rw [hb.cell (show 1 < B by omega)]; exact hm⟩
theorem len_of_shape {W : World} (h : W.ShapedOpen Tryd.prog) : ∃ m, W.cell? ⟨1, 0, none⟩ = some (.int .i64 m) := by
  obtain ⟨cs, hh, hs, hr⟩ := h.1 1 #[.int .i64 0] 3 (of_decide_eq_true (by kernel_rfl)) (by kernel_rfl)
  obtain ⟨ts, hts, _, hall⟩ := hr (by kernel_rfl)
  have hc : Tryd.prog.cellTypes Tryd.prog.depth 3 = some [3] := by kernel_rfl
  rw [hc] at hts
  cases hts
  have h1 : 0 < cs.size := by rw [hs]; exact Nat.zero_lt_one
  obtain ⟨u, hu', hok⟩ := hall 0 cs[0] (by simp [h1])
  have : u = 3 := by simpa using hu'.symm
  subst this
  have hcell : W.cell? ⟨1, 0, none⟩ = some cs[0] := by simp [World.cell?, hh, h1]
  rw [hcell]
  unfold Cell.ok at hok
  rw [Tryd.underlying3] at hok
  cases hv : cs[0] <;> rw [hv] at hok <;> first | (simp at hok; done) | skip
  rename_i k n
  cases k <;> first | exact ⟨_, rfl⟩ | simp at hok
theorem kn_of_laid {W : World} (h : laidMetH Tryd.prog laidList W) (hsh : W.ShapedOpen Tryd.prog) : Kn W := by
  rw [MakeChecks.laidMetH_plain _ _ _ (by kernel_rfl)] at h
  refine ⟨fun j hj => ?_, len_of_shape hsh⟩
  have hl : Ver.effT.length = 24 := rfl
  have := table_str2 h.tail (g := 0) (t := 84) (by kernel_rfl) (by kernel_rfl) Tryd.underlying84 Tryd.underlying74 rfl rfl Tryd.underlying9 (by kernel_rfl) (by kernel_rfl) Ver.effT (by kernel_rfl) j (by rw [hl]; exact hj)
  have e := Ver.effT_is j hj
  rw [List.getD_eq_getElem?_getD, List.getElem?_eq_getElem (show j < Ver.effT.length from by rw [hl]; exact hj)] at e
  simp only [Option.getD_some] at e
  rw [e] at this
  exact this
end Go.Proofs.YtolldoclnfnceaaDoor
