/-
  How files lie in memory: a map of their contents by their names; a slice of changes.
-/
import Derived.Test.YticcipgdjpoimaaGreatFilSmall
import Derived.Test.YticcipgdjpoimaaGreatDskAll
import Derived.Maps.OwnSet
import Derived.StringKeys
set_option linter.unusedVariables false
set_option maxRecDepth 100000
namespace Go.Proofs.YticcipgdjpoimaaGreat
open Go.RowKit Go.Maps

/-- how what a file has reads -/
def fileElem (v : Value) : Option (DataW Unit × List MemPlace) :=
  match v with
  | .agg a => match a.toList with
    | [.string s] => some (.lit (.string s.data.toList), [])
    | _ => none
  | _ => none
theorem fileElem_mk (s : ByteArray) : fileElem (.agg #[.string s]) = some (.lit (.string s.data.toList), []) := rfl
theorem fileElem_inv {v : Value} {z : DataW Unit × List MemPlace} (h : fileElem v = some z) : ∃ s : ByteArray, v = .agg #[.string s] ∧ z = (.lit (.string s.data.toList), []) := by
  unfold fileElem at h
  split at h
  · rename_i a
    split at h
    · rename_i s hs
      refine ⟨s, ?_, (Option.some.inj h).symm⟩
      have : a = #[.string s] := by
        rw [← Array.toArray_toList (xs := a), hs]
      rw [this]
    · cases h
  · cases h
theorem str_law : Keyed Tryz.prog 9 := string_keyed Tryz.underlying9
theorem key_str (s : ByteArray) (h : s.size ≤ maxLen) : keyOf Tryz.prog 9 (.string s) = some (.string s.data.toList) := Go.WideMaps.keyOf_string_mk Tryz.underlying9 h
/-- block b is a map of the files r -/
def ContAt (b n : Nat) (r : Fil.Row) (w : World) : Prop := w.ownsMap Tryz.prog 9 fileElem b n (Fil.D r)
theorem ContAt.new {b n : Nat} {r : Fil.Row} {w w' : World} (h : ContAt b n r w) (hb : Below w.heap.size w w') : ContAt b n r w' := ownsMap_same h (hb.block b h.lt)
theorem ContAt.drew {b n : Nat} {r : Fil.Row} {w : World} (h : ContAt b n r w) : ContAt b n r w.drew := h
theorem ContAt.turns {T : Nat → Prop} {b n : Nat} {r : Fil.Row} {w w' : World} (h : ContAt b n r w) (ht : Turns T w w') (hn : ¬ T b) : ContAt b n r w' := ownsMap_same h (ht.block b h.lt hn)

structure Chb where
  n : ByteArray
  d : ByteArray
  g : Bool
instance : Inhabited Chb := ⟨⟨.empty, .empty, false⟩⟩
def Chb.c (x : Chb) : Fil.Chg := ⟨x.n.data.toList, x.d.data.toList, x.g⟩
def Chb.bad (x : Chb) : Bool := chgB x.n x.d x.g
theorem Chb.bad_may (x : Chb) : x.bad = false ↔ x.c.May := chgB_may _ _ _
structure Chb.Ok (x : Chb) : Prop where
  n : x.n.size ≤ 140737488351232
  d : x.d.size ≤ 140737488351232
structure ChgAt (w : World) (b off : Nat) (x : Chb) : Prop where
  n : w.cell? ⟨b, off, none⟩ = some (.string x.n)
  d : w.cell? ⟨b, off + 1, none⟩ = some (.string x.d)
  g : w.cell? ⟨b, off + 2, none⟩ = some (.bool x.g)
/-- the slice's elements are the changes l -/
def Chgs (a : Option Addr) (len : Nat) (l : List Chb) (w : World) : Prop := l.length = len ∧ ∀ j, j < len → ∃ b off, a = some ⟨b, off, none⟩ ∧ ChgAt w b (off + j * 3) (l.getD j default)
theorem ChgAt.same {w w' : World} {b off : Nat} {x : Chb} (h : ChgAt w b off x) (e : w'.heap[b]? = w.heap[b]?) : ChgAt w' b off x :=
  ⟨by rw [World.cell?_of_block e]; exact h.n, by rw [World.cell?_of_block e]; exact h.d, by rw [World.cell?_of_block e]; exact h.g⟩
theorem Chgs.keep {a : Option Addr} {len : Nat} {l : List Chb} {w w' : World} (h : Chgs a len l w) (hb : Below w.heap.size w w') : Chgs a len l w' := by
  refine ⟨h.1, fun j hj => ?_⟩
  obtain ⟨b, off, rfl, hc⟩ := h.2 j hj
  exact ⟨b, off, rfl, hc.same (hb.block b (cell_lt hc.n))⟩
theorem Chgs.turns {T : Nat → Prop} {a : Option Addr} {len : Nat} {l : List Chb} {w w' : World} (h : Chgs a len l w) (ht : Turns T w w') (hn : ∀ b off, 0 < len → a = some ⟨b, off, none⟩ → ¬ T b) : Chgs a len l w' := by
  refine ⟨h.1, fun j hj => ?_⟩
  obtain ⟨b, off, rfl, hc⟩ := h.2 j hj
  exact ⟨b, off, rfl, hc.same (ht.block b (cell_lt hc.n) (hn b off (by omega) rfl))⟩
theorem Chgs.nil (a : Option Addr) (w : World) : Chgs a 0 [] w := ⟨rfl, fun j hj => by omega⟩
theorem cell_map {w : World} {b o : Nat} {v : Value} {es : Array MapEntry} {c : Nat} (hc : w.cell? ⟨b, o, none⟩ = some v) (hm : w.heap[b]? = some (.map es c)) : False := by
  simp [World.cell?, hm] at hc
theorem Chgs.off {a : Option Addr} {len bm n : Nat} {l : List Chb} {r : Fil.Row} {w : World} (h : Chgs a len l w) (hm : ContAt bm n r w) : ∀ b off, 0 < len → a = some ⟨b, off, none⟩ → b ≠ bm := by
  rintro b off hl rfl rfl
  obtain ⟨b', off', h1, hc⟩ := h.2 0 hl
  obtain ⟨es, c, hb⟩ := ownsMap_obj hm
  simp only [Option.some.injEq, Addr.mk.injEq] at h1
  obtain ⟨rfl, _⟩ := h1
  exact cell_map hc.n hb
/-- the changes as mathematics has them -/
def chs (l : List Chb) : List Fil.Chg := l.map Chb.c
theorem chs_take (l : List Chb) (k : Nat) (h : k < l.length) : chs (l.take (k + 1)) = chs (l.take k) ++ [(l.getD k default).c] := by
  unfold chs
  rw [List.take_add_one, List.getElem?_eq_getElem h, List.map_append]
  simp [List.getD_eq_getElem?_getD, h]
end Go.Proofs.YticcipgdjpoimaaGreat
