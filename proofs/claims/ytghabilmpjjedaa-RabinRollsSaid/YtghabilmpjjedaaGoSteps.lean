/-
  An argument that is a slice of steps (structs of three integers, a text, a bool), as a walk meets it.
-/
import Derived.Test.YtghabilmpjjedaaGoAll
import Derived.Deep.Slices
import Derived.Deep.Fields
import Derived.ChangeSame
set_option linter.unusedVariables false
namespace Go.Proofs.Ytghabilmpjjedaa
open Go.ChangeShapes Go.WideShapes Go.Deep Go.RowKit

section
variable {H : Type} {enc : TypeId × Value → H} {P : Program} {w : World} {base : Nat} {spare : Nat → Bool} {held : Bool}
theorem open_slice_fields {t e : TypeId} {fs : Array Field} {fuel : Nat} {cs : List Value} {x : DataW H × List MemPlace} (ht : P.underlying t = some (.slice e)) (he : P.underlying e = some (.struct fs))
    (hone : oneCellFields P fs = true) (hC : P.cellsOf e = fs.size) (h : DataW.trod enc P w base spare held fuel t cs = some x) :
    (cs = [.slice none 0 0] ∧ x = (.nil, [])) ∨
    ∃ (a : Addr) (len cap m : Nat) (D : Nat → DataW H) (Pl : Nat → List MemPlace), cs = [.slice (some a) len cap] ∧ base ≤ a.block ∧ len ≤ cap ∧ cap ≤ maxLen ∧ m = (if spare a.block then cap else len) ∧
      x = (.slice ((List.range len).map D) ((List.range (m - len)).map fun j => D (len + j)), MemPlace.row a (m * fs.size) ++ (List.range m).flatMap Pl) ∧
      ∀ i, i < m → ∃ (ys : List (DataW H × List MemPlace)) (n : Nat), D i = .agg (ys.map (·.1)) ∧ Pl i = ys.flatMap (·.2) ∧ ys.length = fs.size ∧
        ∀ (j : Nat) (f : Field), fs[j]? = some f → ∃ (v : Value) (y : DataW H × List MemPlace), w.cell? (a.add (i * fs.size + j)) = some v ∧ ys[j]? = some y ∧ DataW.trod enc P w base spare held n f.type [v] = some y := by
  rcases open_slice ht h with h0 | ⟨a, len, cap, m, n, D, Pl, hcs, hb, hl, hm, hmm, hx, hi⟩
  · exact .inl h0
  · refine .inr ⟨a, len, cap, m, D, Pl, hcs, hb, hl, hm, hmm, by rw [hC] at hx; exact hx, fun i him => ?_⟩
    obtain ⟨cs', hc, ht'⟩ := hi i him
    rw [hC] at hc
    obtain ⟨ys, n', hn', hy, hlen, hyl, hf⟩ := DataW.trod_struct he ht'
    obtain ⟨_, hcl, hat⟩ := World.cells?_some hc
    simp only [Prod.mk.injEq] at hy
    refine ⟨ys, n', hy.1, hy.2, hyl, fun j f hj => ?_⟩
    obtain ⟨ho, hk⟩ := hone_of hone j f hj
    have hjl : j < fs.size := (Array.getElem?_eq_some_iff.1 hj).1
    have hcell := hat j hjl
    have hv : cs'[j]? = some (cs'[j]'(by omega)) := List.getElem?_eq_getElem (by omega)
    have h1 := hf j f hj
    rw [ho, hk] at h1
    have hone' : (cs'.drop j).take 1 = [cs'[j]'(by omega)] := by
      rw [List.drop_eq_getElem_cons (by omega)]
      rfl
    rw [hone'] at h1
    have hys : ys[j]? = some (ys[j]'(by omega)) := List.getElem?_eq_getElem (by omega)
    refine ⟨_, _, ?_, hys, h1.trans hys⟩
    rw [← Go.Deep.add_add, hcell, hv]
end

structure Stp where
  d : Int
  at_ : Int
  n : Int
  s : ByteArray
  raw : Bool
instance : Inhabited Stp := ⟨⟨0, 0, 0, .empty, false⟩⟩
def I64 (x : Int) : Prop := -9223372036854775808 ≤ x ∧ x ≤ 9223372036854775807
structure Stp.Ok (x : Stp) : Prop where
  d : I64 x.d
  at_ : I64 x.at_
  n : I64 x.n
  s : x.s.size ≤ 140737488351232
structure StpAt (w : World) (b off : Nat) (x : Stp) : Prop where
  d : w.cell? ⟨b, off, none⟩ = some (.int .i64 x.d)
  at_ : w.cell? ⟨b, off + 1, none⟩ = some (.int .i64 x.at_)
  n : w.cell? ⟨b, off + 2, none⟩ = some (.int .i64 x.n)
  s : w.cell? ⟨b, off + 3, none⟩ = some (.string x.s)
  raw : w.cell? ⟨b, off + 4, none⟩ = some (.bool x.raw)
/-- the slice's elements are the steps l -/
def Stps (a : Option Addr) (len : Nat) (l : List Stp) (w : World) : Prop := l.length = len ∧ ∀ j, j < len → ∃ b off, a = some ⟨b, off, none⟩ ∧ StpAt w b (off + j * 5) (l.getD j default)
theorem StpAt.same {w w' : World} {b off : Nat} {x : Stp} (h : StpAt w b off x) (e : w'.heap[b]? = w.heap[b]?) : StpAt w' b off x :=
  ⟨by rw [World.cell?_of_block e]; exact h.d, by rw [World.cell?_of_block e]; exact h.at_, by rw [World.cell?_of_block e]; exact h.n, by rw [World.cell?_of_block e]; exact h.s, by rw [World.cell?_of_block e]; exact h.raw⟩
theorem Stps.keep {a : Option Addr} {len : Nat} {l : List Stp} {w w' : World} (h : Stps a len l w) (hb : Below w.heap.size w w') : Stps a len l w' := by
  refine ⟨h.1, fun j hj => ?_⟩
  obtain ⟨b, off, rfl, hc⟩ := h.2 j hj
  exact ⟨b, off, rfl, hc.same (hb.block b (cell_lt hc.d))⟩
theorem Stps.nil (a : Option Addr) (w : World) : Stps a 0 [] w := ⟨rfl, fun j hj => by omega⟩

theorem list_of {α : Type} [Inhabited α] {p : Nat → α → Prop} : ∀ n : Nat, (∀ i, i < n → ∃ x, p i x) → ∃ l : List α, l.length = n ∧ ∀ j, j < n → p j (l.getD j default)
  | 0, _ => ⟨[], rfl, fun j hj => by omega⟩
  | n + 1, h => by
    obtain ⟨l, hl, hp⟩ := list_of n (fun i hi => h i (by omega))
    obtain ⟨x, hx⟩ := h n (by omega)
    refine ⟨l ++ [x], by simp [hl], fun j hj => ?_⟩
    by_cases e : j < n
    · rw [List.getD_eq_getElem?_getD, List.getElem?_append_left (by omega), ← List.getD_eq_getElem?_getD]; exact hp j e
    · obtain rfl : j = n := by omega
      rw [List.getD_eq_getElem?_getD, List.getElem?_append_right (by omega), hl, Nat.sub_self]
      exact hx

theorem wf_i64 {n : Int} (h : (Lit.int .i64 n).wf = true) : I64 n := by
  simp [Lit.wf] at h
  have h1 : (-9223372036854775808 : Int) ≤ n := h.1
  exact ⟨h1, h.2⟩

theorem mem_weightsAll {H : Type} (P : Program) (e : TypeId) (d : DataW H) (k : Nat) (hk : k ∈ DataW.weights P e d) : ∀ l : List (DataW H), d ∈ l → k ∈ DataW.weightsAll P e l
  | [], h => by simp at h
  | x :: r, h => by
    unfold DataW.weightsAll
    rcases List.mem_cons.1 h with rfl | h
    · exact List.mem_append_left _ hk
    · exact List.mem_append_right _ (mem_weightsAll P e d k hk r h)

/-- an argument that is a slice of steps, opened -/
theorem open_steps {H : Type} {enc : TypeId × Value → H} {P : Program} {w : World} {base : Nat} {spare : Nat → Bool} {held : Bool} {t e ti ts tb : TypeId} {f0 f1 f2 f3 f4 : Field} {a0 : Option Addr} {len cap fuel : Nat} {x : DataW H × List MemPlace} (ht : P.underlying t = some (.slice e)) (he : P.underlying e = some (.struct #[f0, f1, f2, f3, f4]))
    (h0 : f0.type = ti) (h1 : f1.type = ti) (h2 : f2.type = ti) (h3 : f3.type = ts) (h4 : f4.type = tb) (hti : P.underlying ti = some (.int .i64)) (hts : P.underlying ts = some .string) (htb : P.underlying tb = some .bool)
    (hone : oneCellFields P #[f0, f1, f2, f3, f4] = true) (hC : P.cellsOf e = 5) (hb16 : P.bytesOf e = 48)
    (hf : DataW.trod enc P w base spare held fuel t (Value.slice a0 len cap).cells.toList = some x) (hsz : ∀ n ∈ DataW.weights P t x.1, n ≤ reachBytes) :
    ∃ l : List Stp, Stps a0 len l w ∧ (∀ y ∈ l, y.Ok) ∧ len ≤ 2932031007402 ∧ (a0 = none → len = 0 ∧ cap = 0) := by
  rcases open_slice_fields ht he hone hC hf with ⟨hcs, _⟩ | ⟨a, len', cap', m, D, Pl, hcs, _, hl, hm, hz, hx, hcell⟩
  · simp [Value.cells] at hcs
    obtain ⟨rfl, rfl, rfl⟩ := hcs
    exact ⟨[], Stps.nil _ _, by simp, by omega, fun _ => ⟨rfl, rfl⟩⟩
  · simp [Value.cells] at hcs
    obtain ⟨rfl, rfl, rfl⟩ := hcs
    subst hx
    have hsl : len ≤ m := by rw [hz]; split <;> omega
    have step : ∀ i, i < len → ∃ y : Stp, y.Ok ∧ ∃ b off, some a = some ⟨b, off, none⟩ ∧ StpAt w b (off + i * 5) y := by
      intro i hi
      obtain ⟨ys, n, hD, _, hyl, hfl⟩ := hcell i (by omega)
      obtain ⟨v0, y0, c0, q0, t0⟩ := hfl 0 f0 rfl
      obtain ⟨v1, y1, c1, q1, t1⟩ := hfl 1 f1 rfl
      obtain ⟨v2, y2, c2, q2, t2⟩ := hfl 2 f2 rfl
      obtain ⟨v3, y3, c3, q3, t3⟩ := hfl 3 f3 rfl
      obtain ⟨v4, y4, c4, q4, t4⟩ := hfl 4 f4 rfl
      rw [h0] at t0; rw [h1] at t1; rw [h2] at t2; rw [h3] at t3; rw [h4] at t4
      obtain ⟨n0, e0, _, w0⟩ := DataW.trod_int hti t0
      obtain ⟨n1, e1, _, w1⟩ := DataW.trod_int hti t1
      obtain ⟨n2, e2, _, w2⟩ := DataW.trod_int hti t2
      obtain ⟨s3, e3, x3, _⟩ := DataW.trod_string hts t3
      obtain ⟨b4, e4, _⟩ := DataW.trod_bool htb t4
      obtain rfl : v0 = .int .i64 n0 := by simpa using e0
      obtain rfl : v1 = .int .i64 n1 := by simpa using e1
      obtain rfl : v2 = .int .i64 n2 := by simpa using e2
      obtain rfl : v3 = .string s3 := by simpa using e3
      obtain rfl : v4 = .bool b4 := by simpa using e4
      have hs3 : s3.size ≤ 140737488351232 := by
        have hw : s3.data.toList.length ∈ DataW.weights P e (D i) := by
          rw [hD]
          simp only [DataW.weights, he]
          obtain ⟨z0, z1, z2, z3, z4, rfl⟩ : ∃ z0 z1 z2 z3 z4, ys = [z0, z1, z2, z3, z4] := by
            match ys, hyl with
            | [z0, z1, z2, z3, z4], _ => exact ⟨z0, z1, z2, z3, z4, rfl⟩
          obtain rfl : z3 = y3 := by simpa using q3
          subst x3
          simp only [List.map_cons, List.map_nil, DataW.weightsEach]
          refine List.mem_append_right _ (List.mem_append_right _ (List.mem_append_right _ (List.mem_append_left _ ?_)))
          simp [DataW.weights]
        have := hsz s3.data.toList.length (by
          simp only [DataW.weights, ht]
          refine List.mem_cons_of_mem _ (List.mem_append_left _ ?_)
          exact mem_weightsAll P e (D i) _ hw _ (List.mem_map.2 ⟨i, List.mem_range.2 hi, rfl⟩))
        rw [ba_len] at this
        exact this
      obtain ⟨b, off, spot⟩ := a
      obtain ⟨_, _, _, _, _, hfl0⟩ := hcell 0 (by omega)
      obtain ⟨v00, _, c00, _, _⟩ := hfl0 0 f0 rfl
      have hspot : spot = none := by simpa [Addr.add] using World.cell?_spot c00
      subst hspot
      have ea : ∀ k, (Addr.add ⟨b, off, none⟩ k) = ⟨b, off + k, none⟩ := fun k => by cases k <;> simp [Addr.add]
      rw [ea] at c0 c1 c2 c3 c4
      exact ⟨⟨n0, n1, n2, s3, b4⟩, ⟨wf_i64 w0, wf_i64 w1, wf_i64 w2, hs3⟩, b, off, rfl, ⟨c0, c1, c2, c3, c4⟩⟩
    obtain ⟨l, hll, hp⟩ := list_of len step
    refine ⟨l, ⟨hll, fun j hj => (hp j hj).2⟩, fun y hy => ?_, ?_, fun c => by cases c⟩
    · obtain ⟨j, hj, rfl⟩ := List.getElem_of_mem hy
      have := (hp j (by omega)).1
      rw [List.getD_eq_getElem?_getD, List.getElem?_eq_getElem hj] at this
      exact this
    · have := hsz ((((List.range len).map D).length + ((List.range (m - len)).map fun j => D (len + j)).length) * P.bytesOf e) (by simp only [DataW.weights, ht]; exact List.mem_cons_self ..)
      rw [hb16] at this
      simp only [List.length_map, List.length_range] at this
      have hr : reachBytes = 140737488351232 := rfl
      omega
end Go.Proofs.Ytghabilmpjjedaa
