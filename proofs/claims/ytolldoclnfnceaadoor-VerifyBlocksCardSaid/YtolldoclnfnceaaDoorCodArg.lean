/-
  Arguments that are a program (a row of texts, a row of instructions, by value) or an instruction (two bytes, by value).
-/
import Derived.Test.YtolldoclnfnceaaDoorCodMem
import Derived.Test.YtolldoclnfnceaaDoorGoAll
import Derived.Deep.Slices
import Derived.Deep.Fields
import Derived.ChangeSame
import Derived.SizedLaws
set_option linter.unusedVariables false
namespace Go.Proofs.YtolldoclnfnceaaDoor
open Go.ChangeShapes Go.WideShapes Go.Deep Go.RowKit

theorem array2 {α : Type} {cs : Array α} (h : cs.size = 2) : ∃ c0 c1, cs = #[c0, c1] := by
  obtain ⟨l⟩ := cs
  match l, h with
  | [c0, c1], _ => exact ⟨c0, c1, rfl⟩
theorem byte_of {n : Int} (h : (Lit.int .u8 n).wf = true) : ∃ b : UInt8, n = (b.toNat : Int) := by
  simp [Lit.wf] at h
  have h1 : (0 : Int) ≤ n := h.1
  have h2 : n ≤ 255 := h.2
  exact ⟨UInt8.ofNat n.toNat, by
    rw [UInt8.toNat_ofNat']
    omega⟩
theorem ins_list {p : Nat → Cod.In → Prop} : ∀ n : Nat, (∀ i, i < n → ∃ x, p i x) → ∃ l : List Cod.In, l.length = n ∧ ∀ j, j < n → p j (l.getD j (0, 0))
  | 0, _ => ⟨[], rfl, fun j hj => by omega⟩
  | n + 1, h => by
    obtain ⟨l, hl, hp⟩ := ins_list n (fun i hi => h i (by omega))
    obtain ⟨x, hx⟩ := h n (by omega)
    refine ⟨l ++ [x], by simp [hl], fun j hj => ?_⟩
    by_cases e : j < n
    · rw [List.getD_eq_getElem?_getD, List.getElem?_append_left (by omega), ← List.getD_eq_getElem?_getD]; exact hp j e
    · obtain rfl : j = n := by omega
      rw [List.getD_eq_getElem?_getD, List.getElem?_append_right (by omega), hl, Nat.sub_self]
      exact hx
section
variable {H : Type} {enc : TypeId × Value → H} {P : Program} {w : World} {base : Nat} {spare : Nat → Bool} {held : Bool}
/-- a row of instructions -/
theorem open_instrs {t e ta : TypeId} {f0 f1 : Field} {a0 : Option Addr} {len cap fuel : Nat} {x : DataW H × List MemPlace} (ht : P.underlying t = some (.slice e)) (he : P.underlying e = some (.struct #[f0, f1]))
    (h0 : f0.type = ta) (h1 : f1.type = ta) (hta : P.underlying ta = some (.int .u8)) (hone : oneCellFields P #[f0, f1] = true) (hC : P.cellsOf e = 2) (hb : P.bytesOf e = 2)
    (hf : DataW.trod enc P w base spare held fuel t (Value.slice a0 len cap).cells.toList = some x) (hsz : ∀ n ∈ DataW.weights P t x.1, n ≤ reachBytes) :
    ∃ l : List Cod.In, InsAt a0 len l w ∧ len ≤ 70368744177664 ∧ (a0 = none → len = 0 ∧ cap = 0) := by
  rcases open_slice ht hf with ⟨hcs, _⟩ | ⟨a, len', cap', m, n, D, Pl, hcs, _, hl, hm, hz, hx, hi⟩
  · simp [Value.cells] at hcs
    obtain ⟨rfl, rfl, rfl⟩ := hcs
    exact ⟨[], InsAt.nil _ _, by omega, fun _ => ⟨rfl, rfl⟩⟩
  · simp [Value.cells] at hcs
    obtain ⟨rfl, rfl, rfl⟩ := hcs
    have hsl : len ≤ m := by rw [hz]; split <;> omega
    have two : ∀ i, i < len → ∃ y : Cod.In, w.cell? (a.add (i * 2 + 0)) = some (.int .u8 (y.1.toNat : Int)) ∧ w.cell? (a.add (i * 2 + 1)) = some (.int .u8 (y.2.toNat : Int)) := by
      intro i him
      obtain ⟨cs', hc, ht'⟩ := hi i (by omega)
      rw [hC] at hc
      obtain ⟨ys, n', hn', hy, hlen, hyl, hfl⟩ := DataW.trod_struct he ht'
      obtain ⟨_, hcl, hat⟩ := World.cells?_some hc
      have look : ∀ (j : Nat) (f : Field), #[f0, f1][j]? = some f → ∃ v y, w.cell? (a.add (i * 2 + j)) = some v ∧ DataW.trod enc P w base spare held n' f.type [v] = some y := by
        intro j f hj
        obtain ⟨ho, hk⟩ := hone_of hone j f hj
        have hjl : j < 2 := (Array.getElem?_eq_some_iff.1 hj).1
        have hcell := hat j hjl
        have hv : cs'[j]? = some (cs'[j]'(by omega)) := List.getElem?_eq_getElem (by omega)
        have h1 := hfl j f hj
        rw [ho, hk] at h1
        have hone' : (cs'.drop j).take 1 = [cs'[j]'(by omega)] := by
          rw [List.drop_eq_getElem_cons (by omega)]
          rfl
        rw [hone'] at h1
        have hys : ys[j]? = some (ys[j]'(by rw [hyl]; exact hjl)) := List.getElem?_eq_getElem (by rw [hyl]; exact hjl)
        exact ⟨_, _, by rw [← Go.Deep.add_add, hcell, hv], h1.trans hys⟩
      obtain ⟨v0, y0, c0, t0⟩ := look 0 f0 rfl
      obtain ⟨v1, y1, c1, t1⟩ := look 1 f1 rfl
      rw [h0] at t0; rw [h1] at t1
      obtain ⟨n0, e0, _, w0⟩ := DataW.trod_int hta t0
      obtain ⟨n1, e1, _, w1⟩ := DataW.trod_int hta t1
      obtain rfl : v0 = .int .u8 n0 := by simpa using e0
      obtain rfl : v1 = .int .u8 n1 := by simpa using e1
      obtain ⟨b0, rfl⟩ := byte_of w0
      obtain ⟨b1, rfl⟩ := byte_of w1
      exact ⟨(b0, b1), c0, c1⟩
    have step : ∀ i, i < len → ∃ y : Cod.In, ∃ b off, some a = some ⟨b, off, none⟩ ∧ w.cell? ⟨b, off + i * 2, none⟩ = some (.int .u8 (y.1.toNat : Int)) ∧ w.cell? ⟨b, off + i * 2 + 1, none⟩ = some (.int .u8 (y.2.toNat : Int)) := by
      intro i him
      obtain ⟨_, cz, _⟩ := two 0 (by omega)
      obtain ⟨y, c0, c1⟩ := two i him
      obtain ⟨B, off, spot⟩ := a
      have hspot : spot = none := by simpa [Addr.add] using World.cell?_spot cz
      subst hspot
      have ea : ∀ j, (Addr.add ⟨B, off, none⟩ j) = ⟨B, off + j, none⟩ := fun j => by cases j <;> simp [Addr.add]
      rw [ea] at c0 c1
      exact ⟨y, B, off, rfl, by rw [← c0]; rfl, by rw [← c1, Nat.add_assoc]⟩
    obtain ⟨l, hl1, hl2⟩ := ins_list len step
    refine ⟨l, ⟨hl1, hl2⟩, ?_, fun c => by cases c⟩
    have hx' : x = (DataW.slice ((List.range len).map D) ((List.range (m - len)).map fun j => D (len + j)), x.2) := by
      rw [hx]
    rw [hx'] at hsz
    have := hsz ((((List.range len).map D).length + ((List.range (m - len)).map fun j => D (len + j)).length) * P.bytesOf e) (by simp only [DataW.weights, ht]; exact List.mem_cons_self ..)
    rw [hb] at this
    simp only [List.length_map, List.length_range] at this
    have : reachBytes = 140737488351232 := rfl
    omega
theorem mem_agg2 {t t0 t1 : TypeId} {f0 f1 : Field} {d0 d1 : DataW H} (hs : P.underlying t = some (.struct #[f0, f1])) (h0 : f0.type = t0) (h1 : f1.type = t1) (k : Nat) (hk : k ∈ DataW.weights P t0 d0 ∨ k ∈ DataW.weights P t1 d1) : k ∈ DataW.weights P t (.agg [d0, d1]) := by
  simp only [DataW.weights, hs, List.map_cons, List.map_nil, DataW.weightsEach, h0, h1]
  rcases hk with h | h
  · exact List.mem_append_left _ h
  · exact List.mem_append_right _ (List.mem_append_left _ h)
/-- an argument that is a program -/
theorem open_prog {r : Reach} {b0 : Nat} {t tl ts tc te ta : TypeId} {f0 f1 g0 g1 : Field} {v : Value} {d : DataW H} {p : List MemPlace} (hs : P.underlying t = some (.struct #[f0, f1]))
    (h0 : f0.type = tl) (h1 : f1.type = tc) (htl : P.underlying tl = some (.slice ts)) (hts : P.underlying ts = some .string) (hcs : P.cellsOf ts = 1) (hbs : P.bytesOf ts = 16)
    (htc : P.underlying tc = some (.slice te)) (hte : P.underlying te = some (.struct #[g0, g1])) (k0 : g0.type = ta) (k1 : g1.type = ta) (hta : P.underlying ta = some (.int .u8)) (hone2 : oneCellFields P #[g0, g1] = true) (hC2 : P.cellsOf te = 2) (hb2 : P.bytesOf te = 2)
    (hone : oneCellFields P #[f0, f1] = true) (hC : P.cellsOf t = 2) (hv : Value.okWide P w r b0 t v) (h : DataW.Trod enc P w base spare held t v d p) (hsz : ∀ n ∈ DataW.weights P t d, n ≤ reachBytes) :
    ∃ (x : Pv) (tx : List ByteArray) (cs : List Cod.In), v = x.v ∧ PrAt x tx cs w ∧ (∀ y ∈ tx, y.size ≤ 140737488351232) ∧ x.n ≤ 8796093022208 ∧ x.m ≤ 70368744177664 := by
  obtain ⟨cs, rfl, hsz0⟩ := okWide_struct hs hv
  obtain ⟨c0, c1, rfl⟩ := array2 (hsz0.trans hC)
  obtain ⟨fuel, hf⟩ := h
  obtain ⟨xs, n, _, hx, _, hlen, hfl⟩ := DataW.trod_struct hs hf
  have t0 := hfl 0 f0 rfl
  have t1 := hfl 1 f1 rfl
  obtain ⟨o0, q0⟩ := hone_of hone 0 f0 rfl
  obtain ⟨o1, q1⟩ := hone_of hone 1 f1 rfl
  match xs, hlen with
  | [y0, y1], _ =>
    rw [h0] at t0 q0; rw [h1] at t1 q1
    simp [Value.cells, o0, q0] at t0
    simp [Value.cells, o1, q1] at t1
    have hd : d = .agg [y0.1, y1.1] := (Prod.mk.inj hx).1
    subst hd
    have z0 : ∀ k ∈ DataW.weights P tl y0.1, k ≤ reachBytes := fun k hk => hsz k (mem_agg2 hs h0 h1 k (.inl hk))
    have z1 : ∀ k ∈ DataW.weights P tc y1.1, k ≤ reachBytes := fun k hk => hsz k (mem_agg2 hs h0 h1 k (.inr hk))
    obtain ⟨a, l, c, rfl⟩ : ∃ a l c, c0 = .slice a l c := by
      rcases open_slice htl t0 with ⟨e, _⟩ | ⟨a, len, cap, m, n, D, Pl, e, _⟩
      · exact ⟨_, _, _, by simpa using e⟩
      · exact ⟨_, _, _, by simpa using e⟩
    obtain ⟨b, m, e, rfl⟩ : ∃ a l c, c1 = .slice a l c := by
      rcases open_slice htc t1 with ⟨e, _⟩ | ⟨a, len, cap, m, n, D, Pl, e, _⟩
      · exact ⟨_, _, _, by simpa using e⟩
      · exact ⟨_, _, _, by simpa using e⟩
    obtain ⟨tx, hst, hlz, hll, hnil⟩ := open_texts htl hts hcs hbs (a0 := a) (len := l) (cap := c) t0 z0
    obtain ⟨ci, hci, hcl, hcn⟩ := open_instrs htc hte k0 k1 hta hone2 hC2 hb2 (a0 := b) (len := m) (cap := e) t1 z1
    exact ⟨⟨a, l, c, b, m, e⟩, tx, ci, rfl, ⟨hst, hci, fun h => (hnil h).2, fun h => (hcn h).2⟩, hlz, hll, hcl⟩
/-- an argument that is an instruction -/
theorem open_instr {r : Reach} {b0 : Nat} {t ta : TypeId} {g0 g1 : Field} {v : Value} {d : DataW H} {p : List MemPlace} (hs : P.underlying t = some (.struct #[g0, g1])) (k0 : g0.type = ta) (k1 : g1.type = ta) (hta : P.underlying ta = some (.int .u8))
    (hone : oneCellFields P #[g0, g1] = true) (hC : P.cellsOf t = 2) (hv : Value.okWide P w r b0 t v) (h : DataW.Trod enc P w base spare held t v d p) : ∃ x : Cod.In, v = insV x := by
  obtain ⟨cs, rfl, hsz0⟩ := okWide_struct hs hv
  obtain ⟨c0, c1, rfl⟩ := array2 (hsz0.trans hC)
  obtain ⟨fuel, hf⟩ := h
  obtain ⟨xs, n, _, hx, _, hlen, hfl⟩ := DataW.trod_struct hs hf
  have t0 := hfl 0 g0 rfl
  have t1 := hfl 1 g1 rfl
  obtain ⟨o0, q0⟩ := hone_of hone 0 g0 rfl
  obtain ⟨o1, q1⟩ := hone_of hone 1 g1 rfl
  match xs, hlen with
  | [y0, y1], _ =>
    rw [k0] at t0 q0; rw [k1] at t1 q1
    simp [Value.cells, o0, q0] at t0
    simp [Value.cells, o1, q1] at t1
    obtain ⟨n0, e0, _, w0⟩ := DataW.trod_int hta t0
    obtain ⟨n1, e1, _, w1⟩ := DataW.trod_int hta t1
    obtain rfl : c0 = .int .u8 n0 := by simpa using e0
    obtain rfl : c1 = .int .u8 n1 := by simpa using e1
    obtain ⟨b0, rfl⟩ := byte_of w0
    obtain ⟨b1, rfl⟩ := byte_of w1
    exact ⟨(b0, b1), rfl⟩
end
end Go.Proofs.YtolldoclnfnceaaDoor
