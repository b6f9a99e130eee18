/-
  An argument that is a slice of a log's steps (two integers, texts, a text), as a walk meets it.
-/
import Derived.Test.YtjmpagbjkehebaaGoAll
set_option linter.unusedVariables false
set_option maxRecDepth 100000
namespace Go.Proofs.Ytjmpagbjkehebaa
open Go.ChangeShapes Go.WideShapes Go.Deep Go.RowKit

structure WStp where
  d : Int
  n : Int
  la : Option Addr
  lc : Nat
  l : List ByteArray
  k : ByteArray
instance : Inhabited WStp := ⟨⟨0, 0, none, 0, [], .empty⟩⟩
structure WStp.Ok (x : WStp) : Prop where
  d : I64 x.d
  n : I64 x.n
  ll : x.l.length ≤ 8796093022208
  ls : ∀ y ∈ x.l, y.size ≤ 140737488351232
  k : x.k.size ≤ 140737488351232
structure WStpAt (w : World) (b off : Nat) (x : WStp) : Prop where
  d : w.cell? ⟨b, off, none⟩ = some (.int .i64 x.d)
  n : w.cell? ⟨b, off + 1, none⟩ = some (.int .i64 x.n)
  l : w.cell? ⟨b, off + 2, none⟩ = some (.slice x.la x.l.length x.lc)
  k : w.cell? ⟨b, off + 3, none⟩ = some (.string x.k)
  s : Strs x.la x.l.length x.l w
  z : x.la = none → x.lc = 0
/-- the slice's elements are the steps l -/
def WStps (a : Option Addr) (len : Nat) (l : List WStp) (w : World) : Prop := l.length = len ∧ ∀ j, j < len → ∃ b off, a = some ⟨b, off, none⟩ ∧ WStpAt w b (off + j * 4) (l.getD j default)
theorem WStpAt.keep {w w' : World} {b off : Nat} {x : WStp} (h : WStpAt w b off x) (hb : Below w.heap.size w w') : WStpAt w' b off x := by
  have e := hb.block b (cell_lt h.d)
  exact ⟨by rw [World.cell?_of_block e]; exact h.d, by rw [World.cell?_of_block e]; exact h.n, by rw [World.cell?_of_block e]; exact h.l, by rw [World.cell?_of_block e]; exact h.k, h.s.keep hb, h.z⟩
theorem WStps.keep {a : Option Addr} {len : Nat} {l : List WStp} {w w' : World} (h : WStps a len l w) (hb : Below w.heap.size w w') : WStps a len l w' := by
  refine ⟨h.1, fun j hj => ?_⟩
  obtain ⟨b, off, rfl, hc⟩ := h.2 j hj
  exact ⟨b, off, rfl, hc.keep hb⟩
theorem WStps.nil (a : Option Addr) (w : World) : WStps a 0 [] w := ⟨rfl, fun j hj => by omega⟩

theorem open_wsteps {H : Type} {enc : TypeId × Value → H} {P : Program} {w : World} {base : Nat} {spare : Nat → Bool} {held : Bool} {t e ti tl ts : TypeId} {f0 f1 f2 f3 : Field} {a0 : Option Addr} {len cap fuel : Nat} {x : DataW H × List MemPlace} (ht : P.underlying t = some (.slice e)) (he : P.underlying e = some (.struct #[f0, f1, f2, f3]))
    (h0 : f0.type = ti) (h1 : f1.type = ti) (h2 : f2.type = tl) (h3 : f3.type = ts) (hti : P.underlying ti = some (.int .i64)) (htl : P.underlying tl = some (.slice ts)) (hts : P.underlying ts = some .string) (hc1 : P.cellsOf ts = 1) (hb1 : P.bytesOf ts = 16)
    (hone : oneCellFields P #[f0, f1, f2, f3] = true) (hC : P.cellsOf e = 4) (hb16 : P.bytesOf e = 56)
    (hf : DataW.trod enc P w base spare held fuel t (Value.slice a0 len cap).cells.toList = some x) (hsz : ∀ n ∈ DataW.weights P t x.1, n ≤ reachBytes) :
    ∃ l : List WStp, WStps a0 len l w ∧ (∀ y ∈ l, y.Ok) ∧ len ≤ 2513169434843 ∧ (a0 = none → len = 0 ∧ cap = 0) := by
  rcases open_slice_fields ht he hone hC hf with ⟨hcs, _⟩ | ⟨a, len', cap', m, D, Pl, hcs, _, hl, hm, hz, hx, hcell⟩
  · simp [Value.cells] at hcs
    obtain ⟨rfl, rfl, rfl⟩ := hcs
    exact ⟨[], WStps.nil _ _, by simp, by omega, fun _ => ⟨rfl, rfl⟩⟩
  · simp [Value.cells] at hcs
    obtain ⟨rfl, rfl, rfl⟩ := hcs
    subst hx
    have hsl : len ≤ m := by rw [hz]; split <;> omega
    have step : ∀ i, i < len → ∃ y : WStp, y.Ok ∧ ∃ b off, some a = some ⟨b, off, none⟩ ∧ WStpAt w b (off + i * 4) y := by
      intro i hi
      obtain ⟨ys, n, hD, _, hyl, hfl⟩ := hcell i (by omega)
      obtain ⟨v0, y0, c0, q0, t0⟩ := hfl 0 f0 rfl
      obtain ⟨v1, y1, c1, q1, t1⟩ := hfl 1 f1 rfl
      obtain ⟨v2, y2, c2, q2, t2⟩ := hfl 2 f2 rfl
      obtain ⟨v3, y3, c3, q3, t3⟩ := hfl 3 f3 rfl
      rw [h0] at t0; rw [h1] at t1; rw [h2] at t2; rw [h3] at t3
      obtain ⟨n0, e0, _, w0⟩ := DataW.trod_int hti t0
      obtain ⟨n1, e1, _, w1⟩ := DataW.trod_int hti t1
      obtain ⟨s3, e3, x3, _⟩ := DataW.trod_string hts t3
      obtain rfl : v0 = .int .i64 n0 := by simpa using e0
      obtain rfl : v1 = .int .i64 n1 := by simpa using e1
      obtain rfl : v3 = .string s3 := by simpa using e3
      obtain ⟨z0, z1, z2, z3, rfl⟩ : ∃ z0 z1 z2 z3, ys = [z0, z1, z2, z3] := by
        match ys, hyl with
        | [z0, z1, z2, z3], _ => exact ⟨z0, z1, z2, z3, rfl⟩
      obtain rfl : z3 = y3 := by simpa using q3
      obtain rfl : z2 = y2 := by simpa using q2
      have big : ∀ k, k ∈ DataW.weights P e (D i) → k ≤ reachBytes := fun k hk => hsz k (by
        simp only [DataW.weights, ht]
        refine List.mem_cons_of_mem _ (List.mem_append_left _ ?_)
        exact mem_weightsAll P e (D i) _ hk _ (List.mem_map.2 ⟨i, List.mem_range.2 hi, rfl⟩))
      have hwl : ∀ k ∈ DataW.weights P tl z2.1, k ≤ reachBytes := fun k hk => big k (by
        rw [hD]
        simp only [DataW.weights, he]
        simp only [List.map_cons, List.map_nil, DataW.weightsEach]
        refine List.mem_append_right _ (List.mem_append_right _ (List.mem_append_left _ ?_))
        rw [h2]; exact hk)
      have hs3 : s3.size ≤ 140737488351232 := by
        have := big s3.data.toList.length (by
          rw [hD]
          simp only [DataW.weights, he]
          subst x3
          simp only [List.map_cons, List.map_nil, DataW.weightsEach]
          refine List.mem_append_right _ (List.mem_append_right _ (List.mem_append_right _ (List.mem_append_left _ ?_)))
          simp [DataW.weights])
        rw [ba_len] at this
        exact this
      have hv2 : ∃ la ln lc, v2 = .slice la ln lc := by
        rcases open_slice htl t2 with ⟨hv, _⟩ | ⟨aa, ln, lc, _, _, _, _, hv, _⟩
        · exact ⟨none, 0, 0, by simpa using hv⟩
        · exact ⟨some aa, ln, lc, by simpa using hv⟩
      obtain ⟨la, ln, lc, rfl⟩ := hv2
      obtain ⟨sl, hst, hsz2, hll, hzz⟩ := open_texts (a0 := la) (len := ln) (cap := lc) htl hts hc1 hb1 t2 hwl
      obtain ⟨b, off, spot⟩ := a
      obtain ⟨_, _, _, _, _, hfl0⟩ := hcell 0 (by omega)
      obtain ⟨v00, _, c00, _, _⟩ := hfl0 0 f0 rfl
      have hspot : spot = none := by simpa [Addr.add] using World.cell?_spot c00
      subst hspot
      have ea : ∀ k, (Addr.add ⟨b, off, none⟩ k) = ⟨b, off + k, none⟩ := fun k => by cases k <;> simp [Addr.add]
      rw [ea] at c0 c1 c2 c3
      have hln := hst.1
      exact ⟨⟨n0, n1, la, lc, sl, s3⟩, ⟨wf_i64 w0, wf_i64 w1, by show sl.length ≤ _; omega, hsz2, hs3⟩, b, off, rfl, ⟨c0, c1, by show _ = some (Value.slice la sl.length lc); rw [hln]; exact c2, c3, by show Strs la sl.length sl w; rw [hln]; exact hst, fun e => (hzz e).2⟩⟩
    obtain ⟨l, hll, hp⟩ := list_of len step
    refine ⟨l, ⟨hll, fun j hj => (hp j hj).2⟩, fun y hy => ?_, ?_, fun c => by cases c⟩
    · obtain ⟨j, hj, rfl⟩ := List.getElem_of_mem hy
      have := (hp j (by omega)).1
      rw [List.getD_eq_getElem?_getD, List.getElem?_eq_getElem hj] at this
      exact this
    · have := hsz ((((List.range len).map D).length + ((List.range (m - len)).map fun j => D (len + j)).length) * P.bytesOf e) (by simp only [DataW.weights, ht]; exact List.mem_cons_self ..)
      rw [hb16] at this
      simp only [List.length_map, List.length_range] at this
      have hr : reachBytes = 140737488351232 := rfl
      omega
end Go.Proofs.Ytjmpagbjkehebaa
