/-
  How DiskKeeps' books lie in memory: a row of slices of texts, of each of which the last text is known.
-/
import Derived.Test.YtjlkppdailkanaaKeepPure
import Derived.Test.YtjlkppdailkanaaGoApp
set_option linter.unusedVariables false
namespace Go.Proofs.Ytjlkppdailkanaa
open Go.RowKit

def strvs (ts : List ByteArray) : List Value := ts.map .string
theorem strvs_length (ts : List ByteArray) : (strvs ts).length = ts.length := by simp [strvs]
theorem strvs_one (ts : List ByteArray) : ∀ u ∈ strvs ts, u.oneCell' = true := by
  intro u hu
  obtain ⟨t, _, rfl⟩ := List.mem_map.1 hu
  rfl
theorem strvs_app (a b : List ByteArray) : strvs (a ++ b) = strvs a ++ strvs b := by simp [strvs]
/-- a slice of texts in R: the last one is s -/
structure Last (R : Nat → Prop) (M : Nat) (v : Value) (s : List UInt8) (g o cap : Nat) (ts : List ByteArray) (w : World) : Prop where
  hv : v = .slice (some ⟨g, o, none⟩) (ts.length + 1) cap
  hc : ts.length + 1 ≤ cap
  hm : cap ≤ maxLen
  hg : R g
  obj : ∃ cur fr, w.heap[g]? = some (.cells cur 9 fr)
  cells : ∀ j u, (strvs (ts ++ [⟨s.toArray⟩]))[j]? = some u → w.cell? ⟨g, o + j, none⟩ = some u
  len : ts.length + 1 ≤ M
def LastAt (R : Nat → Prop) (M : Nat) (v : Value) (s : List UInt8) (w : World) : Prop := ∃ g o cap ts, Last R M v s g o cap ts w
/-- a row of n slices, the first m of which are known -/
structure Rws (R : Nat → Prop) (M b n m : Nat) (f : Nat → Dsk.Sec) (w : World) : Prop where
  hb : R b
  row : ∃ ca : Array Value, w.heap[b]? = some (.cells ca 45 (0, 0)) ∧ ca.size = n ∧ ∀ k, k < m → ∃ v, ca[k]? = some v ∧ LastAt R M v (f k) w
/-- both books -/
structure Book (R : Nat → Prop) (M ba bk n m : Nat) (f g : Nat → Dsk.Sec) (w : World) : Prop where
  lt : ∀ k, R k → k < w.heap.size
  ne : ba ≠ bk
  a : Rws R M ba n m f w
  k : Rws R M bk n m g w

variable {R T : Nat → Prop} {M b n m ba bk : Nat} {f g : Nat → Dsk.Sec} {w w' : World} {v : Value} {s : List UInt8}
theorem LastAt.keep (h : LastAt R M v s w) (hl : ∀ k, R k → w'.heap[k]? = w.heap[k]?) : LastAt R M v s w' := by
  obtain ⟨g, o, cap, ts, h⟩ := h
  exact ⟨g, o, cap, ts, h.hv, h.hc, h.hm, h.hg, by rw [hl g h.hg]; exact h.obj, fun j u hu => by rw [World.cell?_of_block (hl g h.hg)]; exact h.cells j u hu, h.len⟩
theorem LastAt.relax {R' : Nat → Prop} {M' : Nat} (h : LastAt R M v s w) (hR : ∀ k, R k → R' k) (hM : M ≤ M') : LastAt R' M' v s w := by
  obtain ⟨g, o, cap, ts, h⟩ := h
  exact ⟨g, o, cap, ts, h.hv, h.hc, h.hm, hR _ h.hg, h.obj, h.cells, Nat.le_trans h.len hM⟩
/-- a cell of a row of slices is written -/
theorem LastAt.set (h : LastAt R M v s w) {ca : Array Value} {fr : Nat × Nat} (hb : w.heap[b]? = some (.cells ca 45 fr)) (k : Nat) (u : Value) : LastAt R M v s (w.setCell ⟨b, k, none⟩ u) := by
  obtain ⟨g, o, cap, ts, h⟩ := h
  have hne : g ≠ b := fun e => by
    obtain ⟨cur, fr', ho⟩ := h.obj
    rw [e, hb] at ho; cases ho
  have e := heap_setCell_other w ⟨b, k, none⟩ g u hne
  exact ⟨g, o, cap, ts, h.hv, h.hc, h.hm, h.hg, by rw [e]; exact h.obj, fun j z hz => by rw [World.cell?_of_block e]; exact h.cells j z hz, h.len⟩
theorem Rws.keep (h : Rws R M b n m f w) (hl : ∀ k, R k → w'.heap[k]? = w.heap[k]?) : Rws R M b n m f w' := by
  obtain ⟨hb, ca, h1, h2, h3⟩ := h
  exact ⟨hb, ca, by rw [hl b hb]; exact h1, h2, fun k hk => by
    obtain ⟨v, hv, hL⟩ := h3 k hk
    exact ⟨v, hv, hL.keep hl⟩⟩
theorem Rws.relax {R' : Nat → Prop} {M' : Nat} (h : Rws R M b n m f w) (hR : ∀ k, R k → R' k) (hM : M ≤ M') : Rws R' M' b n m f w := by
  obtain ⟨hb, ca, h1, h2, h3⟩ := h
  exact ⟨hR _ hb, ca, h1, h2, fun k hk => by
    obtain ⟨v, hv, hL⟩ := h3 k hk
    exact ⟨v, hv, hL.relax hR hM⟩⟩
theorem Rws.cell (h : Rws R M b n m f w) {k : Nat} (hk : k < m) : ∃ v, w.cell? ⟨b, k, none⟩ = some v ∧ LastAt R M v (f k) w := by
  obtain ⟨hb, ca, h1, h2, h3⟩ := h
  obtain ⟨v, hv, hL⟩ := h3 k hk
  exact ⟨v, by rw [cell_of_row w b k _ _ _ h1]; exact hv, hL⟩
theorem Rws.here (h : Rws R M b n m f w) {k : Nat} (hk : k < n) : ∃ v, w.cell? ⟨b, k, none⟩ = some v := by
  obtain ⟨hb, ca, h1, h2, h3⟩ := h
  exact ⟨ca[k]'(by omega), by rw [cell_of_row w b k _ _ _ h1]; exact Array.getElem?_eq_getElem _⟩
theorem Rws.free (h : Rws R M b n m f w) (k : Nat) : w.frozen? ⟨b, k, none⟩ = false := by
  obtain ⟨hb, ca, h1, _⟩ := h
  exact row_free h1 k
/-- one of them is written -/
theorem Rws.set (h : Rws R M b n m f w) {k : Nat} (hk : k < n) (hv : LastAt R M v s w) {m' : Nat} (hm : ∀ j, j < m' → j < m ∨ j = k) : Rws R M b n m' (Dsk.upd f k s) (w.setCell ⟨b, k, none⟩ v) := by
  obtain ⟨hb, ca, h1, h2, h3⟩ := h
  refine ⟨hb, ca.setIfInBounds k v, heap_setCell_same w b k _ _ v h1, by simpa using h2, fun j hj => ?_⟩
  by_cases e : j = k
  · subst e
    refine ⟨v, by rw [Array.getElem?_setIfInBounds_self_of_lt (by omega)], ?_⟩
    rw [Dsk.upd_same]
    exact hv.set h1 _ _
  · have hjm : j < m := by rcases hm j hj with h | h; exact h; exact absurd h e
    obtain ⟨u, hu, hL⟩ := h3 j hjm
    refine ⟨u, by rw [Array.getElem?_setIfInBounds_ne (fun x => e x.symm)]; exact hu, ?_⟩
    rw [Dsk.upd_other e]
    exact hL.set h1 _ _
/-- a cell of the other row is written -/
theorem Rws.other {b2 n2 m2 : Nat} {f2 : Nat → Dsk.Sec} (h : Rws R M b n m f w) (h2 : Rws R M b2 n2 m2 f2 w) (hne : b ≠ b2) (k : Nat) (u : Value) : Rws R M b n m f (w.setCell ⟨b2, k, none⟩ u) := by
  obtain ⟨hb, ca, h1, hs, h3⟩ := h
  obtain ⟨_, ca2, g1, _⟩ := h2
  exact ⟨hb, ca, by rw [heap_setCell_other w ⟨b2, k, none⟩ b u hne]; exact h1, hs, fun j hj => by
    obtain ⟨v, hv, hL⟩ := h3 j hj
    exact ⟨v, hv, hL.set g1 _ _⟩⟩
theorem Book.keep (h : Book R M ba bk n m f g w) (hl : ∀ k, R k → w'.heap[k]? = w.heap[k]?) (hs : w.heap.size ≤ w'.heap.size) : Book R M ba bk n m f g w' :=
  ⟨fun k hk => Nat.lt_of_lt_of_le (h.lt k hk) hs, h.ne, h.a.keep hl, h.k.keep hl⟩
theorem Book.relax {R' : Nat → Prop} {M' : Nat} (h : Book R M ba bk n m f g w) (hR : ∀ k, R k → R' k) (hl : ∀ k, R' k → k < w.heap.size) (hM : M ≤ M') : Book R' M' ba bk n m f g w :=
  ⟨hl, h.ne, h.a.relax hR hM, h.k.relax hR hM⟩
theorem Book.held (R : Nat → Prop) (M ba bk n m : Nat) (f g : Nat → Dsk.Sec) : Held R (Book R M ba bk n m f g) :=
  ⟨fun h ht hn => h.keep (fun k hk => ht.block k (h.lt k hk) (hn k hk)) ht.size, fun h => h.lt⟩
theorem Book.setA (h : Book R M ba bk n m f g w) {k : Nat} (hk : k < n) (hkm : k < m) (hv : LastAt R M v s w) : Book R M ba bk n m (Dsk.upd f k s) g (w.setCell ⟨ba, k, none⟩ v) :=
  ⟨fun j hj => by have := h.lt j hj; simpa [World.setCell] using this, h.ne, h.a.set hk hv (fun j hj => .inl hj), h.k.other h.a h.ne.symm k v⟩
theorem Book.setK (h : Book R M ba bk n m f g w) {k : Nat} (hk : k < n) (hkm : k < m) (hv : LastAt R M v s w) : Book R M ba bk n m f (Dsk.upd g k s) (w.setCell ⟨bk, k, none⟩ v) :=
  ⟨fun j hj => by have := h.lt j hj; simpa [World.setCell] using this, h.ne, h.a.other h.k h.ne k v, h.k.set hk hv (fun j hj => .inl hj)⟩
/-- a row of the call's own, made by appending, is such a slice -/
theorem LastAt.own {B : Nat} {ts : List ByteArray} (h : w.ownsRow B 9 1 v (ts.length + 1) (strvs ts ++ [secv s])) (hR : ∀ k, B ≤ k → k < w.heap.size → R k) (hM : ts.length + 1 ≤ M) : LastAt R M v s w := by
  have hs := h
  rcases h.2 with ⟨_, h0⟩ | ⟨g, cap, cur, rfl, hb, hg, hc, hm, hcs, ht⟩
  · omega
  · refine ⟨g, 0, cap, ts, rfl, hc, hm, hR g hb (row_lt hg), ⟨cur, _, hg⟩, fun j u hu => ?_, hM⟩
    rw [Nat.zero_add]
    refine ownsRow_cell hs ?_
    rw [strvs_app] at hu
    exact hu
/-- the last one alone -/
theorem Last.tail {o cap g0 : Nat} {ts : List ByteArray} (h : Last R M v s g0 o cap ts w) : LastAt R M (.slice (some ⟨g0, o + ts.length, none⟩) 1 (cap - ts.length)) s w :=
  ⟨g0, o + ts.length, cap - ts.length, [], rfl, by have := h.hc; simp; omega, by have := h.hm; omega, h.hg, h.obj, fun j u hu => by
    match j, hu with
    | 0, hu =>
      refine h.cells ts.length u ?_
      rw [strvs_app, List.getElem?_append_right (by rw [strvs_length]; exact Nat.le_refl _), strvs_length, Nat.sub_self]
      simpa using hu
    | j + 1, hu => simp [strvs] at hu, by have := h.len; simp; omega⟩
theorem Last.lastCell {o cap g0 : Nat} {ts : List ByteArray} (h : Last R M v s g0 o cap ts w) : w.cell? ⟨g0, o + ts.length, none⟩ = some (secv s) :=
  h.cells ts.length _ (by rw [strvs_app, List.getElem?_append_right (by rw [strvs_length]; exact Nat.le_refl _), strvs_length, Nat.sub_self]; rfl)
end Go.Proofs.Ytjlkppdailkanaa
