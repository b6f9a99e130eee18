/-
  Slices of texts as a walk meets them: which texts they hold.
-/
import Derived.Test.YtjlkppdailkanaaGoBase
import Derived.ProofKit
import Derived.SliceStrings
import Derived.SizedLaws
set_option linter.unusedVariables false
namespace Go.Proofs.Ytjlkppdailkanaa
open Go.RowKit

/-- the slice's elements are the texts l -/
def Strs (a : Option Addr) (len : Nat) (l : List ByteArray) (w : World) : Prop :=
  l.length = len ∧ ∀ j, j < len → ∃ b off, a = some ⟨b, off, none⟩ ∧ w.cell? ⟨b, off + j, none⟩ = some (.string (l.getD j .empty))

theorem cell_lt {w : World} {b o : Nat} {v : Value} (h : w.cell? ⟨b, o, none⟩ = some v) : b < w.heap.size := by
  rcases Nat.lt_or_ge b w.heap.size with h' | h'
  · exact h'
  · simp [World.cell?, Array.getElem?_eq_none h'] at h

theorem Strs.keep {a : Option Addr} {len : Nat} {l : List ByteArray} {w w' : World} (h : Strs a len l w) (hb : Below w.heap.size w w') : Strs a len l w' := by
  refine ⟨h.1, fun j hj => ?_⟩
  obtain ⟨b, off, rfl, hc⟩ := h.2 j hj
  exact ⟨b, off, rfl, by rw [hb.cell (p := ⟨b, off + j, none⟩) (cell_lt hc)]; exact hc⟩

theorem Strs.nil (a : Option Addr) (w : World) : Strs a 0 [] w := ⟨rfl, fun j hj => by omega⟩

/-- the texts as lists of bytes -/
def lists (l : List ByteArray) : List (List UInt8) := l.map (·.data.toList)

theorem lists_length (l : List ByteArray) : (lists l).length = l.length := by simp [lists]
theorem lists_get (l : List ByteArray) (k : Nat) (h : k < l.length) (h' : k < (lists l).length) : (lists l)[k] = (l.getD k .empty).data.toList := by
  simp [lists, List.getD_eq_getElem?_getD, h]

theorem lists_inj {a b : List ByteArray} (h : lists a = lists b) : a = b := by
  induction a generalizing b with
  | nil => cases b with
    | nil => rfl
    | cons y t => simp [lists] at h
  | cons x r ih =>
    cases b with
    | nil => simp [lists] at h
    | cons y t =>
      simp only [lists, List.map_cons, List.cons.injEq] at h
      rw [ih h.2]
      congr 1
      have := h.1
      rw [← ba_eta x, this, ba_eta]

/-- how many bytes the first k texts have together -/
def tot (l : List ByteArray) (k : Nat) : Nat := ((l.take k).map (·.size)).sum

theorem tot_zero (l : List ByteArray) : tot l 0 = 0 := by simp [tot]
theorem tot_succ (l : List ByteArray) (k : Nat) (h : k < l.length) : tot l (k + 1) = tot l k + (l.getD k .empty).size := by
  unfold tot
  rw [List.take_succ_eq_append_getElem h, List.map_append, List.sum_append]
  simp [List.getD_eq_getElem?_getD, h]
theorem tot_le (l : List ByteArray) (k m : Nat) (h : ∀ x ∈ l, x.size ≤ m) : tot l k ≤ k * m := by
  induction k generalizing l with
  | zero => simp [tot]
  | succ k ih =>
    cases l with
    | nil => simp [tot]
    | cons x r =>
      have h1 := ih r (fun y hy => h y (List.mem_cons_of_mem _ hy))
      have h2 := h x (List.mem_cons_self ..)
      simp only [tot, List.take_succ_cons, List.map_cons, List.sum_cons] at *
      rw [Nat.succ_mul]
      omega
theorem size_le_tot (l : List ByteArray) (j k : Nat) (hj : j < k) (hk : j < l.length) : (l.getD j .empty).size ≤ tot l k := by
  induction k with
  | zero => omega
  | succ k ih =>
    by_cases e : j = k
    · subst e
      rw [tot_succ l j hk]
      omega
    · have h1 := ih (by omega)
      by_cases hkl : k < l.length
      · rw [tot_succ l k hkl]; omega
      · have : tot l (k + 1) = tot l k := by
          unfold tot
          rw [List.take_of_length_le (by omega), List.take_of_length_le (by omega)]
        omega
theorem getD_size_le (l : List ByteArray) (m : Nat) (h : ∀ x ∈ l, x.size ≤ m) (j : Nat) : (l.getD j .empty).size ≤ m := by
  by_cases hj : j < l.length
  · rw [List.getD_eq_getElem?_getD, List.getElem?_eq_getElem hj]
    exact h _ (List.getElem_mem hj)
  · rw [List.getD_eq_getElem?_getD, List.getElem?_eq_none (by omega)]
    exact Nat.zero_le _

theorem weight_mem {H : Type} (P : Program) (e : TypeId) (l : List ByteArray) (y : ByteArray) (hy : y ∈ l) : y.data.toList.length ∈ DataW.weightsAll (H := H) P e (Go.ChangeShapes.strs l) := by
  induction l with
  | nil => simp at hy
  | cons z r ih =>
    simp only [Go.ChangeShapes.strs, List.map_cons, DataW.weightsAll, DataW.weights]
    rcases List.mem_cons.1 hy with rfl | hy
    · simp
    · exact List.mem_append_right _ (ih hy)

/-- an argument that is a slice of texts, opened -/
theorem open_texts {H : Type} {enc : TypeId × Value → H} {P : Program} {w : World} {base : Nat} {spare : Nat → Bool} {held : Bool} {t e : TypeId} {a0 : Option Addr} {len cap fuel : Nat} {x : DataW H × List MemPlace} (ht : P.underlying t = some (.slice e)) (he : P.underlying e = some .string) (hc : P.cellsOf e = 1) (hb16 : P.bytesOf e = 16)
    (hf : DataW.trod enc P w base spare held fuel t (Value.slice a0 len cap).cells.toList = some x) (hsz : ∀ n ∈ DataW.weights P t x.1, n ≤ reachBytes) :
    ∃ l : List ByteArray, Strs a0 len l w ∧ (∀ y ∈ l, y.size ≤ 140737488351232) ∧ len ≤ 8796093022208 ∧ (a0 = none → len = 0 ∧ cap = 0) := by
  rcases Go.ChangeShapes.open_strings ht he hc hf with ⟨hcs, _⟩ | ⟨a, len', cap', ss, hcs, _, hl, hm, hz, hx, hcell, hws⟩
  · simp [Value.cells] at hcs
    obtain ⟨rfl, rfl, rfl⟩ := hcs
    exact ⟨[], Strs.nil _ _, by simp, by omega, fun _ => ⟨rfl, rfl⟩⟩
  · simp [Value.cells] at hcs
    obtain ⟨rfl, rfl, rfl⟩ := hcs
    subst hx
    have hsl : len ≤ ss.length := by rw [hz]; split <;> omega
    refine ⟨ss.take len, ⟨by simp; omega, fun j hj => ?_⟩, ?_, ?_, fun c => by cases c⟩
    · have h := hcell j (by omega)
      obtain ⟨b, off, spot⟩ := a
      have h0 := hcell 0 (by omega)
      have hspot : spot = none := by simpa [Addr.add] using World.cell?_spot h0
      subst hspot
      refine ⟨b, off, rfl, ?_⟩
      have ea : (Addr.add ⟨b, off, none⟩ j) = ⟨b, off + j, none⟩ := by cases j <;> simp [Addr.add]
      rw [ea] at h
      rw [h]
      simp [List.getD_eq_getElem?_getD, List.getElem?_take_of_lt hj]
    · intro y hy
      have := hsz y.data.toList.length (by
        simp only [DataW.weights, ht]
        refine List.mem_cons_of_mem _ (List.mem_append_left _ ?_)
        exact weight_mem P e (ss.take len) y hy)
      rw [ba_len] at this
      exact this
    · have := hsz (((Go.ChangeShapes.strs (H := H) (ss.take len)).length + (Go.ChangeShapes.strs (H := H) (ss.drop len)).length) * P.bytesOf e) (by simp only [DataW.weights, ht]; exact List.mem_cons_self ..)
      rw [hb16] at this
      have e1 : (Go.ChangeShapes.strs (H := H) (ss.take len)).length = len := by simp [Go.ChangeShapes.strs]; omega
      rw [e1] at this
      have : reachBytes = 140737488351232 := rfl
      omega

end Go.Proofs.Ytjlkppdailkanaa
