/-
  The reader: its plain mathematics; what take takes.
-/
import Derived.Test.YtnnfpaheglkmoaaDoorCodCheck
import Derived.Test.YtnnfpaheglkmoaaDoorGoTxt
set_option linter.unusedVariables false
set_option maxRecDepth 100000
namespace Cod
/-- n instructions, and what is left -/
def rdC : Nat → List UInt8 → Option (List In × List UInt8)
  | 0, l => some ([], l)
  | n + 1, a :: b :: r => (rdC n r).map fun x => ((a, b) :: x.1, x.2)
  | _ + 1, _ => none
/-- behind the texts -/
def rdR (ts : List (List UInt8)) : List UInt8 → Option (Pr × List UInt8)
  | a :: b :: r => (rdC (a.toNat + 256 * b.toNat) r).map fun y => (⟨ts, y.1⟩, y.2)
  | _ => none
/-- a program, and what is left -/
def rd : List UInt8 → Option (Pr × List UInt8)
  | [] => none
  | n :: l => match getT n.toNat l with
    | none => none
    | some x => rdR x.1 x.2
theorem rdC_all : ∀ (n : Nat) (l : List UInt8), l.length = 2 * n → rdC n l = some (getC l, [])
  | 0, [], _ => rfl
  | 0, a :: l, h => by simp at h
  | n + 1, [], h => by simp at h
  | n + 1, [a], h => by simp at h; omega
  | n + 1, a :: b :: r, h => by
    rw [rdC, rdC_all n r (by simp at h; omega)]
    rfl
theorem rdC_end : ∀ (n : Nat) (l : List UInt8) (x : List In), rdC n l = some (x, []) → l.length = 2 * n
  | 0, l, x, h => by
    simp only [rdC, Option.some.injEq, Prod.mk.injEq] at h
    rw [h.2]; rfl
  | n + 1, [], x, h => by simp [rdC] at h
  | n + 1, [a], x, h => by simp [rdC] at h
  | n + 1, a :: b :: r, x, h => by
    rw [rdC] at h
    cases hc : rdC n r with
    | none => rw [hc] at h; cases h
    | some y =>
      rw [hc] at h
      simp only [Option.map_some, Option.some.injEq, Prod.mk.injEq] at h
      obtain ⟨y1, y2⟩ := y
      simp only at h
      obtain ⟨-, rfl⟩ := h
      have := rdC_end n r y1 hc
      simp only [List.length_cons]
      omega
theorem rdC_len : ∀ (n : Nat) (l : List UInt8) (x : List In) (r : List UInt8), rdC n l = some (x, r) → x.length = n
  | 0, l, x, r, h => by
    simp only [rdC, Option.some.injEq, Prod.mk.injEq] at h
    rw [← h.1]; rfl
  | n + 1, [], x, r, h => by simp [rdC] at h
  | n + 1, [a], x, r, h => by simp [rdC] at h
  | n + 1, a :: b :: m, x, r, h => by
    rw [rdC] at h
    cases hc : rdC n m with
    | none => rw [hc] at h; cases h
    | some y =>
      rw [hc] at h
      simp only [Option.map_some, Option.some.injEq, Prod.mk.injEq] at h
      obtain ⟨y1, y2⟩ := y
      simp only at h
      obtain ⟨rfl, rfl⟩ := h
      have := rdC_len n m y1 y2 hc
      simp [this]
theorem rd_small {l : List UInt8} {p : Pr} {r : List UInt8} (h : rd l = some (p, r)) : p.ts.length ≤ 255 ∧ p.cs.length ≤ 65535 := by
  cases l with
  | nil => cases h
  | cons n l =>
    unfold rd at h
    simp only at h
    cases hg : getT n.toNat l with
    | none => rw [hg] at h; cases h
    | some x =>
      obtain ⟨ts, q⟩ := x
      rw [hg] at h
      simp only at h
      have hts := (getT_is _ _ _ _ hg).1
      have hn := n.toNat_lt
      match q, h with
      | [], h => cases h
      | [a], h => cases h
      | a :: b :: q, h =>
        unfold rdR at h
        simp only at h
        cases hc : rdC (a.toNat + 256 * b.toNat) q with
        | none => rw [hc] at h; cases h
        | some y =>
          obtain ⟨y1, y2⟩ := y
          rw [hc] at h
          simp only [Option.map_some, Option.some.injEq, Prod.mk.injEq] at h
          obtain ⟨rfl, rfl⟩ := h
          have h1 := rdC_len _ _ _ _ hc
          have ha := a.toNat_lt
          have hb := b.toNat_lt
          exact ⟨by simp only; omega, by simp only; omega⟩
/-- what Get makes of it -/
def fin : Option (Pr × List UInt8) → Option Pr
  | none => none
  | some x => if x.2 = [] ∧ x.1.May then some x.1 else none
theorem fin_more (p : Pr) (b : UInt8) (m : List UInt8) : fin (some (p, b :: m)) = none := by simp [fin]
theorem get_rd (l : List UInt8) : get l = fin (rd l) := by
  unfold get rd
  cases l with
  | nil => rfl
  | cons n l =>
    simp only
    cases hg : getT n.toNat l with
    | none => rfl
    | some x =>
      simp only
      obtain ⟨ts, r⟩ := x
      simp only
      match r with
      | [] => rfl
      | [a] => rfl
      | a :: b :: r =>
        unfold getR rdR
        by_cases hl : r.length = 2 * (a.toNat + 256 * b.toNat)
        · simp only [rdC_all _ _ hl, Option.map_some, fin, hl, true_and]
        · simp only [hl, false_and, if_false]
          cases hc : rdC (a.toNat + 256 * b.toNat) r with
          | none => rfl
          | some y =>
            obtain ⟨y1, y2⟩ := y
            simp only [Option.map_some, fin]
            rw [if_neg]
            rintro ⟨rfl, -⟩
            exact hl (rdC_end _ _ _ hc)
/-- the loop over texts -/
theorem getT_nil (n : Nat) : getT (n + 1) [] = none := rfl
theorem getT_short {n : Nat} {b : UInt8} {l : List UInt8} (h : l.length < b.toNat) : getT (n + 1) (b :: l) = none := by rw [getT, if_pos h]
theorem getT_long {n : Nat} {b : UInt8} {l : List UInt8} (h : ¬ l.length < b.toNat) : getT (n + 1) (b :: l) = (getT n (l.drop b.toNat)).map fun x => (l.take b.toNat :: x.1, x.2) := by rw [getT, if_neg h]
theorem getT_step {n k : Nat} {l0 l : List UInt8} {b : UInt8} {T : List (List UInt8)} (hk : k < n) (hl : ¬ l.length < b.toNat) (h : getT n l0 = (getT (n - k) (b :: l)).map fun x => (T ++ x.1, x.2)) :
    getT n l0 = (getT (n - (k + 1)) (l.drop b.toNat)).map fun x => ((T ++ [l.take b.toNat]) ++ x.1, x.2) := by
  rw [h, show n - k = (n - (k + 1)) + 1 by omega, getT_long hl, Option.map_map]
  congr 1
  funext x
  simp
theorem rdC_step {n k : Nat} {l0 l : List UInt8} {a b : UInt8} {T : List In} (hk : k < n) (h : rdC n l0 = (rdC (n - k) (a :: b :: l)).map fun x => (T ++ x.1, x.2)) :
    rdC n l0 = (rdC (n - (k + 1)) l).map fun x => ((T ++ [(a, b)]) ++ x.1, x.2) := by
  rw [h, show n - k = (n - (k + 1)) + 1 by omega, rdC, Option.map_map]
  congr 1
  funext x
  simp
theorem rdC_short {n : Nat} {l : List UInt8} (h : l.length < 2) : rdC (n + 1) l = none := by
  match l, h with
  | [], _ => rfl
  | [a], _ => rfl
end Cod
namespace Go.Proofs.YtnnfpaheglkmoaaDoor
open Go.RowKit

/-- the reader in block R, with what is left -/
def RdAt (R : Nat) (l : List UInt8) (w : World) : Prop := w.heap[R]? = some (.cells #[.string ⟨l.toArray⟩] 61 (0, 0))
theorem RdAt.cell {R : Nat} {l : List UInt8} {w : World} (h : RdAt R l w) : w.cell? ⟨R, 0, none⟩ = some (.string ⟨l.toArray⟩) := by rw [cell_of_row _ _ 0 _ _ _ h]; rfl
theorem RdAt.set {R : Nat} {l : List UInt8} {w : World} (h : RdAt R l w) (m : List UInt8) : RdAt R m (w.setCell ⟨R, 0, none⟩ (.string ⟨m.toArray⟩)) := by
  unfold RdAt at *
  rw [heap_setCell_same w R 0 _ _ _ h]
  rfl
theorem RdAt.new {R : Nat} {l : List UInt8} {w w' : World} (h : RdAt R l w) (hb : Below w.heap.size w w') : RdAt R l w' := by
  unfold RdAt at *
  rw [hb.block _ (row_lt h)]; exact h
theorem list_size (l : List UInt8) : (⟨l.toArray⟩ : ByteArray).size = l.length := by simp [ByteArray.size]
theorem list_take (l : List UInt8) (k : Nat) (h : k ≤ l.length) : (⟨l.toArray⟩ : ByteArray).extract 0 k = ⟨(l.take k).toArray⟩ := by
  have e : ((⟨l.toArray⟩ : ByteArray).extract 0 k).data.toList = l.take k := by
    rw [ByteArray.data_extract]; simp
  rw [← ba_eta ((⟨l.toArray⟩ : ByteArray).extract 0 k), e]
theorem list_drop (l : List UInt8) (k : Nat) (h : k ≤ l.length) : (⟨l.toArray⟩ : ByteArray).extract k l.length = ⟨(l.drop k).toArray⟩ := by
  have e : ((⟨l.toArray⟩ : ByteArray).extract k l.length).data.toList = l.drop k := by
    rw [ByteArray.data_extract]
    simp only [List.extract_toArray, List.extract_eq_take_drop]
    exact List.take_of_length_le (by simp)
  rw [← ba_eta ((⟨l.toArray⟩ : ByteArray).extract k l.length), e]

theorem take_ok {R k : Nat} {l : List UInt8} {w : World} (h : RdAt R l w) (hk : k ≤ l.length) (hl : l.length ≤ 1099511627776) :
    Calls Tryd.prog 36 #[.pointer (some ⟨R, 0, none⟩), .int .i64 (k : Int)] w fun e w' => e = .returned (.string ⟨(l.take k).toArray⟩) ∧ w' = w.setCell ⟨R, 0, none⟩ (.string ⟨(l.drop k).toArray⟩) := by
  have c0 := h.cell
  have f0 := row_free h 0
  rw [← list_take l k hk, ← list_drop l k hk]
  have hs := list_size l
  obtain ⟨s, hs0⟩ : ∃ s : ByteArray, s = ⟨l.toArray⟩ := ⟨_, rfl⟩
  rw [← hs0] at c0 hs ⊢
  rw [← hs] at hk hl ⊢
  have d1 : decide ((s.size : Int) < (k : Int)) = false := decide_eq_false (by omega)
  have d2 : (k : Int) ≤ (s.size : Int) := by omega
  clear h hs hs0 hl
  go_enter Tryd.func36, Tryd.ntmps36
  go_wp2_with fail
  go_ret
  exact ⟨rfl, rfl⟩
/-- the reader's panic -/
def rdPanic : List PanicEntry := [{ v := .iface 29 (.int .i64 7), recovered := false }]
theorem take_bad {R k : Nat} {l : List UInt8} {w : World} (h : RdAt R l w) (hk : l.length < k) (hl : l.length ≤ 1099511627776) :
    Calls Tryd.prog 36 #[.pointer (some ⟨R, 0, none⟩), .int .i64 (k : Int)] w fun e w' => e = .panicked rdPanic ∧ w' = w := by
  have c0 := h.cell
  have hs := list_size l
  obtain ⟨s, hs0⟩ : ∃ s : ByteArray, s = ⟨l.toArray⟩ := ⟨_, rfl⟩
  rw [← hs0] at c0 hs
  rw [← hs] at hk hl
  have d1 : decide ((s.size : Int) < (k : Int)) = true := decide_eq_true (by omega)
  clear h hs hs0 hl
  go_enter Tryd.func36, Tryd.ntmps36
  go_wp2_with fail
  exact ⟨rfl, rfl, rfl⟩
end Go.Proofs.YtnnfpaheglkmoaaDoor
