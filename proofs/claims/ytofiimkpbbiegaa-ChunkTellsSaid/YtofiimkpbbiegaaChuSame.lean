/-
  Rows of numbers, rows of pieces, read; what the document's Same and the law's ints answer to rows that are the same.
-/
import Derived.Test.YtofiimkpbbiegaaChuRef2
import Derived.Test.YtofiimkpbbiegaaChuTexts
import Derived.BigQuiet
set_option linter.unusedVariables false
set_option maxRecDepth 100000
namespace Go.Proofs.Ytofiimkpbbiegaa
open Go.RowKit

/-- the slice reads as these numbers -/
def IRd (v : Value) (l : List Nat) (w : World) : Prop := ∃ a cap, v = .slice a l.length cap ∧ l.length ≤ cap ∧ ∀ j, j < l.length → ∃ b, a = some ⟨b, 0, none⟩ ∧ w.cell? ⟨b, j, none⟩ = some (.int .i64 ((l.getD j 0 : Nat) : Int))
/-- .. as these pieces -/
def PRd (v : Value) (l : List Pc) (w : World) : Prop := ∃ a cap, v = .slice a l.length cap ∧ l.length ≤ cap ∧ ∀ j, j < l.length → ∃ b, a = some ⟨b, 0, none⟩ ∧ w.cell? ⟨b, j * 2, none⟩ = some (.int .i64 ((l.getD j (0, 0)).1 : Int)) ∧ w.cell? ⟨b, j * 2 + 1, none⟩ = some (.int .i64 ((l.getD j (0, 0)).2 : Int))
theorem IRd.new {v : Value} {l : List Nat} {w w' : World} (h : IRd v l w) (hb : Below w.heap.size w w') : IRd v l w' := by
  obtain ⟨a, cap, rfl, hc, hf⟩ := h
  refine ⟨a, cap, rfl, hc, fun j hj => ?_⟩
  obtain ⟨b, rfl, e⟩ := hf j hj
  exact ⟨b, rfl, by rw [hb.cell (p := ⟨b, j, none⟩) (cell_lt e)]; exact e⟩
theorem PRd.new {v : Value} {l : List Pc} {w w' : World} (h : PRd v l w) (hb : Below w.heap.size w w') : PRd v l w' := by
  obtain ⟨a, cap, rfl, hc, hf⟩ := h
  refine ⟨a, cap, rfl, hc, fun j hj => ?_⟩
  obtain ⟨b, rfl, e, e2⟩ := hf j hj
  exact ⟨b, rfl, by rw [hb.cell (p := ⟨b, j * 2, none⟩) (cell_lt e)]; exact e, by rw [hb.cell (p := ⟨b, j * 2 + 1, none⟩) (cell_lt e2)]; exact e2⟩
theorem IOwn.reads {B : Nat} {v : Value} {l : List Nat} {w : World} (h : IOwn B v l w) : IRd v l w := by
  rcases h.2 with ⟨rfl, h0⟩ | ⟨g, cap, cur, rfl, hb, hg, hn, hm, hc, ht⟩
  · exact ⟨none, 0, by rw [h0], by omega, fun j hj => by omega⟩
  · refine ⟨_, cap, rfl, hn, fun j hj => ⟨g, rfl, ?_⟩⟩
    rw [cell_of_row _ _ j _ _ _ hg]
    have hu : (ints l)[j]? = some (.int .i64 ((l.getD j 0 : Nat) : Int)) := by
      simp [ints, List.getD_eq_getElem?_getD, hj]
    rw [← ht, List.getElem?_take] at hu
    split at hu
    · simpa using hu
    · cases hu
theorem POwn.reads {B : Nat} {v : Value} {l : List Pc} {w : World} (h : POwn B v l w) : PRd v l w := by
  by_cases h0 : l.length = 0
  · obtain ⟨a, cap, rfl⟩ := h.form
    rcases h.2 with ⟨hv, _⟩ | ⟨g, cap', cur, hv, hb, hg, hn, hm, hc, ht⟩
    · exact ⟨a, cap, rfl, by omega, fun j hj => by omega⟩
    · exact ⟨a, cap, rfl, by omega, fun j hj => by omega⟩
  · obtain ⟨g, cap, hv, _, _, hc, hf⟩ := h.at_ 0 (by omega)
    exact ⟨_, cap, hv, hc, fun j hj => ⟨g, rfl, (hf j hj).1, (hf j hj).2⟩⟩

set_option maxHeartbeats 1000000 in
theorem lints_any (v1 v2 : Value) (l : List Nat) (w : World) (h1 : IRd v1 l w) (h2 : IRd v2 l w) (hl : l.length ≤ 1099511627776) :
    Calls Try.prog 15 #[v1, v2] w fun e w' => e = .returned (.bool true) ∧ Below w.heap.size w w' := by
  obtain ⟨a1, c1, rfl, hc1, hf1⟩ := h1
  obtain ⟨a2, c2, rfl, hc2, hf2⟩ := h2
  obtain ⟨n, hn⟩ : ∃ n, n = l.length := ⟨_, rfl⟩
  rw [← hn] at hl hc1 hc2 hf1 hf2 ⊢
  have Hf1 := Lib.hid hf1; clear hf1
  have Hf2 := Lib.hid hf2; clear hf2
  clear hn
  go_enter Try.func15, Try.ntmps15
  go_wp2_with fail
  go_loopw [5] (fun i wr => ∃ k : Nat, k ≤ n ∧ i = .int .i64 (k : Int) ∧ Below w.heap.size w wr) (fun i _ => n - (intOf i).toNat)
  case atStart => exact ⟨0, Nat.zero_le _, rfl, Below.refl _ _⟩
  case round =>
    obtain ⟨k, hk, rfl, hb⟩ := hrel
    by_cases hlt : k < n
    · have g1 : decide (k < n) = true := decide_eq_true hlt
      have g2 : (k : Int) < (n : Int) := by omega
      obtain ⟨b1, rfl, e1⟩ := Hf1.out k hlt
      obtain ⟨b2, rfl, e2⟩ := Hf2.out k hlt
      have d1 : wr.cell? ⟨b1, k, none⟩ = some (.int .i64 ((l.getD k 0 : Nat) : Int)) := by rw [hb.cell (p := ⟨b1, k, none⟩) (cell_lt e1)]; exact e1
      have d2 : wr.cell? ⟨b2, k, none⟩ = some (.int .i64 ((l.getD k 0 : Nat) : Int)) := by rw [hb.cell (p := ⟨b2, k, none⟩) (cell_lt e2)]; exact e2
      generalize l.getD k 0 = x at *
      have Hb := Lib.hid hb; clear hb
      clear e1 e2
      go_wp2_with fail
      go_quiet (fail)
      go_wp2_with fail
      go_roundw
      case rel => exact ⟨k + 1, by omega, by go_num, drewN_below Hb.out _⟩
      case measure => simp [intOf]; omega
    · have g1 : decide (k < n) = false := decide_eq_false hlt
      have Hb := Lib.hid hb; clear hb
      go_wp2_with fail
      go_ret
      exact ⟨rfl, Hb.out⟩

set_option maxHeartbeats 1000000 in
theorem rsame_any (v1 v2 : Value) (l : List Pc) (w : World) (h1 : PRd v1 l w) (h2 : PRd v2 l w) (hl : l.length ≤ 1099511627776) :
    Calls Try.prog 17 #[v1, v2] w fun e w' => e = .returned (.bool true) ∧ Below w.heap.size w w' := by
  obtain ⟨a1, c1, rfl, hc1, hf1⟩ := h1
  obtain ⟨a2, c2, rfl, hc2, hf2⟩ := h2
  obtain ⟨n, hn⟩ : ∃ n, n = l.length := ⟨_, rfl⟩
  rw [← hn] at hl hc1 hc2 hf1 hf2 ⊢
  have Hf1 := Lib.hid hf1; clear hf1
  have Hf2 := Lib.hid hf2; clear hf2
  clear hn
  go_enter Try.func17, Try.ntmps17
  go_wp2_with fail
  go_loopw [5] (fun i wr => ∃ k : Nat, k ≤ n ∧ i = .int .i64 (k : Int) ∧ Below w.heap.size w wr) (fun i _ => n - (intOf i).toNat)
  case atStart => exact ⟨0, Nat.zero_le _, rfl, Below.refl _ _⟩
  case round =>
    obtain ⟨k, hk, rfl, hb⟩ := hrel
    by_cases hlt : k < n
    · have g1 : decide (k < n) = true := decide_eq_true hlt
      have g2 : (k : Int) < (n : Int) := by omega
      obtain ⟨b1, rfl, e1, e1'⟩ := Hf1.out k hlt
      obtain ⟨b2, rfl, e2, e2'⟩ := Hf2.out k hlt
      have d1 : wr.cell? ⟨b1, k * 2, none⟩ = some (.int .i64 ((l.getD k (0, 0)).1 : Int)) := by rw [hb.cell (p := ⟨b1, k * 2, none⟩) (cell_lt e1)]; exact e1
      have d1' : wr.cell? ⟨b1, k * 2 + 1, none⟩ = some (.int .i64 ((l.getD k (0, 0)).2 : Int)) := by rw [hb.cell (p := ⟨b1, k * 2 + 1, none⟩) (cell_lt e1')]; exact e1'
      have d2 : wr.cell? ⟨b2, k * 2, none⟩ = some (.int .i64 ((l.getD k (0, 0)).1 : Int)) := by rw [hb.cell (p := ⟨b2, k * 2, none⟩) (cell_lt e2)]; exact e2
      have d2' : wr.cell? ⟨b2, k * 2 + 1, none⟩ = some (.int .i64 ((l.getD k (0, 0)).2 : Int)) := by rw [hb.cell (p := ⟨b2, k * 2 + 1, none⟩) (cell_lt e2')]; exact e2'
      generalize (l.getD k (0, 0)).1 = x at *
      generalize (l.getD k (0, 0)).2 = y at *
      have Hb := Lib.hid hb; clear hb
      clear e1 e2 e1' e2'
      go_wp2_with fail
      go_quiet (fail)
      go_wp2_with fail
      go_roundw
      case rel => exact ⟨k + 1, by omega, by go_num, drewN_below Hb.out _⟩
      case measure => simp [intOf]; omega
    · have g1 : decide (k < n) = false := decide_eq_false hlt
      have Hb := Lib.hid hb; clear hb
      go_wp2_with fail
      go_ret
      exact ⟨rfl, Hb.out⟩
end Go.Proofs.Ytofiimkpbbiegaa
