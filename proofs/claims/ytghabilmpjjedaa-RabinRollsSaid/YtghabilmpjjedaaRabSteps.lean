/-
  An argument that is a slice of a roller's steps (an integer, a text), as a walk meets it; what long says of it.
-/
import Derived.Test.YtghabilmpjjedaaGoSteps
import Derived.Test.YtghabilmpjjedaaRows
set_option linter.unusedVariables false
set_option maxRecDepth 100000
namespace Go.Proofs.Ytghabilmpjjedaa
open Go.ChangeShapes Go.WideShapes Go.Deep Go.RowKit

structure RStp where
  d : Int
  s : ByteArray
instance : Inhabited RStp := ⟨⟨0, .empty⟩⟩
structure RStp.Ok (x : RStp) : Prop where
  d : I64 x.d
  s : x.s.size ≤ 140737488351232
structure RStpAt (w : World) (b off : Nat) (x : RStp) : Prop where
  d : w.cell? ⟨b, off, none⟩ = some (.int .i64 x.d)
  s : w.cell? ⟨b, off + 1, none⟩ = some (.string x.s)
/-- the slice's elements are the steps l -/
def RStps (a : Option Addr) (len : Nat) (l : List RStp) (w : World) : Prop := l.length = len ∧ ∀ j, j < len → ∃ b off, a = some ⟨b, off, none⟩ ∧ RStpAt w b (off + j * 2) (l.getD j default)
theorem RStpAt.same {w w' : World} {b off : Nat} {x : RStp} (h : RStpAt w b off x) (e : w'.heap[b]? = w.heap[b]?) : RStpAt w' b off x :=
  ⟨by rw [World.cell?_of_block e]; exact h.d, by rw [World.cell?_of_block e]; exact h.s⟩
theorem RStps.keep {a : Option Addr} {len : Nat} {l : List RStp} {w w' : World} (h : RStps a len l w) (hb : Below w.heap.size w w') : RStps a len l w' := by
  refine ⟨h.1, fun j hj => ?_⟩
  obtain ⟨b, off, rfl, hc⟩ := h.2 j hj
  exact ⟨b, off, rfl, hc.same (hb.block b (cell_lt hc.d))⟩
theorem RStps.nil (a : Option Addr) (w : World) : RStps a 0 [] w := ⟨rfl, fun j hj => by omega⟩

theorem open_rsteps {H : Type} {enc : TypeId × Value → H} {P : Program} {w : World} {base : Nat} {spare : Nat → Bool} {held : Bool} {t e ti ts : TypeId} {f0 f1 : Field} {a0 : Option Addr} {len cap fuel : Nat} {x : DataW H × List MemPlace} (ht : P.underlying t = some (.slice e)) (he : P.underlying e = some (.struct #[f0, f1]))
    (h0 : f0.type = ti) (h1 : f1.type = ts) (hti : P.underlying ti = some (.int .i64)) (hts : P.underlying ts = some .string)
    (hone : oneCellFields P #[f0, f1] = true) (hC : P.cellsOf e = 2) (hb16 : P.bytesOf e = 24)
    (hf : DataW.trod enc P w base spare held fuel t (Value.slice a0 len cap).cells.toList = some x) (hsz : ∀ n ∈ DataW.weights P t x.1, n ≤ reachBytes) :
    ∃ l : List RStp, RStps a0 len l w ∧ (∀ y ∈ l, y.Ok) ∧ len ≤ 5864062014805 ∧ (a0 = none → len = 0 ∧ cap = 0) := by
  rcases open_slice_fields ht he hone hC hf with ⟨hcs, _⟩ | ⟨a, len', cap', m, D, Pl, hcs, _, hl, hm, hz, hx, hcell⟩
  · simp [Value.cells] at hcs
    obtain ⟨rfl, rfl, rfl⟩ := hcs
    exact ⟨[], RStps.nil _ _, by simp, by omega, fun _ => ⟨rfl, rfl⟩⟩
  · simp [Value.cells] at hcs
    obtain ⟨rfl, rfl, rfl⟩ := hcs
    subst hx
    have hsl : len ≤ m := by rw [hz]; split <;> omega
    have step : ∀ i, i < len → ∃ y : RStp, y.Ok ∧ ∃ b off, some a = some ⟨b, off, none⟩ ∧ RStpAt w b (off + i * 2) y := by
      intro i hi
      obtain ⟨ys, n, hD, _, hyl, hfl⟩ := hcell i (by omega)
      obtain ⟨v0, y0, c0, q0, t0⟩ := hfl 0 f0 rfl
      obtain ⟨v1, y1, c1, q1, t1⟩ := hfl 1 f1 rfl
      rw [h0] at t0; rw [h1] at t1
      obtain ⟨n0, e0, _, w0⟩ := DataW.trod_int hti t0
      obtain ⟨s3, e3, x3, _⟩ := DataW.trod_string hts t1
      obtain rfl : v0 = .int .i64 n0 := by simpa using e0
      obtain rfl : v1 = .string s3 := by simpa using e3
      have hs3 : s3.size ≤ 140737488351232 := by
        have hw : s3.data.toList.length ∈ DataW.weights P e (D i) := by
          rw [hD]
          simp only [DataW.weights, he]
          obtain ⟨z0, z1, rfl⟩ : ∃ z0 z1, ys = [z0, z1] := by
            match ys, hyl with
            | [z0, z1], _ => exact ⟨z0, z1, rfl⟩
          obtain rfl : z1 = y1 := by simpa using q1
          subst x3
          simp only [List.map_cons, List.map_nil, DataW.weightsEach]
          refine List.mem_append_right _ (List.mem_append_left _ ?_)
          simp [DataW.weights]
        have := hsz s3.data.toList.length (by
          simp only [DataW.weights, ht]
          refine List.mem_cons_of_mem _ (List.mem_append_left _ ?_)
          exact mem_weightsAll P e (D i) _ hw _ (List.mem_map.2 ⟨i, List.mem_range.2 hi, rfl⟩))
        rw [ba_len] at this
        exact this
      obtain ⟨b, off, spot⟩ := a
      obtain ⟨_, _, _, _, _, hfl0⟩ := hcell 0 (by omega)
      obtain ⟨v00, _, c00, _, _⟩ := hfl0 0 f0 rfl
      have hspot : spot = none := by simpa [Addr.add] using World.cell?_spot c00
      subst hspot
      have ea : ∀ k, (Addr.add ⟨b, off, none⟩ k) = ⟨b, off + k, none⟩ := fun k => by cases k <;> simp [Addr.add]
      rw [ea] at c0 c1
      exact ⟨⟨n0, s3⟩, ⟨wf_i64 w0, hs3⟩, b, off, rfl, ⟨c0, c1⟩⟩
    obtain ⟨l, hll, hp⟩ := list_of len step
    refine ⟨l, ⟨hll, fun j hj => (hp j hj).2⟩, fun y hy => ?_, ?_, fun c => by cases c⟩
    · obtain ⟨j, hj, rfl⟩ := List.getElem_of_mem hy
      have := (hp j (by omega)).1
      rw [List.getD_eq_getElem?_getD, List.getElem?_eq_getElem hj] at this
      exact this
    · have := hsz ((((List.range len).map D).length + ((List.range (m - len)).map fun j => D (len + j)).length) * P.bytesOf e) (by simp only [DataW.weights, ht]; exact List.mem_cons_self ..)
      rw [hb16] at this
      simp only [List.length_map, List.length_range] at this
      have hr : reachBytes = 140737488351232 := rfl
      omega

/-- the bytes of the first k steps' texts -/
def rtot (l : List RStp) (k : Nat) : Nat := ((l.take k).map fun x => x.s.size).sum
theorem rtot_succ (l : List RStp) (k : Nat) (h : k < l.length) : rtot l (k + 1) = rtot l k + (l.getD k default).s.size := by
  unfold rtot
  rw [List.take_add_one, List.getElem?_eq_getElem h, List.map_append, List.sum_append]
  simp [List.getD_eq_getElem?_getD, h]
theorem rtot_le (l : List RStp) (h : ∀ x ∈ l, x.Ok) : ∀ k, k ≤ 100 → rtot l k ≤ k * 140737488351232
  | 0, _ => by simp [rtot]
  | k + 1, hk => by
    by_cases hl : k < l.length
    · rw [rtot_succ l k hl]
      have h1 := rtot_le l h k (by omega)
      have h2 := (h (l.getD k default) (by rw [List.getD_eq_getElem?_getD, List.getElem?_eq_getElem hl]; exact List.getElem_mem _)).s
      omega
    · have h1 := rtot_le l h k (by omega)
      have e : rtot l (k + 1) = rtot l k := by unfold rtot; rw [List.take_of_length_le (by omega), List.take_of_length_le (by omega)]
      omega
theorem rtot_mono (l : List RStp) (k : Nat) : rtot l k ≤ rtot l (k + 1) := by
  by_cases hl : k < l.length
  · rw [rtot_succ l k hl]; omega
  · have e : rtot l (k + 1) = rtot l k := by unfold rtot; rw [List.take_of_length_le (by omega), List.take_of_length_le (by omega)]
    omega
theorem rtot_up (l : List RStp) {j k : Nat} (h : j ≤ k) : rtot l j ≤ rtot l k := by
  induction k with
  | zero => obtain rfl : j = 0 := by omega
            exact Nat.le_refl _
  | succ k ih =>
    by_cases e : j = k + 1
    · subst e; exact Nat.le_refl _
    · exact Nat.le_trans (ih (by omega)) (rtot_mono l k)

def RLongSays (len : Nat) (l : List RStp) (w : World) (e : Ending) (w' : World) : Prop := ∃ b : Bool, e = .returned (.bool b) ∧ (b = false → len ≤ 60 ∧ rtot l len ≤ 2000) ∧ w = w'
set_option maxHeartbeats 2000000 in
theorem rlong_any (a : Option Addr) (len cap : Nat) (l : List RStp) (w : World) (hl : RStps a len l w) (hok : ∀ x ∈ l, x.Ok) (hlen : len ≤ 5864062014805) :
    Calls Try.prog 13 #[.slice a len cap] w (RLongSays len l w) := by
  have hll := hl.1
  have Hl := Lib.hid hl; clear hl
  have Hok := Lib.hid hok; clear hok
  go_enter Try.func13, Try.ntmps13
  go_wp2
  go_loop [3, 4] (fun nv iv => ∃ k : Nat, k ≤ len ∧ k ≤ 100 ∧ iv = .int .i64 (k : Int) ∧ nv = .int .i64 ((rtot l k : Nat) : Int)) (fun _ iv => 100 - (intOf iv).toNat)
  case atStart => exact ⟨0, by omega, by omega, rfl, rfl⟩
  case round =>
    obtain ⟨k, hk, hk2, rfl, rfl⟩ := hrel
    have hb1 := rtot_le l Hok.out k hk2
    have hb2 : rtot l k ≤ 14073748835123200 := by omega
    clear hb1
    by_cases hlt : k < len
    · by_cases h100 : k < 100
      · have hsucc := rtot_succ l k (by rw [hll]; exact hlt)
        obtain ⟨b, off, rfl, hst⟩ := Hl.out.2 k hlt
        have hxo := Hok.out (l.getD k default) (by
          rw [List.getD_eq_getElem?_getD, List.getElem?_eq_getElem (by rw [hll]; exact hlt)]
          exact List.getElem_mem _)
        generalize l.getD k default = x at *
        have c1 := hst.s
        have hxs := hxo.s
        have h1 : (k : Int) < (len : Int) := by omega
        have h2 : (k : Int) < 100 := by omega
        generalize rtot l k = B at *
        have Hsucc := Lib.hid hsucc; clear hsucc
        clear hst hxo
        go_wp2
        go_round
        case rel => exact ⟨k + 1, by omega, by omega, by go_num, by rw [Hsucc.out]; congr 1⟩
        case measure => simp [intOf]; omega
      · have g1 : (k : Int) < (len : Int) := by omega
        have g2 : decide ((k : Int) < 100) = false := decide_eq_false (by omega)
        have g3 : (60 : Int) < (len : Int) := by omega
        go_wp2
        go_ret
        exact ⟨true, rfl, fun h => Bool.noConfusion h, rfl⟩
    · have g1 : decide ((k : Int) < (len : Int)) = false := decide_eq_false (by omega)
      obtain rfl : k = len := by omega
      by_cases h60 : 60 < k
      · have g3 : (60 : Int) < (k : Int) := by omega
        go_wp2
        go_ret
        exact ⟨true, rfl, fun h => Bool.noConfusion h, rfl⟩
      · have g3 : decide ((60 : Int) < (k : Int)) = false := decide_eq_false (by omega)
        by_cases h2000 : 2000 < rtot l k
        · have g4 : decide ((2000 : Int) < (rtot l k : Int)) = true := decide_eq_true (by omega)
          go_wp2
          go_ret
          exact ⟨true, rfl, fun h => Bool.noConfusion h, rfl⟩
        · have g4 : decide ((2000 : Int) < (rtot l k : Int)) = false := decide_eq_false (by omega)
          go_wp2
          go_ret
          exact ⟨false, rfl, fun _ => ⟨by omega, by omega⟩, rfl⟩
end Go.Proofs.Ytghabilmpjjedaa
