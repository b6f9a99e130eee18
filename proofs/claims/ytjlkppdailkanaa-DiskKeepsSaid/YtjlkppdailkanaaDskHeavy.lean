/-
  Heavy: more than a statement plays; text: what a step writes.
-/
import Derived.Test.YtjlkppdailkanaaDskFill
import Derived.Test.YtjlkppdailkanaaGoSteps
set_option linter.unusedVariables false
namespace Go.Proofs.Ytjlkppdailkanaa
namespace Dsk
/-- how much the steps bring -/
def bulk : List Stp → Int
  | [] => 0
  | x :: r => (x.s.size : Int) + (if x.d = 0 then 64 * max x.n 0 else 0) + bulk r
/-- within what is played -/
structure Light (sectors : Int) (l : List Stp) : Prop where
  len : l.length ≤ 80
  n : ∀ x ∈ l, x.d = 0 → x.n ≤ 100
  bulk : bulk l ≤ 32768
  sec : sectors ≤ 200 ∨ 16384 < sectors
def one (x : Stp) : Int := (x.s.size : Int) + (if x.d = 0 then 64 * max x.n 0 else 0)
theorem bulk_cons (x : Stp) (r : List Stp) : bulk (x :: r) = one x + bulk r := by simp [bulk, one]
theorem bulk_append (a b : List Stp) : bulk (a ++ b) = bulk a + bulk b := by
  induction a with
  | nil => simp [bulk]
  | cons x r ih => rw [List.cons_append, bulk_cons, bulk_cons, ih]; omega
theorem one_nonneg (x : Stp) : 0 ≤ one x := by unfold one; split <;> omega
theorem bulk_nonneg (l : List Stp) : 0 ≤ bulk l := by
  induction l with
  | nil => simp [bulk]
  | cons x r ih => rw [bulk_cons]; have := one_nonneg x; omega
theorem bulk_take (l : List Stp) (k : Nat) (h : k < l.length) : bulk (l.take (k + 1)) = bulk (l.take k) + one (l.getD k default) := by
  rw [List.take_add_one, bulk_append, List.getElem?_eq_getElem h, List.getD_eq_getElem?_getD, List.getElem?_eq_getElem h]
  simp [bulk, one]
theorem bulk_le (l : List Stp) (hs : ∀ x ∈ l, x.s.size ≤ 140737488351232) (hn : ∀ x ∈ l, x.d = 0 → x.n ≤ 100) : bulk l ≤ l.length * 140737488357632 := by
  induction l with
  | nil => simp [bulk]
  | cons x r ih =>
    rw [bulk_cons]
    have h1 := ih (fun y hy => hs y (List.mem_cons_of_mem _ hy)) (fun y hy => hn y (List.mem_cons_of_mem _ hy))
    have h2 := hs x List.mem_cons_self
    have h3 := hn x List.mem_cons_self
    have h4 : one x ≤ 140737488357632 := by
      unfold one
      split
      · have := h3 ‹_›; omega
      · omega
    simp only [List.length_cons]
    push_cast
    omega
/-- what a single step brings, is brought -/
theorem one_le_bulk {l : List Stp} {x : Stp} (h : x ∈ l) : one x ≤ bulk l := by
  induction l with
  | nil => simp at h
  | cons y r ih =>
    rw [bulk_cons]
    rcases List.mem_cons.1 h with rfl | h
    · have := bulk_nonneg r; omega
    · have := ih h; have := one_nonneg y; omega
end Dsk
open Go.RowKit

def HeavySays (sectors : Int) (l : List Stp) (w : World) (e : Ending) (w' : World) : Prop := ∃ b : Bool, e = .returned (.bool b) ∧ (b = false → Dsk.Light sectors l) ∧ w = w'

set_option maxRecDepth 20000 in
set_option maxHeartbeats 2000000 in
theorem heavy_any (sectors : Int) (hsec : I64 sectors) (a : Option Addr) (len cap : Nat) (l : List Stp) (w : World) (hl : Stps a len l w) (hok : ∀ x ∈ l, x.Ok) (hlen : len ≤ 2932031007402) :
    Calls Try.prog 7 #[.int .i64 sectors, .slice a len cap] w (HeavySays sectors l w) := by
  have hll := hl.1
  have Hl := Lib.hid hl; clear hl
  have Hok := Lib.hid hok; clear hok
  have Hsec := Lib.hid hsec; clear hsec
  go_enter Try.func7, Try.ntmps7
  go_wp2
  go_loop [5, 6] (fun nv iv => ∃ k : Nat, k ≤ len ∧ k ≤ 200 ∧ iv = .int .i64 (k : Int) ∧ nv = .int .i64 (Dsk.bulk (l.take k)) ∧ (∀ x ∈ l.take k, x.d = 0 → x.n ≤ 100)) (fun _ iv => 200 - (intOf iv).toNat)
  case atStart => exact ⟨0, by omega, by omega, rfl, rfl, fun x hx => by simp at hx⟩
  case round =>
    obtain ⟨k, hk, hk2, rfl, rfl, hn⟩ := hrel
    have hb0 := Dsk.bulk_nonneg (l.take k)
    have hb1 := Dsk.bulk_le (l.take k) (fun x hx => (Hok.out x (List.mem_of_mem_take hx)).s) hn
    have hb2 : Dsk.bulk (l.take k) ≤ 28147497671526400 := by
      rw [List.length_take] at hb1
      have : ((min k l.length : Nat) : Int) ≤ 200 := by omega
      omega
    clear hb1
    have hfin : k = len → l.take k = l := fun e => List.take_of_length_le (by omega)
    have hbt := fun h => Dsk.bulk_take l k h
    generalize hB : Dsk.bulk (l.take k) = B at *
    have HB := Lib.hid hB; clear hB
    have Hbt := Lib.hid hbt; clear hbt
    have Hfin := Lib.hid hfin; clear hfin
    have Hn := Lib.hid hn; clear hn
    have Hll := Lib.hid hll; clear hll
    by_cases hlt : k < len
    · by_cases h200 : k < 200
      · obtain ⟨b, off, rfl, hst⟩ := Hl.out.2 k hlt
        have hxo := Hok.out (l.getD k default) (by
          rw [List.getD_eq_getElem?_getD, List.getElem?_eq_getElem (by rw [Hll.out]; exact hlt)]
          exact List.getElem_mem _)
        have hmem : ∀ y ∈ l.take (k + 1), y ∈ l.take k ∨ y = l.getD k default := fun y hy => by
          rw [List.take_add_one, List.getElem?_eq_getElem (by rw [Hll.out]; exact hlt)] at hy
          rcases List.mem_append.1 hy with h | h
          · exact .inl h
          · right
            rw [List.getD_eq_getElem?_getD, List.getElem?_eq_getElem (by rw [Hll.out]; exact hlt)]
            simpa using h
        have Hmem := Lib.hid hmem; clear hmem
        have hB' := Hbt.out (by rw [Hll.out]; exact hlt)
        generalize l.getD k default = x at *
        have c0 := hst.d
        have c2 := hst.n
        have c3 := hst.s
        have hxs := hxo.s
        have hxn := hxo.n
        unfold I64 at hxn
        have Hxo := Lib.hid hxo; clear hxo
        have HB' := Lib.hid hB'; clear hB'
        clear hst
        by_cases h100 : 100 < x.n
        · have d1 : decide (100 < x.n) = true := decide_eq_true h100
          by_cases hd : x.d = 0
          · have d2 : (x.d == 0) = true := by rw [beq_iff_eq]; exact hd
            have Hd := Lib.hid hd; clear hd
            go_wp2
            go_ret
            exact ⟨true, rfl, fun h => Bool.noConfusion h, rfl⟩
          · have d2 : (x.d == 0) = false := by rw [beq_eq_false_iff_ne]; exact hd
            have Hd := Lib.hid hd; clear hd
            go_wp2
            go_round
            case rel =>
              have h1 := HB'.out
              unfold Dsk.one at h1
              rw [if_neg Hd.out] at h1
              refine ⟨k + 1, by omega, by omega, by go_num, by rw [h1]; first | rfl | (congr 1; omega), fun y hy => ?_⟩
              rcases Hmem.out y hy with h | rfl
              · exact Hn.out y h
              · exact fun e => absurd e Hd.out
            case measure => simp [intOf]; omega
        · have d1 : decide (100 < x.n) = false := decide_eq_false h100
          by_cases hd : x.d = 0
          · have d2 : (x.d == 0) = true := by rw [beq_iff_eq]; exact hd
            have Hd := Lib.hid hd; clear hd
            by_cases hneg : 0 ≤ x.n
            · go_wp2
              go_round
              case rel =>
                have h1 := HB'.out
                unfold Dsk.one at h1
                rw [if_pos Hd.out, Int.max_eq_left hneg] at h1
                refine ⟨k + 1, by omega, by omega, by go_num, by rw [h1]; first | rfl | (congr 1; omega), fun y hy => ?_⟩
                rcases Hmem.out y hy with h | rfl
                · exact Hn.out y h
                · exact fun _ => by omega
              case measure => simp [intOf]; omega
            · have hneg2 : x.n < 0 := by omega
              go_wp2
              go_round
              case rel =>
                have h1 := HB'.out
                unfold Dsk.one at h1
                rw [if_pos Hd.out, Int.max_eq_right (by omega)] at h1
                refine ⟨k + 1, by omega, by omega, by go_num, by rw [h1]; first | rfl | (congr 1; omega), fun y hy => ?_⟩
                rcases Hmem.out y hy with h | rfl
                · exact Hn.out y h
                · exact fun _ => by omega
              case measure => simp [intOf]; omega
          · have d2 : (x.d == 0) = false := by rw [beq_eq_false_iff_ne]; exact hd
            have Hd := Lib.hid hd; clear hd
            go_wp2
            go_round
            case rel =>
              have h1 := HB'.out
              unfold Dsk.one at h1
              rw [if_neg Hd.out] at h1
              refine ⟨k + 1, by omega, by omega, by go_num, by rw [h1]; first | rfl | (congr 1; omega), fun y hy => ?_⟩
              rcases Hmem.out y hy with h | rfl
              · exact Hn.out y h
              · exact fun e => absurd e Hd.out
            case measure => simp [intOf]; omega
      · have h80 : decide (80 < len) = true := decide_eq_true (by omega)
        have h80' : 80 < len := by omega
        go_wp2
        go_ret
        exact ⟨true, rfl, fun h => Bool.noConfusion h, rfl⟩
    · obtain rfl : k = len := by omega
      have hB := HB.out
      rw [Hfin.out rfl] at hB
      have hnn := Hn.out
      rw [Hfin.out rfl] at hnn
      have hsb := Hsec.out
      unfold I64 at hsb
      have HB2 := Lib.hid hB; clear hB
      have Hnn := Lib.hid hnn; clear hnn
      by_cases h80 : 80 < k
      · have d80 : decide (80 < k) = true := decide_eq_true h80
        go_wp2
        go_ret
        exact ⟨true, rfl, fun h => Bool.noConfusion h, rfl⟩
      · have d80 : decide ((80 : Int) < (k : Int)) = false := decide_eq_false (by omega)
        by_cases h32 : 32768 < B
        · have d32 : decide (32768 < B) = true := decide_eq_true h32
          go_wp2
          go_ret
          exact ⟨true, rfl, fun h => Bool.noConfusion h, rfl⟩
        · have d32 : decide (32768 < B) = false := decide_eq_false h32
          by_cases hs1 : 200 < sectors
          · have ds1 : decide (200 < sectors) = true := decide_eq_true hs1
            by_cases hs2 : sectors ≤ 16384
            · have ds2 : decide (sectors ≤ 16384) = true := decide_eq_true hs2
              go_wp2
              go_ret
              exact ⟨true, rfl, fun h => Bool.noConfusion h, rfl⟩
            · have ds2 : decide (sectors ≤ 16384) = false := decide_eq_false hs2
              go_wp2
              go_ret
              exact ⟨false, rfl, fun _ => ⟨by rw [Hll.out]; omega, Hnn.out, by rw [HB2.out]; omega, .inr (by omega)⟩, rfl⟩
          · have ds1 : decide (200 < sectors) = false := decide_eq_false hs1
            go_wp2
            go_ret
            exact ⟨false, rfl, fun _ => ⟨by rw [Hll.out]; omega, Hnn.out, by rw [HB2.out]; omega, .inl (by omega)⟩, rfl⟩
end Go.Proofs.Ytjlkppdailkanaa
