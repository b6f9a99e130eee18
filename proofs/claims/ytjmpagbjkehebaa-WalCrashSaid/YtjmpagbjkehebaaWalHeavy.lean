/-
  What Heavy says of a log's steps.
-/
import Derived.Test.YtjmpagbjkehebaaWalSteps
import Derived.Test.YtjmpagbjkehebaaRows
set_option linter.unusedVariables false
set_option maxRecDepth 100000
namespace Go.Proofs.Ytjmpagbjkehebaa
open Go.RowKit

def wone (x : WStp) : Nat := x.k.size + (4 * min x.l.length 100 + tot x.l (min x.l.length 100))
def wbulk (l : List WStp) (k : Nat) : Nat := ((l.take k).map wone).sum
theorem wbulk_succ (l : List WStp) (k : Nat) (h : k < l.length) : wbulk l (k + 1) = wbulk l k + wone (l.getD k default) := by
  unfold wbulk
  rw [List.take_add_one, List.getElem?_eq_getElem h, List.map_append, List.sum_append]
  simp [List.getD_eq_getElem?_getD, h]
theorem wone_le (x : WStp) (h : x.Ok) : wone x ≤ 14214486323475000 := by
  have h1 := tot_le x.l (min x.l.length 100) 140737488351232 h.ls
  have h2 := h.k
  have h3 : min x.l.length 100 * 140737488351232 ≤ 100 * 140737488351232 := Nat.mul_le_mul_right _ (Nat.min_le_right _ _)
  unfold wone
  omega
theorem wbulk_le (l : List WStp) (h : ∀ x ∈ l, x.Ok) : ∀ k, k ≤ 100 → wbulk l k ≤ k * 14214486323475000
  | 0, _ => by simp [wbulk]
  | k + 1, hk => by
    by_cases hl : k < l.length
    · rw [wbulk_succ l k hl]
      have h1 := wbulk_le l h k (by omega)
      have h2 := wone_le (l.getD k default) (h _ (by rw [List.getD_eq_getElem?_getD, List.getElem?_eq_getElem hl]; exact List.getElem_mem _))
      omega
    · have h1 := wbulk_le l h k (by omega)
      have e : wbulk l (k + 1) = wbulk l k := by unfold wbulk; rw [List.take_of_length_le (by omega), List.take_of_length_le (by omega)]
      omega
theorem wone_in (l : List WStp) {x : WStp} (h : x ∈ l) : wone x ≤ wbulk l l.length := by
  unfold wbulk
  rw [List.take_length]
  induction l with
  | nil => simp at h
  | cons y r ih =>
    simp only [List.map_cons, List.sum_cons]
    rcases List.mem_cons.1 h with rfl | h
    · omega
    · have := ih h; omega

def WHeavySays (len : Nat) (l : List WStp) (w : World) (e : Ending) (w' : World) : Prop := ∃ b : Bool, e = .returned (.bool b) ∧ (b = false → len ≤ 60 ∧ ∀ x ∈ l, x.k.size ≤ 8192) ∧ w = w'

set_option maxHeartbeats 2000000 in
theorem wheavy_any (sectors : Int) (hsec : I64 sectors) (a : Option Addr) (len cap : Nat) (l : List WStp) (w : World) (hl : WStps a len l w) (hok : ∀ x ∈ l, x.Ok) (hlen : len ≤ 2513169434843) :
    Calls Try.prog 4 #[.int .i64 sectors, .slice a len cap] w (WHeavySays len l w) := by
  have hll := hl.1
  have Hl := Lib.hid hl; clear hl
  have Hok := Lib.hid hok; clear hok
  have Hsec := Lib.hid hsec; clear hsec
  go_enter Try.func4, Try.ntmps4
  go_wp2
  go_loop [5, 6] (fun nv iv => ∃ k : Nat, k ≤ len ∧ k ≤ 100 ∧ iv = .int .i64 (k : Int) ∧ nv = .int .i64 ((wbulk l k : Nat) : Int)) (fun _ iv => 100 - (intOf iv).toNat)
  case atStart => exact ⟨0, by omega, by omega, rfl, rfl⟩
  case round =>
    obtain ⟨k, hk, hk2, rfl, rfl⟩ := hrel
    have hb1 := wbulk_le l Hok.out k hk2
    have hb2 : wbulk l k ≤ 1421448632347500000 := by omega
    clear hb1
    by_cases hlt : k < len
    · by_cases h100 : k < 100
      · have hsucc := wbulk_succ l k (by rw [hll]; exact hlt)
        obtain ⟨b, off, rfl, hst⟩ := Hl.out.2 k hlt
        have hxo := Hok.out (l.getD k default) (by
          rw [List.getD_eq_getElem?_getD, List.getElem?_eq_getElem (by rw [hll]; exact hlt)]
          exact List.getElem_mem _)
        generalize l.getD k default = x at *
        have c2 := hst.l
        have c3 := hst.k
        have hxs := hxo.k
        have hxl := hxo.ll
        have h1 : (k : Int) < (len : Int) := by omega
        have h2 : (k : Int) < 100 := by omega
        generalize wbulk l k = B at *
        have Hst := Lib.hid hst.s; clear hst
        have Hsucc := Lib.hid hsucc; clear hsucc
        have Hxo := Lib.hid hxo; clear hxo
        go_wp2
        go_loop [5, 7] (fun nv jv => ∃ j : Nat, j ≤ x.l.length ∧ j ≤ 100 ∧ jv = .int .i64 (j : Int) ∧ nv = .int .i64 ((B + x.k.size + (4 * j + tot x.l j) : Nat) : Int)) (fun _ jv => 100 - (intOf jv).toNat)
        case atStart => exact ⟨0, by omega, by omega, rfl, by rw [tot_zero]; congr 1⟩
        case round =>
          obtain ⟨j, hj, hj2, rfl, rfl⟩ := hrel
          have hb3 := tot_le x.l j 140737488351232 Hxo.out.ls
          have hb4 : tot x.l j ≤ 14073748835123200 := by
            have : j * 140737488351232 ≤ 100 * 140737488351232 := Nat.mul_le_mul_right _ hj2
            omega
          clear hb3
          by_cases hlj : j < x.l.length
          · have g1 : (j : Int) < (x.l.length : Int) := by omega
            by_cases hj3 : j < 100
            · have g2 : (j : Int) < 100 := by omega
              have hts := tot_succ x.l j hlj
              obtain ⟨b', off', hla, hcs⟩ := Hst.out.2 j hlj
              have hzs := getD_size_le x.l 140737488351232 Hxo.out.ls j
              rw [hla] at c2
              generalize x.l.getD j .empty = y at *
              have Hts := Lib.hid hts; clear hts
              generalize hT : tot x.l j = T at *
              have HT := Lib.hid hT; clear hT
              go_wp2
              go_round
              case rel => exact ⟨j + 1, by omega, by omega, by go_num, by rw [Hts.out]; congr 1; omega⟩
              case measure => simp [intOf]; omega
            · have g2 : decide ((j : Int) < 100) = false := decide_eq_false (by omega)
              have g3 : (60 : Int) < (x.l.length : Int) := by omega
              go_wp2
              go_ret
              exact ⟨true, rfl, fun h => Bool.noConfusion h, rfl⟩
          · have g1 : decide ((j : Int) < (x.l.length : Int)) = false := decide_eq_false (by omega)
            obtain rfl : j = x.l.length := by omega
            by_cases h60 : 60 < x.l.length
            · have g3 : (60 : Int) < (x.l.length : Int) := by omega
              go_wp2
              go_ret
              exact ⟨true, rfl, fun h => Bool.noConfusion h, rfl⟩
            · have g3 : decide ((60 : Int) < (x.l.length : Int)) = false := decide_eq_false (by omega)
              go_wp2
              go_round
              case rel =>
                refine ⟨k + 1, by omega, by omega, by go_num, ?_⟩
                have e := Hsucc.out
                unfold wone at e
                rw [Nat.min_eq_left hj2] at e
                rw [e]; congr 1; omega
              case measure => simp [intOf]; omega
      · have h1 : (k : Int) < (len : Int) := by omega
        have h2 : decide ((k : Int) < 100) = false := decide_eq_false (by omega)
        have h3 : (60 : Int) < (len : Int) := by omega
        go_wp2
        go_ret
        exact ⟨true, rfl, fun h => Bool.noConfusion h, rfl⟩
    · obtain rfl : k = len := by omega
      have h1 : decide ((k : Int) < (k : Int)) = false := decide_eq_false (by omega)
      have hin := fun x hx => wone_in l (x := x) hx
      rw [hll] at hin
      have Hin := Lib.hid hin; clear hin
      generalize hB : wbulk l k = B at *
      have HB := Lib.hid hB; clear hB
      by_cases h60 : 60 < k
      · have g3 : (60 : Int) < (k : Int) := by omega
        go_wp2
        go_ret
        exact ⟨true, rfl, fun h => Bool.noConfusion h, rfl⟩
      · have g3 : decide ((60 : Int) < (k : Int)) = false := decide_eq_false (by omega)
        by_cases h8 : 8192 < B
        · have g4 : (8192 : Int) < (B : Int) := by omega
          go_wp2
          go_ret
          exact ⟨true, rfl, fun h => Bool.noConfusion h, rfl⟩
        · have g4 : decide ((8192 : Int) < (B : Int)) = false := decide_eq_false (by omega)
          go_wp2
          go_ret
          refine ⟨_, rfl, fun _ => ⟨by omega, fun x hx => ?_⟩, rfl⟩
          have := Hin.out x hx
          unfold wone at this
          omega
end Go.Proofs.Ytjmpagbjkehebaa
