/-
  wal's follow: steps that are function values, one after another, up to the first error.
-/
import Derived.Test.YtjmpagbjkehebaaRows
import Derived.Test.YtjmpagbjkehebaaGoAll
import Derived.Shelf.Abstract
set_option linter.unusedVariables false
namespace Go.Proofs.Ytjmpagbjkehebaa
open Go.RowKit

/-- how far the steps came -/
def Went (n : Nat) (ee : Nat → Int) (I : Nat → World → Prop) (e : Ending) (w' : World) : Prop :=
  ∃ m, m ≤ n ∧ (∀ j, j < m → ee j = 0) ∧ ((m = n ∧ e = .returned (.int .i64 0) ∧ I n w') ∨ (m < n ∧ ee m ≠ 0 ∧ e = .returned (.int .i64 (ee m)) ∧ I (m + 1) w'))

set_option maxHeartbeats 400000 in
theorem follow_any (b n : Nat) (g : Nat → Nat) (lb : Nat → Array Value) (eg : ∀ i, i < n → ∀ args w, (callFunc (g i) args).run Try.prog w = .ok (.enter (g i) args) w)
    (ee : Nat → Int) (I : Nat → World → Prop) (hn : n ≤ 100) (w : World)
    (hcell : ∀ k W, I k W → ∀ i, i < n → W.cell? ⟨b, i, none⟩ = some (.func (.func (g i)) #[] (lb i)))
    (hstep : ∀ k W, k < n → (∀ j, j < k → ee j = 0) → I k W → Calls Try.prog (g k) (lb k) W fun e W' => e = .returned (.int .i64 (ee k)) ∧ I (k + 1) W')
    (h0 : I 0 w) : Calls Try.prog 20 #[.slice (some ⟨b, 0, none⟩) n n] w (Went n ee I) := by
  have Hcell := Lib.hid hcell; clear hcell
  have Hstep := Lib.hid hstep; clear hstep
  go_enter Try.func20, Try.ntmps20
  go_wp2
  go_loopw [8] (fun i wr => ∃ k : Nat, k ≤ n ∧ i = .int .i64 k ∧ (∀ j, j < k → ee j = 0) ∧ I k wr) (fun i _ => n - (intOf i).toNat)
  case atStart => exact ⟨0, by omega, rfl, fun j hj => by omega, h0⟩
  case round =>
    obtain ⟨k, hk, rfl, hz, hI⟩ := hrel
    by_cases hlt : k < n
    · have hc := Hcell.out k _ hI k hlt
      have hlt2 : (k : Int) < (n : Int) := by omega
      have egk := eg k hlt
      have hst := Hstep.out k _ hlt hz hI
      have Hz0 := Lib.hid hz; clear hz
      by_cases he : ee k = 0
      · have hz' : ∀ j, j < k + 1 → ee j = 0 := fun j hj => by
          by_cases hjk : j < k
          · exact Hz0.out j hjk
          · obtain rfl : j = k := by omega
            exact he
        rw [he] at hst
        have Hz1 := Lib.hid hz'; clear hz'
        have Hst := Lib.hid hst; clear hst
        generalize hgk : g k = gk at *
        go_wp2_with (go_at_fn gk; refine Hst.out.mono ?_; rintro e w' ⟨rfl, hI2⟩)
        go_roundw
        case rel => exact ⟨k + 1, by omega, by go_num, Hz1.out, hI2⟩
        case measure => simp [intOf]; omega
      · have hne : (ee k != 0) = true := by rw [bne_iff_ne]; exact he
        have Hst := Lib.hid hst; clear hst
        generalize hgk : g k = gk at *
        go_wp2_with (go_at_fn gk; refine Hst.out.mono ?_; rintro e w' ⟨rfl, hI2⟩)
        go_ret
        exact ⟨k, by omega, Hz0.out, .inr ⟨hlt, he, rfl, hI2⟩⟩
    · obtain rfl : k = n := by omega
      have Hz0 := Lib.hid hz; clear hz
      go_wp2
      go_ret
      exact ⟨k, by omega, Hz0.out, .inl ⟨rfl, rfl, hI⟩⟩
end Go.Proofs.Ytjmpagbjkehebaa
