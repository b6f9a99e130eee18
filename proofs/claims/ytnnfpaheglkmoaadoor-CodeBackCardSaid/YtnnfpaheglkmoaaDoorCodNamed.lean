/-
  Which op has a name: code.named.
-/
import Derived.Test.YtnnfpaheglkmoaaDoorCodRead
set_option linter.unusedVariables false
set_option maxRecDepth 100000
namespace Go.Proofs.YtnnfpaheglkmoaaDoor
open Go.RowKit

theorem nm_index (k : Nat) (hk : k < 24) (u : World) : (Instr.index 63 (.agg nmA) (.int .i64 (k : Int))).run Tryd.prog u = .ok (.string (nmS k)) u := by
  have h1 : nmA[k]? = some (.string (nmS k)) := by
    unfold nmA nmS
    rw [List.getElem?_toArray, List.getElem?_map, List.getD_eq_getElem?_getD, List.getElem?_eq_getElem (show k < Cod.names.length from hk)]
    rfl
  simp [Instr.index, go_sem, h1]
  intro h
  omega
theorem nmS_inj {a b : Nat} (ha : a < 24) (hb : b < 24) (h : nmS a = nmS b) : a = b := by
  unfold nmS at h
  have := congrArg (fun x : ByteArray => x.data.toList) h
  exact Cod.names_inj a ha b hb (by simpa using this)

set_option maxHeartbeats 1000000 in
theorem named_any (s : ByteArray) (w : World) (h : Kn w) : Calls Tryd.prog 32 #[.string s] w fun e w' => (∃ k : Nat, k < 24 ∧ e = .returned (.int .u8 (k : Int)) ∧ ∀ j, j < 24 → nmS j = s → k = j) ∧ w' = w := by
  have hrow : ∃ T fr, w.heap[0]? = some (.cells nmA T fr) := by
    have hr := h.row
    unfold World.var? at hr
    rw [show Tryd.prog.globalNamed "maslin/code.names" = some 0 by kernel_rfl] at hr
    simp only [Option.bind_some] at hr
    split at hr
    · rename_i cs T fr hh
      obtain rfl := Option.some.inj hr
      exact ⟨T, fr, hh⟩
    · cases hr
  obtain ⟨T, fr, hrow⟩ := hrow
  have hix := nm_index
  have hsz : (Tryd.prog.info? 63).map (·.size) = some nmA.size := by kernel_rfl
  obtain ⟨N, hN⟩ : ∃ N, N = nmA := ⟨_, rfl⟩
  rw [← hN] at hrow hix hsz
  have Hrow := Lib.hid hrow; clear hrow
  have Hsz := Lib.hid hsz; clear hsz
  have Hix := Lib.hid hix; clear hix
  clear h hN
  go_enter Tryd.func32, Tryd.ntmps32
  go_wp2_with (with_reducible refine wpList_load_row rfl 63 (.global 0) rfl 0 rfl _ N _ _ Hrow.out Tryd.underlying63 rfl Hsz.out ?_)
  go_loopw [6] (fun i wr => ∃ k : Nat, k ≤ 24 ∧ i = .int .i64 (k : Int) ∧ (∀ j, j < k → nmS j ≠ s) ∧ wr = w) (fun i _ => 24 - (intOf i).toNat)
  case atStart => exact ⟨0, Nat.zero_le _, rfl, fun j hj => by omega, rfl⟩
  case round =>
    obtain ⟨k, hk, rfl, hz, rfl⟩ := hrel
    have Hz := Lib.hid hz; clear hz
    by_cases hlt : k < 24
    · have d1 : decide ((k : Int) < (24 : Int)) = true := decide_eq_true (by omega)
      have hi := Hix.out k hlt
      obtain ⟨y, hy⟩ : ∃ y, y = nmS k := ⟨_, rfl⟩
      rw [← hy] at hi
      have hw : IntKind.u8.wrap (k : Int) = (k : Int) := by simp only [IntKind.wrap_u8]; omega
      by_cases he : y = s
      · subst he
        have Hy := Lib.hid hy; clear hy
        go_wp2_with fail
        go_ret
        exact ⟨⟨k, hlt, rfl, fun j hj e => nmS_inj hlt hj (by rw [e, Hy.out])⟩, rfl⟩
      · have heq : (y.toList == s.toList) = false := by
          refine beq_eq_false_iff_ne.2 (fun e => he (ba_toList_inj e))
        have He := Lib.hid he; clear he
        have Hy := Lib.hid hy; clear hy
        go_wp2_with fail
        go_roundw
        case rel => exact ⟨k + 1, by omega, by go_num, fun j hj => by
          by_cases e : j = k
          · subst e; rw [← Hy.out]; exact He.out
          · exact Hz.out j (by omega), trivial⟩
        case measure => simp [intOf]; omega
    · obtain rfl : k = 24 := by omega
      go_wp2_with fail
      go_ret
      exact ⟨⟨0, by omega, rfl, fun j hj e => (Hz.out j hj e).elim⟩, rfl⟩
end Go.Proofs.YtnnfpaheglkmoaaDoor
