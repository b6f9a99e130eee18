/-
  What the document's answers told and Sum return.
-/
import Derived.Test.YtdlcdbpigcmnbaaDoorShaRefSum
set_option linter.unusedVariables false
namespace Go.Proofs.YtdlcdbpigcmnbaaDoor
open Go.RowKit

/-- a slice of eight words, one of 64 -/
theorem h0_list : Sha.H0.list = [1779033703, 3144134277, 1013904242, 2773480762, 1359893119, 2600822924, 528734635, 1541459225] := rfl

set_option maxRecDepth 100000 in
set_option maxHeartbeats 4000000 in
theorem told_any (w : World) :
    Calls Tryd.prog 20 #[] w fun e w' => (∃ gk gh, e = .returned (.tuple #[.slice (some ⟨gk, 0, none⟩) 64 64, .slice (some ⟨gh, 0, none⟩) 8 8]) ∧ Num .u32 gk Sha.K0 w' ∧ Num .u32 gh Sha.H0.list w') ∧ Below w.heap.size w w' := by
  go_enter Tryd.func20, Tryd.ntmps20
  go_wp2
  go_ret2
  exact ⟨⟨w.heap.size, w.heap.size + 1, rfl, Num.of_cells (heap_alloc2_old _ _ _) (by kernel_rfl), Num.of_cells (heap_alloc2_new _ _ _) (by kernel_rfl)⟩, ((Below.refl _ w).alloc (Nat.le_refl _) _).alloc (by simp) _⟩

theorem refSum_any (s : ByteArray) (w : World) (hs : s.size ≤ 1048576) :
    Calls Tryd.prog 10 #[.string s] w fun e w' => e = .returned (.string ⟨(Sha.digest s.data.toList).toArray⟩) ∧ Below w.heap.size w w' := by
  have hd : (Sha.fo Sha.K0 Sha.H0 (s.data.toList ++ Sha.pad s.size) ((s.data.toList ++ Sha.pad s.size).length / 64)).text = Sha.digest s.data.toList := by
    unfold Sha.digest Sha.full
    rw [ba_len]
  have c2 := fun (gk gh : Nat) (u : World) (h1 : Num .u32 gh Sha.H0.list u) (h2 : Num .u32 gk Sha.K0 u) => rsum_any gh 8 gk 64 Sha.H0 Sha.K0 s u Sha.H0_ok h1 h2 rfl hs
  rw [hd] at c2
  have C2 := Lib.hid c2; clear c2
  clear hd
  go_enter Tryd.func10, Tryd.ntmps10
  go_wp2_with fail
  refine (told_any w).mono ?_; rintro e w1 ⟨⟨gk, gh, rfl, hk, hh⟩, hb⟩
  have HH := Lib.hid hh; clear hh
  have HK := Lib.hid hk; clear hk
  go_wp2_with fail
  refine (C2.out _ _ _ HH.out HK.out).mono ?_; rintro e w2 ⟨rfl, hb2⟩
  go_wp2_with fail
  go_ret
  exact ⟨rfl, hb.trans (hb2.mono hb.size)⟩
end Go.Proofs.YtdlcdbpigcmnbaaDoor
