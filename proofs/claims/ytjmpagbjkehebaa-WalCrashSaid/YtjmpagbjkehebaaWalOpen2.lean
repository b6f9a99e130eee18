/-
  What Open returns: the log that is there, or none.
-/
import Derived.Test.YtjmpagbjkehebaaWalOpen
set_option linter.unusedVariables false
set_option maxRecDepth 100000
namespace Go.Proofs.Ytjmpagbjkehebaa
open Go.RowKit

/-- what was opened: no log and an error, or a log, whose blocks are new -/
def OpenR (r : Option Wal.St × Int) (p : Nat) (w : World) (e : Ending) (w' : World) : Prop :=
  Below w.heap.size w w' ∧ ((r.1 = none ∧ r.2 ≠ 0 ∧ e = .returned (.tuple #[.pointer none, .int .i64 r.2])) ∨
    ∃ s R q, r.1 = some s ∧ r.2 = 0 ∧ e = .returned (.tuple #[.pointer (some ⟨q, 0, none⟩), .int .i64 0]) ∧ WalAt R q p s w' ∧ ∀ j, R j → w.heap.size ≤ j)

theorem below_turns {w w0 w' : World} (hb : Below w.heap.size w w0) (ht : Turns (OpT w.heap.size) w0 w') : Below w.heap.size w w' :=
  ⟨ht.os.trans hb.os, ht.tape.trans hb.tape, ht.output.trans hb.output, Nat.le_trans hb.size ht.size, fun j hj => by
    rw [ht.block j (Nat.lt_of_lt_of_le hj hb.size) (by unfold OpT; omega)]; exact hb.block j hj⟩

section
variable {S : Nat → Prop} {p : Nat} {d : Dsk.St} {w : World}
theorem open_any (h : DiskAt S p d w) (k n : Nat) (h2 : 2 ≤ n) (hfit : k + n ≤ d.n) :
    Calls Try.prog 7 #[.pointer (some ⟨p, 0, none⟩), .int .i64 (k : Int), .int .i64 (n : Int)] w (OpenR (Wal.open_ d (k : Int) (n : Int)) p w) := by
  have hbel : ∀ x y z : Obj, Below w.heap.size w (((w.alloc x).alloc y).alloc z) := fun x y z => (((Below.refl _ w).alloc (Nat.le_refl _) _).alloc (by simp) _).alloc (by simp; omega) _
  have Hbel := Lib.hid hbel; clear hbel
  have hx : decide ((n : Int) < 2) = false := decide_eq_false (by omega)
  have hdn := h.ok.hi
  have hok := h.ok
  have hh := fun (u : World) (hu : DiskAt S p d u) => walHas_any hu (k : Int) (n : Int) ⟨by omega, by omega⟩ ⟨by omega, by omega⟩
  have hc := hh _ (h.new (Hbel.out (.cells #[.pointer (some ⟨p, 0, none⟩)] 25) (.cells #[.int .i64 (k : Int)] 3) (.cells #[.int .i64 (n : Int)] 3)))
  rw [decide_eq_true (show 0 ≤ (k : Int) ∧ (n : Int) ≤ (d.n : Int) - (k : Int) by omega)] at hc
  have Hc := Lib.hid hc; clear hc
  have H := Lib.hid h; clear h
  have Hok := Lib.hid hok; clear hok
  clear hh
  obtain ⟨B, hBw⟩ : ∃ B, w.heap.size = B := ⟨_, rfl⟩
  have HB := Lib.hid hBw
  obtain ⟨W0, hW0⟩ : ∃ W0, W0 = (((((((w.alloc (.cells #[.pointer (some ⟨p, 0, none⟩)] 25)).alloc (.cells #[.int .i64 (k : Int)] 3)).alloc (.cells #[.int .i64 (n : Int)] 3)).alloc
    (.cells (opcells p k n 0 0 (.slice none 0 0)) 57)).alloc (.cells #[.pointer (some ⟨B + 3, 0, none⟩)] 29)).alloc (.cells #[.string ⟨#[]⟩] 9)).alloc (.cells #[.string ⟨#[]⟩] 9)).alloc (.cells (opFuncs B) 37) := ⟨_, rfl⟩
  have hb0 : Below B w W0 := by
    rw [hW0]
    have hz := hBw
    exact (((((((((Below.refl B w).alloc (by omega) _).alloc (by simp; omega) _).alloc (by simp; omega) _).alloc (by simp; omega) _).alloc (by simp; omega) _).alloc (by simp; omega) _).alloc (by simp; omega) _).alloc (by simp; omega) _)
  have hO : Opn S p d B k n 0 0 (.slice none 0 0) ⟨#[]⟩ ⟨#[]⟩ W0 := by
    refine ⟨H.out.new (by rw [hBw]; exact hb0), fun j hj => by rw [← hBw]; exact H.out.lt j hj, ?_, ?_, ?_, ?_, ?_, ?_, ?_⟩
    all_goals rw [hW0]
    · exact row_alloc (row_alloc (row_alloc (row_alloc (row_alloc (row_alloc (row_alloc (alloc_at _ _ _ hBw) _) _) _) _) _) _) _
    · exact row_alloc (row_alloc (row_alloc (row_alloc (row_alloc (row_alloc (alloc_at _ _ _ (by simp [hBw])) _) _) _) _) _) _
    · exact row_alloc (row_alloc (row_alloc (row_alloc (row_alloc (alloc_at _ _ _ (by simp [hBw])) _) _) _) _) _
    · exact row_alloc (row_alloc (row_alloc (row_alloc (alloc_at _ _ _ (by simp [hBw])) _) _) _) _
    · exact row_alloc (row_alloc (row_alloc (alloc_at _ _ _ (by simp [hBw])) _) _) _
    · exact row_alloc (row_alloc (alloc_at _ _ _ (by simp [hBw])) _) _
    · exact row_alloc (alloc_at _ _ _ (by simp [hBw])) _
  have hF : W0.heap[B + 7]? = some (.cells (opFuncs B) 37 (0, 0)) := by rw [hW0]; exact alloc_at _ _ _ (by simp [hBw])
  have hfo := op_follow h2 hfit hdn Hok.out W0 hO hF
  have HW := Lib.hid hW0; clear hW0
  have HO := Lib.hid hO; clear hO
  have Hb0 := Lib.hid hb0; clear hb0
  have HF := Lib.hid hF; clear hF
  have Hfo := Lib.hid hfo; clear hfo
  clear hBw
  go_enter Try.func7, Try.ntmps7
  go_wp2_with fail
  refine Hc.out.mono ?_; rintro e w1 ⟨rfl, rfl⟩
  go_wp2_with fail
  have hbe := HB.out
  subst hbe
  have hw := HW.out
  clear HW
  subst hw
  refine Calls.mono Hfo.out ?_
  rintro e W ⟨m, hm, hz, hcase⟩
  obtain ⟨o0, o1, o2, o3, o4⟩ := open_eval (d := d) (k := k) h2 hfit
  rcases hcase with ⟨rfl, rfl, hT, v, hI, hG⟩ | ⟨hlt, hne, rfl, hT, hI⟩
  · have hbw := below_turns Hb0.out hT
    have z0 := hz 0 (by omega)
    have z1 := hz 1 (by omega)
    have z3 := hz 3 (by omega)
    obtain ⟨L, hL, ho⟩ := o4 z0 z1 z3
    have hgr := hG L hL
    have hres : OpenR (Wal.open_ d (k : Int) (n : Int)) p w (.returned (.tuple #[.pointer (some ⟨w.heap.size + 3, 0, none⟩), .int .i64 0])) W := by
      refine ⟨hbw, .inr ⟨⟨opGen d k n, opU d k n, k, n, L, 0⟩, fun j => w.heap.size ≤ j ∧ j < W.heap.size, w.heap.size + 3, by rw [ho], by rw [ho], rfl, ⟨v, ⟨by omega, row_lt hI.b3⟩, hI.b3, hgr.grow (fun j hj => ⟨by omega, hj.2⟩) (fun j hj => hj.2)⟩, fun j hj => hj.1⟩⟩
    have c4 := hI.c4
    have Hres := Lib.hid hres; clear hres
    clear hI hG hgr hT hbw o0 o1 o2 o3 o4 hz z0 z1 z3 ho hL hdn
    go_wp2_with fail
    go_ret2
    exact Hres.out
  · have hbw : Below w.heap.size w W := below_turns Hb0.out hT
    have hres : OpenR (Wal.open_ d (k : Int) (n : Int)) p w (.returned (.tuple #[.pointer none, .int .i64 (opE d k n m)])) W := by
      have ho : Wal.open_ d (k : Int) (n : Int) = (none, opE d k n m) := by
        match m, hlt, hz, hne with
        | 0, _, _, hne => exact o0 hne
        | 1, _, hz, hne => exact o1 (hz 0 (by omega)) hne
        | 2, _, hz, hne => exact absurd (o2 (hz 0 (by omega))).1 hne
        | 3, _, hz, hne => exact o3 (hz 0 (by omega)) (hz 1 (by omega)) hne
        | (q + 4), h, _, _ => exact absurd h (by omega)
      exact ⟨hbw, .inl ⟨by rw [ho], by rw [ho]; exact hne, by rw [ho]⟩⟩
    have hx2 : (opE d k n m != 0) = true := by rw [bne_iff_ne]; exact hne
    generalize opE d k n m = E at *
    have Hres := Lib.hid hres; clear hres
    clear hI hT hbw o0 o1 o2 o3 o4 hz hdn hne
    go_wp2_with fail
    go_ret2
    exact Hres.out
end
end Go.Proofs.Ytjmpagbjkehebaa
