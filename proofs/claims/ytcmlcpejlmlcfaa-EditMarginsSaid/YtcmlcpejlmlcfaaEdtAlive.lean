/-
  The chapter's examples: what the law's alive answers.
-/
import Derived.Test.YtcmlcpejlmlcfaaEdtBack
import Derived.Test.YtcmlcpejlmlcfaaEdtFresh
import Derived.Test.YtcmlcpejlmlcfaaEdtMargin
set_option linter.unusedVariables false
set_option maxRecDepth 100000
namespace Go.Proofs.Ytcmlcpejlmlcfaa
open Go.RowKit

def eA : ByteArray := ⟨#[97, 98, 99, 100]⟩
def eB : ByteArray := ⟨#[97, 88, 100]⟩
def eOld : List ByteArray := [⟨#[97]⟩, ⟨#[98]⟩]
def eNow : List ByteArray := [⟨#[98]⟩, ⟨#[99]⟩, ⟨#[97]⟩]
theorem eOf_is : (ofB eA eB).v = .agg #[.int .i64 1, .int .i64 2, .string ⟨#[88]⟩] := by
  have h1 : (ofB eA eB).a = 1 := by decide +kernel
  have h2 : (ofB eA eB).c = 2 := by decide +kernel
  have h3 : (ofB eA eB).p = ⟨#[88]⟩ := by decide +kernel
  unfold Ed.v
  rw [h1, h2, h3]
theorem eNo : ¬ (⟨4, 1, ⟨#[]⟩⟩ : Ed).May eA.size := by decide +kernel
theorem eFresh : freshL eOld eNow eNow.length = [1] := by decide +kernel
theorem eMg : MgR lcut0 ⟨#[]⟩ Ed.nil = .tuple #[.int .i64 0, .int .i64 0, .int .i64 2] := if_neg (fun h => lcut0_not h.2)
theorem eZ1 : ∀ j, (eOld.getD j .empty).size ≤ maxLen := fun j => by
  match j with
  | 0 => decide +kernel
  | 1 => decide +kernel
  | (j + 2) => simp [eOld, maxLen]
theorem eZ2 : ∀ j, (eNow.getD j .empty).size ≤ maxLen := fun j => by
  match j with
  | 0 => decide +kernel
  | 1 => decide +kernel
  | 2 => decide +kernel
  | (j + 3) => simp [eNow, maxLen]

set_option maxHeartbeats 2000000 in
theorem edtAlive_any (w : World) : Calls Try.prog 7 #[] w fun e w' => e = .returned (.bool true) ∧ Below w.heap.size w w' := by
  have c1 := fun u => of_any eA eB (by decide +kernel) (by decide +kernel) u
  rw [eOf_is] at c1
  have c2 := fun u => apply_any eA (by decide +kernel) ⟨4, 1, ⟨#[]⟩⟩ ⟨by decide, by decide⟩ (by decide +kernel) u
  simp only [if_neg eNo] at c2
  have c3 := fun v1 v2 u h1 h2 => fresh_any v1 v2 eOld eNow u h1 h2 (by decide +kernel) (by decide +kernel) eZ1 eZ2
  rw [eFresh] at c3
  have c4 := fun u => margin_any lcut0 (by decide) ⟨#[]⟩ Ed.nil ⟨by decide, by decide⟩ ⟨by decide +kernel, by decide +kernel⟩ (by decide +kernel) u
  rw [eMg] at c4
  unfold Ctr.v Ed.v at *
  have hA : eA = ⟨#[97, 98, 99, 100]⟩ := rfl
  have hB : eB = ⟨#[97, 88, 100]⟩ := rfl
  rw [hA] at c1 c2
  rw [hB] at c1
  have C1 := Lib.hid c1; clear c1
  have C2 := Lib.hid c2; clear c2
  have C3 := Lib.hid c3; clear c3
  have C4 := Lib.hid c4; clear c4
  clear hA hB
  go_enter Try.func7, Try.ntmps7
  go_wp2_with fail
  refine (C1.out _).mono ?_; rintro e w1 ⟨rfl, h1⟩
  have H1 := Lib.hid h1; clear h1
  have hx1 := EdAt.box (⟨1, 2, ⟨#[88]⟩⟩ : Ed) w1
  have hb1 := H1.out.trans ((box_below w1 (.cells #[.int .i64 1, .int .i64 2, .string ⟨#[88]⟩] 23)).mono H1.out.size)
  have Hx1 := Lib.hid hx1; clear hx1
  have Hb1 := Lib.hid hb1; clear hb1
  go_wp2_with fail
  refine (C2.out _).mono ?_; rintro e w2 ⟨rfl, h2⟩
  have hx2 := Hx1.out.new h2
  have hb2 := Hb1.out.trans (h2.mono Hb1.out.size)
  have hbY : Below w2.heap.size w2 ((w2.alloc (.cells #[.string ⟨#[97]⟩, .string ⟨#[98]⟩] 9)).alloc (.cells #[.string ⟨#[98]⟩, .string ⟨#[99]⟩, .string ⟨#[97]⟩] 9)) := (box_below w2 _).alloc (by simp) _
  have hr1 : ((w2.alloc (.cells #[.string ⟨#[97]⟩, .string ⟨#[98]⟩] 9)).alloc (.cells #[.string ⟨#[98]⟩, .string ⟨#[99]⟩, .string ⟨#[97]⟩] 9)).heap[w2.heap.size]? = some (.cells (eOld.map Value.string).toArray 9 (0, 0)) := row_alloc (heap_alloc_new _ _) _
  have hr2 : ((w2.alloc (.cells #[.string ⟨#[97]⟩, .string ⟨#[98]⟩] 9)).alloc (.cells #[.string ⟨#[98]⟩, .string ⟨#[99]⟩, .string ⟨#[97]⟩] 9)).heap[w2.heap.size + 1]? = some (.cells (eNow.map Value.string).toArray 9 (0, 0)) := by
    have := heap_alloc_new (w2.alloc (.cells #[.string ⟨#[97]⟩, .string ⟨#[98]⟩] 9)) (.cells #[.string ⟨#[98]⟩, .string ⟨#[99]⟩, .string ⟨#[97]⟩] 9)
    rw [World.size_alloc] at this; exact this
  have s1 := SRd.made hr1
  have s2 := SRd.made hr2
  have cf := C3.out _ _ _ s1 s2
  have e1 : eOld.length = 2 := rfl
  have e2 : eNow.length = 3 := rfl
  rw [e1, e2] at cf
  have hx3 := hx2.new hbY
  have hb3 := hb2.trans (hbY.mono hb2.size)
  have Cf := Lib.hid cf; clear cf
  have Hx3 := Lib.hid hx3; clear hx3
  have Hb3 := Lib.hid hb3; clear hb3
  clear hx2 hb2 hbY hr1 hr2 s1 s2 e1 e2 h2
  go_wp2_with fail
  refine Cf.out.mono ?_; rintro e w4 ⟨v4, rfl, hv4, h4⟩
  have hx4 := Hx3.out.new h4
  have hb4 := Hb3.out.trans (h4.mono Hb3.out.size)
  have Hx4 := Lib.hid hx4; clear hx4
  have Hb4 := Lib.hid hb4; clear hb4 h4
  have Hv4 := Lib.hid hv4; clear hv4
  go_wp2_with fail
  refine (C4.out _).mono ?_; rintro e w5 ⟨rfl, h5⟩
  have hx5 := Hx4.out.new h5
  have hb5 := Hb4.out.trans (h5.mono Hb4.out.size)
  obtain ⟨a5, k5, rfl, hk5, hf5⟩ := Hv4.out.new h5
  obtain ⟨b5, rfl, hc5⟩ := hf5 0 (by decide)
  have hd5 : w5.cell? ⟨b5, 0, none⟩ = some (.int .i64 1) := hc5
  have d0 := hx5.c0
  have d1 := hx5.c1
  have d2 := hx5.c2
  simp only at d0 d1 d2
  have hk : 0 < k5 := hk5
  have Hb5 := Lib.hid hb5; clear hb5
  clear hx5 h5 hf5 hc5 hk5
  go_wp2_with fail
  go_ret
  exact ⟨rfl, Hb5.out⟩
end Go.Proofs.Ytcmlcpejlmlcfaa
