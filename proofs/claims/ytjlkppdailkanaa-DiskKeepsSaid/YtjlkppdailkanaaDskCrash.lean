/-
  Flush and Crash.
-/
import Derived.Test.YtjlkppdailkanaaDskSettle
import Derived.Test.YtjlkppdailkanaaDskWrite
set_option linter.unusedVariables false
namespace Go.Proofs.Ytjlkppdailkanaa
namespace Dsk
/-- behind a crash -/
def crash (d : St) (keep : List UInt8) : St := { settle d keep with fuse := -1, down := false }
end Dsk
open Go.RowKit

section
variable {S : Nat → Prop} {p : Nat} {d : Dsk.St} {w : World}
theorem flush_down (h : DiskAt S p d w) (hd : d.down = true) : Calls Try.prog 15 #[.pointer (some ⟨p, 0, none⟩)] w fun e w' => e = .returned (.int .i64 40) ∧ w = w' := by
  obtain ⟨bF, bM, v, nf, DF, h⟩ := h
  have c5 := h.c5
  rw [hd] at c5
  clear h hd
  go_enter Try.func15, Try.ntmps15
  go_wp2
  go_ret
  exact ⟨rfl, rfl⟩
theorem flush_any (h : DiskAt S p d w) (hd : d.down = false) (hops : d.ops ≤ 1099511627776) : Calls Try.prog 15 #[.pointer (some ⟨p, 0, none⟩)] w fun e w' => e = .returned (.int .i64 0) ∧ Turns S w w' ∧ ∃ S', (∀ j, S' j → S j ∨ w.heap.size ≤ j) ∧ DiskAt S' p (Dsk.settle d [1]) w' := by
  have hst := settle_any h ⟨#[1]⟩ (by decide) hops
  obtain ⟨bF, bM, v, nf, DF, h⟩ := h
  have c5 := h.c5
  rw [hd] at c5
  have Hst := Lib.hid hst; clear hst
  clear h hd
  go_enter Try.func15, Try.ntmps15
  go_wp2_with fail
  refine Hst.out.mono ?_; rintro e w' ⟨rfl, ht, hS⟩
  have Ht := Lib.hid ht; clear ht
  have HS := Lib.hid hS; clear hS
  go_wp2_with fail
  go_ret
  exact ⟨rfl, Ht.out, HS.out⟩

theorem crash_any (h : DiskAt S p d w) (keep : ByteArray) (hks : keep.size ≤ 1099511627776) (hops : d.ops ≤ 1099511627776) : Calls Try.prog 17 #[.pointer (some ⟨p, 0, none⟩), .string keep] w fun e w' => e = .returned (.int .i64 0) ∧ Turns S w w' ∧ ∃ S', (∀ j, S' j → S j ∨ w.heap.size ≤ j) ∧ DiskAt S' p (Dsk.crash d keep.data.toList) w' := by
  have hst := settle_any h keep hks hops
  have hp := h.hp
  have Hst := Lib.hid hst; clear hst
  clear h
  go_enter Try.func17, Try.ntmps17
  go_wp2_with fail
  refine Hst.out.mono ?_; rintro e w2 ⟨rfl, ht, S', hS, bF, bM, v, nf, DF, h⟩
  have c4 := h.c4
  have c5 := h.c5
  have f4 := h.free 4
  have f5 := h.free 5
  have h5 := (h.set4 (-1) ⟨by omega, by omega⟩).set5 false
  have t5 : Turns S w ((w2.setCell ⟨p, 4, none⟩ (.int .i64 (-1))).setCell ⟨p, 5, none⟩ (.bool false)) := (ht.set p 4 _ (fun _ => hp)).set p 5 _ (fun _ => hp)
  have H5 := Lib.hid h5; clear h5
  have T5 := Lib.hid t5; clear t5
  have HS := Lib.hid hS; clear hS
  clear h ht
  go_wp2_with fail
  go_ret
  exact ⟨rfl, T5.out, S', HS.out, bF, bM, v, nf, DF, H5.out⟩
end
end Go.Proofs.Ytjlkppdailkanaa
