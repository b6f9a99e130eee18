/-
  Files in memory; its methods that only read.
-/
import Derived.Test.YtalklpnekbfehaaGreatFilNames
import Derived.Test.YtalklpnekbfehaaGreatFilLay
set_option linter.unusedVariables false
set_option maxRecDepth 100000
namespace Go.Proofs.YtalklpnekbfehaaGreat
open Go.RowKit

namespace Fil
/-- files on a disk of n sectors: whether the header names an area, which, its sequence number; the files; the fault -/
structure St where
  nm : Bool
  a : Nat
  q : Nat
  n : Nat
  r : Row
  err : Int
end Fil
/-- the cells of a Files: pd the disk, pw the log, bm the map -/
def fcells (s : Fil.St) (pd pw bm : Nat) : Array Value :=
  #[.bool s.nm, .int .i64 (s.a : Int), .int .u64 (s.q : Int), .pointer (some ⟨pd, 0, none⟩),
    .pointer (some ⟨pd, 0, none⟩), .int .i64 (Fil.arAt s.n : Int), .int .i64 (Fil.arN s.n : Int), .pointer (some ⟨pd, 0, none⟩), .int .i64 ((Fil.arAt s.n + Fil.arN s.n : Nat) : Int), .int .i64 (Fil.arN s.n : Int),
    .pointer (some ⟨pw, 0, none⟩), .map (some bm), .int .i64 s.err]
/-- a Files in block p; what it has of the map's -/
structure FilRow (p pd pw bm : Nat) (s : Fil.St) (w : World) : Prop where
  row : w.heap[p]? = some (.cells (fcells s pd pw bm) 76 (0, 0))
  mp : ∃ nn, ContAt bm nn s.r w
  srt : Fil.Sorted s.r
  fine : Fil.Fine s.r
  sum : Fil.sum s.r ≤ 1099511627

section
variable {p pd pw bm : Nat} {s : Fil.St} {w : World}
theorem FilRow.cell (h : FilRow p pd pw bm s w) (i : Nat) : w.cell? ⟨p, i, none⟩ = (fcells s pd pw bm)[i]? := cell_of_row w p i _ _ _ h.row
theorem FilRow.new {w' : World} (h : FilRow p pd pw bm s w) (hb : Below w.heap.size w w') : FilRow p pd pw bm s w' :=
  ⟨by rw [hb.block _ (row_lt h.row)]; exact h.row, by obtain ⟨nn, hm⟩ := h.mp; exact ⟨nn, hm.new hb⟩, h.srt, h.fine, h.sum⟩
theorem FilRow.len (h : FilRow p pd pw bm s w) : s.r.length ≤ 1099511627 := by have := Fil.len_used s.r; have := h.sum; omega

theorem fget_any (h : FilRow p pd pw bm s w) (nm : ByteArray) (hn : nm.size ≤ 281474976710656) :
    Calls Tryz.prog 23 #[.pointer (some ⟨p, 0, none⟩), .string nm] w fun e w' => e = .returned (.tuple #[.string (ba ((Fil.get s.r nm.data.toList).getD [])), .bool (Fil.get s.r nm.data.toList).isSome]) ∧ Below w.heap.size w w' := by
  have c11 : w.cell? ⟨p, 11, none⟩ = some (.map (some bm)) := h.cell 11
  obtain ⟨nn, hm⟩ := h.mp
  have hlk := look2_any hm nm (by unfold maxLen; omega)
  have hsz : (ba ((Fil.get s.r nm.data.toList).getD [])).size ≤ 281474976710656 := by
    rw [ba_size]
    cases hg : Fil.get s.r nm.data.toList with
    | none => simp
    | some d =>
      have := h.fine _ (Fil.get_mem hg)
      simp only [Option.getD_some] at this ⊢
      omega
  have hcl := fun u => clone_any (ba ((Fil.get s.r nm.data.toList).getD [])) u hsz
  generalize ba ((Fil.get s.r nm.data.toList).getD []) = X at *
  generalize (Fil.get s.r nm.data.toList).isSome = b at *
  have Hcl := Lib.hid hcl; clear hcl
  have hb : Below w.heap.size w (w.alloc (.cells #[.string X] 81)) := (Below.refl _ w).alloc (Nat.le_refl _) _
  clear h hm hsz
  go_enter Tryz.func23, Tryz.ntmps23
  go_wp2_with fail
  refine (Hcl.out _).mono ?_; rintro e w1 ⟨rfl, h1⟩
  go_wp2_with fail
  go_ret2
  exact ⟨rfl, hb.trans (h1.mono hb.size)⟩
theorem fget_nil (nm : ByteArray) : Calls Tryz.prog 23 #[.pointer none, .string nm] w fun e w' => e = .returned (.tuple #[.string ⟨#[]⟩, .bool false]) ∧ w = w' := by
  go_enter Tryz.func23, Tryz.ntmps23
  go_wp2
  go_ret2
  exact ⟨rfl, rfl⟩
theorem fsize_any (h : FilRow p pd pw bm s w) (nm : ByteArray) (hn : nm.size ≤ 281474976710656) :
    Calls Tryz.prog 14 #[.pointer (some ⟨p, 0, none⟩), .string nm] w fun e w' => e = .returned (.int .i64 ((((Fil.get s.r nm.data.toList).getD []).length : Nat) : Int)) ∧ w = w' := by
  have c11 : w.cell? ⟨p, 11, none⟩ = some (.map (some bm)) := h.cell 11
  obtain ⟨nn, hm⟩ := h.mp
  have hlk := look_any hm nm (by unfold maxLen; omega)
  have hl : ((Fil.get s.r nm.data.toList).getD []).length = (ba ((Fil.get s.r nm.data.toList).getD [])).size := (ba_size _).symm
  rw [hl]
  clear hl
  generalize ba ((Fil.get s.r nm.data.toList).getD []) = X at *
  have hfd : (Instr.field 81 (.agg #[.string X]) 0).run Tryz.prog w = .ok (.string X) w := by kernel_rfl
  clear h hm
  go_enter Tryz.func14, Tryz.ntmps14
  go_wp2
  go_ret
  exact ⟨rfl, rfl⟩
theorem fsize_nil (nm : ByteArray) : Calls Tryz.prog 14 #[.pointer none, .string nm] w fun e w' => e = .returned (.int .i64 0) ∧ w = w' := by
  go_enter Tryz.func14, Tryz.ntmps14
  go_wp2
  go_ret
  exact ⟨rfl, rfl⟩
theorem fused_any (h : FilRow p pd pw bm s w) : Calls Tryz.prog 12 #[.pointer (some ⟨p, 0, none⟩)] w fun e w' => e = .returned (.int .i64 ((Fil.used s.r : Nat) : Int)) ∧ Below w.heap.size w w' := by
  have c11 : w.cell? ⟨p, 11, none⟩ = some (.map (some bm)) := h.cell 11
  obtain ⟨nn, hm⟩ := h.mp
  have hz := size_any bm nn s.r w hm h.srt (by have := h.sum; omega)
  have Hz := Lib.hid hz; clear hz
  clear h hm
  go_enter Tryz.func12, Tryz.ntmps12
  go_wp2_with fail
  refine Hz.out.mono ?_; rintro e w1 ⟨rfl, h1⟩
  go_wp2_with fail
  go_ret
  exact ⟨rfl, h1⟩
theorem fused_nil : Calls Tryz.prog 12 #[.pointer none] w fun e w' => e = .returned (.int .i64 0) ∧ w = w' := by
  go_enter Tryz.func12, Tryz.ntmps12
  go_wp2
  go_ret
  exact ⟨rfl, rfl⟩
theorem ffault_any (h : FilRow p pd pw bm s w) : Calls Tryz.prog 15 #[.pointer (some ⟨p, 0, none⟩)] w fun e w' => e = .returned (.int .i64 s.err) ∧ w = w' := by
  have c12 : w.cell? ⟨p, 12, none⟩ = some (.int .i64 s.err) := h.cell 12
  clear h
  go_enter Tryz.func15, Tryz.ntmps15
  go_wp2
  go_ret
  exact ⟨rfl, rfl⟩
theorem ffault_nil : Calls Tryz.prog 15 #[.pointer none] w fun e w' => e = .returned (.int .i64 0) ∧ w = w' := by
  go_enter Tryz.func15, Tryz.ntmps15
  go_wp2
  go_ret
  exact ⟨rfl, rfl⟩
theorem fdisk_any (h : FilRow p pd pw bm s w) : Calls Tryz.prog 16 #[.pointer (some ⟨p, 0, none⟩)] w fun e w' => e = .returned (.pointer (some ⟨pd, 0, none⟩)) ∧ w = w' := by
  have c3 : w.cell? ⟨p, 3, none⟩ = some (.pointer (some ⟨pd, 0, none⟩)) := h.cell 3
  clear h
  go_enter Tryz.func16, Tryz.ntmps16
  go_wp2
  go_ret
  exact ⟨rfl, rfl⟩
theorem fdisk_nil : Calls Tryz.prog 16 #[.pointer none] w fun e w' => e = .returned (.pointer none) ∧ w = w' := by
  go_enter Tryz.func16, Tryz.ntmps16
  go_wp2
  go_ret
  exact ⟨rfl, rfl⟩
theorem froom_any (h : FilRow p pd pw bm s w) (hn : Fil.arN s.n ≤ 16384) : Calls Tryz.prog 13 #[.pointer (some ⟨p, 0, none⟩)] w fun e w' => e = .returned (.int .i64 ((Fil.arN s.n : Int) * 64 - 4)) ∧ Below w.heap.size w w' := by
  have c4 : w.cell? ⟨p, 4, none⟩ = some (.pointer (some ⟨pd, 0, none⟩)) := h.cell 4
  have c5 : w.cell? ⟨p, 5, none⟩ = some (.int .i64 (Fil.arAt s.n : Int)) := h.cell 5
  have c6 : w.cell? ⟨p, 6, none⟩ = some (.int .i64 (Fil.arN s.n : Int)) := h.cell 6
  have hcp := capacity_any pd (Fil.arAt s.n) (Fil.arN s.n) hn w
  unfold areaV at hcp
  have Hcp := Lib.hid hcp; clear hcp
  clear h
  go_enter Tryz.func13, Tryz.ntmps13
  go_wp2_with fail
  refine Hcp.out.mono ?_; rintro e w1 ⟨rfl, h1⟩
  go_wp2_with fail
  go_ret
  exact ⟨rfl, h1⟩
theorem froom_nil : Calls Tryz.prog 13 #[.pointer none] w fun e w' => e = .returned (.int .i64 0) ∧ w = w' := by
  go_enter Tryz.func13, Tryz.ntmps13
  go_wp2
  go_ret
  exact ⟨rfl, rfl⟩
theorem fnames_any (h : FilRow p pd pw bm s w) : Calls Tryz.prog 11 #[.pointer (some ⟨p, 0, none⟩)] w fun e w' => ∃ v, e = .returned v ∧ Own w.heap.size v (nam s.r) w' ∧ Below w.heap.size w w' := by
  obtain ⟨nn, hm⟩ := h.mp
  exact names_any hm h.srt h.fine h.len (h.cell 11)
theorem fnames_nil : Calls Tryz.prog 11 #[.pointer none] w fun e w' => e = .returned (.slice none 0 0) ∧ w = w' := by
  go_enter Tryz.func11, Tryz.ntmps11
  go_wp2
  go_ret
  exact ⟨rfl, rfl⟩
end
end Go.Proofs.YtalklpnekbfehaaGreat
