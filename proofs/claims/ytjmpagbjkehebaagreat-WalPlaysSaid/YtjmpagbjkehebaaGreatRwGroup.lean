/-
  The document's log: a group's sectors, and how many they are.
-/
import Derived.Test.YtjmpagbjkehebaaGreatRwMark
set_option linter.unusedVariables false
namespace Go.Proofs.YtjmpagbjkehebaaGreat
open Go.RowKit

def grpB (l : Wal.Grp) : ByteArray := if (Oct.row l).2 = 0 then ba (Wal.grp (Oct.row l).1) else .empty
theorem refGroup_any (a : Option Addr) (len cap : Nat) (l : List ByteArray) (w : World) (hs : Strs a len l w) (hm : len ≤ 140737488355328) (hz : ∀ j, (l.getD j .empty).size ≤ 9223372036854700000) (hb : (Oct.row (lists l)).1.length ≤ 35184372088832) :
    Calls Tryz.prog 69 #[.slice a len cap] w fun e w' => e = .returned (.tuple #[.string (grpB (lists l)), .int .i64 (Oct.row (lists l)).2]) ∧ Below w.heap.size w w' := by
  have hr0 : Calls Tryz.prog 128 #[.slice a len cap] w fun e w' => e = .returned (.tuple #[.string (ba (Oct.row (lists l)).1), .int .i64 (Oct.row (lists l)).2]) ∧ Below w.heap.size w w' := refRow_any a len cap l w hs hm hz
  have hn := fun u => refNum_any (Oct.row (lists l)).1.length 4 u (by omega) (by decide)
  have hn1 : ∀ u, Calls Tryz.prog 130 #[.int .u64 ((Oct.row (lists l)).1.length : Int), .int .i64 4] u fun e w' => e = .returned (.string (ba (Oct.le 4 (Oct.row (lists l)).1.length))) ∧ Below u.heap.size u w' := hn
  clear hn
  have h4 : (ba (Oct.le 4 (Oct.row (lists l)).1.length)).size = 4 := by rw [ba_size, Oct.le_length]
  have hf := fun u => refSectors_any (ba (Oct.le 4 (Oct.row (lists l)).1.length ++ (Oct.row (lists l)).1)) (by rw [ba_size, List.length_append, Oct.le_length]; omega) u
  rw [ba_list] at hf
  have hf1 : ∀ u, Calls Tryz.prog 129 #[.string (ba (Oct.le 4 (Oct.row (lists l)).1.length ++ (Oct.row (lists l)).1))] u fun e w' => e = .returned (.string (ba (Wal.grp (Oct.row (lists l)).1))) ∧ Below u.heap.size u w' := hf
  clear hf
  rw [← ba_app] at hf1
  have hB0 : (ba (Oct.row (lists l)).1).size = (Oct.row (lists l)).1.length := ba_size _
  have hwu : IntKind.u64.wrap (((Oct.row (lists l)).1.length : Nat) : Int) = (((Oct.row (lists l)).1.length : Nat) : Int) := by rw [IntKind.wrap_u64]; omega
  unfold grpB
  rw [← hB0] at hn1 hwu hf1 h4 hb
  generalize ba (Wal.grp (Oct.row (lists l)).1) = r at *
  generalize hB : ba (Oct.row (lists l)).1 = B at *
  generalize ba (Oct.le 4 B.size) = z at *
  generalize (Oct.row (lists l)).2 = E at *
  have Hr := Lib.hid hr0; clear hr0
  have Hn := Lib.hid hn1; clear hn1
  have Hf := Lib.hid hf1; clear hf1
  clear hB hs hB0
  by_cases h0 : E = 0
  · subst h0
    rw [if_pos rfl]
    go_enter Tryz.func69, Tryz.ntmps69
    go_wp2_with fail
    refine Hr.out.mono ?_; rintro e w1 ⟨rfl, h1⟩
    go_wp2_with fail
    refine (Hn.out _).mono ?_; rintro e w2 ⟨rfl, h2⟩
    go_wp2_with fail
    refine (Hf.out _).mono ?_; rintro e w3 ⟨rfl, h3⟩
    go_wp2_with fail
    go_ret2
    have k2 := h1.trans (h2.mono h1.size)
    exact ⟨rfl, k2.trans (h3.mono k2.size)⟩
  · rw [if_neg h0]
    have hx : (E != 0) = true := by rw [bne_iff_ne]; exact h0
    clear h0
    go_enter Tryz.func69, Tryz.ntmps69
    go_wp2_with fail
    refine Hr.out.mono ?_; rintro e w1 ⟨rfl, h1⟩
    go_wp2_with fail
    go_ret2
    exact ⟨rfl, h1⟩

theorem grpB_size (l : Wal.Grp) : (grpB l).size = (if (Oct.row l).2 = 0 then Wal.secs (Oct.row l).1 else 0) * 64 := by
  unfold grpB
  split
  · rw [ba_size, Wal.grp_length]
  · rfl
theorem refNeed_any (a : Option Addr) (len cap : Nat) (l : List ByteArray) (w : World) (hs : Strs a len l w) (hm : len ≤ 140737488355328) (hz : ∀ j, (l.getD j .empty).size ≤ 9223372036854700000) (hb : (Oct.row (lists l)).1.length ≤ 35184372088832) :
    Calls Tryz.prog 19 #[.slice a len cap] w fun e w' => e = .returned (.tuple #[.int .i64 (if (Oct.row (lists l)).2 = 0 then ((Wal.secs (Oct.row (lists l)).1 : Nat) : Int) else 0), .int .i64 (Oct.row (lists l)).2]) ∧ Below w.heap.size w w' := by
  have hg := refGroup_any a len cap l w hs hm hz hb
  have hz := grpB_size (lists l)
  have hk : (if (Oct.row (lists l)).2 = 0 then Wal.secs (Oct.row (lists l)).1 else 0) ≤ 35184372088833 := by
    split
    · unfold Wal.secs Wal.whole; omega
    · omega
  have hi : (if (Oct.row (lists l)).2 = 0 then ((Wal.secs (Oct.row (lists l)).1 : Nat) : Int) else 0) = (((if (Oct.row (lists l)).2 = 0 then Wal.secs (Oct.row (lists l)).1 else 0 : Nat)) : Int) := by split <;> rfl
  rw [hi]
  clear hi
  generalize (if (Oct.row (lists l)).2 = 0 then Wal.secs (Oct.row (lists l)).1 else 0) = k at *
  generalize grpB (lists l) = B at *
  generalize (Oct.row (lists l)).2 = E at *
  have hd : (B.size : Int) / 64 = (k : Int) := by omega
  have hdt : (B.size : Int).tdiv 64 = (k : Int) := by rw [Int.tdiv_eq_ediv_of_nonneg (by omega)]; exact hd
  have Hg := Lib.hid hg; clear hg
  clear hs hb hm
  go_enter Tryz.func19, Tryz.ntmps19
  go_wp2_with fail
  refine Hg.out.mono ?_; rintro e w1 ⟨rfl, h1⟩
  go_wp2_with fail
  go_ret2
  exact ⟨rfl, h1⟩
end Go.Proofs.YtjmpagbjkehebaaGreat
