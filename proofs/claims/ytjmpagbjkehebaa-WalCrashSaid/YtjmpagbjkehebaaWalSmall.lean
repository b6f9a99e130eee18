/-
  wal's short ones: has, Gen, Room, Fault, Need; of nil.
-/
import Derived.Test.YtjmpagbjkehebaaWalMem
import Derived.Test.YtjmpagbjkehebaaWalFill
import Derived.Test.YtjmpagbjkehebaaOctAll
import Derived.Deep.QuietTactic
import Derived.BigQuiet
set_option linter.unusedVariables false
set_option maxRecDepth 100000
namespace Go.Proofs.Ytjmpagbjkehebaa
open Go.RowKit

theorem gen_nil (w : World) : Calls Try.prog 15 #[.pointer none] w fun e w' => e = .returned (.int .u64 0) ∧ w = w' := by
  go_enter Try.func15, Try.ntmps15
  go_wp2
  go_ret
  exact ⟨rfl, rfl⟩
theorem room_nil (w : World) : Calls Try.prog 17 #[.pointer none] w fun e w' => e = .returned (.int .i64 0) ∧ w = w' := by
  go_enter Try.func17, Try.ntmps17
  go_wp2
  go_ret
  exact ⟨rfl, rfl⟩
theorem fault_nil (w : World) : Calls Try.prog 8 #[.pointer none] w fun e w' => e = .returned (.int .i64 0) ∧ w = w' := by
  go_enter Try.func8, Try.ntmps8
  go_wp2
  go_ret
  exact ⟨rfl, rfl⟩

section
variable {R : Nat → Prop} {p q : Nat} {s : Wal.St} {w : World}
theorem gen_any (h : WalAt R p q s w) : Calls Try.prog 15 #[.pointer (some ⟨p, 0, none⟩)] w fun e w' => e = .returned (.int .u64 (s.gen : Int)) ∧ w = w' := by
  obtain ⟨v, h⟩ := h
  have c0 := h.c0
  clear h
  go_enter Try.func15, Try.ntmps15
  go_wp2
  go_ret
  exact ⟨rfl, rfl⟩
theorem fault_any (h : WalAt R p q s w) : Calls Try.prog 8 #[.pointer (some ⟨p, 0, none⟩)] w fun e w' => e = .returned (.int .i64 s.err) ∧ w = w' := by
  obtain ⟨v, h⟩ := h
  have c6 := h.c6
  clear h
  go_enter Try.func8, Try.ntmps8
  go_wp2
  go_ret
  exact ⟨rfl, rfl⟩
theorem room_any (h : WalAt R p q s w) {m : Nat} (hs : s.Ok m) : Calls Try.prog 17 #[.pointer (some ⟨p, 0, none⟩)] w fun e w' => e = .returned (.int .i64 ((s.n - 1 - s.used : Nat) : Int)) ∧ ∃ k, w' = w.drewN k := by
  obtain ⟨v, h⟩ := h
  have c1 := h.c1
  have c4 := h.c4
  have h1 := hs.used
  have h2 := hs.lo
  have h3 := hs.hi
  have h4 := hs.m
  have hr : ((s.n - 1 - s.used : Nat) : Int) = (s.n : Int) - 1 - (s.used : Int) := by omega
  rw [hr]
  clear h hs
  generalize s.n = n at *
  generalize s.used = u at *
  go_enter Try.func17, Try.ntmps17
  go_wp2
  go_quiet (fail)
  go_wp2
  go_ret
  exact ⟨rfl, _, rfl⟩
end

section
variable {S : Nat → Prop} {p : Nat} {d : Dsk.St} {w : World}
theorem walHas_any (h : DiskAt S p d w) (at_ n : Int) (ha : -9223372036854775808 ≤ at_ ∧ at_ ≤ 9223372036854775807) (hn : -9223372036854775808 ≤ n ∧ n ≤ 9223372036854775807) :
    Calls Try.prog 19 #[.pointer (some ⟨p, 0, none⟩), .int .i64 at_, .int .i64 n] w fun e w' => e = .returned (.bool (decide (0 ≤ at_ ∧ n ≤ (d.n : Int) - at_))) ∧ w = w' := by
  have hc := sectors_any h
  have hd := h.ok.hi
  have Hc := Lib.hid hc; clear hc
  clear h
  by_cases h0 : 0 ≤ at_
  · have hx : decide (0 ≤ at_) = true := decide_eq_true h0
    have hy : decide (0 ≤ at_ ∧ n ≤ (d.n : Int) - at_) = decide (n ≤ (d.n : Int) - at_) := by simp [h0]
    rw [hy]
    clear hy
    generalize d.n = m at *
    go_enter Try.func19, Try.ntmps19
    go_wp2_with fail
    refine Hc.out.mono ?_; rintro e w' ⟨rfl, rfl⟩
    go_wp2_with fail
    go_ret
    exact ⟨rfl, rfl⟩
  · have hx : decide (0 ≤ at_) = false := decide_eq_false h0
    have hy : decide (0 ≤ at_ ∧ n ≤ (d.n : Int) - at_) = false := by simp [h0]
    rw [hy]
    clear hy
    go_enter Try.func19, Try.ntmps19
    go_wp2_with fail
    go_ret
    exact ⟨rfl, rfl⟩
end

theorem need_any (a : Option Addr) (len cap : Nat) (l : List ByteArray) (w : World) (hs : Strs a len l w) (hm : len ≤ 140737488355328) (hz : ∀ j, (l.getD j .empty).size ≤ 9223372036854700000) (hb : (Oct.row (lists l)).1.length ≤ 70368744177664) :
    Calls Try.prog 16 #[.slice a len cap] w fun e w' => e = .returned (.tuple #[.int .i64 (if (Oct.row (lists l)).2 = 0 then ((Wal.secs (Oct.row (lists l)).1 : Nat) : Int) else 0), .int .i64 (Oct.row (lists l)).2]) ∧ Below w.heap.size w w' := by
  have hr := fun u hu => octRow_any a len cap l u hu hm hz
  have hr0 := hr w hs
  have hg := fun u => groupSectors_any (ba (Oct.row (lists l)).1) (by rw [ba_size]; exact hb) u
  rw [ba_list] at hg
  have hr1 : Calls Try.prog 28 #[.slice a len cap] w fun e w' => e = .returned (.tuple #[.string (ba (Oct.row (lists l)).1), .int .i64 (Oct.row (lists l)).2]) ∧ Below w.heap.size w w' := hr0
  clear hr hr0
  generalize hB : ba (Oct.row (lists l)).1 = B at *
  generalize Wal.secs (Oct.row (lists l)).1 = k at *
  generalize (Oct.row (lists l)).2 = E at *
  have Hr := Lib.hid hr1; clear hr1
  have Hg := Lib.hid hg; clear hg
  clear hB hb hs
  by_cases h0 : E = 0
  · subst h0
    rw [if_pos rfl]
    go_enter Try.func16, Try.ntmps16
    go_wp2_with fail
    refine Hr.out.mono ?_; rintro e w1 ⟨rfl, h1⟩
    go_wp2_with fail
    refine (Hg.out _).mono ?_; rintro e w2 ⟨rfl, rfl⟩
    go_wp2_with fail
    go_ret2
    exact ⟨rfl, h1⟩
  · rw [if_neg h0]
    have hx : (E != 0) = true := by rw [bne_iff_ne]; exact h0
    clear h0
    go_enter Try.func16, Try.ntmps16
    go_wp2_with fail
    refine Hr.out.mono ?_; rintro e w1 ⟨rfl, h1⟩
    go_wp2_with fail
    go_ret2
    exact ⟨rfl, h1⟩
end Go.Proofs.Ytjmpagbjkehebaa
