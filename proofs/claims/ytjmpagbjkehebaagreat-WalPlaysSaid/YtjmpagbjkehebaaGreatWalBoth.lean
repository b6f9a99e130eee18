/-
  Both logs, opened anywhere: the same.
-/
import Derived.Test.YtjmpagbjkehebaaGreatRwSame
import Derived.Test.YtjmpagbjkehebaaGreatWalOpen2
import Derived.Test.YtjmpagbjkehebaaGreatWalSafe
set_option linter.unusedVariables false
set_option maxRecDepth 100000
namespace Go.Proofs.YtjmpagbjkehebaaGreat
open Go.RowKit

namespace Wal
theorem opn_ok {d : Dsk.St} (hd : d.Ok) {k n : Int} {s : St} {e : Int} (h : open_ d k n = (some s, e)) : s.Ok d.n ∧ e = 0 ∧ s.err = 0 := by
  unfold open_ at h
  split at h
  · simp at h
  · rename_i hb
    split at h
    · simp at h
    · split at h
      · simp at h
      · rename_i g u hm
        split at h
        · simp at h
        · rename_i L hL
          simp only [Prod.mk.injEq, Option.some.injEq] at h
          obtain ⟨rfl, rfl⟩ := h
          obtain ⟨h1, h2, h3⟩ := readMark_le hm
          have hlen := Dsk.rd_length hd (k.toNat + 1) u
          obtain ⟨h4, h5⟩ := readGroups_is (by rw [hlen]; omega) hL
          have h6 := cat_le L
          rw [← h4, hlen] at h6
          have h7 := hd.hi
          exact ⟨⟨h2, h1, by show 2 ≤ n.toNat; omega, by show k.toNat + n.toNat ≤ d.n; omega, h7, by show L.length ≤ u; omega, h5, .inl rfl⟩, rfl, rfl⟩
theorem opn_none {d : Dsk.St} {k n : Int} (h : (open_ d k n).1 = none) : (open_ d k n).2 ≠ 0 := by
  unfold open_ at h ⊢
  split
  · simp
  · rename_i hb
    rw [if_neg hb] at h
    split
    · simp
    · rename_i hd
      rw [if_neg hd] at h
      split
      · simp
      · rename_i g u hm
        rw [hm] at h
        simp only [] at h
        split
        · simp
        · rename_i L hL
          rw [hL] at h
          simp at h
end Wal

section
variable {S : Nat → Prop} {p : Nat} {d : Dsk.St} {w : World}
theorem wlOpen_all (h : DiskAt S p d w) (k n : Int) (hk : -9223372036854775808 ≤ k ∧ k ≤ 9223372036854775807) (hn : -9223372036854775808 ≤ n ∧ n ≤ 9223372036854775807) :
    Calls Tryz.prog 28 #[.pointer (some ⟨p, 0, none⟩), .int .i64 k, .int .i64 n] w (OpenR (Wal.open_ d k n) p w) := by
  by_cases hb : n < 2 ∨ ¬ (0 ≤ k ∧ k + n ≤ (d.n : Int))
  · refine (open_arg h k n hk hn (by omega)).mono fun e w' ⟨h1, h2⟩ => ?_
    have e1 : Wal.open_ d k n = (none, 2) := by unfold Wal.open_; rw [if_pos hb]
    rw [e1]
    exact ⟨h2, .inl ⟨rfl, by decide, h1⟩⟩
  · obtain ⟨k', rfl⟩ : ∃ k' : Nat, k = (k' : Int) := ⟨k.toNat, by omega⟩
    obtain ⟨n', rfl⟩ : ∃ n' : Nat, n = (n' : Int) := ⟨n.toNat, by omega⟩
    exact open_any h k' n' (by omega) (by omega)
theorem rwOpen_all (h : RefAt S p d w) (hops : d.ops ≤ 1099511627776) (k n : Int) (hk : -9223372036854775808 ≤ k ∧ k ≤ 9223372036854775807) (hn : -9223372036854775808 ≤ n ∧ n ≤ 9223372036854775807) :
    Calls Tryz.prog 29 #[.pointer (some ⟨p, 0, none⟩), .int .i64 k, .int .i64 n] w (ROpR (Wal.open_ d k n) p w) := by
  by_cases hb : n < 2 ∨ ¬ (0 ≤ k ∧ k + n ≤ (d.n : Int))
  · refine (rwOpen_arg h k n hk hn hb).mono fun e w' ⟨h1, h2⟩ => ?_
    have e1 : Wal.open_ d k n = (none, 2) := by unfold Wal.open_; rw [if_pos hb]
    rw [e1]
    subst h2
    exact ⟨Below.refl _ _, .inl ⟨rfl, h1⟩⟩
  · obtain ⟨k', rfl⟩ : ∃ k' : Nat, k = (k' : Int) := ⟨k.toNat, by omega⟩
    obtain ⟨n', rfl⟩ : ∃ n' : Nat, n = (n' : Int) := ⟨n.toNat, by omega⟩
    by_cases hd : d.down = true
    · refine (rwOpen_down h hd k' n' (by omega) (by omega)).mono fun e w' ⟨h1, h2⟩ => ?_
      have e1 : Wal.open_ d (k' : Int) (n' : Int) = (none, 40) := by unfold Wal.open_; rw [if_neg hb, if_pos hd]
      rw [e1]
      subst h2
      exact ⟨Below.refl _ _, .inl ⟨rfl, h1⟩⟩
    · exact rwOpen_good h (by simpa using hd) hops k' n' (by omega) (by omega)
end
end Go.Proofs.YtjmpagbjkehebaaGreat
