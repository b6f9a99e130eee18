/-
  Writing, of the disk and of the document's one, in one form; what a step does to a disk.
-/
import Derived.Test.YtjlkppdailkanaaRefWrite
import Derived.Test.YtjlkppdailkanaaRefCrash
import Derived.Test.YtjlkppdailkanaaDskText
set_option linter.unusedVariables false
namespace Go.Proofs.Ytjlkppdailkanaa
namespace Dsk
theorem wr_n (s : List UInt8) (k : Nat) : ∀ (m i : Nat) (d : St), (wr s k m i d).n = d.n
  | 0, _, _ => rfl
  | m + 1, i, d => by
    unfold wr
    split
    · rfl
    · rw [wr_n s k m]; rfl
theorem wr_ops (s : List UInt8) (k : Nat) : ∀ (m i : Nat) (d : St), (wr s k m i d).ops ≤ d.ops + m
  | 0, _, _ => Nat.le_refl _
  | m + 1, i, d => by
    unfold wr
    split
    · show d.ops ≤ _; omega
    · refine Nat.le_trans (wr_ops s k m _ _) ?_
      show d.ops + 1 + m ≤ _; omega
theorem write_n (d : St) (at_ : Int) (s : List UInt8) : (write d at_ s).1.n = d.n := by
  unfold write
  split
  · rfl
  · split
    · rfl
    · exact wr_n _ _ _ _ _
theorem write_ops (d : St) (at_ : Int) (s : List UInt8) : (write d at_ s).1.ops ≤ d.ops + s.length / 64 := by
  unfold write
  split
  · show d.ops ≤ _; omega
  · split
    · show d.ops ≤ _; omega
    · exact wr_ops _ _ _ _ _
theorem flush_n (d : St) : (flush d).1.n = d.n := by unfold flush; split <;> rfl
theorem flush_ops (d : St) : (flush d).1.ops = d.ops := by unfold flush; split <;> rfl
/-- what a step does to a disk -/
def does (d : St) (x : Stp) : St :=
  if x.d = 0 then (write d x.at_ (textOf x).data.toList).1 else if x.d = 2 then (flush d).1 else if x.d = 3 then { d with fuse := x.n } else if x.d = 4 then crash d x.s.data.toList else d
theorem does_n (d : St) (x : Stp) : (does d x).n = d.n := by
  unfold does
  split
  · exact write_n _ _ _
  · split
    · exact flush_n _
    · split
      · rfl
      · split <;> rfl
theorem does_ops (d : St) (x : Stp) (h : (textOf x).size ≤ 32768) : (does d x).ops ≤ d.ops + 512 := by
  unfold does
  split
  · refine Nat.le_trans (write_ops _ _ _) ?_
    rw [ba_len]; omega
  · split
    · rw [flush_ops]; omega
    · split
      · show d.ops ≤ _; omega
      · split
        · show d.ops ≤ _; omega
        · omega
end Dsk
theorem Plays.text {x : Stp} (h : Plays x) (h0 : x.d = 0) : (textOf x).size ≤ 32768 := by
  cases hr : x.raw with
  | true => unfold textOf; rw [if_pos hr]; exact h.s
  | false => rw [textOf_size x hr]; have := h.n h0; omega
theorem Dsk.does_ops' (d : Dsk.St) (x : Stp) (h : Plays x) : (Dsk.does d x).ops ≤ d.ops + 512 := by
  by_cases h0 : x.d = 0
  · exact Dsk.does_ops d x (h.text h0)
  · unfold Dsk.does
    rw [if_neg h0]
    split
    · rw [Dsk.flush_ops]; omega
    · split
      · show d.ops ≤ _; omega
      · split
        · show d.ops ≤ _; omega
        · omega
open Go.RowKit

section
variable {S : Nat → Prop} {p q : Nat} {d : Dsk.St} {w : World}
theorem write_all (h : DiskAt S p d w) (at_ : Int) (ha : I64 at_) (s : ByteArray) (hs : s.size ≤ 9223372036854775807) (hops : d.ops + s.size / 64 ≤ 1099511627776) :
    Calls Try.prog 13 #[.pointer (some ⟨p, 0, none⟩), .int .i64 at_, .string s] w fun e w' => e = .returned (.int .i64 (Dsk.write d at_ s.data.toList).2) ∧ Turns S w w' ∧ ∃ S', (∀ j, S' j → S j ∨ w.heap.size ≤ j) ∧ DiskAt S' p (Dsk.write d at_ s.data.toList).1 w' := by
  unfold Dsk.write
  by_cases hd : d.down = true
  · rw [if_pos hd]
    exact (write_down h hd at_ s hs).mono fun e w' ⟨h1, h2⟩ => ⟨h1, by rw [← h2]; exact Turns.refl _ _, S, fun j hj => .inl hj, by rw [← h2]; exact h⟩
  · rw [if_neg hd, ba_len]
    have hd : d.down = false := by simpa using hd
    by_cases hb : s.size % 64 ≠ 0 ∨ ¬ (0 ≤ at_ ∧ at_ + (s.size / 64 : Nat) ≤ (d.n : Int))
    · rw [if_pos hb]
      exact (write_bad h hd at_ ha s hs hb).mono fun e w' ⟨h1, h2⟩ => ⟨h1, by rw [← h2]; exact Turns.refl _ _, S, fun j hj => .inl hj, by rw [← h2]; exact h⟩
    · rw [if_neg hb]
      have h1 := write_good h hd at_.toNat s (s.size / 64) (by omega) (by omega) hops
      rw [show ((at_.toNat : Nat) : Int) = at_ by omega] at h1
      exact h1
theorem refWrite_all (h : RefAt S q d w) (at_ : Int) (ha : I64 at_) (s : ByteArray) (hs : s.size ≤ 9223372036854775807) (hops : d.ops + s.size / 64 ≤ 1099511627776) :
    Calls Try.prog 34 #[.pointer (some ⟨q, 0, none⟩), .int .i64 at_, .string s] w fun e w' => e = .returned (.int .i64 (Dsk.write d at_ s.data.toList).2) ∧ Turns S w w' ∧ ∃ S', (∀ j, S' j → S j ∨ w.heap.size ≤ j) ∧ RefAt S' q (Dsk.write d at_ s.data.toList).1 w' := by
  unfold Dsk.write
  by_cases hd : d.down = true
  · rw [if_pos hd]
    exact (refWrite_down h hd at_ s hs).mono fun e w' ⟨h1, h2⟩ => ⟨h1, by rw [← h2]; exact Turns.refl _ _, S, fun j hj => .inl hj, by rw [← h2]; exact h⟩
  · rw [if_neg hd, ba_len]
    have hd : d.down = false := by simpa using hd
    by_cases hb : s.size % 64 ≠ 0 ∨ ¬ (0 ≤ at_ ∧ at_ + (s.size / 64 : Nat) ≤ (d.n : Int))
    · rw [if_pos hb]
      exact (refWrite_bad h hd at_ ha s hs hb).mono fun e w' ⟨h1, h2⟩ => ⟨h1, by rw [← h2]; exact Turns.refl _ _, S, fun j hj => .inl hj, by rw [← h2]; exact h⟩
    · rw [if_neg hb]
      have h1 := refWrite_good h hd at_.toNat s (s.size / 64) (by omega) (by omega) hops
      rw [show ((at_.toNat : Nat) : Int) = at_ by omega] at h1
      exact h1
end
/-- two that have nothing in common still have nothing in common behind one's turn -/
theorem apart_on {S T S' : Nat → Prop} {w : World} (h : ∀ j, S j → ¬ T j) (hT : ∀ j, T j → j < w.heap.size) (hS' : ∀ j, S' j → S j ∨ w.heap.size ≤ j) : ∀ j, S' j → ¬ T j := fun j hj ht => by
  rcases hS' j hj with hs | hs
  · exact h j hs ht
  · have := hT j ht; omega
end Go.Proofs.Ytjlkppdailkanaa
