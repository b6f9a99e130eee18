/-
  Reading and flushing: of the disk and of the document's one, in one form.
-/
import Derived.Test.YtjlkppdailkanaaRefNow
import Derived.Test.YtjlkppdailkanaaDskRead
import Derived.Test.YtjlkppdailkanaaDskCrash
set_option linter.unusedVariables false
namespace Go.Proofs.Ytjlkppdailkanaa
namespace Dsk
/-- what Read answers -/
def read (d : St) (at_ n : Int) : List UInt8 × Int := if d.down = true then ([], 40) else if 0 ≤ at_ ∧ 0 ≤ n ∧ at_ + n ≤ (d.n : Int) then (rd d at_.toNat n.toNat, 0) else ([], 2)
/-- what Flush does -/
def flush (d : St) : St × Int := if d.down = true then (d, 40) else (settle d [1], 0)
theorem settle_one (d : St) : settle d [1] = { d with fl := now d, L := [] } := by unfold settle; rw [kept_one]; rfl
end Dsk
open Go.RowKit

section
variable {S : Nat → Prop} {p q : Nat} {d : Dsk.St} {w : World}
theorem read_all (h : DiskAt S p d w) (at_ n : Int) (ha : -9223372036854775808 ≤ at_ ∧ at_ ≤ 9223372036854775807) (hn : -9223372036854775808 ≤ n ∧ n ≤ 9223372036854775807) :
    Calls Try.prog 25 #[.pointer (some ⟨p, 0, none⟩), .int .i64 at_, .int .i64 n] w fun e w' => e = .returned (.tuple #[.string ⟨(Dsk.read d at_ n).1.toArray⟩, .int .i64 (Dsk.read d at_ n).2]) ∧ Below w.heap.size w w' := by
  unfold Dsk.read
  by_cases hd : d.down = true
  · rw [if_pos hd]
    exact (read_down h hd at_ n).mono fun e w' ⟨h1, h2⟩ => ⟨h1, by rw [h2]; exact Below.refl _ _⟩
  · rw [if_neg hd]
    have hd : d.down = false := by simpa using hd
    by_cases hb : 0 ≤ at_ ∧ 0 ≤ n ∧ at_ + n ≤ (d.n : Int)
    · rw [if_pos hb]
      have h1 := read_good h hd at_.toNat n.toNat (by omega)
      rw [show ((at_.toNat : Nat) : Int) = at_ by omega, show ((n.toNat : Nat) : Int) = n by omega] at h1
      exact h1
    · rw [if_neg hb]
      exact (read_bad h hd at_ n ha hn hb).mono fun e w' ⟨h1, h2⟩ => ⟨h1, by rw [h2]; exact Below.refl _ _⟩
theorem flush_all (h : DiskAt S p d w) (hops : d.ops ≤ 1099511627776) : Calls Try.prog 15 #[.pointer (some ⟨p, 0, none⟩)] w fun e w' => e = .returned (.int .i64 (Dsk.flush d).2) ∧ Turns S w w' ∧ ∃ S', (∀ j, S' j → S j ∨ w.heap.size ≤ j) ∧ DiskAt S' p (Dsk.flush d).1 w' := by
  unfold Dsk.flush
  by_cases hd : d.down = true
  · rw [if_pos hd]
    exact (flush_down h hd).mono fun e w' ⟨h1, h2⟩ => ⟨h1, by rw [← h2]; exact Turns.refl _ _, S, fun j hj => .inl hj, by rw [← h2]; exact h⟩
  · rw [if_neg hd]
    exact flush_any h (by simpa using hd) hops

theorem refRead_down (h : RefAt S q d w) (hd : d.down = true) (at_ n : Int) : Calls Try.prog 35 #[.pointer (some ⟨q, 0, none⟩), .int .i64 at_, .int .i64 n] w fun e w' => e = .returned (.tuple #[.string ⟨#[]⟩, .int .i64 40]) ∧ w = w' := by
  obtain ⟨vB, vL, h⟩ := h
  have c3 := h.c3
  rw [hd] at c3
  clear h hd
  go_enter Try.func35, Try.ntmps35
  go_wp2
  go_ret2
  exact ⟨rfl, rfl⟩
theorem refRead_bad (h : RefAt S q d w) (hd : d.down = false) (at_ n : Int) (ha : -9223372036854775808 ≤ at_ ∧ at_ ≤ 9223372036854775807) (hn : -9223372036854775808 ≤ n ∧ n ≤ 9223372036854775807) (hb : ¬ (0 ≤ at_ ∧ 0 ≤ n ∧ at_ + n ≤ (d.n : Int))) :
    Calls Try.prog 35 #[.pointer (some ⟨q, 0, none⟩), .int .i64 at_, .int .i64 n] w fun e w' => e = .returned (.tuple #[.string ⟨#[]⟩, .int .i64 2]) ∧ w = w' := by
  have hin := refIn_any h at_ n ha hn
  rw [decide_eq_false hb] at hin
  obtain ⟨vB, vL, h⟩ := h
  have c3 := h.c3
  rw [hd] at c3
  have Hin := Lib.hid hin; clear hin
  clear h hd hb ha hn
  go_enter Try.func35, Try.ntmps35
  go_wp2_with fail
  refine Hin.out.mono ?_; rintro e w' ⟨rfl, rfl⟩
  go_wp2_with fail
  go_ret2
  exact ⟨rfl, rfl⟩

set_option maxHeartbeats 1000000 in
theorem refRead_good (h : RefAt S q d w) (hd : d.down = false) (hops : d.ops ≤ 1099511627776) (k n : Nat) (hfit : k + n ≤ d.n) :
    Calls Try.prog 35 #[.pointer (some ⟨q, 0, none⟩), .int .i64 (k : Int), .int .i64 (n : Int)] w fun e w' => e = .returned (.tuple #[.string ⟨(Dsk.rd d k n).toArray⟩, .int .i64 0]) ∧ Below w.heap.size w w' := by
  have hhi := h.ok.hi
  have hin := refIn_any h (k : Int) (n : Int) ⟨by omega, by omega⟩ ⟨by omega, by omega⟩
  rw [show decide (0 ≤ (k : Int) ∧ 0 ≤ (n : Int) ∧ (k : Int) + (n : Int) ≤ (d.n : Int)) = true by rw [decide_eq_true_iff]; omega] at hin
  have hnw := refNow_any h hops
  obtain ⟨vB, vL, h⟩ := h
  have c3 := h.c3
  rw [hd] at c3
  have Hin := Lib.hid hin; clear hin
  have Hnw := Lib.hid hnw; clear hnw
  have hok := h.ok
  have Hok := Lib.hid hok; clear hok
  clear h hd
  go_enter Try.func35, Try.ntmps35
  go_wp2_with fail
  refine Hin.out.mono ?_; rintro e w' ⟨rfl, rfl⟩
  go_wp2_with fail
  refine Hnw.out.mono ?_; rintro e w2 ⟨g, cap, rfl, hown, hbel⟩
  have Hown := Lib.hid hown; clear hown
  have Hbel := Lib.hid hbel; clear hbel
  clear c3
  go_wp2_with fail
  go_loop [9, 10] (fun s i => ∃ m : Nat, m ≤ n ∧ i = .int .i64 ((k + m : Nat) : Int) ∧ s = .string ⟨(Dsk.rd d k m).toArray⟩) (fun _ i => k + n - (intOf i).toNat)
  case atStart => exact ⟨0, by omega, by simp, rfl⟩
  case round =>
    obtain ⟨m, hm, rfl, rfl⟩ := hrel
    by_cases hlt : m < n
    · have c := ownsRow_cell Hown.out (secs_get (Dsk.now d) (show k + m < d.n by omega))
      obtain ⟨y, hy⟩ : ∃ y, secv (Dsk.now d (k + m)) = .string y := ⟨_, rfl⟩
      have hy2 : (⟨(Dsk.rd d k m).toArray⟩ : ByteArray) ++ y = ⟨(Dsk.rd d k (m + 1)).toArray⟩ := by
        have : y = ⟨(Dsk.now d (k + m)).toArray⟩ := by simpa [secv] using hy.symm
        rw [this, cat_list, ← Dsk.rd_succ]
      have hys : y.size = 64 := by
        have : y = ⟨(Dsk.now d (k + m)).toArray⟩ := by simpa [secv] using hy.symm
        rw [this]
        show (Dsk.now d (k + m)).toArray.size = 64
        rw [List.size_toArray, Dsk.now_length Hok.out]
      have hxs : (⟨(Dsk.rd d k m).toArray⟩ : ByteArray).size = 64 * m := by
        show (Dsk.rd d k m).toArray.size = 64 * m
        rw [List.size_toArray, Dsk.rd_length Hok.out]
      rw [hy] at c
      obtain ⟨j, hj⟩ : ∃ j, j = k + m := ⟨_, rfl⟩
      rw [← hj] at c ⊢
      have hjl : j < k + n := by omega
      have hjd : j < d.n := by omega
      have hj1 : j + 1 = k + (m + 1) := by omega
      have Hy2 := Lib.hid hy2; clear hy2
      have Hj := Lib.hid hj; clear hj
      have Hj1 := Lib.hid hj1; clear hj1
      clear hy
      generalize (⟨(Dsk.rd d k m).toArray⟩ : ByteArray) = x at *
      go_wp2
      go_round
      case rel => exact ⟨m + 1, by omega, by rw [← Hj1.out]; go_num, by rw [Hy2.out]⟩
      case measure => simp [intOf]; omega
    · obtain rfl : m = n := by omega
      go_wp2
      go_ret2
      exact ⟨rfl, Hbel.out⟩

theorem refRead_all (h : RefAt S q d w) (hops : d.ops ≤ 1099511627776) (at_ n : Int) (ha : -9223372036854775808 ≤ at_ ∧ at_ ≤ 9223372036854775807) (hn : -9223372036854775808 ≤ n ∧ n ≤ 9223372036854775807) :
    Calls Try.prog 35 #[.pointer (some ⟨q, 0, none⟩), .int .i64 at_, .int .i64 n] w fun e w' => e = .returned (.tuple #[.string ⟨(Dsk.read d at_ n).1.toArray⟩, .int .i64 (Dsk.read d at_ n).2]) ∧ Below w.heap.size w w' := by
  unfold Dsk.read
  by_cases hd : d.down = true
  · rw [if_pos hd]
    exact (refRead_down h hd at_ n).mono fun e w' ⟨h1, h2⟩ => ⟨h1, by rw [h2]; exact Below.refl _ _⟩
  · rw [if_neg hd]
    have hd : d.down = false := by simpa using hd
    by_cases hb : 0 ≤ at_ ∧ 0 ≤ n ∧ at_ + n ≤ (d.n : Int)
    · rw [if_pos hb]
      have h1 := refRead_good h hd hops at_.toNat n.toNat (by omega)
      rw [show ((at_.toNat : Nat) : Int) = at_ by omega, show ((n.toNat : Nat) : Int) = n by omega] at h1
      exact h1
    · rw [if_neg hb]
      exact (refRead_bad h hd at_ n ha hn hb).mono fun e w' ⟨h1, h2⟩ => ⟨h1, by rw [h2]; exact Below.refl _ _⟩

/-- the rows have been replaced by one of the sectors as they are read -/
theorem RefIn.settled {w2 w3 : World} {vB vL : Value} {g cap : Nat} (h : RefIn S q d w vB vL) (f : Nat → Dsk.Sec) (hf : ∀ k, (f k).length = 64) (hb : Below w.heap.size w w2) (hown : w2.ownsRow w.heap.size 9 1 (.slice (some ⟨g, 0, none⟩) d.n cap) d.n (secs f d.n))
    (ht : Turns (fun k => k = q) w2 w3) (hrow : w3.heap[q]? = some (.cells (rcells { d with fl := f, L := [] } (.slice (some ⟨g, 0, none⟩) d.n cap) (.slice none 0 0)) 59 (0, 0))) :
    RefIn (fun j => j = q ∨ (w.heap.size ≤ j ∧ j < w2.heap.size)) q { d with fl := f, L := [] } w3 (.slice (some ⟨g, 0, none⟩) d.n cap) (.slice none 0 0) := by
  have hgl := World.ownsRow.lt hown g rfl
  have hql := h.lt q h.hq
  have hsz := hb.size
  have hsz3 := ht.size
  exact
  { hq := .inl rfl
    hB := fun k hk => by
      have : g = k := by simpa [Value.ownBlock] using hk
      subst this
      exact .inr hgl
    hL := fun k hk => by simp [Value.ownBlock] at hk
    lt := fun k hk => by
      have := hsz3
      rcases hk with rfl | ⟨_, hk⟩ <;> omega
    row := hrow
    rB := ownsRow_same (ownsRow_base hown) (fun k hk => ht.block k (World.ownsRow.lt hown k hk).2 (fun e => by have := (World.ownsRow.lt hown k hk).1; omega))
    rL := World.ownsRow_nil _ _ _ _
    cnt := Nat.zero_le _
    ok := ⟨h.ok.lo, h.ok.hi, hf, fun _ hx => by simp at hx, fun _ hx => by simp at hx, h.ok.fu⟩ }

theorem refFlush_down (h : RefAt S q d w) (hd : d.down = true) : Calls Try.prog 36 #[.pointer (some ⟨q, 0, none⟩)] w fun e w' => e = .returned (.int .i64 40) ∧ w = w' := by
  obtain ⟨vB, vL, h⟩ := h
  have c3 := h.c3
  rw [hd] at c3
  clear h hd
  go_enter Try.func36, Try.ntmps36
  go_wp2
  go_ret
  exact ⟨rfl, rfl⟩

set_option maxHeartbeats 1000000 in
theorem refFlush_good (h : RefAt S q d w) (hd : d.down = false) (hops : d.ops ≤ 1099511627776) : Calls Try.prog 36 #[.pointer (some ⟨q, 0, none⟩)] w fun e w' => e = .returned (.int .i64 0) ∧ Turns S w w' ∧ ∃ S', (∀ j, S' j → S j ∨ w.heap.size ≤ j) ∧ RefAt S' q (Dsk.settle d [1]) w' := by
  have hnw := refNow_any h hops
  obtain ⟨vB, vL, h⟩ := h
  have c3 := h.c3
  rw [hd] at c3
  have Hnw := Lib.hid hnw; clear hnw
  have H := Lib.hid h; clear h
  go_enter Try.func36, Try.ntmps36
  go_wp2_with fail
  refine Hnw.out.mono ?_; rintro e w2 ⟨g, cap, rfl, hown, hbel⟩
  have hr := H.out.new hbel
  have c0 := hr.c0
  have f0 := hr.free 0
  have row1 := heap_setCell_same w2 q 0 _ _ (.slice (some ⟨g, 0, none⟩) d.n cap) hr.row
  have c1 : (w2.setCell ⟨q, 0, none⟩ (.slice (some ⟨g, 0, none⟩) d.n cap)).cell? ⟨q, 1, none⟩ = some vL := by rw [cell_of_row _ q 1 _ _ _ row1]; rfl
  have f1 := row_free row1 1
  have row2 := heap_setCell_same _ q 1 _ _ (.slice none 0 0) row1
  have ht : Turns (fun k => k = q) w2 ((w2.setCell ⟨q, 0, none⟩ (.slice (some ⟨g, 0, none⟩) d.n cap)).setCell ⟨q, 1, none⟩ (.slice none 0 0)) := ((Turns.refl (fun k => k = q) w2).set q 0 _ (fun _ => rfl)).set q 1 _ (fun _ => rfl)
  have hfin := H.out.settled (Dsk.now d) (fun k => Dsk.now_length H.out.ok k) hbel hown ht row2
  rw [show ({ d with fl := Dsk.now d, L := [] } : Dsk.St) = Dsk.settle d [1] from (Dsk.settle_one d).symm] at hfin
  have htt : Turns S w ((w2.setCell ⟨q, 0, none⟩ (.slice (some ⟨g, 0, none⟩) d.n cap)).setCell ⟨q, 1, none⟩ (.slice none 0 0)) := (Turns.of_new hbel S).trans ht (fun j _ e => by rw [e]; exact H.out.hq)
  have Hfin := Lib.hid hfin; clear hfin
  have Htt := Lib.hid htt; clear htt
  clear row1 row2 ht hr hown hbel c3
  go_wp2_with fail
  go_ret
  exact ⟨rfl, Htt.out, _, fun j hj => by
    rcases hj with rfl | hj
    · exact .inl H.out.hq
    · exact .inr hj.1, _, _, Hfin.out⟩

theorem refFlush_all (h : RefAt S q d w) (hops : d.ops ≤ 1099511627776) : Calls Try.prog 36 #[.pointer (some ⟨q, 0, none⟩)] w fun e w' => e = .returned (.int .i64 (Dsk.flush d).2) ∧ Turns S w w' ∧ ∃ S', (∀ j, S' j → S j ∨ w.heap.size ≤ j) ∧ RefAt S' q (Dsk.flush d).1 w' := by
  unfold Dsk.flush
  by_cases hd : d.down = true
  · rw [if_pos hd]
    exact (refFlush_down h hd).mono fun e w' ⟨h1, h2⟩ => ⟨h1, by rw [← h2]; exact Turns.refl _ _, S, fun j hj => .inl hj, by rw [← h2]; exact h⟩
  · rw [if_neg hd]
    exact refFlush_good h (by simpa using hd) hops
end
end Go.Proofs.Ytjlkppdailkanaa
