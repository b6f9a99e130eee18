/-
  A disk among other things that lie apart from it, while it goes on.
-/
import Derived.Test.YtjlkppdailkanaaDskDoes
set_option linter.unusedVariables false
namespace Go.Proofs.Ytjlkppdailkanaa
namespace Dsk
theorem odd_49 (i : Nat) : odd [49] i = true := by simp [odd, Nat.mod_one]
theorem keptF_49 (L : List (Nat × Sec)) (i : Nat) : keptF [49] i L = L := by
  induction L generalizing i with
  | nil => rfl
  | cons y r ih => simp [keptF, odd_49, ih]
theorem kept_49 (L : List (Nat × Sec)) : kept [49] L = L := by simp [kept, keptF_49]
theorem kept_nil (keep : List UInt8) : kept keep [] = [] := by unfold kept; split <;> rfl
theorem now_crash_49 (d : St) : now (crash d [49]) = now d := by show lay [] (lay (kept [49] d.L) d.fl) = lay d.L d.fl; rw [kept_49]; rfl
theorem now_settle (d : St) : now (settle d [1]) = now d := by rw [settle_one]; rfl
theorem now_crash_nil (d : St) (keep : List UInt8) (h : d.L = []) : now (crash d keep) = now d := by
  show lay [] (lay (kept keep d.L) d.fl) = lay d.L d.fl
  rw [h, kept_nil]
  rfl
theorem rd_congr {d e : St} (h : now d = now e) (k n : Nat) : rd d k n = rd e k n := by unfold rd; rw [h]
/-- it has no fuse, and has not failed -/
def Up (d : St) : Prop := d.fuse < 0 ∧ d.down = false
theorem up_new (n : Nat) : Up (new n) := ⟨by simp [new], rfl⟩
theorem up_wr (s : List UInt8) (k : Nat) : ∀ (m i : Nat) (d : St), Up d → Up (wr s k m i d)
  | 0, _, _, h => h
  | m + 1, i, d, h => by
    unfold wr
    rw [if_neg (by have := h.1; omega)]
    refine up_wr s k m _ _ ⟨?_, h.2⟩
    show (if 0 < d.fuse then d.fuse - 1 else d.fuse) < 0
    rw [if_neg (by have := h.1; omega)]; exact h.1
theorem up_does {d : St} {x : Stp} (h : Up d) (hx : x.d ≠ 3) : Up (does d x) := by
  unfold does
  split
  · unfold write
    split
    · exact h
    · split
      · exact h
      · exact up_wr _ _ _ _ _ h
  · split
    · unfold flush; split
      · exact h
      · exact h
    · split
      · exact ⟨by simp [crash], rfl⟩
      · exact h
end Dsk
open Go.RowKit

/-- A holds of what lies in R -/
structure Held (R : Nat → Prop) (A : World → Prop) : Prop where
  keep : ∀ {w w' : World} {T : Nat → Prop}, A w → Turns T w w' → (∀ k, R k → ¬ T k) → A w'
  lt : ∀ {w : World}, A w → ∀ k, R k → k < w.heap.size
theorem Held.disk (S : Nat → Prop) (p : Nat) (d : Dsk.St) : Held S (DiskAt S p d) := ⟨fun h ht hn => h.keeps ht hn, fun h => h.lt⟩
theorem Held.ref (S : Nat → Prop) (p : Nat) (d : Dsk.St) : Held S (RefAt S p d) := ⟨fun h ht hn => h.keeps ht hn, fun h => h.lt⟩
theorem Held.both {R R2 : Nat → Prop} {A A2 : World → Prop} (h : Held R A) (h2 : Held R2 A2) : Held (fun j => R j ∨ R2 j) (fun w => A w ∧ A2 w) :=
  ⟨fun a ht hn => ⟨h.keep a.1 ht (fun k hk => hn k (.inl hk)), h2.keep a.2 ht (fun k hk => hn k (.inr hk))⟩, fun a k hk => by
    rcases hk with hk | hk
    · exact h.lt a.1 k hk
    · exact h2.lt a.2 k hk⟩

/-- a disk, and what lies apart from it; all that was made lies from B on -/
structure Play (B : Nat) (W : World) (S : Nat → Prop) (p : Nat) (d : Dsk.St) (R : Nat → Prop) (A : World → Prop) (w : World) : Prop where
  disk : DiskAt S p d w
  rest : A w
  held : Held R A
  apart : ∀ j, S j → ¬ R j
  loS : ∀ j, S j → B ≤ j
  loR : ∀ j, R j → B ≤ j
  below : Below B W w
  size : B ≤ w.heap.size

variable {B : Nat} {W : World} {S R : Nat → Prop} {p : Nat} {d : Dsk.St} {A : World → Prop} {w w' : World}
theorem Play.new (h : Play B W S p d R A w) (hb : Below w.heap.size w w') : Play B W S p d R A w' :=
  ⟨h.disk.new hb, h.held.keep h.rest (Turns.of_new hb (fun _ => False)) (fun _ _ => id), h.held, h.apart, h.loS, h.loR, h.below.trans (hb.mono h.size), Nat.le_trans h.size hb.size⟩
theorem Play.turn {S' : Nat → Prop} {d' : Dsk.St} (h : Play B W S p d R A w) (ht : Turns S w w') (hS' : ∀ j, S' j → S j ∨ w.heap.size ≤ j) (hd : DiskAt S' p d' w') : Play B W S' p d' R A w' :=
  ⟨hd, h.held.keep h.rest ht (fun k a b => h.apart k b a), h.held, apart_on h.apart (h.held.lt h.rest) hS', fun j hj => by
    rcases hS' j hj with hs | hs
    · exact h.loS j hs
    · exact Nat.le_trans h.size hs, h.loR, h.below.trans (ht.below h.size (fun k _ hk => h.loS k hk)), Nat.le_trans h.size ht.size⟩
theorem Play.swap {S2 : Nat → Prop} {p2 : Nat} {d2 : Dsk.St} (h : Play B W S p d S2 (DiskAt S2 p2 d2) w) : Play B W S2 p2 d2 S (DiskAt S p d) w :=
  ⟨h.rest, h.disk, Held.disk S p d, fun j a b => h.apart j b a, h.loR, h.loS, h.below, h.size⟩
/-- a copy has been made -/
theorem Play.copied {S2 : Nat → Prop} {p2 : Nat} {d2 : Dsk.St} (h : Play B W S p d R A w) (hb : Below w.heap.size w w') (hS2 : ∀ j, S2 j → w.heap.size ≤ j) (h2 : DiskAt S2 p2 d2 w') : Play B W S p d (fun j => S2 j ∨ R j) (fun u => DiskAt S2 p2 d2 u ∧ A u) w' := by
  have hn := h.new hb
  exact ⟨hn.disk, ⟨h2, hn.rest⟩, (Held.disk S2 p2 d2).both h.held, fun j a b => by
    rcases b with b | b
    · have := hS2 j b; have := h.disk.lt j a; omega
    · exact h.apart j a b, h.loS, fun j hj => by
    rcases hj with hj | hj
    · exact Nat.le_trans h.size (hS2 j hj)
    · exact h.loR j hj, hn.below, hn.size⟩
/-- nothing lies apart -/
theorem Play.alone (hd : DiskAt S p d w) (hS : ∀ j, S j → B ≤ j) (hb : Below B W w) (hB : B ≤ w.heap.size) : Play B W S p d (fun _ => False) (fun _ => True) w :=
  ⟨hd, trivial, ⟨fun _ _ _ => trivial, fun _ k hk => hk.elim⟩, fun _ _ => id, hS, fun _ hk => hk.elim, hb, hB⟩
theorem Play.weak {R2 : Nat → Prop} {A2 : World → Prop} (h : Play B W S p d R A w) (hR : ∀ j, R2 j → R j) (hA : A w → A2 w) (hh : Held R2 A2) : Play B W S p d R2 A2 w :=
  ⟨h.disk, hA h.rest, hh, fun j a b => h.apart j a (hR j b), h.loS, fun j hj => h.loR j (hR j hj), h.below, h.size⟩
end Go.Proofs.Ytjlkppdailkanaa
