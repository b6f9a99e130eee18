/-
  What lies in memory while the document's log is appended to, or reset.
-/
import Derived.Test.YtjmpagbjkehebaaGreatRwOpen
import Derived.Test.YtjmpagbjkehebaaGreatWalApn
import Derived.Test.YtjmpagbjkehebaaGreatRefAll
set_option linter.unusedVariables false
set_option maxRecDepth 100000
namespace Go.Proofs.YtjmpagbjkehebaaGreat
open Go.RowKit

/-- the document's log and its disk in a world that came of w; there the disk had S0, the log R0 -/
structure Rpn (w : World) (S0 R0 S R : Nat → Prop) (p q : Nat) (d : Dsk.St) (s : Wal.St) (W : World) : Prop where
  disk : RefAt S q d W
  wal : RwAt R p q s W
  apart : ∀ j, S j → ¬ R j
  loS : ∀ j, S j → S0 j ∨ w.heap.size ≤ j
  loR : ∀ j, R j → R0 j ∨ w.heap.size ≤ j
  turns : Turns (fun j => S0 j ∨ R0 j) w W

section
variable {w : World} {S0 R0 S R : Nat → Prop} {p q : Nat} {d : Dsk.St} {s : Wal.St} {W W' : World}
theorem Rpn.start (hd : RefAt S0 q d w) (hw : RwAt R0 p q s w) (ha : ∀ j, S0 j → ¬ R0 j) : Rpn w S0 R0 S0 R0 p q d s w :=
  ⟨hd, hw, ha, fun j hj => .inl hj, fun j hj => .inl hj, Turns.refl _ _⟩
theorem Rpn.new (h : Rpn w S0 R0 S R p q d s W) (hb : Below W.heap.size W W') : Rpn w S0 R0 S R p q d s W' :=
  ⟨h.disk.new hb, h.wal.new hb, h.apart, h.loS, h.loR, h.turns.trans (Turns.of_new hb (fun _ => False)) (fun _ _ e => e.elim)⟩
/-- the disk has turned -/
theorem Rpn.turnDisk (h : Rpn w S0 R0 S R p q d s W) {S' : Nat → Prop} {d' : Dsk.St} (ht : Turns S W W') (hS : ∀ j, S' j → S j ∨ W.heap.size ≤ j) (hd : RefAt S' q d' W') : Rpn w S0 R0 S' R p q d' s W' := by
  have hsz := h.turns.size
  refine ⟨hd, h.wal.keeps ht (fun j hr hs => h.apart j hs hr), fun j hj hr => ?_, fun j hj => ?_, h.loR, h.turns.trans ht (fun j hj hs => ?_)⟩
  · rcases hS j hj with e | e
    · exact h.apart j e hr
    · have := h.wal.lt j hr; omega
  · rcases hS j hj with e | e
    · exact h.loS j e
    · exact .inr (by omega)
  · rcases h.loS j hs with e | e
    · exact .inl e
    · omega
/-- the log has turned -/
theorem Rpn.turnWal (h : Rpn w S0 R0 S R p q d s W) {R' : Nat → Prop} {s' : Wal.St} (ht : Turns R W W') (hR : ∀ j, R' j → R j ∨ W.heap.size ≤ j) (hw : RwAt R' p q s' W') : Rpn w S0 R0 S R' p q d s' W' := by
  have hsz := h.turns.size
  refine ⟨h.disk.keeps ht (fun j hs hr => h.apart j hs hr), hw, fun j hj hr => ?_, h.loS, fun j hj => ?_, h.turns.trans ht (fun j hj hs => ?_)⟩
  · rcases hR j hr with e | e
    · exact h.apart j hj e
    · have := h.disk.lt j hj; omega
  · rcases hR j hj with e | e
    · exact h.loR j e
    · exact .inr (by omega)
  · rcases h.loR j hs with e | e
    · exact .inr e
    · omega
/-- from one start to an earlier one -/
theorem Rpn.trans {S1 R1 : Nat → Prop} {d1 : Dsk.St} {s1 : Wal.St} {W1 : World} (h : Rpn w S0 R0 S1 R1 p q d1 s1 W1) (h2 : Rpn W1 S1 R1 S R p q d s W) : Rpn w S0 R0 S R p q d s W := by
  have hsz := h.turns.size
  refine ⟨h2.disk, h2.wal, h2.apart, fun j hj => ?_, fun j hj => ?_, h.turns.trans h2.turns (fun j hj hx => ?_)⟩
  · rcases h2.loS j hj with e | e
    · exact h.loS j e
    · exact .inr (by omega)
  · rcases h2.loR j hj with e | e
    · exact h.loR j e
    · exact .inr (by omega)
  · rcases hx with e | e
    · rcases h.loS j e with e | e
      · exact .inl e
      · omega
    · rcases h.loR j e with e | e
      · exact .inr e
      · omega
theorem Rpn.hp (h : Rpn w S0 R0 S R p q d s W) : R p := h.wal.hp
theorem Rpn.c0 (h : Rpn w S0 R0 S R p q d s W) : W.cell? ⟨p, 0, none⟩ = some (.pointer (some ⟨q, 0, none⟩)) := by obtain ⟨v, h⟩ := h.wal; exact h.c0
theorem Rpn.c1 (h : Rpn w S0 R0 S R p q d s W) : W.cell? ⟨p, 1, none⟩ = some (.int .i64 (s.from_ : Int)) := by obtain ⟨v, h⟩ := h.wal; exact h.c1
theorem Rpn.c2 (h : Rpn w S0 R0 S R p q d s W) : W.cell? ⟨p, 2, none⟩ = some (.int .i64 (s.n : Int)) := by obtain ⟨v, h⟩ := h.wal; exact h.c2
theorem Rpn.c3 (h : Rpn w S0 R0 S R p q d s W) : W.cell? ⟨p, 3, none⟩ = some (.int .u64 (s.gen : Int)) := by obtain ⟨v, h⟩ := h.wal; exact h.c3
theorem Rpn.c5 (h : Rpn w S0 R0 S R p q d s W) : W.cell? ⟨p, 5, none⟩ = some (.int .i64 (s.used : Int)) := by obtain ⟨v, h⟩ := h.wal; exact h.c5
theorem Rpn.c6 (h : Rpn w S0 R0 S R p q d s W) : W.cell? ⟨p, 6, none⟩ = some (.int .i64 s.err) := by obtain ⟨v, h⟩ := h.wal; exact h.c6
theorem Rpn.free (h : Rpn w S0 R0 S R p q d s W) (j : Nat) : W.frozen? ⟨p, j, none⟩ = false := by obtain ⟨v, h⟩ := h.wal; exact h.free j
/-- an error of the disk is kept -/
theorem Rpn.fallen (h : Rpn w S0 R0 S R p q d s W) (E : Int) : Calls Tryz.prog 132 #[.pointer (some ⟨p, 0, none⟩), .int .i64 E] W fun x w' => x = .returned (.int .i64 E) ∧ Rpn w S0 R0 S R p q d (if E = 0 then s else { s with err := E }) w' :=
  (refFall_any h.wal E).mono fun x w' ⟨h1, h2, h3⟩ => ⟨h1, h.turnWal (h2.mono fun j _ e => by rw [e]; exact h.hp) (fun j hj => .inl hj) h3⟩
end

namespace Wal
theorem steps_two (d : Dsk.St) (a : Nat) (m : Txt) (L : List Op) : steps (.wr a m :: .fl :: L) d = if (Dsk.write d (a : Int) m).2 = 0 then (if (Dsk.flush (Dsk.write d (a : Int) m).1).2 = 0 then steps L (Dsk.flush (Dsk.write d (a : Int) m).1).1 else Dsk.flush (Dsk.write d (a : Int) m).1) else Dsk.write d (a : Int) m := rfl
end Wal
end Go.Proofs.YtjmpagbjkehebaaGreat
