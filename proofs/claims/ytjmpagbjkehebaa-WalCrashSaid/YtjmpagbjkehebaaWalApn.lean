/-
  What lies in memory while a log is appended to, or reset.
-/
import Derived.Test.YtjmpagbjkehebaaWalOpen2
set_option linter.unusedVariables false
set_option maxRecDepth 100000
namespace Go.Proofs.Ytjmpagbjkehebaa
open Go.RowKit

/-- a log and its disk, and blocks that stay as they are, in a world that came of w; there the disk had S0, the log R0 -/
structure Apn (w : World) (S0 R0 : Nat → Prop) (kept : List (Nat × Obj)) (S R : Nat → Prop) (p q : Nat) (d : Dsk.St) (s : Wal.St) (W : World) : Prop where
  disk : DiskAt S q d W
  wal : WalAt R p q s W
  apart : ∀ j, S j → ¬ R j
  rows : ∀ x ∈ kept, W.heap[x.1]? = some x.2 ∧ ¬ S x.1 ∧ ¬ R x.1
  loS : ∀ j, S j → S0 j ∨ w.heap.size ≤ j
  loR : ∀ j, R j → R0 j ∨ w.heap.size ≤ j
  turns : Turns (fun j => S0 j ∨ R0 j) w W

section
variable {w : World} {S0 R0 : Nat → Prop} {kept : List (Nat × Obj)} {S R : Nat → Prop} {p q : Nat} {d : Dsk.St} {s : Wal.St} {W W' : World}
theorem Apn.start (hd : DiskAt S0 q d w) (hw : WalAt R0 p q s w) (ha : ∀ j, S0 j → ¬ R0 j) : Apn w S0 R0 [] S0 R0 p q d s w :=
  ⟨hd, hw, ha, fun x hx => by simp at hx, fun j hj => .inl hj, fun j hj => .inl hj, Turns.refl _ _⟩
theorem Apn.new (h : Apn w S0 R0 kept S R p q d s W) (hb : Below W.heap.size W W') : Apn w S0 R0 kept S R p q d s W' :=
  ⟨h.disk.new hb, h.wal.new hb, h.apart, fun x hx => ⟨by rw [hb.block _ (row_lt (h.rows x hx).1)]; exact (h.rows x hx).1, (h.rows x hx).2⟩, h.loS, h.loR, h.turns.trans (Turns.of_new hb (fun _ => False)) (fun _ _ e => e.elim)⟩
/-- a block more, that is new to both -/
theorem Apn.add (h : Apn w S0 R0 kept S R p q d s W) (x : Nat × Obj) (hx : W.heap[x.1]? = some x.2) (hS : ¬ S x.1) (hR : ¬ R x.1) : Apn w S0 R0 (x :: kept) S R p q d s W :=
  ⟨h.disk, h.wal, h.apart, fun y hy => by
    rcases List.mem_cons.1 hy with rfl | hy
    · exact ⟨hx, hS, hR⟩
    · exact h.rows y hy, h.loS, h.loR, h.turns⟩
theorem Apn.box (h : Apn w S0 R0 kept S R p q d s W) (o : Obj) (b : Nat) (hb : W.heap.size = b) : Apn w S0 R0 ((b, o) :: kept) S R p q d s (W.alloc o) := by
  subst hb
  refine (h.new ((Below.refl _ W).alloc (Nat.le_refl _) o)).add (W.heap.size, o) (heap_alloc_new W o) (fun e => ?_) (fun e => ?_)
  · exact absurd (h.disk.lt _ e) (by simp)
  · exact absurd (h.wal.lt _ e) (by simp)
theorem Apn.row (h : Apn w S0 R0 kept S R p q d s W) {b : Nat} {o : Obj} (hm : (b, o) ∈ kept) : W.heap[b]? = some o := (h.rows _ hm).1
/-- the disk has turned -/
theorem Apn.turnDisk (h : Apn w S0 R0 kept S R p q d s W) {S' : Nat → Prop} {d' : Dsk.St} (ht : Turns S W W') (hS : ∀ j, S' j → S j ∨ W.heap.size ≤ j) (hd : DiskAt S' q d' W') : Apn w S0 R0 kept S' R p q d' s W' := by
  have hsz := h.turns.size
  refine ⟨hd, h.wal.keeps ht (fun j hr hs => h.apart j hs hr), fun j hj hr => ?_, fun x hx => ?_, fun j hj => ?_, h.loR, h.turns.trans ht (fun j hj hs => ?_)⟩
  · rcases hS j hj with e | e
    · exact h.apart j e hr
    · have := h.wal.lt j hr; omega
  · obtain ⟨h1, h2, h3⟩ := h.rows x hx
    refine ⟨ht.same h1 h2, fun e => ?_, h3⟩
    rcases hS _ e with e | e
    · exact h2 e
    · have := row_lt h1; omega
  · rcases hS j hj with e | e
    · exact h.loS j e
    · exact .inr (by omega)
  · rcases h.loS j hs with e | e
    · exact .inl e
    · omega
/-- the log has turned -/
theorem Apn.turnWal (h : Apn w S0 R0 kept S R p q d s W) {R' : Nat → Prop} {s' : Wal.St} (ht : Turns R W W') (hR : ∀ j, R' j → R j ∨ W.heap.size ≤ j) (hw : WalAt R' p q s' W') : Apn w S0 R0 kept S R' p q d s' W' := by
  have hsz := h.turns.size
  refine ⟨h.disk.keeps ht (fun j hs hr => h.apart j hs hr), hw, fun j hj hr => ?_, fun x hx => ?_, h.loS, fun j hj => ?_, h.turns.trans ht (fun j hj hs => ?_)⟩
  · rcases hR j hr with e | e
    · exact h.apart j hj e
    · have := h.disk.lt j hj; omega
  · obtain ⟨h1, h2, h3⟩ := h.rows x hx
    refine ⟨ht.same h1 h3, h2, fun e => ?_⟩
    rcases hR _ e with e | e
    · exact h3 e
    · have := row_lt h1; omega
  · rcases hR j hj with e | e
    · exact h.loR j e
    · exact .inr (by omega)
  · rcases h.loR j hs with e | e
    · exact .inr e
    · omega
/-- texts that lie apart -/
theorem Strs.turns {T : Nat → Prop} {a : Option Addr} {len : Nat} {l : List ByteArray} (h : Strs a len l w) (ht : Turns T w W) (hn : ∀ b off, 0 < len → a = some ⟨b, off, none⟩ → ¬ T b) : Strs a len l W := by
  refine ⟨h.1, fun j hj => ?_⟩
  obtain ⟨b, off, rfl, hc⟩ := h.2 j hj
  exact ⟨b, off, rfl, by rw [World.cell?_of_block (ht.block b (cell_lt hc) (hn b off (by omega) rfl))]; exact hc⟩
end
end Go.Proofs.Ytjmpagbjkehebaa
