/-
  Plain mathematics: a disk that no fuse stops; how much a Commit asks of it.
-/
import Derived.Test.YticcipgdjpoimaaGreatFilAlive0
set_option linter.unusedVariables false
namespace Go.Proofs.YticcipgdjpoimaaGreat
namespace Dsk
/-- a disk that goes on -/
def Up (d : St) : Prop := d.down = false ∧ d.fuse < 0
theorem wr_up (s : List UInt8) (k : Nat) : ∀ (m i : Nat) (d : St), Up d → Up (wr s k m i d)
  | 0, i, d, h => h
  | m + 1, i, d, h => by
    unfold wr
    have h2 := h.2
    rw [if_neg (by omega)]
    exact wr_up s k m (i + 1) _ ⟨h.1, by show (if 0 < d.fuse then d.fuse - 1 else d.fuse) < 0; rw [if_neg (by omega)]; exact h2⟩
theorem write_up {d : St} (h : Up d) (a : Int) (s : List UInt8) : Up (write d a s).1 ∧ (write d a s).2 ≠ 40 := by
  unfold write
  rw [if_neg (by rw [h.1]; decide)]
  split
  · exact ⟨h, by show (2 : Int) ≠ 40; decide⟩
  · have hu := wr_up s a.toNat (s.length / 64) 0 d h
    refine ⟨hu, ?_⟩
    simp only
    rw [if_neg (by rw [hu.1]; decide)]
    decide
theorem flush_go {d : St} (h : Up d) : Up (flush d).1 ∧ (flush d).2 ≠ 40 := by
  unfold flush
  rw [if_neg (by rw [h.1]; decide)]
  exact ⟨h, by show (0 : Int) ≠ 40; decide⟩
theorem crash_up (d : St) (keep : List UInt8) : Up (crash d keep) := ⟨rfl, by show (-1 : Int) < 0; decide⟩
theorem new_up (n : Nat) : Up (new n) := ⟨rfl, by show (-1 : Int) < 0; decide⟩
end Dsk
namespace Wal
open Dsk
theorem steps_up : ∀ (L : List Op) (d : Dsk.St), Up d → Up (steps L d).1 ∧ (steps L d).2 ≠ 40
  | [], d, h => ⟨h, by show (0 : Int) ≠ 40; decide⟩
  | o :: r, d, h => by
    have h1 : Up (one d o).1 ∧ (one d o).2 ≠ 40 := by
      cases o with
      | wr a s => exact write_up h a s
      | fl => exact flush_go h
    unfold steps
    split
    · exact steps_up r _ h1.1
    · exact h1
theorem append_up {d : Dsk.St} {s : St} (h : Up d) (he : s.err = 0) (l : Grp) : Up (append d s l).1 ∧ (append d s l).2.2 ≠ 40 := by
  unfold append
  rw [if_neg (fun e => e he)]
  split
  · refine ⟨h, ?_⟩
    show (Oct.row l).2 ≠ 40
    unfold Oct.row
    split
    · show (0 : Int) ≠ 40; decide
    · show (5 : Int) ≠ 40; decide
  split
  · exact ⟨h, by show (4 : Int) ≠ 40; decide⟩
  · exact steps_up _ d h
theorem reset_up {d : Dsk.St} {s : St} (h : Up d) (he : s.err = 0) : Up (reset d s).1 ∧ (reset d s).2.2 ≠ 40 := by
  unfold reset
  rw [if_neg (fun e => e he)]
  exact steps_up _ d h
end Wal
namespace Fil
open Dsk
theorem rw_up {d : Dsk.St} {s : Wal.St} (h : Up d) (he : s.err = 0) (f : Nat) (r : Row) (a g : Nat) : ∀ k, Up (rwD d s f r a g k) ∧ rwE d s f r a g k ≠ 40 := by
  have h1 := write_up h (f : Int) (atext r)
  have h2 := flush_go h1.1
  have h3 := write_up h2.1 0 (mark a g)
  have h4 := flush_go h3.1
  have h5 := Wal.reset_up h4.1 he
  intro k
  match k with
  | 0 => exact ⟨h, h1.2⟩
  | 1 => exact ⟨h1.1, h2.2⟩
  | 2 => exact ⟨h2.1, h3.2⟩
  | 3 => exact ⟨h3.1, h4.2⟩
  | 4 => exact ⟨h4.1, h5.2⟩
  | k + 5 => exact ⟨h5.1, by show (0 : Int) ≠ 40; decide⟩
theorem store_up {d : Dsk.St} {s : Wal.St} (h : Up d) {m : Nat} (hs : s.Ok m) (he : s.err = 0) (t : St) (g : Wal.Grp) (r : Row) : Up (store d s t g r).1 ∧ (store d s t g r).2.2.2 ≠ 40 := by
  have ha := Wal.append_up h he g
  unfold store
  split
  · rename_i h45
    obtain ⟨a1, a2⟩ := append_45 hs g h45
    rw [a1, a2]
    have hr := rw_up h he (arAt t.n + (1 - t.a) * arN t.n) r (1 - t.a) (Wal.up s.gen)
    refine ⟨(hr _).1, ?_⟩
    show err _ 6 ≠ 40
    unfold err
    split
    · decide
    · exact (hr _).2
  · exact ha
theorem commit_up {d : Dsk.St} {s : Wal.St} {t : St} {o : Option (Nat × Nat)} {rb : Row} {xs : List Chb} (hl : Live d s t o rb xs) (h : Up d) (l : List Chb) : Up (commit d s t l).1 ∧ (commit d s t l).2.2.2 ≠ 40 := by
  have hst := store_up h hl.g.log.ok hl.e t (grpOf l) (puts t.r (chs l))
  unfold commit
  rw [if_neg (fun e => e hl.err)]
  split
  · exact ⟨h, by show (2 : Int) ≠ 40; decide⟩
  split
  · exact ⟨h, by show (4 : Int) ≠ 40; decide⟩
  · exact hst
theorem rwD_ops (d : Dsk.St) (s : Wal.St) (f : Nat) (r : Row) (a g : Nat) : ∀ k, (rwD d s f r a g k).ops ≤ d.ops + Wal.whole (4 + used r) + 2 := by
  have h1 := Dsk.write_ops d (f : Int) (atext r)
  rw [atext_length] at h1
  have h2 := Dsk.flush_ops (rwD d s f r a g 1)
  have h3 := Dsk.write_ops (rwD d s f r a g 2) 0 (mark a g)
  rw [mark_length] at h3
  have h4 := Dsk.flush_ops (rwD d s f r a g 3)
  have h5 := Wal.reset_ops (rwD d s f r a g 4) s
  have g1 : (rwD d s f r a g 1).ops ≤ d.ops + Wal.whole (4 + used r) * 64 / 64 := h1
  have g2 : (rwD d s f r a g 2).ops = (rwD d s f r a g 1).ops := h2
  have g3 : (rwD d s f r a g 3).ops ≤ (rwD d s f r a g 2).ops + 64 / 64 := h3
  have g4 : (rwD d s f r a g 4).ops = (rwD d s f r a g 3).ops := h4
  intro k
  match k with
  | 0 => show d.ops ≤ _; omega
  | 1 => omega
  | 2 => omega
  | 3 => omega
  | 4 => omega
  | k + 5 =>
    have g5 : (rwD d s f r a g (k + 5)).ops ≤ (rwD d s f r a g 4).ops + 1 := h5
    omega
theorem commit_ops {d : Dsk.St} {s : Wal.St} {t : St} {o : Option (Nat × Nat)} {rb : Row} {xs : List Chb} (hl : Live d s t o rb xs) (l : List Chb) : (commit d s t l).1.ops ≤ d.ops + 40000 := by
  have hok := hl.g.log.ok
  have tn := hl.n
  have hhi := hl.g.ok.hi
  unfold commit
  rw [if_neg (fun e => e hl.err)]
  split
  · show d.ops ≤ _; omega
  split
  · show d.ops ≤ _; omega
  · rename_i hu
    show (store d s t (grpOf l) (puts t.r (chs l))).1.ops ≤ _
    unfold store
    split
    · rename_i h45
      obtain ⟨a1, a2⟩ := append_45 hok (grpOf l) h45
      rw [a1, a2]
      have := rwD_ops d s (arAt t.n + (1 - t.a) * arN t.n) (puts t.r (chs l)) (1 - t.a) (Wal.up s.gen) (at_ (rwE d s (arAt t.n + (1 - t.a) * arN t.n) (puts t.r (chs l)) (1 - t.a) (Wal.up s.gen)) 6)
      have hw := Wal.whole_hi (4 + used (puts t.r (chs l)))
      have hN : arN t.n ≤ t.n := by unfold arN; omega
      show (rwD d s _ _ _ _ _).ops ≤ _
      omega
    · have := Wal.append_ops (d := d) hok (grpOf l)
      show (Wal.append d s (grpOf l)).1.ops ≤ _
      omega
theorem live_crash {d : Dsk.St} {s : Wal.St} {t : St} {o : Option (Nat × Nat)} {rb : Row} {xs : List Chb} (hl : Live d s t o rb xs) (keep : List UInt8) : Live (Dsk.crash d keep) s t o rb xs := by
  have h := crash_fg hl.g keep
  have e : ({ s with err := 0 } : Wal.St) = s := by rw [← hl.e]
  rw [e] at h
  exact ⟨h, hl.e, hl.q, hl.t⟩
end Fil

theorem Sys.here {w W : World} {T : Nat → Prop} {N : Nat} {S R : Nat → Prop} {p q pw bm : Nat} {d : Dsk.St} {s : Wal.St} {t : Fil.St} (h : Sys w T N S R p q pw bm d s t W) : Sys W (fun j => S j ∨ R j ∨ j = p) N S R p q pw bm d s t W :=
  ⟨⟨h.a.disk, h.a.wal, h.a.apart, h.a.rows, fun j hj => .inl (.inl hj), fun j hj => .inl (.inr (.inl hj)), Turns.refl _ W⟩, h.mp, h.off, fun _ => .inr (.inr rfl), h.srt, h.fine, h.sum⟩
theorem Sys.back {w W W' : World} {T : Nat → Prop} {N N' : Nat} {S R S' R' : Nat → Prop} {p q pw bm bm' : Nat} {d d' : Dsk.St} {s s' : Wal.St} {t t' : Fil.St} (h : Sys w T N S R p q pw bm d s t W) (k : Sys W (fun j => S j ∨ R j ∨ j = p) N' S' R' p q pw bm' d' s' t' W') : Sys w T N' S' R' p q pw bm' d' s' t' W' := by
  have hsz := h.a.turns.size
  have hlo : ∀ j, (S j ∨ R j ∨ j = p) ∨ W.heap.size ≤ j → T j ∨ w.heap.size ≤ j := fun j hj => by
    rcases hj with (e | e | e) | e
    · exact h.a.loS j e
    · exact h.a.loR j e
    · rw [e]
      rcases Nat.lt_or_ge p w.heap.size with e2 | e2
      · exact .inl (h.pT e2)
      · exact .inr e2
    · exact .inr (by omega)
  refine ⟨⟨k.a.disk, k.a.wal, k.a.apart, k.a.rows, fun j hj => hlo j (k.a.loS j hj), fun j hj => hlo j (k.a.loR j hj), h.a.turns.trans k.a.turns (fun j hj e => ?_)⟩, k.mp, k.off, h.pT, k.srt, k.fine, k.sum⟩
  have e' : S j ∨ R j ∨ j = p := e.elim id id
  rcases hlo j (.inl e') with e2 | e2
  · exact .inl e2
  · omega
/-- blocks that are the caller's stay as they are -/
theorem Sys.other {W W' : World} {N' : Nat} {S R S' R' : Nat → Prop} {p q pw bm' : Nat} {d' : Dsk.St} {s' : Wal.St} {t' : Fil.St} (k : Sys W (fun j => S j ∨ R j ∨ j = p) N' S' R' p q pw bm' d' s' t' W') {b : Nat} {o : Obj} (hb : W.heap[b]? = some o) (h1 : ¬ S b) (h2 : ¬ R b) (h3 : b ≠ p) :
    W'.heap[b]? = some o ∧ ¬ S' b ∧ ¬ R' b := by
  have hlt := row_lt hb
  refine ⟨k.a.turns.same hb (fun e => ?_), fun e => ?_, fun e => ?_⟩
  · rcases e.elim id id with e | e | e
    · exact h1 e
    · exact h2 e
    · exact h3 e
  · rcases k.a.loS b e with (e | e | e) | e
    · exact h1 e
    · exact h2 e
    · exact h3 e
    · omega
  · rcases k.a.loR b e with (e | e | e) | e
    · exact h1 e
    · exact h2 e
    · exact h3 e
    · omega
end Go.Proofs.YticcipgdjpoimaaGreat
