/-
  Two logs on two disks, the program's and the document's, and the pair that leads to them.
-/
import Derived.Test.YtjmpagbjkehebaaGreatWalBoth
import Derived.Test.YtjmpagbjkehebaaGreatWalAlive
set_option linter.unusedVariables false
set_option maxRecDepth 100000
namespace Go.Proofs.YtjmpagbjkehebaaGreat
open Go.RowKit

namespace Wal
theorem append_ok {d : Dsk.St} {s : St} {m : Nat} (h : s.Ok m) (l : Grp) : (append d s l).2.1.Ok m := by
  have o1 := h.used
  have o2 := h.lo
  have o3 := h.hi
  have o4 := h.m
  have o5 := h.len
  unfold append
  split
  · exact h
  · split
    · exact h
    · rename_i hr
      split
      · exact h
      · rename_i hk
        simp only []
        split
        · have hp := secs_pos (Oct.row l).1
          refine ⟨h.gen, by show s.used + _ ≤ s.n - 1; omega, h.lo, h.hi, h.m, by show (s.L ++ [l]).length ≤ s.used + _; rw [List.length_append]; simp; omega, fun x hx => ?_, h.err⟩
          rcases List.mem_append.1 hx with hx | hx
          · exact h.fine x hx
          · simp at hx; subst hx
            refine ⟨by simpa using hr, ?_⟩
            have : secs (Oct.row x).1 ≤ 16384 := by omega
            unfold secs whole at this
            omega
        · exact ⟨h.gen, h.used, h.lo, h.hi, h.m, h.len, h.fine, steps_err _ _⟩
theorem reset_ok {d : Dsk.St} {s : St} {m : Nat} (h : s.Ok m) : (reset d s).2.1.Ok m := by
  unfold reset
  split
  · exact h
  · simp only []
    split
    · exact ⟨up_lt' _, Nat.zero_le _, h.lo, h.hi, h.m, by simp, fun l hl => by simp at hl, h.err⟩
    · exact ⟨h.gen, h.used, h.lo, h.hi, h.m, h.len, h.fine, steps_err _ _⟩
where up_lt' (g : Nat) : up g < 18446744073709551616 := Nat.mod_lt _ (by decide)
theorem steps_n : ∀ (L : List Op) (d : Dsk.St), (steps L d).1.n = d.n
  | [], d => rfl
  | o :: r, d => by
    have h1 : (one d o).1.n = d.n := by
      cases o with
      | wr a s => exact Dsk.write_n d a s
      | fl => exact Dsk.flush_n d
    unfold steps
    split
    · rw [steps_n r, h1]
    · exact h1
theorem append_n (d : Dsk.St) (s : St) (l : Grp) : (append d s l).1.n = d.n := by
  unfold append
  split
  · rfl
  · split
    · rfl
    · split
      · rfl
      · exact steps_n _ _
theorem reset_n (d : Dsk.St) (s : St) : (reset d s).1.n = d.n := by
  unfold reset
  split
  · rfl
  · exact steps_n _ _
end Wal

def prcells (pd pr : Nat) (v2 v3 : Value) (fr n : Int) : Array Value := #[.pointer (some ⟨pd, 0, none⟩), .pointer (some ⟨pr, 0, none⟩), v2, v3, .int .i64 fr, .int .i64 n]
def prObj (pd pr : Nat) (v2 v3 : Value) (fr n : Int) : Obj := .cells (prcells pd pr v2 v3 fr n) 49 (0, 0)
/-- both, in a world that came of W, all of it from B on -/
structure Pw (B : Nat) (W : World) (S R T Q : Nat → Prop) (pp pd pr pw px : Nat) (fr n : Int) (dl : Dsk.St) (sl : Wal.St) (dr : Dsk.St) (sr : Wal.St) (w : World) : Prop where
  disk : DiskAt S pd dl w
  wal : WalAt R pw pd sl w
  ref : RefAt T pr dr w
  log : RwAt Q px pr sr w
  aL : ∀ j, S j → ¬ R j
  aR : ∀ j, T j → ¬ Q j
  cross : ∀ j, (S j ∨ R j) → ¬ (T j ∨ Q j)
  row : w.heap[pp]? = some (prObj pd pr (.pointer (some ⟨pw, 0, none⟩)) (.pointer (some ⟨px, 0, none⟩)) fr n)
  off : ¬ ((S pp ∨ R pp) ∨ (T pp ∨ Q pp))
  lo : ∀ j, ((S j ∨ R j) ∨ (T j ∨ Q j)) → B ≤ j
  lop : B ≤ pp
  below : Below B W w
  size : B ≤ w.heap.size

section
variable {B : Nat} {W : World} {S R T Q : Nat → Prop} {pp pd pr pw px : Nat} {fr n : Int} {dl dr : Dsk.St} {sl sr : Wal.St} {w w' : World}
theorem Pw.lt (h : Pw B W S R T Q pp pd pr pw px fr n dl sl dr sr w) : ∀ j, ((S j ∨ R j) ∨ (T j ∨ Q j)) → j < w.heap.size := fun j hj => by
  rcases hj with (e | e) | (e | e)
  · exact h.disk.lt j e
  · exact h.wal.lt j e
  · exact h.ref.lt j e
  · exact h.log.lt j e
theorem Pw.new (h : Pw B W S R T Q pp pd pr pw px fr n dl sl dr sr w) (hb : Below w.heap.size w w') : Pw B W S R T Q pp pd pr pw px fr n dl sl dr sr w' :=
  ⟨h.disk.new hb, h.wal.new hb, h.ref.new hb, h.log.new hb, h.aL, h.aR, h.cross, by rw [hb.block _ (row_lt h.row)]; exact h.row, h.off, h.lo, h.lop, h.below.trans (hb.mono h.size), Nat.le_trans h.size hb.size⟩
/-- the program's side has turned -/
theorem Pw.left (h : Pw B W S R T Q pp pd pr pw px fr n dl sl dr sr w) {S' R' : Nat → Prop} {d' : Dsk.St} {s' : Wal.St} (k : Apn w S R [] S' R' pw pd d' s' w') : Pw B W S' R' T Q pp pd pr pw px fr n d' s' dr sr w' := by
  have hS : ∀ j, (S' j ∨ R' j) → (S j ∨ R j) ∨ w.heap.size ≤ j := fun j hj => by
    rcases hj with e | e
    · exact (k.loS j e).imp .inl id
    · exact (k.loR j e).imp .inr id
  have hz := k.turns.size
  refine ⟨k.disk, k.wal, h.ref.keeps k.turns (fun j a b => h.cross j b (.inl a)), h.log.keeps k.turns (fun j a b => h.cross j b (.inr a)), k.apart, h.aR, fun j a b => ?_, k.turns.same h.row (fun e => h.off (.inl e)), fun e => ?_, fun j hj => ?_, h.lop, h.below.trans (k.turns.below h.size (fun j _ e => h.lo j (.inl e))), Nat.le_trans h.size hz⟩
  · rcases hS j a with e | e
    · exact h.cross j e b
    · have := h.lt j (.inr b); omega
  · rcases e with e | e
    · rcases hS _ e with e | e
      · exact h.off (.inl e)
      · have := row_lt h.row; omega
    · exact h.off (.inr e)
  · rcases hj with e | e
    · rcases hS j e with e | e
      · exact h.lo j (.inl e)
      · exact Nat.le_trans h.size e
    · exact h.lo j (.inr e)
/-- the document's side has turned -/
theorem Pw.right (h : Pw B W S R T Q pp pd pr pw px fr n dl sl dr sr w) {T' Q' : Nat → Prop} {d' : Dsk.St} {s' : Wal.St} (k : Rpn w T Q T' Q' px pr d' s' w') : Pw B W S R T' Q' pp pd pr pw px fr n dl sl d' s' w' := by
  have hS : ∀ j, (T' j ∨ Q' j) → (T j ∨ Q j) ∨ w.heap.size ≤ j := fun j hj => by
    rcases hj with e | e
    · exact (k.loS j e).imp .inl id
    · exact (k.loR j e).imp .inr id
  have hz := k.turns.size
  refine ⟨h.disk.keeps k.turns (fun j a b => h.cross j (.inl a) b), h.wal.keeps k.turns (fun j a b => h.cross j (.inr a) b), k.disk, k.wal, h.aL, k.apart, fun j a b => ?_, k.turns.same h.row (fun e => h.off (.inr e)), fun e => ?_, fun j hj => ?_, h.lop, h.below.trans (k.turns.below h.size (fun j _ e => h.lo j (.inr e))), Nat.le_trans h.size hz⟩
  · rcases hS j b with e | e
    · exact h.cross j a e
    · have := h.lt j (.inl a); omega
  · rcases e with e | e
    · exact h.off (.inl e)
    · rcases hS _ e with e | e
      · exact h.off (.inr e)
      · have := row_lt h.row; omega
  · rcases hj with e | e
    · exact h.lo j (.inl e)
    · rcases hS j e with e | e
      · exact h.lo j (.inr e)
      · exact Nat.le_trans h.size e
theorem Pw.leftDisk (h : Pw B W S R T Q pp pd pr pw px fr n dl sl dr sr w) {S' : Nat → Prop} {d' : Dsk.St} (ht : Turns S w w') (hS : ∀ j, S' j → S j ∨ w.heap.size ≤ j) (hd : DiskAt S' pd d' w') : Pw B W S' R T Q pp pd pr pw px fr n d' sl dr sr w' :=
  h.left ((Apn.start h.disk h.wal h.aL).turnDisk ht hS hd)
theorem Pw.rightDisk (h : Pw B W S R T Q pp pd pr pw px fr n dl sl dr sr w) {T' : Nat → Prop} {d' : Dsk.St} (ht : Turns T w w') (hS : ∀ j, T' j → T j ∨ w.heap.size ≤ j) (hd : RefAt T' pr d' w') : Pw B W S R T' Q pp pd pr pw px fr n dl sl d' sr w' :=
  h.right ((Rpn.start h.ref h.log h.aR).turnDisk ht hS hd)
end

/-- what a pair's open leaves: other logs, or the same -/
def POpnR (o : Option Wal.St × Int) (pp pd pr : Nat) (w : World) (e : Ending) (w' : World) : Prop :=
  e = .returned (.bool true) ∧ ((o.1 = none ∧ Below w.heap.size w w') ∨ ∃ s R Q pw px w1, o.1 = some s ∧ Below w.heap.size w w1 ∧ WalAt R pw pd s w1 ∧ RwAt Q px pr s w1 ∧ (∀ j, R j → w.heap.size ≤ j) ∧ (∀ j, Q j → w.heap.size ≤ j) ∧ (∀ j, R j → ¬ Q j) ∧
    w' = (w1.setCell ⟨pp, 2, none⟩ (.pointer (some ⟨pw, 0, none⟩))).setCell ⟨pp, 3, none⟩ (.pointer (some ⟨px, 0, none⟩)))

theorem pw_row {w1 : World} {pp pd pr pw px : Nat} {v2 v3 : Value} {fr n : Int} (h : w1.heap[pp]? = some (prObj pd pr v2 v3 fr n)) :
    ((w1.setCell ⟨pp, 2, none⟩ (.pointer (some ⟨pw, 0, none⟩))).setCell ⟨pp, 3, none⟩ (.pointer (some ⟨px, 0, none⟩))).heap[pp]? = some (prObj pd pr (.pointer (some ⟨pw, 0, none⟩)) (.pointer (some ⟨px, 0, none⟩)) fr n) := by
  have h1 := heap_setCell_same w1 pp 2 _ _ (.pointer (some ⟨pw, 0, none⟩)) h
  rw [heap_setCell_same _ pp 3 _ _ _ h1]; rfl
theorem pw_turns (w1 : World) (pp : Nat) (x y : Value) : Turns (fun k => k = pp) w1 ((w1.setCell ⟨pp, 2, none⟩ x).setCell ⟨pp, 3, none⟩ y) :=
  ((Turns.refl (fun k => k = pp) w1).set pp 2 _ (fun _ => rfl)).set pp 3 _ (fun _ => rfl)

section
variable {B : Nat} {W : World} {S R T Q : Nat → Prop} {pp pd pr pw px : Nat} {fr n : Int} {dl dr : Dsk.St} {sl sr : Wal.St} {w w' : World}
/-- a pair is made, or another one: of what lies there, and of new logs -/
theorem Pw.make {R1 Q1 : Nat → Prop} {pw1 px1 : Nat} {s1 : Wal.St} {w1 : World} {v2 v3 : Value} (hd : DiskAt S pd dl w) (hr : RefAt T pr dr w) (hst : ∀ j, S j → ¬ T j) (hrow : w.heap[pp]? = some (prObj pd pr v2 v3 fr n)) (hpp : ¬ (S pp ∨ T pp)) (hlo : ∀ j, (S j ∨ T j) → B ≤ j) (hlop : B ≤ pp)
    (hbel : Below B W w) (hsz : B ≤ w.heap.size) (hb : Below w.heap.size w w1) (hw : WalAt R1 pw1 pd s1 w1) (hx : RwAt Q1 px1 pr s1 w1) (hR : ∀ j, R1 j → w.heap.size ≤ j) (hQ : ∀ j, Q1 j → w.heap.size ≤ j) (hRQ : ∀ j, R1 j → ¬ Q1 j) :
    Pw B W S R1 T Q1 pp pd pr pw1 px1 fr n dl s1 dr s1 ((w1.setCell ⟨pp, 2, none⟩ (.pointer (some ⟨pw1, 0, none⟩))).setCell ⟨pp, 3, none⟩ (.pointer (some ⟨px1, 0, none⟩))) := by
  have hpl := row_lt hrow
  have hrow1 : w1.heap[pp]? = some (prObj pd pr v2 v3 fr n) := by rw [hb.block _ hpl]; exact hrow
  have ht := pw_turns w1 pp (.pointer (some ⟨pw1, 0, none⟩)) (.pointer (some ⟨px1, 0, none⟩))
  refine ⟨(hd.new hb).keeps ht (fun j a b => hpp (.inl (b ▸ a))), hw.keeps ht (fun j a b => by have := hR j a; omega), (hr.new hb).keeps ht (fun j a b => hpp (.inr (b ▸ a))), hx.keeps ht (fun j a b => by have := hQ j a; omega), fun j a b => ?_, fun j a b => ?_, fun j a b => ?_, pw_row hrow1, fun e => ?_, fun j hj => ?_, hlop, (hbel.trans (hb.mono hsz)).trans (ht.below (Nat.le_trans hsz hb.size) (fun j _ e => by omega)), Nat.le_trans (Nat.le_trans hsz hb.size) ht.size⟩
  · have := hd.lt j a; have := hR j b; omega
  · have := hr.lt j a; have := hQ j b; omega
  · rcases a with a | a
    · rcases b with b | b
      · exact hst j a b
      · have := hd.lt j a; have := hQ j b; omega
    · rcases b with b | b
      · have := hr.lt j b; have := hR j a; omega
      · exact hRQ j a b
  · rcases e with (e | e) | (e | e)
    · exact hpp (.inl e)
    · have := hR _ e; omega
    · exact hpp (.inr e)
    · have := hQ _ e; omega
  · rcases hj with (e | e) | (e | e)
    · exact hlo j (.inl e)
    · have := hR j e; omega
    · exact hlo j (.inr e)
    · have := hQ j e; omega
/-- both are opened again -/
theorem Pw.reopen (h : Pw B W S R T Q pp pd pr pw px fr n dl sl dr sl w) {o : Option Wal.St × Int} {e : Ending} (k : POpnR o pp pd pr w e w') : ∃ R' Q' pw' px' s', e = .returned (.bool true) ∧ Pw B W S R' T Q' pp pd pr pw' px' fr n dl s' dr s' w' ∧ (s' = sl ∨ o.1 = some s') := by
  obtain ⟨rfl, ⟨_, hb⟩ | ⟨s', R', Q', pw', px', w1, ho, hb, h1, h2, h3, h4, h5, rfl⟩⟩ := k
  · exact ⟨R, Q, pw, px, sl, rfl, h.new hb, .inl rfl⟩
  · exact ⟨R', Q', pw', px', s', rfl, Pw.make h.disk h.ref (fun j a b => h.cross j (.inl a) (.inl b)) h.row (fun e => h.off (e.imp .inl .inl)) (fun j hj => h.lo j (hj.imp .inl .inl)) h.lop h.below h.size hb h1 h2 h3 h4 h5, .inr ho⟩
end
end Go.Proofs.YtjmpagbjkehebaaGreat
