/-
  rewrite's steps, one after another.
-/
import Derived.Test.YticcipgdjpoimaaGreatFilRw6
import Derived.Test.YticcipgdjpoimaaGreatWalA
set_option linter.unusedVariables false
set_option maxRecDepth 100000
namespace Go.Proofs.YticcipgdjpoimaaGreat
open Go.RowKit

namespace Fil
/-- the disk, its answer behind each of rewrite's steps: the files r go to f, the header names a, g -/
def rwD1 (d : Dsk.St) (f : Nat) (r : Row) : Dsk.St := (Dsk.write d (f : Int) (atext r)).1
def rwD2 (d : Dsk.St) (f : Nat) (r : Row) : Dsk.St := (Dsk.flush (rwD1 d f r)).1
def rwD3 (d : Dsk.St) (f : Nat) (r : Row) (a g : Nat) : Dsk.St := (Dsk.write (rwD2 d f r) 0 (mark a g)).1
def rwD4 (d : Dsk.St) (f : Nat) (r : Row) (a g : Nat) : Dsk.St := (Dsk.flush (rwD3 d f r a g)).1
def rwD (d : Dsk.St) (s : Wal.St) (f : Nat) (r : Row) (a g : Nat) : Nat → Dsk.St
  | 0 => d
  | 1 => rwD1 d f r
  | 2 => rwD2 d f r
  | 3 => rwD3 d f r a g
  | 4 => rwD4 d f r a g
  | _ => (Wal.reset (rwD4 d f r a g) s).1
def rwE (d : Dsk.St) (s : Wal.St) (f : Nat) (r : Row) (a g : Nat) : Nat → Int
  | 0 => (Dsk.write d (f : Int) (atext r)).2
  | 1 => (Dsk.flush (rwD d s f r a g 1)).2
  | 2 => (Dsk.write (rwD d s f r a g 2) 0 (mark a g)).2
  | 3 => (Dsk.flush (rwD d s f r a g 3)).2
  | 4 => (Wal.reset (rwD d s f r a g 4) s).2.2
  | _ => 0
def rwS (d : Dsk.St) (s : Wal.St) (f : Nat) (r : Row) (a g : Nat) : Nat → Wal.St
  | 0 => s
  | 1 => s
  | 2 => s
  | 3 => s
  | 4 => s
  | _ => (Wal.reset (rwD d s f r a g 4) s).2.1
theorem rw_ops (d : Dsk.St) (s : Wal.St) (f : Nat) (r : Row) (a g : Nat) (hr : sum r ≤ 1099511627) (hd : d.ops ≤ 1000000000) : ∀ k, k ≤ 4 → (rwD d s f r a g k).ops ≤ 1099511627 := by
  have h1 := Dsk.write_ops d (f : Int) (atext r)
  rw [atext_length] at h1
  have hw := Wal.whole_hi (4 + used r)
  have hu : used r = 4 + sum r := rfl
  have h2 := Dsk.flush_ops (rwD d s f r a g 1)
  have h3 := Dsk.write_ops (rwD d s f r a g 2) 0 (mark a g)
  rw [mark_length] at h3
  have h4 := Dsk.flush_ops (rwD d s f r a g 3)
  have g1 : (rwD d s f r a g 1).ops ≤ d.ops + Wal.whole (4 + used r) * 64 / 64 := h1
  have g2 : (rwD d s f r a g 2).ops = (rwD d s f r a g 1).ops := h2
  have g3 : (rwD d s f r a g 3).ops ≤ (rwD d s f r a g 2).ops + 64 / 64 := h3
  have g4 : (rwD d s f r a g 4).ops = (rwD d s f r a g 3).ops := h4
  intro k hk
  match k, hk with
  | 0, _ => show d.ops ≤ _; omega
  | 1, _ => omega
  | 2, _ => omega
  | 3, _ => omega
  | 4, _ => omega
  | k + 5, h => omega
end Fil

def rwG : Nat → Nat
  | 0 => 98
  | 1 => 100
  | 2 => 101
  | 3 => 103
  | 4 => 104
  | _ => 105
def rwL (B Bm Bx : Nat) : Nat → Array Value
  | 0 => #[.pointer (some ⟨B, 0, none⟩), .pointer (some ⟨Bm, 0, none⟩), .pointer (some ⟨Bx, 0, none⟩)]
  | 1 => #[.pointer (some ⟨B, 0, none⟩)]
  | 2 => #[.pointer (some ⟨Bm, 0, none⟩), .pointer (some ⟨B, 0, none⟩)]
  | 3 => #[.pointer (some ⟨B, 0, none⟩)]
  | 4 => #[.pointer (some ⟨B, 0, none⟩)]
  | _ => #[.pointer (some ⟨Bm, 0, none⟩), .pointer (some ⟨B, 0, none⟩)]
def rwObj (B Bm Bx : Nat) : Obj := .cells #[fnv (rwG 0, rwL B Bm Bx 0), fnv (rwG 1, rwL B Bm Bx 1), fnv (rwG 2, rwL B Bm Bx 2), fnv (rwG 3, rwL B Bm Bx 3), fnv (rwG 4, rwL B Bm Bx 4), fnv (rwG 5, rwL B Bm Bx 5)] 33 (0, 0)
theorem rw_eg (i : Nat) (args : Array Value) (w : World) : (callFunc (rwG i) args).run Tryz.prog w = .ok (.enter (rwG i) args) w := by
  match i with
  | 0 => exact enters_of Tryz.func98 (by kernel_rfl) rfl args w
  | 1 => exact enters_of Tryz.func100 (by kernel_rfl) rfl args w
  | 2 => exact enters_of Tryz.func101 (by kernel_rfl) rfl args w
  | 3 => exact enters_of Tryz.func103 (by kernel_rfl) rfl args w
  | 4 => exact enters_of Tryz.func104 (by kernel_rfl) rfl args w
  | k + 5 => exact enters_of Tryz.func105 (by kernel_rfl) rfl args w
/-- the cells of the Files behind k steps -/
def rwC (cs : Array Value) (nm : Bool) (a g : Nat) : Nat → Array Value
  | 0 => cs
  | 1 => cs
  | 2 => cs
  | 3 => cs
  | 4 => cs
  | 5 => cs
  | _ => setM cs nm a g

section
variable {w : World} {S0 R0 : Nat → Prop} {kept : List (Nat × Obj)} {S R : Nat → Prop} {p q pw B Bm Bx bn fb : Nat} {d : Dsk.St} {s : Wal.St} {W : World} {cs : Array Value}
theorem rw_follow {m : Nat} (h : Apn w S0 R0 ((p, objF cs) :: kept) S R pw q d s W) (hB : (B, boxF p) ∈ kept) {a g : Nat} (hm : (Bm, objM true a g) ∈ kept) (hx : (Bx, boxC bn) ∈ kept) (hfb : (fb, rwObj B Bm Bx) ∈ kept) (hk : ∀ y ∈ kept, y.1 ≠ p) (h0 : p < w.heap.size → S0 p ∨ R0 p)
    (ha : a < 2) (hg : g < 18446744073709551616) {nn : Nat} {r : Fil.Row} (hmp : ContAt bn nn r W) (hs : Fil.Sorted r) (hfi : Fil.Fine r) (hsum : Fil.sum r ≤ 1099511627) (f n : Nat) (hf : f ≤ 1099511627)
    (har : ∀ j v, [Value.pointer (some ⟨q, 0, none⟩), .int .i64 (f : Int), .int .i64 (n : Int)][j]? = some v → cs[4 + 3 * a + j]? = some v) (h3 : cs[3]? = some (.pointer (some ⟨q, 0, none⟩))) (h10 : cs[10]? = some (.pointer (some ⟨pw, 0, none⟩)))
    {x0 x1 x2 : Value} (e0 : cs[0]? = some x0) (e1 : cs[1]? = some x1) (e2 : cs[2]? = some x2) (hok : s.Ok m) (hops : d.ops ≤ 1000000000) :
    Calls Tryz.prog 33 #[.slice (some ⟨fb, 0, none⟩) 6 6] W (Went 6 (Fil.rwE d s f r a g) (fun k W' => ∃ S' R', Apn w S0 R0 ((p, objF (rwC cs true a g k)) :: kept) S' R' pw q (Fil.rwD d s f r a g k) (Fil.rwS d s f r a g k) W')) := by
  have ho := Fil.rw_ops d s f r a g hsum hops
  have hmem : ∀ {x : Nat × Obj} {o : Obj}, x ∈ kept → x ∈ (p, o) :: kept := fun h => List.mem_cons_of_mem _ h
  refine follow_any fb 6 rwG (rwL B Bm Bx) (fun i _ => rw_eg i) (Fil.rwE d s f r a g) (fun k W' => (k = 0 → ContAt bn nn r W') ∧ ∃ S' R', Apn w S0 R0 ((p, objF (rwC cs true a g k)) :: kept) S' R' pw q (Fil.rwD d s f r a g k) (Fil.rwS d s f r a g k) W') (by omega) W ?_ ?_ ⟨fun _ => hmp, S, R, h⟩ |>.mono ?_
  · rintro j W' ⟨_, S', R', hI⟩ i hi
    rw [cell_of_row _ _ i _ _ _ (hI.row (hmem hfb))]
    match i, hi with
    | 0, _ => rfl
    | 1, _ => rfl
    | 2, _ => rfl
    | 3, _ => rfl
    | 4, _ => rfl
    | 5, _ => rfl
    | (m + 6), h => exact absurd h (by omega)
  · rintro j W' hj hz ⟨hm0, S', R', hI⟩
    match j, hj, hz, hI, hm0 with
    | 0, _, _, hI, hm0 =>
      rcases (show a = 0 ∨ a = 1 by omega) with rfl | rfl
      · exact (rw1_0 hI (hmem hB) (by simp [rwC]) (hmem hm) (hmem hx) (hm0 rfl) hs hfi hsum f n hf har (ho 0 (by omega))).mono fun e W2 ⟨h1, S2, h2⟩ => ⟨h1, (fun e => by cases e), S2, R', h2⟩
      · exact (rw1_1 hI (hmem hB) (by simp [rwC]) (hmem hm) (hmem hx) (hm0 rfl) hs hfi hsum f n hf har (ho 0 (by omega))).mono fun e W2 ⟨h1, S2, h2⟩ => ⟨h1, (fun e => by cases e), S2, R', h2⟩
    | 1, _, _, hI, _ => exact (rw2_any (cs := cs) hI (hmem hB) (by simp [rwC]) h3 (by have := ho 1 (by omega); omega)).mono fun e W2 ⟨h1, S2, h2⟩ => ⟨h1, (fun e => by cases e), S2, R', h2⟩
    | 2, _, _, hI, _ => exact (rw3_any (cs := cs) hI (hmem hB) (by simp [rwC]) (hmem hm) h3 (by omega) hg (ho 2 (by omega))).mono fun e W2 ⟨h1, S2, h2⟩ => ⟨h1, (fun e => by cases e), S2, R', h2⟩
    | 3, _, _, hI, _ => exact (rw4_any (cs := cs) hI (hmem hB) (by simp [rwC]) h3 (by have := ho 3 (by omega); omega)).mono fun e W2 ⟨h1, S2, h2⟩ => ⟨h1, (fun e => by cases e), S2, R', h2⟩
    | 4, _, _, hI, _ => exact (rw5_any (cs := cs) hI (hmem hB) (by simp [rwC]) h10 hok (by have := ho 4 (by omega); omega)).mono fun e W2 ⟨h1, S2, R2, h2⟩ => ⟨h1, (fun e => by cases e), S2, R2, h2⟩
    | 5, _, _, hI, _ => exact (rw6_any (cs := cs) hI hB hm hk h0 e0 e1 e2).mono fun e W2 ⟨h1, h2⟩ => ⟨h1, (fun e => by cases e), S', R', h2⟩
    | (m + 6), h, _, _, _ => exact absurd h (by omega)
  · rintro e W' ⟨k, hk1, hz, hcase⟩
    refine ⟨k, hk1, hz, ?_⟩
    rcases hcase with ⟨h1, h2, _, h3⟩ | ⟨h1, h2, h3, _, h4⟩
    · exact .inl ⟨h1, h2, h3⟩
    · exact .inr ⟨h1, h2, h3, h4⟩
end
end Go.Proofs.YticcipgdjpoimaaGreat
