/-
  What Append does where there is room.
-/
import Derived.Test.YtjmpagbjkehebaaWalAppend
import Derived.Test.YtjmpagbjkehebaaGoAll
import Derived.Deep.DeepCutAuto
set_option linter.unusedVariables false
set_option maxRecDepth 100000
namespace Go.Proofs.Ytjmpagbjkehebaa
open Go.RowKit

namespace Wal
section
variable (d : Dsk.St) (s : St) (r : Txt)
def apW1 : Dsk.St × Int := Dsk.write d ((s.from_ + 1 + s.used : Nat) : Int) (grp r)
def apF1 : Dsk.St × Int := Dsk.flush (apW1 d s r).1
def apW2 : Dsk.St × Int := Dsk.write (apF1 d s r).1 (s.from_ : Int) (mark s.gen (s.used + secs r))
def apF2 : Dsk.St × Int := Dsk.flush (apW2 d s r).1
def apE : Nat → Int
  | 0 => (apW1 d s r).2
  | 1 => (apF1 d s r).2
  | 2 => (apW2 d s r).2
  | 3 => (apF2 d s r).2
  | _ => 0
def apD : Nat → Dsk.St
  | 0 => d
  | 1 => (apW1 d s r).1
  | 2 => (apF1 d s r).1
  | 3 => (apW2 d s r).1
  | _ => (apF2 d s r).1
def apS (l : Grp) : Nat → St
  | 5 => { s with used := s.used + secs r, L := s.L ++ [l] }
  | _ => s
theorem steps4 : ((apW1 d s r).2 ≠ 0 → steps (appendOps s r) d = apW1 d s r) ∧ ((apW1 d s r).2 = 0 → (apF1 d s r).2 ≠ 0 → steps (appendOps s r) d = apF1 d s r) ∧
    ((apW1 d s r).2 = 0 → (apF1 d s r).2 = 0 → (apW2 d s r).2 ≠ 0 → steps (appendOps s r) d = apW2 d s r) ∧
    ((apW1 d s r).2 = 0 → (apF1 d s r).2 = 0 → (apW2 d s r).2 = 0 → (apF2 d s r).2 ≠ 0 → steps (appendOps s r) d = apF2 d s r) ∧
    ((apW1 d s r).2 = 0 → (apF1 d s r).2 = 0 → (apW2 d s r).2 = 0 → (apF2 d s r).2 = 0 → steps (appendOps s r) d = ((apF2 d s r).1, 0)) := by
  have e : steps (appendOps s r) d = if (apW1 d s r).2 = 0 then (if (apF1 d s r).2 = 0 then (if (apW2 d s r).2 = 0 then (if (apF2 d s r).2 = 0 then ((apF2 d s r).1, 0) else apF2 d s r) else apW2 d s r) else apF1 d s r) else apW1 d s r := rfl
  rw [e]
  refine ⟨fun h => if_neg h, fun h h2 => ?_, fun h h2 h3 => ?_, fun h h2 h3 h4 => ?_, fun h h2 h3 h4 => ?_⟩
  · rw [if_pos h, if_neg h2]
  · rw [if_pos h, if_pos h2, if_neg h3]
  · rw [if_pos h, if_pos h2, if_pos h3, if_neg h4]
  · rw [if_pos h, if_pos h2, if_pos h3, if_pos h4]
end
end Wal

section
variable {w : World} {S0 R0 : Nat → Prop} {p q : Nat} {d : Dsk.St} {s : Wal.St}
def apG : Nat → Nat
  | 0 => 30
  | 1 => 33
  | 2 => 35
  | 3 => 37
  | _ => 38
def apL (B C rb ta na : Nat) : Nat → Array Value
  | 0 => #[.pointer (some ⟨B, 0, none⟩), .pointer (some ⟨ta, 0, none⟩), .pointer (some ⟨rb, 0, none⟩)]
  | 1 => #[.pointer (some ⟨B, 0, none⟩)]
  | 2 => #[.pointer (some ⟨B, 0, none⟩), .pointer (some ⟨na, 0, none⟩)]
  | 3 => #[.pointer (some ⟨B, 0, none⟩)]
  | _ => #[.pointer (some ⟨na, 0, none⟩), .pointer (some ⟨B, 0, none⟩), .pointer (some ⟨C, 0, none⟩)]
def apObj (B C rb ta na : Nat) : Obj := .cells #[fnv (apG 0, apL B C rb ta na 0), fnv (apG 1, apL B C rb ta na 1), fnv (apG 2, apL B C rb ta na 2), fnv (apG 3, apL B C rb ta na 3), fnv (apG 4, apL B C rb ta na 4)] 37 (0, 0)
theorem ap_eg (i : Nat) (args : Array Value) (w : World) : (callFunc (apG i) args).run Try.prog w = .ok (.enter (apG i) args) w := by
  match i with
  | 0 => exact enters_of Try.func30 (by kernel_rfl) rfl args w
  | 1 => exact enters_of Try.func33 (by kernel_rfl) rfl args w
  | 2 => exact enters_of Try.func35 (by kernel_rfl) rfl args w
  | 3 => exact enters_of Try.func37 (by kernel_rfl) rfl args w
  | (j + 4) => exact enters_of Try.func38 (by kernel_rfl) rfl args w

theorem ap_follow {kept : List (Nat × Obj)} {S R : Nat → Prop} {W : World} {B C rb ta na fb m : Nat} {a : Option Addr} {len cap : Nat} {l : Wal.Grp} {row : ByteArray} (h : Apn w S0 R0 kept S R p q d s W) (hs : s.Ok m) (hops : d.ops ≤ 1099511400000)
    (hrow : row.data.toList = (Oct.row l).1) (hfit : Wal.secs (Oct.row l).1 ≤ s.n - 1 - s.used) (hsl : Slim l) (hst : Strs a len (bas l) w) (hap : ∀ b off, 0 < len → a = some ⟨b, off, none⟩ → ¬ (S0 b ∨ R0 b))
    (hB : (B, boxW p) ∈ kept) (hC : (C, boxL a len cap) ∈ kept) (hrb : (rb, boxS row) ∈ kept) (hta : (ta, boxI ((s.from_ + 1 + s.used : Nat) : Int)) ∈ kept) (hna : (na, boxM s.gen (s.used + Wal.secs (Oct.row l).1)) ∈ kept) (hfb : (fb, apObj B C rb ta na) ∈ kept) :
    Calls Try.prog 20 #[.slice (some ⟨fb, 0, none⟩) 5 5] W (Went 5 (Wal.apE d s (Oct.row l).1) (fun j W' => ∃ S' R', Apn w S0 R0 kept S' R' p q (Wal.apD d s (Oct.row l).1 j) (Wal.apS s (Oct.row l).1 l j) W')) := by
  have hi := hs.hi
  have hm := hs.m
  have hn := hs.lo
  have hu := hs.used
  have hg := hs.gen
  have hll := hs.len
  have hgl := Wal.grp_length (Oct.row l).1
  have hwl := Wal.whole_lo (4 + (Oct.row l).1.length)
  have hsec : Wal.secs (Oct.row l).1 = Wal.whole (4 + (Oct.row l).1.length) := rfl
  have hrs : row.size ≤ 1048576 := by rw [← ba_len, hrow]; omega
  have o1 : (Wal.apW1 d s (Oct.row l).1).1.ops ≤ 1099511500000 := by
    have := Dsk.write_ops d ((s.from_ + 1 + s.used : Nat) : Int) (Wal.grp (Oct.row l).1)
    rw [hgl] at this
    show (Dsk.write d ((s.from_ + 1 + s.used : Nat) : Int) (Wal.grp (Oct.row l).1)).1.ops ≤ _
    omega
  have o2 : (Wal.apF1 d s (Oct.row l).1).1.ops ≤ 1099511500000 := by
    have := Dsk.flush_ops (Wal.apW1 d s (Oct.row l).1).1
    show (Dsk.flush (Wal.apW1 d s (Oct.row l).1).1).1.ops ≤ _
    omega
  have o3 : (Wal.apW2 d s (Oct.row l).1).1.ops ≤ 1099511600000 := by
    have := Dsk.write_ops (Wal.apF1 d s (Oct.row l).1).1 (s.from_ : Int) (Wal.mark s.gen (s.used + Wal.secs (Oct.row l).1))
    rw [Wal.mark_length] at this
    show (Dsk.write (Wal.apF1 d s (Oct.row l).1).1 (s.from_ : Int) (Wal.mark s.gen (s.used + Wal.secs (Oct.row l).1))).1.ops ≤ _
    omega
  refine follow_any fb 5 apG (apL B C rb ta na) (fun i _ => ap_eg i) (Wal.apE d s (Oct.row l).1) _ (by omega) W ?_ ?_ ⟨S, R, h⟩
  · rintro j W' ⟨S', R', hI⟩ i hi
    rw [cell_of_row _ _ i _ _ _ (hI.row hfb)]
    match i, hi with
    | 0, _ => rfl
    | 1, _ => rfl
    | 2, _ => rfl
    | 3, _ => rfl
    | 4, _ => rfl
    | (m + 5), h => exact absurd h (by omega)
  · rintro j W' hj hz ⟨S', R', hI⟩
    match j, hj, hz, hI with
    | 0, _, _, hI =>
      have := ap1_any hI hB hta hrb (by omega) hrs (by show d.ops ≤ _; omega)
      rw [hrow] at this
      exact this.mono fun e W2 ⟨h1, S2, h2⟩ => ⟨h1, S2, R', h2⟩
    | 1, _, _, hI => exact (ap2_any hI hB (by show (Wal.apW1 d s (Oct.row l).1).1.ops ≤ _; omega)).mono fun e W2 ⟨h1, S2, h2⟩ => ⟨h1, S2, R', h2⟩
    | 2, _, _, hI => exact (ap3_any hI hB hna (by show s.from_ ≤ _; omega) hg (by omega) (by show (Wal.apF1 d s (Oct.row l).1).1.ops ≤ _; omega)).mono fun e W2 ⟨h1, S2, h2⟩ => ⟨h1, S2, R', h2⟩
    | 3, _, _, hI => exact (ap4_any hI hB (by show (Wal.apW2 d s (Oct.row l).1).1.ops ≤ _; omega)).mono fun e W2 ⟨h1, S2, h2⟩ => ⟨h1, S2, R', h2⟩
    | 4, _, _, hI => exact (ap5_any hI hB hna hC (hst.turns hI.turns hap) hsl (by show s.L.length ≤ _; omega)).mono fun e W2 ⟨h1, R2, h2⟩ => ⟨h1, S', R2, h2⟩
    | (m + 5), h, _, _ => exact absurd h (by omega)

theorem Apn.turnNew {kept : List (Nat × Obj)} {S R : Nat → Prop} {W W' : World} (h : Apn w S0 R0 kept S R p q d s W) {b : Nat} {o : Obj} (ht : Turns (fun j => j = b) W W') (hb : w.heap.size ≤ b) (hS : ¬ S b) (hR : ¬ R b) (hk : ∀ y ∈ kept, y.1 ≠ b) (ho : W'.heap[b]? = some o) :
    Apn w S0 R0 ((b, o) :: kept) S R p q d s W' :=
  ⟨h.disk.keeps ht (fun j hj e => hS (by rw [← e]; exact hj)), h.wal.keeps ht (fun j hj e => hR (by rw [← e]; exact hj)), h.apart, fun y hy => by
    rcases List.mem_cons.1 hy with rfl | hy
    · exact ⟨ho, hS, hR⟩
    · exact ⟨ht.same (h.rows y hy).1 (hk y hy), (h.rows y hy).2⟩, h.loS, h.loR, h.turns.trans ht (fun j hj e => by omega)⟩
theorem store_int {w : World} {b o : Nat} {x' : Value} {x : Int} (h0 : w.cell? ⟨b, o, none⟩ = some x') (f0 : w.frozen? ⟨b, o, none⟩ = false) :
    (Instr.storeAt 3 (.pointer (some ⟨b, o, none⟩)) (.int .i64 x)).run Try.prog w = .ok () (w.setCell ⟨b, o, none⟩ (.int .i64 x)) := by
  have hz := Try.sizeOf3
  simp [Instr.storeAt, go_sem, hz, h0, f0]
/-- both variables have been made and set, in either order -/
theorem two_vars {kept : List (Nat × Obj)} {S R : Nat → Prop} {W : World} (h : Apn w S0 R0 kept S R p q d s W) (hk : ∀ y ∈ kept, y.1 < W.heap.size) (at_ : Int) (g u ta na : Nat) (W3 : World) (hb : Below W.heap.size W W3) (hne : ta ≠ na) (h1 : W.heap.size ≤ ta) (h2 : W.heap.size ≤ na)
    {x0 y0 z0 : Value} (ht : W3.heap[ta]? = some (.cells #[x0] 3 (0, 0))) (hn : W3.heap[na]? = some (.cells #[y0, z0] 55 (0, 0))) :
    Apn w S0 R0 ((na, boxM g u) :: (ta, boxI at_) :: kept) S R p q d s (((W3.setCell ⟨ta, 0, none⟩ (.int .i64 at_)).setCell ⟨na, 0, none⟩ (.int .u64 (g : Int))).setCell ⟨na, 1, none⟩ (.int .i64 (u : Int))) := by
  have hsz := h.turns.size
  have hlS := h.disk.lt
  have hlR := h.wal.lt
  have h3 := (h.new hb).turnNew (b := ta) (o := boxI at_) ((Turns.refl (fun j => j = ta) W3).set ta 0 (.int .i64 at_) (fun _ => rfl)) (by omega) (fun e => by have := hlS _ e; omega) (fun e => by have := hlR _ e; omega) (fun y hy e => by have := hk y hy; omega) (by rw [heap_setCell_same W3 ta 0 _ _ _ ht]; rfl)
  refine h3.turnNew (b := na) (o := boxM g u) (((Turns.refl (fun j => j = na) _).set na 0 _ (fun _ => rfl)).set na 1 _ (fun _ => rfl)) (by omega) (fun e => by have := hlS _ e; omega) (fun e => by have := hlR _ e; omega) (fun y hy e => ?_) (two_set (other_row hn (fun e => hne e.symm)) _ _)
  rcases List.mem_cons.1 hy with rfl | hy
  · exact hne e
  · have := hk y hy; omega
end
end Go.Proofs.Ytjmpagbjkehebaa
