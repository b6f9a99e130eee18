/-
  What chunk's newFinder makes, and the iterator over marks that it hands out.
-/
import Derived.Test.YtofiimkpbbiegaaChuSmall
import Derived.Test.YtofiimkpbbiegaaChuMark
import Derived.Test.YtofiimkpbbiegaaRabG
import Derived.Laws.ResultCell
set_option linter.unusedVariables false
set_option maxRecDepth 100000
namespace Go.Proofs.Ytofiimkpbbiegaa
open Go.RowKit

/-- a finder of the roller b, of k low bits -/
def finV (b : Nat) (k : Nat) : Value := .agg #[.pointer (some ⟨b, 0, none⟩), .int .u64 ((2 ^ k - 1 : Nat) : Int)]
def noFin : Value := .agg #[.pointer none, .int .u64 0]

theorem fin_results (tmps : Array Value) (g : Nat) (x y e : Value) (W : World) (h2 : tmps.getD 2 undef = .pointer (some ⟨g, 0, none⟩)) (h3 : tmps.getD 3 undef = e) (hg : W.heap[g]? = some (.cells #[x, y] 54 (0, 0))) :
    (results Try.f23 tmps).run Try.prog W = .ok (.tuple #[.agg #[x, y], e]) W := by
  rw [results_cell_tmp (p := 2) (u := 3) rfl, h2, h3]
  simp [asAddr, run_loadVar_row W g _ 54 #[x, y] _ _ hg Try.underlying54 rfl (by kernel_rfl)]
theorem low_bits (k : Nat) (hk : k ≤ 16) : IntKind.u64.wrap (IntKind.u64.wrap (2 ^ k) - 1) = ((2 ^ k - 1 : Nat) : Int) := by
  have h1 : 2 ^ k ≤ 2 ^ 16 := Nat.pow_le_pow_right (by omega) hk
  have h2 := Nat.two_pow_pos k
  have e : (2 : Int) ^ k = ((2 ^ k : Nat) : Int) := by simp
  rw [e]
  generalize 2 ^ k = q at *
  rw [wrap_u64_in (q : Int) (by omega) (by omega), wrap_u64_in _ (by omega) (by omega)]
  omega

set_option maxHeartbeats 1000000 in
theorem finder_any (c : Ctr) (hp : c.p < 18446744073709551616) (w : World) :
    Calls Try.prog 23 #[c.v] w fun e w' => Below w.heap.size w w' ∧ if c.May then ∃ b, w.heap.size ≤ b ∧ e = .returned (.tuple #[finV b c.b.toNat, .int .i64 0]) ∧ RolG b c.p c.n.toNat [] w' else e = .returned (.tuple #[noFin, .int .i64 2]) := by
  have cc := fun u => ccheck_any c hp u
  by_cases hm : c.May
  · simp only [if_pos hm] at cc ⊢
    have cn := fun u => newG_any c.p c.n hp u hm.1
    have hrow := CtrAt.box c w
    have hb0 := hm.2.2.2.1
    have hb1 := hm.2.2.2.2
    obtain ⟨k, hk⟩ : ∃ k : Nat, c.b = (k : Int) := ⟨c.b.toNat, by omega⟩
    rw [hk, Int.toNat_natCast]
    obtain ⟨G, hG⟩ : ∃ G, G = c.n.toNat := ⟨_, rfl⟩
    rw [← hG] at cn ⊢
    have hk16 : k ≤ 16 := by omega
    unfold Ctr.v CtrAt at *
    rw [hk] at cc hrow ⊢
    clear hb0 hb1 hm hk hG
    have Hrow := Lib.hid hrow; clear hrow
    have Cc := Lib.hid cc; clear cc
    have Cn := Lib.hid cn; clear cn
    go_enter Try.func23, Try.ntmps23
    go_wp2_with fail
    refine (Cc.out _).mono ?_; rintro e w1 ⟨rfl, h1⟩
    have hr1 : w1.heap[w.heap.size]? = some (.cells #[.int .u64 c.p, .int .i64 c.n, .int .i64 c.mn, .int .i64 c.mx, .int .i64 (k : Int)] 24 (0, 0)) := by rw [h1.block _ (by simp; omega)]; exact row_alloc Hrow.out _
    have hr2 : w1.heap[w.heap.size + 1]? = some (.cells #[.pointer none, .int .u64 0] 54 (0, 0)) := by
      rw [h1.block _ (by simp)]
      have := heap_alloc_new (w.alloc (.cells #[.int .u64 c.p, .int .i64 c.n, .int .i64 c.mn, .int .i64 c.mx, .int .i64 (k : Int)] 24)) (.cells #[.pointer none, .int .u64 0] 54)
      rw [World.size_alloc] at this
      exact this
    have d0 : w1.cell? ⟨w.heap.size, 0, none⟩ = some (.int .u64 (c.p : Int)) := cell_of_row _ _ 0 _ _ _ hr1
    have d1 : w1.cell? ⟨w.heap.size, 1, none⟩ = some (.int .i64 c.n) := cell_of_row _ _ 1 _ _ _ hr1
    have Hr1 := Lib.hid hr1; clear hr1
    have Hr2 := Lib.hid hr2; clear hr2
    have H1 := Lib.hid h1; clear h1
    go_wp2_with fail
    refine (Cn.out _).mono ?_; rintro e w2 ⟨b, hb, rfl, hg, h2⟩
    have hr1 : w2.heap[w.heap.size]? = some (.cells #[.int .u64 c.p, .int .i64 c.n, .int .i64 c.mn, .int .i64 c.mx, .int .i64 (k : Int)] 24 (0, 0)) := by rw [h2.block _ (row_lt Hr1.out)]; exact Hr1.out
    have hr2 : w2.heap[w.heap.size + 1]? = some (.cells #[.pointer none, .int .u64 0] 54 (0, 0)) := by rw [h2.block _ (row_lt Hr2.out)]; exact Hr2.out
    have d4 : w2.cell? ⟨w.heap.size, 4, none⟩ = some (.int .i64 (k : Int)) := cell_of_row _ _ 4 _ _ _ hr1
    have e0 : w2.cell? ⟨w.heap.size + 1, 0, none⟩ = some (.pointer none) := cell_of_row _ _ 0 _ _ _ hr2
    have e1 : w2.cell? ⟨w.heap.size + 1, 1, none⟩ = some (.int .u64 0) := cell_of_row _ _ 1 _ _ _ hr2
    have f0 := row_free hr2 0
    have f1 := row_free hr2 1
    have Hr2b := Lib.hid hr2; clear hr2 hr1
    have Hg := Lib.hid hg; clear hg
    have Hb := Lib.hid hb; clear hb
    have H2 := Lib.hid h2; clear h2
    go_wp2_with fail
    rw [low_bits k hk16]
    have hfin := heap_setCell_same _ (w.heap.size + 1) 1 _ _ (.int .u64 ((2 ^ k - 1 : Nat) : Int)) (heap_setCell_same _ (w.heap.size + 1) 0 _ _ (.pointer (some ⟨b, 0, none⟩)) Hr2b.out)
    refine bodyPost_ret (fin_results _ (w.heap.size + 1) _ _ _ _ rfl rfl hfin) rfl ?_
    have hs1 := H1.out.size
    simp only [World.size_alloc] at hs1
    have hbb := Hb.out
    have hbe : Below w.heap.size w w2 := ((((Below.refl _ w).alloc (Nat.le_refl _) _).alloc (by simp) _).trans (H1.out.mono (by simp; omega))).trans (H2.out.mono (by omega))
    have ht : Turns (fun j => j = w.heap.size + 1) w2 ((w2.setCell ⟨w.heap.size + 1, 0, none⟩ (.pointer (some ⟨b, 0, none⟩))).setCell ⟨w.heap.size + 1, 1, none⟩ (.int .u64 ((2 ^ k - 1 : Nat) : Int))) :=
      ((Turns.refl (fun j => j = w.heap.size + 1) w2).set _ 0 _ (fun _ => rfl)).set _ 1 _ (fun _ => rfl)
    refine ⟨(hbe.setCell (show w.heap.size ≤ w.heap.size + 1 by omega) _).setCell (show w.heap.size ≤ w.heap.size + 1 by omega) _, b, by omega, rfl, Hg.out.keeps ht (by omega)⟩
  · simp only [if_neg hm] at cc ⊢
    unfold Ctr.v at *
    have Cc := Lib.hid cc; clear cc
    clear hm
    go_enter Try.func23, Try.ntmps23
    go_wp2_with fail
    refine (Cc.out _).mono ?_; rintro e w1 ⟨rfl, h1⟩
    have hr2 : w1.heap[w.heap.size + 1]? = some (.cells #[.pointer none, .int .u64 0] 54 (0, 0)) := by
      rw [h1.block _ (by simp)]
      have := heap_alloc_new (w.alloc (.cells #[.int .u64 c.p, .int .i64 c.n, .int .i64 c.mn, .int .i64 c.mx, .int .i64 c.b] 24)) (.cells #[.pointer none, .int .u64 0] 54)
      rw [World.size_alloc] at this
      exact this
    have e0 : w1.cell? ⟨w.heap.size + 1, 0, none⟩ = some (.pointer none) := cell_of_row _ _ 0 _ _ _ hr2
    have e1 : w1.cell? ⟨w.heap.size + 1, 1, none⟩ = some (.int .u64 0) := cell_of_row _ _ 1 _ _ _ hr2
    have f0 := row_free hr2 0
    have f1 := row_free hr2 1
    have Hr2 := Lib.hid hr2; clear hr2
    have H1 := Lib.hid h1; clear h1
    go_wp2_with fail
    have hfin := heap_setCell_same _ (w.heap.size + 1) 1 _ _ (.int .u64 0) (heap_setCell_same _ (w.heap.size + 1) 0 _ _ (.pointer none) Hr2.out)
    refine bodyPost_ret (fin_results _ (w.heap.size + 1) _ _ _ _ rfl rfl hfin) rfl ?_
    have hbe : Below w.heap.size w w1 := (((Below.refl _ w).alloc (Nat.le_refl _) _).alloc (by simp) _).trans (H1.out.mono (by simp; omega))
    exact ⟨(hbe.setCell (show w.heap.size ≤ w.heap.size + 1 by omega) _).setCell (show w.heap.size ≤ w.heap.size + 1 by omega) _, rfl⟩

/-- the four boxes of an iterator over marks: the finder, the text, from, to -/
structure MkBox (b k : Nat) (s : ByteArray) (f t : Int) (B : Nat) (w : World) : Prop where
  fi : w.heap[B]? = some (.cells #[.pointer (some ⟨b, 0, none⟩), .int .u64 ((2 ^ k - 1 : Nat) : Int)] 54 (0, 0))
  st : w.heap[B + 1]? = some (.cells #[.string s] 9 (0, 0))
  lo : w.heap[B + 2]? = some (.cells #[.int .i64 f] 3 (0, 0))
  hi : w.heap[B + 3]? = some (.cells #[.int .i64 t] 3 (0, 0))
theorem MkBox.new {b k B : Nat} {s : ByteArray} {f t : Int} {w w' : World} (h : MkBox b k s f t B w) (hb : Below w.heap.size w w') : MkBox b k s f t B w' :=
  ⟨by rw [hb.block _ (row_lt h.fi)]; exact h.fi, by rw [hb.block _ (row_lt h.st)]; exact h.st, by rw [hb.block _ (row_lt h.lo)]; exact h.lo, by rw [hb.block _ (row_lt h.hi)]; exact h.hi⟩
theorem MkBox.keeps {b k B : Nat} {s : ByteArray} {f t : Int} {w w' : World} {T : Nat → Prop} (h : MkBox b k s f t B w) (ht : Turns T w w') (hT : ∀ j, B ≤ j → j ≤ B + 3 → ¬ T j) : MkBox b k s f t B w' :=
  ⟨ht.same h.fi (hT _ (by omega) (by omega)), ht.same h.st (hT _ (by omega) (by omega)), ht.same h.lo (hT _ (by omega) (by omega)), ht.same h.hi (hT _ (by omega) (by omega))⟩
theorem MkBox.stays {b k B : Nat} {s : ByteArray} {f t : Int} {D : Nat} : Stays D (MkBox b k s f t B) := fun W l o o' hl ho hc hj =>
  ⟨Stays.row W l o o' hl ho hc hj.fi, Stays.row W l o o' hl ho hc hj.st, Stays.row W l o o' hl ho hc hj.lo, Stays.row W l o o' hl ho hc hj.hi⟩
/-- the iterator's value -/
def mkF (B : Nat) : Value := .func (.func 34) #[] #[.pointer (some ⟨B + 2, 0, none⟩), .pointer (some ⟨B + 3, 0, none⟩), .pointer (some ⟨B, 0, none⟩), .pointer (some ⟨B + 1, 0, none⟩)]
theorem cmarks_any (b k : Nat) (s : ByteArray) (f t : Int) (w : World) :
    Calls Try.prog 25 #[finV b k, .string s, .int .i64 f, .int .i64 t] w fun e w' => e = .returned (mkF w.heap.size) ∧ MkBox b k s f t w.heap.size w' ∧ Below w.heap.size w w' := by
  unfold finV mkF
  obtain ⟨q, hq⟩ : ∃ q, q = 2 ^ k - 1 := ⟨_, rfl⟩
  have hbox : ∀ w4 : World, w4 = (((w.alloc (.cells #[.pointer (some ⟨b, 0, none⟩), .int .u64 ((2 ^ k - 1 : Nat) : Int)] 54)).alloc (.cells #[.string s] 9)).alloc (.cells #[.int .i64 f] 3)).alloc (.cells #[.int .i64 t] 3) → MkBox b k s f t w.heap.size w4 ∧ Below w.heap.size w w4 := by
    rintro w4 rfl
    refine ⟨⟨row_alloc (row_alloc (row_alloc (heap_alloc_new _ _) _) _) _, row_alloc (row_alloc ?_ _) _, row_alloc ?_ _, ?_⟩, ((((Below.refl _ w).alloc (Nat.le_refl _) _).alloc (by simp) _).alloc (by simp; omega) _).alloc (by simp; omega) _⟩
    · have := heap_alloc_new (w.alloc (.cells #[.pointer (some ⟨b, 0, none⟩), .int .u64 ((2 ^ k - 1 : Nat) : Int)] 54)) (.cells #[.string s] 9)
      rwa [World.size_alloc] at this
    · have := heap_alloc_new ((w.alloc (.cells #[.pointer (some ⟨b, 0, none⟩), .int .u64 ((2 ^ k - 1 : Nat) : Int)] 54)).alloc (.cells #[.string s] 9)) (.cells #[.int .i64 f] 3)
      simp only [World.size_alloc] at this; exact this
    · have := heap_alloc_new (((w.alloc (.cells #[.pointer (some ⟨b, 0, none⟩), .int .u64 ((2 ^ k - 1 : Nat) : Int)] 54)).alloc (.cells #[.string s] 9)).alloc (.cells #[.int .i64 f] 3)) (.cells #[.int .i64 t] 3)
      simp only [World.size_alloc] at this; exact this
  rw [← hq] at hbox ⊢
  clear hq
  have Hbox := Lib.hid hbox; clear hbox
  go_enter Try.func25, Try.ntmps25
  go_wp2_with fail
  go_ret
  exact ⟨rfl, Hbox.out _ rfl⟩
end Go.Proofs.Ytofiimkpbbiegaa
