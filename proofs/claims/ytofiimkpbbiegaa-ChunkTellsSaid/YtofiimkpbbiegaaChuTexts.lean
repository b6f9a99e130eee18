/-
  What chunk.Texts returns.
-/
import Derived.Test.YtofiimkpbbiegaaChuCut
import Derived.Test.YtofiimkpbbiegaaGoClone
set_option linter.unusedVariables false
set_option maxRecDepth 100000
namespace Go.Proofs.Ytofiimkpbbiegaa
open Go.RowKit

theorem pc_get : ∀ (l : List Pc) (k : Nat), k < l.length → (l.flatMap Pc.cells)[k * 2]? = some (.int .i64 ((l.getD k (0, 0)).1 : Int)) ∧ (l.flatMap Pc.cells)[k * 2 + 1]? = some (.int .i64 ((l.getD k (0, 0)).2 : Int))
  | [], k, h => by simp at h
  | x :: r, 0, _ => by simp [Pc.cells]
  | x :: r, k + 1, h => by
    have h' : k < r.length := by simpa using h
    have ih := pc_get r k h'
    rw [show (k + 1) * 2 = k * 2 + 2 by omega]
    rw [List.flatMap_cons, List.getD_cons_succ]
    have e1 : ∀ j, (Pc.cells x ++ r.flatMap Pc.cells)[j + 2]? = (r.flatMap Pc.cells)[j]? := fun j => by
      rw [List.getElem?_append_right (by simp [Pc.cells])]
      simp [Pc.cells]
    exact ⟨by rw [e1]; exact ih.1, by rw [show k * 2 + 2 + 1 = (k * 2 + 1) + 2 by omega, e1]; exact ih.2⟩
theorem POwn.at_ {B : Nat} {v : Value} {l : List Pc} {w : World} (h : POwn B v l w) (k : Nat) (hk : k < l.length) : ∃ g cap, v = .slice (some ⟨g, 0, none⟩) l.length cap ∧ B ≤ g ∧ g < w.heap.size ∧ l.length ≤ cap ∧
    ∀ j, j < l.length → w.cell? ⟨g, j * 2, none⟩ = some (.int .i64 ((l.getD j (0, 0)).1 : Int)) ∧ w.cell? ⟨g, j * 2 + 1, none⟩ = some (.int .i64 ((l.getD j (0, 0)).2 : Int)) := by
  have hl := h
  rcases h.2 with ⟨_, h0⟩ | ⟨g, cap, cur, rfl, hb, hg, hn, hm, hc, ht⟩
  · omega
  · refine ⟨g, cap, rfl, hb, row_lt hg, hn, fun j hj => ?_⟩
    have hget : ∀ i u, (l.flatMap Pc.cells)[i]? = some u → w.cell? ⟨g, i, none⟩ = some u := fun i u hu => by
      rw [cell_of_row _ _ i _ _ _ hg]
      rw [← ht] at hu
      rw [List.getElem?_take] at hu
      split at hu
      · simpa using hu
      · cases hu
    exact ⟨hget _ _ (pc_get l j hj).1, hget _ _ (pc_get l j hj).2⟩

/-- the strings of pieces -/
def pcTexts (s : ByteArray) (l : List Pc) : List ByteArray := l.map fun x => s.extract x.1 (x.1 + x.2)
@[simp] theorem pcTexts_length (s : ByteArray) (l : List Pc) : (pcTexts s l).length = l.length := by simp [pcTexts]
/-- a row of strings, the first k of which are there -/
def mixT (ts : List ByteArray) (k : Nat) : List Value := ((ts.take k) ++ List.replicate (ts.length - k) (⟨#[]⟩ : ByteArray)).map Value.string
theorem mixT_length (ts : List ByteArray) (k : Nat) (h : k ≤ ts.length) : (mixT ts k).length = ts.length := by simp [mixT]; omega
theorem mixT_zero (ts : List ByteArray) : mixT ts 0 = List.replicate ts.length (.string ⟨#[]⟩) := by simp [mixT]
theorem mixT_all (ts : List ByteArray) : mixT ts ts.length = ts.map Value.string := by simp [mixT]
theorem mixT_get (ts : List ByteArray) (k : Nat) (h : k < ts.length) : ∃ v, (mixT ts k)[k]? = some v := by
  have := mixT_length ts k (by omega)
  exact ⟨(mixT ts k)[k], List.getElem?_eq_getElem (by omega)⟩
theorem mixT_set (ts : List ByteArray) (k : Nat) (h : k < ts.length) : (mixT ts k).set k (.string (ts.getD k ⟨#[]⟩)) = mixT ts (k + 1) := by
  unfold mixT
  rw [← List.map_set]
  congr 1
  have hl : (ts.take k).length = k := by rw [List.length_take]; omega
  rw [List.set_append_right _ _ (by omega), hl, Nat.sub_self]
  obtain ⟨m, hm⟩ : ∃ m, ts.length - k = m + 1 := ⟨ts.length - k - 1, by omega⟩
  rw [hm, List.replicate_succ, List.set_cons_zero, show ts.length - (k + 1) = m by omega]
  rw [List.take_succ_eq_append_getElem h, List.append_assoc]
  simp [List.getD_eq_getElem?_getD, h]

theorem texts_made (n : Nat) : madeCells (Value.string ⟨#[]⟩).cells n = (List.replicate n (Value.string ⟨#[]⟩)).toArray := by
  apply Array.ext
  · simp [madeCells]
  · intro i h1 h2
    simp [madeCells, Value.cells, Nat.mod_one]
theorem make_texts (m : Nat) (hm : m ≤ 8796093022208) (u : World) : (Instr.makeSlice 34 (.int .i64 (m : Int)) (.int .i64 (m : Int))).run Try.prog u = .ok (.slice (some ⟨u.heap.size, 0, none⟩) m m) (u.alloc (.cells (List.replicate m (Value.string ⟨#[]⟩)).toArray 9)) := by
  obtain ⟨i, hi, h0, h1, h2⟩ := info_parts (show (Try.prog.info? 9).map (fun i => (i.zero, i.size, i.bytes)) = some (some (.string ⟨#[]⟩), 1, 16) by kernel_rfl)
  have := run_make (P := Try.prog) u 34 9 i (.string ⟨#[]⟩) Try.underlying34 hi h0 .i64 .i64 (m : Int) (m : Int) (by omega) (by omega) (by rw [h2]; omega) (by omega)
  rw [this, h1, Int.toNat_natCast, Nat.mul_one]
  rw [texts_made]

def Ctr.texts (c : Ctr) (s : ByteArray) : List ByteArray := pcTexts s (c.cut s.data.toList)
/-- what Texts returns -/
def TxR (L : List ByteArray) (w : World) (e : Ending) (w' : World) : Prop :=
  ∃ g, w.heap.size ≤ g ∧ e = .returned (.tuple #[.slice (some ⟨g, 0, none⟩) L.length L.length, .int .i64 0]) ∧ w'.heap[g]? = some (.cells (L.map Value.string).toArray 9 (0, 0))

set_option maxHeartbeats 1000000 in
theorem chTexts_any (c : Ctr) (hp : c.p < 18446744073709551616) (s : ByteArray) (hsz : s.size ≤ 1099511627776) (w : World) :
    Calls Try.prog 11 #[c.v, .string s] w fun e w' => Below w.heap.size w w' ∧ if c.May then TxR (c.texts s) w e w' else e = .returned (.tuple #[.slice none 0 0, .int .i64 2]) := by
  have cf := fun u => chCut_any c hp s hsz u
  by_cases hm : c.May
  · simp only [if_pos hm] at cf ⊢
    have hlen := Ctr.cut_len hm s.data.toList
    have hok := Ctr.cut_ok hm s.data.toList
    rw [ba_len] at hlen hok
    obtain ⟨L, hL⟩ : ∃ L, L = c.cut s.data.toList := ⟨_, rfl⟩
    unfold Ctr.texts
    rw [← hL] at hlen hok cf ⊢
    obtain ⟨ts, hts⟩ : ∃ ts, ts = pcTexts s L := ⟨_, rfl⟩
    have htl : ts.length = L.length := by rw [hts, pcTexts_length]
    have htg : ∀ k, k < L.length → ts.getD k ⟨#[]⟩ = s.extract (L.getD k (0, 0)).1 ((L.getD k (0, 0)).1 + (L.getD k (0, 0)).2) := fun k hk => by
      rw [hts]; unfold pcTexts
      simp [List.getD_eq_getElem?_getD, hk]
    have hok2 : ∀ k, k < L.length → (L.getD k (0, 0)).1 + (L.getD k (0, 0)).2 ≤ s.size := fun k hk => by
      rw [List.getD_eq_getElem?_getD, List.getElem?_eq_getElem hk]
      exact (hok _ (List.getElem_mem hk)).2
    rw [← hts]
    have Htg := Lib.hid htg; clear htg
    have Hok2 := Lib.hid hok2; clear hok2
    unfold Ctr.v at *
    have Cf := Lib.hid cf; clear cf
    have hbw := box_below w (.cells #[.int .u64 c.p, .int .i64 c.n, .int .i64 c.mn, .int .i64 c.mx, .int .i64 c.b] 24)
    have Hbw := Lib.hid hbw; clear hbw
    clear hm hL hts hok
    obtain ⟨n, hn⟩ : ∃ n, n = L.length := ⟨_, rfl⟩
    rw [← hn] at hlen htl
    have Hn := Lib.hid hn; clear hn
    have Htl := Lib.hid htl; clear htl
    have hmk := make_texts n (by omega)
    go_enter Try.func11, Try.ntmps11
    go_wp2_with fail
    refine (Cf.out _).mono ?_; rintro e w1 ⟨h1, v, rfl, hv⟩
    obtain ⟨va, vcap, hvf⟩ := hv.form
    rw [← Hn.out] at hvf
    subst hvf
    have Hv := Lib.hid hv; clear hv
    have H1 := Lib.hid h1; clear h1
    go_wp2_with fail
    have hs1 := H1.out.size
    simp only [World.size_alloc] at hs1
    have hrow0 : (w1.alloc (.cells (Array.replicate n (Value.string ⟨#[]⟩)) 9)).heap[w1.heap.size]? = some (.cells (mixT ts 0).toArray 9 (0, 0)) := by
      rw [mixT_zero, Htl.out, List.toArray_replicate]; exact heap_alloc_new _ _
    have hbl0 : Below w1.heap.size w1 (w1.alloc (.cells (Array.replicate n (Value.string ⟨#[]⟩)) 9)) := box_below w1 _
    have Hrow0 := Lib.hid hrow0; clear hrow0
    have Hbl0 := Lib.hid hbl0; clear hbl0
    clear hmk
    go_loopw [25] (fun i wr => ∃ k : Nat, k ≤ n ∧ i = .int .i64 (k : Int) ∧ Below w1.heap.size w1 wr ∧ wr.heap[w1.heap.size]? = some (.cells (mixT ts k).toArray 9 (0, 0))) (fun i _ => n - (intOf i).toNat)
    case atStart => exact ⟨0, Nat.zero_le _, rfl, Hbl0.out, Hrow0.out⟩
    case round =>
      clear Hrow0 Hbl0
      obtain ⟨k, hk, rfl, hbw, hrow⟩ := hrel
      by_cases hc : k = n
      · subst hc
        have hge : decide ((k : Int) < (k : Int)) = false := decide_eq_false (by omega)
        have e1 : mixT ts k = ts.map Value.string := by
          have := mixT_all ts
          rw [Htl.out] at this; exact this
        rw [e1] at hrow
        have hbe : Below w.heap.size w wr := (Hbw.out.trans (H1.out.mono Hbw.out.size)).trans (hbw.mono (by omega))
        have Hrow := Lib.hid hrow; clear hrow
        have Hbe := Lib.hid hbe; clear hbe hbw e1
        go_wp2_with fail
        go_ret2
        exact ⟨Hbe.out, w1.heap.size, by omega, by rw [Htl.out]; rfl, Hrow.out⟩
      · have hlt : k < n := by omega
        have hge : decide (k < n) = true := decide_eq_true hlt
        have hge2 : decide ((k : Int) < (n : Int)) = true := decide_eq_true (by omega)
        obtain ⟨g, cap, hv, hgB, hgl, hcap, hcells⟩ := (Hv.out.new (w' := wr) (by exact hbw)).at_ k (by rw [← Hn.out]; exact hlt)
        injection hv with e1 e2 e3
        subst e1
        subst e3
        have hcl := (hcells k (by rw [← Hn.out]; exact hlt)).1
        have hcm := (hcells k (by rw [← Hn.out]; exact hlt)).2
        have hb := Hok2.out k (by rw [← Hn.out]; exact hlt)
        have htk := Htg.out k (by rw [← Hn.out]; exact hlt)
        generalize (L.getD k (0, 0)).1 = A at *
        generalize (L.getD k (0, 0)).2 = M at *
        have hset := mixT_set ts k (by rw [Htl.out]; exact hlt)
        rw [htk] at hset
        obtain ⟨v0, hv0⟩ := mixT_get ts k (by rw [Htl.out]; exact hlt)
        have hcr : wr.cell? ⟨w1.heap.size, k, none⟩ = some v0 := by rw [cell_of_row _ _ k _ _ _ hrow]; simpa using hv0
        have hfr := row_free hrow k
        have hxs : (s.extract A (A + M)).size ≤ 281474976710656 := by rw [ByteArray.size_extract]; omega
        have cc := fun u => clone_any (s.extract A (A + M)) u hxs
        have Cc := Lib.hid cc; clear cc
        have hal : Below wr.heap.size wr (wr.alloc (.cells #[.int .i64 (A : Int), .int .i64 (M : Int)] 45)) := box_below wr _
        have hls := row_lt hrow
        have hkc : k < vcap := by have := Hn.out; omega
        have Hal := Lib.hid hal; clear hal
        have Hset := Lib.hid hset; clear hset
        have Hrow := Lib.hid hrow; clear hrow
        have Hbw := Lib.hid hbw; clear hbw
        clear hcells htk hcr hfr e2 hcap
        go_wp2_with fail
        refine (Cc.out _).mono ?_; rintro e w5 ⟨rfl, h5⟩
        have hb5 : Below wr.heap.size wr w5 := Hal.out.trans (h5.mono Hal.out.size)
        have hr5 : w5.heap[w1.heap.size]? = some (.cells (mixT ts k).toArray 9 (0, 0)) := by rw [hb5.block _ hls]; exact Hrow.out
        have hcr : w5.cell? ⟨w1.heap.size, k, none⟩ = some v0 := by rw [cell_of_row _ _ k _ _ _ hr5]; simpa using hv0
        have hfr := row_free hr5 k
        have hr6 : (w5.setCell ⟨w1.heap.size, k, none⟩ (.string (s.extract A (A + M)))).heap[w1.heap.size]? = some (.cells (mixT ts (k + 1)).toArray 9 (0, 0)) := by
          rw [heap_setCell_same _ _ k _ _ _ hr5, ← Hset.out]
          simp
        have hb6 : Below w1.heap.size w1 (w5.setCell ⟨w1.heap.size, k, none⟩ (.string (s.extract A (A + M)))) := ((Hbw.out).trans (hb5.mono (by omega))).setCell (p := ⟨w1.heap.size, k, none⟩) (Nat.le_refl _) _
        have Hr6 := Lib.hid hr6; clear hr6
        have Hb6 := Lib.hid hb6; clear hb6
        clear hr5 hb5 h5
        go_wp2_with fail
        go_roundw
        case rel => exact ⟨k + 1, by omega, by go_num, Hb6.out, Hr6.out⟩
        case measure => simp [intOf]; omega
  · simp only [if_neg hm] at cf ⊢
    unfold Ctr.v at *
    have Cf := Lib.hid cf; clear cf
    have hbw := box_below w (.cells #[.int .u64 c.p, .int .i64 c.n, .int .i64 c.mn, .int .i64 c.mx, .int .i64 c.b] 24)
    have Hbw := Lib.hid hbw; clear hbw
    clear hm
    go_enter Try.func11, Try.ntmps11
    go_wp2_with fail
    refine (Cf.out _).mono ?_; rintro e w1 ⟨h1, rfl⟩
    have hbe := Hbw.out.trans (h1.mono Hbw.out.size)
    have Hbe := Lib.hid hbe; clear hbe h1
    go_wp2_with fail
    go_ret2
    exact ⟨Hbe.out, rfl⟩
end Go.Proofs.Ytofiimkpbbiegaa
