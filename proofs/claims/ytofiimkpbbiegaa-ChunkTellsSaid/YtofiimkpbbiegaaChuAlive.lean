/-
  The places where texts of a row end; the chapter's examples.
-/
import Derived.Test.YtofiimkpbbiegaaChuSame
set_option linter.unusedVariables false
set_option maxRecDepth 100000
namespace Go.Proofs.Ytofiimkpbbiegaa
open Go.RowKit

/-- the slice reads as these texts -/
def TRd (v : Value) (L : List ByteArray) (w : World) : Prop := ∃ g, v = .slice (some ⟨g, 0, none⟩) L.length L.length ∧ w.heap[g]? = some (.cells (L.map Value.string).toArray 9 (0, 0))
theorem TRd.new {v : Value} {L : List ByteArray} {w w' : World} (h : TRd v L w) (hb : Below w.heap.size w w') : TRd v L w' := by
  obtain ⟨g, rfl, h2⟩ := h
  exact ⟨g, rfl, by rw [hb.block _ (row_lt h2)]; exact h2⟩
theorem TRd.cell {g : Nat} {L : List ByteArray} {w : World} (h : w.heap[g]? = some (.cells (L.map Value.string).toArray 9 (0, 0))) (j : Nat) (hj : j < L.length) : w.cell? ⟨g, j, none⟩ = some (.string (L.getD j .empty)) := by
  rw [cell_of_row _ _ j _ _ _ h]
  simp [List.getD_eq_getElem?_getD, hj]
/-- where the texts end, one behind the other -/
def endsT (L : List ByteArray) (k : Nat) : List Nat := (List.range k).map fun j => tot L (j + 1)
theorem endsT_succ (L : List ByteArray) (k : Nat) : endsT L (k + 1) = endsT L k ++ [tot L (k + 1)] := by
  unfold endsT; rw [List.range_succ, List.map_append]; rfl
theorem tot_cons (x : ByteArray) (r : List ByteArray) (j : Nat) : tot (x :: r) (j + 1) = x.size + tot r j := by simp [tot]
theorem tot_pcs (s : ByteArray) : ∀ (a : Nat) (l : List Nat) (j : Nat), (∀ x ∈ l, x ≤ s.size) → (a :: l).Pairwise (· ≤ ·) → j < l.length → tot (pcTexts s (Chu.pcs a l)) (j + 1) + a = l.getD j 0
  | a, [], j, _, _, h => by simp at h
  | a, e :: r, 0, h1, h2, _ => by
    have he := h1 e (by simp)
    have hae : a ≤ e := (List.pairwise_cons.1 h2).1 e (by simp)
    simp only [Chu.pcs, pcTexts, List.map_cons, tot_cons, tot_zero, List.getD_cons_zero]
    rw [ByteArray.size_extract]
    omega
  | a, e :: r, j + 1, h1, h2, h3 => by
    have he := h1 e (by simp)
    have hae : a ≤ e := (List.pairwise_cons.1 h2).1 e (by simp)
    have ih := tot_pcs s e r j (fun x hx => h1 x (by simp [hx])) (List.pairwise_cons.1 h2).2 (by simpa using h3)
    simp only [Chu.pcs, List.getD_cons_succ]
    have e1 : pcTexts s ((a, e - a) :: Chu.pcs e r) = s.extract a (a + (e - a)) :: pcTexts s (Chu.pcs e r) := rfl
    rw [e1, tot_cons, ByteArray.size_extract]
    omega
theorem ends_pw {mk : Nat → Bool} {mn mx len : Nat} (h1 : 1 ≤ mn) (h2 : mn ≤ mx) : ∀ (f i : Nat), (i :: Chu.ends mk mn mx len f i).Pairwise (· ≤ ·)
  | 0, i => by simp [Chu.ends]
  | f + 1, i => by
    have hr := Chu.ends_range (mk := mk) (len := len) h1 h2 (f + 1) i
    refine List.pairwise_cons.2 ⟨fun x hx => Nat.le_of_lt (hr x hx).1, ?_⟩
    unfold Chu.ends
    by_cases h : i < len
    · rw [if_pos h]
      exact ends_pw h1 h2 f _
    · rw [if_neg h]; exact List.Pairwise.nil
theorem Ctr.ends_is (c : Ctr) (l : List UInt8) : c.ends l = Chu.ends (c.isMk l) c.mn.toNat c.mx.toNat l.length l.length 0 := rfl
theorem Ctr.ends_range {c : Ctr} (h : c.May) (l : List UInt8) : ∀ x ∈ c.ends l, 0 < x ∧ x ≤ l.length := Chu.ends_range h.nat.1 h.nat.2.1 _ _
/-- the texts' ends are the cuts -/
theorem Ctr.endsT_is {c : Ctr} (h : c.May) (s : ByteArray) : endsT (c.texts s) (c.texts s).length = c.ends s.data.toList := by
  have hl : (c.texts s).length = (c.ends s.data.toList).length := by
    unfold Ctr.texts Ctr.cut
    rw [pcTexts_length, Chu.pcs_length]
  rw [hl]
  apply List.ext_getElem
  · simp [endsT]
  · intro j h1 h2
    have ht := tot_pcs s 0 (c.ends s.data.toList) j (fun x hx => by rw [← ba_len]; exact (Ctr.ends_range h _ x hx).2) (ends_pw h.nat.1 h.nat.2.1 _ _) h2
    simp only [endsT, List.getElem_map, List.getElem_range]
    unfold Ctr.texts Ctr.cut
    rw [List.getD_eq_getElem?_getD, List.getElem?_eq_getElem h2] at ht
    simpa using ht
theorem Ctr.tot_le {c : Ctr} (h : c.May) (s : ByteArray) (k : Nat) (hk : k ≤ (c.texts s).length) : tot (c.texts s) k ≤ s.size := by
  cases k with
  | zero => simp [tot]
  | succ j =>
    have h1 : tot (c.texts s) (j + 1) ∈ endsT (c.texts s) (c.texts s).length := List.mem_map.2 ⟨j, List.mem_range.2 hk, rfl⟩
    rw [Ctr.endsT_is h] at h1
    have := (Ctr.ends_range h _ _ h1).2
    rwa [ba_len] at this

set_option maxHeartbeats 1000000 in
theorem lcuts_any (v : Value) (L : List ByteArray) (w : World) (h : TRd v L w) (hL : L.length ≤ 1099511627776) (ht : ∀ k, k ≤ L.length → tot L k ≤ 1099511627776) :
    Calls Try.prog 18 #[v] w fun e w' => ∃ v', e = .returned v' ∧ IOwn w.heap.size v' (endsT L L.length) w' ∧ Below w.heap.size w w' := by
  obtain ⟨i0, hi0, hz0, hz1, hz2⟩ := info_parts int_info
  obtain ⟨g, rfl, hrow⟩ := h
  obtain ⟨n, hn⟩ : ∃ n, n = L.length := ⟨_, rfl⟩
  rw [← hn] at hL ht ⊢
  have hget := fun (u : World) (hu : Below w.heap.size w u) j (hj : j < n) => TRd.cell (L := L) (w := u) (g := g) (by rw [hu.block _ (row_lt hrow)]; exact hrow) j (by rw [← hn]; exact hj)
  have hts := fun k (hk : k < n) => tot_succ L k (by rw [← hn]; exact hk)
  have Hget := Lib.hid hget; clear hget
  have Hts := Lib.hid hts; clear hts
  have Ht := Lib.hid ht; clear ht
  clear hrow hn
  go_enter Try.func18, Try.ntmps18
  go_wp2_with fail
  go_loopw [3, 4, 5] (fun v x i wr => ∃ k : Nat, k ≤ n ∧ i = .int .i64 (k : Int) ∧ x = .int .i64 (tot L k : Nat) ∧ IOwn w.heap.size v (endsT L k) wr ∧ Below w.heap.size w wr) (fun v x i _ => n - (intOf i).toNat)
  case atStart => exact ⟨0, Nat.zero_le _, rfl, rfl, World.ownsRow_nil _ _ 3 1, Below.refl _ _⟩
  case round =>
    obtain ⟨k, hk, rfl, rfl, hv, hb⟩ := hrel
    by_cases hlt : k < n
    · have g1 : decide (k < n) = true := decide_eq_true hlt
      have g2 : (k : Int) < (n : Int) := by omega
      have cg := Hget.out wr hb k hlt
      have h1 := Hts.out k hlt
      have h2 := Ht.out (k + 1) (by omega)
      have h3 := endsT_succ L k
      have hel : (endsT L k).length = k := by simp [endsT]
      rw [h1] at h2 h3
      have h4 := Ht.out k (by omega)
      generalize L.getD k .empty = z at *
      have hs1 : ((tot L (k + 1) : Nat) : Int) = (tot L k : Nat) + (z.size : Int) := by rw [h1]; omega
      generalize tot L k = q at *
      have H3 := Lib.hid h3; clear h3 h1
      have Hs1 := Lib.hid hs1; clear hs1
      have Hv := Lib.hid hv; clear hv
      have Hb := Lib.hid hb; clear hb
      go_wp2_with (at_builtin; go_loud (refine wpList_append_own_at _ rfl _ _ 28 rfl w.heap.size 3 i0 (.int .i64 0) 1 8 Try.underlying28 hi0 hz0 hz1 hz2 rfl (by decide) _ _ _ rfl (World.ownsRow.alloc Hv.out _) ⟨wr.heap.size, 0, none⟩ 1 1 [.int .i64 ((q : Int) + (z.size : Int))] rfl rfl (cell_new_row wr [.int .i64 ((q : Int) + (z.size : Int))] 3) ?c2 ?c3 ?c4 ?c5 ?_))
      case c2 => intro z hz; simp at hz; subst hz; rfl
      case c3 => unfold maxLen; omega
      case c4 => omega
      case c5 => have := Hb.out.size; simp; omega
      intro v' w5 hown5 hgrow _ hvb
      have hs := Hb.out.size
      have hbY := box_below wr (.cells #[.int .i64 ((q : Int) + (z.size : Int))] 3)
      have hb5 : Below w.heap.size w w5 := ((Hb.out).trans (hbY.mono hs)).grown hgrow (by have := hbY.size; omega) (fun b' h => (World.ownsRow.lt Hv.out b' h).1)
      have hv5 : IOwn w.heap.size v' (endsT L (k + 1)) w5 := by
        unfold IOwn ints
        rw [H3.out, List.length_append, List.map_append, hel]
        rw [show ((q : Int) + (z.size : Int)) = ((q + z.size : Nat) : Int) by omega] at hown5
        exact hown5
      have Hb5 := Lib.hid hb5; clear hb5
      have Hv5 := Lib.hid hv5; clear hv5
      clear hown5 hgrow hvb hbY hs
      go_wp2_with fail
      go_roundw
      case rel => exact ⟨k + 1, by omega, by go_num, by rw [Hs1.out], Hv5.out, Hb5.out⟩
      case measure => simp [intOf]; omega
    · have g1 : decide (k < n) = false := decide_eq_false hlt
      have hkn : k = n := by omega
      have Hkn := Lib.hid hkn; clear hkn
      have Hv := Lib.hid hv; clear hv
      have Hb := Lib.hid hb; clear hb
      go_wp2_with fail
      go_ret
      exact ⟨_, rfl, by rw [← Hkn.out]; exact Hv.out, Hb.out⟩

def cut0 : Ctr := ⟨0, 0, 0, 0, 0⟩
def cutA : Ctr := ⟨283, 2, 2, 4, 0⟩
def cutB : Ctr := ⟨283, 2, 2, 3, 16⟩
def txA : ByteArray := ⟨#[97, 98, 99, 100, 101]⟩
def txB : ByteArray := ⟨#[0, 0, 0, 0, 0, 0]⟩
theorem cut0_not : ¬ cut0.May := fun h => absurd h.1.1.1 (by decide +kernel)
theorem cutA_may : cutA.May := by decide +kernel
theorem cutB_may : cutB.May := by decide +kernel
theorem cutA_cut : cutA.cut txA.data.toList = [(0, 2), (2, 2), (4, 1)] := by decide +kernel
theorem cutB_cut : cutB.cut txB.data.toList = [(0, 3), (3, 3)] := by decide +kernel
theorem cutA_texts : cutA.texts txA = [⟨#[97, 98]⟩, ⟨#[99, 100]⟩, ⟨#[101]⟩] := by
  unfold Ctr.texts
  rw [cutA_cut]
  rfl

set_option maxHeartbeats 1000000 in
theorem chuAlive_any (w : World) :
    Calls Try.prog 7 #[] w fun e w' => e = .returned (.bool true) ∧ Below w.heap.size w w' := by
  have c1 := fun u => chTexts_any cutA (by decide) txA (by decide) u
  simp only [if_pos cutA_may, cutA_texts] at c1
  have c2 := fun u => chCut_any cutB (by decide) txB (by decide) u
  simp only [if_pos cutB_may, cutB_cut] at c2
  have c3 := fun u => chCut_any cut0 (by decide) ⟨#[]⟩ (by decide) u
  simp only [if_neg cut0_not] at c3
  have c4 := fun u => most_any cutA (by decide) 5 (by decide) u
  have hm5 : cutA.most 5 = 3 := by decide
  simp only [if_pos (⟨cutA_may, by decide⟩ : cutA.May ∧ (0 : Int) ≤ 5), hm5] at c4
  unfold Ctr.v cutA txA TxR at c1
  unfold Ctr.v cutB txB at c2
  unfold Ctr.v cut0 at c3
  unfold Ctr.v cutA at c4
  have C1 := Lib.hid c1; clear c1
  have C2 := Lib.hid c2; clear c2
  have C3 := Lib.hid c3; clear c3
  have C4 := Lib.hid c4; clear c4
  clear hm5
  go_enter Try.func7, Try.ntmps7
  go_wp2_with fail
  refine (C1.out _).mono ?_; rintro e w1 ⟨h1, g, hg, rfl, hrow⟩
  have Hrow := Lib.hid hrow; clear hrow
  have H1 := Lib.hid h1; clear h1
  clear hg
  go_wp2_with fail
  refine (C2.out _).mono ?_; rintro e w2 ⟨h2, v, rfl, hv⟩
  obtain ⟨va, vc, rfl⟩ := hv.form
  have Hv := Lib.hid hv; clear hv
  have H2 := Lib.hid h2; clear h2
  go_wp2_with fail
  refine (C3.out _).mono ?_; rintro e w3 ⟨h3, rfl⟩
  have H3 := Lib.hid h3; clear h3
  go_wp2_with fail
  refine (C4.out _).mono ?_; rintro e w4 ⟨rfl, h4⟩
  have H4 := Lib.hid h4; clear h4
  have hrow4 := ((Hrow.out))
  have hb4 : Below w1.heap.size w1 w4 := H2.out.trans ((H3.out.mono H2.out.size).trans (H4.out.mono (Nat.le_trans H2.out.size H3.out.size)))
  have hr4 : w4.heap[g]? = some (.cells (List.map Value.string [(⟨#[97, 98]⟩ : ByteArray), ⟨#[99, 100]⟩, ⟨#[101]⟩]).toArray 9 (0, 0)) := by rw [hb4.block _ (row_lt Hrow.out)]; exact Hrow.out
  have t0 : w4.cell? ⟨g, 0, none⟩ = some (.string ⟨#[97, 98]⟩) := by rw [cell_of_row _ _ 0 _ _ _ hr4]; rfl
  have t2 : w4.cell? ⟨g, 2, none⟩ = some (.string ⟨#[101]⟩) := by rw [cell_of_row _ _ 2 _ _ _ hr4]; rfl
  have hbe4 : Below w.heap.size w w4 := H1.out.trans (hb4.mono H1.out.size)
  have hv4 : PRd (.slice va 2 vc) [(0, 3), (3, 3)] w4 := PRd.new (PRd.new (POwn.reads Hv.out) H3.out) H4.out
  have Hv4 := Lib.hid hv4; clear hv4
  have Hbe4 := Lib.hid hbe4; clear hbe4
  clear hr4 hb4 hrow4
  obtain ⟨w5, hw5⟩ : ∃ w5, w5 = w4.alloc (.cells #[.int .i64 0, .int .i64 3, .int .i64 3, .int .i64 3] 45) := ⟨_, rfl⟩
  have hb5 : Below w4.heap.size w4 w5 := by rw [hw5]; exact box_below w4 _
  have hr5 : w5.heap[w4.heap.size]? = some (.cells #[.int .i64 0, .int .i64 3, .int .i64 3, .int .i64 3] 45 (0, 0)) := by rw [hw5]; exact heap_alloc_new _ _
  have hp5 : PRd (.slice (some ⟨w4.heap.size, 0, none⟩) 2 2) [(0, 3), (3, 3)] w5 := by
    refine ⟨_, 2, rfl, Nat.le_refl _, fun j hj => ⟨w4.heap.size, rfl, ?_, ?_⟩⟩
    · rw [cell_of_row _ _ _ _ _ _ hr5]
      rcases (by simp at hj; omega : j = 0 ∨ j = 1) with rfl | rfl <;> rfl
    · rw [cell_of_row _ _ _ _ _ _ hr5]
      rcases (by simp at hj; omega : j = 0 ∨ j = 1) with rfl | rfl <;> rfl
  have cs := rsame_any _ _ _ w5 (Hv4.out.new hb5) hp5 (by decide)
  have hbe5 := Hbe4.out.trans (hb5.mono Hbe4.out.size)
  rw [hw5] at cs hbe5
  have Cs := Lib.hid cs; clear cs
  have Hbe5 := Lib.hid hbe5; clear hbe5
  clear hp5 hr5 hb5 hw5
  go_wp2_with fail
  refine Cs.out.mono ?_; rintro e w6 ⟨rfl, h6⟩
  have hbe6 := Hbe5.out.trans (h6.mono Hbe5.out.size)
  have Hbe6 := Lib.hid hbe6; clear hbe6 h6
  go_wp2_with fail
  go_ret
  exact ⟨rfl, Hbe6.out⟩
end Go.Proofs.Ytofiimkpbbiegaa
