/-
  Does: the other steps.
-/
import Derived.Test.YtjlkppdailkanaaDskDoesW
set_option linter.unusedVariables false
namespace Go.Proofs.Ytjlkppdailkanaa
open Go.RowKit

section
variable {S T : Nat → Prop} {p q : Nat} {d r : Dsk.St} {w : World}
theorem does_same {x : Stp} (h0 : x.d ≠ 0) (h2 : x.d ≠ 2) (h3 : x.d ≠ 3) (h4 : x.d ≠ 4) : Dsk.does d x = d := by
  unfold Dsk.does; rw [if_neg h0, if_neg h2, if_neg h3, if_neg h4]

set_option maxRecDepth 20000 in
set_option maxHeartbeats 2000000 in
theorem does_read (h : DiskAt S p d w) (g : RefAt T q r w) (hST : ∀ j, S j → ¬ T j) (xa xn : Int) (xs : ByteArray) (xr : Bool) (hx : Plays ⟨1, xa, xn, xs, xr⟩) (hd : d.ops + 512 ≤ 1099511627776) (hr : r.ops + 512 ≤ 1099511627776) :
    Calls Try.prog 18 #[.pointer (some ⟨p, 0, none⟩), .pointer (some ⟨q, 0, none⟩), agg ⟨1, xa, xn, xs, xr⟩] w (DoesSays S T p q d r ⟨1, xa, xn, xs, xr⟩ w) := by
  have hxa := hx.ok.at_
  have hxn := hx.ok.n
  have hxs := hx.s
  unfold agg
  simp only at hxa hxn hxs ⊢
  obtain ⟨X, hX⟩ : ∃ X, X = w.heap.size := ⟨_, rfl⟩
  obtain ⟨w1, hw1⟩ : ∃ w1, w.alloc (.cells #[.int .i64 1, .int .i64 xa, .int .i64 xn, .string xs, .bool xr] 33) = w1 := ⟨_, rfl⟩
  have hrow1 : w1.heap[X]? = some (.cells #[.int .i64 1, .int .i64 xa, .int .i64 xn, .string xs, .bool xr] 33 (0, 0)) := by rw [← hw1, hX]; exact heap_alloc_new w _
  have hb1 : Below w.heap.size w w1 := by rw [← hw1]; exact (Below.refl _ w).alloc (Nat.le_refl _) _
  have h1 := h.new hb1
  have g1 := g.new hb1
  have hXS : ¬ S X := fun e => by have := h.lt X e; omega
  have hXT : ¬ T X := fun e => by have := g.lt X e; omega
  have hX1 : X < w1.heap.size := row_lt hrow1
  have Hrow1 := Lib.hid hrow1; clear hrow1
  have Hb1 := Lib.hid hb1; clear hb1
  have H1 := Lib.hid h1; clear h1
  have G1 := Lib.hid g1; clear g1
  have Hx := Lib.hid hx; clear hx
  have HX := Lib.hid hX; clear hX
  have Hw1 := Lib.hid hw1; clear hw1
  have HXS := Lib.hid hXS; clear hXS
  have HXT := Lib.hid hXT; clear hXT
  have HST := Lib.hid hST; clear hST
  clear h g
  have hrd := fun u hu => read_all (w := u) (H1.out.new hu) xa xn hxa hxn
  have hrr := fun u hu => refRead_all (w := u) (G1.out.new hu) (by omega) xa xn hxa hxn
  have hcell : ∀ u, Below w1.heap.size w1 u → u.cell? ⟨X, 1, none⟩ = some (.int .i64 xa) ∧ u.cell? ⟨X, 2, none⟩ = some (.int .i64 xn) := fun u hu => by
    have := row_below Hrow1.out hu hX1
    exact ⟨by rw [cell_of_row u X 1 _ _ _ this]; rfl, by rw [cell_of_row u X 2 _ _ _ this]; rfl⟩
  obtain ⟨A, hA⟩ : ∃ A, Dsk.read d xa xn = A := ⟨_, rfl⟩
  obtain ⟨B, hB⟩ : ∃ B, Dsk.read r xa xn = B := ⟨_, rfl⟩
  rw [hA] at hrd
  rw [hB] at hrr
  have hAB : d = r → A = B := fun e => by rw [← hA, ← hB, e]
  obtain ⟨sa, ea⟩ := A
  obtain ⟨sb, eb⟩ := B
  simp only at hrd hrr
  obtain ⟨ta, hta⟩ : ∃ ta : ByteArray, ⟨sa.toArray⟩ = ta := ⟨_, rfl⟩
  obtain ⟨tb, htb⟩ : ∃ tb : ByteArray, ⟨sb.toArray⟩ = tb := ⟨_, rfl⟩
  rw [hta] at hrd
  rw [htb] at hrr
  have hE : d = r → ta = tb ∧ ea = eb := fun e => by
    have := hAB e
    rw [Prod.mk.injEq] at this
    rw [← hta, ← htb, this.1]
    exact ⟨rfl, this.2⟩
  have HE := Lib.hid hE; clear hE
  have Hrd := Lib.hid hrd; clear hrd
  have Hrr := Lib.hid hrr; clear hrr
  have Hcell := Lib.hid hcell; clear hcell
  clear hA hB hAB hta htb
  have hfin : ∀ w3, Below w1.heap.size w1 w3 → ∀ b : Bool, (d = r → b = true) → DoesSays S T p q d r ⟨1, xa, xn, xs, xr⟩ w (.returned (.bool b)) w3 := fun w3 hb3 b hb => by
    refine does_pack Hb1.out (Turns.refl _ w1) (Turns.of_new hb3 _) (S' := S) (T' := T) (fun j hj => .inl hj) (fun j hj => .inl hj) HST.out ?_ ?_ hb
    · rw [does_same (by simp) (by simp) (by simp) (by simp)]; exact H1.out.new hb3
    · rw [does_same (by simp) (by simp) (by simp) (by simp)]; exact G1.out.new hb3
  have Hfin := Lib.hid hfin; clear hfin
  go_enter Try.func18, Try.ntmps18
  go_wp2_with fail
  rw [Hw1.out, ← HX.out]
  refine (Hrd.out _ (Below.refl _ _)).mono ?_; rintro e w2 ⟨rfl, hb2⟩
  obtain ⟨c1, c2⟩ := Hcell.out _ hb2
  have Hb2 := Lib.hid hb2; clear hb2
  go_wp2_with fail
  refine (Hrr.out _ Hb2.out).mono ?_; rintro e w3 ⟨rfl, hb3⟩
  have hb13 := Hb2.out.trans (hb3.mono Hb2.out.size)
  have Hb3 := Lib.hid hb13; clear hb13
  clear hb3 c1 c2
  by_cases hs : ta = tb
  · subst hs
    go_wp2_with fail
    all_goals
      go_ret
      refine Hfin.out _ Hb3.out _ (fun e => ?_)
      have := (HE.out e).2
      simp_all
  · have hsf : (ta.toList == tb.toList) = false := by
      rw [beq_eq_false_iff_ne, Lib.toList_data, Lib.toList_data]
      exact fun e => hs (by rw [← ba_eta ta, ← ba_eta tb, e])
    go_wp2_with fail
    go_ret
    exact Hfin.out _ Hb3.out _ (fun e => absurd (HE.out e).1 hs)

set_option maxRecDepth 20000 in
set_option maxHeartbeats 2000000 in
theorem does_flush (h : DiskAt S p d w) (g : RefAt T q r w) (hST : ∀ j, S j → ¬ T j) (xa xn : Int) (xs : ByteArray) (xr : Bool) (hx : Plays ⟨2, xa, xn, xs, xr⟩) (hd : d.ops + 512 ≤ 1099511627776) (hr : r.ops + 512 ≤ 1099511627776) :
    Calls Try.prog 18 #[.pointer (some ⟨p, 0, none⟩), .pointer (some ⟨q, 0, none⟩), agg ⟨2, xa, xn, xs, xr⟩] w (DoesSays S T p q d r ⟨2, xa, xn, xs, xr⟩ w) := by
  have hxa := hx.ok.at_
  have hxn := hx.ok.n
  have hxs := hx.s
  unfold agg
  simp only at hxa hxn hxs ⊢
  obtain ⟨X, hX⟩ : ∃ X, X = w.heap.size := ⟨_, rfl⟩
  obtain ⟨w1, hw1⟩ : ∃ w1, w.alloc (.cells #[.int .i64 2, .int .i64 xa, .int .i64 xn, .string xs, .bool xr] 33) = w1 := ⟨_, rfl⟩
  have hrow1 : w1.heap[X]? = some (.cells #[.int .i64 2, .int .i64 xa, .int .i64 xn, .string xs, .bool xr] 33 (0, 0)) := by rw [← hw1, hX]; exact heap_alloc_new w _
  have hb1 : Below w.heap.size w w1 := by rw [← hw1]; exact (Below.refl _ w).alloc (Nat.le_refl _) _
  have h1 := h.new hb1
  have g1 := g.new hb1
  have hXS : ¬ S X := fun e => by have := h.lt X e; omega
  have hXT : ¬ T X := fun e => by have := g.lt X e; omega
  have hX1 : X < w1.heap.size := row_lt hrow1
  have Hrow1 := Lib.hid hrow1; clear hrow1
  have Hb1 := Lib.hid hb1; clear hb1
  have H1 := Lib.hid h1; clear h1
  have G1 := Lib.hid g1; clear g1
  have Hx := Lib.hid hx; clear hx
  have HX := Lib.hid hX; clear hX
  have Hw1 := Lib.hid hw1; clear hw1
  have HXS := Lib.hid hXS; clear hXS
  have HXT := Lib.hid hXT; clear hXT
  have HST := Lib.hid hST; clear hST
  clear h g
  have hfl := flush_all H1.out (by omega)
  have hfin : ∀ w2 S2, Turns S w1 w2 → (∀ j, S2 j → S j ∨ w1.heap.size ≤ j) → DiskAt S2 p (Dsk.flush d).1 w2 → Calls Try.prog 36 #[.pointer (some ⟨q, 0, none⟩)] w2 fun e w3 => e = .returned (.int .i64 (Dsk.flush r).2) ∧ ∀ b : Bool, (d = r → b = true) → DoesSays S T p q d r ⟨2, xa, xn, xs, xr⟩ w (.returned (.bool b)) w3 := fun w2 S2 ht hS2 h2 => by
    obtain ⟨g2, hST2⟩ := disk_on G1.out HST.out ht hS2
    refine (refFlush_all g2 (by omega)).mono fun e w3 ⟨he, ht3, T3, hT3, g3⟩ => ⟨he, fun b hb => ?_⟩
    obtain ⟨h3, hST3⟩ := ref_on h2 hST2 ht3 hT3
    have hs := ht.size
    refine does_pack Hb1.out (ht.mono (T := fun j => S j ∨ T j) (fun j _ e => .inl e)) (ht3.mono (fun j _ e => .inr (.inl e))) hS2 (fun j hj => ?_) hST3 ?_ ?_ hb
    · rcases hT3 j hj with h | h
      · exact .inl h
      · exact .inr (by omega)
    · unfold Dsk.does; rw [if_neg (by simp), if_pos rfl]; exact h3
    · unfold Dsk.does; rw [if_neg (by simp), if_pos rfl]; exact g3
  have hAB : d = r → (Dsk.flush d).2 = (Dsk.flush r).2 := fun e => by rw [e]
  have HAB := Lib.hid hAB; clear hAB
  have Hfl := Lib.hid hfl; clear hfl
  have Hfin := Lib.hid hfin; clear hfin
  go_enter Try.func18, Try.ntmps18
  go_wp2_with fail
  rw [Hw1.out]
  refine Hfl.out.mono ?_; rintro e w2 ⟨rfl, ht2, S2, hS2, h2⟩
  have hnext := Hfin.out w2 S2 ht2 hS2 h2
  have Hnext := Lib.hid hnext; clear hnext
  clear ht2 hS2 h2
  go_wp2_with fail
  refine Hnext.out.mono ?_; rintro e w3 ⟨rfl, hend⟩
  have Hend := Lib.hid hend; clear hend
  go_wp2_with fail
  go_ret
  exact Hend.out _ (fun e => by have := HAB.out e; simp_all)

set_option maxRecDepth 20000 in
set_option maxHeartbeats 2000000 in
theorem does_fuse (h : DiskAt S p d w) (g : RefAt T q r w) (hST : ∀ j, S j → ¬ T j) (xa xn : Int) (xs : ByteArray) (xr : Bool) (hx : Plays ⟨3, xa, xn, xs, xr⟩) (hd : d.ops + 512 ≤ 1099511627776) (hr : r.ops + 512 ≤ 1099511627776) :
    Calls Try.prog 18 #[.pointer (some ⟨p, 0, none⟩), .pointer (some ⟨q, 0, none⟩), agg ⟨3, xa, xn, xs, xr⟩] w (DoesSays S T p q d r ⟨3, xa, xn, xs, xr⟩ w) := by
  have hxa := hx.ok.at_
  have hxn := hx.ok.n
  have hxs := hx.s
  unfold agg
  simp only at hxa hxn hxs ⊢
  obtain ⟨X, hX⟩ : ∃ X, X = w.heap.size := ⟨_, rfl⟩
  obtain ⟨w1, hw1⟩ : ∃ w1, w.alloc (.cells #[.int .i64 3, .int .i64 xa, .int .i64 xn, .string xs, .bool xr] 33) = w1 := ⟨_, rfl⟩
  have hrow1 : w1.heap[X]? = some (.cells #[.int .i64 3, .int .i64 xa, .int .i64 xn, .string xs, .bool xr] 33 (0, 0)) := by rw [← hw1, hX]; exact heap_alloc_new w _
  have hb1 : Below w.heap.size w w1 := by rw [← hw1]; exact (Below.refl _ w).alloc (Nat.le_refl _) _
  have h1 := h.new hb1
  have g1 := g.new hb1
  have hXS : ¬ S X := fun e => by have := h.lt X e; omega
  have hXT : ¬ T X := fun e => by have := g.lt X e; omega
  have hX1 : X < w1.heap.size := row_lt hrow1
  have Hrow1 := Lib.hid hrow1; clear hrow1
  have Hb1 := Lib.hid hb1; clear hb1
  have H1 := Lib.hid h1; clear h1
  have G1 := Lib.hid g1; clear g1
  have Hx := Lib.hid hx; clear hx
  have HX := Lib.hid hX; clear hX
  have Hw1 := Lib.hid hw1; clear hw1
  have HXS := Lib.hid hXS; clear hXS
  have HXT := Lib.hid hXT; clear hXT
  have HST := Lib.hid hST; clear hST
  clear h g
  have hrf := refFuse_any G1.out xn hxn
  have hfin : ∀ w2, Turns (fun k => k = q) w1 w2 → RefAt T q { r with fuse := xn } w2 → Calls Try.prog 16 #[.pointer (some ⟨p, 0, none⟩), .int .i64 xn] w2 fun e w3 => e = .returned (.int .i64 0) ∧ DoesSays S T p q d r ⟨3, xa, xn, xs, xr⟩ w (.returned (.bool true)) w3 := fun w2 ht g2 => by
    have hqT := G1.out.hq
    have htT : Turns T w1 w2 := ht.mono (fun j _ e => by rw [e]; exact hqT)
    have h2 : DiskAt S p d w2 := H1.out.keeps htT (fun j a b => HST.out j a b)
    refine (fuse_any h2 xn hxn).mono fun e w3 ⟨he, ht3, h3⟩ => ⟨he, ?_⟩
    have htS : Turns S w2 w3 := ht3.mono (fun j _ e => by rw [e]; exact h2.hp)
    have g3 := g2.keeps htS (fun j a b => HST.out j b a)
    refine does_pack Hb1.out (htT.mono (T := fun j => S j ∨ T j) (fun j _ e => .inr e)) (htS.mono (fun j _ e => .inl e)) (fun j hj => .inl hj) (fun j hj => .inl hj) HST.out ?_ ?_ (fun _ => rfl)
    · unfold Dsk.does; rw [if_neg (by simp), if_neg (by simp), if_pos rfl]; exact h3
    · unfold Dsk.does; rw [if_neg (by simp), if_neg (by simp), if_pos rfl]; exact g3
  have hcell : ∀ u, Turns (fun k => k = q) w1 u → u.cell? ⟨X, 2, none⟩ = some (.int .i64 xn) := fun u hu => by
    have := hu.same Hrow1.out (fun e => HXT.out (by rw [e]; exact G1.out.hq))
    rw [cell_of_row u X 2 _ _ _ this]; rfl
  have Hcell := Lib.hid hcell; clear hcell
  have Hrf := Lib.hid hrf; clear hrf
  have Hfin := Lib.hid hfin; clear hfin
  go_enter Try.func18, Try.ntmps18
  go_wp2_with fail
  rw [Hw1.out, ← HX.out]
  refine Hrf.out.mono ?_; rintro e w2 ⟨rfl, ht2, g2⟩
  have c2 := Hcell.out w2 ht2
  have hnext := Hfin.out w2 ht2 g2
  have Hnext := Lib.hid hnext; clear hnext
  clear ht2 g2
  go_wp2_with fail
  refine Hnext.out.mono ?_; rintro e w3 ⟨rfl, hend⟩
  have Hend := Lib.hid hend; clear hend
  go_wp2_with fail
  go_ret
  exact Hend.out

set_option maxRecDepth 20000 in
set_option maxHeartbeats 2000000 in
theorem does_crash (h : DiskAt S p d w) (g : RefAt T q r w) (hST : ∀ j, S j → ¬ T j) (xa xn : Int) (xs : ByteArray) (xr : Bool) (hx : Plays ⟨4, xa, xn, xs, xr⟩) (hd : d.ops + 512 ≤ 1099511627776) (hr : r.ops + 512 ≤ 1099511627776) :
    Calls Try.prog 18 #[.pointer (some ⟨p, 0, none⟩), .pointer (some ⟨q, 0, none⟩), agg ⟨4, xa, xn, xs, xr⟩] w (DoesSays S T p q d r ⟨4, xa, xn, xs, xr⟩ w) := by
  have hxa := hx.ok.at_
  have hxn := hx.ok.n
  have hxs := hx.s
  unfold agg
  simp only at hxa hxn hxs ⊢
  obtain ⟨X, hX⟩ : ∃ X, X = w.heap.size := ⟨_, rfl⟩
  obtain ⟨w1, hw1⟩ : ∃ w1, w.alloc (.cells #[.int .i64 4, .int .i64 xa, .int .i64 xn, .string xs, .bool xr] 33) = w1 := ⟨_, rfl⟩
  have hrow1 : w1.heap[X]? = some (.cells #[.int .i64 4, .int .i64 xa, .int .i64 xn, .string xs, .bool xr] 33 (0, 0)) := by rw [← hw1, hX]; exact heap_alloc_new w _
  have hb1 : Below w.heap.size w w1 := by rw [← hw1]; exact (Below.refl _ w).alloc (Nat.le_refl _) _
  have h1 := h.new hb1
  have g1 := g.new hb1
  have hXS : ¬ S X := fun e => by have := h.lt X e; omega
  have hXT : ¬ T X := fun e => by have := g.lt X e; omega
  have hX1 : X < w1.heap.size := row_lt hrow1
  have Hrow1 := Lib.hid hrow1; clear hrow1
  have Hb1 := Lib.hid hb1; clear hb1
  have H1 := Lib.hid h1; clear h1
  have G1 := Lib.hid g1; clear g1
  have Hx := Lib.hid hx; clear hx
  have HX := Lib.hid hX; clear hX
  have Hw1 := Lib.hid hw1; clear hw1
  have HXS := Lib.hid hXS; clear hXS
  have HXT := Lib.hid hXT; clear hXT
  have HST := Lib.hid hST; clear hST
  clear h g
  have hrc := refCrash_any G1.out xs (by omega) (by omega)
  have hfin : ∀ w2 T2, Turns T w1 w2 → (∀ j, T2 j → T j ∨ w1.heap.size ≤ j) → RefAt T2 q (Dsk.crash r xs.data.toList) w2 → Calls Try.prog 17 #[.pointer (some ⟨p, 0, none⟩), .string xs] w2 fun e w3 => e = .returned (.int .i64 0) ∧ DoesSays S T p q d r ⟨4, xa, xn, xs, xr⟩ w (.returned (.bool true)) w3 := fun w2 T2 ht hT2 g2 => by
    obtain ⟨h2, hST2⟩ := ref_on H1.out HST.out ht hT2
    refine (crash_any h2 xs (by omega) (by omega)).mono fun e w3 ⟨he, ht3, S3, hS3, h3⟩ => ⟨he, ?_⟩
    obtain ⟨g3, hST3⟩ := disk_on g2 hST2 ht3 hS3
    have hs := ht.size
    refine does_pack Hb1.out (ht.mono (T := fun j => S j ∨ T j) (fun j _ e => .inr e)) (ht3.mono (fun j _ e => .inl e)) (fun j hj => ?_) hT2 hST3 ?_ ?_ (fun _ => rfl)
    · rcases hS3 j hj with h | h
      · exact .inl h
      · exact .inr (by omega)
    · unfold Dsk.does; rw [if_neg (by simp), if_neg (by simp), if_neg (by simp), if_pos rfl]; exact h3
    · unfold Dsk.does; rw [if_neg (by simp), if_neg (by simp), if_neg (by simp), if_pos rfl]; exact g3
  have hcell : ∀ u, Turns T w1 u → u.cell? ⟨X, 3, none⟩ = some (.string xs) := fun u hu => by
    have := hu.same Hrow1.out HXT.out
    rw [cell_of_row u X 3 _ _ _ this]; rfl
  have Hcell := Lib.hid hcell; clear hcell
  have Hrc := Lib.hid hrc; clear hrc
  have Hfin := Lib.hid hfin; clear hfin
  go_enter Try.func18, Try.ntmps18
  go_wp2_with fail
  rw [Hw1.out, ← HX.out]
  refine Hrc.out.mono ?_; rintro e w2 ⟨rfl, ht2, T2, hT2, g2⟩
  have c3 := Hcell.out w2 ht2
  have hnext := Hfin.out w2 T2 ht2 hT2 g2
  have Hnext := Lib.hid hnext; clear hnext
  clear ht2 hT2 g2
  go_wp2_with fail
  refine Hnext.out.mono ?_; rintro e w3 ⟨rfl, hend⟩
  have Hend := Lib.hid hend; clear hend
  go_wp2_with fail
  go_ret
  exact Hend.out

set_option maxRecDepth 20000 in
set_option maxHeartbeats 2000000 in
theorem does_other (h : DiskAt S p d w) (g : RefAt T q r w) (hST : ∀ j, S j → ¬ T j) (xd : Int) (n0 : xd ≠ 0) (n1 : xd ≠ 1) (n2 : xd ≠ 2) (n3 : xd ≠ 3) (n4 : xd ≠ 4) (xa xn : Int) (xs : ByteArray) (xr : Bool) (hx : Plays ⟨xd, xa, xn, xs, xr⟩) (hd : d.ops + 512 ≤ 1099511627776) (hr : r.ops + 512 ≤ 1099511627776) :
    Calls Try.prog 18 #[.pointer (some ⟨p, 0, none⟩), .pointer (some ⟨q, 0, none⟩), agg ⟨xd, xa, xn, xs, xr⟩] w (DoesSays S T p q d r ⟨xd, xa, xn, xs, xr⟩ w) := by
  have hxa := hx.ok.at_
  have hxn := hx.ok.n
  have hxs := hx.s
  unfold agg
  simp only at hxa hxn hxs ⊢
  obtain ⟨X, hX⟩ : ∃ X, X = w.heap.size := ⟨_, rfl⟩
  obtain ⟨w1, hw1⟩ : ∃ w1, w.alloc (.cells #[.int .i64 xd, .int .i64 xa, .int .i64 xn, .string xs, .bool xr] 33) = w1 := ⟨_, rfl⟩
  have hrow1 : w1.heap[X]? = some (.cells #[.int .i64 xd, .int .i64 xa, .int .i64 xn, .string xs, .bool xr] 33 (0, 0)) := by rw [← hw1, hX]; exact heap_alloc_new w _
  have hb1 : Below w.heap.size w w1 := by rw [← hw1]; exact (Below.refl _ w).alloc (Nat.le_refl _) _
  have h1 := h.new hb1
  have g1 := g.new hb1
  have hXS : ¬ S X := fun e => by have := h.lt X e; omega
  have hXT : ¬ T X := fun e => by have := g.lt X e; omega
  have hX1 : X < w1.heap.size := row_lt hrow1
  have Hrow1 := Lib.hid hrow1; clear hrow1
  have Hb1 := Lib.hid hb1; clear hb1
  have H1 := Lib.hid h1; clear h1
  have G1 := Lib.hid g1; clear g1
  have Hx := Lib.hid hx; clear hx
  have HX := Lib.hid hX; clear hX
  have Hw1 := Lib.hid hw1; clear hw1
  have HXS := Lib.hid hXS; clear hXS
  have HXT := Lib.hid hXT; clear hXT
  have HST := Lib.hid hST; clear hST
  clear h g
  have hfin : DoesSays S T p q d r ⟨xd, xa, xn, xs, xr⟩ w (.returned (.bool true)) w1 := by
    refine does_pack Hb1.out (Turns.refl _ w1) (Turns.refl _ w1) (S' := S) (T' := T) (fun j hj => .inl hj) (fun j hj => .inl hj) HST.out ?_ ?_ (fun _ => rfl)
    · rw [does_same n0 n2 n3 n4]; exact H1.out
    · rw [does_same n0 n2 n3 n4]; exact G1.out
  have Hfin := Lib.hid hfin; clear hfin
  have e0 : (xd == 0) = false := by rw [beq_eq_false_iff_ne]; exact n0
  have e1 : (xd == 1) = false := by rw [beq_eq_false_iff_ne]; exact n1
  have e2 : (xd == 2) = false := by rw [beq_eq_false_iff_ne]; exact n2
  have e3 : (xd == 3) = false := by rw [beq_eq_false_iff_ne]; exact n3
  have e4 : (xd == 4) = false := by rw [beq_eq_false_iff_ne]; exact n4
  clear n0 n1 n2 n3 n4
  go_enter Try.func18, Try.ntmps18
  go_wp2_with fail
  rw [Hw1.out]
  go_ret
  exact Hfin.out

theorem does_any (h : DiskAt S p d w) (g : RefAt T q r w) (hST : ∀ j, S j → ¬ T j) (x : Stp) (hx : Plays x) (hd : d.ops + 512 ≤ 1099511627776) (hr : r.ops + 512 ≤ 1099511627776) :
    Calls Try.prog 18 #[.pointer (some ⟨p, 0, none⟩), .pointer (some ⟨q, 0, none⟩), agg x] w (DoesSays S T p q d r x w) := by
  obtain ⟨xd, xa, xn, xs, xr⟩ := x
  by_cases h0 : xd = 0
  · subst h0; exact does_write h g hST xa xn xs xr hx hd hr
  by_cases h1 : xd = 1
  · subst h1; exact does_read h g hST xa xn xs xr hx hd hr
  by_cases h2 : xd = 2
  · subst h2; exact does_flush h g hST xa xn xs xr hx hd hr
  by_cases h3 : xd = 3
  · subst h3; exact does_fuse h g hST xa xn xs xr hx hd hr
  by_cases h4 : xd = 4
  · subst h4; exact does_crash h g hST xa xn xs xr hx hd hr
  exact does_other h g hST xd h0 h1 h2 h3 h4 xa xn xs xr hx hd hr
end
end Go.Proofs.Ytjlkppdailkanaa
