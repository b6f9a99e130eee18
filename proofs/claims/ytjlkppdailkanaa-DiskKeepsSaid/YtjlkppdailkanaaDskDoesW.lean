/-
  Does: a step, of a disk and of the document's one.
-/
import Derived.Test.YtjlkppdailkanaaDskSame
set_option linter.unusedVariables false
namespace Go.Proofs.Ytjlkppdailkanaa
open Go.RowKit

section
variable {S T : Nat → Prop} {p q : Nat} {d r : Dsk.St} {w : World}
/-- the disk has turned -/
theorem disk_on {S' : Nat → Prop} {w2 : World} (g : RefAt T q r w) (hST : ∀ j, S j → ¬ T j) (ht : Turns S w w2) (hS' : ∀ j, S' j → S j ∨ w.heap.size ≤ j) : RefAt T q r w2 ∧ (∀ j, S' j → ¬ T j) :=
  ⟨g.keeps ht (fun j a b => hST j b a), apart_on hST g.lt hS'⟩
/-- the document's one has turned -/
theorem ref_on {T' : Nat → Prop} {w2 : World} (h : DiskAt S p d w) (hST : ∀ j, S j → ¬ T j) (ht : Turns T w w2) (hT' : ∀ j, T' j → T j ∨ w.heap.size ≤ j) : DiskAt S p d w2 ∧ (∀ j, S j → ¬ T' j) :=
  ⟨h.keeps ht (fun j a b => hST j a b), fun j a b => by
    rcases hT' j b with hs | hs
    · exact hST j a hs
    · have := h.lt j a; omega⟩

/-- what a step of both leaves -/
def DoesSays (S T : Nat → Prop) (p q : Nat) (d r : Dsk.St) (x : Stp) (w : World) (e : Ending) (w' : World) : Prop :=
  ∃ b : Bool, e = .returned (.bool b) ∧ (d = r → b = true) ∧ Turns (fun j => S j ∨ T j) w w' ∧ ∃ S' T' : Nat → Prop, (∀ j, S' j → S j ∨ w.heap.size ≤ j) ∧ (∀ j, T' j → T j ∨ w.heap.size ≤ j) ∧ (∀ j, S' j → ¬ T' j) ∧ DiskAt S' p (Dsk.does d x) w' ∧ RefAt T' q (Dsk.does r x) w'

theorem does_pack {S' T' : Nat → Prop} {x : Stp} {w0 w1 w2 : World} {b : Bool} (hb0 : Below w.heap.size w w0) (h1 : Turns (fun j => S j ∨ T j) w0 w1) (h2 : Turns (fun j => S j ∨ T j ∨ w0.heap.size ≤ j) w1 w2)
    (hS : ∀ j, S' j → S j ∨ w0.heap.size ≤ j) (hT : ∀ j, T' j → T j ∨ w0.heap.size ≤ j) (hST : ∀ j, S' j → ¬ T' j) (hd : DiskAt S' p (Dsk.does d x) w2) (hr : RefAt T' q (Dsk.does r x) w2) (hb : d = r → b = true) : DoesSays S T p q d r x w (.returned (.bool b)) w2 := by
  have hsz := hb0.size
  refine ⟨b, rfl, hb, ?_, S', T', fun j hj => ?_, fun j hj => ?_, hST, hd, hr⟩
  · have t0 : Turns (fun j => S j ∨ T j) w w0 := Turns.of_new hb0 _
    refine (t0.trans h1 (fun j _ e => e)).trans h2 (fun j hj e => ?_)
    rcases e with e | e | e
    · exact .inl e
    · exact .inr e
    · omega
  · rcases hS j hj with h | h
    · exact .inl h
    · exact .inr (by omega)
  · rcases hT j hj with h | h
    · exact .inl h
    · exact .inr (by omega)

set_option maxRecDepth 20000 in
set_option maxHeartbeats 2000000 in
theorem does_write (h : DiskAt S p d w) (g : RefAt T q r w) (hST : ∀ j, S j → ¬ T j) (xa xn : Int) (xs : ByteArray) (xr : Bool) (hx : Plays ⟨0, xa, xn, xs, xr⟩) (hd : d.ops + 512 ≤ 1099511627776) (hr : r.ops + 512 ≤ 1099511627776) :
    Calls Try.prog 18 #[.pointer (some ⟨p, 0, none⟩), .pointer (some ⟨q, 0, none⟩), agg ⟨0, xa, xn, xs, xr⟩] w (DoesSays S T p q d r ⟨0, xa, xn, xs, xr⟩ w) := by
  have htx := fun u => text_any ⟨0, xa, xn, xs, xr⟩ hx (hx.n rfl) u
  have hts := hx.text rfl
  have hxa := hx.ok.at_
  unfold agg at htx ⊢
  generalize htt : textOf ⟨0, xa, xn, xs, xr⟩ = tx at *
  simp only at htx hxa ⊢
  obtain ⟨X, hX⟩ : ∃ X, X = w.heap.size := ⟨_, rfl⟩
  obtain ⟨w1, hw1⟩ : ∃ w1, w.alloc (.cells #[.int .i64 0, .int .i64 xa, .int .i64 xn, .string xs, .bool xr] 33) = w1 := ⟨_, rfl⟩
  have hrow1 : w1.heap[X]? = some (.cells #[.int .i64 0, .int .i64 xa, .int .i64 xn, .string xs, .bool xr] 33 (0, 0)) := by rw [← hw1, hX]; exact heap_alloc_new w _
  have hb1 : Below w.heap.size w w1 := by rw [← hw1]; exact (Below.refl _ w).alloc (Nat.le_refl _) _
  have h1 := h.new hb1
  have g1 := g.new hb1
  have hXS : ¬ S X := fun e => by have := h.lt X e; omega
  have hXT : ¬ T X := fun e => by have := g.lt X e; omega
  have hld := fun (u : World) (h : u.heap[X]? = some (.cells #[.int .i64 0, .int .i64 xa, .int .i64 xn, .string xs, .bool xr] 33 (0, 0))) => load_row (P := Try.prog) u X 33 33 _ (0, 0) _ h Try.underlying33 rfl (by kernel_rfl)
  have Hld := Lib.hid hld; clear hld
  have Htx := Lib.hid htx; clear htx
  have Hrow1 := Lib.hid hrow1; clear hrow1
  have Hb1 := Lib.hid hb1; clear hb1
  have H1 := Lib.hid h1; clear h1
  have G1 := Lib.hid g1; clear g1
  have Hx := Lib.hid hx; clear hx
  have HX := Lib.hid hX; clear hX
  have Hw1 := Lib.hid hw1; clear hw1
  have Htt := Lib.hid htt; clear htt
  clear h g
  go_enter Try.func18, Try.ntmps18
  go_wp2
  rw [Hw1.out, ← HX.out]
  refine wp_region_text [0, 1, 2, 3, 6, 7, 8, 9] [4, 5, 10, 11, 12] [13] (by kernel_rfl) (by kernel_rfl) (fun u => u.heap[X]? = some (.cells #[.int .i64 0, .int .i64 xa, .int .i64 xn, .string xs, .bool xr] 33 (0, 0))) Hrow1.out ?_
  simp only [pick, List.filterMap_cons, List.filterMap_nil, List.getElem?_toArray, List.getElem?_cons_zero, List.getElem?_cons_succ]
  refine take_move (.tmp 0) (.pointer (some ⟨p, 0, none⟩)) rfl rfl rfl ?_
  simp only [Act.put, List.setIfInBounds_toArray, List.set_cons_zero, List.set_cons_succ]
  refine take_one (.pointer (some ⟨X, 1, none⟩)) rfl (fun u _ => by go_simp) ?_
  simp only [Act.put, List.setIfInBounds_toArray, List.set_cons_zero, List.set_cons_succ]
  refine take_load 3 (.tmp 16) ⟨X, 1, none⟩ (.int .i64 xa) rfl rfl rfl (fun u hu => load_int _ _ _ _ (by rw [cell_of_row u X 1 _ _ _ hu]; rfl)) ?_
  simp only [Act.put, List.setIfInBounds_toArray, List.set_cons_zero, List.set_cons_succ]
  refine take_load 33 (.tmp 5) ⟨X, 0, none⟩ (.agg #[.int .i64 0, .int .i64 xa, .int .i64 xn, .string xs, .bool xr]) rfl rfl rfl (fun u hu => Hld.out u hu) ?_
  simp only [Act.put, List.setIfInBounds_toArray, List.set_cons_zero, List.set_cons_succ]
  refine take_move (.tmp 1) (.pointer (some ⟨q, 0, none⟩)) rfl rfl rfl ?_
  simp only [Act.put, List.setIfInBounds_toArray, List.set_cons_zero, List.set_cons_succ]
  refine take_one (.pointer (some ⟨X, 1, none⟩)) rfl (fun u _ => by go_simp) ?_
  simp only [Act.put, List.setIfInBounds_toArray, List.set_cons_zero, List.set_cons_succ]
  refine take_load 3 (.tmp 22) ⟨X, 1, none⟩ (.int .i64 xa) rfl rfl rfl (fun u hu => load_int _ _ _ _ (by rw [cell_of_row u X 1 _ _ _ hu]; rfl)) ?_
  simp only [Act.put, List.setIfInBounds_toArray, List.set_cons_zero, List.set_cons_succ]
  refine take_load 33 (.tmp 5) ⟨X, 0, none⟩ (.agg #[.int .i64 0, .int .i64 xa, .int .i64 xn, .string xs, .bool xr]) rfl rfl rfl (fun u hu => Hld.out u hu) ?_
  simp only [Act.put, List.setIfInBounds_toArray, List.set_cons_zero, List.set_cons_succ]
  refine take_done ?_
  refine mid_wp rfl (call_wp 23 [.tmp 18] #[33] #[.agg #[.int .i64 0, .int .i64 xa, .int .i64 xn, .string xs, .bool xr]] rfl rfl rfl ?_)
  refine (Htx.out _).mono ?_; rintro e w2 ⟨rfl, hb2⟩
  have hb12 : Below w1.heap.size w1 w2 := ((Below.refl _ w1).drew).trans hb2
  have hX1 : X < w1.heap.size := row_lt Hrow1.out
  refine ⟨_, rfl, row_below Hrow1.out hb12 hX1, ?_⟩
  simp only [Act.put, List.setIfInBounds_toArray, List.set_cons_zero, List.set_cons_succ]
  have hs12 := hb12.size
  have h2 := H1.out.new hb12
  have g2 := G1.out.new hb12
  have hrow2 := row_below Hrow1.out hb12 hX1
  refine mid_wp rfl (call_wp 13 [.tmp 15, .tmp 17, .tmp 19] #[25, 3, 9] #[.pointer (some ⟨p, 0, none⟩), .int .i64 xa, .string tx] rfl rfl rfl ?_)
  refine (write_all h2 xa hxa tx (by omega) (by omega)).mono ?_; rintro e w3 ⟨rfl, ht3, S3, hS3, h3⟩
  obtain ⟨g3, hST3⟩ := disk_on g2 hST ht3 hS3
  have hrow3 : w3.heap[X]? = _ := ht3.same hrow2 hXS
  refine ⟨_, rfl, hrow3, ?_⟩
  simp only [Act.put, List.setIfInBounds_toArray, List.set_cons_zero, List.set_cons_succ]
  refine mid_wp rfl (call_wp 23 [.tmp 24] #[33] #[.agg #[.int .i64 0, .int .i64 xa, .int .i64 xn, .string xs, .bool xr]] rfl rfl rfl ?_)
  refine (Htx.out _).mono ?_; rintro e w4 ⟨rfl, hb4⟩
  have hX3 : X < w3.heap.size := row_lt hrow3
  have hrow4 := row_below hrow3 hb4 hX3
  refine ⟨_, rfl, hrow4, ?_⟩
  simp only [Act.put, List.setIfInBounds_toArray, List.set_cons_zero, List.set_cons_succ]
  have h4 := h3.new hb4
  have g4 := g3.new hb4
  have hs34 := hb4.size
  have hs23 := ht3.size
  refine mid_wp rfl (call_wp 34 [.tmp 21, .tmp 23, .tmp 25] #[30, 3, 9] #[.pointer (some ⟨q, 0, none⟩), .int .i64 xa, .string tx] rfl rfl rfl ?_)
  refine (refWrite_all g4 xa hxa tx (by omega) (by omega)).mono ?_; rintro e w5 ⟨rfl, ht5, T5, hT5, g5⟩
  obtain ⟨h5, hST5⟩ := ref_on h4 hST3 ht5 hT5
  have hrow5 : w5.heap[X]? = _ := ht5.same hrow4 hXT
  refine ⟨_, rfl, hrow5, ?_⟩
  simp only [Act.put, List.setIfInBounds_toArray, List.set_cons_zero, List.set_cons_succ]
  refine mid_one (w' := w5) (.bool ((Dsk.write d xa tx.data.toList).2 == (Dsk.write r xa tx.data.toList).2)) rfl (by go_simp) hrow5 ?_
  simp only [Act.put, List.setIfInBounds_toArray, List.set_cons_zero, List.set_cons_succ]
  refine mid_list ?_
  have t3 : Turns (fun j => S j ∨ T j) w1 w3 := (Turns.of_new hb12 _).trans (ht3.mono (T := fun j => S j ∨ T j) (fun j _ e => .inl e)) (fun j _ e => e)
  have t5 : Turns (fun j => S j ∨ T j ∨ w1.heap.size ≤ j) w3 w5 := (Turns.of_new hb4 _).trans (ht5.mono (T := fun j => S j ∨ T j ∨ w1.heap.size ≤ j) (fun j _ e => .inr (.inl e))) (fun j _ e => e)
  have hfin : DoesSays S T p q d r ⟨0, xa, xn, xs, xr⟩ w (.returned (.bool ((Dsk.write d xa tx.data.toList).2 == (Dsk.write r xa tx.data.toList).2))) w5 := by
    refine does_pack Hb1.out t3 t5 (S' := S3) (T' := T5) (fun j hj => ?_) (fun j hj => ?_) hST5 ?_ ?_ (fun e => by rw [e]; simp)
    · rcases hS3 j hj with h | h
      · exact .inl h
      · exact .inr (by omega)
    · rcases hT5 j hj with h | h
      · exact .inl h
      · exact .inr (by omega)
    · unfold Dsk.does; rw [if_pos rfl, Htt.out]; exact h5
    · unfold Dsk.does; rw [if_pos rfl, Htt.out]; exact g5
  have Hfin := Lib.hid hfin; clear hfin
  clear t3 t5 hrow5 hST5 h5 g5 hT5 ht5 hs23 hs34 g4 h4 hrow4 hX3 hb4 hrow3 hST3 g3 h3 hS3 ht3 hrow2 g2 h2 hs12 hX1 hb12 hb2
  go_wp2
  apply NoPanic.normal
  go_wp2
  go_ret
  exact Hfin.out
end
end Go.Proofs.Ytjlkppdailkanaa
