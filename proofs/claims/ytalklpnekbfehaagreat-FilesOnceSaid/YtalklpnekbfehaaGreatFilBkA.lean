/- Put together of: FilBack FilCrP FilCrI FilCrJ -/
import Derived.Test.YtalklpnekbfehaaGreatFilAlA
import Derived.Test.YtalklpnekbfehaaGreatFilSame
import Derived.Test.YtalklpnekbfehaaGreatFilArA
set_option maxRecDepth 100000
/-
  Plain mathematics: files that are opened behind a crash; what a failed Commit leaves.
-/
set_option linter.unusedVariables false
set_option maxRecDepth 100000
namespace Go.Proofs.YtalklpnekbfehaaGreat
namespace Dsk
theorem write_fell (d : St) (a : Int) (s : List UInt8) (h : (write d a s).2 = 40) : (write d a s).1.down = true := by
  unfold write at h ⊢
  split
  · rename_i hd; exact hd
  · rename_i hd
    rw [if_neg hd] at h
    split
    · rename_i hb; rw [if_pos hb] at h; exact absurd h (by show ¬ ((2 : Int) = 40); decide)
    · rename_i hb
      rw [if_neg hb] at h
      simp only at h ⊢
      split at h
      · assumption
      · exact absurd h (by decide)
theorem flush_fell (d : St) (h : (flush d).2 = 40) : (flush d).1.down = true := by
  unfold flush at h ⊢
  split
  · rename_i hd; exact hd
  · rename_i hd; rw [if_neg hd] at h; exact absurd h (by show ¬ ((0 : Int) = 40); decide)
end Dsk
namespace Wal
open Dsk
theorem one_fell (d : Dsk.St) (o : Op) (h : (one d o).2 = 40) : (one d o).1.down = true := by
  cases o with
  | wr a s => exact write_fell d a s h
  | fl => exact flush_fell d h
theorem steps_fell : ∀ (L : List Op) (d : Dsk.St), (steps L d).2 = 40 → (steps L d).1.down = true
  | [], d, h => absurd h (by show ¬ ((0 : Int) = 40); decide)
  | o :: r, d, h => by
    unfold steps at h ⊢
    split
    · rename_i hz; rw [if_pos hz] at h; exact steps_fell r _ h
    · rename_i hz; rw [if_neg hz] at h; exact one_fell d o h
theorem append_fell {d : Dsk.St} {s : St} (he : s.err = 0) (l : Grp) (h : (append d s l).2.2 = 40) : (append d s l).1.down = true := by
  unfold append at h ⊢
  rw [if_neg (fun e => e he)] at h ⊢
  by_cases h1 : (Oct.row l).2 ≠ 0
  · rw [if_pos h1] at h
    exfalso
    have h : (Oct.row l).2 = 40 := h
    unfold Oct.row at h
    split at h
    · exact absurd h (by show ¬ ((0 : Int) = 40); decide)
    · exact absurd h (by show ¬ ((5 : Int) = 40); decide)
  rw [if_neg h1] at h ⊢
  split
  · rename_i h2; rw [if_pos h2] at h; exact absurd h (by show ¬ ((4 : Int) = 40); decide)
  · rename_i h2; rw [if_neg h2] at h; exact steps_fell _ _ h
theorem reset_fell {d : Dsk.St} {s : St} (he : s.err = 0) (h : (reset d s).2.2 = 40) : (reset d s).1.down = true := by
  unfold reset at h ⊢
  rw [if_neg (fun e => e he)] at h ⊢
  exact steps_fell _ _ h
theorem append_okB {d : Dsk.St} {s : St} {m : Nat} (h : s.Ok m) (l : Grp) : (append d s l).2.1.Ok m := by
  have o1 := h.used
  have o2 := h.lo
  have o3 := h.hi
  have o4 := h.m
  have o5 := h.len
  unfold append
  split
  · exact h
  · split
    · exact h
    · rename_i hr
      split
      · exact h
      · rename_i hk
        simp only []
        split
        · have hp := secs_pos (Oct.row l).1
          refine ⟨h.gen, by show s.used + _ ≤ s.n - 1; omega, h.lo, h.hi, h.m, by show (s.L ++ [l]).length ≤ s.used + _; rw [List.length_append]; simp; omega, fun x hx => ?_, h.err⟩
          rcases List.mem_append.1 hx with hx | hx
          · exact h.fine x hx
          · simp at hx; subst hx
            refine ⟨by simpa using hr, ?_⟩
            have : secs (Oct.row x).1 ≤ 16384 := by omega
            unfold secs whole at this
            omega
        · exact ⟨h.gen, h.used, h.lo, h.hi, h.m, h.len, h.fine, steps_err _ _⟩
theorem reset_okB {d : Dsk.St} {s : St} {m : Nat} (h : s.Ok m) : (reset d s).2.1.Ok m := by
  unfold reset
  split
  · exact h
  · simp only []
    split
    · exact ⟨up_ltB _, Nat.zero_le _, h.lo, h.hi, h.m, by simp, fun l hl => by simp at hl, h.err⟩
    · exact ⟨h.gen, h.used, h.lo, h.hi, h.m, h.len, h.fine, steps_err _ _⟩
where up_ltB (g : Nat) : up g < 18446744073709551616 := Nat.mod_lt _ (by decide)
end Wal
namespace Fil
open Dsk
theorem rw_fell {d : Dsk.St} {s : Wal.St} (he : s.err = 0) (f : Nat) (r : Row) (a g : Nat) : ∀ k, rwE d s f r a g k = 40 → (rwD d s f r a g (k + 1)).down = true
  | 0, h => Dsk.write_fell _ _ _ h
  | 1, h => Dsk.flush_fell _ h
  | 2, h => Dsk.write_fell _ _ _ h
  | 3, h => Dsk.flush_fell _ h
  | 4, h => Wal.reset_fell he h
  | k + 5, h => absurd h (by show ¬ ((0 : Int) = 40); decide)
theorem rewr_fell {d : Dsk.St} {s : Wal.St} (he : s.err = 0) (t : St) (r : Row) (h : (rewr d s t r).2.2.2 = 40) : (rewr d s t r).1.down = true := by
  obtain ⟨f, hf⟩ : ∃ f, f = arAt t.n + (1 - t.a) * arN t.n := ⟨_, rfl⟩
  obtain ⟨E, hE⟩ : ∃ E, E = rwE d s f r (1 - t.a) (Wal.up s.gen) := ⟨_, rfl⟩
  have h1 : err E 6 = 40 := by rw [hE, hf]; exact h
  show (rwD d s (arAt t.n + (1 - t.a) * arN t.n) r (1 - t.a) (Wal.up s.gen) (at_ (rwE d s (arAt t.n + (1 - t.a) * arN t.n) r (1 - t.a) (Wal.up s.gen)) 6)).down = true
  rw [← hf, ← hE]
  unfold err at h1
  unfold at_
  split
  · rename_i e; rw [if_pos e] at h1; exact absurd h1 (by decide)
  · rename_i e
    rw [if_neg e] at h1
    refine rw_fell he f r (1 - t.a) (Wal.up s.gen) _ ?_
    rw [← hE]; exact h1
theorem commit_fell {d : Dsk.St} {s : Wal.St} {t : St} {o : Option (Nat × Nat)} {rb : Row} {xs : List Chb} (hl : Live d s t o rb xs) (l : List Chb) (h : (commit d s t l).2.2.2 = 40) : (commit d s t l).1.down = true := by
  unfold commit at h ⊢
  rw [if_neg (fun e => e hl.err)] at h ⊢
  split
  · rename_i h1; rw [if_pos h1] at h; exact absurd h (by show ¬ ((2 : Int) = 40); decide)
  rename_i h1
  rw [if_neg h1] at h
  split
  · rename_i h2; rw [if_pos h2] at h; exact absurd h (by show ¬ ((4 : Int) = 40); decide)
  rename_i h2
  rw [if_neg h2] at h
  have h : (store d s t (grpOf l) (puts t.r (chs l))).2.2.2 = 40 := h
  show (store d s t (grpOf l) (puts t.r (chs l))).1.down = true
  unfold store at h ⊢
  split
  · rename_i h45
    obtain ⟨a1, a2⟩ := append_45 hl.g.log.ok (grpOf l) h45
    rw [if_pos h45, a1, a2] at h
    rw [a1, a2]
    exact rewr_fell hl.e t _ h
  · rename_i h45
    rw [if_neg h45] at h
    exact Wal.append_fell hl.e _ h
/-- the log, as memory has it, may be -/
theorem commit_sok {d : Dsk.St} {s : Wal.St} {t : St} {m : Nat} (hs : s.Ok m) (l : List Chb) : (commit d s t l).2.1.Ok m := by
  unfold commit
  split
  · exact hs
  split
  · exact hs
  split
  · exact hs
  show (store d s t (grpOf l) (puts t.r (chs l))).2.1.Ok m
  unfold store
  split
  · rename_i h45
    obtain ⟨a1, a2⟩ := append_45 hs (grpOf l) h45
    rw [a1, a2]
    show (rwS d s _ _ _ _ _).Ok m
    generalize at_ _ _ = k
    match k with
    | 0 => exact hs
    | 1 => exact hs
    | 2 => exact hs
    | 3 => exact hs
    | 4 => exact hs
    | k + 5 => exact Wal.reset_okB hs
  · exact Wal.append_okB hs _
/-- files that a crash left are opened -/
theorem opn_back {d : Dsk.St} {s : Wal.St} {o : Option (Nat × Nat)} {rb : Row} {xs : List Chb} {r : Row} (h : FG d s o rb xs r) (hL : d.L = []) (hu : Up d) (he : s.err = 0) (hg : s.gen + 1 < 18446744073709551616) :
    ∃ d' s' t' xs', opn d = (d', some (s', t'), 0) ∧ Live d' s' t' o rb xs' ∧ t'.r = r ∧ t'.n = d.n ∧ s'.gen ≤ s.gen + 1 ∧ Up d' ∧ d'.n = d.n ∧ d'.ops ≤ d.ops + 1 := by
  obtain ⟨h1, h2, h3, h4⟩ := opn_fg h hL hu.1 he
  have h4' : (Wal.open_ d 1 (logN d.n : Nat)).1 = some s := by rw [h4]
  have hop := fo_done4 h1 (by rw [h2]; exact h3) h4'
  rw [h2] at hop
  rcases h.gen with ⟨e1, e2⟩ | ⟨e1, e2⟩
  · have hr : replay d s (gOf o) rb = (d, s, r, 0) := by
      unfold replay
      rw [h.dec]
      simp only
      rw [if_pos e1, ← e2]
    rw [hr, if_pos rfl] at hop
    exact ⟨d, s, _, xs, hop, ⟨h, he, e1, rfl⟩, rfl, rfl, Nat.le_succ _, hu, rfl, Nat.le_succ _⟩
  · have hr : replay d s (gOf o) rb = ((Wal.reset d s).1, (Wal.reset d s).2.1, rb, (Wal.reset d s).2.2) := by
      unfold replay
      rw [h.dec]
      simp only
      rw [if_neg (by omega), if_pos (by omega)]
    have hup := Wal.reset_up hu he
    have hi := Wal.reset_in (m := d.n) h.log.ok h.ok hL
    have hops := Wal.reset_ops d s
    have hgen : Wal.up s.gen = s.gen + 1 := Nat.mod_eq_of_lt hg
    rcases Wal.reset_good h.log with ⟨hG, ⟨z, _, s5, l5, g5, f5, n5⟩ | ⟨z, _⟩⟩
    · rw [hgen] at g5
      rw [hr, z, if_pos rfl] at hop
      have hfg := h.turn hi hG f5 n5 (xs' := []) (r' := r) (by rw [l5]; rfl) (.inl ⟨by rw [g5, e1]; exact Nat.le_refl _, e2⟩)
      have hn := hi.n
      refine ⟨_, _, _, [], hop, ⟨?_, s5, by rw [g5, e1]; exact Nat.le_refl _, ?_⟩, e2.symm, rfl, by rw [g5]; exact Nat.le_refl _, hup.1, hn, hops⟩
      · have e : rb = r := e2.symm
        show FG _ _ o rb [] rb
        rw [← e2] at hfg ⊢
        exact hfg
      · show St.mk _ _ _ _ _ _ = _
        rw [hn]
    · have a1 := reset_err he z
      have a2 := hG.err
      have a3 := hup.2
      omega
theorem fuse_fg {d : Dsk.St} {s : Wal.St} {o : Option (Nat × Nat)} {rb : Row} {xs : List Chb} {r : Row} (h : FG d s o rb xs r) (n : Int) (hn : -9223372036854775808 ≤ n ∧ n ≤ 9223372036854775807) : FG { d with fuse := n } s o rb xs r :=
  ⟨⟨h.ok.lo, h.ok.hi, h.ok.fl, h.ok.at_, h.ok.sz, hn⟩, h.n8, Wal.fuse_good h.log n, h.from_, h.sn, h.hd, h.base, h.loose, h.dec, h.gen⟩
theorem fuse_live {d : Dsk.St} {s : Wal.St} {t : St} {o : Option (Nat × Nat)} {rb : Row} {xs : List Chb} (h : Live d s t o rb xs) (n : Int) (hn : -9223372036854775808 ≤ n ∧ n ≤ 9223372036854775807) : Live { d with fuse := n } s t o rb xs :=
  ⟨fuse_fg h.g n hn, h.e, h.q, h.t⟩
theorem opn_down {d : Dsk.St} (h : d.down = true) : opn d = (d, none, 40) := by
  unfold opn mkE
  rw [if_pos h, if_pos (by decide)]
end Fil
end Go.Proofs.YtalklpnekbfehaaGreat

/-
  The document's files beside open ones, a slice of changes that is copied, files that are opened behind a crash, and what holds between the steps of a script.
-/
set_option linter.unusedVariables false
set_option maxRecDepth 100000
namespace Go.Proofs.YtalklpnekbfehaaGreat
open Go.RowKit

def Off3 (S R : Nat → Prop) (p j : Nat) : Prop := ¬ S j ∧ ¬ R j ∧ j ≠ p
/-- the document's files in block pr; they lie apart from the disk, the log and the open files -/
structure DocO (S R : Nat → Prop) (p pr n : Nat) (l : List (ByteArray × ByteArray)) (W : World) : Prop where
  ex : ∃ a cap, W.heap[pr]? = some (docF (.slice a l.length cap) n) ∧ FlsAt a l.length l W ∧ Off3 S R p pr ∧ ∀ b off, 0 < l.length → a = some ⟨b, off, none⟩ → Off3 S R p b
section
variable {S R S' R' T : Nat → Prop} {p p' pr n : Nat} {l : List (ByteArray × ByteArray)} {W W' : World}
theorem DocO.at_ (h : DocO S R p pr n l W) : DocAt pr n l W := by
  obtain ⟨a, cap, h1, h2, _⟩ := h.ex
  exact ⟨⟨a, cap, h1, h2⟩⟩
theorem DocO.step (h : DocO S R p pr n l W) (ht : Turns T W W') (hT : ∀ j, j < W.heap.size → Off3 S R p j → ¬ T j) (hO : ∀ j, j < W.heap.size → Off3 S R p j → Off3 S' R' p' j) : DocO S' R' p' pr n l W' := by
  obtain ⟨a, cap, h1, h2, h3, h4⟩ := h.ex
  have hp := row_lt h1
  refine ⟨⟨a, cap, ht.same h1 (hT _ hp h3), ⟨h2.1, fun j hj => ?_⟩, hO _ hp h3, fun b off h0 e => ?_⟩⟩
  · obtain ⟨b, off, e, c1, c2⟩ := h2.2 j hj
    have hb := cell_lt c1
    have e2 := ht.block b hb (hT b hb (h4 b off (by omega) e))
    exact ⟨b, off, e, by rw [World.cell?_of_block e2]; exact c1, by rw [World.cell?_of_block e2]; exact c2⟩
  · obtain ⟨b2, off2, e2, c1, _⟩ := h2.2 0 h0
    rw [e] at e2
    obtain ⟨rfl, rfl⟩ : b = b2 ∧ off = off2 := by simpa using e2
    exact hO _ (cell_lt c1) (h4 b off h0 e)
theorem DocO.new (h : DocO S R p pr n l W) (hb : Below W.heap.size W W') : DocO S R p pr n l W' :=
  h.step (Turns.of_new hb (fun _ => False)) (fun _ _ _ e => e) (fun _ _ e => e)
/-- beside a Commit -/
theorem DocO.commit {N' q pw bm' : Nat} {d' : Dsk.St} {s' : Wal.St} {t' : Fil.St} (h : DocO S R p pr n l W) (k : Sys W (fun j => S j ∨ R j ∨ j = p) N' S' R' p q pw bm' d' s' t' W') : DocO S' R' p pr n l W' := by
  refine h.step k.a.turns (fun j hj ho e => ?_) (fun j hj ho => ⟨fun e => ?_, fun e => ?_, ho.2.2⟩)
  · rcases e.elim id id with e | e | e
    · exact ho.1 e
    · exact ho.2.1 e
    · exact ho.2.2 e
  · rcases k.a.loS j e with (e | e | e) | e
    · exact ho.1 e
    · exact ho.2.1 e
    · exact ho.2.2 e
    · omega
  · rcases k.a.loR j e with (e | e | e) | e
    · exact ho.1 e
    · exact ho.2.1 e
    · exact ho.2.2 e
    · omega
/-- beside what turns the disk alone -/
theorem DocO.disk (h : DocO S R p pr n l W) (ht : Turns S W W') (hS : ∀ j, S' j → S j ∨ W.heap.size ≤ j) : DocO S' R p pr n l W' :=
  h.step ht (fun j _ ho => ho.1) (fun j hj ho => ⟨fun e => by
    rcases hS j e with e | e
    · exact ho.1 e
    · omega, ho.2⟩)
/-- other files are open now -/
theorem DocO.open_ {kept : List (Nat × Obj)} {q pw : Nat} {d' : Dsk.St} {s' : Wal.St} (h : DocO S R p pr n l W) (hA : Apn W S S kept S' R' pw q d' s' W') (hp : W.heap.size ≤ p') : DocO S' R' p' pr n l W' :=
  h.step hA.turns (fun j _ ho e => ho.1 (e.elim id id)) (fun j hj ho => ⟨fun e => by
    rcases hA.loS j e with e | e
    · exact ho.1 e
    · omega, fun e => by
    rcases hA.loR j e with e | e
    · exact ho.1 e
    · omega, by omega⟩)
/-- a row that was just made -/
theorem DocO.made {px : Nat} {a : Option Addr} {cap : Nat} {l X : List (ByteArray × ByteArray)} (hX : DocTo px n a l X W W') (hSl : ∀ j, S j → j < W.heap.size) (hRl : ∀ j, R j → j < W.heap.size) (hpl : p < W.heap.size) (hpx : Off3 S R p px) (ha : ∀ b off, 0 < l.length → a = some ⟨b, off, none⟩ → Off3 S R p b) : DocO S R p px n X W' := by
  obtain ⟨a', cap', h1, h2, h3⟩ := hX
  refine ⟨⟨a', cap', h1, h2, hpx, fun b off h0 e => ?_⟩⟩
  rcases h3 with ⟨rfl, rfl⟩ | h3
  · exact ha b off h0 e
  · have := h3 b off e
    exact ⟨fun e => by have := hSl b e; omega, fun e => by have := hRl b e; omega, by omega⟩
end

/-- append of changes of the argument to none -/
theorem run_append_chgs {la : Option Addr} {n lc : Nat} {l : List Chb} {w : World} (h : Chgs la n l w) (hz : la = none → lc = 0) (hn : n ≤ 3518437208883) :
    ∃ v' w', (Builtin.append_ #[43, 43] 43 #[.slice none 0 0, .slice la n lc]).run Tryz.prog w = .ok v' w' ∧ COwn w.heap.size v' l w' ∧ Below w.heap.size w w' := by
  obtain ⟨i0, hi, hz0, hz1, hz2⟩ := info_parts chg_info
  have hl := h.1
  have hlf : (l.flatMap Chb.cells).length = n * 3 := by
    rw [← hl]
    clear hl h
    induction l with
    | nil => rfl
    | cons x r ih => rw [List.flatMap_cons, List.length_append, ih]; simp [Chb.cells]; omega
  cases la with
  | none =>
    have hn0 : n = 0 := by
      rcases Nat.eq_zero_or_pos n with e | e
      · exact e
      · obtain ⟨b, off, hb, _⟩ := h.2 0 e; cases hb
    subst hn0
    have hl0 : l = [] := List.eq_nil_of_length_eq_zero hl
    subst hl0
    rw [hz rfl]
    exact ⟨_, w, run_append_owned_none (P := Tryz.prog) (w := w) w.heap.size 43 43 58 i0 3 Tryz.underlying43 hi (.slice none 0 0) 0 [] (World.ownsRow_nil _ _ _ _), World.ownsRow_nil _ _ _ _, Below.refl _ _⟩
  | some ad =>
    have had : ∀ j u, (l.flatMap Chb.cells)[j]? = some u → w.cell? (ad.add j) = some u := fun j u hu => by
      obtain ⟨hj, _⟩ := List.getElem?_eq_some_iff.1 hu
      have hj3 : j / 3 < n := by omega
      obtain ⟨b, off, hb, hc⟩ := h.2 (j / 3) hj3
      obtain rfl : ad = ⟨b, off, none⟩ := by simpa using hb
      have hx : l[j / 3]? = some (l.getD (j / 3) default) := by rw [List.getD_eq_getElem?_getD, List.getElem?_eq_getElem (by omega)]; rfl
      have hm : j % 3 = 0 ∨ j % 3 = 1 ∨ j % 3 = 2 := by omega
      have ea : (⟨b, off, none⟩ : Addr).add j = ⟨b, off + j, none⟩ := by cases j <;> simp [Addr.add]
      rw [ea]
      rcases hm with e | e | e
      · have := cells_at l (j / 3) _ hx 0 _ rfl
        rw [show j / 3 * 3 + 0 = j by omega] at this
        rw [hu] at this
        cases this
        have := hc.n
        rw [show off + j / 3 * 3 = off + j by omega] at this
        exact this
      · have := cells_at l (j / 3) _ hx 1 _ rfl
        rw [show j / 3 * 3 + 1 = j by omega] at this
        rw [hu] at this
        cases this
        have := hc.d
        rw [show off + j / 3 * 3 + 1 = off + j by omega] at this
        exact this
      · have := cells_at l (j / 3) _ hx 2 _ rfl
        rw [show j / 3 * 3 + 2 = j by omega] at this
        rw [hu] at this
        cases this
        have := hc.g
        rw [show off + j / 3 * 3 + 2 = off + j by omega] at this
        exact this
    obtain ⟨v', w', hr, h2, h3, _, h5⟩ := run_append_own_at (P := Tryz.prog) (w := w) w.heap.size 43 43 58 i0 (.agg #[.string ⟨#[]⟩, .string ⟨#[]⟩, .bool false]) 3 40 Tryz.underlying43 hi hz0 hz1 hz2 rfl (by decide) (.slice none 0 0) 0 [] (World.ownsRow_nil _ _ _ _) ad n lc (l.flatMap Chb.cells) hlf had (fun u hu => by
      obtain ⟨x, _, hx⟩ := List.mem_flatMap.1 hu
      simp [Chb.cells] at hx
      rcases hx with rfl | rfl | rfl <;> rfl) (by unfold maxLen; omega) (by omega) (Nat.le_refl _)
    refine ⟨v', w', hr, ?_, below_of_grown h3 (fun k hk => by simp [Value.ownBlock] at hk)⟩
    unfold COwn
    rw [hl]
    simpa using h2

theorem fopen_back {w : World} {S : Nat → Prop} {q : Nat} {d : Dsk.St} {s : Wal.St} {o : Option (Nat × Nat)} {rb : Fil.Row} {xs : List Chb} {r : Fil.Row} (h : DiskAt S q d w) (hg : Fil.FG d s o rb xs r) (hL : d.L = []) (hu : Dsk.Up d) (he : s.err = 0) (hgen : s.gen + 1 < 18446744073709551616) (hops : d.ops ≤ 999000000) :
    Calls Tryz.prog 18 #[.pointer (some ⟨q, 0, none⟩)] w fun e V => ∃ p S' R' pw bm d' s' t' xs', e = .returned (.tuple #[.pointer (some ⟨p, 0, none⟩), .int .i64 0]) ∧ w.heap.size ≤ p ∧ Apn w S S [(p, objF (fcells t' q pw bm))] S' R' pw q d' s' V ∧ (∃ nn, nn ≤ 21000000000 ∧ ContAt bm nn t'.r V) ∧ ¬ S' bm ∧ ¬ R' bm ∧ bm ≠ p ∧
      Fil.Live d' s' t' o rb xs' ∧ t'.r = r ∧ t'.n = d.n ∧ s'.gen ≤ s.gen + 1 ∧ Dsk.Up d' ∧ d'.n = d.n ∧ d'.ops ≤ d.ops + 1 := by
  obtain ⟨h1, h2, h3, h4⟩ := Fil.opn_fg hg hL hu.1 he
  obtain ⟨d', s', t', xs', e1, e2, e3, e4, e5, e6, e7, e8⟩ := Fil.opn_back hg hL hu he hgen
  refine (fopen_any (m := d.n) h hg.n8 hops (fun s' hs' => ?_)).mono ?_
  · rw [h4] at hs'
    obtain rfl : s = s' := by simpa using hs'
    exact ⟨hg.log.ok, fun l hl' => Wal.slim_of_row (hg.log.ok.fine l hl').1⟩
  · intro e V hF
    unfold FoR at hF
    rw [e1] at hF
    obtain ⟨p, S', R', pw, bm, f1, f2, f3, f4, f5, f6, f7⟩ := hF
    exact ⟨p, S', R', pw, bm, d', s', t', xs', f1, f2, f3, f4, f5, f6, f7, e2, e3, e4, e5, e6, e7, e8⟩
theorem fopen_gone {w : World} {S : Nat → Prop} {q : Nat} {d : Dsk.St} (h : DiskAt S q d w) (h8 : 8 ≤ d.n) (hd : d.down = true) (hops : d.ops ≤ 999000000) :
    Calls Tryz.prog 18 #[.pointer (some ⟨q, 0, none⟩)] w fun e V => e = .returned (.tuple #[.pointer none, .int .i64 40]) ∧ ∃ S', DiskAt S' q d V ∧ (∀ j, S' j → S j ∨ w.heap.size ≤ j) ∧ Turns S w V := by
  refine (fopen_any (m := d.n) h h8 hops (fun s' hs' => ?_)).mono ?_
  · exfalso
    unfold Wal.open_ at hs'
    split at hs'
    · simp at hs'
    · first
        | (rw [if_pos hd] at hs'; simp at hs')
        | simp at hs'
  · intro e V hF
    unfold FoR at hF
    rw [Fil.opn_down hd] at hF
    exact hF

/-- what a Commit of both comes to -/
theorem docCm_is {d : Dsk.St} {s : Wal.St} {t : Fil.St} {o : Option (Nat × Nat)} {rb : Fil.Row} {xs : List Chb} {n : Nat} {lr : List (ByteArray × ByteArray)} {L : List Chb} (h : Fil.Live d s t o rb xs) (hg : s.gen + 1 < 18446744073709551616) (hr : fls lr = t.r) (hn : t.n = n) :
    (L.any Chb.bad = true ∧ docCm n lr L = (lr, 2) ∧ Fil.commit d s t L = (d, s, t, 2)) ∨
    (L.any Chb.bad = false ∧ docCm n lr L = (lr, 4) ∧ Fil.commit d s t L = (d, s, t, 4)) ∨
    (L.any Chb.bad = false ∧ docCm n lr L = (dputs lr L, 0) ∧ fls (dputs lr L) = Fil.puts t.r (chs L) ∧ Fil.sum (fls (dputs lr L)) ≤ Fil.arN n * 64 ∧ (Fil.commit d s t L).2.2.2 = 0 ∧ (∃ o' rb' xs', Fil.Live (Fil.commit d s t L).1 (Fil.commit d s t L).2.1 (Fil.commit d s t L).2.2.1 o' rb' xs') ∧ (Fil.commit d s t L).2.2.1.r = Fil.puts t.r (chs L) ∧ (Fil.commit d s t L).2.2.1.n = n ∧ (Fil.commit d s t L).2.1.gen ≤ s.gen + 1) ∨
    (L.any Chb.bad = false ∧ docCm n lr L = (dputs lr L, 0) ∧ fls (dputs lr L) = Fil.puts t.r (chs L) ∧ Fil.sum (fls (dputs lr L)) ≤ Fil.arN n * 64 ∧ (Fil.commit d s t L).2.2.2 = 40 ∧ (Fil.commit d s t L).1.down = true ∧ (Fil.commit d s t L).2.2.1.err = 40 ∧ (Fil.commit d s t L).2.2.1.r = t.r ∧ (Fil.commit d s t L).2.2.1.n = n ∧ (Fil.commit d s t L).2.2.1.a < 2 ∧ ∃ g o' rb' xs' r', Fil.FG (Fil.commit d s t L).1 g o' rb' xs' r' ∧ (r' = t.r ∨ r' = Fil.puts t.r (chs L)) ∧ g.gen ≤ s.gen) := by
  have hc := Fil.commit_live h hg L
  have hfell := Fil.commit_fell h L
  have hsr : Fil.Sorted (fls lr) := by rw [hr]; exact h.g.rows.1
  have hp : fls (dputs lr L) = Fil.puts t.r (chs L) := by rw [fls_puts L lr hsr, hr]
  have hu : ∀ a b : Nat, Fil.used (Fil.puts t.r (chs L)) = 4 + Fil.sum (Fil.puts t.r (chs L)) := fun _ _ => rfl
  generalize hF : Fil.commit d s t L = F at *
  cases hc with
  | bad hb => exact .inl ⟨hb, by unfold docCm; rw [if_pos hb], rfl⟩
  | full hb hf =>
    refine .inr (.inl ⟨hb, ?_, rfl⟩)
    unfold docCm
    rw [if_neg (by rw [hb]; decide), if_pos (by rw [hp, ← hn]; exact hf)]
  | done hb hf hl' hr' hn' hg' =>
    refine .inr (.inr (.inl ⟨hb, ?_, hp, ?_, rfl, ⟨_, _, _, hl'⟩, hr', hn'.trans hn, hg'⟩))
    · unfold docCm
      rw [if_neg (by rw [hb]; decide), if_neg (by rw [hp, ← hn]; omega)]
    · rw [hp]; have := hu 0 0; rw [← hn]; omega
  | down hb hf hfg hr' hg' he ht hn' ha =>
    refine .inr (.inr (.inr ⟨hb, ?_, hp, ?_, rfl, hfell rfl, he, ht, hn'.trans hn, ha, _, _, _, _, _, hfg, hr', hg'⟩))
    · unfold docCm
      rw [if_neg (by rw [hb]; decide), if_neg (by rw [hp, ← hn]; omega)]
    · rw [hp]; have := hu 0 0; rw [← hn]; omega
end Go.Proofs.YtalklpnekbfehaaGreat

/-
  What holds between the steps of a script with crashes.
-/
set_option linter.unusedVariables false
set_option maxRecDepth 100000
namespace Go.Proofs.YtalklpnekbfehaaGreat
open Go.RowKit

/-- files are open on a disk that goes on; or a Commit failed, and the disk stands still -/
def CrM (n k : Nat) (d : Dsk.St) (s : Wal.St) (t : Fil.St) (ln : List (ByteArray × ByteArray)) : Prop :=
  (t.err = 0 ∧ fls ln = t.r ∧ s.gen ≤ k ∧ ∃ o rb xs, Fil.Live d s t o rb xs) ∨
  (t.err = 40 ∧ d.down = true ∧ s.Ok n ∧ ∃ g o rb xs r', Fil.FG d g o rb xs r' ∧ (r' = t.r ∨ r' = fls ln) ∧ g.gen ≤ k)
structure CrI (W0 : World) (n k : Nat) (S R : Nat → Prop) (p q pw bm : Nat) (d : Dsk.St) (s : Wal.St) (t : Fil.St) (pr pn : Nat) (lr ln : List (ByteArray × ByteArray)) (W : World) : Prop where
  sys : Sys W0 (fun _ => False) (21000000000 + 60 * k) S R p q pw bm d s t W
  dr : DocO S R p pr n lr W
  dn : DocO S R p pn n ln W
  tn : t.n = n
  ta : t.a < 2
  rr : fls lr = t.r
  sr : Fil.sum t.r ≤ 12800
  sn : Fil.sum (fls ln) ≤ 12800
  dN : d.n = n
  ops : d.ops ≤ 50000 * k
  md : CrM n k d s t ln
section
variable {W0 W W' : World} {n k : Nat} {S R S' R' : Nat → Prop} {p q pw bm pr pn : Nat} {d : Dsk.St} {s : Wal.St} {t : Fil.St} {lr ln : List (ByteArray × ByteArray)}
theorem CrI.below (h : CrI W0 n k S R p q pw bm d s t pr pn lr ln W) : Below W0.heap.size W0 W := h.sys.a.below
theorem CrI.new (h : CrI W0 n k S R p q pw bm d s t pr pn lr ln W) (hb : Below W.heap.size W W') : CrI W0 n k S R p q pw bm d s t pr pn lr ln W' :=
  { h with sys := h.sys.new hb, dr := h.dr.new hb, dn := h.dn.new hb }
theorem CrM.up {n k : Nat} {d : Dsk.St} {s : Wal.St} {t : Fil.St} {ln : List (ByteArray × ByteArray)} (h : CrM n k d s t ln) : CrM n (k + 1) d s t ln := by
  rcases h with ⟨h1, h2, h3, h4⟩ | ⟨h1, h2, h3, g, o, rb, xs, r', h4, h5, h6⟩
  · exact .inl ⟨h1, h2, by omega, h4⟩
  · exact .inr ⟨h1, h2, h3, g, o, rb, xs, r', h4, h5, by omega⟩
theorem CrI.up (h : CrI W0 n k S R p q pw bm d s t pr pn lr ln W) : CrI W0 n (k + 1) S R p q pw bm d s t pr pn lr ln W :=
  { h with sys := h.sys.more (by omega), ops := by have := h.ops; omega, md := h.md.up }
theorem CrI.len (h : CrI W0 n k S R p q pw bm d s t pr pn lr ln W) : lr.length ≤ 1600 ∧ ln.length ≤ 1600 := by
  have h1 := Fil.len_used (fls lr)
  have h2 := Fil.len_used (fls ln)
  have h3 := h.sr
  have h4 := h.sn
  rw [← h.rr] at h3
  have e1 : (fls lr).length = lr.length := by simp [fls]
  have e2 : (fls ln).length = ln.length := by simp [fls]
  omega
/-- what the fuse is set to -/
theorem CrI.fuse (h : CrI W0 n k S R p q pw bm d s t pr pn lr ln W) (x : Int) (hx : -9223372036854775808 ≤ x ∧ x ≤ 9223372036854775807) (ht : Turns (fun j => j = q) W W') (hd : DiskAt S q { d with fuse := x } W') : CrI W0 n k S R p q pw bm { d with fuse := x } s t pr pn lr ln W' := by
  have hq : S q := h.sys.a.disk.hp
  have ht2 : Turns S W W' := ht.mono (fun j _ e => by subst e; exact hq)
  refine { h with sys := ?_, dr := h.dr.disk ht2 (fun j hj => .inl hj), dn := h.dn.disk ht2 (fun j hj => .inl hj), md := ?_ }
  · have h1 := h.sys
    obtain ⟨nn, m1, m2⟩ := h1.mp
    exact ⟨h1.a.turnDisk ht2 (fun j hj => .inl hj) hd, ⟨nn, m1, m2.turns ht2 h1.off.1⟩, h1.off, h1.pT, h1.srt, h1.fine, h1.sum⟩
  · rcases h.md with ⟨h1, h2, h3, o, rb, xs, h4⟩ | ⟨h1, h2, h3, g, o, rb, xs, r', h4, h5, h6⟩
    · exact .inl ⟨h1, h2, h3, o, rb, xs, Fil.fuse_live h4 x hx⟩
    · exact .inr ⟨h1, h2, h3, g, o, rb, xs, r', Fil.fuse_fg h4 x hx, h5, h6⟩
/-- the disk's blocks are others -/
theorem CrI.moved (h : CrI W0 n k S R p q pw bm d s t pr pn lr ln W) (ht : Turns S W W') (hS : ∀ j, S' j → S j ∨ W.heap.size ≤ j) (hd : DiskAt S' q d W') : CrI W0 n k S' R p q pw bm d s t pr pn lr ln W' := by
  have h1 := h.sys
  obtain ⟨nn, m1, m2⟩ := h1.mp
  refine { h with sys := ⟨h1.a.turnDisk ht hS hd, ⟨nn, m1, m2.turns ht h1.off.1⟩, ⟨fun e => ?_, h1.off.2⟩, h1.pT, h1.srt, h1.fine, h1.sum⟩, dr := h.dr.disk ht hS, dn := h.dn.disk ht hS }
  rcases hS _ e with e | e
  · exact h1.off.1 e
  · have := m2.lt; omega
theorem CrI.lo (h : CrI W0 n k S R p q pw bm d s t pr pn lr ln W) : ∀ j, S j → W0.heap.size ≤ j := fun j hj => by
  rcases h.sys.a.loS j hj with e | e
  · exact e.elim
  · exact e
/-- other files are open: those of r' -/
theorem CrI.opened {w1 V : World} {S1 : Nat → Prop} {p' pw' bm' pr' : Nat} {d' : Dsk.St} {s' : Wal.St} {t' : Fil.St} {l' : List (ByteArray × ByteArray)} {o : Option (Nat × Nat)} {rb : Fil.Row} {xs : List Chb} {nn : Nat}
    (hb : Below W0.heap.size W0 w1) (hlo : ∀ j, S1 j → W0.heap.size ≤ j) (hA : Apn w1 S1 S1 [(p', objF (fcells t' q pw' bm'))] S' R' pw' q d' s' V) (hp : w1.heap.size ≤ p') (hn : nn ≤ 21000000000) (hm : ContAt bm' nn t'.r V) (x1 : ¬ S' bm') (x2 : ¬ R' bm') (x3 : bm' ≠ p')
    (hl : Fil.Live d' s' t' o rb xs) (hr : fls l' = t'.r) (hsr : Fil.sum t'.r ≤ 12800) (htn : t'.n = n) (hdn : d'.n = n) (hops : d'.ops ≤ 50000 * k) (hg : s'.gen ≤ k) (hD : DocO S1 R p pr' n l' w1) : CrI W0 n k S' R' p' q pw' bm' d' s' t' pr' pr' l' l' V :=
  { sys := (Sys.opened (N := 21000000000) hA hb hlo hp hn hm x1 x2 x3 hl.g.rows.1 hl.g.rows.2 (by omega)).more (by omega)
    dr := hD.open_ hA hp
    dn := hD.open_ hA hp
    tn := htn
    ta := hl.a
    rr := hr
    sr := hsr
    sn := by rw [hr]; exact hsr
    dN := hdn
    ops := hops
    md := .inl ⟨hl.err, hr, hg, o, rb, xs, hl⟩ }
theorem CrI.sameR (h : CrI W0 n k S R p q pw bm d s t pr pn lr ln W) (hn8 : 8 ≤ n) (hn : n ≤ 200) : Calls Tryz.prog 20 #[.pointer (some ⟨p, 0, none⟩), .pointer (some ⟨pr, 0, none⟩)] W fun e w' => e = .returned (.bool true) ∧ Below W.heap.size W w' := by
  have hD : DocAt pr t.n lr W := by rw [h.tn]; exact h.dr.at_
  have := filSame_any h.sys.row hD (by rw [h.tn]; unfold Fil.arN; omega) (by have := h.len.1; omega) (by rw [h.rr]; have := h.sr; omega)
  rw [show sameF t.r lr = true from decide_eq_true h.rr.symm] at this
  exact this
/-- files that were just opened, held against the two rows -/
theorem open_same {pd : Nat} {l : List (ByteArray × ByteArray)} (hrow : FilRow p pd pw bm t W) (htn : t.n = n) (hn : n ≤ 200) (hD : DocO S R pr pn n l W) (hs : Fil.sum (fls l) ≤ 12800) : Calls Tryz.prog 20 #[.pointer (some ⟨p, 0, none⟩), .pointer (some ⟨pn, 0, none⟩)] W fun e w' => e = .returned (.bool (sameF t.r l)) ∧ Below W.heap.size W w' := by
  have hD' : DocAt pn t.n l W := by rw [htn]; exact hD.at_
  have h1 := Fil.len_used (fls l)
  have e1 : (fls l).length = l.length := by simp [fls]
  exact filSame_any hrow hD' (by rw [htn]; unfold Fil.arN; omega) (by omega) (by omega)
end
end Go.Proofs.YtalklpnekbfehaaGreat

/-
  What a Commit does to what holds between the steps of a script with crashes.
-/
set_option linter.unusedVariables false
set_option maxRecDepth 100000
namespace Go.Proofs.YtalklpnekbfehaaGreat
open Go.RowKit
namespace Wal
theorem one_n (d : Dsk.St) (o : Op) : (one d o).1.n = d.n := by
  cases o with
  | wr a s => exact Dsk.write_n d a s
  | fl => exact Dsk.flush_n d
theorem steps_n : ∀ (L : List Op) (d : Dsk.St), (steps L d).1.n = d.n
  | [], d => rfl
  | o :: r, d => by
    unfold steps
    split
    · rw [steps_n r]; exact one_n d o
    · exact one_n d o
theorem append_n (d : Dsk.St) (s : St) (l : Grp) : (append d s l).1.n = d.n := by
  unfold append
  split
  · rfl
  · split
    · rfl
    · split
      · rfl
      · simp only []
        exact steps_n _ _
theorem reset_n (d : Dsk.St) (s : St) : (reset d s).1.n = d.n := by
  unfold reset
  split
  · rfl
  · exact steps_n _ _
end Wal
namespace Fil
theorem rwD_n (d : Dsk.St) (s : Wal.St) (f : Nat) (r : Row) (a g : Nat) : ∀ k, (rwD d s f r a g k).n = d.n
  | 0 => rfl
  | 1 => Dsk.write_n _ _ _
  | 2 => (Dsk.flush_n _).trans (Dsk.write_n _ _ _)
  | 3 => (Dsk.write_n _ _ _).trans (rwD_n d s f r a g 2)
  | 4 => (Dsk.flush_n _).trans (rwD_n d s f r a g 3)
  | k + 5 => (Wal.reset_n _ _).trans (rwD_n d s f r a g 4)
theorem commit_n (d : Dsk.St) (s : Wal.St) (t : St) (l : List Chb) : (commit d s t l).1.n = d.n := by
  unfold commit
  split
  · rfl
  split
  · rfl
  split
  · rfl
  show (store d s t (grpOf l) (puts t.r (chs l))).1.n = d.n
  unfold store
  split
  · exact (rwD_n _ _ _ _ _ _ _).trans (Wal.append_n _ _ _)
  · exact Wal.append_n _ _ _
theorem arN_le (n : Nat) : arN n ≤ n := by unfold arN; omega
end Fil
section
variable {W0 W V : World} {n k : Nat} {S R S' R' : Nat → Prop} {p q pw bm bm' pr pn px : Nat} {d : Dsk.St} {s : Wal.St} {t : Fil.St} {lr ln : List (ByteArray × ByteArray)}
theorem CrI.sok (h : CrI W0 n k S R p q pw bm d s t pr pn lr ln W) : s.Ok n := by
  rcases h.md with ⟨_, _, _, o, rb, xs, hl⟩ | ⟨_, _, h3, _⟩
  · have := hl.g.log.ok; rw [h.dN] at this; exact this
  · exact h3
theorem CrI.fresh (h : CrI W0 n k S R p q pw bm d s t pr pn lr ln W) {b : Nat} (hb : W.heap.size ≤ b) : Off3 S R p b :=
  ⟨fun e => by have := h.sys.a.disk.lt b e; omega, fun e => by have := h.sys.a.wal.lt b e; omega, fun e => by have := row_lt (h.sys.a.row (b := p) (o := objF (fcells t q pw bm)) (by simp)); omega⟩
theorem CrI.crashed (h : CrI W0 n k S R p q pw bm d s t pr pn lr ln W) (keep : List UInt8) : ∃ g o rb xs r', Fil.FG (Dsk.crash d keep) g o rb xs r' ∧ g.err = 0 ∧ g.gen ≤ k ∧ (r' = t.r ∨ r' = fls ln) := by
  rcases h.md with ⟨e1, e2, e3, o, rb, xs, hl⟩ | ⟨e1, e2, e3, g, o, rb, xs, r', h4, h5, h6⟩
  · exact ⟨s, o, rb, xs, t.r, (Fil.live_crash hl keep).g, hl.e, e3, .inl rfl⟩
  · exact ⟨{ g with err := 0 }, o, rb, xs, r', Fil.crash_fg h4 keep, rfl, h6, h5⟩
theorem sys_fresh {T : Nat → Prop} {N : Nat} (h : Sys W0 T N S R p q pw bm d s t W) {b : Nat} (hb : W.heap.size ≤ b) : Off3 S R p b :=
  ⟨fun e => by have := h.a.disk.lt b e; omega, fun e => by have := h.a.wal.lt b e; omega, fun e => by have := row_lt (h.a.row (b := p) (o := objF (fcells t q pw bm)) (by simp)); omega⟩
theorem CrI.commit {L : List Chb} (h : CrI W0 n k S R p q pw bm d s t pr pn lr ln W) (hk : k ≤ 60) (h60 : L.length ≤ 60) (hn : n ≤ 200)
    (hS : Sys W0 (fun _ => False) (21000000000 + 60 * k + L.length) S' R' p q pw bm' (Fil.commit d s t L).1 (Fil.commit d s t L).2.1 (Fil.commit d s t L).2.2.1 V)
    (hR : DocO S' R' p pr n lr V) (hN : DocO S' R' p pn n ln V) (hX : DocO S' R' p px n (docCm n lr L).1 V) :
    (t.err = 40 ∧ (Fil.commit d s t L).2.2.2 = 40 ∧ CrI W0 n (k + 1) S' R' p q pw bm' (Fil.commit d s t L).1 (Fil.commit d s t L).2.1 (Fil.commit d s t L).2.2.1 pr pn lr ln V) ∨
    (t.err = 0 ∧ (Fil.commit d s t L).2.2.2 = 40 ∧ (docCm n lr L).2 = 0 ∧ CrI W0 n (k + 1) S' R' p q pw bm' (Fil.commit d s t L).1 (Fil.commit d s t L).2.1 (Fil.commit d s t L).2.2.1 pr px lr (docCm n lr L).1 V) ∨
    (t.err = 0 ∧ (Fil.commit d s t L).2.2.2 = (docCm n lr L).2 ∧ (docCm n lr L).2 ≠ 40 ∧ CrI W0 n (k + 1) S' R' p q pw bm' (Fil.commit d s t L).1 (Fil.commit d s t L).2.1 (Fil.commit d s t L).2.2.1 px px (docCm n lr L).1 (docCm n lr L).1 V) := by
  have hS2 : Sys W0 (fun _ => False) (21000000000 + 60 * (k + 1)) S' R' p q pw bm' (Fil.commit d s t L).1 (Fil.commit d s t L).2.1 (Fil.commit d s t L).2.2.1 V := hS.more (by omega)
  have hcn := Fil.commit_n d s t L
  have hok := h.ops
  have hA := Fil.arN_le n
  rcases h.md with ⟨e1, e2, e3, o, rb, xs, hl⟩ | ⟨e1, e2, e3, g, o, rb, xs, r', h4, h5, h6⟩
  · right
    have hops := Fil.commit_ops hl L
    have hso := Fil.commit_sok (d := d) (t := t) h.sok L
    have hd := docCm_is (L := L) hl (by omega) h.rr h.tn
    generalize Fil.commit d s t L = F at *
    obtain ⟨dF, sF, tF, EF⟩ := F
    simp only at *
    rcases hd with ⟨b1, b2, b3⟩ | ⟨b1, b2, b3⟩ | ⟨b1, b2, b3, b4, b5, ⟨o', rb', xs', b6⟩, b7, b8, b9⟩ | ⟨b1, b2, b3, b4, b5, b6, b7, b8, b9, b10, g', o', rb', xs', r', b11, b12, b13⟩
    · right
      obtain ⟨rfl, rfl, rfl, rfl⟩ : dF = d ∧ sF = s ∧ tF = t ∧ EF = 2 := by simpa using b3
      rw [b2] at hX ⊢
      exact ⟨e1, rfl, by show ¬ ((2 : Int) = 40); decide, ⟨hS2, hX, hX, h.tn, h.ta, h.rr, h.sr, by rw [h.rr]; exact h.sr, h.dN, by omega, .inl ⟨e1, h.rr, by omega, o, rb, xs, hl⟩⟩⟩
    · right
      obtain ⟨rfl, rfl, rfl, rfl⟩ : dF = d ∧ sF = s ∧ tF = t ∧ EF = 4 := by simpa using b3
      rw [b2] at hX ⊢
      exact ⟨e1, rfl, by show ¬ ((4 : Int) = 40); decide, ⟨hS2, hX, hX, h.tn, h.ta, h.rr, h.sr, by rw [h.rr]; exact h.sr, h.dN, by omega, .inl ⟨e1, h.rr, by omega, o, rb, xs, hl⟩⟩⟩
    · right
      rw [b2] at hX ⊢
      exact ⟨e1, b5, by show ¬ ((0 : Int) = 40); decide, ⟨hS2, hX, hX, b8, b6.a, by rw [b3, b7], by rw [b7, ← b3]; omega, by show Fil.sum (fls (dputs lr L)) ≤ _; omega, by rw [hcn]; exact h.dN, by omega, .inl ⟨b6.err, by show fls (dputs lr L) = _; rw [b3, b7], by omega, o', rb', xs', b6⟩⟩⟩
    · left
      rw [b2] at hX ⊢
      exact ⟨e1, b5, rfl, ⟨hS2, hR, hX, b9, b10, by rw [b8]; exact h.rr, by rw [b8]; exact h.sr, by show Fil.sum (fls (dputs lr L)) ≤ _; omega, by rw [hcn]; exact h.dN, by omega, .inr ⟨b7, b6, hso, g', o', rb', xs', r', b11, by
        show r' = tF.r ∨ r' = fls (dputs lr L)
        rw [b3, b8]; exact b12, by omega⟩⟩⟩
  · left
    have hc : Fil.commit d s t L = (d, s, t, 40) := by
      unfold Fil.commit
      rw [if_pos (by rw [e1]; decide), e1]
    rw [hc] at hS2 ⊢
    exact ⟨e1, rfl, ⟨hS2, hR, hN, h.tn, h.ta, h.rr, h.sr, h.sn, h.dN, by show d.ops ≤ _; omega, CrM.up (.inr ⟨e1, e2, e3, g, o, rb, xs, r', h4, h5, h6⟩)⟩⟩
end
end Go.Proofs.YtalklpnekbfehaaGreat
