/-
  Plain mathematics: wherever the disk stands still, and whatever a crash keeps, the log that is opened again is the one that was told.
-/
import Derived.Test.YtjmpagbjkehebaaWalPure
set_option linter.unusedVariables false
namespace Go.Proofs.Ytjmpagbjkehebaa
namespace Dsk
theorem lay_other {L : List (Nat × Sec)} {k : Nat} (h : ∀ x ∈ L, x.1 ≠ k) (f : Nat → Sec) : lay L f k = f k := by
  induction L generalizing f with
  | nil => rfl
  | cons x r ih =>
    rw [lay, ih (fun y hy => h y (List.mem_cons_of_mem _ hy)), upd_other (fun e => h x List.mem_cons_self e.symm)]
theorem flatMap_congr' {α : Type} {l : List Nat} {f g : Nat → List α} (h : ∀ x ∈ l, f x = g x) : l.flatMap f = l.flatMap g := by
  induction l with
  | nil => rfl
  | cons x r ih => rw [List.flatMap_cons, List.flatMap_cons, h x List.mem_cons_self, ih (fun y hy => h y (List.mem_cons_of_mem _ hy))]
theorem kept_mem {keep : List UInt8} {L : List (Nat × Sec)} {x : Nat × Sec} (h : x ∈ kept keep L) : x ∈ L := by
  unfold kept at h
  split at h
  · simp at h
  · exact keptF_mem h
/-- the writes of a text's sectors -/
def nws (s : List UInt8) (a i m : Nat) : List (Nat × Sec) := (List.range m).map fun j => (a + (i + j), sect s (i + j))
theorem nws_succ (s : List UInt8) (a i m : Nat) : nws s a i (m + 1) = (a + i, sect s i) :: nws s a (i + 1) m := by
  unfold nws
  rw [List.range_succ_eq_map]
  simp only [List.map_cons, List.map_map, Nat.add_zero]
  congr 1
  apply List.map_congr_left
  intro j _
  simp only [Function.comp]
  rw [show i + 1 + j = i + (j + 1) by omega]
theorem wr_nws (s : List UInt8) (k : Nat) : ∀ (m i : Nat) (d : St), d.down = false → ∃ m', m' ≤ m ∧ (wr s k m i d).L = d.L ++ nws s k i m' ∧ (wr s k m i d).fl = d.fl ∧ ((wr s k m i d).down = false → m' = m) ∧ ((wr s k m i d).down = true → m' < m)
  | 0, i, d, hd => ⟨0, Nat.le_refl _, by simp [wr, nws], rfl, fun _ => rfl, fun h => by rw [show (wr s k 0 i d).down = d.down from rfl, hd] at h; cases h⟩
  | m + 1, i, d, hd => by
    unfold wr
    split
    · exact ⟨0, Nat.zero_le _, by simp [nws], rfl, fun h => by simp at h, fun _ => by omega⟩
    · obtain ⟨m', h1, h2, h3, h4, h5⟩ := wr_nws s k m (i + 1) (put { d with fuse := if 0 < d.fuse then d.fuse - 1 else d.fuse } (k + i) (sect s i)) hd
      refine ⟨m' + 1, by omega, ?_, h3, fun h => by rw [h4 h], fun h => by have := h5 h; omega⟩
      rw [h2, nws_succ]
      simp [put]
theorem nws_at {s : List UInt8} {a i m : Nat} {x : Nat × Sec} (h : x ∈ nws s a i m) : a + i ≤ x.1 ∧ x.1 < a + i + m := by
  obtain ⟨j, hj, rfl⟩ := List.mem_map.1 h
  have := List.mem_range.1 hj
  show a + i ≤ a + (i + j) ∧ a + (i + j) < a + i + m
  omega
theorem lay_nws (s : List UInt8) (a : Nat) (f : Nat → Sec) : ∀ (m i j : Nat), i ≤ j → j < i + m → lay (nws s a i m) f (a + j) = sect s j
  | 0, i, j, h1, h2 => by omega
  | m + 1, i, j, h1, h2 => by
    rw [nws_succ, lay]
    by_cases e : i = j
    · subst e
      rw [lay_other (fun x hx => by have := (nws_at hx).1; omega), upd_same]
    · have key : ∀ g, lay (nws s a (i + 1) m) g (a + j) = sect s j := fun g => by
        have := lay_nws s a g m (i + 1) j (by omega) (by omega)
        exact this
      exact key _
theorem sect_all (s : List UInt8) : ∀ m, (List.range m).flatMap (sect s) = s.take (64 * m)
  | 0 => by simp
  | m + 1 => by
    rw [List.range_succ, List.flatMap_append, sect_all s m]
    simp only [List.flatMap_cons, List.flatMap_nil, List.append_nil, sect]
    rw [show 64 * (m + 1) = 64 * m + 64 by omega, List.take_add]
/-- a write where there is room -/
theorem write_room {d : St} {a m : Nat} {s : List UInt8} (hd : d.down = false) (hs : s.length = 64 * m) (hfit : a + m ≤ d.n) :
    ∃ m', m' ≤ m ∧ (write d (a : Int) s).1.L = d.L ++ nws s a 0 m' ∧ (write d (a : Int) s).1.fl = d.fl ∧
      (((write d (a : Int) s).2 = 0 ∧ m' = m ∧ (write d (a : Int) s).1.down = false) ∨ ((write d (a : Int) s).2 = 40 ∧ m' < m)) := by
  have hq : s.length / 64 = m := by omega
  have e : write d (a : Int) s = (wr s a m 0 d, if (wr s a m 0 d).down = true then 40 else 0) := by
    unfold write
    rw [if_neg (by rw [hd]; decide), if_neg (by omega), hq]
    simp
  obtain ⟨m', h1, h2, h3, h4, h5⟩ := wr_nws s a m 0 d hd
  rw [e]
  refine ⟨m', h1, h2, h3, ?_⟩
  cases hdn : (wr s a m 0 d).down with
  | true => exact .inr ⟨by simp, h5 hdn⟩
  | false => exact .inl ⟨by simp, h4 hdn, rfl⟩
theorem flush_up {d : St} (hd : d.down = false) : (flush d).2 = 0 ∧ (flush d).1.fl = lay d.L d.fl ∧ (flush d).1.L = [] ∧ (flush d).1.down = false ∧ (flush d).1.n = d.n := by
  unfold flush
  rw [if_neg (by rw [hd]; decide)]
  exact ⟨rfl, by show lay (kept [1] d.L) d.fl = _; rw [kept_one], rfl, hd, rfl⟩
end Dsk

namespace Wal
open Dsk
/-- a log lies in these sectors -/
structure Has (f : Nat → Sec) (k g u : Nat) (L : List Grp) : Prop where
  head : f k = mark g u ∨ (nought (f k) ∧ g = 0 ∧ u = 0)
  body : (List.range u).flatMap (fun j => f (k + 1 + j)) = cat L
theorem Has.congr {f f' : Nat → Sec} {k g u : Nat} {L : List Grp} (h : Has f k g u L) (he : ∀ j, k ≤ j → j < k + 1 + u → f' j = f j) : Has f' k g u L := by
  refine ⟨by rw [he k (Nat.le_refl _) (by omega)]; exact h.head, ?_⟩
  rw [← h.body]
  apply flatMap_congr'
  intro j hj
  have := List.mem_range.1 hj
  exact he _ (by omega) (by omega)
/-- a log, and the disk below it -/
structure Good (d : Dsk.St) (s : St) : Prop where
  has : Has d.fl s.from_ s.gen s.used s.L
  loose : ∀ x ∈ d.L, s.from_ + 1 + s.used ≤ x.1
  live : s.err = 0 → d.L = [] ∧ d.down = false
  err : s.err = 0 ∨ s.err = 40
  ok : s.Ok d.n
theorem rd_fl {d : Dsk.St} (h : d.L = []) (k n : Nat) : rd d k n = (List.range n).flatMap fun j => d.fl (k + j) := by
  unfold rd now; rw [h]; rfl
theorem open_good {d : Dsk.St} {s : St} (h : Good d s) (hL : d.L = []) (hd : d.down = false) (he : s.err = 0) : open_ d (s.from_ : Int) (s.n : Int) = (some s, 0) := by
  have o := h.ok
  have h1 := o.lo
  have h2 := o.hi
  have h3 := o.used
  have h4 := o.m
  unfold open_
  rw [if_neg (by omega), if_neg (by rw [hd]; decide)]
  simp only [Int.toNat_natCast]
  have e1 : rd d s.from_ 1 = d.fl s.from_ := by rw [rd_fl hL]; simp
  have e2 : rd d (s.from_ + 1) s.used = cat s.L := by rw [rd_fl hL]; exact h.has.body
  have em : readMark (rd d s.from_ 1) (s.n - 1) = some (s.gen, s.used) := by
    rw [e1]
    rcases h.has.head with hh | ⟨hh, hg, hu⟩
    · rw [hh]; exact readMark_mark _ _ _ o.gen (by omega) h3
    · unfold readMark; rw [if_pos hh, hg, hu]
  rw [em]
  simp only []
  rw [e2, readGroups_cat s.L o.fine (64 * s.used) (by have := o.len; omega)]
  simp only [Prod.mk.injEq, and_true, Option.some.injEq]
  rw [← he]
theorem fuse_good {d : Dsk.St} {s : St} (h : Good d s) (n : Int) : Good { d with fuse := n } s := ⟨h.has, h.loose, h.live, h.err, h.ok⟩
theorem crash_good {d : Dsk.St} {s : St} (h : Good d s) (keep : List UInt8) : Good (Dsk.crash d keep) { s with err := 0 } ∧ open_ (Dsk.crash d keep) (s.from_ : Int) (s.n : Int) = (some { s with err := 0 }, 0) := by
  have o := h.ok
  have hg : Good (Dsk.crash d keep) { s with err := 0 } := by
    refine ⟨?_, fun x hx => by simp [Dsk.crash, Dsk.settle] at hx, fun _ => ⟨rfl, rfl⟩, .inl rfl, ⟨o.gen, o.used, o.lo, o.hi, o.m, o.len, o.fine, .inl rfl⟩⟩
    refine h.has.congr fun j h1 h2 => ?_
    show lay (kept keep d.L) d.fl j = d.fl j
    refine lay_other (fun x hx => ?_) _
    have := h.loose x (kept_mem hx)
    omega
  exact ⟨hg, open_good hg rfl rfl rfl⟩
theorem new_good {n : Nat} (h1 : 2 ≤ n) (h2 : n ≤ 16384) : Good (Dsk.new n) ⟨0, 0, 0, n, [], 0⟩ :=
  ⟨⟨.inr ⟨by unfold nought; simp [Dsk.new, Dsk.zer], rfl, rfl⟩, rfl⟩, fun x hx => by simp [Dsk.new] at hx, fun _ => ⟨rfl, rfl⟩, .inl rfl, ⟨by show (0 : Nat) < _; omega, by show (0 : Nat) ≤ _; omega, h1, by show 0 + n ≤ n; omega, h2, by simp, fun l hl => by simp at hl, .inl rfl⟩⟩

/-- what an append comes to -/
theorem append_good {d : Dsk.St} {s : St} (h : Good d s) (l : Grp) : Good (append d s l).1 (append d s l).2.1 ∧
    (((append d s l).2.2 = 0 ∧ s.err = 0 ∧ (append d s l).2.1.err = 0 ∧ (append d s l).2.1.L = s.L ++ [l] ∧ (append d s l).2.1.gen = s.gen ∧ (append d s l).2.1.from_ = s.from_ ∧ (append d s l).2.1.n = s.n) ∨
     ((append d s l).2.2 ≠ 0 ∧ (append d s l).2.1.L = s.L ∧ (append d s l).2.1.gen = s.gen ∧ (append d s l).2.1.from_ = s.from_ ∧ (append d s l).2.1.n = s.n)) := by
  have o := h.ok
  unfold append
  by_cases he : s.err = 0
  · rw [if_neg (by simpa using he)]
    by_cases hr : (Oct.row l).2 = 0
    · rw [if_neg (by simpa using hr)]
      by_cases hf : s.n - 1 - s.used < secs (Oct.row l).1
      · rw [if_pos hf]
        exact ⟨h, .inr ⟨by show (4 : Int) ≠ 0; decide, rfl, rfl, rfl, rfl⟩⟩
      · rw [if_neg hf]
        obtain ⟨hL, hd⟩ := h.live he
        have o1 := o.used
        have o2 := o.lo
        have o3 := o.hi
        have o4 := o.m
        have o5 := o.gen
        have hsp := secs_pos (Oct.row l).1
        have hgl := grp_length (Oct.row l).1
        obtain ⟨m1, hm1, hL1, hf1, hc1⟩ := write_room (d := d) (a := s.from_ + 1 + s.used) (m := secs (Oct.row l).1) (s := grp (Oct.row l).1) hd (by omega) (by omega)
        have hn1 := write_n d ((s.from_ + 1 + s.used : Nat) : Int) (grp (Oct.row l).1)
        have eS : steps (appendOps s (Oct.row l).1) d = if (write d ((s.from_ + 1 + s.used : Nat) : Int) (grp (Oct.row l).1)).2 = 0 then
            steps [.fl, .wr s.from_ (mark s.gen (s.used + secs (Oct.row l).1)), .fl] (write d ((s.from_ + 1 + s.used : Nat) : Int) (grp (Oct.row l).1)).1 else write d ((s.from_ + 1 + s.used : Nat) : Int) (grp (Oct.row l).1) := rfl
        generalize write d ((s.from_ + 1 + s.used : Nat) : Int) (grp (Oct.row l).1) = W1 at *
        rw [hL] at hL1
        simp only [List.nil_append] at hL1
        rcases hc1 with ⟨hz1, rfl, hd1⟩ | ⟨hz1, hlt1⟩
        · rw [if_pos hz1] at eS
          obtain ⟨z2, f2, L2, d2, n2⟩ := flush_up (d := W1.1) hd1
          have eS2 : steps [.fl, .wr s.from_ (mark s.gen (s.used + secs (Oct.row l).1)), .fl] W1.1 = if (flush W1.1).2 = 0 then steps [.wr s.from_ (mark s.gen (s.used + secs (Oct.row l).1)), .fl] (flush W1.1).1 else flush W1.1 := rfl
          rw [if_pos z2] at eS2
          generalize (flush W1.1).1 = D2 at *
          obtain ⟨m3, hm3, hL3, hf3, hc3⟩ := write_room (d := D2) (a := s.from_) (m := 1) (s := mark s.gen (s.used + secs (Oct.row l).1)) d2 (by rw [mark_length]) (by omega)
          have hn3 := write_n D2 (s.from_ : Int) (mark s.gen (s.used + secs (Oct.row l).1))
          have eS3 : steps [.wr s.from_ (mark s.gen (s.used + secs (Oct.row l).1)), .fl] D2 = if (write D2 (s.from_ : Int) (mark s.gen (s.used + secs (Oct.row l).1))).2 = 0 then steps [.fl] (write D2 (s.from_ : Int) (mark s.gen (s.used + secs (Oct.row l).1))).1 else write D2 (s.from_ : Int) (mark s.gen (s.used + secs (Oct.row l).1)) := rfl
          have hlayold : ∀ j, s.from_ ≤ j → j < s.from_ + 1 + s.used → D2.fl j = d.fl j := fun j h1 h2 => by
            rw [f2, hL1, hf1]
            exact lay_other (fun x hx => by have := (nws_at hx).1; omega) _
          generalize write D2 (s.from_ : Int) (mark s.gen (s.used + secs (Oct.row l).1)) = W3 at *
          rw [L2] at hL3
          simp only [List.nil_append] at hL3
          rcases hc3 with ⟨hz3, rfl, hd3⟩ | ⟨hz3, hlt3⟩
          · rw [if_pos hz3] at eS3
            obtain ⟨z4, f4, L4, d4, n4⟩ := flush_up (d := W3.1) hd3
            have eS4 : steps [.fl] W3.1 = if (flush W3.1).2 = 0 then ((flush W3.1).1, 0) else flush W3.1 := rfl
            rw [if_pos z4] at eS4
            have eF : steps (appendOps s (Oct.row l).1) d = ((flush W3.1).1, 0) := by rw [eS, eS2, eS3, eS4]
            generalize (flush W3.1).1 = D4 at *
            rw [eF]
            rw [if_pos (show ((D4, (0 : Int)).2 = 0) from rfl)]
            have hnd : D4.n = d.n := by omega
            have hfine : Fine l := ⟨hr, by
              have := whole_lo (4 + (Oct.row l).1.length)
              have e : secs (Oct.row l).1 = whole (4 + (Oct.row l).1.length) := rfl
              omega⟩
            have hfl : ∀ j, D4.fl j = if j = s.from_ then mark s.gen (s.used + secs (Oct.row l).1) else lay (nws (grp (Oct.row l).1) (s.from_ + 1 + s.used) 0 (secs (Oct.row l).1)) d.fl j := fun j => by
              have e1 : nws (mark s.gen (s.used + secs (Oct.row l).1)) s.from_ 0 1 = [(s.from_, mark s.gen (s.used + secs (Oct.row l).1))] := by
                have : sect (mark s.gen (s.used + secs (Oct.row l).1)) 0 = mark s.gen (s.used + secs (Oct.row l).1) := by
                  unfold sect
                  rw [List.drop_zero, List.take_of_length_le (by rw [mark_length]; exact Nat.le_refl _)]
                simp [nws, this]
              rw [f4, hL3, e1, hf3, f2, hL1, hf1]
              show upd _ _ _ j = _
              unfold upd
              rfl
            refine ⟨⟨⟨.inl ?_, ?_⟩, fun x hx => by rw [L4] at hx; simp at hx, fun _ => ⟨L4, d4⟩, .inl he, ⟨o5, ?_, o2, by rw [hnd]; exact o3, by rw [hnd]; exact o4, ?_, ?_, .inl he⟩⟩, .inl ⟨rfl, he, he, rfl, rfl, rfl, rfl⟩⟩
            · rw [hfl, if_pos rfl]
            · show (List.range (s.used + secs (Oct.row l).1)).flatMap (fun j => D4.fl (s.from_ + 1 + j)) = cat (s.L ++ [l])
              rw [cat_append, ← h.has.body, List.range_add, List.flatMap_append]
              congr 1
              · apply flatMap_congr'
                intro j hj
                have := List.mem_range.1 hj
                rw [hfl, if_neg (by omega)]
                exact lay_other (fun x hx => by have := (nws_at hx).1; omega) _
              · rw [List.flatMap_map]
                have : ∀ j ∈ List.range (secs (Oct.row l).1), D4.fl (s.from_ + 1 + (s.used + j)) = sect (grp (Oct.row l).1) j := fun j hj => by
                  have := List.mem_range.1 hj
                  rw [hfl, if_neg (by omega), ← Nat.add_assoc]
                  exact lay_nws _ _ _ _ 0 j (Nat.zero_le _) (by omega)
                rw [flatMap_congr' this, sect_all, List.take_of_length_le (by omega)]
                simp [cat]
            · show s.used + secs (Oct.row l).1 ≤ s.n - 1; omega
            · show (s.L ++ [l]).length ≤ s.used + secs (Oct.row l).1
              have := o.len
              rw [List.length_append]; simp; omega
            · intro x hx
              rcases List.mem_append.1 hx with hx | hx
              · exact o.fine x hx
              · simp at hx; subst hx; exact hfine
          · have eF : steps (appendOps s (Oct.row l).1) d = W3 := by rw [eS, eS2, eS3, if_neg (by omega)]
            rw [eF, if_neg (by omega)]
            have hm30 : ∀ x ∈ W3.1.L, s.from_ + 1 + s.used ≤ x.1 := fun x hx => by
              obtain rfl : m3 = 0 := by omega
              rw [hL3] at hx; simp [nws] at hx
            refine ⟨⟨?_, hm30, fun hx => by rw [show W3.2 = 40 from hz3] at hx; simp at hx, .inr hz3, ⟨o5, o1, o2, by rw [hn3, n2, hn1]; exact o3, by rw [hn3, n2, hn1]; exact o4, o.len, o.fine, .inr (.inr hz3)⟩⟩, .inr ⟨by show W3.2 ≠ 0; omega, rfl, rfl, rfl, rfl⟩⟩
            show Has W3.1.fl s.from_ s.gen s.used s.L
            rw [hf3]
            exact h.has.congr hlayold
        · have eF : steps (appendOps s (Oct.row l).1) d = W1 := by rw [eS, if_neg (by omega)]
          rw [eF, if_neg (by omega)]
          refine ⟨⟨?_, fun x hx => ?_, fun hx => by rw [show W1.2 = 40 from hz1] at hx; simp at hx, .inr hz1, ⟨o5, o1, o2, by rw [hn1]; exact o3, by rw [hn1]; exact o4, o.len, o.fine, .inr (.inr hz1)⟩⟩, .inr ⟨by show W1.2 ≠ 0; omega, rfl, rfl, rfl, rfl⟩⟩
          · show Has W1.1.fl s.from_ s.gen s.used s.L
            rw [hf1]; exact h.has
          · rw [hL1] at hx
            exact (nws_at hx).1
    · rw [if_pos (by simpa using hr)]
      exact ⟨h, .inr ⟨by simpa using hr, rfl, rfl, rfl, rfl⟩⟩
  · rw [if_pos (by simpa using he)]
    exact ⟨h, .inr ⟨by simpa using he, rfl, rfl, rfl, rfl⟩⟩

/-- what a reset comes to -/
theorem reset_good {d : Dsk.St} {s : St} (h : Good d s) : Good (reset d s).1 (reset d s).2.1 ∧
    (((reset d s).2.2 = 0 ∧ s.err = 0 ∧ (reset d s).2.1.err = 0 ∧ (reset d s).2.1.L = [] ∧ (reset d s).2.1.gen = up s.gen ∧ (reset d s).2.1.from_ = s.from_ ∧ (reset d s).2.1.n = s.n) ∨
     ((reset d s).2.2 ≠ 0 ∧ (reset d s).2.1.L = s.L ∧ (reset d s).2.1.gen = s.gen ∧ (reset d s).2.1.from_ = s.from_ ∧ (reset d s).2.1.n = s.n)) := by
  have o := h.ok
  unfold reset
  by_cases he : s.err = 0
  · rw [if_neg (by simpa using he)]
    obtain ⟨hL, hd⟩ := h.live he
    have o1 := o.used
    have o2 := o.lo
    have o3 := o.hi
    have o4 := o.m
    have o5 := o.gen
    obtain ⟨m3, hm3, hL3, hf3, hc3⟩ := write_room (d := d) (a := s.from_) (m := 1) (s := mark (up s.gen) 0) hd (by rw [mark_length]) (by omega)
    have hn3 := write_n d (s.from_ : Int) (mark (up s.gen) 0)
    have eS3 : steps (resetOps s) d = if (write d (s.from_ : Int) (mark (up s.gen) 0)).2 = 0 then steps [.fl] (write d (s.from_ : Int) (mark (up s.gen) 0)).1 else write d (s.from_ : Int) (mark (up s.gen) 0) := rfl
    generalize write d (s.from_ : Int) (mark (up s.gen) 0) = W3 at *
    rw [hL] at hL3
    simp only [List.nil_append] at hL3
    rcases hc3 with ⟨hz3, rfl, hd3⟩ | ⟨hz3, hlt3⟩
    · rw [if_pos hz3] at eS3
      obtain ⟨z4, f4, L4, d4, n4⟩ := flush_up (d := W3.1) hd3
      have eS4 : steps [.fl] W3.1 = if (flush W3.1).2 = 0 then ((flush W3.1).1, 0) else flush W3.1 := rfl
      rw [if_pos z4] at eS4
      have eF : steps (resetOps s) d = ((flush W3.1).1, 0) := by rw [eS3, eS4]
      generalize (flush W3.1).1 = D4 at *
      rw [eF]
      rw [if_pos (show ((D4, (0 : Int)).2 = 0) from rfl)]
      have hnd : D4.n = d.n := by omega
      have hfl : D4.fl s.from_ = mark (up s.gen) 0 := by
        have e1 : nws (mark (up s.gen) 0) s.from_ 0 1 = [(s.from_, mark (up s.gen) 0)] := by
          have : sect (mark (up s.gen) 0) 0 = mark (up s.gen) 0 := by
            unfold sect
            rw [List.drop_zero, List.take_of_length_le (by rw [mark_length]; exact Nat.le_refl _)]
          simp [nws, this]
        rw [f4, hL3, e1]
        exact upd_same _ _ _
      have hup : up s.gen < 18446744073709551616 := Nat.mod_lt _ (by decide)
      exact ⟨⟨⟨.inl hfl, rfl⟩, fun x hx => by rw [L4] at hx; simp at hx, fun _ => ⟨L4, d4⟩, .inl he, ⟨hup, Nat.zero_le _, o2, by rw [hnd]; exact o3, by rw [hnd]; exact o4, Nat.le_refl _, fun x hx => by simp at hx, .inl he⟩⟩, .inl ⟨rfl, he, he, rfl, rfl, rfl, rfl⟩⟩
    · have eF : steps (resetOps s) d = W3 := by rw [eS3, if_neg (by omega)]
      rw [eF, if_neg (by omega)]
      refine ⟨⟨?_, fun x hx => ?_, fun hx => by rw [show W3.2 = 40 from hz3] at hx; simp at hx, .inr hz3, ⟨o5, o1, o2, by rw [hn3]; exact o3, by rw [hn3]; exact o4, o.len, o.fine, .inr (.inr hz3)⟩⟩, .inr ⟨by show W3.2 ≠ 0; omega, rfl, rfl, rfl, rfl⟩⟩
      · show Has W3.1.fl s.from_ s.gen s.used s.L
        rw [hf3]; exact h.has
      · obtain rfl : m3 = 0 := by omega
        rw [hL3] at hx; simp [nws] at hx
  · rw [if_pos (by simpa using he)]
    exact ⟨h, .inr ⟨by simpa using he, rfl, rfl, rfl, rfl⟩⟩

def Op.size : Op → Nat
  | .wr _ t => t.length / 64
  | .fl => 0
theorem one_ops (d : Dsk.St) (o : Op) : (one d o).1.ops ≤ d.ops + o.size := by
  cases o with
  | wr a t => exact write_ops d a t
  | fl => exact Nat.le_of_eq (flush_ops d)
theorem steps_ops : ∀ (L : List Op) (d : Dsk.St), (steps L d).1.ops ≤ d.ops + (L.map Op.size).sum
  | [], d => by simp [steps]
  | o :: r, d => by
    have h1 := one_ops d o
    unfold steps
    simp only [List.map_cons, List.sum_cons]
    split
    · have := steps_ops r (one d o).1; omega
    · omega
theorem append_ops {d : Dsk.St} {s : St} {m : Nat} (h : s.Ok m) (l : Grp) : (append d s l).1.ops ≤ d.ops + 16385 := by
  have o1 := h.used
  have o3 := h.hi
  have o4 := h.m
  unfold append
  split
  · show d.ops ≤ _; omega
  · split
    · show d.ops ≤ _; omega
    · split
      · show d.ops ≤ _; omega
      · have := steps_ops (appendOps s (Oct.row l).1) d
        have hg := grp_length (Oct.row l).1
        have e : ((appendOps s (Oct.row l).1).map Op.size).sum = secs (Oct.row l).1 + 1 := by
          simp only [appendOps, List.map_cons, List.map_nil, Op.size, List.sum_cons, List.sum_nil, mark_length, hg]
          omega
        rw [e] at this
        show (steps (appendOps s (Oct.row l).1) d).1.ops ≤ _
        omega
theorem reset_ops (d : Dsk.St) (s : St) : (reset d s).1.ops ≤ d.ops + 1 := by
  unfold reset
  split
  · show d.ops ≤ _; omega
  · have := steps_ops (resetOps s) d
    have e : ((resetOps s).map Op.size).sum = 1 := by
      simp [resetOps, Op.size, mark_length]
    rw [e] at this
    exact this
end Wal
end Go.Proofs.Ytjmpagbjkehebaa
