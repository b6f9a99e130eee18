/- Put together of: FilAlive0 FilUp FilAlive -/
import Derived.Test.YtalklpnekbfehaaGreatFilGdA
import Derived.Test.YtalklpnekbfehaaGreatWalB
set_option maxRecDepth 100000
/-
  The chapter's example: what the document's side comes to; Open of files that are in order.
-/
set_option linter.unusedVariables false
set_option maxRecDepth 100000
namespace Go.Proofs.YtalklpnekbfehaaGreat
open Go.RowKit
namespace Fil
def alL1 : List Chb := [⟨⟨#[97]⟩, ⟨#[120, 121, 122]⟩, false⟩]
def alL2 : List Chb := [⟨⟨#[97]⟩, ⟨#[]⟩, true⟩]
def alL3 : List Chb := [⟨⟨#[]⟩, ⟨#[]⟩, false⟩]
def alS0 : Wal.St := ⟨0, 0, 1, 5, [], 0⟩
def alT0 : St := ⟨false, 0, 0, 40, [], 0⟩
def alC1 : Dsk.St × Wal.St × St × Int := commit (Dsk.new 40) alS0 alT0 alL1
def alC2 : Dsk.St × Wal.St × St × Int := commit alC1.1 alC1.2.1 alC1.2.2.1 alL2
theorem alE1 : alC1.2.2.2 = 0 := by decide +kernel
theorem alE2 : alC2.2.2.2 = 0 := by decide +kernel
theorem alO1 : alC1.1.ops ≤ 1000 := by decide +kernel
theorem alO2 : alC2.1.ops ≤ 1000 := by decide +kernel
theorem alLive0 : Live (Dsk.new 40) alS0 alT0 none [] [] := new_live (by decide) (by decide)
theorem live_done {d : Dsk.St} {s : Wal.St} {t : St} {l : List Chb} {F : Dsk.St × Wal.St × St × Int} (h : CmR d s t l F) (e : F.2.2.2 = 0) : ∃ o rb xs, Live F.1 F.2.1 F.2.2.1 o rb xs ∧ F.2.2.1.r = puts t.r (chs l) ∧ F.2.2.1.n = t.n ∧ F.2.1.gen ≤ s.gen + 1 := by
  cases h with
  | bad _ => cases e
  | full _ _ => cases e
  | done h1 h2 h3 h4 h5 h6 => exact ⟨_, _, _, h3, h4, h5, h6⟩
  | down _ _ _ _ _ _ _ _ _ => cases e
theorem alLive1 : ∃ o rb xs, Live alC1.1 alC1.2.1 alC1.2.2.1 o rb xs ∧ alC1.2.2.1.r = [([97], [120, 121, 122])] ∧ alC1.2.2.1.n = 40 ∧ alC1.2.1.gen ≤ 1 := by
  obtain ⟨o, rb, xs, h1, h2, h3, h4⟩ := live_done (commit_live alLive0 (by decide) alL1) alE1
  exact ⟨o, rb, xs, h1, h2.trans (by decide +kernel), h3, h4⟩
theorem alLive2 : ∃ o rb xs, Live alC2.1 alC2.2.1 alC2.2.2.1 o rb xs ∧ alC2.2.2.1.r = [] ∧ alC2.2.2.1.n = 40 := by
  obtain ⟨o, rb, xs, h1, h2, h3, h4⟩ := alLive1
  obtain ⟨o', rb', xs', g1, g2, g3, g4⟩ := live_done (commit_live h1 (by omega) alL2) alE2
  rw [h2] at g2
  exact ⟨o', rb', xs', g1, g2.trans (by decide +kernel), g3.trans h3⟩
theorem Live.a {d : Dsk.St} {s : Wal.St} {t : St} {o : Option (Nat × Nat)} {rb : Row} {xs : List Chb} (h : Live d s t o rb xs) : t.a < 2 := by
  have ta : t.a = aOf o := congrArg St.a h.t
  rw [ta]
  have := h.g.hd
  cases o with
  | none => decide
  | some x => exact this.1
theorem Live.n {d : Dsk.St} {s : Wal.St} {t : St} {o : Option (Nat × Nat)} {rb : Row} {xs : List Chb} (h : Live d s t o rb xs) : t.n = d.n := congrArg St.n h.t
theorem Live.err {d : Dsk.St} {s : Wal.St} {t : St} {o : Option (Nat × Nat)} {rb : Row} {xs : List Chb} (h : Live d s t o rb xs) : t.err = 0 := congrArg St.err h.t
end Fil

theorem fopen_live {w : World} {S : Nat → Prop} {q : Nat} {d : Dsk.St} {s : Wal.St} {t : Fil.St} {o : Option (Nat × Nat)} {rb : Fil.Row} {xs : List Chb} (h : DiskAt S q d w) (hl : Fil.Live d s t o rb xs) (hops : d.ops ≤ 999000000) :
    Calls Tryz.prog 18 #[.pointer (some ⟨q, 0, none⟩)] w fun e V => ∃ p S' R' pw bm, e = .returned (.tuple #[.pointer (some ⟨p, 0, none⟩), .int .i64 0]) ∧ w.heap.size ≤ p ∧ Apn w S S [(p, objF (fcells t q pw bm))] S' R' pw q d s V ∧ (∃ nn, nn ≤ 21000000000 ∧ ContAt bm nn t.r V) ∧ ¬ S' bm ∧ ¬ R' bm ∧ bm ≠ p := by
  obtain ⟨hL, hd⟩ := hl.g.log.live hl.e
  obtain ⟨h1, h2, h3, h4⟩ := Fil.opn_fg hl.g hL hd hl.e
  refine (fopen_any (m := d.n) h hl.g.n8 hops (fun s' hs' => ?_)).mono ?_
  · rw [h4] at hs'
    obtain rfl : s = s' := by simpa using hs'
    exact ⟨hl.g.log.ok, fun l hl' => Wal.slim_of_row (hl.g.log.ok.fine l hl').1⟩
  · intro e V hF
    unfold FoR at hF
    rw [Fil.opn_live hl] at hF
    exact hF
theorem Sys.opened {w w1 V : World} {S S' R' : Nat → Prop} {p q pw bm N : Nat} {d : Dsk.St} {s : Wal.St} {t : Fil.St} (hA : Apn w1 S S [(p, objF (fcells t q pw bm))] S' R' pw q d s V) (hb : Below w.heap.size w w1) (hS : ∀ j, S j → w.heap.size ≤ j)
    (hp : w1.heap.size ≤ p) {nn : Nat} (hn : nn ≤ N) (hm : ContAt bm nn t.r V) (h1 : ¬ S' bm) (h2 : ¬ R' bm) (h3 : bm ≠ p) (hs : Fil.Sorted t.r) (hf : Fil.Fine t.r) (hsum : Fil.sum t.r ≤ 1099511) :
    Sys w (fun _ => False) N S' R' p q pw bm d s t V := by
  have hsz := hb.size
  refine ⟨⟨hA.disk, hA.wal, hA.apart, hA.rows, fun j hj => .inr ?_, fun j hj => .inr ?_, (Turns.of_new (hb.trans ((hA.turns.below (B := w.heap.size) hsz (fun k _ e => by rcases e with e | e <;> exact hS k e)))) _)⟩, ⟨nn, hn, hm⟩, ⟨h1, h2, h3⟩, fun e => by omega, hs, hf, hsum⟩
  · rcases hA.loS j hj with e | e
    · exact hS j e
    · omega
  · rcases hA.loR j hj with e | e
    · exact hS j e
    · omega
/-- the disk was opened once more -/
theorem Sys.reopen {w W V : World} {T : Nat → Prop} {N : Nat} {S R S' : Nat → Prop} {p q pw bm : Nat} {d : Dsk.St} {s : Wal.St} {t : Fil.St} (h : Sys w T N S R p q pw bm d s t W) (ht : Turns S W V) (hS : ∀ j, S' j → S j ∨ W.heap.size ≤ j) (hd : DiskAt S' q d V) : Sys w T N S' R p q pw bm d s t V := by
  obtain ⟨nn, h1, h2⟩ := h.mp
  refine ⟨h.a.turnDisk ht hS hd, ⟨nn, h1, h2.turns ht h.off.1⟩, ⟨fun e => ?_, h.off.2.1, h.off.2.2⟩, h.pT, h.srt, h.fine, h.sum⟩
  rcases hS _ e with e | e
  · exact h.off.1 e
  · have := h2.lt; omega
theorem chgs_one {g : Nat} {x y : ByteArray} {z : Bool} {T : TypeId} {w : World} (h : w.heap[g]? = some (.cells #[.string x, .string y, .bool z] T (0, 0))) : Chgs (some ⟨g, 0, none⟩) 1 [⟨x, y, z⟩] w :=
  ⟨rfl, fun j hj => ⟨g, 0, rfl, by
    obtain rfl : j = 0 := by omega
    exact ⟨by rw [cell_of_row _ _ _ _ _ _ h]; rfl, by rw [cell_of_row _ _ _ _ _ _ h]; rfl, by rw [cell_of_row _ _ _ _ _ _ h]; rfl⟩⟩⟩
theorem Sys.fresh {w W : World} {N : Nat} {T S R : Nat → Prop} {p q pw bm : Nat} {d : Dsk.St} {s : Wal.St} {t : Fil.St} (h : Sys w T N S R p q pw bm d s t W) (o : Obj) : ¬ S W.heap.size ∧ ¬ R W.heap.size ∧ W.heap.size ≠ p :=
  ⟨fun e => by have := h.a.disk.lt _ e; omega, fun e => by have := h.a.wal.lt _ e; omega, fun e => by
    have := row_lt h.row.row; omega⟩
theorem build_chg (n d : ByteArray) (w : World) : (Instr.build 58 #[(0, .string n), (1, .string d)]).run Tryz.prog w = .ok (.agg #[.string n, .string d, .bool false]) w := run_build w _ _ _ (by kernel_rfl)
theorem build_gone (n : ByteArray) (w : World) : (Instr.build 58 #[(0, .string n), (2, .bool true)]).run Tryz.prog w = .ok (.agg #[.string n, .string ⟨#[]⟩, .bool true]) w := run_build w _ _ _ (by kernel_rfl)
theorem build_none (w : World) : (Instr.build 58 #[]).run Tryz.prog w = .ok (.agg #[.string ⟨#[]⟩, .string ⟨#[]⟩, .bool false]) w := run_build w _ _ _ (by kernel_rfl)
theorem commit_one {w W : World} {N : Nat} {T S R : Nat → Prop} {p q pw bm : Nat} {d : Dsk.St} {s : Wal.St} {t : Fil.St} {o : Option (Nat × Nat)} {rb : Fil.Row} {xs : List Chb} (h : Sys w T N S R p q pw bm d s t W) (hl : Fil.Live d s t o rb xs) (hN : N ≤ 1000000000000) (hops : d.ops ≤ 999000000) (x : Chb) (hx : x.Ok) :
    Calls Tryz.prog 10 #[.pointer (some ⟨p, 0, none⟩), .slice (some ⟨W.heap.size, 0, none⟩) 1 1] (W.alloc (.cells #[.string x.n, .string x.d, .bool x.g] 58)) fun e W' => e = .returned (.int .i64 (Fil.commit d s t [x]).2.2.2) ∧ ∃ S' R' bm', Sys w T (N + 1) S' R' p q pw bm' (Fil.commit d s t [x]).1 (Fil.commit d s t [x]).2.1 (Fil.commit d s t [x]).2.2.1 W' := by
  have hb : Below W.heap.size W (W.alloc (.cells #[.string x.n, .string x.d, .bool x.g] 58)) := (Below.refl _ W).alloc (Nat.le_refl _) _
  obtain ⟨g1, g2, g3⟩ := h.fresh (.cells #[] 0)
  exact fcommit_any (h.new hb) hl.g.log.ok hl.a (by rw [hl.n]; exact hl.g.ok.hi) (by rw [hl.n]; exact hl.g.n8) hN hops (some ⟨W.heap.size, 0, none⟩) 1 1 [x] (chgs_one (heap_alloc_new W _)) (fun y hy => by simp at hy; subst hy; exact hx) (by omega) (fun b off _ e => by
    obtain rfl : W.heap.size = b := by simpa using congrArg (Option.map Addr.block) e
    exact ⟨g1, g2, g3⟩)
end Go.Proofs.YtalklpnekbfehaaGreat

/-
  Plain mathematics: a disk that no fuse stops; how much a Commit asks of it.
-/
set_option linter.unusedVariables false
namespace Go.Proofs.YtalklpnekbfehaaGreat
namespace Dsk
/-- a disk that goes on -/
def Up (d : St) : Prop := d.down = false ∧ d.fuse < 0
theorem wr_up (s : List UInt8) (k : Nat) : ∀ (m i : Nat) (d : St), Up d → Up (wr s k m i d)
  | 0, i, d, h => h
  | m + 1, i, d, h => by
    unfold wr
    have h2 := h.2
    rw [if_neg (by omega)]
    exact wr_up s k m (i + 1) _ ⟨h.1, by show (if 0 < d.fuse then d.fuse - 1 else d.fuse) < 0; rw [if_neg (by omega)]; exact h2⟩
theorem write_up {d : St} (h : Up d) (a : Int) (s : List UInt8) : Up (write d a s).1 ∧ (write d a s).2 ≠ 40 := by
  unfold write
  rw [if_neg (by rw [h.1]; decide)]
  split
  · exact ⟨h, by show (2 : Int) ≠ 40; decide⟩
  · have hu := wr_up s a.toNat (s.length / 64) 0 d h
    refine ⟨hu, ?_⟩
    simp only
    rw [if_neg (by rw [hu.1]; decide)]
    decide
theorem flush_go {d : St} (h : Up d) : Up (flush d).1 ∧ (flush d).2 ≠ 40 := by
  unfold flush
  rw [if_neg (by rw [h.1]; decide)]
  exact ⟨h, by show (0 : Int) ≠ 40; decide⟩
theorem crash_up (d : St) (keep : List UInt8) : Up (crash d keep) := ⟨rfl, by show (-1 : Int) < 0; decide⟩
theorem new_up (n : Nat) : Up (new n) := ⟨rfl, by show (-1 : Int) < 0; decide⟩
end Dsk
namespace Wal
open Dsk
theorem steps_up : ∀ (L : List Op) (d : Dsk.St), Up d → Up (steps L d).1 ∧ (steps L d).2 ≠ 40
  | [], d, h => ⟨h, by show (0 : Int) ≠ 40; decide⟩
  | o :: r, d, h => by
    have h1 : Up (one d o).1 ∧ (one d o).2 ≠ 40 := by
      cases o with
      | wr a s => exact write_up h a s
      | fl => exact flush_go h
    unfold steps
    split
    · exact steps_up r _ h1.1
    · exact h1
theorem append_up {d : Dsk.St} {s : St} (h : Up d) (he : s.err = 0) (l : Grp) : Up (append d s l).1 ∧ (append d s l).2.2 ≠ 40 := by
  unfold append
  rw [if_neg (fun e => e he)]
  split
  · refine ⟨h, ?_⟩
    show (Oct.row l).2 ≠ 40
    unfold Oct.row
    split
    · show (0 : Int) ≠ 40; decide
    · show (5 : Int) ≠ 40; decide
  split
  · exact ⟨h, by show (4 : Int) ≠ 40; decide⟩
  · exact steps_up _ d h
theorem reset_up {d : Dsk.St} {s : St} (h : Up d) (he : s.err = 0) : Up (reset d s).1 ∧ (reset d s).2.2 ≠ 40 := by
  unfold reset
  rw [if_neg (fun e => e he)]
  exact steps_up _ d h
end Wal
namespace Fil
open Dsk
theorem rw_up {d : Dsk.St} {s : Wal.St} (h : Up d) (he : s.err = 0) (f : Nat) (r : Row) (a g : Nat) : ∀ k, Up (rwD d s f r a g k) ∧ rwE d s f r a g k ≠ 40 := by
  have h1 := write_up h (f : Int) (atext r)
  have h2 := flush_go h1.1
  have h3 := write_up h2.1 0 (mark a g)
  have h4 := flush_go h3.1
  have h5 := Wal.reset_up h4.1 he
  intro k
  match k with
  | 0 => exact ⟨h, h1.2⟩
  | 1 => exact ⟨h1.1, h2.2⟩
  | 2 => exact ⟨h2.1, h3.2⟩
  | 3 => exact ⟨h3.1, h4.2⟩
  | 4 => exact ⟨h4.1, h5.2⟩
  | k + 5 => exact ⟨h5.1, by show (0 : Int) ≠ 40; decide⟩
theorem store_up {d : Dsk.St} {s : Wal.St} (h : Up d) {m : Nat} (hs : s.Ok m) (he : s.err = 0) (t : St) (g : Wal.Grp) (r : Row) : Up (store d s t g r).1 ∧ (store d s t g r).2.2.2 ≠ 40 := by
  have ha := Wal.append_up h he g
  unfold store
  split
  · rename_i h45
    obtain ⟨a1, a2⟩ := append_45 hs g h45
    rw [a1, a2]
    have hr := rw_up h he (arAt t.n + (1 - t.a) * arN t.n) r (1 - t.a) (Wal.up s.gen)
    refine ⟨(hr _).1, ?_⟩
    show err _ 6 ≠ 40
    unfold err
    split
    · decide
    · exact (hr _).2
  · exact ha
theorem commit_up {d : Dsk.St} {s : Wal.St} {t : St} {o : Option (Nat × Nat)} {rb : Row} {xs : List Chb} (hl : Live d s t o rb xs) (h : Up d) (l : List Chb) : Up (commit d s t l).1 ∧ (commit d s t l).2.2.2 ≠ 40 := by
  have hst := store_up h hl.g.log.ok hl.e t (grpOf l) (puts t.r (chs l))
  unfold commit
  rw [if_neg (fun e => e hl.err)]
  split
  · exact ⟨h, by show (2 : Int) ≠ 40; decide⟩
  split
  · exact ⟨h, by show (4 : Int) ≠ 40; decide⟩
  · exact hst
theorem rwD_ops (d : Dsk.St) (s : Wal.St) (f : Nat) (r : Row) (a g : Nat) : ∀ k, (rwD d s f r a g k).ops ≤ d.ops + Wal.whole (4 + used r) + 2 := by
  have h1 := Dsk.write_ops d (f : Int) (atext r)
  rw [atext_length] at h1
  have h2 := Dsk.flush_ops (rwD d s f r a g 1)
  have h3 := Dsk.write_ops (rwD d s f r a g 2) 0 (mark a g)
  rw [mark_length] at h3
  have h4 := Dsk.flush_ops (rwD d s f r a g 3)
  have h5 := Wal.reset_ops (rwD d s f r a g 4) s
  have g1 : (rwD d s f r a g 1).ops ≤ d.ops + Wal.whole (4 + used r) * 64 / 64 := h1
  have g2 : (rwD d s f r a g 2).ops = (rwD d s f r a g 1).ops := h2
  have g3 : (rwD d s f r a g 3).ops ≤ (rwD d s f r a g 2).ops + 64 / 64 := h3
  have g4 : (rwD d s f r a g 4).ops = (rwD d s f r a g 3).ops := h4
  intro k
  match k with
  | 0 => show d.ops ≤ _; omega
  | 1 => omega
  | 2 => omega
  | 3 => omega
  | 4 => omega
  | k + 5 =>
    have g5 : (rwD d s f r a g (k + 5)).ops ≤ (rwD d s f r a g 4).ops + 1 := h5
    omega
theorem commit_ops {d : Dsk.St} {s : Wal.St} {t : St} {o : Option (Nat × Nat)} {rb : Row} {xs : List Chb} (hl : Live d s t o rb xs) (l : List Chb) : (commit d s t l).1.ops ≤ d.ops + 40000 := by
  have hok := hl.g.log.ok
  have tn := hl.n
  have hhi := hl.g.ok.hi
  unfold commit
  rw [if_neg (fun e => e hl.err)]
  split
  · show d.ops ≤ _; omega
  split
  · show d.ops ≤ _; omega
  · rename_i hu
    show (store d s t (grpOf l) (puts t.r (chs l))).1.ops ≤ _
    unfold store
    split
    · rename_i h45
      obtain ⟨a1, a2⟩ := append_45 hok (grpOf l) h45
      rw [a1, a2]
      have := rwD_ops d s (arAt t.n + (1 - t.a) * arN t.n) (puts t.r (chs l)) (1 - t.a) (Wal.up s.gen) (at_ (rwE d s (arAt t.n + (1 - t.a) * arN t.n) (puts t.r (chs l)) (1 - t.a) (Wal.up s.gen)) 6)
      have hw := Wal.whole_hi (4 + used (puts t.r (chs l)))
      have hN : arN t.n ≤ t.n := by unfold arN; omega
      show (rwD d s _ _ _ _ _).ops ≤ _
      omega
    · have := Wal.append_ops (d := d) hok (grpOf l)
      show (Wal.append d s (grpOf l)).1.ops ≤ _
      omega
theorem live_crash {d : Dsk.St} {s : Wal.St} {t : St} {o : Option (Nat × Nat)} {rb : Row} {xs : List Chb} (hl : Live d s t o rb xs) (keep : List UInt8) : Live (Dsk.crash d keep) s t o rb xs := by
  have h := crash_fg hl.g keep
  have e : ({ s with err := 0 } : Wal.St) = s := by rw [← hl.e]
  rw [e] at h
  exact ⟨h, hl.e, hl.q, hl.t⟩
end Fil

theorem Sys.here {w W : World} {T : Nat → Prop} {N : Nat} {S R : Nat → Prop} {p q pw bm : Nat} {d : Dsk.St} {s : Wal.St} {t : Fil.St} (h : Sys w T N S R p q pw bm d s t W) : Sys W (fun j => S j ∨ R j ∨ j = p) N S R p q pw bm d s t W :=
  ⟨⟨h.a.disk, h.a.wal, h.a.apart, h.a.rows, fun j hj => .inl (.inl hj), fun j hj => .inl (.inr (.inl hj)), Turns.refl _ W⟩, h.mp, h.off, fun _ => .inr (.inr rfl), h.srt, h.fine, h.sum⟩
theorem Sys.back {w W W' : World} {T : Nat → Prop} {N N' : Nat} {S R S' R' : Nat → Prop} {p q pw bm bm' : Nat} {d d' : Dsk.St} {s s' : Wal.St} {t t' : Fil.St} (h : Sys w T N S R p q pw bm d s t W) (k : Sys W (fun j => S j ∨ R j ∨ j = p) N' S' R' p q pw bm' d' s' t' W') : Sys w T N' S' R' p q pw bm' d' s' t' W' := by
  have hsz := h.a.turns.size
  have hlo : ∀ j, (S j ∨ R j ∨ j = p) ∨ W.heap.size ≤ j → T j ∨ w.heap.size ≤ j := fun j hj => by
    rcases hj with (e | e | e) | e
    · exact h.a.loS j e
    · exact h.a.loR j e
    · rw [e]
      rcases Nat.lt_or_ge p w.heap.size with e2 | e2
      · exact .inl (h.pT e2)
      · exact .inr e2
    · exact .inr (by omega)
  refine ⟨⟨k.a.disk, k.a.wal, k.a.apart, k.a.rows, fun j hj => hlo j (k.a.loS j hj), fun j hj => hlo j (k.a.loR j hj), h.a.turns.trans k.a.turns (fun j hj e => ?_)⟩, k.mp, k.off, h.pT, k.srt, k.fine, k.sum⟩
  have e' : S j ∨ R j ∨ j = p := e.elim id id
  rcases hlo j (.inl e') with e2 | e2
  · exact .inl e2
  · omega
/-- blocks that are the caller's stay as they are -/
theorem Sys.other {W W' : World} {N' : Nat} {S R S' R' : Nat → Prop} {p q pw bm' : Nat} {d' : Dsk.St} {s' : Wal.St} {t' : Fil.St} (k : Sys W (fun j => S j ∨ R j ∨ j = p) N' S' R' p q pw bm' d' s' t' W') {b : Nat} {o : Obj} (hb : W.heap[b]? = some o) (h1 : ¬ S b) (h2 : ¬ R b) (h3 : b ≠ p) :
    W'.heap[b]? = some o ∧ ¬ S' b ∧ ¬ R' b := by
  have hlt := row_lt hb
  refine ⟨k.a.turns.same hb (fun e => ?_), fun e => ?_, fun e => ?_⟩
  · rcases e.elim id id with e | e | e
    · exact h1 e
    · exact h2 e
    · exact h3 e
  · rcases k.a.loS b e with (e | e | e) | e
    · exact h1 e
    · exact h2 e
    · exact h3 e
    · omega
  · rcases k.a.loR b e with (e | e | e) | e
    · exact h1 e
    · exact h2 e
    · exact h3 e
    · omega
end Go.Proofs.YtalklpnekbfehaaGreat

/-
  The chapter's example.
-/
set_option linter.unusedVariables false
set_option maxRecDepth 100000
namespace Go.Proofs.YtalklpnekbfehaaGreat
open Go.RowKit
set_option maxHeartbeats 2000000 in
theorem filAlive_any (w : World) : Calls Tryz.prog 9 #[] w fun e w' => e = .returned (.bool true) ∧ Below w.heap.size w w' := by
  have hb1 := build_chg ⟨#[97]⟩ ⟨#[120, 121, 122]⟩
  have hb2 := build_gone ⟨#[97]⟩
  have hb3 := build_none
  go_enter Tryz.func9, Tryz.ntmps9
  go_wp2_with fail
  refine (new_any 40 (by decide) (by decide) _).mono ?_; rintro e w1 ⟨rfl, b1, d1⟩
  generalize w.heap.size + 2 = q at d1 ⊢
  have s1 : ∀ j, NewS w j → w.heap.size ≤ j := fun j h => h.1
  have B1 := Lib.hid b1; clear b1
  have D1 := Lib.hid d1; clear d1
  go_wp2_with fail
  refine (fopen_live D1.out Fil.alLive0 (by decide)).mono ?_; rintro e w2 ⟨p, S2, R2, pw, bm, rfl, hp, hA, ⟨nn, hn1, hn2⟩, x1, x2, x3⟩
  have h2 : Sys w (fun _ => False) 21000000000 S2 R2 p q pw bm (Dsk.new 40) Fil.alS0 Fil.alT0 w2 := Sys.opened hA B1.out s1 hp hn1 hn2 x1 x2 x3 (by simp [Fil.Sorted, Fil.alT0]) (by intro x hx; simp [Fil.alT0] at hx) (by decide)
  have H2 := Lib.hid h2; clear h2 hA hn2 x1 x2 x3 hp hn1
  go_wp2_with fail
  have a3 := froom_any H2.out.row (by decide)
  rw [show ((Fil.arN Fil.alT0.n : Int) * 64 - 4) = 1084 from by decide] at a3
  refine a3.mono ?_; rintro e w3 ⟨rfl, b3⟩
  have H3 := Lib.hid (H2.out.new b3); clear b3 a3
  go_wp2_with fail
  refine (commit_one H3.out Fil.alLive0 (by decide) (by decide) ⟨⟨#[97]⟩, ⟨#[120, 121, 122]⟩, false⟩ ⟨by decide, by decide⟩).mono ?_; rintro e w4 ⟨rfl, S4, R4, bm4, h4⟩
  have e4 : (Fil.commit (Dsk.new 40) Fil.alS0 Fil.alT0 [⟨⟨#[97]⟩, ⟨#[120, 121, 122]⟩, false⟩]).2.2.2 = 0 := Fil.alE1
  rw [e4]
  have H4 : Hid (Sys w (fun _ => False) 21000000001 S4 R4 p q pw bm4 Fil.alC1.1 Fil.alC1.2.1 Fil.alC1.2.2.1 w4) := Lib.hid h4
  clear h4 e4
  obtain ⟨o1, rb1, xs1, l1, l2, l3, l4⟩ := Fil.alLive1
  have L1 := Lib.hid l1; clear l1
  have L2 := Lib.hid l2; clear l2
  have L3 := Lib.hid l3; clear l3
  clear l4
  go_wp2_with fail
  have a5 := fused_any H4.out.row
  rw [L2.out, show ((Fil.used [([97], [120, 121, 122])] : Nat) : Int) = 16 from by decide] at a5
  refine a5.mono ?_; rintro e w5 ⟨rfl, b5⟩
  have H5 := Lib.hid (H4.out.new b5); clear b5 a5
  go_wp2_with fail
  refine (fopen_live H5.out.a.disk L1.out (by have := Fil.alO1; omega)).mono ?_; rintro e w6 ⟨p6, S6, R6, pw6, bm6, rfl, hp6, hA6, ⟨n6, hn1, hn2⟩, x1, x2, x3⟩
  have H6 := Lib.hid (H5.out.reopen (hA6.turns.mono (fun _ _ e => e.elim id id)) hA6.loS hA6.disk)
  have HX : Hid (FilRow p6 q pw6 bm6 Fil.alC1.2.2.1 w6) := Lib.hid ⟨hA6.row (o := objF (fcells Fil.alC1.2.2.1 q pw6 bm6)) (by simp), ⟨n6, hn2⟩, L1.out.g.rows.1, L1.out.g.rows.2, by rw [L2.out]; decide⟩
  clear hA6 hn2 x1 x2 x3 hn1 hp6
  go_wp2_with fail
  have a7 := fget_any HX.out ⟨#[97]⟩ (by decide)
  rw [L2.out, show Fil.get [([97], [120, 121, 122])] (⟨#[97]⟩ : ByteArray).data.toList = some [120, 121, 122] from by decide, show ba ((some [120, 121, 122] : Option (List UInt8)).getD []) = (⟨#[120, 121, 122]⟩ : ByteArray) from rfl] at a7
  refine a7.mono ?_; rintro e w7 ⟨rfl, b7⟩
  have H7 := Lib.hid (H6.out.new b7); clear b7 a7
  go_wp2_with fail
  refine (commit_one H7.out L1.out (by decide) (by have := Fil.alO1; omega) ⟨⟨#[97]⟩, ⟨#[]⟩, true⟩ ⟨by decide, by decide⟩).mono ?_; rintro e w8 ⟨rfl, S8, R8, bm8, h8⟩
  have e8 : (Fil.commit Fil.alC1.1 Fil.alC1.2.1 Fil.alC1.2.2.1 [⟨⟨#[97]⟩, ⟨#[]⟩, true⟩]).2.2.2 = 0 := Fil.alE2
  rw [e8]
  have H8 : Hid (Sys w (fun _ => False) 21000000002 S8 R8 p q pw bm8 Fil.alC2.1 Fil.alC2.2.1 Fil.alC2.2.2.1 w8) := Lib.hid h8
  clear h8 e8
  obtain ⟨o2, rb2, xs2, m1, m2, m3⟩ := Fil.alLive2
  have M1 := Lib.hid m1; clear m1
  have M2 := Lib.hid m2; clear m2
  have M3 := Lib.hid m3; clear m3
  go_wp2_with fail
  have a9 := fget_any H8.out.row ⟨#[97]⟩ (by decide)
  rw [M2.out, show Fil.get [] (⟨#[97]⟩ : ByteArray).data.toList = none from by decide] at a9
  refine a9.mono ?_; rintro e w9 ⟨rfl, b9⟩
  have H9 := Lib.hid (H8.out.new b9); clear b9 a9
  go_wp2_with fail
  refine (fopen_nil _).mono ?_; rintro e w10 ⟨rfl, b10⟩
  have H10 := Lib.hid (H9.out.new b10); clear b10
  go_wp2_with fail
  have a11 := fused_any H10.out.row
  rw [M2.out, show ((Fil.used [] : Nat) : Int) = 4 from by decide] at a11
  refine a11.mono ?_; rintro e w11 ⟨rfl, b11⟩
  have H11 := Lib.hid (H10.out.new b11); clear b11 a11
  go_wp2_with fail
  have a12 := commit_one H11.out M1.out (by decide) (by have := Fil.alO2; omega) ⟨⟨#[]⟩, ⟨#[]⟩, false⟩ ⟨by decide, by decide⟩
  have e12 : Fil.commit Fil.alC2.1 Fil.alC2.2.1 Fil.alC2.2.2.1 [⟨⟨#[]⟩, ⟨#[]⟩, false⟩] = (Fil.alC2.1, Fil.alC2.2.1, Fil.alC2.2.2.1, 2) := by
    unfold Fil.commit
    rw [if_neg (fun e => e M1.out.err), if_pos (by decide +kernel)]
  rw [e12] at a12
  refine a12.mono ?_; rintro e w12 ⟨rfl, S12, R12, bm12, h12⟩
  have H12 := Lib.hid h12; clear h12 e12 a12
  go_wp2_with fail
  go_ret
  exact ⟨rfl, H12.out.a.below⟩
end Go.Proofs.YtalklpnekbfehaaGreat
