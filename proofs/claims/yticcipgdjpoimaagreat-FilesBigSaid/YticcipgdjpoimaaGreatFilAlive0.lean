/-
  The chapter's example: what the document's side comes to; Open of files that are in order.
-/
import Derived.Test.YticcipgdjpoimaaGreatFilGdA
import Derived.Test.YticcipgdjpoimaaGreatWalB
set_option linter.unusedVariables false
set_option maxRecDepth 100000
namespace Go.Proofs.YticcipgdjpoimaaGreat
open Go.RowKit
namespace Fil
def alL1 : List Chb := [⟨⟨#[97]⟩, ⟨#[120, 121, 122]⟩, false⟩]
def alL2 : List Chb := [⟨⟨#[97]⟩, ⟨#[]⟩, true⟩]
def alL3 : List Chb := [⟨⟨#[]⟩, ⟨#[]⟩, false⟩]
def alS0 : Wal.St := ⟨0, 0, 1, 5, [], 0⟩
def alT0 : St := ⟨false, 0, 0, 40, [], 0⟩
def alC1 : Dsk.St × Wal.St × St × Int := commit (Dsk.new 40) alS0 alT0 alL1
def alC2 : Dsk.St × Wal.St × St × Int := commit alC1.1 alC1.2.1 alC1.2.2.1 alL2
theorem alE1 : alC1.2.2.2 = 0 := by decide +kernel
theorem alE2 : alC2.2.2.2 = 0 := by decide +kernel
theorem alO1 : alC1.1.ops ≤ 1000 := by decide +kernel
theorem alO2 : alC2.1.ops ≤ 1000 := by decide +kernel
theorem alLive0 : Live (Dsk.new 40) alS0 alT0 none [] [] := new_live (by decide) (by decide)
theorem live_done {d : Dsk.St} {s : Wal.St} {t : St} {l : List Chb} {F : Dsk.St × Wal.St × St × Int} (h : CmR d s t l F) (e : F.2.2.2 = 0) : ∃ o rb xs, Live F.1 F.2.1 F.2.2.1 o rb xs ∧ F.2.2.1.r = puts t.r (chs l) ∧ F.2.2.1.n = t.n ∧ F.2.1.gen ≤ s.gen + 1 := by
  cases h with
  | bad _ => cases e
  | full _ _ => cases e
  | done h1 h2 h3 h4 h5 h6 => exact ⟨_, _, _, h3, h4, h5, h6⟩
  | down _ _ _ _ _ _ _ _ _ => cases e
theorem alLive1 : ∃ o rb xs, Live alC1.1 alC1.2.1 alC1.2.2.1 o rb xs ∧ alC1.2.2.1.r = [([97], [120, 121, 122])] ∧ alC1.2.2.1.n = 40 ∧ alC1.2.1.gen ≤ 1 := by
  obtain ⟨o, rb, xs, h1, h2, h3, h4⟩ := live_done (commit_live alLive0 (by decide) alL1) alE1
  exact ⟨o, rb, xs, h1, h2.trans (by decide +kernel), h3, h4⟩
theorem alLive2 : ∃ o rb xs, Live alC2.1 alC2.2.1 alC2.2.2.1 o rb xs ∧ alC2.2.2.1.r = [] ∧ alC2.2.2.1.n = 40 := by
  obtain ⟨o, rb, xs, h1, h2, h3, h4⟩ := alLive1
  obtain ⟨o', rb', xs', g1, g2, g3, g4⟩ := live_done (commit_live h1 (by omega) alL2) alE2
  rw [h2] at g2
  exact ⟨o', rb', xs', g1, g2.trans (by decide +kernel), g3.trans h3⟩
theorem Live.a {d : Dsk.St} {s : Wal.St} {t : St} {o : Option (Nat × Nat)} {rb : Row} {xs : List Chb} (h : Live d s t o rb xs) : t.a < 2 := by
  have ta : t.a = aOf o := congrArg St.a h.t
  rw [ta]
  have := h.g.hd
  cases o with
  | none => decide
  | some x => exact this.1
theorem Live.n {d : Dsk.St} {s : Wal.St} {t : St} {o : Option (Nat × Nat)} {rb : Row} {xs : List Chb} (h : Live d s t o rb xs) : t.n = d.n := congrArg St.n h.t
theorem Live.err {d : Dsk.St} {s : Wal.St} {t : St} {o : Option (Nat × Nat)} {rb : Row} {xs : List Chb} (h : Live d s t o rb xs) : t.err = 0 := congrArg St.err h.t
end Fil

theorem fopen_live {w : World} {S : Nat → Prop} {q : Nat} {d : Dsk.St} {s : Wal.St} {t : Fil.St} {o : Option (Nat × Nat)} {rb : Fil.Row} {xs : List Chb} (h : DiskAt S q d w) (hl : Fil.Live d s t o rb xs) (hops : d.ops ≤ 999000000) :
    Calls Tryz.prog 18 #[.pointer (some ⟨q, 0, none⟩)] w fun e V => ∃ p S' R' pw bm, e = .returned (.tuple #[.pointer (some ⟨p, 0, none⟩), .int .i64 0]) ∧ w.heap.size ≤ p ∧ Apn w S S [(p, objF (fcells t q pw bm))] S' R' pw q d s V ∧ (∃ nn, nn ≤ 21000000000 ∧ ContAt bm nn t.r V) ∧ ¬ S' bm ∧ ¬ R' bm ∧ bm ≠ p := by
  obtain ⟨hL, hd⟩ := hl.g.log.live hl.e
  obtain ⟨h1, h2, h3, h4⟩ := Fil.opn_fg hl.g hL hd hl.e
  refine (fopen_any (m := d.n) h hl.g.n8 hops (fun s' hs' => ?_)).mono ?_
  · rw [h4] at hs'
    obtain rfl : s = s' := by simpa using hs'
    exact ⟨hl.g.log.ok, fun l hl' => Wal.slim_of_row (hl.g.log.ok.fine l hl').1⟩
  · intro e V hF
    unfold FoR at hF
    rw [Fil.opn_live hl] at hF
    exact hF
theorem Sys.opened {w w1 V : World} {S S' R' : Nat → Prop} {p q pw bm N : Nat} {d : Dsk.St} {s : Wal.St} {t : Fil.St} (hA : Apn w1 S S [(p, objF (fcells t q pw bm))] S' R' pw q d s V) (hb : Below w.heap.size w w1) (hS : ∀ j, S j → w.heap.size ≤ j)
    (hp : w1.heap.size ≤ p) {nn : Nat} (hn : nn ≤ N) (hm : ContAt bm nn t.r V) (h1 : ¬ S' bm) (h2 : ¬ R' bm) (h3 : bm ≠ p) (hs : Fil.Sorted t.r) (hf : Fil.Fine t.r) (hsum : Fil.sum t.r ≤ 1099511) :
    Sys w (fun _ => False) N S' R' p q pw bm d s t V := by
  have hsz := hb.size
  refine ⟨⟨hA.disk, hA.wal, hA.apart, hA.rows, fun j hj => .inr ?_, fun j hj => .inr ?_, (Turns.of_new (hb.trans ((hA.turns.below (B := w.heap.size) hsz (fun k _ e => by rcases e with e | e <;> exact hS k e)))) _)⟩, ⟨nn, hn, hm⟩, ⟨h1, h2, h3⟩, fun e => by omega, hs, hf, hsum⟩
  · rcases hA.loS j hj with e | e
    · exact hS j e
    · omega
  · rcases hA.loR j hj with e | e
    · exact hS j e
    · omega
/-- the disk was opened once more -/
theorem Sys.reopen {w W V : World} {T : Nat → Prop} {N : Nat} {S R S' : Nat → Prop} {p q pw bm : Nat} {d : Dsk.St} {s : Wal.St} {t : Fil.St} (h : Sys w T N S R p q pw bm d s t W) (ht : Turns S W V) (hS : ∀ j, S' j → S j ∨ W.heap.size ≤ j) (hd : DiskAt S' q d V) : Sys w T N S' R p q pw bm d s t V := by
  obtain ⟨nn, h1, h2⟩ := h.mp
  refine ⟨h.a.turnDisk ht hS hd, ⟨nn, h1, h2.turns ht h.off.1⟩, ⟨fun e => ?_, h.off.2.1, h.off.2.2⟩, h.pT, h.srt, h.fine, h.sum⟩
  rcases hS _ e with e | e
  · exact h.off.1 e
  · have := h2.lt; omega
theorem chgs_one {g : Nat} {x y : ByteArray} {z : Bool} {T : TypeId} {w : World} (h : w.heap[g]? = some (.cells #[.string x, .string y, .bool z] T (0, 0))) : Chgs (some ⟨g, 0, none⟩) 1 [⟨x, y, z⟩] w :=
  ⟨rfl, fun j hj => ⟨g, 0, rfl, by
    obtain rfl : j = 0 := by omega
    exact ⟨by rw [cell_of_row _ _ _ _ _ _ h]; rfl, by rw [cell_of_row _ _ _ _ _ _ h]; rfl, by rw [cell_of_row _ _ _ _ _ _ h]; rfl⟩⟩⟩
theorem Sys.fresh {w W : World} {N : Nat} {T S R : Nat → Prop} {p q pw bm : Nat} {d : Dsk.St} {s : Wal.St} {t : Fil.St} (h : Sys w T N S R p q pw bm d s t W) (o : Obj) : ¬ S W.heap.size ∧ ¬ R W.heap.size ∧ W.heap.size ≠ p :=
  ⟨fun e => by have := h.a.disk.lt _ e; omega, fun e => by have := h.a.wal.lt _ e; omega, fun e => by
    have := row_lt h.row.row; omega⟩
theorem build_chg (n d : ByteArray) (w : World) : (Instr.build 58 #[(0, .string n), (1, .string d)]).run Tryz.prog w = .ok (.agg #[.string n, .string d, .bool false]) w := run_build w _ _ _ (by kernel_rfl)
theorem build_gone (n : ByteArray) (w : World) : (Instr.build 58 #[(0, .string n), (2, .bool true)]).run Tryz.prog w = .ok (.agg #[.string n, .string ⟨#[]⟩, .bool true]) w := run_build w _ _ _ (by kernel_rfl)
theorem build_none (w : World) : (Instr.build 58 #[]).run Tryz.prog w = .ok (.agg #[.string ⟨#[]⟩, .string ⟨#[]⟩, .bool false]) w := run_build w _ _ _ (by kernel_rfl)
theorem commit_one {w W : World} {N : Nat} {T S R : Nat → Prop} {p q pw bm : Nat} {d : Dsk.St} {s : Wal.St} {t : Fil.St} {o : Option (Nat × Nat)} {rb : Fil.Row} {xs : List Chb} (h : Sys w T N S R p q pw bm d s t W) (hl : Fil.Live d s t o rb xs) (hN : N ≤ 1000000000000) (hops : d.ops ≤ 999000000) (x : Chb) (hx : x.Ok) :
    Calls Tryz.prog 10 #[.pointer (some ⟨p, 0, none⟩), .slice (some ⟨W.heap.size, 0, none⟩) 1 1] (W.alloc (.cells #[.string x.n, .string x.d, .bool x.g] 58)) fun e W' => e = .returned (.int .i64 (Fil.commit d s t [x]).2.2.2) ∧ ∃ S' R' bm', Sys w T (N + 1) S' R' p q pw bm' (Fil.commit d s t [x]).1 (Fil.commit d s t [x]).2.1 (Fil.commit d s t [x]).2.2.1 W' := by
  have hb : Below W.heap.size W (W.alloc (.cells #[.string x.n, .string x.d, .bool x.g] 58)) := (Below.refl _ W).alloc (Nat.le_refl _) _
  obtain ⟨g1, g2, g3⟩ := h.fresh (.cells #[] 0)
  exact fcommit_any (h.new hb) hl.g.log.ok hl.a (by rw [hl.n]; exact hl.g.ok.hi) (by rw [hl.n]; exact hl.g.n8) hN hops (some ⟨W.heap.size, 0, none⟩) 1 1 [x] (chgs_one (heap_alloc_new W _)) (fun y hy => by simp at hy; subst hy; exact hx) (by omega) (fun b off _ e => by
    obtain rfl : W.heap.size = b := by simpa using congrArg (Option.map Addr.block) e
    exact ⟨g1, g2, g3⟩)
end Go.Proofs.YticcipgdjpoimaaGreat
