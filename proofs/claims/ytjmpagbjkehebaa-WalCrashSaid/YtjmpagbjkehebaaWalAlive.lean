/-
  The chapter's example holds; how a log and its disk go on.
-/
import Derived.Test.YtjmpagbjkehebaaWalAppend3
import Derived.Test.YtjmpagbjkehebaaWalSafe
import Derived.Test.YtjmpagbjkehebaaWalSame
import Derived.Test.YtjmpagbjkehebaaDskFill
set_option linter.unusedVariables false
set_option maxRecDepth 100000
namespace Go.Proofs.Ytjmpagbjkehebaa
open Go.RowKit

section
variable {w : World} {S0 R0 : Nat → Prop} {kept : List (Nat × Obj)} {S R : Nat → Prop} {p q : Nat} {d : Dsk.St} {s : Wal.St} {W W' : World}
theorem append_any {m : Nat} (hd : DiskAt S0 q d w) (hw : WalAt R0 p q s w) (ha : ∀ j, S0 j → ¬ R0 j) (hs : s.Ok m) (hops : d.ops ≤ 1099511400000) (a : Option Addr) (len cap : Nat) (l : Wal.Grp) (hst : Strs a len (bas l) w) (hap : ∀ b off, 0 < len → a = some ⟨b, off, none⟩ → ¬ (S0 b ∨ R0 b))
    (hlen : len ≤ 140737488355328) (hz : ∀ j, ((bas l).getD j .empty).size ≤ 9223372036854700000) :
    Calls Try.prog 9 #[.pointer (some ⟨p, 0, none⟩), .slice a len cap] w (AppR w S0 R0 p q (Wal.append d s l)) := by
  unfold Wal.append
  by_cases he : s.err = 0
  · rw [if_neg (by simpa using he)]
    by_cases hr : (Oct.row l).2 = 0
    · rw [if_neg (by simpa using hr)]
      by_cases hf : s.n - 1 - s.used < Wal.secs (Oct.row l).1
      · rw [if_pos hf]
        have := append_row hd hw ha hs a len cap l hst hlen hz he (.inr hf)
        rw [if_neg (by simpa using hr)] at this
        exact this
      · rw [if_neg hf]
        exact append_go hd hw ha hs hops a len cap l hst hap hlen hz he hr (by omega)
    · rw [if_pos (by simpa using hr)]
      have := append_row hd hw ha hs a len cap l hst hlen hz he (.inl hr)
      rw [if_pos (by simpa using hr)] at this
      exact this
  · rw [if_pos (by simpa using he)]
    exact append_err (m := m) hd hw ha a len cap he
theorem Apn.comp {S' R' : Nat → Prop} {d' : Dsk.St} {s' : Wal.St} (h : Apn w S0 R0 kept S R p q d s W) (k : Apn W S R [] S' R' p q d' s' W') : Apn w S0 R0 kept S' R' p q d' s' W' := by
  have hsz := h.turns.size
  refine ⟨k.disk, k.wal, k.apart, fun x hx => ?_, fun j hj => ?_, fun j hj => ?_, h.turns.trans k.turns (fun j hj e => ?_)⟩
  · obtain ⟨h1, h2, h3⟩ := h.rows x hx
    have hlt := row_lt h1
    refine ⟨k.turns.same h1 (fun e => e.elim h2 h3), fun e => ?_, fun e => ?_⟩
    · rcases k.loS _ e with e | e
      · exact h2 e
      · omega
    · rcases k.loR _ e with e | e
      · exact h3 e
      · omega
  · rcases k.loS j hj with e | e
    · exact h.loS j e
    · exact .inr (by omega)
  · rcases k.loR j hj with e | e
    · exact h.loR j e
    · exact .inr (by omega)
  · rcases e with e | e
    · rcases h.loS j e with e | e
      · exact .inl e
      · omega
    · rcases h.loR j e with e | e
      · exact .inr e
      · omega
/-- another log has been opened on the disk -/
theorem Apn.reopen {R' : Nat → Prop} {p' : Nat} {s' : Wal.St} (h : Apn w S0 R0 kept S R p q d s W) (hb : Below W.heap.size W W') (hw : WalAt R' p' q s' W') (hR : ∀ j, R' j → W.heap.size ≤ j) : Apn w S0 R0 kept S R' p' q d s' W' := by
  have h1 := h.new hb
  have hsz := h.turns.size
  refine ⟨h1.disk, hw, fun j hj hr => ?_, fun x hx => ⟨(h1.rows x hx).1, (h1.rows x hx).2.1, fun e => ?_⟩, h.loS, fun j hj => .inr (by have := hR j hj; omega), h1.turns⟩
  · have := h.disk.lt j hj; have := hR j hr; omega
  · have := row_lt (h.rows x hx).1; have := hR _ e; omega
end
theorem Apn.below {w W : World} {kept : List (Nat × Obj)} {S R : Nat → Prop} {p q : Nat} {d : Dsk.St} {s : Wal.St} (h : Apn w (fun _ => False) (fun _ => False) kept S R p q d s W) : Below w.heap.size w W :=
  h.turns.below (Nat.le_refl _) (fun j hj e => by rcases e with e | e <;> exact e.elim)

namespace Wal
def alL : Grp := [[97], [98]]
def alX : Grp := [Dsk.round [120] 256]
def alS0 : St := ⟨0, 0, 0, 4, [], 0⟩
def alS1 : St := ⟨0, 1, 0, 4, [alL], 0⟩
def alS2 : St := ⟨1, 0, 0, 4, [], 0⟩
def alD1 : Dsk.St := (append (Dsk.new 4) alS0 alL).1
theorem al1 : (append (Dsk.new 4) alS0 alL).2.2 = 0 ∧ (append (Dsk.new 4) alS0 alL).2.1 = alS1 := by
  constructor
  · decide +kernel
  · kernel_rfl
theorem al2 : append alD1 alS1 alX = (alD1, alS1, 4) := by
  unfold append
  rw [if_neg (by decide), if_neg (by decide +kernel), if_pos (by decide +kernel)]
theorem al3 : (reset alD1 alS1).2.2 = 0 ∧ (reset alD1 alS1).2.1 = alS2 := by
  constructor
  · decide +kernel
  · kernel_rfl
theorem al4 : (Oct.row alL).2 = 0 ∧ secs (Oct.row alL).1 = 1 := by decide +kernel
theorem alG : Good alD1 alS1 := by
  have := (append_good (new_good (n := 4) (by decide) (by decide)) alL).1
  have e := al1.2
  unfold alS0 at e
  rw [e] at this
  exact this
theorem alO : open_ alD1 0 4 = (some alS1, 0) := open_good alG (alG.live rfl).1 (alG.live rfl).2 rfl
theorem alO0 : open_ (Dsk.new 4) 0 4 = (some alS0, 0) := by
  have g := new_good (n := 4) (by decide) (by decide)
  exact open_good g (g.live rfl).1 (g.live rfl).2 rfl
theorem alOps : alD1.ops ≤ 100 := by decide +kernel
end Wal

theorem strs_two {g : Nat} {x y : ByteArray} {T : TypeId} {w : World} (h : w.heap[g]? = some (.cells #[.string x, .string y] T (0, 0))) : Strs (some ⟨g, 0, none⟩) 2 [x, y] w :=
  ⟨rfl, fun j hj => ⟨g, 0, rfl, by
    rw [cell_of_row _ _ _ _ _ _ h]
    match j, hj with
    | 0, _ => rfl
    | 1, _ => rfl
    | (k + 2), h => exact absurd h (by omega)⟩⟩
theorem strs_one {g : Nat} {x : ByteArray} {T : TypeId} {w : World} (h : w.heap[g]? = some (.cells #[.string x] T (0, 0))) : Strs (some ⟨g, 0, none⟩) 1 [x] w :=
  ⟨rfl, fun j hj => ⟨g, 0, rfl, by
    rw [cell_of_row _ _ _ _ _ _ h]
    match j, hj with
    | 0, _ => rfl
    | (k + 1), h => exact absurd h (by omega)⟩⟩
theorem lit_rows {g g2 : Nat} {w : World} (h : w.heap[g]? = some (.cells #[.string ⟨#[97]⟩, .string ⟨#[98]⟩] 9 (0, 0))) (h2 : w.heap[g2]? = some (.cells #[.slice (some ⟨g, 0, none⟩) 2 2] 34 (0, 0))) :
    GRows (fun j => j = g ∨ j = g2) (.slice (some ⟨g2, 0, none⟩) 1 1) [Wal.alL] w := by
  refine ⟨fun k hk => ?_, [.slice (some ⟨g, 0, none⟩) 2 2], ⟨rfl, .inr ⟨g2, 1, _, rfl, Nat.zero_le _, h2, Nat.le_refl _, by decide, rfl, rfl⟩⟩, fun k hk => ?_, rfl, fun i l hl => ?_⟩
  · rcases hk with rfl | rfl
    · exact row_lt h
    · exact row_lt h2
  · simp only [Value.ownBlock, Option.some.injEq] at hk; exact .inr hk.symm
  · match i, hl with
    | 0, hl =>
      simp at hl; subst hl
      refine ⟨_, rfl, ⟨rfl, .inr ⟨g, 2, _, rfl, Nat.zero_le _, h, Nat.le_refl _, by decide, rfl, rfl⟩⟩, fun k hk => ?_⟩
      simp only [Value.ownBlock, Option.some.injEq] at hk; exact .inl hk.symm
    | (k + 1), hl => simp at hl
theorem Apn.make {w W : World} {S R : Nat → Prop} {p q : Nat} {d : Dsk.St} {s : Wal.St} (hb : Below w.heap.size w W) (hd : DiskAt S q d W) (hw : WalAt R p q s W) (ha : ∀ j, S j → ¬ R j) (hS : ∀ j, S j → w.heap.size ≤ j) (hR : ∀ j, R j → w.heap.size ≤ j) :
    Apn w (fun _ => False) (fun _ => False) [] S R p q d s W :=
  ⟨hd, hw, ha, fun x hx => by simp at hx, fun j hj => .inr (hS j hj), fun j hj => .inr (hR j hj), Turns.of_new hb _⟩
theorem alSlim : ∀ l ∈ [Wal.alL], Slim l := by intro l hl; simp at hl; subst hl; exact ⟨by decide, by decide⟩

theorem open_is {S : Nat → Prop} {p : Nat} {d : Dsk.St} {w : World} (h : DiskAt S p d w) (k n : Nat) (h2 : 2 ≤ n) (hfit : k + n ≤ d.n) (s : Wal.St) (ho : Wal.open_ d (k : Int) (n : Int) = (some s, 0)) :
    Calls Try.prog 7 #[.pointer (some ⟨p, 0, none⟩), .int .i64 (k : Int), .int .i64 (n : Int)] w fun e w' => Below w.heap.size w w' ∧ ∃ R q, e = .returned (.tuple #[.pointer (some ⟨q, 0, none⟩), .int .i64 0]) ∧ WalAt R q p s w' ∧ ∀ j, R j → w.heap.size ≤ j :=
  (open_any h k n h2 hfit).mono fun e w' ⟨hb, hc⟩ => by
    rw [ho] at hc
    rcases hc with ⟨hn, _⟩ | ⟨s', R, q, hs, _, he, hw, hR⟩
    · cases hn
    · obtain rfl : s = s' := by simpa using hs
      exact ⟨hb, R, q, he, hw, hR⟩

set_option maxHeartbeats 2000000 in
theorem alive_any (w : World) : Calls Try.prog 5 #[] w fun e w' => e = .returned (.bool true) ∧ Below w.heap.size w w' := by
  have hfill : ∀ z : World, Calls Try.prog 18 #[.string ⟨#[120]⟩, .int .i64 4] z fun e w' => e = .returned (.string (ba (Dsk.round [120] 256))) ∧ Below z.heap.size z w' := fun z => fill_pos ⟨#[120]⟩ (by decide) 4 (by decide) z
  have Hfill := Lib.hid hfill; clear hfill
  go_enter Try.func5, Try.ntmps5
  go_wp2_with fail
  refine (new_any 4 (by decide) (by decide) _).mono ?_; rintro e w1 ⟨rfl, b1, d1⟩
  generalize w.heap.size + 2 = q at d1 ⊢
  have s1 : ∀ j, NewS w j → w.heap.size ≤ j := fun j h => h.1
  have B1 := Lib.hid b1; clear b1
  have D1 := Lib.hid d1; clear d1
  go_wp2_with fail
  refine (open_is D1.out 0 4 (by decide) (by decide) Wal.alS0 Wal.alO0).mono ?_; rintro e w2 ⟨b2, R, p, rfl, hw, hR⟩
  have h2 := Apn.make (B1.out.trans (b2.mono B1.out.size)) (D1.out.new b2) hw (fun j hj hr => by have := D1.out.lt j hj; have := hR j hr; omega) s1 (fun j hj => by have := hR j hj; have := B1.out.size; omega)
  have H2 := Lib.hid h2; clear h2
  clear hw hR b2
  go_wp2_with fail
  have r3 := heap_alloc_new w2 (.cells #[.string ⟨#[97]⟩, .string ⟨#[98]⟩] 9)
  have h3 := H2.out.new ((Below.refl _ w2).alloc (Nat.le_refl _) (.cells #[.string ⟨#[97]⟩, .string ⟨#[98]⟩] 9))
  have n3 := need_any (some ⟨w2.heap.size, 0, none⟩) 2 2 (bas Wal.alL) _ (strs_two r3) (by decide) (fun j => by have := Slim.get (l := Wal.alL) ⟨by decide, by decide⟩ j; omega) (by rw [lists_bas]; decide +kernel)
  rw [lists_bas, Wal.al4.1, Wal.al4.2, if_pos rfl] at n3
  refine n3.mono ?_; rintro e w3 ⟨rfl, b3⟩
  have H3 := Lib.hid (h3.new b3); clear h3
  clear r3 b3 n3
  go_wp2_with fail
  -- Append(a, b)
  have r4 := heap_alloc_new w3 (.cells #[.string ⟨#[97]⟩, .string ⟨#[98]⟩] 9)
  have h4 := H3.out.new ((Below.refl _ w3).alloc (Nat.le_refl _) (.cells #[.string ⟨#[97]⟩, .string ⟨#[98]⟩] 9))
  have a4 := append_any (m := 4) h4.disk h4.wal h4.apart (Wal.new_good (n := 4) (by decide) (by decide)).ok (by decide) (some ⟨w3.heap.size, 0, none⟩) 2 2 Wal.alL (strs_two r4)
    (fun b off _ e => by
      obtain rfl : w3.heap.size = b := by simpa using congrArg (Option.map Addr.block) e
      intro hc
      rcases hc with hc | hc
      · have := H3.out.disk.lt _ hc; omega
      · have := H3.out.wal.lt _ hc; omega) (by decide) (fun j => by have := Slim.get (l := Wal.alL) ⟨by decide, by decide⟩ j; omega)
  refine a4.mono ?_; rintro e w4 ⟨rfl, S4, R4, k4⟩
  have h5 := h4.comp k4
  rw [Wal.al1.2] at h5
  rw [Wal.al1.1]
  have H5 : Hid (Apn w (fun _ => False) (fun _ => False) [] S4 R4 p q Wal.alD1 Wal.alS1 w4) := Lib.hid h5
  clear h5 k4 a4 h4 r4
  go_wp2_with fail
  have a5 := room_any H5.out.wal Wal.alG.ok
  rw [show ((Wal.alS1.n - 1 - Wal.alS1.used : Nat) : Int) = 2 from rfl] at a5
  refine a5.mono ?_; rintro e w5 ⟨rfl, j5, hj5⟩
  have b5 : Below w4.heap.size w4 w5 := by rw [hj5]; exact drewN_below (Below.refl _ _) j5
  have H6 := Lib.hid (H5.out.new b5); clear hj5 b5 a5
  go_wp2_with fail
  refine (Hfill.out _).mono ?_; rintro e w6 ⟨rfl, b6⟩
  have H7 := Lib.hid (H6.out.new b6); clear b6
  go_wp2_with fail
  have r8 := heap_alloc_new w6 (.cells #[.string (ba (Dsk.round [120] 256))] 9)
  have h8 := H7.out.new ((Below.refl _ w6).alloc (Nat.le_refl _) (.cells #[.string (ba (Dsk.round [120] 256))] 9))
  have a8 := append_any h8.disk h8.wal h8.apart Wal.alG.ok (by have := Wal.alOps; omega) (some ⟨w6.heap.size, 0, none⟩) 1 1 Wal.alX (strs_one r8)
    (fun b off _ e => by
      obtain rfl : w6.heap.size = b := by simpa using congrArg (Option.map Addr.block) e
      intro hc
      rcases hc with hc | hc
      · have := H7.out.disk.lt _ hc; omega
      · have := H7.out.wal.lt _ hc; omega) (by decide) (fun j => by have := Slim.get (l := Wal.alX) ⟨by decide, by decide +kernel⟩ j; omega)
  rw [Wal.al2] at a8
  refine a8.mono ?_; rintro e w8 ⟨rfl, S8, R8, k8⟩
  have H9 := Lib.hid (h8.comp k8)
  clear k8 a8 h8 r8
  go_wp2_with fail
  -- Open again
  refine (open_is H9.out.disk 0 4 (by decide) (by have := Wal.alG.ok.hi; exact this) Wal.alS1 Wal.alO).mono ?_; rintro e w9 ⟨b9, R9, p9, rfl, hw9, hR9⟩
  have H10 := Lib.hid (H9.out.new b9)
  have HX := Lib.hid hw9; clear hw9
  have hX : ∀ j, R9 j → ¬ S8 j ∧ ¬ R8 j := fun j hj => ⟨fun e => by have := H9.out.disk.lt j e; have := hR9 j hj; omega, fun e => by have := H9.out.wal.lt j e; have := hR9 j hj; omega⟩
  have HXR := Lib.hid hX; clear hX hR9 b9
  go_wp2_with fail
  -- Reset
  have a10 := reset_any H10.out.disk H10.out.wal H10.out.apart Wal.alG.ok (by have := Wal.alOps; omega)
  rw [Wal.al3.1, Wal.al3.2] at a10
  refine a10.mono ?_; rintro e w10 ⟨rfl, S10, R10, k10⟩
  have H11 := Lib.hid (H10.out.comp k10)
  have HX2 := Lib.hid (HX.out.keeps k10.turns (fun j hj e => by
    rcases e with e | e
    · exact (HXR.out j hj).1 e
    · exact (HXR.out j hj).2 e))
  clear k10 a10
  go_wp2_with fail
  refine (open_nil 0 4 _).mono ?_; rintro e w11 ⟨rfl, b11⟩
  have H12 := Lib.hid (H11.out.new b11)
  have HX3 := Lib.hid (HX2.out.new b11); clear b11
  go_wp2_with fail
  refine (open_arg H12.out.disk 3 2 (by decide) (by decide) (.inr (by
    have e : (Wal.reset Wal.alD1 Wal.alS1).1.n = 4 := by decide +kernel
    rw [e]; decide))).mono ?_; rintro e w12 ⟨rfl, b12⟩
  have H13 := Lib.hid (H12.out.new b12)
  have HX4 := Lib.hid (HX3.out.new b12); clear b12
  go_wp2_with fail
  refine (groups_any HX4.out (by decide) alSlim).mono ?_; rintro e w13 ⟨b13, v13, rfl, g13⟩
  have H14 := Lib.hid (H13.out.new b13); clear b13
  obtain ⟨a13, c13, hv13, _⟩ := g13.form
  subst hv13
  have G13 := Lib.hid g13; clear g13
  go_wp2_with fail
  have b14 : Below w13.heap.size w13 ((w13.alloc (.cells #[.string ⟨#[97]⟩, .string ⟨#[98]⟩] 9)).alloc (.cells #[.slice (some ⟨w13.heap.size, 0, none⟩) 2 2] 34)) := ((Below.refl _ w13).alloc (Nat.le_refl _) _).alloc (by simp) _
  have q1 : ((w13.alloc (.cells #[.string ⟨#[97]⟩, .string ⟨#[98]⟩] 9)).alloc (.cells #[.slice (some ⟨w13.heap.size, 0, none⟩) 2 2] 34)).heap[w13.heap.size]? = some (.cells #[.string ⟨#[97]⟩, .string ⟨#[98]⟩] 9 (0, 0)) := row_alloc (heap_alloc_new w13 _) _
  have q2 : ((w13.alloc (.cells #[.string ⟨#[97]⟩, .string ⟨#[98]⟩] 9)).alloc (.cells #[.slice (some ⟨w13.heap.size, 0, none⟩) 2 2] 34)).heap[w13.heap.size + 1]? = some (.cells #[.slice (some ⟨w13.heap.size, 0, none⟩) 2 2] 34 (0, 0)) := alloc_at _ _ _ (by simp)
  have H15 := Lib.hid (H14.out.new b14)
  refine (sameGrps_eq _ _ [Wal.alL] _ (G13.out.new b14) (lit_rows q1 q2) (by decide) alSlim).mono ?_; rintro e w15 ⟨rfl, b15⟩
  have H16 := Lib.hid (H15.out.new b15); clear b15 b14 q1 q2
  go_wp2_with fail
  have a16 := gen_any H16.out.wal
  rw [show ((Wal.alS2.gen : Nat) : Int) = 1 from rfl] at a16
  refine a16.mono ?_; rintro e w16 ⟨rfl, rfl⟩
  go_wp2_with fail
  have hok2 : Wal.St.Ok Wal.alS2 4 := ⟨by decide, by decide, by decide, by decide, by decide, by decide, fun l hl => by simp [Wal.alS2] at hl, .inl rfl⟩
  have a17 := room_any H16.out.wal hok2
  rw [show ((Wal.alS2.n - 1 - Wal.alS2.used : Nat) : Int) = 3 from rfl] at a17
  refine a17.mono ?_; rintro e w17 ⟨rfl, j17, hj17⟩
  have b17 : Below w15.heap.size w15 w17 := by rw [hj17]; exact drewN_below (Below.refl _ _) j17
  have H17 := Lib.hid (H16.out.new b17); clear hj17 b17 a17 a16
  go_wp2_with fail
  refine (groups_any H17.out.wal (by decide) (fun l hl => by simp [Wal.alS2] at hl)).mono ?_; rintro e w18 ⟨b18, v18, rfl, g18⟩
  have H18 := Lib.hid (H17.out.new b18); clear b18
  obtain ⟨a18, c18, hv18, _⟩ := g18.form
  rw [show Wal.alS2.L.length = 0 from rfl] at hv18
  subst hv18
  clear g18
  go_wp2_with fail
  go_ret
  exact ⟨rfl, H18.out.below⟩
end Go.Proofs.Ytjmpagbjkehebaa
