/- Put together of: FilSto FilOncP FilOncS -/
import Derived.Test.YtalklpnekbfehaaGreatFilPlI
import Derived.Test.YtalklpnekbfehaaGreatFilArA
set_option maxRecDepth 100000
/-
  Open stores beside one another.
-/
set_option linter.unusedVariables false
set_option maxRecDepth 100000
namespace Go.Proofs.YtalklpnekbfehaaGreat
open Go.RowKit

theorem fopen_fresh {w : World} {S : Nat → Prop} {q : Nat} {d : Dsk.St} {s : Wal.St} {t : Fil.St} {o : Option (Nat × Nat)} {rb : Fil.Row} {xs : List Chb} (h : DiskAt S q d w) (hl : Fil.Live d s t o rb xs) (hops : d.ops ≤ 999000000) :
    Calls Tryz.prog 18 #[.pointer (some ⟨q, 0, none⟩)] w fun e V => ∃ p S' R' pw bm, e = .returned (.tuple #[.pointer (some ⟨p, 0, none⟩), .int .i64 0]) ∧ w.heap.size ≤ p ∧ Apn w S S [(p, objF (fcells t q pw bm))] S' R' pw q d s V ∧ (∃ nn, nn ≤ 21000000000 ∧ ContAt bm nn t.r V) ∧ ¬ S' bm ∧ ¬ R' bm ∧ bm ≠ p ∧ w.heap.size ≤ bm := by
  obtain ⟨hL, hd⟩ := hl.g.log.live hl.e
  obtain ⟨h1, h2, h3, h4⟩ := Fil.opn_fg hl.g hL hd hl.e
  refine (fopen_bm (m := d.n) h hl.g.n8 hops (fun s' hs' => ?_)).mono ?_
  · rw [h4] at hs'
    obtain rfl : s = s' := by simpa using hs'
    exact ⟨hl.g.log.ok, fun l hl' => Wal.slim_of_row (hl.g.log.ok.fine l hl').1⟩
  · intro e V hF
    unfold FoR2 at hF
    rw [Fil.opn_live hl] at hF
    exact hF
/-- an open store whose blocks lie in T -/
structure Sto (n k : Nat) (T : Nat → Prop) (p : Nat) (r : Fil.Row) (W : World) : Prop where
  ex : ∃ (S R : Nat → Prop) (q pw bm : Nat) (d : Dsk.St) (s : Wal.St) (t : Fil.St) (o : Option (Nat × Nat)) (rb : Fil.Row) (xs : List Chb),
    Sys W (fun j => S j ∨ R j ∨ j = p) (21000000000 + 60 * k) S R p q pw bm d s t W ∧ (∀ j, S j → T j) ∧ (∀ j, R j → T j) ∧ T bm ∧ Fil.Live d s t o rb xs ∧ Dsk.Up d ∧ t.r = r ∧ t.n = n ∧ d.n = n ∧ d.ops ≤ 50000 * k ∧ s.gen ≤ k
  hp : T p
  lt : ∀ j, T j → j < W.heap.size
section
variable {n k p : Nat} {T T' : Nat → Prop} {r : Fil.Row} {W W' : World}
theorem Sto.row (h : Sto n k T p r W) : ∃ q pw bm t, FilRow p q pw bm t W ∧ t.r = r ∧ t.n = n := by
  obtain ⟨S, R, q, pw, bm, d, s, t, o, rb, xs, h1, h2, h3, h4, h5, h6, h7, h8, _⟩ := h.ex
  exact ⟨q, pw, bm, t, h1.row, h7, h8⟩
theorem Sto.keep (h : Sto n k T p r W) (ht : Turns T' W W') (hT : ∀ j, T j → ¬ T' j) : Sto n k T p r W' := by
  obtain ⟨S, R, q, pw, bm, d, s, t, o, rb, xs, h1, h2, h3, h4, h5⟩ := h.ex
  obtain ⟨nn, m1, m2⟩ := h1.mp
  refine ⟨⟨S, R, q, pw, bm, d, s, t, o, rb, xs, ⟨⟨h1.a.disk.keeps ht (fun j hj => hT j (h2 j hj)), h1.a.wal.keeps ht (fun j hj => hT j (h3 j hj)), h1.a.apart, fun x hx => ?_, fun j hj => .inl (.inl hj), fun j hj => .inl (.inr (.inl hj)), Turns.refl _ _⟩, ⟨nn, m1, m2.turns ht (hT _ h4)⟩, h1.off, fun _ => .inr (.inr rfl), h1.srt, h1.fine, h1.sum⟩, h2, h3, h4, h5⟩, h.hp, fun j hj => Nat.lt_of_lt_of_le (h.lt j hj) ht.size⟩
  obtain ⟨g1, g2⟩ := h1.a.rows x hx
  refine ⟨ht.same g1 ?_, g2⟩
  simp at hx
  subst hx
  exact hT _ h.hp
theorem Sto.new (h : Sto n k T p r W) (hb : Below W.heap.size W W') : Sto n k T p r W' := h.keep (Turns.of_new hb (fun _ => False)) (fun _ _ e => e)
theorem stoOpen_any {w v1 : World} {S : Nat → Prop} {q : Nat} (h8 : 8 ≤ n) (hn : n ≤ 200) (hD : DiskAt S q (Dsk.new n) v1) (hb : Below w.heap.size w v1) (hS : ∀ j, S j → w.heap.size ≤ j) :
    Calls Tryz.prog 18 #[.pointer (some ⟨q, 0, none⟩)] v1 fun e V => ∃ p, e = .returned (.tuple #[.pointer (some ⟨p, 0, none⟩), .int .i64 0]) ∧ Sto n 0 (fun j => w.heap.size ≤ j ∧ j < V.heap.size) p [] V ∧ Below w.heap.size w V := by
  refine (fopen_fresh hD (Fil.new_live (n := n) (by omega) (by omega)) (by show (0 : Nat) ≤ _; omega)).mono ?_
  rintro e V ⟨p, S', R', pw, bm, rfl, hp, hA, ⟨nn, hn1, hn2⟩, x1, x2, x3, x4⟩
  have h2 : Sys w (fun _ => False) 21000000000 S' R' p q pw bm (Dsk.new n) ⟨0, 0, 1, Fil.logN n, [], 0⟩ ⟨false, 0, 0, n, [], 0⟩ V := Sys.opened hA hb hS hp hn1 hn2 x1 x2 x3 (by simp [Fil.Sorted]) (by intro x hx; simp at hx) (by show (0 : Nat) ≤ _; omega)
  have hsz := hb.size
  have hpl := row_lt (h2.a.row (b := p) (o := objF (fcells ⟨false, 0, 0, n, [], 0⟩ q pw bm)) (by simp))
  refine ⟨p, rfl, ⟨⟨S', R', q, pw, bm, _, _, _, _, _, _, h2.here, fun j hj => ⟨?_, h2.a.disk.lt j hj⟩, fun j hj => ⟨?_, h2.a.wal.lt j hj⟩, ⟨by omega, hn2.lt⟩, Fil.new_live (by omega) (by omega), ⟨rfl, by show (-1 : Int) < 0; decide⟩, rfl, rfl, rfl, Nat.zero_le _, Nat.zero_le _⟩, ⟨by omega, hpl⟩, fun j hj => hj.2⟩, h2.a.below⟩
  · rcases h2.a.loS j hj with e | e
    · exact e.elim
    · exact e
  · rcases h2.a.loR j hj with e | e
    · exact e.elim
    · exact e
/-- what a Commit answers, and the files behind it -/
def StoR (n : Nat) (r : Fil.Row) (L : List Chb) (E : Int) (r' : Fil.Row) : Prop :=
  (E = 0 ∧ r' = Fil.puts r (chs L) ∧ L.any Chb.bad = false ∧ Fil.used (Fil.puts r (chs L)) ≤ Fil.arN n * 64 - 4) ∨
  (E ≠ 0 ∧ r' = r ∧ (L.any Chb.bad = true ∨ Fil.arN n * 64 - 4 < Fil.used (Fil.puts r (chs L))))
theorem stoCommit_any (h : Sto n k T p r W) (hk : k ≤ 200) (h8 : 8 ≤ n) (hn : n ≤ 200) (a : Option Addr) (len cap : Nat) (L : List Chb) (hL : Chgs a len L W) (hok : ∀ x ∈ L, x.Ok) (hlen : len ≤ 60) (hap : ∀ b off, 0 < len → a = some ⟨b, off, none⟩ → ¬ T b) :
    Calls Tryz.prog 10 #[.pointer (some ⟨p, 0, none⟩), .slice a len cap] W fun e W' => ∃ T' E r', e = .returned (.int .i64 E) ∧ Sto n (k + 1) T' p r' W' ∧ (∀ j, T' j → T j ∨ W.heap.size ≤ j) ∧ Turns T W W' ∧ StoR n r L E r' := by
  obtain ⟨S, R, q, pw, bm, d, s, t, o, rb, xs, h1, h2, h3, h4, hl, hu, hr, htn, hdn, hop, hg⟩ := h.ex
  refine (fcommit_bm (m := d.n) h1 hl.g.log.ok hl.a (by omega) (by omega) (by omega) (by omega) a len cap L hL hok (by omega) (fun b off h0 e => ⟨fun c => hap b off h0 e (h2 b c), fun c => hap b off h0 e (h3 b c), fun c => hap b off h0 e (c ▸ h.hp)⟩)).mono ?_
  rintro e W' ⟨rfl, S', R', bm', k1, k2⟩
  have hcm := Fil.commit_live hl (by omega) L
  obtain ⟨u1, u2⟩ := Fil.commit_up hl hu L
  have hops := Fil.commit_ops hl L
  have hcn := Fil.commit_n d s t L
  have hTh : ∀ j, (S j ∨ R j ∨ j = p) → T j := fun j e => by
    rcases e with e | e | e
    · exact h2 j e
    · exact h3 j e
    · rw [e]; exact h.hp
  have hsub : ∀ j, (S' j ∨ R' j ∨ j = p ∨ j = bm') → T j ∨ W.heap.size ≤ j := fun j e => by
    rcases e with e | e | e | e
    · rcases k1.a.loS j e with e | e
      · exact .inl (hTh j e)
      · exact .inr e
    · rcases k1.a.loR j e with e | e
      · exact .inl (hTh j e)
      · exact .inr e
    · rw [e]; exact .inl h.hp
    · rcases k2 with k2 | k2
      · rw [e, k2]; exact .inl h4
      · rw [e]; exact .inr k2
  have hlt : ∀ j, (S' j ∨ R' j ∨ j = p ∨ j = bm') → j < W'.heap.size := fun j e => by
    rcases e with e | e | e | e
    · exact k1.a.disk.lt j e
    · exact k1.a.wal.lt j e
    · rw [e]; exact row_lt k1.row.row
    · obtain ⟨nn, _, m2⟩ := k1.mp
      rw [e]; exact m2.lt
  have htu : Turns T W W' := k1.a.turns.mono (fun j _ e => hTh j (e.elim id id))
  have k3 := (k1.more (show 21000000000 + 60 * k + len ≤ 21000000000 + 60 * (k + 1) by omega)).here
  generalize Fil.commit d s t L = F at *
  obtain ⟨dF, sF, tF, EF⟩ := F
  simp only at *
  cases hcm with
  | bad hb => exact ⟨_, _, r, rfl, ⟨⟨S', R', q, pw, bm', _, _, _, o, rb, xs, k3, fun j e => .inl e, fun j e => .inr (.inl e), .inr (.inr (.inr rfl)), hl, u1, hr, htn, hdn, by omega, by omega⟩, .inr (.inr (.inl rfl)), hlt⟩, hsub, htu, .inr ⟨by decide, rfl, .inl hb⟩⟩
  | full hb hf => exact ⟨_, _, r, rfl, ⟨⟨S', R', q, pw, bm', _, _, _, o, rb, xs, k3, fun j e => .inl e, fun j e => .inr (.inl e), .inr (.inr (.inr rfl)), hl, u1, hr, htn, hdn, by omega, by omega⟩, .inr (.inr (.inl rfl)), hlt⟩, hsub, htu, .inr ⟨by decide, rfl, .inr (by rw [← hr, ← htn]; exact hf)⟩⟩
  | @done _ _ _ o' rb' xs' hb hf hl' hr' hn' hg' => exact ⟨_, _, Fil.puts r (chs L), rfl, ⟨⟨S', R', q, pw, bm', _, _, _, o', rb', xs', k3, fun j e => .inl e, fun j e => .inr (.inl e), .inr (.inr (.inr rfl)), hl', u1, by rw [hr', hr], by omega, by omega, by omega, by omega⟩, .inr (.inr (.inl rfl)), hlt⟩, hsub, htu, .inl ⟨rfl, rfl, hb, by rw [← hr, ← htn]; exact hf⟩⟩
  | down => exact absurd rfl u2
end
/-- three stores beside one another, and the array that holds them -/
structure Tri (n B A k0 k1 k2 : Nat) (T0 T1 T2 : Nat → Prop) (p0 p1 p2 : Nat) (r0 r1 r2 : Fil.Row) (W : World) : Prop where
  row : W.heap[A]? = some (.cells #[.pointer (some ⟨p0, 0, none⟩), .pointer (some ⟨p1, 0, none⟩), .pointer (some ⟨p2, 0, none⟩)] 56 (0, 0))
  hA : A < B
  s0 : Sto n k0 T0 p0 r0 W
  s1 : Sto n k1 T1 p1 r1 W
  s2 : Sto n k2 T2 p2 r2 W
  l0 : ∀ j, T0 j → B ≤ j
  l1 : ∀ j, T1 j → B ≤ j
  l2 : ∀ j, T2 j → B ≤ j
  d01 : ∀ j, T0 j → ¬ T1 j
  d02 : ∀ j, T0 j → ¬ T2 j
  d12 : ∀ j, T1 j → ¬ T2 j
section
variable {n B A k k0 k1 k2 p0 p1 p2 : Nat} {T T0 T1 T2 : Nat → Prop} {r r0 r1 r2 : Fil.Row} {W W' : World}
theorem Tri.new (h : Tri n B A k0 k1 k2 T0 T1 T2 p0 p1 p2 r0 r1 r2 W) (hb : Below W.heap.size W W') : Tri n B A k0 k1 k2 T0 T1 T2 p0 p1 p2 r0 r1 r2 W' :=
  { h with row := by rw [hb.block _ (row_lt h.row)]; exact h.row, s0 := h.s0.new hb, s1 := h.s1.new hb, s2 := h.s2.new hb }
theorem Tri.cell (h : Tri n B A k0 k1 k2 T0 T1 T2 p0 p1 p2 r0 r1 r2 W) (i : Nat) : W.cell? ⟨A, i, none⟩ = (#[Value.pointer (some ⟨p0, 0, none⟩), .pointer (some ⟨p1, 0, none⟩), .pointer (some ⟨p2, 0, none⟩)] : Array Value)[i]? := cell_of_row _ _ _ _ _ _ h.row
theorem Tri.to0 (h : Tri n B A k0 k1 k2 T0 T1 T2 p0 p1 p2 r0 r1 r2 W) (hs : Sto n k T p0 r W') (ht : Turns T0 W W') (hT : ∀ j, T j → T0 j ∨ W.heap.size ≤ j) : Tri n B A k k1 k2 T T1 T2 p0 p1 p2 r r1 r2 W' :=
  ⟨ht.same h.row (fun e => by have := h.l0 _ e; have := h.hA; omega), h.hA, hs, h.s1.keep ht (fun j hj e => h.d01 j e hj), h.s2.keep ht (fun j hj e => h.d02 j e hj), fun j hj => (hT j hj).elim (h.l0 j) (fun c => by have := h.s0.lt _ h.s0.hp; have := h.l0 _ h.s0.hp; omega), h.l1, h.l2, fun j hj e => (hT j hj).elim (fun c => h.d01 j c e) (fun c => by have := h.s1.lt j e; omega), fun j hj e => (hT j hj).elim (fun c => h.d02 j c e) (fun c => by have := h.s2.lt j e; omega), h.d12⟩
theorem Tri.below0 (h : Tri n B A k0 k1 k2 T0 T1 T2 p0 p1 p2 r0 r1 r2 W) {C : Nat} {V : World} (hC : C ≤ B) (hV : Below C V W) (ht : Turns T0 W W') (hs : V.heap.size ≤ W.heap.size) : Below C V W' :=
  hV.trans (ht.below (Nat.le_trans hC (by have := h.s0.lt _ h.s0.hp; have := h.l0 _ h.s0.hp; omega)) (fun j _ e => by have := h.l0 j e; omega))
theorem Tri.to1 (h : Tri n B A k0 k1 k2 T0 T1 T2 p0 p1 p2 r0 r1 r2 W) (hs : Sto n k T p1 r W') (ht : Turns T1 W W') (hT : ∀ j, T j → T1 j ∨ W.heap.size ≤ j) : Tri n B A k0 k k2 T0 T T2 p0 p1 p2 r0 r r2 W' :=
  ⟨ht.same h.row (fun e => by have := h.l1 _ e; have := h.hA; omega), h.hA, h.s0.keep ht (fun j hj e => h.d01 j hj e), hs, h.s2.keep ht (fun j hj e => h.d12 j e hj), h.l0, fun j hj => (hT j hj).elim (h.l1 j) (fun c => by have := h.s1.lt _ h.s1.hp; have := h.l1 _ h.s1.hp; omega), h.l2, fun j hj e => (hT j e).elim (fun c => h.d01 j hj c) (fun c => by have := h.s0.lt j hj; omega), h.d02, fun j hj e => (hT j hj).elim (fun c => h.d12 j c e) (fun c => by have := h.s2.lt j e; omega)⟩
theorem Tri.below1 (h : Tri n B A k0 k1 k2 T0 T1 T2 p0 p1 p2 r0 r1 r2 W) {C : Nat} {V : World} (hC : C ≤ B) (hV : Below C V W) (ht : Turns T1 W W') (hs : V.heap.size ≤ W.heap.size) : Below C V W' :=
  hV.trans (ht.below (Nat.le_trans hC (by have := h.s1.lt _ h.s1.hp; have := h.l1 _ h.s1.hp; omega)) (fun j _ e => by have := h.l1 j e; omega))
theorem Tri.to2 (h : Tri n B A k0 k1 k2 T0 T1 T2 p0 p1 p2 r0 r1 r2 W) (hs : Sto n k T p2 r W') (ht : Turns T2 W W') (hT : ∀ j, T j → T2 j ∨ W.heap.size ≤ j) : Tri n B A k0 k1 k T0 T1 T p0 p1 p2 r0 r1 r W' :=
  ⟨ht.same h.row (fun e => by have := h.l2 _ e; have := h.hA; omega), h.hA, h.s0.keep ht (fun j hj e => h.d02 j hj e), h.s1.keep ht (fun j hj e => h.d12 j hj e), hs, h.l0, h.l1, fun j hj => (hT j hj).elim (h.l2 j) (fun c => by have := h.s2.lt _ h.s2.hp; have := h.l2 _ h.s2.hp; omega), h.d01, fun j hj e => (hT j e).elim (fun c => h.d02 j hj c) (fun c => by have := h.s0.lt j hj; omega), fun j hj e => (hT j e).elim (fun c => h.d12 j hj c) (fun c => by have := h.s1.lt j hj; omega)⟩
theorem Tri.below2 (h : Tri n B A k0 k1 k2 T0 T1 T2 p0 p1 p2 r0 r1 r2 W) {C : Nat} {V : World} (hC : C ≤ B) (hV : Below C V W) (ht : Turns T2 W W') (hs : V.heap.size ≤ W.heap.size) : Below C V W' :=
  hV.trans (ht.below (Nat.le_trans hC (by have := h.s2.lt _ h.s2.hp; have := h.l2 _ h.s2.hp; omega)) (fun j _ e => by have := h.l2 j e; omega))
end
end Go.Proofs.YtalklpnekbfehaaGreat

/-
  Plain mathematics: the last change of a name is the one that counts; parts of changes.
-/
set_option linter.unusedVariables false
set_option maxRecDepth 100000
namespace Go.Proofs.YtalklpnekbfehaaGreat
open Go.RowKit
namespace Fil
theorem get_ins_ne (y : Txt × Txt) (x : Txt) (hx : x ≠ y.1) : ∀ r : Row, get (ins y r) x = get r x
  | [] => by
    have : (y.1 == x) = false := beq_eq_false_iff_ne.2 (fun e => hx e.symm)
    simp [get, ins, this]
  | z :: r => by
    have hy : (y.1 == x) = false := beq_eq_false_iff_ne.2 (fun e => hx e.symm)
    have ih := get_ins_ne y x hx r
    unfold get at ih ⊢
    unfold ins
    split
    · rw [List.find?_cons]; simp only [hy]
    · rw [List.find?_cons, List.find?_cons]
      cases hz : (z.1 == x) with
      | true => rfl
      | false => exact ih
theorem get_ins_eq (y : Txt × Txt) : ∀ r : Row, (∀ z ∈ r, z.1 ≠ y.1) → get (ins y r) y.1 = some y.2
  | [], _ => by simp [get, ins]
  | z :: r, h => by
    have hz : (z.1 == y.1) = false := beq_eq_false_iff_ne.2 (h z List.mem_cons_self)
    have ih := get_ins_eq y r (fun w hw => h w (List.mem_cons_of_mem _ hw))
    unfold get at ih ⊢
    unfold ins
    split
    · rw [List.find?_cons]; simp
    · rw [List.find?_cons]; simp only [hz]; exact ih
theorem get_del_eq (r : Row) (n : Txt) : get (del r n) n = none := by
  unfold get del
  rw [Option.map_eq_none_iff, List.find?_eq_none]
  intro z hz e
  have h1 := (List.mem_filter.1 hz).2
  have e : (z.1 == n) = true := e
  rw [e] at h1
  exact absurd h1 (by decide)
theorem get_del_ne (n x : Txt) (hx : x ≠ n) : ∀ r : Row, get (del r n) x = get r x
  | [] => rfl
  | z :: r => by
    have ih := get_del_ne n x hx r
    unfold get del at ih ⊢
    rw [List.filter_cons]
    cases hz : (z.1 == n) with
    | true =>
      have e : z.1 = n := eq_of_beq hz
      have hzx : (z.1 == x) = false := beq_eq_false_iff_ne.2 (fun c => hx (c.symm.trans e))
      rw [if_neg (by decide), List.find?_cons (a := z)]
      simp only [hzx]
      exact ih
    | false =>
      rw [if_pos (by decide), List.find?_cons, List.find?_cons]
      cases hzx : (z.1 == x) with
      | true => rfl
      | false => exact ih
theorem get_put1 (r : Row) (c : Chg) (x : Txt) : get (put1 r c) x = if x = c.name then (if c.gone = true then none else some c.data) else get r x := by
  unfold put1
  by_cases hx : x = c.name
  · subst hx
    rw [if_pos rfl]
    split
    · exact get_del_eq r c.name
    · exact get_ins_eq (c.name, c.data) _ (fun z hz => (mem_del.1 hz).2)
  · rw [if_neg hx]
    split
    · exact get_del_ne _ _ hx r
    · exact (get_ins_ne _ _ hx _).trans (get_del_ne _ _ hx r)
end Fil
theorem ba_ext {a b : ByteArray} (h : a.data.toList = b.data.toList) : a = b := by
  cases a with | mk a => cases b with | mk b =>
  simp only [ByteArray.mk.injEq]
  exact Array.ext' h
/-- the last of the first k changes of a name -/
def lastOf (l : List Chb) (nm : ByteArray) : Nat → Int
  | 0 => -1
  | k + 1 => if (l.getD k default).n = nm then (k : Int) else lastOf l nm k
theorem lastOf_le (l : List Chb) (nm : ByteArray) : ∀ k, -1 ≤ lastOf l nm k ∧ lastOf l nm k < k
  | 0 => ⟨by show (-1 : Int) ≤ -1; omega, by show (-1 : Int) < ((0 : Nat) : Int); omega⟩
  | k + 1 => by
    have := lastOf_le l nm k
    unfold lastOf
    split
    · omega
    · omega
theorem get_last (l : List Chb) (nm : ByteArray) : ∀ k, k ≤ l.length → (lastOf l nm k = -1 ∧ Fil.get (Fil.puts [] (chs (l.take k))) nm.data.toList = none) ∨
    ∃ j, j < k ∧ lastOf l nm k = (j : Int) ∧ Fil.get (Fil.puts [] (chs (l.take k))) nm.data.toList = if (l.getD j default).g = true then none else some (l.getD j default).d.data.toList
  | 0, _ => .inl ⟨rfl, rfl⟩
  | k + 1, h => by
    have ih := get_last l nm k (by omega)
    rw [chs_take l k (by omega), Fil.puts_append]
    show (_ ∧ Fil.get (Fil.put1 (Fil.puts [] (chs (l.take k))) (l.getD k default).c) _ = _) ∨ ∃ j, _ ∧ _ ∧ Fil.get (Fil.put1 (Fil.puts [] (chs (l.take k))) (l.getD k default).c) _ = _
    rw [Fil.get_put1]
    unfold lastOf
    by_cases hn : (l.getD k default).n = nm
    · right
      refine ⟨k, by omega, by rw [if_pos hn], ?_⟩
      have : nm.data.toList = (l.getD k default).c.name := by rw [← hn]; rfl
      rw [if_pos this]
      rfl
    · have hne : ¬ nm.data.toList = (l.getD k default).c.name := fun e => hn (ba_ext e.symm)
      rw [if_neg hn, if_neg hne]
      rcases ih with ih | ⟨j, h1, h2, h3⟩
      · exact .inl ih
      · exact .inr ⟨j, by omega, h2, h3⟩
/-- what the law asks of a name of the files -/
theorem last_is (l : List Chb) {i : Nat} {y : Fil.Txt × Fil.Txt} (hy : (Fil.puts [] (chs l))[i]? = some y) : ∃ j, j < l.length ∧ lastOf l (ba y.1) l.length = (j : Int) ∧ (l.getD j default).g = false ∧ (l.getD j default).d = ba y.2 ∧ Fil.get (Fil.puts [] (chs l)) (ba y.1).data.toList = some y.2 := by
  have hs : Fil.Sorted (Fil.puts [] (chs l)) := Fil.Sorted.puts (by simp [Fil.Sorted]) _
  have hg := Fil.get_at hs hy
  have e : (ba y.1).data.toList = y.1 := ba_list y.1
  have h := get_last l (ba y.1) l.length (Nat.le_refl _)
  rw [List.take_of_length_le (Nat.le_refl _), e, hg] at h
  rcases h with ⟨_, h⟩ | ⟨j, h1, h2, h3⟩
  · cases h
  · refine ⟨j, h1, h2, ?_, ?_, by rw [e]; exact hg⟩
    · cases hgg : (l.getD j default).g with
      | false => rfl
      | true => rw [hgg, if_pos rfl] at h3; cases h3
    · cases hgg : (l.getD j default).g with
      | false =>
        rw [hgg, if_neg (by decide)] at h3
        have : (l.getD j default).d.data.toList = y.2 := by simpa using h3.symm
        exact ba_ext (by rw [this]; exact (ba_list y.2).symm)
      | true => rw [hgg, if_pos rfl] at h3; cases h3
/-- the first j changes were made one by one -/
def OneR (n : Nat) (l : List Chb) (i : Nat) (r : Fil.Row) : Prop := r = Fil.puts [] (chs (l.take i)) ∧ (∀ j, j < i → (l.getD j default).bad = false) ∧ ∀ j, j ≤ i → Fil.used (Fil.puts [] (chs (l.take j))) ≤ Fil.arN n * 64 - 4
theorem OneR.zero {n : Nat} (h8 : 8 ≤ n) (l : List Chb) : OneR n l 0 [] := by
  refine ⟨rfl, fun j hj => by omega, fun j hj => ?_⟩
  obtain rfl : j = 0 := by omega
  show 4 ≤ _
  unfold Fil.arN Fil.arAt Fil.logN
  omega
theorem OneR.next {n i : Nat} {l : List Chb} {r r' : Fil.Row} {E : Int} (h : OneR n l i r) (hi : i < l.length) (hs : StoR n r [l.getD i default] E r') (hE : E = 0) : OneR n l (i + 1) r' := by
  rcases hs with ⟨_, h2, h3, h4⟩ | ⟨h1, _⟩
  · obtain ⟨g1, g2, g3⟩ := h
    have e : Fil.puts [] (chs (l.take (i + 1))) = Fil.puts r (chs [l.getD i default]) := by rw [chs_take l i hi, Fil.puts_append, g1]; rfl
    refine ⟨h2.trans e.symm, fun j hj => ?_, fun j hj => ?_⟩
    · rcases Nat.lt_or_ge j i with h | h
      · exact g2 j h
      · obtain rfl : j = i := by omega
        simpa using h3
    · rcases Nat.lt_or_ge j (i + 1) with h | h
      · exact g3 j (by omega)
      · obtain rfl : j = i + 1 := by omega
        rw [e]; exact h4
  · exact absurd hE h1
theorem any_take {l : List Chb} (h : ∀ j, j < l.length → (l.getD j default).bad = false) (L : List Chb) (hL : ∀ x ∈ L, x ∈ l) : L.any Chb.bad = false := by
  rw [List.any_eq_false]
  intro x hx
  obtain ⟨j, hj, e⟩ := List.getElem_of_mem (hL x hx)
  have := h j hj
  rw [List.getD_eq_getElem?_getD, List.getElem?_eq_getElem hj] at this
  simp only [Option.getD_some] at this
  rw [e] at this
  rw [this]; decide
/-- so the changes at once, and in two parts, are answered OK and come to the same -/
theorem OneR.all {n k : Nat} {l : List Chb} {r ra rb rc : Fil.Row} {Ea Eb Ec : Int} (h : OneR n l l.length r) (hk : k ≤ l.length) (ha : StoR n [] l Ea ra) (hb : StoR n [] (l.take k) Eb rb) (hc : StoR n rb (l.drop k) Ec rc) :
    Ea = 0 ∧ Eb = 0 ∧ Ec = 0 ∧ ra = Fil.puts [] (chs l) ∧ rc = Fil.puts [] (chs l) ∧ r = Fil.puts [] (chs l) := by
  obtain ⟨h1, h2, h3⟩ := h
  have hl := h3 l.length (Nat.le_refl _)
  rw [List.take_of_length_le (Nat.le_refl _)] at h1 hl
  have e1 : Ea = 0 ∧ ra = Fil.puts [] (chs l) := by
    rcases ha with ⟨a, b, _⟩ | ⟨_, _, c | c⟩
    · exact ⟨a, b⟩
    · rw [any_take h2 l (fun x hx => hx)] at c; cases c
    · omega
  have e2 : Eb = 0 ∧ rb = Fil.puts [] (chs (l.take k)) := by
    rcases hb with ⟨a, b, _⟩ | ⟨_, _, c | c⟩
    · exact ⟨a, b⟩
    · rw [any_take h2 (l.take k) (fun x hx => List.mem_of_mem_take hx)] at c; cases c
    · have := h3 k hk; omega
  have e4 : Fil.puts rb (chs (l.drop k)) = Fil.puts [] (chs l) := by
    rw [e2.2, ← Fil.puts_append]
    congr 1
    unfold chs
    rw [← List.map_append, List.take_append_drop]
  have e3 : Ec = 0 ∧ rc = Fil.puts [] (chs l) := by
    rcases hc with ⟨a, b, _⟩ | ⟨_, _, c | c⟩
    · exact ⟨a, b.trans e4⟩
    · rw [any_take h2 (l.drop k) (fun x hx => List.mem_of_mem_drop hx)] at c; cases c
    · rw [e4] at c; omega
  exact ⟨e1.1, e2.1, e3.1, e1.2, e3.2, h1⟩
theorem Chgs.take {a : Option Addr} {len : Nat} {l : List Chb} {w : World} (h : Chgs a len l w) {k : Nat} (hk : k ≤ len) : Chgs a k (l.take k) w := by
  refine ⟨by rw [List.length_take, h.1]; omega, fun j hj => ?_⟩
  obtain ⟨b, off, e, hc⟩ := h.2 j (by omega)
  refine ⟨b, off, e, ?_⟩
  have : (l.take k).getD j default = l.getD j default := by rw [List.getD_eq_getElem?_getD, List.getD_eq_getElem?_getD, List.getElem?_take_of_lt hj]
  rw [this]; exact hc
theorem Chgs.drop {b off len : Nat} {l : List Chb} {w : World} (h : Chgs (some ⟨b, off, none⟩) len l w) {k : Nat} (hk : k ≤ len) : Chgs (some ⟨b, off + k * 3, none⟩) (len - k) (l.drop k) w := by
  refine ⟨by rw [List.length_drop, h.1], fun j hj => ?_⟩
  obtain ⟨b', off', e, hc⟩ := h.2 (k + j) (by omega)
  obtain ⟨rfl, rfl⟩ : b = b' ∧ off = off' := by simpa using e
  refine ⟨b, off + k * 3, rfl, ?_⟩
  have : (l.drop k).getD j default = l.getD (k + j) default := by rw [List.getD_eq_getElem?_getD, List.getD_eq_getElem?_getD, List.getElem?_drop]
  rw [this, show off + k * 3 + j * 3 = off + (k + j) * 3 by omega]; exact hc
end Go.Proofs.YtalklpnekbfehaaGreat

/-
  The array of open stores while it is filled.
-/
set_option linter.unusedVariables false
set_option maxRecDepth 100000
namespace Go.Proofs.YtalklpnekbfehaaGreat
open Go.RowKit

theorem Sto.names {n k p : Nat} {T : Nat → Prop} {r : Fil.Row} {W : World} (h : Sto n k T p r W) : Calls Tryz.prog 11 #[.pointer (some ⟨p, 0, none⟩)] W fun e w' => ∃ v, e = .returned v ∧ Own W.heap.size v (nam r) w' ∧ Below W.heap.size W w' := by
  obtain ⟨q, pw, bm, t, h1, h2, _⟩ := h.row
  rw [← h2]; exact fnames_any h1
theorem Sto.used {n k p : Nat} {T : Nat → Prop} {r : Fil.Row} {W : World} (h : Sto n k T p r W) : Calls Tryz.prog 12 #[.pointer (some ⟨p, 0, none⟩)] W fun e w' => e = .returned (.int .i64 ((Fil.used r : Nat) : Int)) ∧ Below W.heap.size W w' := by
  obtain ⟨q, pw, bm, t, h1, h2, _⟩ := h.row
  rw [← h2]; exact fused_any h1
theorem Sto.get_at {n k p : Nat} {T : Nat → Prop} {r : Fil.Row} {W : World} (h : Sto n k T p r W) (nm : ByteArray) (hn : nm.size ≤ 281474976710656) (y : Fil.Txt) (hg : Fil.get r nm.data.toList = some y) : Calls Tryz.prog 23 #[.pointer (some ⟨p, 0, none⟩), .string nm] W fun e w' => e = .returned (.tuple #[.string (ba y), .bool true]) ∧ Below W.heap.size W w' := by
  obtain ⟨q, pw, bm, t, h1, h2, _⟩ := h.row
  have := fget_any h1 nm hn
  rw [h2, hg] at this
  exact this
theorem Sto.len {n k p : Nat} {T : Nat → Prop} {r : Fil.Row} {W : World} (h : Sto n k T p r W) : r.length ≤ 1099511627 ∧ Fil.Fine r := by
  obtain ⟨q, pw, bm, t, h1, h2, _⟩ := h.row
  rw [← h2]; exact ⟨h1.len, h1.fine⟩
theorem slice_lo (a : Option Addr) (len cap k : Nat) (hk : k ≤ cap) (u : World) : (Instr.sliceAt 43 (.slice a len cap) none (some (.int .i64 (k : Int))) none).run Tryz.prog u = .ok (.slice a k cap) u := by
  have h1 : (0 : Int) ≤ (k : Int) ∧ (k : Int) ≤ (cap : Int) := ⟨by omega, by omega⟩
  simp [Instr.sliceAt, Instr.slice, Instr.sliceBounds, Instr.sliceBound, asIntOf, run_underlying Tryz.underlying43, h1, hk]
  try (cases a <;> simp [Addr.add])
theorem slice_hi (b off len cap k : Nat) (hk : k ≤ len) (hc : len ≤ cap) (u : World) : (Instr.sliceAt 43 (.slice (some ⟨b, off, none⟩) len cap) (some (.int .i64 (k : Int))) none none).run Tryz.prog u = .ok (.slice (some (if cap = k then ⟨b, off, none⟩ else ⟨b, off + k * 3, none⟩)) (len - k) (cap - k)) u := by
  have h1 : (0 : Int) ≤ (k : Int) ∧ (k : Int) ≤ (len : Int) := ⟨by omega, by omega⟩
  simp [Instr.sliceAt, Instr.slice, Instr.sliceBounds, Instr.sliceBound, asIntOf, run_underlying Tryz.underlying43, h1, hk]
  by_cases e : cap = k
  · simp [e]
  · simp only [if_neg e]
    unfold Addr.add
    by_cases h0 : k * 3 = 0
    · have : k = 0 := by omega
      subst this
      simp
    · rw [if_neg h0]
theorem slice_hn (u : World) : (Instr.sliceAt 43 (.slice none 0 0) (some (.int .i64 ((0 : Nat) : Int))) none none).run Tryz.prog u = .ok (.slice none 0 0) u := by
  simp [Instr.sliceAt, Instr.slice, Instr.sliceBounds, Instr.sliceBound, asIntOf, run_underlying Tryz.underlying43]
/-- the rest of the changes, as a slice -/
theorem rest_chgs (a1 : Option Addr) (len cap k : Nat) (l : List Chb) (w : World) (hk : k ≤ len) (hc : len ≤ cap) (hz : a1 = none → len = 0 ∧ cap = 0) (h : Chgs a1 len l w) (h0 : 0 < len) : ∃ b off a2, a1 = some ⟨b, off, none⟩ ∧ (∀ u, (Instr.sliceAt 43 (.slice a1 len cap) (some (.int .i64 (k : Int))) none none).run Tryz.prog u = .ok (.slice a2 (len - k) (cap - k)) u) ∧
    (∀ u, Chgs a1 len l u → Chgs a2 (len - k) (l.drop k) u) ∧ ∀ b2 off2, a2 = some ⟨b2, off2, none⟩ → b2 = b := by
  obtain ⟨b, off, rfl, _⟩ := h.2 0 h0
  refine ⟨b, off, _, rfl, fun u => slice_hi b off len cap k hk hc u, fun u hu => ?_, fun b2 off2 e => ?_⟩
  · by_cases e : cap = k
    · rw [if_pos e]
      have e2 : len - k = 0 := by omega
      have e3 : l.drop k = [] := List.drop_eq_nil_of_le (by rw [hu.1]; omega)
      rw [e2, e3]
      exact Chgs.nil _ _
    · rw [if_neg e]; exact hu.drop hk
  · split at e
    · cases e; rfl
    · cases e; rfl
/-- whatever the changes are, as the argument has them -/
theorem rest_all (a1 : Option Addr) (len cap k : Nat) (l : List Chb) (w : World) (hk : k ≤ len) (hc : len ≤ cap) (hz : a1 = none → len = 0 ∧ cap = 0) (h : Chgs a1 len l w) : 
    (len = 0 ∧ k = 0 ∧ l = [] ∧ ∃ a2 c2, ∀ u, (Instr.sliceAt 43 (.slice a1 len cap) (some (.int .i64 (k : Int))) none none).run Tryz.prog u = .ok (.slice a2 0 c2) u) ∨
    (0 < len ∧ ∃ b off a2, a1 = some ⟨b, off, none⟩ ∧ (∀ u, (Instr.sliceAt 43 (.slice a1 len cap) (some (.int .i64 (k : Int))) none none).run Tryz.prog u = .ok (.slice a2 (len - k) (cap - k)) u) ∧ (∀ u, Chgs a1 len l u → Chgs a2 (len - k) (l.drop k) u) ∧ ∀ b2 off2, a2 = some ⟨b2, off2, none⟩ → b2 = b) := by
  rcases Nat.eq_zero_or_pos len with e | e
  · left
    subst e
    obtain rfl : k = 0 := by omega
    refine ⟨rfl, rfl, List.eq_nil_of_length_eq_zero h.1, ?_⟩
    refine ⟨(if cap = 0 then a1 else a1.map (·.add 0)), cap, fun u => ?_⟩
    simp [Instr.sliceAt, Instr.slice, Instr.sliceBounds, Instr.sliceBound, asIntOf, run_underlying Tryz.underlying43]
    try (cases a1 <;> simp [Addr.add])
  · right
    obtain ⟨b, off, a2, h1, h2, h3, h4⟩ := rest_chgs a1 len cap k l w hk hc hz h e
    exact ⟨e, b, off, a2, h1, h2, h3, h4⟩
/-- the rest of the changes -/
theorem rest_is (a1 : Option Addr) (len cap k : Nat) (l : List Chb) (w : World) (hk : k ≤ len) (hc : len ≤ cap) (hz : a1 = none → len = 0 ∧ cap = 0) (h : Chgs a1 len l w) : ∃ a2 c2,
    (∀ u, (Instr.sliceAt 43 (.slice a1 len cap) (some (.int .i64 (k : Int))) none none).run Tryz.prog u = .ok (.slice a2 (len - k) c2) u) ∧ (∀ u, Chgs a1 len l u → Chgs a2 (len - k) (l.drop k) u) ∧ ∀ b2 off2, 0 < len - k → a2 = some ⟨b2, off2, none⟩ → 0 < len ∧ ∃ off, a1 = some ⟨b2, off, none⟩ := by
  rcases rest_all a1 len cap k l w hk hc hz h with ⟨rfl, rfl, rfl, a2, c2, h1⟩ | ⟨h0, b, off, a2, h1, h2, h3, h4⟩
  · exact ⟨a2, c2, h1, fun u _ => Chgs.nil _ _, fun b2 off2 h => by omega⟩
  · exact ⟨a2, cap - k, h2, h3, fun b2 off2 _ e => ⟨h0, off, by rw [h4 b2 off2 e]; exact h1⟩⟩
theorem slice_chg1 (x : Chb) (w : World) : (Instr.buildSlice 43 1 #[(0, .agg #[.string x.n, .string x.d, .bool x.g])]).run Tryz.prog w = .ok (.slice (some ⟨w.heap.size, 0, none⟩) 1 1) (w.alloc (.cells #[.string x.n, .string x.d, .bool x.g] 58)) := by
  obtain ⟨i, hi, h0, h1, h2⟩ := info_parts chg_info
  have hf := Great.fill_whole (s := 3) (by omega) [.agg #[.string x.n, .string x.d, .bool x.g]] ((Array.range (1 * 3)).map ((Value.agg #[.string ⟨#[]⟩, .string ⟨#[]⟩, .bool false]).cells[· % (Value.agg #[.string ⟨#[]⟩, .string ⟨#[]⟩, .bool false]).cells.size]!)) (fun v hv => by simp at hv; rw [hv]; rfl) (by simp)
  refine run_buildSlice w 43 58 1 _ #[.string x.n, .string x.d, .bool x.g] i _ Tryz.underlying43 hi h0 (by rw [h1]; decide) (by rw [h1]; decide) ?_
  rw [h1]
  have e : ([Value.agg #[.string x.n, .string x.d, .bool x.g]].flatMap fun v => v.cells.toList).toArray = #[.string x.n, .string x.d, .bool x.g] := by simp [Value.cells]
  rw [e] at hf
  exact hf
theorem run_cut_hi {P : Program} {o : Oper} {a : Act} {u : World} (t : TypeId) (x h : Operand) (ho : o.op = .slice t x none (some h) none) (xv hv v : Value) (hx : a.eval x = xv) (hh : a.eval h = hv) (hr : (Instr.sliceAt t xv none (some hv) none).run P u = .ok v u) : (execOp a.eval o).run P u = .ok (.value v) u := by
  unfold execOp
  simp only [ho, Option.map_some, Option.map_none, hx, hh, Sem.run_bind, hr, Result.andThen_ok, Sem.run_pure]
theorem run_cut_lo {P : Program} {o : Oper} {a : Act} {u : World} (t : TypeId) (x h : Operand) (ho : o.op = .slice t x (some h) none none) (xv hv v : Value) (hx : a.eval x = xv) (hh : a.eval h = hv) (hr : (Instr.sliceAt t xv (some hv) none none).run P u = .ok v u) : (execOp a.eval o).run P u = .ok (.value v) u := by
  unfold execOp
  simp only [ho, Option.map_some, Option.map_none, hx, hh, Sem.run_bind, hr, Result.andThen_ok, Sem.run_pure]
structure St3 (n B A k : Nat) (W : World) : Prop where
  ex : ∃ (cs : Array Value) (p : Nat → Nat) (T : Nat → Nat → Prop), W.heap[A]? = some (.cells cs 56 (0, 0)) ∧ cs.size = 3 ∧ (∀ j, j < k → cs[j]? = some (.pointer (some ⟨p j, 0, none⟩)) ∧ Sto n 0 (T j) (p j) [] W ∧ ∀ b, T j b → B ≤ b) ∧ ∀ i j, i < j → j < k → ∀ b, T i b → ¬ T j b
section
variable {n B A k : Nat} {w V : World}
theorem St3.start (h : w.heap[A]? = some (.cells #[.pointer none, .pointer none, .pointer none] 56 (0, 0))) : St3 n B A 0 w :=
  ⟨⟨_, fun _ => 0, fun _ _ => False, h, rfl, fun j hj => by omega, fun i j _ hj => by omega⟩⟩
theorem St3.cell (h : St3 n B A k w) (hk : k < 3) (hb : Below w.heap.size w V) : ∃ v, V.cell? ⟨A, k, none⟩ = some v ∧ V.frozen? ⟨A, k, none⟩ = false := by
  obtain ⟨cs, p, T, h1, h2, _⟩ := h.ex
  have hr : V.heap[A]? = some (.cells cs 56 (0, 0)) := by rw [hb.block _ (row_lt h1)]; exact h1
  exact ⟨cs[k]'(by omega), by rw [cell_of_row _ _ k _ _ _ hr, Array.getElem?_eq_getElem (by omega)], row_free hr k⟩
theorem St3.next {p' : Nat} (h : St3 n B A k w) (hk : k < 3) (hAB : A < B) (hBw : B ≤ w.heap.size) (hb : Below w.heap.size w V) (hs : Sto n 0 (fun j => w.heap.size ≤ j ∧ j < V.heap.size) p' [] V) :
    St3 n B A (k + 1) (V.setCell ⟨A, k, none⟩ (.pointer (some ⟨p', 0, none⟩))) := by
  obtain ⟨cs, p, T, h1, h2, h3, h4⟩ := h.ex
  have hr : V.heap[A]? = some (.cells cs 56 (0, 0)) := by rw [hb.block _ (row_lt h1)]; exact h1
  have ht : Turns (fun j => j = A) V (V.setCell ⟨A, k, none⟩ (.pointer (some ⟨p', 0, none⟩))) := (Turns.refl _ V).set A k _ (fun _ => rfl)
  refine ⟨⟨cs.setIfInBounds k (.pointer (some ⟨p', 0, none⟩)), fun j => if j = k then p' else p j, fun j => if j = k then (fun b => w.heap.size ≤ b ∧ b < V.heap.size) else T j, heap_setCell_same _ _ k _ _ _ hr, by simp [h2], fun j hj => ?_, fun i j hij hj b => ?_⟩⟩
  · by_cases e : j = k
    · subst e
      simp only [if_true]
      refine ⟨by rw [Array.getElem?_setIfInBounds_self_of_lt (by omega)], hs.keep ht (fun b hb' e => by have := hb'.1; omega), fun b hb' => by have := hb'.1; omega⟩
    · simp only [if_neg e]
      obtain ⟨g1, g2, g3⟩ := h3 j (by omega)
      refine ⟨by rw [Array.getElem?_setIfInBounds_ne (fun c => e c.symm)]; exact g1, (g2.new hb).keep ht (fun b hb' e => by have := g3 b hb'; omega), g3⟩
  · have hi : i ≠ k := by omega
    simp only [if_neg hi]
    by_cases e : j = k
    · simp only [if_pos e]
      intro hb' c
      have := ((h3 i (by omega)).2.1).lt b hb'
      omega
    · simp only [if_neg e]
      exact h4 i j hij (by omega) b
theorem St3.tri (h : St3 n B A 3 w) (hAB : A < B) : ∃ T0 T1 T2 p0 p1 p2, Tri n B A 0 0 0 T0 T1 T2 p0 p1 p2 [] [] [] w := by
  obtain ⟨cs, p, T, h1, h2, h3, h4⟩ := h.ex
  have g0 := h3 0 (by omega)
  have g1 := h3 1 (by omega)
  have g2 := h3 2 (by omega)
  have hcs : cs = #[.pointer (some ⟨p 0, 0, none⟩), .pointer (some ⟨p 1, 0, none⟩), .pointer (some ⟨p 2, 0, none⟩)] := by
    apply Array.ext_getElem?
    intro i
    match i with
    | 0 => exact g0.1
    | 1 => exact g1.1
    | 2 => exact g2.1
    | i + 3 => rw [Array.getElem?_eq_none (by omega), Array.getElem?_eq_none (by simp)]
  rw [hcs] at h1
  exact ⟨T 0, T 1, T 2, p 0, p 1, p 2, ⟨h1, hAB, g0.2.1, g1.2.1, g2.2.1, g0.2.2, g1.2.2, g2.2.2, h4 0 1 (by omega) (by omega), h4 0 2 (by omega) (by omega), h4 1 2 (by omega) (by omega)⟩⟩
end
end Go.Proofs.YtalklpnekbfehaaGreat
