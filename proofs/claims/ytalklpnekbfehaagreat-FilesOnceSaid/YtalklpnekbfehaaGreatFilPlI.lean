/-
  What holds between the steps of a script where the disk does not stand still.
-/
import Derived.Test.YtalklpnekbfehaaGreatFilBkA
set_option linter.unusedVariables false
set_option maxRecDepth 100000
namespace Go.Proofs.YtalklpnekbfehaaGreat
open Go.RowKit

structure PlI (W0 : World) (n k : Nat) (S R : Nat → Prop) (p q pw bm : Nat) (d : Dsk.St) (s : Wal.St) (t : Fil.St) (pr : Nat) (l : List (ByteArray × ByteArray)) (W : World) : Prop where
  c : CrI W0 n k S R p q pw bm d s t pr pr l l W
  up : Dsk.Up d
  ok : t.err = 0
  lo : W0.heap.size ≤ pr
section
variable {W0 W V : World} {n k : Nat} {S R S' R' : Nat → Prop} {p q pw bm bm' pr b : Nat} {d : Dsk.St} {s : Wal.St} {t : Fil.St} {l : List (ByteArray × ByteArray)}
theorem PlI.new (h : PlI W0 n k S R p q pw bm d s t pr l W) (hb : Below W.heap.size W V) : PlI W0 n k S R p q pw bm d s t pr l V := { h with c := h.c.new hb }
theorem PlI.upk (h : PlI W0 n k S R p q pw bm d s t pr l W) : PlI W0 n (k + 1) S R p q pw bm d s t pr l W := { h with c := h.c.up }
theorem PlI.live (h : PlI W0 n k S R p q pw bm d s t pr l W) : s.gen ≤ k ∧ ∃ o rb xs, Fil.Live d s t o rb xs := by
  rcases h.c.md with ⟨e1, e2, e3, o, rb, xs, hl⟩ | ⟨e1, _⟩
  · exact ⟨e3, o, rb, xs, hl⟩
  · rw [h.ok] at e1; exact absurd e1 (by decide)
theorem Sys.turn {N : Nat} (h : Sys W0 (fun _ => False) N S R p q pw bm d s t W) (ht : Turns (fun j => j = b) W V) (hlo : W0.heap.size ≤ b) (hoff : Off3 S R p b) (hbm : bm ≠ b) : Sys W0 (fun _ => False) N S R p q pw bm d s t V := by
  obtain ⟨nn, h1, h2⟩ := h.mp
  refine ⟨⟨h.a.disk.keeps ht (fun j hs e => hoff.1 (e ▸ hs)), h.a.wal.keeps ht (fun j hs e => hoff.2.1 (e ▸ hs)), h.a.apart, fun x hx => ?_, h.a.loS, h.a.loR, h.a.turns.trans ht (fun j hj e => by omega)⟩, ⟨nn, h1, h2.turns ht hbm⟩, h.off, h.pT, h.srt, h.fine, h.sum⟩
  obtain ⟨g1, g2⟩ := h.a.rows x hx
  refine ⟨ht.same g1 (fun e => ?_), g2⟩
  simp at hx
  subst hx
  exact hoff.2.2 e.symm
theorem sys_map {N : Nat} {T : Nat → Prop} {cs : Array Value} {ty : TypeId} {fr : Nat × Nat} (h : Sys W0 T N S R p q pw bm d s t W) (hr : W.heap[b]? = some (.cells cs ty fr)) : bm ≠ b := by
  obtain ⟨nn, h1, h2⟩ := h.mp
  obtain ⟨es, c, hb⟩ := ownsMap_obj h2
  rintro rfl
  rw [hb] at hr
  cases hr
theorem PlI.commit {L : List Chb} (h : PlI W0 n k S R p q pw bm d s t pr l W) (hk : k ≤ 60) (h60 : L.length ≤ 60) (hn : n ≤ 200)
    (hS : Sys W0 (fun _ => False) (21000000000 + 60 * k + L.length) S' R' p q pw bm' (Fil.commit d s t L).1 (Fil.commit d s t L).2.1 (Fil.commit d s t L).2.2.1 V)
    (hX : DocO S' R' p pr n (docCm n l L).1 V) :
    (Fil.commit d s t L).2.2.2 = (docCm n l L).2 ∧ PlI W0 n (k + 1) S' R' p q pw bm' (Fil.commit d s t L).1 (Fil.commit d s t L).2.1 (Fil.commit d s t L).2.2.1 pr (docCm n l L).1 V := by
  have hS2 : Sys W0 (fun _ => False) (21000000000 + 60 * (k + 1)) S' R' p q pw bm' (Fil.commit d s t L).1 (Fil.commit d s t L).2.1 (Fil.commit d s t L).2.2.1 V := hS.more (by omega)
  have hcn := Fil.commit_n d s t L
  have hok := h.c.ops
  have hA := Fil.arN_le n
  obtain ⟨e3, o, rb, xs, hl⟩ := h.live
  obtain ⟨u1, u2⟩ := Fil.commit_up hl h.up L
  have hops := Fil.commit_ops hl L
  have hd := docCm_is (L := L) hl (by omega) h.c.rr h.c.tn
  have hc := h.c
  have hlo := h.lo
  have e1 := h.ok
  generalize Fil.commit d s t L = F at *
  obtain ⟨dF, sF, tF, EF⟩ := F
  simp only at *
  rcases hd with ⟨b1, b2, b3⟩ | ⟨b1, b2, b3⟩ | ⟨b1, b2, b3, b4, b5, ⟨o', rb', xs', b6⟩, b7, b8, b9⟩ | ⟨b1, b2, b3, b4, b5, b6⟩
  · obtain ⟨rfl, rfl, rfl, rfl⟩ : dF = d ∧ sF = s ∧ tF = t ∧ EF = 2 := by simpa using b3
    rw [b2] at hX ⊢
    exact ⟨rfl, ⟨⟨hS2, hX, hX, hc.tn, hc.ta, hc.rr, hc.sr, by rw [hc.rr]; exact hc.sr, hc.dN, by omega, .inl ⟨e1, hc.rr, by omega, o, rb, xs, hl⟩⟩, u1, e1, hlo⟩⟩
  · obtain ⟨rfl, rfl, rfl, rfl⟩ : dF = d ∧ sF = s ∧ tF = t ∧ EF = 4 := by simpa using b3
    rw [b2] at hX ⊢
    exact ⟨rfl, ⟨⟨hS2, hX, hX, hc.tn, hc.ta, hc.rr, hc.sr, by rw [hc.rr]; exact hc.sr, hc.dN, by omega, .inl ⟨e1, hc.rr, by omega, o, rb, xs, hl⟩⟩, u1, e1, hlo⟩⟩
  · rw [b2] at hX ⊢
    exact ⟨b5, ⟨⟨hS2, hX, hX, b8, b6.a, by rw [b3, b7], by rw [b7, ← b3]; omega, by show Fil.sum (fls (dputs l L)) ≤ _; omega, by rw [hcn]; exact hc.dN, by omega, .inl ⟨b6.err, by show fls (dputs l L) = _; rw [b3, b7], by omega, o', rb', xs', b6⟩⟩, u1, b6.err, hlo⟩⟩
  · exact absurd b5 u2
end
theorem wp_append_hap {P : Program} {w : World} {o : Oper} {a : Act} {K : Act → World → Prop} {Q : Exit → Act → World → Prop} (s x : Operand) (t : TypeId)
    (ho : o.op = .call { callee := .builtin .append, args := #[s, x], argTypes := #[t, t] }) (vs vx v' : Value) (w' : World) (hs : a.eval s = vs) (hx : a.eval x = vx)
    (hr : (Builtin.append_ #[t, t] o.type #[vs, vx]).run P w = .ok v' w') (h : K (a.put o.dst v') w') : o.wp P a w K Q := by
  unfold Oper.wp execOp
  simp only [ho, resolve, invoke, builtin, Sem.run_bind, Sem.run_pure, Result.andThen_ok, List.map_toArray, List.map_cons, List.map_nil, hs, hx, hr]
  exact h
end Go.Proofs.YtalklpnekbfehaaGreat
