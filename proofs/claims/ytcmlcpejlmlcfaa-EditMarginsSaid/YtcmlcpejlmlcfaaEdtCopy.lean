/-
  append([]string(nil), l...): a row of the call's own, of a caller's texts.
-/
import Derived.Test.YtcmlcpejlmlcfaaEdtRefFresh
import Derived.Test.YtcmlcpejlmlcfaaGoAll
set_option linter.unusedVariables false
set_option maxRecDepth 100000
namespace Go.Proofs.Ytcmlcpejlmlcfaa
open Go.RowKit
namespace Edt
theorem copy_strs {la : Option Addr} {n lc : Nat} {l : List ByteArray} {w : World} (h : Strs la n l w) (hz : la = none → lc = 0) (hn : n ≤ 8796093022208) :
    ∃ v' w', (Builtin.append_ #[24, 24] 24 #[.slice none 0 0, .slice la n lc]).run Try.prog w = .ok v' w' ∧ TOwn w.heap.size v' l w' ∧ Below w.heap.size w w' := by
  obtain ⟨i0, hi, hz0, hz1, hz2⟩ := info_parts tstr_info
  have hl := h.1
  cases la with
  | none =>
    have hn0 : n = 0 := by
      rcases Nat.eq_zero_or_pos n with e | e
      · exact e
      · obtain ⟨b, off, hb, _⟩ := h.2 0 e; cases hb
    subst hn0
    have hl0 : l = [] := List.eq_nil_of_length_eq_zero hl
    subst hl0
    rw [hz rfl]
    exact ⟨_, w, run_append_owned_none (P := Try.prog) (w := w) w.heap.size 24 24 9 i0 1 Try.underlying24 hi (.slice none 0 0) 0 [] (World.ownsRow_nil _ _ _ _), World.ownsRow_nil _ _ _ _, Below.refl _ _⟩
  | some ad =>
    by_cases hn0 : n = 0
    · subst hn0
      have hl0 : l = [] := List.eq_nil_of_length_eq_zero hl
      subst hl0
      obtain ⟨v', w', hr, h2, h3, _, h5⟩ := run_append_own_at (P := Try.prog) (w := w) w.heap.size 24 24 9 i0 (.string ⟨#[]⟩) 1 16 Try.underlying24 hi hz0 hz1 hz2 rfl (by decide) (.slice none 0 0) 0 [] (World.ownsRow_nil _ _ _ _) ad 0 lc [] rfl (fun j u hu => by simp at hu) (by simp) (by decide) (by decide) (Nat.le_refl _)
      exact ⟨v', w', hr, h2, below_of_grown h3 (fun k hk => by simp [Value.ownBlock] at hk)⟩
    · obtain ⟨b0, o0, hb0, _⟩ := h.2 0 (by omega)
      obtain rfl : ad = ⟨b0, o0, none⟩ := by simpa using hb0
      obtain ⟨v', w', hr, h2, h3, _, h5⟩ := run_append_own_at (P := Try.prog) (w := w) w.heap.size 24 24 9 i0 (.string ⟨#[]⟩) 1 16 Try.underlying24 hi hz0 hz1 hz2 rfl (by decide) (.slice none 0 0) 0 [] (World.ownsRow_nil _ _ _ _) ⟨b0, o0, none⟩ n lc (l.map Value.string) (by simp [hl]) (fun j u hu => by
          obtain ⟨hj, rfl⟩ := List.getElem?_eq_some_iff.1 hu
          have hj' : j < n := by simpa [hl] using hj
          obtain ⟨b, off, hb, hc⟩ := h.2 j hj'
          simp only [Option.some.injEq, Addr.mk.injEq] at hb
          obtain ⟨rfl, rfl, _⟩ := hb
          have ea : (Addr.add ⟨b0, o0, none⟩ j) = ⟨b0, o0 + j, none⟩ := by cases j <;> simp [Addr.add]
          rw [ea, hc]
          simp [List.getD_eq_getElem?_getD, show j < l.length by omega]) (fun u hu => by
          obtain ⟨x, _, rfl⟩ := List.mem_map.1 hu
          rfl) (by unfold maxLen; omega) (by omega) (Nat.le_refl _)
      refine ⟨v', w', hr, ?_, below_of_grown h3 (fun k hk => by simp [Value.ownBlock] at hk)⟩
      unfold TOwn
      rw [hl]
      simpa using h2
theorem append_hap {P : Program} {w : World} {ops : Array Oper} {rest : List Oper} {o : Oper} {a : Act} {Q : Exit → Act → World → Prop} (hgd : o.guard = none) (s x : Operand) (t : TypeId)
    (ho : o.op = .call { callee := .builtin .append, args := #[s, x], argTypes := #[t, t] }) (vs vx v' : Value) (w' : World) (hs : a.eval s = vs) (hx : a.eval x = vx)
    (hr : (Builtin.append_ #[t, t] o.type #[vs, vx]).run P w = .ok v' w') (h : wpList P ops Q rest (a.put o.dst v') w') : wpList P ops Q (o :: rest) a w := by
  refine wpList_plain hgd fun K hK => ?_
  unfold Oper.wp execOp
  simp only [ho, resolve, invoke, builtin, Sem.run_bind, Sem.run_pure, Result.andThen_ok, List.map_toArray, List.map_cons, List.map_nil, hs, hx, hr]
  exact hK _ _ h
end Edt
end Go.Proofs.Ytcmlcpejlmlcfaa
