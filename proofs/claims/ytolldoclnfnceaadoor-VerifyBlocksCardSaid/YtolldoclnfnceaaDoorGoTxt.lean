/-
  Rows of texts that the call itself makes by append; parts of a text, and an append, at an operation of a drawn region.
-/
import Derived.Test.YtolldoclnfnceaaDoorRows
import Derived.Test.YtolldoclnfnceaaDoorGoAll
import Derived.WalkKit
import Derived.WalkLawsBesides
import Derived.WalkSpells
import Derived.Lib.Hide
import Derived.BigQuiet
import Derived.Maps.AppendAt
import Derived.Maps.OwnIn
import Derived.Great.BuildSlice
set_option linter.unusedVariables false
set_option maxRecDepth 100000
namespace Go.Proofs.YtolldoclnfnceaaDoor
open Go.RowKit
theorem cell_new_row (w : World) (xs : List Value) (T : TypeId) (i : Nat) (u : Value) (h : xs[i]? = some u) : (w.alloc (.cells xs.toArray T)).cell? ((⟨w.heap.size, 0, none⟩ : Addr).add i) = some u := by
  have e : (Addr.add ⟨w.heap.size, 0, none⟩ i) = ⟨w.heap.size, i, none⟩ := by cases i <;> simp [Addr.add]
  rw [e, cell_of_row _ _ i _ _ _ (heap_alloc_new w _)]
  simpa using h
theorem run_sub_hi {P : Program} {o : Oper} {a : Act} {u : World} (t : TypeId) (x h : Operand) (ho : o.op = .slice t x none (some h) none) (xv hv v : Value) (hx : a.eval x = xv) (hh : a.eval h = hv) (hr : (Instr.sliceAt t xv none (some hv) none).run P u = .ok v u) : (execOp a.eval o).run P u = .ok (.value v) u := by
  unfold execOp
  simp only [ho, Option.map_some, Option.map_none, hx, hh, Sem.run_bind, hr, Result.andThen_ok, Sem.run_pure]
theorem run_sub_both {P : Program} {o : Oper} {a : Act} {u : World} (t : TypeId) (x l h : Operand) (ho : o.op = .slice t x (some l) (some h) none) (xv lv hv v : Value) (hx : a.eval x = xv) (hl : a.eval l = lv) (hh : a.eval h = hv) (hr : (Instr.sliceAt t xv (some lv) (some hv) none).run P u = .ok v u) : (execOp a.eval o).run P u = .ok (.value v) u := by
  unfold execOp
  simp only [ho, Option.map_some, Option.map_none, hx, hl, hh, Sem.run_bind, hr, Result.andThen_ok, Sem.run_pure]
theorem text_part (s : ByteArray) (i j : Nat) (h1 : i ≤ j) (h2 : j ≤ s.size) (u : World) : (Instr.sliceAt 9 (.string s) (some (.int .i64 (i : Int))) (some (.int .i64 (j : Int))) none).run Tryd.prog u = .ok (.string (s.extract i j)) u := by
  have g1 : ¬ (i : Int) < 0 := by omega
  have g2 : ¬ (s.size : Int) < (j : Int) := by omega
  have g3 : ¬ (j : Int) < (i : Int) := by omega
  simp [Instr.sliceAt, Instr.slice, Instr.sliceBounds, Instr.sliceBound, asIntOf, run_underlying Tryd.underlying9, h1, h2]
  trace_state
theorem text_head (s : ByteArray) (j : Nat) (h2 : j ≤ s.size) (u : World) : (Instr.sliceAt 9 (.string s) none (some (.int .i64 (j : Int))) none).run Tryd.prog u = .ok (.string (s.extract 0 j)) u := by
  simp [Instr.sliceAt, Instr.slice, Instr.sliceBounds, Instr.sliceBound, asIntOf, run_underlying Tryd.underlying9]
  omega
theorem run_sub_lo {P : Program} {o : Oper} {a : Act} {u : World} (t : TypeId) (x l : Operand) (ho : o.op = .slice t x (some l) none none) (xv lv v : Value) (hx : a.eval x = xv) (hl : a.eval l = lv) (hr : (Instr.sliceAt t xv (some lv) none none).run P u = .ok v u) : (execOp a.eval o).run P u = .ok (.value v) u := by
  unfold execOp
  simp only [ho, Option.map_some, Option.map_none, hx, hl, Sem.run_bind, hr, Result.andThen_ok, Sem.run_pure]
theorem text_tail (s : ByteArray) (i : Nat) (h : i ≤ s.size) (u : World) : (Instr.sliceAt 9 (.string s) (some (.int .i64 (i : Int))) none none).run Tryd.prog u = .ok (.string (s.extract i s.size)) u := by
  simp [Instr.sliceAt, Instr.slice, Instr.sliceBounds, Instr.sliceBound, asIntOf, run_underlying Tryd.underlying9]
  omega
theorem text_index (s : ByteArray) (i : Nat) (h : i < s.size) (u : World) : (Instr.index 9 (.string s) (.int .i64 (i : Int))).run Tryd.prog u = .ok (.int .u8 ((s.data.toList.getD i 0).toNat : Int)) u := by
  have e : s.data.toList.getD i 0 = s[i] := by
    rw [List.getD_eq_getElem?_getD, List.getElem?_eq_getElem (by rw [ba_len]; exact h)]
    exact ba_get s i h (by rw [ba_len]; exact h)
  rw [e]
  simp [Instr.index, go_sem, run_underlying Tryd.underlying9, h]
theorem run_index_at {P : Program} {o : Oper} {a : Act} {u : World} (t : TypeId) (x i : Operand) (ho : o.op = .index t x i) (xv iv v : Value) (hx : a.eval x = xv) (hi : a.eval i = iv) (hr : (Instr.index t xv iv).run P u = .ok v u) : (execOp a.eval o).run P u = .ok (.value v) u := by
  unfold execOp
  simp only [ho, hx, hi, Sem.run_bind, hr, Result.andThen_ok, Sem.run_pure]
theorem below_undrew {w w' : World} (h : Below w.drew.heap.size w.drew w') : Below w.heap.size w w' := ⟨h.os, h.tape, h.output, h.size, h.block⟩
theorem ba_toList_inj {x y : ByteArray} (h : x.toList = y.toList) : x = y := by
  rw [ByteArray.toList_eq, ByteArray.toList_eq] at h
  rw [← ba_eta x, h, ba_eta y]
theorem tstr_info : (Tryd.prog.info? 9).map (fun i => (i.zero, i.size, i.bytes)) = some (some (.string ⟨#[]⟩), 1, 16) := by kernel_rfl
theorem slice_str1 (s : ByteArray) (w : World) : (Instr.buildSlice 22 1 #[(0, .string s)]).run Tryd.prog w = .ok (.slice (some ⟨w.heap.size, 0, none⟩) 1 1) (w.alloc (.cells #[.string s] 9)) := by
  obtain ⟨i, hi, h0, h1, h2⟩ := info_parts tstr_info
  have hf := Great.fill_whole (s := 1) (by omega) [.string s] ((Array.range (1 * 1)).map ((Value.string .empty).cells[· % (Value.string .empty).cells.size]!)) (fun v hv => by simp at hv; subst hv; rfl) (by simp)
  refine run_buildSlice w 22 9 1 _ #[.string s] i _ Tryd.underlying22 hi h0 (by rw [h1]; decide) (by rw [h1]; decide) ?_
  rw [h1]
  have e : ([Value.string s].flatMap fun v => v.cells.toList).toArray = #[.string s] := by simp [Value.cells]
  rw [e] at hf
  exact hf
/-- a slice of the call's own that holds these texts -/
def TOwn (B : Nat) (v : Value) (l : List ByteArray) (w : World) : Prop := w.ownsRow B 9 1 v l.length (l.map Value.string)
/-- the slice reads as these texts -/
def SRd (v : Value) (l : List ByteArray) (w : World) : Prop := ∃ a cap, v = .slice a l.length cap ∧ l.length ≤ cap ∧ ∀ j, j < l.length → ∃ b, a = some ⟨b, 0, none⟩ ∧ w.cell? ⟨b, j, none⟩ = some (.string (l.getD j .empty))
section
variable {B : Nat} {v : Value} {l : List ByteArray} {w w' : World}
theorem TOwn.same (h : TOwn B v l w) (hk : ∀ g, B ≤ g → g < w.heap.size → (∃ cs : Array Value, w.heap[g]? = some (.cells cs 9 (0, 0))) → w'.heap[g]? = w.heap[g]?) : TOwn B v l w' :=
  ownsRow_same h fun g hg => by
    have := World.ownsRow.lt h g hg
    exact hk g this.1 this.2 (ownsRow_block h hg)
theorem TOwn.new (h : TOwn B v l w) (hb : Below w.heap.size w w') : TOwn B v l w' := ownsRow_new h hb
theorem TOwn.keeps {T : Nat → Prop} (h : TOwn B v l w) (ht : Turns T w w') (hT : ∀ g, B ≤ g → g < w.heap.size → (∃ cs : Array Value, w.heap[g]? = some (.cells cs 9 (0, 0))) → ¬ T g) : TOwn B v l w' :=
  h.same fun g h1 h2 h3 => ht.block g h2 (hT g h1 h2 h3)
theorem TOwn.form (h : TOwn B v l w) : ∃ a cap, v = .slice a l.length cap := by
  rcases h.2 with ⟨rfl, h0⟩ | ⟨g, cap, _, hv, _⟩
  · exact ⟨none, 0, by rw [h0]⟩
  · exact ⟨_, cap, hv⟩
theorem TOwn.stays {C : Nat} : Stays C (TOwn B v l) := fun W j o o' hl ho hc h =>
  TOwn.same h fun g _ _ ⟨cs, hcs⟩ => World.putObj_heap_other (fun e => by subst e; rw [hcs] at ho; cases ho; simp [Obj.isCells] at hc)
theorem TOwn.base {B' : Nat} (h : TOwn B v l w) (hb : B' ≤ B) : TOwn B' v l w := by
  refine ⟨h.1, ?_⟩
  rcases h.2 with hh | ⟨g, cap, cur, e1, e2, e3⟩
  · exact .inl hh
  · exact .inr ⟨g, cap, cur, e1, Nat.le_trans hb e2, e3⟩
theorem TOwn.low {b : Nat} (h : TOwn B v l w) (hb : b < B) : v.ownBlock ≠ some b := fun e => by
  have := (World.ownsRow.lt h b e).1; omega
theorem TOwn.off {b : Nat} (h : TOwn B v l w) {cs : Array Value} {T : TypeId} (hT : T ≠ 9) (hr : w.heap[b]? = some (.cells cs T (0, 0))) : v.ownBlock ≠ some b := fun e => by
  obtain ⟨cur, hcur⟩ := ownsRow_block h e
  rw [hr] at hcur
  simp only [Option.some.injEq, Obj.cells.injEq] at hcur
  exact hT hcur.2.1
theorem TOwn.reads (h : TOwn B v l w) : SRd v l w := by
  rcases h.2 with ⟨rfl, h0⟩ | ⟨g, cap, cur, rfl, hb, hg, hn, hm, hc, ht⟩
  · exact ⟨none, 0, by rw [h0], by omega, fun j hj => by omega⟩
  · refine ⟨_, cap, rfl, hn, fun j hj => ⟨g, rfl, ?_⟩⟩
    rw [cell_of_row _ _ j _ _ _ hg]
    have hu : (l.map Value.string)[j]? = some (.string (l.getD j .empty)) := by
      simp [List.getD_eq_getElem?_getD, hj]
    rw [← ht, List.getElem?_take] at hu
    split at hu
    · simpa using hu
    · cases hu
theorem SRd.new (h : SRd v l w) (hb : Below w.heap.size w w') : SRd v l w' := by
  obtain ⟨a, cap, rfl, hc, hf⟩ := h
  refine ⟨a, cap, rfl, hc, fun j hj => ?_⟩
  obtain ⟨b, rfl, e⟩ := hf j hj
  exact ⟨b, rfl, by rw [hb.cell (p := ⟨b, j, none⟩) (cell_lt e)]; exact e⟩
end
theorem SRd.made {g : Nat} {L : List ByteArray} {w : World} (h : w.heap[g]? = some (.cells (L.map Value.string).toArray 9 (0, 0))) : SRd (.slice (some ⟨g, 0, none⟩) L.length L.length) L w := by
  refine ⟨_, _, rfl, Nat.le_refl _, fun j hj => ⟨g, rfl, ?_⟩⟩
  rw [cell_of_row _ _ j _ _ _ h]
  simp [List.getD_eq_getElem?_getD, hj]
theorem SRd.strs {v : Value} {l : List ByteArray} {w : World} (h : SRd v l w) : ∃ a cap, v = .slice a l.length cap ∧ Strs a l.length l w := by
  obtain ⟨a, cap, rfl, hc, hf⟩ := h
  refine ⟨a, cap, rfl, rfl, fun j hj => ?_⟩
  obtain ⟨b, rfl, e⟩ := hf j hj
  exact ⟨b, 0, rfl, by rw [Nat.zero_add]; exact e⟩
theorem text_same (x y : ByteArray) : decide (x = y) = (x.toList == y.toList) := by
  rw [Bool.eq_iff_iff]
  simp only [decide_eq_true_eq, beq_iff_eq]
  constructor
  · rintro rfl; rfl
  · intro e; exact ba_toList_inj e
/-- append at an operation of a drawn region -/
theorem Edt.append_at {P : Program} {o : Oper} {a : Act} {w : World} {K : Act → World → Prop} {Q : Exit → Act → World → Prop} (s x : Operand) (t : TypeId)
    (ho : o.op = .call { callee := .builtin .append, args := #[s, x], argTypes := #[t, t] })
    (base : Nat) (e : TypeId) (i : TypeInfo) (z : Value) (size bytes : Nat) (ht : P.underlying t = some (.slice e)) (hi : P.info? e = some i) (hz : i.zero = some z)
    (hsize : i.size = size) (hby : i.bytes = bytes) (hzs : z.cells.size = size) (hsz : 0 < size)
    (v : Value) (n : Nat) (xs : List Value) (hs : a.eval s = v) (hown : w.ownsRow base e size v n xs)
    (ad : Addr) (m c : Nat) (news : List Value) (hx : a.eval x = .slice (some ad) m c) (hl : news.length = m * size) (hnews : ∀ j u, news[j]? = some u → w.cell? (ad.add j) = some u) (h1 : ∀ u ∈ news, u.oneCell' = true)
    (h63 : n + m ≤ maxLen) (hbytes : (n + m) * bytes ≤ 140737488355328) (hbase : base ≤ w.heap.size)
    (h : ∀ v' w', w'.ownsRow base e size v' (n + m) (xs ++ news) → w.grownBy w' v.ownBlock → K (a.put o.dst v') w') : o.wp P a w K Q := by
  obtain ⟨v', w', hr, h2, h3, _, h5⟩ := run_append_own_at (P := P) w base t o.type e i z size bytes ht hi hz hsize hby hzs hsz v n xs hown ad m c news hl hnews h1 h63 hbytes hbase
  unfold Oper.wp execOp
  simp only [ho, resolve, invoke, builtin, Sem.run_bind, Sem.run_pure, Result.andThen_ok, List.map_toArray, List.map_cons, List.map_nil, hs, hx, hr]
  exact h v' w' h2 h3
theorem wp_append_hap {P : Program} {w : World} {o : Oper} {a : Act} {K : Act → World → Prop} {Q : Exit → Act → World → Prop} (s x : Operand) (t : TypeId)
    (ho : o.op = .call { callee := .builtin .append, args := #[s, x], argTypes := #[t, t] }) (vs vx v' : Value) (w' : World) (hs : a.eval s = vs) (hx : a.eval x = vx)
    (hr : (Builtin.append_ #[t, t] o.type #[vs, vx]).run P w = .ok v' w') (h : K (a.put o.dst v') w') : o.wp P a w K Q := by
  unfold Oper.wp execOp
  simp only [ho, resolve, invoke, builtin, Sem.run_bind, Sem.run_pure, Result.andThen_ok, List.map_toArray, List.map_cons, List.map_nil, hs, hx, hr]
  exact h
namespace Edt
theorem copy_strs {la : Option Addr} {n lc : Nat} {l : List ByteArray} {w : World} (h : Strs la n l w) (hz : la = none → lc = 0) (hn : n ≤ 8796093022208) :
    ∃ v' w', (Builtin.append_ #[22, 22] 22 #[.slice none 0 0, .slice la n lc]).run Tryd.prog w = .ok v' w' ∧ TOwn w.heap.size v' l w' ∧ Below w.heap.size w w' := by
  obtain ⟨i0, hi, hz0, hz1, hz2⟩ := info_parts tstr_info
  have hl := h.1
  cases la with
  | none =>
    have hn0 : n = 0 := by
      rcases Nat.eq_zero_or_pos n with e | e
      · exact e
      · obtain ⟨b, off, hb, _⟩ := h.2 0 e; cases hb
    subst hn0
    have hl0 : l = [] := List.eq_nil_of_length_eq_zero hl
    subst hl0
    rw [hz rfl]
    exact ⟨_, w, run_append_owned_none (P := Tryd.prog) (w := w) w.heap.size 22 22 9 i0 1 Tryd.underlying22 hi (.slice none 0 0) 0 [] (World.ownsRow_nil _ _ _ _), World.ownsRow_nil _ _ _ _, Below.refl _ _⟩
  | some ad =>
    by_cases hn0 : n = 0
    · subst hn0
      have hl0 : l = [] := List.eq_nil_of_length_eq_zero hl
      subst hl0
      obtain ⟨v', w', hr, h2, h3, _, h5⟩ := run_append_own_at (P := Tryd.prog) (w := w) w.heap.size 22 22 9 i0 (.string ⟨#[]⟩) 1 16 Tryd.underlying22 hi hz0 hz1 hz2 rfl (by decide) (.slice none 0 0) 0 [] (World.ownsRow_nil _ _ _ _) ad 0 lc [] rfl (fun j u hu => by simp at hu) (by simp) (by decide) (by decide) (Nat.le_refl _)
      exact ⟨v', w', hr, h2, below_of_grown h3 (fun k hk => by simp [Value.ownBlock] at hk)⟩
    · obtain ⟨b0, o0, hb0, _⟩ := h.2 0 (by omega)
      obtain rfl : ad = ⟨b0, o0, none⟩ := by simpa using hb0
      obtain ⟨v', w', hr, h2, h3, _, h5⟩ := run_append_own_at (P := Tryd.prog) (w := w) w.heap.size 22 22 9 i0 (.string ⟨#[]⟩) 1 16 Tryd.underlying22 hi hz0 hz1 hz2 rfl (by decide) (.slice none 0 0) 0 [] (World.ownsRow_nil _ _ _ _) ⟨b0, o0, none⟩ n lc (l.map Value.string) (by simp [hl]) (fun j u hu => by
          obtain ⟨hj, rfl⟩ := List.getElem?_eq_some_iff.1 hu
          have hj' : j < n := by simpa [hl] using hj
          obtain ⟨b, off, hb, hc⟩ := h.2 j hj'
          simp only [Option.some.injEq, Addr.mk.injEq] at hb
          obtain ⟨rfl, rfl, _⟩ := hb
          have ea : (Addr.add ⟨b0, o0, none⟩ j) = ⟨b0, o0 + j, none⟩ := by cases j <;> simp [Addr.add]
          rw [ea, hc]
          simp [List.getD_eq_getElem?_getD, show j < l.length by omega]) (fun u hu => by
          obtain ⟨x, _, rfl⟩ := List.mem_map.1 hu
          rfl) (by unfold maxLen; omega) (by omega) (Nat.le_refl _)
      refine ⟨v', w', hr, ?_, below_of_grown h3 (fun k hk => by simp [Value.ownBlock] at hk)⟩
      unfold TOwn
      rw [hl]
      simpa using h2
theorem append_hap {P : Program} {w : World} {ops : Array Oper} {rest : List Oper} {o : Oper} {a : Act} {Q : Exit → Act → World → Prop} (hgd : o.guard = none) (s x : Operand) (t : TypeId)
    (ho : o.op = .call { callee := .builtin .append, args := #[s, x], argTypes := #[t, t] }) (vs vx v' : Value) (w' : World) (hs : a.eval s = vs) (hx : a.eval x = vx)
    (hr : (Builtin.append_ #[t, t] o.type #[vs, vx]).run P w = .ok v' w') (h : wpList P ops Q rest (a.put o.dst v') w') : wpList P ops Q (o :: rest) a w := by
  refine wpList_plain hgd fun K hK => ?_
  unfold Oper.wp execOp
  simp only [ho, resolve, invoke, builtin, Sem.run_bind, Sem.run_pure, Result.andThen_ok, List.map_toArray, List.map_cons, List.map_nil, hs, hx, hr]
  exact hK _ _ h
end Edt
end Go.Proofs.YtolldoclnfnceaaDoor
