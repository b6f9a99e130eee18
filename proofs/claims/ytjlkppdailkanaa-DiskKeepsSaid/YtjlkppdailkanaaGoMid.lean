/-
  A region that draws its order, whose first n operations yield under S whatever was done ahead of them, whose next ones (up to m) are forced, one behind the other, and keep S, and whose last ones wait for all of the first n:
  it is walked in the text's order ('x.f = append(x.f, e)': the loads, then the new element's row and the append, then the store).
-/
import Derived.Test.YtjlkppdailkanaaGoRow
import Derived.StillTail
import Derived.OrdersHeld
import Derived.Deep.RegionHeld3
set_option linter.unusedVariables false
namespace Go.Proofs.Ytjlkppdailkanaa
open Go.RowKit

section
variable {P : Program} {ops : Array Oper} {Q : Exit → Act → World → Prop} {md : Region.Mode} {S : World → Prop} {m : Nat}

/-- whatever order is picked from here on; behind each operation ahead of number m S holds -/
def wpU (P : Program) (md : Region.Mode) (ops : Array Oper) (Q : Exit → Act → World → Prop) (S : World → Prop) (m : Nat) : Nat → Array Bool → Act → World → Prop
  | 0, listed, a, w => Region.ready md ops listed = [] ∧ Q .normal a w
  | f + 1, listed, a, w => (Region.ready md ops listed = [] → Q .normal a w) ∧ ∀ i ∈ Region.ready md ops listed, wpOp P ops Q i (fun a' w' => (i < m → S w') ∧ wpU P md ops Q S m f (listed.setIfInBounds i true) a' w') a w

theorem wpU.any : ∀ {f : Nat} {listed : Array Bool} {a : Act} {w : World}, wpU P md ops Q S m f listed a w → wpAny P md ops Q f listed a w
  | 0, _, _, _, h => h
  | _ + 1, _, _, _, h => ⟨h.1, fun i hi => wpOp_mono (fun _ _ k => k.2.any) (h.2 i hi)⟩

theorem wpU_first {i : Nat} {oi : Oper} {v : Value} (hi : ops[i]? = some oi) (hsel : ∀ (j : Nat) (o : Oper) cs b, ops[j]? = some o → o.op ≠ .select cs b) (hQ : ∀ c a w, Q (.panic c) (a.put oi.dst v) w → Q (.panic c) a w)
    (hwait : ∀ t ot, m ≤ t → ops[t]? = some ot → ∃ e ∈ ot.after, Region.binds md e = true ∧ e.on = i) (f : Nat) :
    ∀ (listed : Array Bool) (a : Act) (w : World), (∀ j oj, ops[j]? = some oj → j ≠ i → listed.getD j true = false → (∀ e ∈ oj.after, Region.binds md e = true → e.on ≠ i) → oi.apart ops oj = true) →
      i ∈ Region.ready md ops listed → YieldsIf P ops S oi v a → S w → wpU P md ops Q S m f (listed.setIfInBounds i true) (a.put oi.dst v) w → wpU P md ops Q S m (f + 1) listed a w := by
  induction f with
  | zero =>
    intro listed a w hfree hr hy hS H
    refine ⟨fun e => by rw [e] at hr; exact absurd hr List.not_mem_nil, fun j hj => ?_⟩
    by_cases e : j = i
    · rw [e]; exact hy.wpOp hi hS ⟨fun _ => hS, H⟩
    · have hx := ready_mono hj e
      rw [H.1] at hx
      exact absurd hx List.not_mem_nil
  | succ f ih =>
    intro listed a w hfree hr hy hS H
    refine ⟨fun e => by rw [e] at hr; exact absurd hr List.not_mem_nil, fun j hj => ?_⟩
    by_cases e : j = i
    · rw [e]; exact hy.wpOp hi hS ⟨fun _ => hS, H⟩
    obtain ⟨hjl, oj, hoj, hja⟩ := mem_ready.1 hj
    have hil := (mem_ready.1 hr).1
    have hno : ∀ x ∈ oj.after, Region.binds md x = true → x.on ≠ i := fun x hx hb hxi => by
      have h1 := hja x hx hb
      rw [hxi, getD_both hil] at h1
      exact Bool.noConfusion h1
    have hjm : j < m := by
      rcases Nat.lt_or_ge j m with h | h
      · exact h
      · obtain ⟨x, hx, hb, hxi⟩ := hwait j oj h hoj
        exact absurd hxi (hno x hx hb)
    have hap := hfree j oj hoj e hjl hno
    have key := wpOp_putIf hoj hap (fun cs b => hsel i oi cs b hi) (fun cs b => hsel j oj cs b hoj) hQ hy (H.2 j (ready_mono hj e))
    refine wpOp_mono (fun a' w' ⟨y', s', u'⟩ => ⟨s', ?_⟩) key
    refine ih (listed.setIfInBounds j true) a' w' (fun k ok hk hki hkl hkn => ?_) (ready_mono hr (Ne.symm e)) y' (s' hjm) ?_
    · refine hfree k ok hk hki ?_ hkn
      by_cases ejk : j = k
      · rw [← ejk]; exact hjl
      · rw [getD_set_ne true ejk] at hkl; exact hkl
    · rw [Array.setIfInBounds_comm _ _ e]
      exact u'

/-- the first operations, each with what it yields under S -/
def wpTake (P : Program) (ops : Array Oper) (S : World → Prop) (L : Act → Prop) : List Oper → Act → Prop
  | [], a => L a
  | o :: l, a => ∃ v, YieldsIf P ops S o v a ∧ wpTake P ops S L l (a.put o.dst v)
/-- the forced ones that keep S; then the others -/
def wpMid (P : Program) (ops : Array Oper) (Q : Exit → Act → World → Prop) (S : World → Prop) (rest : List Oper) : List Oper → Act → World → Prop
  | [], a, w => wpList P ops Q rest a w
  | o :: l, a, w => if Region.wanted o (yielded ops a.tmps) = true then o.wp P a w (fun a' w' => S w' ∧ wpMid P ops Q S rest l a' w') Q else S w ∧ wpMid P ops Q S rest l (a.put o.dst undef) w

theorem wpU_of_seq : ∀ (l : List Oper) (k : Nat) (listed : Array Bool) (a : Act) (w : World), m ≤ k → (∀ j, l[j]? = ops[k + j]?) → Region.seqB md ops l.length k listed = true → wpList P ops Q l a w → wpU P md ops Q S m l.length listed a w
  | [], _, _, _, _, _, _, hB, h => ⟨by simpa [Region.seqB] using hB, h⟩
  | o :: l, k, listed, a, w, hk, hl, hB, h => by
    have h0 : ops[k]? = some o := by simpa using (hl 0).symm
    simp only [List.length_cons, Region.seqB, Bool.and_eq_true, decide_eq_true_eq] at hB
    refine ⟨fun e => by rw [hB.1] at e; exact absurd e (List.cons_ne_nil _ _), fun i hi => ?_⟩
    rw [hB.1] at hi
    obtain rfl : i = k := by simpa using hi
    have hw : wpOp P ops Q i (wpList P ops Q l) a w := by unfold wpOp; simp only [h0]; exact h
    exact wpOp_mono (fun a' w' k => ⟨fun h => absurd h (by omega), wpU_of_seq l (i + 1) _ a' w' (by omega) (fun j => by have := hl (j + 1); simpa [Nat.add_assoc, Nat.add_comm 1 j] using this) hB.2 k⟩) hw

theorem wpU_of_mid {rest : List Oper} (hrest : ∀ j, rest[j]? = ops[m + j]?) : ∀ (l : List Oper) (k : Nat) (listed : Array Bool) (a : Act) (w : World), k + l.length = m → (∀ j, j < l.length → l[j]? = ops[k + j]?) → Region.seqB md ops (l.length + rest.length) k listed = true →
    wpMid P ops Q S rest l a w → wpU P md ops Q S m (l.length + rest.length) listed a w
  | [], k, listed, a, w, hk, _, hB, h => by
    have : k = m := by simpa using hk
    subst this
    simp only [List.length_nil, Nat.zero_add] at hB ⊢
    exact wpU_of_seq rest k listed a w (Nat.le_refl _) hrest hB h
  | o :: l, k, listed, a, w, hk, hl, hB, h => by
    have h0 : ops[k]? = some o := by simpa using (hl 0 (by simp)).symm
    have hn : (o :: l).length + rest.length = (l.length + rest.length) + 1 := by simp; omega
    rw [hn] at hB ⊢
    simp only [Region.seqB, Bool.and_eq_true, decide_eq_true_eq] at hB
    simp only [List.length_cons] at hk
    refine ⟨fun e => by rw [hB.1] at e; exact absurd e (List.cons_ne_nil _ _), fun i hi => ?_⟩
    rw [hB.1] at hi
    obtain rfl : i = k := by simpa using hi
    have hw : wpOp P ops Q i (fun a' w' => S w' ∧ wpMid P ops Q S rest l a' w') a w := by
      unfold wpOp
      simp only [h0]
      unfold wpMid at h
      split
      · rename_i hwd; rw [if_pos hwd] at h; exact .inl h
      · rename_i hwd; rw [if_neg hwd] at h; exact h
    exact wpOp_mono (fun a' w' k => ⟨fun _ => k.1, wpU_of_mid hrest l (i + 1) _ a' w' (by omega) (fun j hj => by have := hl (j + 1) (by simp; omega); simpa [Nat.add_assoc, Nat.add_comm 1 j] using this) hB.2 k.2⟩) hw

theorem wpU_of_take {n g : Nat} {w : World} {L : Act → Prop} (hs : Region.noSelect ops = true) (hS : S w) (hQ : ∀ o v c a w, Q (.panic c) (a.put o v) w → Q (.panic c) a w)
    (hwait : ∀ i, i < n → ∀ t ot, m ≤ t → ops[t]? = some ot → ∃ e ∈ ot.after, Region.binds md e = true ∧ e.on = i)
    (hL : ∀ listed a, Region.seqB md ops g n listed = true → L a → wpU P md ops Q S m g listed a w) :
    ∀ (l : List Oper) (k : Nat) (listed : Array Bool) (a : Act), k + l.length = n → (∀ j, j < l.length → l[j]? = ops[k + j]?) → Region.lexHead md ops g l.length k listed = true → wpTake P ops S L l a → wpU P md ops Q S m (l.length + g) listed a w
  | [], k, listed, a, hk, _, hB, h => by
    have : k = n := by simpa using hk
    subst this
    simp only [List.length_nil, Nat.zero_add]
    exact hL listed a (by simpa [Region.lexHead] using hB) h
  | o :: l, k, listed, a, hk, hl, hB, h => by
    have h0 : ops[k]? = some o := by simpa using (hl 0 (by simp)).symm
    simp only [List.length_cons, Region.lexHead, Bool.and_eq_true] at hB
    obtain ⟨⟨hr, hf⟩, hB'⟩ := hB
    obtain ⟨v, hy, h'⟩ := h
    simp only [List.length_cons] at hk
    have hn : (o :: l).length + g = (l.length + g) + 1 := by simp; omega
    rw [hn]
    exact wpU_first h0 (Region.noSelect_spec hs) (fun c a w => hQ _ _ c a w) (hwait k (by omega)) _ listed a w (Region.free_spec h0 hf) (by simpa using hr) hy hS
      (wpU_of_take hs hS hQ hwait hL l (k + 1) _ _ (by omega) (fun j hj => by have := hl (j + 1) (by simp; omega); simpa [Nat.add_assoc, Nat.add_comm 1 j] using this) hB' h')

def midB (ops : Array Oper) (n m : Nat) : Bool :=
  Region.noSelect ops && (decide (n ≤ m) && (decide (m ≤ ops.size) && (Region.lexHead .any ops (ops.size - n) n 0 (Array.replicate ops.size false) &&
    (List.range ops.size).all fun t => decide (t < m) || (List.range n).all fun i => Region.waitsFor .any ops t i)))

/-- at a panic nothing hangs on the frame -/
def Frameless (Q : Exit → Act → World → Prop) : Prop := ∀ o v c a w, Q (.panic c) (Act.put a o v) w → Q (.panic c) a w

theorem wpAny_of_mid {a : Act} {w : World} (n m : Nat) (hB : midB ops n m = true) (hQ : Frameless Q) (S : World → Prop) (hS : S w.drew)
    (h : wpTake P ops S (fun a' => wpMid P ops Q S (ops.toList.drop m) ((ops.toList.drop n).take (m - n)) a' w.drew) (ops.toList.take n) a) : wpAny P .any ops Q ops.size (Array.replicate ops.size false) a w.drew := by
  simp only [midB, Bool.and_eq_true, decide_eq_true_eq] at hB
  obtain ⟨h1, h2, h3, h4, h5⟩ := hB
  refine wpU.any (S := S) (m := m) ?_
  have hl : (ops.toList.take n).length = n := by simp; omega
  have hl2 : ((ops.toList.drop n).take (m - n)).length = m - n := by simp; omega
  have hl3 : (ops.toList.drop m).length = ops.size - m := by simp
  have e : ops.size = (ops.toList.take n).length + (ops.size - n) := by omega
  have key := wpU_of_take (md := .any) (n := n) (g := ops.size - n) (m := m) (S := S) (Q := Q) (P := P) h1 hS hQ (fun i hi t ot ht hot => by
      have h6 := List.all_eq_true.1 h5 t (List.mem_range.2 (Array.getElem?_eq_some_iff.1 hot).1)
      simp only [Bool.or_eq_true, decide_eq_true_eq] at h6
      rcases h6 with h6 | h6
      · omega
      · obtain ⟨oj, hoj, x, hx⟩ := Region.waitsFor_spec (List.all_eq_true.1 h6 i (List.mem_range.2 hi))
        have : oj = ot := Option.some.inj (hoj.symm.trans hot)
        subst this
        exact ⟨x, hx⟩)
    (fun listed a' hb hL => by
      have e2 : ops.size - n = ((ops.toList.drop n).take (m - n)).length + (ops.toList.drop m).length := by omega
      rw [e2] at hb ⊢
      exact wpU_of_mid (fun j => by simp) _ n listed a' _ (by omega) (fun j hj => by
        rw [List.getElem?_take, if_pos (by omega), List.getElem?_drop]; simp) hb hL)
    (ops.toList.take n) 0 (Array.replicate ops.size false) a (by omega) (fun j hj => by rw [List.getElem?_take, if_pos (by omega)]; simp) (by rw [hl]; exact h4) h
  rw [hl] at key
  rw [show n + (ops.size - n) = ops.size by omega] at key
  exact key

theorem wp_region_mid {id : Nat} {a : Act} {w : World} (n m : Nat) (hm : P.follows .mixedOrders = true) (hB : midB ops n m = true) (hQ : Frameless Q) (S : World → Prop) (hS : S w.drew)
    (h : wpTake P ops S (fun a' => wpMid P ops Q S (ops.toList.drop m) ((ops.toList.drop n).take (m - n)) a' w.drew) (ops.toList.take n) a) : (Code.region id ops true).wp P Q a w :=
  wp_region_any hm (wpAny_of_mid n m hB hQ S hS h)

theorem frameless_np : Frameless (NoPanic Q) := fun _ _ _ _ _ h => (h : False).elim
/-- the same, the region being shown not to panic -/
theorem wp_region_mid_np {id : Nat} {a : Act} {w : World} (n m : Nat) (hm : P.follows .mixedOrders = true) (hB : midB ops n m = true) (S : World → Prop) (hS : S w.drew)
    (h : wpTake P ops S (fun a' => wpMid P ops (NoPanic Q) S (ops.toList.drop m) ((ops.toList.drop n).take (m - n)) a' w.drew) (ops.toList.take n) a) : (Code.region id ops true).wp P Q a w :=
  wp_region_noPanic (wp_region_mid n m hm hB frameless_np S hS h)

/-! the steps -/
variable {a : Act} {L : Act → Prop} {l : List Oper} {o : Oper}
theorem take_one (v : Value) (hw : Region.wanted o (yielded ops a.tmps) = true) (h : ∀ w, S w → (execOp a.eval o).run P w = .ok (.value v) w) (hK : wpTake P ops S L l (a.put o.dst v)) : wpTake P ops S L (o :: l) a := ⟨v, .inl ⟨hw, h⟩, hK⟩
theorem take_done (h : L a) : wpTake P ops S L [] a := h
theorem take_move (x : Operand) (v : Value) (hw : Region.wanted o (yielded ops a.tmps) = true) (ho : o.op = .move x) (hx : a.eval x = v) (hK : wpTake P ops S L l (a.put o.dst v)) : wpTake P ops S L (o :: l) a :=
  take_one v hw (fun w _ => by unfold execOp; rw [ho, ← hx]; rfl) hK
theorem take_nil (x : Operand) (p : Addr) (hw : Region.wanted o (yielded ops a.tmps) = true) (ho : o.op = .nilCheck x) (hx : a.eval x = .pointer (some p)) (hK : wpTake P ops S L l (a.put o.dst (.pointer (some p)))) : wpTake P ops S L (o :: l) a :=
  take_one _ hw (fun w _ => by unfold execOp; simp only [ho, hx]; rfl) hK
theorem take_load (ty : TypeId) (x : Operand) (p : Addr) (v : Value) (hw : Region.wanted o (yielded ops a.tmps) = true) (ho : o.op = .load ty x) (hx : a.eval x = .pointer (some p)) (hr : ∀ w, S w → (Instr.loadAt ty (.pointer (some p))).run P w = .ok v w)
    (hK : wpTake P ops S L l (a.put o.dst v)) : wpTake P ops S L (o :: l) a :=
  take_one _ hw (fun w hS => by unfold execOp; rw [ho]; simp only [hx, hr w hS, Sem.run_bind, Sem.run_pure, Result.andThen_ok]) hK
theorem run_len_op {w : World} {v xv : Value} (x : Operand) {t : TypeId} (ho : o.op = Op.call { callee := Callee.builtin Builtin.len, args := #[x], argTypes := #[t] }) (hx : a.eval x = xv) (h : (Builtin.len_ #[t] o.type #[xv]).run P w = .ok v w) : (execOp a.eval o).run P w = .ok (.value v) w := by
  simp [execOp, ho, resolve, invoke, builtin, hx, h, Result.andThen]
theorem run_slice_op {w w' : World} {v : Value} (t : TypeId) (len : Nat) (parts : List (Nat × Operand)) (ho : o.op = .buildSlice t len parts.toArray) (h : (Instr.buildSlice t len (parts.map fun (i, x) => (i, a.eval x)).toArray).run P w = .ok v w') : (execOp a.eval o).run P w = .ok (.value v) w' := by
  unfold execOp
  simp only [ho, List.map_toArray, Sem.run_bind, h, Result.andThen_ok, Sem.run_pure]
theorem mid_one {rest : List Oper} {w w' : World} (v : Value) (hw : Region.wanted o (yielded ops a.tmps) = true) (h : (execOp a.eval o).run P w = .ok (.value v) w') (hS : S w') (hK : wpMid P ops Q S rest l (a.put o.dst v) w') : wpMid P ops Q S rest (o :: l) a w := by
  unfold wpMid
  rw [if_pos hw]
  unfold Oper.wp
  rw [h]
  exact ⟨hS, hK⟩
theorem mid_wp {rest : List Oper} {w : World} (hw : Region.wanted o (yielded ops a.tmps) = true) (h : o.wp P a w (fun a' w' => S w' ∧ wpMid P ops Q S rest l a' w') Q) : wpMid P ops Q S rest (o :: l) a w := by
  unfold wpMid
  rw [if_pos hw]
  exact h
theorem mid_list {rest : List Oper} {w : World} (h : wpList P ops Q rest a w) : wpMid P ops Q S rest [] a w := h
theorem run_wp {w w' : World} {v : Value} {K : Act → World → Prop} (h : (execOp a.eval o).run P w = .ok (.value v) w') (hK : K (a.put o.dst v) w') : o.wp P a w K Q := by
  unfold Oper.wp; rw [h]; exact hK
end
end Go.Proofs.Ytjlkppdailkanaa
