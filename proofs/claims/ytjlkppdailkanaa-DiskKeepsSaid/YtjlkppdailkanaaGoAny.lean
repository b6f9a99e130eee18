/-
  A region that draws its order, walked in an order of ours: first the operations T, which yield under S whatever was done ahead of them; then R1, forced, one behind the other, which keep S; then R2, forced.
  Those of T may stand anywhere in the text; each operation of R2 waits for each of T.
-/
import Derived.Test.YtjlkppdailkanaaGoMidIn
set_option linter.unusedVariables false
namespace Go.Proofs.Ytjlkppdailkanaa
open Go.RowKit

section
variable {P : Program} {ops : Array Oper} {Q : Exit → Act → World → Prop} {md : Region.Mode} {S : World → Prop} {keep : Nat → Bool}

/-- whatever order is picked from here on; behind each operation of 'keep' S holds -/
def wpV (P : Program) (md : Region.Mode) (ops : Array Oper) (Q : Exit → Act → World → Prop) (S : World → Prop) (keep : Nat → Bool) : Nat → Array Bool → Act → World → Prop
  | 0, listed, a, w => Region.ready md ops listed = [] ∧ Q .normal a w
  | f + 1, listed, a, w => (Region.ready md ops listed = [] → Q .normal a w) ∧ ∀ i ∈ Region.ready md ops listed, wpOp P ops Q i (fun a' w' => (keep i = true → S w') ∧ wpV P md ops Q S keep f (listed.setIfInBounds i true) a' w') a w

theorem wpV.any : ∀ {f : Nat} {listed : Array Bool} {a : Act} {w : World}, wpV P md ops Q S keep f listed a w → wpAny P md ops Q f listed a w
  | 0, _, _, _, h => h
  | _ + 1, _, _, _, h => ⟨h.1, fun i hi => wpOp_mono (fun _ _ k => k.2.any) (h.2 i hi)⟩

theorem wpV_first {i : Nat} {oi : Oper} {v : Value} (hi : ops[i]? = some oi) (hsel : ∀ (j : Nat) (o : Oper) cs b, ops[j]? = some o → o.op ≠ .select cs b) (hQ : ∀ c a w, Q (.panic c) (a.put oi.dst v) w → Q (.panic c) a w)
    (hwait : ∀ t ot, keep t = false → ops[t]? = some ot → ∃ e ∈ ot.after, Region.binds md e = true ∧ e.on = i) (hki : keep i = true) (f : Nat) :
    ∀ (listed : Array Bool) (a : Act) (w : World), (∀ j oj, ops[j]? = some oj → j ≠ i → listed.getD j true = false → (∀ e ∈ oj.after, Region.binds md e = true → e.on ≠ i) → oi.apart ops oj = true) →
      i ∈ Region.ready md ops listed → YieldsIf P ops S oi v a → S w → wpV P md ops Q S keep f (listed.setIfInBounds i true) (a.put oi.dst v) w → wpV P md ops Q S keep (f + 1) listed a w := by
  induction f with
  | zero =>
    intro listed a w hfree hr hy hS H
    refine ⟨fun e => by rw [e] at hr; exact absurd hr List.not_mem_nil, fun j hj => ?_⟩
    by_cases e : j = i
    · rw [e]; exact hy.wpOp hi hS ⟨fun _ => hS, H⟩
    · have hx := ready_mono hj e
      rw [H.1] at hx
      exact absurd hx List.not_mem_nil
  | succ f ih =>
    intro listed a w hfree hr hy hS H
    refine ⟨fun e => by rw [e] at hr; exact absurd hr List.not_mem_nil, fun j hj => ?_⟩
    by_cases e : j = i
    · rw [e]; exact hy.wpOp hi hS ⟨fun _ => hS, H⟩
    obtain ⟨hjl, oj, hoj, hja⟩ := mem_ready.1 hj
    have hil := (mem_ready.1 hr).1
    have hno : ∀ x ∈ oj.after, Region.binds md x = true → x.on ≠ i := fun x hx hb hxi => by
      have h1 := hja x hx hb
      rw [hxi, getD_both hil] at h1
      exact Bool.noConfusion h1
    have hjm : keep j = true := by
      cases h : keep j with
      | true => rfl
      | false =>
        obtain ⟨x, hx, hb, hxi⟩ := hwait j oj h hoj
        exact absurd hxi (hno x hx hb)
    have hap := hfree j oj hoj e hjl hno
    have key := wpOp_putIf hoj hap (fun cs b => hsel i oi cs b hi) (fun cs b => hsel j oj cs b hoj) hQ hy (H.2 j (ready_mono hj e))
    refine wpOp_mono (fun a' w' ⟨y', s', u'⟩ => ⟨s', ?_⟩) key
    refine ih (listed.setIfInBounds j true) a' w' (fun k ok hk hki hkl hkn => ?_) (ready_mono hr (Ne.symm e)) y' (s' hjm) ?_
    · refine hfree k ok hk hki ?_ hkn
      by_cases ejk : j = k
      · rw [← ejk]; exact hjl
      · rw [getD_set_ne true ejk] at hkl; exact hkl
    · rw [Array.setIfInBounds_comm _ _ e]
      exact u'

def pick (ops : Array Oper) (l : List Nat) : List Oper := l.filterMap fun i => ops[i]?

/-- from here on each one is forced -/
def chainOk (md : Region.Mode) (ops : Array Oper) : List Nat → Array Bool → Bool
  | [], listed => (Region.ready md ops listed).isEmpty
  | k :: l, listed => decide (Region.ready md ops listed = [k]) && (decide (k < ops.size) && chainOk md ops l (listed.setIfInBounds k true))
/-- first those of T, each of which may come up and be taken, then the others, forced -/
def takeOk (md : Region.Mode) (ops : Array Oper) (R : List Nat) : List Nat → Array Bool → Bool
  | [], listed => chainOk md ops R listed
  | i :: l, listed => (Region.ready md ops listed).contains i && (Region.free md ops listed i && takeOk md ops R l (listed.setIfInBounds i true))

theorem wpV_of_seq : ∀ (l : List Nat) (listed : Array Bool) (a : Act) (w : World), (∀ k ∈ l, keep k = false) → chainOk md ops l listed = true → wpList P ops Q (pick ops l) a w → wpV P md ops Q S keep l.length listed a w
  | [], _, _, _, _, hB, h => ⟨by simpa [chainOk] using hB, h⟩
  | k :: l, listed, a, w, hk, hB, h => by
    simp only [chainOk, Bool.and_eq_true, decide_eq_true_eq] at hB
    obtain ⟨hB1, hlt, hB2⟩ := hB
    have h0 : ops[k]? = some ops[k] := Array.getElem?_eq_getElem hlt
    have hp : pick ops (k :: l) = ops[k] :: pick ops l := by unfold pick; rw [List.filterMap_cons, h0]
    rw [hp] at h
    refine ⟨fun e => by rw [hB1] at e; exact absurd e (List.cons_ne_nil _ _), fun i hi => ?_⟩
    rw [hB1] at hi
    obtain rfl : i = k := by simpa using hi
    have hw : wpOp P ops Q i (wpList P ops Q (pick ops l)) a w := by unfold wpOp; simp only [h0]; exact h
    exact wpOp_mono (fun a' w' x => ⟨fun h => (by rw [hk i List.mem_cons_self] at h; exact Bool.noConfusion h), wpV_of_seq l _ a' w' (fun j hj => hk j (List.mem_cons_of_mem _ hj)) hB2 x⟩) hw

theorem wpV_of_mid (R2 : List Nat) (h2 : ∀ k ∈ R2, keep k = false) : ∀ (l : List Nat) (listed : Array Bool) (a : Act) (w : World), chainOk md ops (l ++ R2) listed = true →
    wpMid P ops Q S (pick ops R2) (pick ops l) a w → wpV P md ops Q S keep (l ++ R2).length listed a w
  | [], listed, a, w, hB, h => wpV_of_seq R2 listed a w h2 hB h
  | k :: l, listed, a, w, hB, h => by
    simp only [List.cons_append, chainOk, Bool.and_eq_true, decide_eq_true_eq] at hB
    obtain ⟨hB1, hlt, hB2⟩ := hB
    have h0 : ops[k]? = some ops[k] := Array.getElem?_eq_getElem hlt
    have hp : pick ops (k :: l) = ops[k] :: pick ops l := by unfold pick; rw [List.filterMap_cons, h0]
    rw [hp] at h
    refine ⟨fun e => by rw [hB1] at e; exact absurd e (List.cons_ne_nil _ _), fun i hi => ?_⟩
    rw [hB1] at hi
    obtain rfl : i = k := by simpa using hi
    have hw : wpOp P ops Q i (fun a' w' => S w' ∧ wpMid P ops Q S (pick ops R2) (pick ops l) a' w') a w := by
      unfold wpOp
      simp only [h0]
      unfold wpMid at h
      split
      · rename_i hwd; rw [if_pos hwd] at h; exact .inl h
      · rename_i hwd; rw [if_neg hwd] at h; exact h
    exact wpOp_mono (fun a' w' x => ⟨fun _ => x.1, wpV_of_mid R2 h2 l _ a' w' hB2 x.2⟩) hw

theorem wpV_of_take {w : World} {L : Act → Prop} {R : List Nat} (hs : Region.noSelect ops = true) (hS : S w) (hQ : ∀ o v c a w, Q (.panic c) (a.put o v) w → Q (.panic c) a w)
    (hL : ∀ listed a, chainOk md ops R listed = true → L a → wpV P md ops Q S keep R.length listed a w) :
    ∀ (l : List Nat) (listed : Array Bool) (a : Act), (∀ i ∈ l, keep i = true ∧ ∀ t ot, keep t = false → ops[t]? = some ot → ∃ e ∈ ot.after, Region.binds md e = true ∧ e.on = i) → takeOk md ops R l listed = true →
      wpTake P ops S L (pick ops l) a → wpV P md ops Q S keep (l.length + R.length) listed a w
  | [], listed, a, _, hB, h => by
    simp only [List.length_nil, Nat.zero_add]
    exact hL listed a hB h
  | k :: l, listed, a, hw, hB, h => by
    simp only [takeOk, Bool.and_eq_true] at hB
    obtain ⟨hr, hf, hB'⟩ := hB
    have hr' : k ∈ Region.ready md ops listed := by simpa using hr
    obtain ⟨_, o, h0, _⟩ := mem_ready.1 hr'
    have hp : pick ops (k :: l) = o :: pick ops l := by unfold pick; rw [List.filterMap_cons, h0]
    rw [hp] at h
    obtain ⟨v, hy, h'⟩ := h
    have hn : (k :: l).length + R.length = (l.length + R.length) + 1 := by simp; omega
    rw [hn]
    exact wpV_first h0 (Region.noSelect_spec hs) (fun c a w => hQ _ _ c a w) (hw k List.mem_cons_self).2 (hw k List.mem_cons_self).1 _ listed a w (Region.free_spec h0 hf) hr' hy hS
      (wpV_of_take hs hS hQ hL l _ _ (fun i hi => hw i (List.mem_cons_of_mem _ hi)) hB' h')

def anyB (ops : Array Oper) (T R1 R2 : List Nat) : Bool :=
  Region.noSelect ops && (takeOk .any ops (R1 ++ R2) T (Array.replicate ops.size false) && (decide (T.length + (R1 ++ R2).length = ops.size) &&
    ((T.all fun i => !R2.contains i) && ((R1.all fun i => !R2.contains i) && R2.all fun t => T.all fun i => Region.waitsFor .any ops t i))))

theorem wpAny_of_any {a : Act} {w : World} (T R1 R2 : List Nat) (hB : anyB ops T R1 R2 = true) (hQ : Frameless Q) (S : World → Prop) (hS : S w)
    (h : wpTake P ops S (fun a' => wpMid P ops Q S (pick ops R2) (pick ops R1) a' w) (pick ops T) a) : wpAny P .any ops Q ops.size (Array.replicate ops.size false) a w := by
  simp only [anyB, Bool.and_eq_true, decide_eq_true_eq] at hB
  obtain ⟨h1, h2, h3, h4, h5, h6⟩ := hB
  refine wpV.any (S := S) (keep := fun i => !R2.contains i) ?_
  have key := wpV_of_take (md := .any) (keep := fun i => !R2.contains i) (R := R1 ++ R2) (S := S) (Q := Q) (P := P) (ops := ops) (w := w) h1 hS hQ (fun listed a' hb hL => wpV_of_mid R2 (fun k hk => by simp [hk]) R1 listed a' w hb hL)
    T (Array.replicate ops.size false) a (fun i hi => ⟨List.all_eq_true.1 h4 i hi, fun t ot ht hot => by
      have ht2 : t ∈ R2 := by simpa using ht
      obtain ⟨oj, hoj, x, hx⟩ := Region.waitsFor_spec (List.all_eq_true.1 (List.all_eq_true.1 h6 t ht2) i hi)
      have : oj = ot := Option.some.inj (hoj.symm.trans hot)
      subst this
      exact ⟨x, hx⟩⟩) h2 h
  rw [h3] at key
  exact key

theorem wp_region_text {id : Nat} {a : Act} {w : World} (T R1 R2 : List Nat) (hm : P.follows .mixedOrders = true) (hB : anyB ops T R1 R2 = true) (S : World → Prop) (hS : S w.drew)
    (h : wpTake P ops S (fun a' => wpMid P ops (NoPanic Q) S (pick ops R2) (pick ops R1) a' w.drew) (pick ops T) a) : (Code.region id ops true).wp P Q a w :=
  wp_region_noPanic (wp_region_any hm (wpAny_of_any T R1 R2 hB frameless_np S hS h))

variable {l : Nat}
theorem wp_region_text_in {id n : Nat} {a : Act} {w : World} (T R1 R2 : List Nat) (hm : P.follows .mixedOrders = true) (hB : anyB ops T R1 R2 = true) (hdf : (ops.all fun o => match o.op with | .defer _ => false | _ => true) = true) (S : World → Prop) (hS : S w.drew)
    (h : wpTake P ops S (fun a' => wpMid P ops (onlyEnd (Q .normal)) S (pick ops R2) (pick ops R1) a' w.drew) (pick ops T) a) : (Code.region id ops true).wpIn (Fence.wide.inRound l) n P Q a w := by
  refine wpIn_region_any hm ?_
  have hd : ∀ (i : Nat) (o : Oper), ops[i]? = some o → ∀ c, o.op ≠ .defer c := fun i o ho c e => by
    have := Array.all_eq_true'.1 hdf o (Array.mem_of_getElem? ho)
    rw [e] at this
    exact Bool.noConfusion this
  exact wpAny_in (Qn := Q .normal) hd (fun _ _ h => h) (fun _ _ _ _ _ _ _ => trivial) _ _ _ _ (wpAny_of_any T R1 R2 hB (fun _ _ _ _ _ h => (h : False).elim) S hS h)

theorem call_wp {o : Oper} {a : Act} {w : World} {K : Act → World → Prop} (f : FuncId) (xs : List Operand) (ts : Array TypeId) (args : Array Value) (ho : o.op = .call { callee := .value (.func f), args := xs.toArray, argTypes := ts }) (hx : (xs.map a.eval).toArray = args)
    (he : (callFunc f args).run P w = .ok (.enter f args) w) (h : Calls P f args w fun e w' => ∃ v, e = .returned v ∧ K (a.put o.dst v) w') : o.wp P a w K Q := by
  unfold Oper.wp execOp
  simp only [ho, resolve, List.map_toArray, hx]
  simp [invoke, go_sem, he, Act.eval]
  refine h.mono fun e w' ⟨v, hv, hk⟩ => ?_
  subst hv
  exact hk
end
end Go.Proofs.Ytjlkppdailkanaa
