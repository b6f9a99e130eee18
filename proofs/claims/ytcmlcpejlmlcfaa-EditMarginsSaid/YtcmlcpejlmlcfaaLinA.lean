/- Put together of: LinPure LinIter LinRange LinRec LinLong LinCut1 LinCut LinTexts -/
import Derived.Test.YtcmlcpejlmlcfaaChuC
import Derived.Lib.Bytealg
import Derived.Test.YtcmlcpejlmlcfaaChuA
import Derived.Test.YtcmlcpejlmlcfaaPolAll
import Derived.Test.YtcmlcpejlmlcfaaRabA
import Derived.Test.YtcmlcpejlmlcfaaShelf
import Derived.OwnWalkIn
import Derived.TacticsInMore
import Derived.LoopNIn
import Derived.LoopIn
import Derived.Test.YtcmlcpejlmlcfaaGoAll
import Derived.Test.YtcmlcpejlmlcfaaChuB
import Derived.Maps.AppendAt
import Derived.Maps.OwnIn
import Derived.Great.BuildSlice
set_option maxRecDepth 100000
/-
  Plain mathematics of layer 10: where records end, to which place a place is aligned, the aligned cuts.
-/
set_option linter.unusedVariables false
namespace Go.Proofs.Ytcmlcpejlmlcfaa
theorem asc_ext : ∀ (a b : List Nat), a.Pairwise (· < ·) → b.Pairwise (· < ·) → (∀ x, x ∈ a ↔ x ∈ b) → a = b
  | [], [], _, _, _ => rfl
  | [], y :: b, _, _, h => by have := (h y).2 (by simp); simp at this
  | x :: a, [], _, _, h => by have := (h x).1 (by simp); simp at this
  | x :: a, y :: b, ha, hb, h => by
    have ha' := List.pairwise_cons.1 ha
    have hb' := List.pairwise_cons.1 hb
    have hxy : x = y := by
      have h1 := (h x).1 (by simp)
      have h2 := (h y).2 (by simp)
      rcases List.mem_cons.1 h1 with e | e
      · exact e
      · rcases List.mem_cons.1 h2 with e2 | e2
        · exact e2.symm
        · have := ha'.1 y e2; have := hb'.1 x e; omega
    subst hxy
    rw [asc_ext a b ha'.2 hb'.2 (fun z => ?_)]
    constructor
    · intro hz
      have := (h z).1 (by simp [hz])
      rcases List.mem_cons.1 this with e | e
      · subst e; have := ha'.1 z hz; omega
      · exact e
    · intro hz
      have := (h z).2 (by simp [hz])
      rcases List.mem_cons.1 this with e | e
      · subst e; have := hb'.1 z hz; omega
      · exact e
namespace Lin
/-- does a record end at the place i -/
def isE (l : List UInt8) (i : Nat) : Bool := i == l.length || l.getD (i - 1) 0 == 10
/-- to which place is a place aligned -/
def al (l : List UInt8) (a : Nat) : Nat := Chu.scan (isE l) l.length (l.length + 1 - max a 1) (max a 1)
theorem isE_len (l : List UInt8) : isE l l.length = true := by simp [isE]
theorem al_big {l : List UInt8} {a : Nat} (h : l.length < max a 1) : al l a = l.length := by
  unfold al
  rw [show l.length + 1 - max a 1 = 0 by omega]
  rfl
theorem al_one (l : List UInt8) (a : Nat) : al l (max a 1) = al l a := by
  unfold al
  rw [show max (max a 1) 1 = max a 1 by omega]
theorem al_range {l : List UInt8} {a : Nat} (h : max a 1 ≤ l.length) : max a 1 ≤ al l a ∧ al l a ≤ l.length ∧ isE l (al l a) = true ∧ ∀ j, max a 1 ≤ j → j < al l a → isE l j = false := by
  unfold al
  rcases Chu.scan_is (isE l) l.length (l.length + 1 - max a 1) (max a 1) with ⟨h1, h2⟩ | ⟨h1, h2, h3, h4⟩
  · rw [h1]
    exact ⟨h, Nat.le_refl _, isE_len l, fun j x y => h2 j x (by omega)⟩
  · exact ⟨h1, by omega, h3, h4⟩
theorem al_eq {l : List UInt8} {a r : Nat} (h1 : max a 1 ≤ r) (h2 : r ≤ l.length) (h3 : isE l r = true) (h4 : ∀ j, max a 1 ≤ j → j < r → isE l j = false) : al l a = r := by
  obtain ⟨g1, g2, g3, g4⟩ := al_range (l := l) (a := a) (by omega)
  rcases Nat.lt_trichotomy (al l a) r with h | h | h
  · rw [h4 _ g1 h] at g3; cases g3
  · exact h
  · rw [g4 _ h1 h] at h3; cases h3
theorem al_le (l : List UInt8) (a : Nat) : al l a ≤ l.length := by
  rcases Nat.lt_or_ge l.length (max a 1) with h | h
  · rw [al_big h]; exact Nat.le_refl _
  · exact (al_range h).2.1
theorem ib_spec : ∀ (l : List UInt8), (Lib.indexByte l 10 = -1 ∧ ∀ j, j < l.length → l.getD j 0 ≠ 10) ∨ (∃ k : Nat, Lib.indexByte l 10 = (k : Int) ∧ k < l.length ∧ l.getD k 0 = 10 ∧ ∀ j, j < k → l.getD j 0 ≠ 10)
  | [] => .inl ⟨rfl, fun j h => by simp at h⟩
  | b :: l => by
    by_cases hb : b = 10
    · refine .inr ⟨0, ?_, by simp, by simpa using hb, fun j h => by omega⟩
      unfold Lib.indexByte
      simp [hb]
    · have hb' : (b == 10) = false := by simpa using hb
      rcases ib_spec l with ⟨h1, h2⟩ | ⟨k, h1, h2, h3, h4⟩
      · refine .inl ⟨?_, fun j h => ?_⟩
        · unfold Lib.indexByte
          rw [hb', h1]; rfl
        · cases j with
          | zero => simpa using hb
          | succ j => rw [List.getD_cons_succ]; exact h2 j (by simpa using h)
      · refine .inr ⟨k + 1, ?_, by simpa using h2, by rw [List.getD_cons_succ]; exact h3, fun j h => ?_⟩
        · unfold Lib.indexByte
          rw [hb', h1]; rfl
        · cases j with
          | zero => simpa using hb
          | succ j => rw [List.getD_cons_succ]; exact h4 j (by omega)
/-- the first end from m on, by the first byte 10 from m - 1 on -/
theorem al_ib {l : List UInt8} {m : Nat} (h1 : 1 ≤ m) (h2 : m ≤ l.length) : (Lib.indexByte (l.drop (m - 1)) 10 = -1 ∧ al l m = l.length) ∨ ∃ k : Nat, Lib.indexByte (l.drop (m - 1)) 10 = (k : Int) ∧ al l m = m + k ∧ m + k ≤ l.length := by
  have hg : ∀ j, (l.drop (m - 1)).getD j 0 = l.getD (m - 1 + j) 0 := fun j => by simp [List.getD_eq_getElem?_getD]
  have hmx : max m 1 = m := by omega
  have hne : ∀ j, m ≤ j → j < l.length → l.getD (j - 1) 0 ≠ 10 → isE l j = false := fun j a b c => by
    have : ¬ j = l.length := by omega
    simpa [isE, this] using c
  rcases ib_spec (l.drop (m - 1)) with ⟨e, h⟩ | ⟨k, e, hk, ht, h⟩
  · refine .inl ⟨e, al_eq (by omega) (Nat.le_refl _) (isE_len l) (fun j a b => hne j (by omega) b ?_)⟩
    have := h (j - m) (by rw [List.length_drop]; omega)
    rw [hg, show m - 1 + (j - m) = j - 1 by omega] at this
    exact this
  · rw [List.length_drop] at hk
    refine .inr ⟨k, e, al_eq (by omega) (by omega) ?_ (fun j a b => hne j (by omega) (by omega) ?_), by omega⟩
    · rw [hg] at ht
      unfold isE
      rw [show m + k - 1 = m - 1 + k by omega, ht]
      simp
    · have := h (j - m) (by omega)
      rw [hg, show m - 1 + (j - m) = j - 1 by omega] at this
      exact this
/-- the records' ends behind i -/
def ee (l : List UInt8) (i : Nat) : List Nat := Chu.mks (isE l) (i + 1) (l.length + 1)
theorem mks_next {mk : Nat → Bool} {f r t : Nat} (h1 : f ≤ r) (h2 : r < t) (h3 : mk r = true) (h4 : ∀ j, f ≤ j → j < r → mk j = false) : Chu.mks mk f t = r :: Chu.mks mk (r + 1) t := by
  refine asc_ext _ _ (Chu.mks_pw _ _ _) (List.pairwise_cons.2 ⟨fun x hx => ?_, Chu.mks_pw _ _ _⟩) (fun x => ?_)
  · have := (Chu.mks_mem _ _ _ _).1 hx; omega
  · rw [List.mem_cons, Chu.mks_mem, Chu.mks_mem]
    constructor
    · rintro ⟨⟨a, b⟩, c⟩
      rcases Nat.lt_trichotomy x r with h | h | h
      · rw [h4 x a h] at c; cases c
      · exact .inl h
      · exact .inr ⟨⟨by omega, b⟩, c⟩
    · rintro (h | ⟨⟨a, b⟩, c⟩)
      · subst h; exact ⟨⟨h1, h2⟩, h3⟩
      · exact ⟨⟨by omega, b⟩, c⟩
theorem ee_next {l : List UInt8} {i : Nat} (h : i < l.length) : ee l i = al l (i + 1) :: ee l (al l (i + 1)) := by
  obtain ⟨a, b, c, d⟩ := al_range (l := l) (a := i + 1) (by omega)
  unfold ee
  exact mks_next (by omega) (by omega) c (fun j x y => d j (by omega) y)
theorem ee_nil {l : List UInt8} {i : Nat} (h : l.length ≤ i) : ee l i = [] := by
  unfold ee Chu.mks
  rw [show l.length + 1 - (i + 1) = 0 by omega]
  rfl
theorem ee_mem (l : List UInt8) (i x : Nat) : x ∈ ee l i ↔ i < x ∧ x ≤ l.length ∧ isE l x = true := by
  unfold ee
  rw [Chu.mks_mem]
  constructor
  · rintro ⟨⟨a, b⟩, c⟩; exact ⟨by omega, by omega, c⟩
  · rintro ⟨a, b, c⟩; exact ⟨⟨by omega, by omega⟩, c⟩
/-- the aligned cuts behind a, by the cuts -/
def acut (l : List UInt8) : Nat → List Nat → List Nat
  | _, [] => []
  | a, c :: r => if a < c then al l c :: acut l (al l c) r else acut l a r
end Lin
/-- the records from the place i on -/
def recsF (s : ByteArray) (i : Nat) : List ByteArray := pcTexts s (Chu.pcs i (Lin.ee s.data.toList i))
def recs (s : ByteArray) : List ByteArray := recsF s 0
theorem recsF_next {s : ByteArray} {i : Nat} (h : i < s.size) : recsF s i = s.extract i (Lin.al s.data.toList (i + 1)) :: recsF s (Lin.al s.data.toList (i + 1)) := by
  have hl := ba_len s
  obtain ⟨a, b, c, d⟩ := Lin.al_range (l := s.data.toList) (a := i + 1) (by omega)
  unfold recsF
  rw [Lin.ee_next (by omega), Chu.pcs]
  unfold pcTexts
  rw [List.map_cons]
  simp only
  rw [show i + (Lin.al s.data.toList (i + 1) - i) = Lin.al s.data.toList (i + 1) by omega]
theorem recsF_nil {s : ByteArray} {i : Nat} (h : s.size ≤ i) : recsF s i = [] := by
  unfold recsF
  rw [Lin.ee_nil (by rw [ba_len]; exact h)]
  rfl
/-- the length of the longest one -/
def lg : List ByteArray → Nat
  | [] => 0
  | x :: r => max x.size (lg r)
/-- the aligned cuts of a text -/
def Ctr.aends (c : Ctr) (l : List UInt8) : List Nat := Lin.acut l 0 (c.ends l)
/-- the aligned pieces -/
def Ctr.acut (c : Ctr) (l : List UInt8) : List (Nat × Nat) := Chu.pcs 0 (c.aends l)
def Ctr.atexts (c : Ctr) (s : ByteArray) : List ByteArray := pcTexts s (c.acut s.data.toList)
end Go.Proofs.Ytcmlcpejlmlcfaa

/-
  The iterator over the records of a text (strings.Lines): whatever its caller does with each, and whether it goes on or not.
-/
set_option linter.unusedVariables false
set_option maxRecDepth 100000
namespace Go.Proofs.Ytcmlcpejlmlcfaa
open Go.RowKit
attribute [local go_sem] Oper.semAt_some

theorem run_sub_lo {P : Program} {o : Oper} {a : Act} {u : World} (t : TypeId) (x l : Operand) (ho : o.op = .slice t x (some l) none none) (xv lv v : Value) (hx : a.eval x = xv) (hl : a.eval l = lv) (hr : (Instr.sliceAt t xv (some lv) none none).run P u = .ok v u) : (execOp a.eval o).run P u = .ok (.value v) u := by
  unfold execOp
  simp only [ho, Option.map_some, Option.map_none, hx, hl, Sem.run_bind, hr, Result.andThen_ok, Sem.run_pure]
theorem text_tail (s : ByteArray) (i : Nat) (h : i ≤ s.size) (u : World) : (Instr.sliceAt 9 (.string s) (some (.int .i64 (i : Int))) none none).run Try.prog u = .ok (.string (s.extract i s.size)) u := by
  simp [Instr.sliceAt, Instr.slice, Instr.sliceBounds, Instr.sliceBound, asIntOf, run_underlying Try.underlying9]
  omega
theorem tail_head (s : ByteArray) (i k : Nat) (h : i + k ≤ s.size) : (s.extract i s.size).extract 0 k = s.extract i (i + k) := by
  rw [ByteArray.extract_extract, show min (i + k) s.size = i + k by omega, show i + 0 = i by omega]
theorem tail_tail (s : ByteArray) (i k : Nat) (h : i + k ≤ s.size) : (s.extract i s.size).extract k (s.extract i s.size).size = s.extract (i + k) s.size := by
  rw [ByteArray.extract_extract, ByteArray.size_extract, show min (i + (min s.size s.size - i)) s.size = s.size by omega]
theorem tail_list (s : ByteArray) (i : Nat) : (s.extract i s.size).data.toList = s.data.toList.drop i := by
  rw [Lib.extract_eq]
  simp only []
  rw [← ba_len, List.take_of_length_le (by rw [List.length_drop]; omega)]
theorem tail_none (s : ByteArray) : s.extract s.size s.size = ⟨#[]⟩ := nothingT _ (by rw [ByteArray.size_extract]; omega)

/-- what is still to be gone over: the text from i on -/
def LsAt (X : Nat) (s : ByteArray) (i : Nat) (w : World) : Prop := w.heap[X]? = some (.cells #[.string (s.extract i s.size)] 9 (0, 0))
/-- how much is still to be gone over -/
def restLen (X : Nat) (w : World) : Nat := match w.cell? ⟨X, 0, none⟩ with | some (.string y) => y.size | _ => 0
theorem LsAt.rest {X i : Nat} {s : ByteArray} {w : World} (h : LsAt X s i w) : restLen X w = s.size - i := by
  unfold restLen
  rw [cell_of_one h]
  simp only [ByteArray.size_extract]
  omega
theorem LsAt.set {X i r : Nat} {s : ByteArray} {w : World} (h : LsAt X s i w) : LsAt X s r (w.setCell ⟨X, 0, none⟩ (.string (s.extract r s.size))) := by
  unfold LsAt at *
  rw [heap_setCell_same _ _ 0 _ _ _ h]; rfl
theorem index10 (s : ByteArray) (w : World) (K : Int) (h : Lib.indexByte s.data.toList 10 = K) :
    Calls Try.prog 56 #[.string s, .int .u8 10] w fun e w' => e = .returned (.int .i64 K) ∧ w' = w := by
  subst h
  exact Try.strings_IndexByte s 10 w

end Go.Proofs.Ytcmlcpejlmlcfaa

/-
  Rows of texts that the call itself makes by append; a range over the records of a text whose body always goes on.
-/
set_option linter.unusedVariables false
set_option maxRecDepth 100000
namespace Go.Proofs.Ytcmlcpejlmlcfaa
open Go.RowKit

theorem tstr_info : (Try.prog.info? 9).map (fun i => (i.zero, i.size, i.bytes)) = some (some (.string ⟨#[]⟩), 1, 16) := by kernel_rfl
theorem slice_str1 (s : ByteArray) (w : World) : (Instr.buildSlice 24 1 #[(0, .string s)]).run Try.prog w = .ok (.slice (some ⟨w.heap.size, 0, none⟩) 1 1) (w.alloc (.cells #[.string s] 9)) := by
  obtain ⟨i, hi, h0, h1, h2⟩ := info_parts tstr_info
  have hf := Great.fill_whole (s := 1) (by omega) [.string s] ((Array.range (1 * 1)).map ((Value.string .empty).cells[· % (Value.string .empty).cells.size]!)) (fun v hv => by simp at hv; subst hv; rfl) (by simp)
  refine run_buildSlice w 24 9 1 _ #[.string s] i _ Try.underlying24 hi h0 (by rw [h1]; decide) (by rw [h1]; decide) ?_
  rw [h1]
  have e : ([Value.string s].flatMap fun v => v.cells.toList).toArray = #[.string s] := by simp [Value.cells]
  rw [e] at hf
  exact hf
/-- a slice of the call's own that holds these texts -/
def TOwn (B : Nat) (v : Value) (l : List ByteArray) (w : World) : Prop := w.ownsRow B 9 1 v l.length (l.map Value.string)
/-- the slice reads as these texts -/
def SRd (v : Value) (l : List ByteArray) (w : World) : Prop := ∃ a cap, v = .slice a l.length cap ∧ l.length ≤ cap ∧ ∀ j, j < l.length → ∃ b, a = some ⟨b, 0, none⟩ ∧ w.cell? ⟨b, j, none⟩ = some (.string (l.getD j .empty))
section
variable {B : Nat} {v : Value} {l : List ByteArray} {w w' : World}
theorem TOwn.same (h : TOwn B v l w) (hk : ∀ g, B ≤ g → g < w.heap.size → (∃ cs : Array Value, w.heap[g]? = some (.cells cs 9 (0, 0))) → w'.heap[g]? = w.heap[g]?) : TOwn B v l w' :=
  ownsRow_same h fun g hg => by
    have := World.ownsRow.lt h g hg
    exact hk g this.1 this.2 (ownsRow_block h hg)
theorem TOwn.new (h : TOwn B v l w) (hb : Below w.heap.size w w') : TOwn B v l w' := ownsRow_new h hb
theorem TOwn.keeps {T : Nat → Prop} (h : TOwn B v l w) (ht : Turns T w w') (hT : ∀ g, B ≤ g → g < w.heap.size → (∃ cs : Array Value, w.heap[g]? = some (.cells cs 9 (0, 0))) → ¬ T g) : TOwn B v l w' :=
  h.same fun g h1 h2 h3 => ht.block g h2 (hT g h1 h2 h3)
theorem TOwn.form (h : TOwn B v l w) : ∃ a cap, v = .slice a l.length cap := by
  rcases h.2 with ⟨rfl, h0⟩ | ⟨g, cap, _, hv, _⟩
  · exact ⟨none, 0, by rw [h0]⟩
  · exact ⟨_, cap, hv⟩
theorem TOwn.stays {C : Nat} : Stays C (TOwn B v l) := fun W j o o' hl ho hc h =>
  TOwn.same h fun g _ _ ⟨cs, hcs⟩ => World.putObj_heap_other (fun e => by subst e; rw [hcs] at ho; cases ho; simp [Obj.isCells] at hc)
theorem TOwn.base {B' : Nat} (h : TOwn B v l w) (hb : B' ≤ B) : TOwn B' v l w := by
  refine ⟨h.1, ?_⟩
  rcases h.2 with hh | ⟨g, cap, cur, e1, e2, e3⟩
  · exact .inl hh
  · exact .inr ⟨g, cap, cur, e1, Nat.le_trans hb e2, e3⟩
theorem TOwn.low {b : Nat} (h : TOwn B v l w) (hb : b < B) : v.ownBlock ≠ some b := fun e => by
  have := (World.ownsRow.lt h b e).1; omega
theorem TOwn.off {b : Nat} (h : TOwn B v l w) {cs : Array Value} {T : TypeId} (hT : T ≠ 9) (hr : w.heap[b]? = some (.cells cs T (0, 0))) : v.ownBlock ≠ some b := fun e => by
  obtain ⟨cur, hcur⟩ := ownsRow_block h e
  rw [hr] at hcur
  simp only [Option.some.injEq, Obj.cells.injEq] at hcur
  exact hT hcur.2.1
theorem TOwn.reads (h : TOwn B v l w) : SRd v l w := by
  rcases h.2 with ⟨rfl, h0⟩ | ⟨g, cap, cur, rfl, hb, hg, hn, hm, hc, ht⟩
  · exact ⟨none, 0, by rw [h0], by omega, fun j hj => by omega⟩
  · refine ⟨_, cap, rfl, hn, fun j hj => ⟨g, rfl, ?_⟩⟩
    rw [cell_of_row _ _ j _ _ _ hg]
    have hu : (l.map Value.string)[j]? = some (.string (l.getD j .empty)) := by
      simp [List.getD_eq_getElem?_getD, hj]
    rw [← ht, List.getElem?_take] at hu
    split at hu
    · simpa using hu
    · cases hu
theorem SRd.new (h : SRd v l w) (hb : Below w.heap.size w w') : SRd v l w' := by
  obtain ⟨a, cap, rfl, hc, hf⟩ := h
  refine ⟨a, cap, rfl, hc, fun j hj => ?_⟩
  obtain ⟨b, rfl, e⟩ := hf j hj
  exact ⟨b, rfl, by rw [hb.cell (p := ⟨b, j, none⟩) (cell_lt e)]; exact e⟩
end
theorem SRd.made {g : Nat} {L : List ByteArray} {w : World} (h : w.heap[g]? = some (.cells (L.map Value.string).toArray 9 (0, 0))) : SRd (.slice (some ⟨g, 0, none⟩) L.length L.length) L w := by
  refine ⟨_, _, rfl, Nat.le_refl _, fun j hj => ⟨g, rfl, ?_⟩⟩
  rw [cell_of_row _ _ j _ _ _ h]
  simp [List.getD_eq_getElem?_getD, hj]

theorem LsAt.stays {C X i : Nat} {s : ByteArray} : Stays C (LsAt X s i) := fun W j o o' hl ho hc h => Stays.row W j o o' hl ho hc h
theorem LsAt.new {X i : Nat} {s : ByteArray} {w w' : World} (h : LsAt X s i w) (hb : Below w.heap.size w w') : LsAt X s i w' := by
  unfold LsAt at *
  rw [hb.block _ (row_lt h)]; exact h

end Go.Proofs.Ytcmlcpejlmlcfaa

/-
  What lines.Records returns.
-/
set_option linter.unusedVariables false
set_option maxRecDepth 100000
namespace Go.Proofs.Ytcmlcpejlmlcfaa
open Go.RowKit
attribute [local go_sem] Oper.semAt_some

theorem recsF_len (s : ByteArray) (i : Nat) : (recsF s i).length ≤ s.size - i := by
  unfold recsF
  rw [pcTexts_length, Chu.pcs_length]
  have := Chu.mks_length (Lin.isE s.data.toList) (i + 1) (s.data.toList.length + 1)
  unfold Lin.ee
  rw [ba_len] at *
  omega
/-- what is collected so far -/
def RcI (L : Nat) (s : ByteArray) (w : World) (i : Nat) (W : World) : Prop :=
  ∃ v ts, W.heap[L]? = some (.cells #[v] 24 (0, 0)) ∧ TOwn (L + 2) v ts W ∧ recs s = ts ++ recsF s i ∧ ts.length ≤ i ∧ Below w.heap.size w W
section
variable {L X i C : Nat} {s : ByteArray} {w W W' : World}
theorem RcI.turn (h : RcI L s w i W) (hX : X = L + 1) (hL : L = w.heap.size) (ht : Turns (fun j => j = X) W W') : RcI L s w i W' := by
  obtain ⟨v, ts, h1, h2, h3, h4, h5⟩ := h
  exact ⟨v, ts, ht.same h1 (by omega), h2.keeps ht (fun g hg _ _ => by omega), h3, h4, h5.trans (ht.below h5.size (fun j _ e => by omega))⟩
theorem RcI.new (h : RcI L s w i W) (hb : Below W.heap.size W W') : RcI L s w i W' := by
  obtain ⟨v, ts, h1, h2, h3, h4, h5⟩ := h
  exact ⟨v, ts, by rw [hb.block _ (row_lt h1)]; exact h1, h2.new hb, h3, h4, h5.trans (hb.mono h5.size)⟩
theorem RcI.stays (hC : w.heap.size ≤ C) : Stays C (RcI L s w i) := fun W j o o' hl ho hc ⟨v, ts, h1, h2, h3, h4, h5⟩ =>
  ⟨v, ts, Stays.row W j o o' hl ho hc h1, TOwn.stays W j o o' hl ho hc h2, h3, h4, Stays.below hC W j o o' hl ho hc h5⟩
end

end Go.Proofs.Ytcmlcpejlmlcfaa

/-
  What lines.Longest and lines.Align return.
-/
set_option linter.unusedVariables false
set_option maxRecDepth 100000
namespace Go.Proofs.Ytcmlcpejlmlcfaa
open Go.RowKit
attribute [local go_sem] Oper.semAt_some

theorem lg_le (s : ByteArray) : ∀ (f i : Nat), s.size - i ≤ f → lg (recsF s i) ≤ s.size
  | 0, i, h => by rw [recsF_nil (by omega)]; simp [lg]
  | f + 1, i, h => by
    rcases Nat.lt_or_ge i s.size with h1 | h1
    · rw [recsF_next h1, lg]
      have hr := Lin.al_range (l := s.data.toList) (a := i + 1) (by rw [ba_len]; omega)
      have ih := lg_le s f (Lin.al s.data.toList (i + 1)) (by omega)
      have : (s.extract i (Lin.al s.data.toList (i + 1))).size ≤ s.size := by rw [ByteArray.size_extract]; omega
      omega
    · rw [recsF_nil (by omega)]; simp [lg]
/-- the longest so far -/
def LgI (L : Nat) (s : ByteArray) (w : World) (i : Nat) (W : World) : Prop :=
  ∃ n : Nat, W.heap[L]? = some (.cells #[.int .i64 (n : Int)] 3 (0, 0)) ∧ lg (recs s) = max n (lg (recsF s i)) ∧ n ≤ s.size ∧ Below w.heap.size w W
section
variable {L X i C : Nat} {s : ByteArray} {w W W' : World}
theorem LgI.turn (h : LgI L s w i W) (hX : X = L + 1) (hL : L = w.heap.size) (ht : Turns (fun j => j = X) W W') : LgI L s w i W' := by
  obtain ⟨n, h1, h2, h3, h5⟩ := h
  exact ⟨n, ht.same h1 (by omega), h2, h3, h5.trans (ht.below h5.size (fun j _ e => by omega))⟩
theorem LgI.new (h : LgI L s w i W) (hb : Below W.heap.size W W') : LgI L s w i W' := by
  obtain ⟨n, h1, h2, h3, h5⟩ := h
  exact ⟨n, by rw [hb.block _ (row_lt h1)]; exact h1, h2, h3, h5.trans (hb.mono h5.size)⟩
theorem LgI.stays (hC : w.heap.size ≤ C) : Stays C (LgI L s w i) := fun W j o o' hl ho hc ⟨n, h1, h2, h3, h5⟩ =>
  ⟨n, Stays.row W j o o' hl ho hc h1, h2, h3, Stays.below hC W j o o' hl ho hc h5⟩
end

/-- to which place any place of a text is aligned -/
def alI (s : ByteArray) (a : Int) : Nat := Lin.al s.data.toList a.toNat
set_option maxHeartbeats 1000000 in
theorem align_any (s : ByteArray) (hsz : s.size ≤ 1099511627776) (a : Int) (ha : -9223372036854775808 ≤ a ∧ a ≤ 9223372036854775807) (w : World) :
    Calls Try.prog 48 #[.string s, .int .i64 a] w fun e w' => e = .returned (.int .i64 (alI s a : Nat)) ∧ w' = w := by
  obtain ⟨m, hm⟩ : ∃ m : Nat, (m : Int) = max a 1 := ⟨(max a 1).toNat, by omega⟩
  have hmm : max a.toNat 1 = m := by omega
  have hal : alI s a = Lin.al s.data.toList m := by unfold alI; rw [← hmm, Lin.al_one]
  rw [hal]
  have hm1 : 1 ≤ m := by omega
  have hmx : max a 1 = (m : Int) := hm.symm
  clear hal hmm hm
  by_cases hb : s.size < m
  · have e := Lin.al_big (l := s.data.toList) (a := m) (by rw [ba_len]; omega)
    rw [ba_len] at e
    rw [e]
    have hd : decide (s.size < m) = true := decide_eq_true hb
    clear e
    go_enter Try.func48, Try.ntmps48
    go_wp2_with fail
    go_ret
    exact ⟨rfl, rfl⟩
  · have hd : decide (s.size < m) = false := decide_eq_false hb
    have hal := Lin.al_ib (l := s.data.toList) (m := m) hm1 (by rw [ba_len]; omega)
    rw [ba_len] at hal
    have hw1 : IntKind.i64.wrap ((m : Int) - 1) = (m : Int) - 1 := by simp only [IntKind.wrap_i64]; omega
    have hsl := fun u => text_tail s (m - 1) (by omega) u
    have hmc : ((m - 1 : Nat) : Int) = (m : Int) - 1 := by omega
    rw [hmc] at hsl
    have htl := tail_list s (m - 1)
    rw [← htl] at hal
    generalize s.extract (m - 1) s.size = y at *
    obtain ⟨r, hr⟩ : ∃ r, r = Lin.al s.data.toList m := ⟨_, rfl⟩
    rw [← hr] at hal ⊢
    clear hr hmc htl
    rcases hal with ⟨hK, hre⟩ | ⟨k, hK, hre, hrl⟩
    · have ci := fun u => index10 y u (-1) hK
      have Ci := Lib.hid ci; clear ci hK
      subst hre
      go_enter Try.func48, Try.ntmps48
      go_wp2_with fail
      refine (Ci.out _).mono ?_; rintro e w2 ⟨rfl, rfl⟩
      go_wp2_with fail
      go_ret
      exact ⟨rfl, rfl⟩
    · have ci := fun u => index10 y u k hK
      have Ci := Lib.hid ci; clear ci hK
      subst hre
      go_enter Try.func48, Try.ntmps48
      go_wp2_with fail
      refine (Ci.out _).mono ?_; rintro e w2 ⟨rfl, rfl⟩
      go_wp2_with fail
      go_ret
      exact ⟨by go_num, rfl⟩
end Go.Proofs.Ytcmlcpejlmlcfaa

/-
  What the closure of lines.Cut does: it puts a piece behind the others.
-/
set_option linter.unusedVariables false
set_option maxRecDepth 100000
namespace Go.Proofs.Ytcmlcpejlmlcfaa
open Go.RowKit

set_option maxHeartbeats 1000000 in
theorem lcut1_any {Bs Bl Ba a i : Nat} {ps : List Pc} {v : Value} {w : World} (h : CutAt Bs Bl Ba ps a v w) (hlen : ps.length ≤ 1099511627776) (hBs : Bs ≤ w.heap.size) (ha : a ≤ i) (hi : i ≤ 140737488351232) :
    Calls Try.prog 47 #[.int .i64 (i : Int), .pointer (some ⟨Bl, 0, none⟩), .pointer (some ⟨Ba, 0, none⟩)] w fun e w' => e = .returned (.tuple #[]) ∧ (∃ v', CutAt Bs Bl Ba (ps ++ [(a, i - a)]) i v' w') ∧ Turns (fun j => j = Bl ∨ j = Ba ∨ v.ownBlock = some j) w w' := by
  obtain ⟨i0, hi0, hz0, hz1, hz2⟩ := info_parts piece_info
  have c1 := cell_of_one h.l
  have f1 := row_free h.l 0
  have c2 := cell_of_one h.a
  have f2 := row_free h.a 0
  have hw1 : IntKind.i64.wrap ((i : Int) - (a : Int)) = ((i - a : Nat) : Int) := by simp only [IntKind.wrap_i64]; omega
  have hoX := h.o.off (by decide) h.l
  have hoA := h.o.off (by decide) h.a
  have hne : Bl ≠ Ba := fun e => by
    have h1 := h.l
    rw [e, h.a] at h1
    simp only [Option.some.injEq, Obj.cells.injEq] at h1
    exact absurd h1.2.1 (by decide)
  obtain ⟨va, vcap, hvf⟩ := h.o.form
  have Hvf := Lib.hid hvf; clear hvf
  have hbl := row_lt h.l
  have hba := row_lt h.a
  have H := Lib.hid h; clear h
  have HoX := Lib.hid hoX; clear hoX
  have HoA := Lib.hid hoA; clear hoA
  go_enter Try.func47, Try.ntmps47
  go_wp2_with (at_builtin; go_loud (refine wpList_append_own_at _ rfl _ _ 65 rfl Bs 68 i0 (.agg #[.int .i64 0, .int .i64 0]) 2 16 Try.underlying65 hi0 hz0 hz1 hz2 rfl (by decide) _ _ _ rfl (World.ownsRow.alloc H.out.o _) ⟨w.heap.size, 0, none⟩ 1 1 [.int .i64 (a : Int), .int .i64 ((i - a : Nat) : Int)] rfl rfl (cell_new_row w [.int .i64 (a : Int), .int .i64 ((i - a : Nat) : Int)] 68) ?c2 ?c3 ?c4 ?c5 ?_))
  case c2 => intro z hz; simp at hz; rcases hz with rfl | rfl <;> rfl
  case c3 => unfold maxLen; omega
  case c4 => omega
  case c5 => simp; omega
  intro v' w5 hown5 hgrow _ hvb2
  have hbY : Below w.heap.size w (w.alloc (.cells #[.int .i64 (a : Int), .int .i64 ((i - a : Nat) : Int)] 68)) := box_below w _
  have hkp : ∀ j o, w.heap[j]? = some o → v.ownBlock ≠ some j → w5.heap[j]? = some o := fun j o ho hne => by
    rw [hgrow.block j (by have := row_lt ho; have := hbY.size; omega) (fun e => hne e.symm), hbY.block j (row_lt ho)]; exact ho
  have hl5 := hkp _ _ H.out.l HoX.out
  have ha5 := hkp _ _ H.out.a HoA.out
  have ho5 : POwn Bs v' (ps ++ [(a, i - a)]) w5 := by
    unfold POwn
    rw [List.length_append, List.flatMap_append]
    exact hown5
  have hT5 : Turns (fun j => j = Bl ∨ j = Ba ∨ v.ownBlock = some j) w w5 := (Turns.of_new hbY _).trans (Turns.of_grown hgrow) (fun j _ e => .inr (.inr e))
  have hoX5 := ho5.off (by decide) hl5
  have hoA5 := ho5.off (by decide) ha5
  obtain ⟨va5, vcap5, hv5⟩ := ho5.form
  obtain ⟨n5, hn5⟩ : ∃ n5, n5 = (ps ++ [(a, i - a)]).length := ⟨_, rfl⟩
  rw [← hn5] at hv5
  subst hv5
  have c5 := cell_of_one hl5
  have f5 := row_free hl5 0
  have ha6 : (w5.setCell ⟨Bl, 0, none⟩ (.slice va5 n5 vcap5)).heap[Ba]? = some (.cells #[.int .i64 (a : Int)] 3 (0, 0)) := by
    rw [heap_setCell_other _ _ _ _ (fun e => hne e.symm)]; exact ha5
  have c6 := cell_of_one ha6
  have f6 := row_free ha6 0
  have hl7 : ((w5.setCell ⟨Bl, 0, none⟩ (.slice va5 n5 vcap5)).setCell ⟨Ba, 0, none⟩ (.int .i64 (i : Int))).heap[Bl]? = some (.cells #[.slice va5 n5 vcap5] 65 (0, 0)) := by
    rw [heap_setCell_other _ _ _ _ hne, heap_setCell_same _ _ 0 _ _ _ hl5]; rfl
  have ha7 : ((w5.setCell ⟨Bl, 0, none⟩ (.slice va5 n5 vcap5)).setCell ⟨Ba, 0, none⟩ (.int .i64 (i : Int))).heap[Ba]? = some (.cells #[.int .i64 (i : Int)] 3 (0, 0)) := by
    rw [heap_setCell_same _ _ 0 _ _ _ ha6]; rfl
  have ho7 : POwn Bs (.slice va5 n5 vcap5) (ps ++ [(a, i - a)]) ((w5.setCell ⟨Bl, 0, none⟩ (.slice va5 n5 vcap5)).setCell ⟨Ba, 0, none⟩ (.int .i64 (i : Int))) :=
    ownsRow_same ho5 fun g hg => by
      rw [heap_setCell_other _ _ _ _ (fun e => hoA5 (by rw [hg]; exact congrArg some e)), heap_setCell_other _ _ _ _ (fun e => hoX5 (by rw [hg]; exact congrArg some e))]
  have hT7 := (hT5.set Bl 0 (.slice va5 n5 vcap5) (fun _ => .inl rfl)).set Ba 0 (.int .i64 (i : Int)) (fun _ => .inr (.inl rfl))
  have HL := Lib.hid hl7; clear hl7
  have HA := Lib.hid ha7; clear ha7
  have HO := Lib.hid ho7; clear ho7
  have HT := Lib.hid hT7; clear hT7
  clear hown5 hgrow hvb2 hbY hkp hl5 ha5 ho5 hT5 hoX5 hoA5 hn5 ha6 c1 c2 f1 f2
  go_wp2_with fail
  go_end0
  exact ⟨rfl, ⟨_, HL.out, HO.out, HA.out⟩, HT.out⟩
end Go.Proofs.Ytcmlcpejlmlcfaa

/-
  What lines.Cut returns.
-/
set_option linter.unusedVariables false
set_option maxRecDepth 100000
namespace Go.Proofs.Ytcmlcpejlmlcfaa
open Go.RowKit

theorem Lin.acut_len (l : List UInt8) : ∀ (a : Nat) (cs : List Nat), (Lin.acut l a cs).length ≤ cs.length
  | _, [] => by simp [Lin.acut]
  | a, c :: r => by
    unfold Lin.acut
    split
    · have := Lin.acut_len l (Lin.al l c) r; simp; omega
    · have := Lin.acut_len l a r; simp; omega
theorem pw_get : ∀ (l : List Nat) (i : Nat), l.Pairwise (· ≤ ·) → i + 1 < l.length → l.getD i 0 ≤ l.getD (i + 1) 0
  | [], i, _, h => by simp at h
  | x :: r, 0, hp, h => by
    have h' : 0 < r.length := by simpa using h
    have := (List.pairwise_cons.1 hp).1 (r.getD 0 0) (by rw [List.getD_eq_getElem?_getD, List.getElem?_eq_getElem h']; exact List.getElem_mem _)
    simpa using this
  | x :: r, i + 1, hp, h => by
    rw [List.getD_cons_succ, List.getD_cons_succ]
    exact pw_get r i (List.pairwise_cons.1 hp).2 (by simpa using h)
/-- each piece ends at its cut -/
theorem Ctr.cut_sum {c : Ctr} (h : c.May) (l : List UInt8) (i : Nat) (hi : i < (c.ends l).length) : ((c.cut l).getD i (0, 0)).1 + ((c.cut l).getD i (0, 0)).2 = (c.ends l).getD i 0 ∧ 1 ≤ (c.ends l).getD i 0 ∧ (c.ends l).getD i 0 ≤ l.length := by
  have hp := ends_pw (mk := c.isMk l) (len := l.length) h.nat.1 h.nat.2.1 l.length 0
  have hg := pw_get (0 :: c.ends l) i hp (by simpa using hi)
  have hr := Ctr.ends_range h l ((c.ends l).getD i 0) (by rw [List.getD_eq_getElem?_getD, List.getElem?_eq_getElem hi]; exact List.getElem_mem _)
  unfold Ctr.cut
  rw [Chu.pcs_get 0 _ i hi]
  rw [List.getD_cons_succ] at hg
  refine ⟨?_, by omega, hr.2⟩
  simp only
  omega

/-- .. from the i-th cut on -/
def LcI (s : ByteArray) (A : List Pc) (E n : Nat) (F : List Nat) (w1 : World) (i : Nat) (W : World) : Prop :=
  ∃ a ps v, CutAt (E + 2) E (E + 1) ps a v W ∧ A = ps ++ Chu.pcs a (Lin.acut s.data.toList a (F.drop i)) ∧ ps.length ≤ i ∧ a ≤ s.size ∧ Below w1.heap.size w1 W

set_option maxHeartbeats 1000000 in
theorem lcut_any (c : Ctr) (hp : c.p < 18446744073709551616) (s : ByteArray) (hsz : s.size ≤ 1099511627776) (w : World) :
    Calls Try.prog 31 #[c.v, .string s] w fun e w' => Below w.heap.size w w' ∧ if c.May then ∃ v, e = .returned (.tuple #[v, .int .i64 0]) ∧ POwn w.heap.size v (c.acut s.data.toList) w' else e = .returned (.tuple #[.slice none 0 0, .int .i64 2]) := by
  have cf := fun u => chCut_any c hp s hsz u
  by_cases hm : c.May
  · simp only [if_pos hm] at cf ⊢
    have hlen := Ctr.cut_len hm s.data.toList
    have hsum := Ctr.cut_sum hm s.data.toList
    rw [ba_len] at hlen hsum
    obtain ⟨F, hF⟩ : ∃ F, F = c.ends s.data.toList := ⟨_, rfl⟩
    obtain ⟨A, hA⟩ : ∃ A, A = c.acut s.data.toList := ⟨_, rfl⟩
    have hA0 : A = [] ++ Chu.pcs 0 (Lin.acut s.data.toList 0 (F.drop 0)) := by rw [hA, List.drop_zero, hF]; rfl
    have hFL : F.length = (c.cut s.data.toList).length := by rw [hF]; unfold Ctr.cut; rw [Chu.pcs_length]
    rw [← hA]
    rw [← hF] at hsum
    obtain ⟨L, hL⟩ : ∃ L, L = c.cut s.data.toList := ⟨_, rfl⟩
    rw [← hL] at hlen hsum cf hFL
    obtain ⟨n, hn⟩ : ∃ n, n = L.length := ⟨_, rfl⟩
    rw [← hn] at hlen hFL
    rw [hFL] at hsum
    unfold Ctr.v at *
    have Cf := Lib.hid cf; clear cf
    have hbw := box_below w (.cells #[.int .u64 c.p, .int .i64 c.n, .int .i64 c.mn, .int .i64 c.mx, .int .i64 c.b] 38)
    have Hbw := Lib.hid hbw; clear hbw
    have Hsum := Lib.hid hsum; clear hsum
    have HA0 := Lib.hid hA0; clear hA0 hA
    have Hn := Lib.hid hn; clear hn
    have HFL := Lib.hid hFL; clear hFL
    clear hm hL hF
    go_enter Try.func31, Try.ntmps31
    go_wp2_with fail
    refine (Cf.out _).mono ?_; rintro e w1 ⟨h1, v, rfl, hv⟩
    obtain ⟨va, vcap, hvf⟩ := hv.form
    rw [← Hn.out] at hvf
    subst hvf
    have Hv := Lib.hid hv; clear hv
    have H1 := Lib.hid h1; clear h1
    have hs1 := H1.out.size
    simp only [World.size_alloc] at hs1
    go_wp2_with fail
    obtain ⟨E, hE⟩ : ∃ E, E = w1.heap.size := ⟨_, rfl⟩
    obtain ⟨w2, hw2⟩ : ∃ w2, w2 = (w1.alloc (.cells #[.slice none 0 0] 65)).alloc (.cells #[.int .i64 0] 3) := ⟨_, rfl⟩
    have hbw2 : Below w1.heap.size w1 w2 := by rw [hw2]; exact ((Below.refl _ w1).alloc (Nat.le_refl _) _).alloc (by simp) _
    have hlc : LcI s A E n F w1 0 w2 := by
      refine ⟨0, [], .slice none 0 0, ⟨?_, World.ownsRow_nil _ _ 68 2, ?_⟩, HA0.out, Nat.le_refl _, Nat.zero_le _, hbw2⟩
      · rw [hw2, hE]; exact row_alloc (heap_alloc_new _ _) _
      · rw [hw2, hE]
        have := heap_alloc_new (w1.alloc (.cells #[.slice none 0 0] 65)) (.cells #[.int .i64 0] 3)
        simp only [World.size_alloc] at this; exact this
    rw [← hw2]
    rw [← hE]
    have HE := Lib.hid hE
    have Hlc := Lib.hid hlc; clear hlc hbw2 hw2 hE
    go_loopw [26] (fun i wr => ∃ k : Nat, k ≤ n ∧ i = .int .i64 (k : Int) ∧ LcI s A E n F w1 k wr) (fun i _ => n - (intOf i).toNat)
    case atStart => exact ⟨0, Nat.zero_le _, rfl, Hlc.out⟩
    case round =>
      clear Hlc
      obtain ⟨k, hk, rfl, a, ps, v, hcut, hA, hps, ha, hb⟩ := hrel
      have hEs := HE.out
      by_cases hc : k = n
      · subst hc
        have hge : decide ((k : Int) < (k : Int)) = false := decide_eq_false (by omega)
        have hAp : A = ps := by rw [hA, List.drop_of_length_le (by rw [HFL.out]; exact Nat.le_refl _)]; simp [Lin.acut, Chu.pcs]
        have cl := cell_of_one hcut.l
        have ho := hcut.o.base (B' := w.heap.size) (by omega)
        have hbe : Below w.heap.size w wr := (Hbw.out.trans (H1.out.mono Hbw.out.size)).trans (hb.mono (by omega))
        have Ho := Lib.hid ho; clear ho
        have Hbe := Lib.hid hbe; clear hbe
        have HAp := Lib.hid hAp; clear hAp hA hcut hb hEs
        go_wp2_with fail
        go_ret2
        exact ⟨Hbe.out, v, rfl, by rw [HAp.out]; exact Ho.out⟩
      · have hlt : k < n := by omega
        have hge : decide (k < n) = true := decide_eq_true hlt
        have hge2 : decide ((k : Int) < (n : Int)) = true := decide_eq_true (by omega)
        obtain ⟨g, cap, hv, hgB, hgl, hcap, hcells⟩ := (Hv.out.new (w' := wr) (by exact hb)).at_ k (by rw [← Hn.out]; exact hlt)
        injection hv with e1 e2 e3
        subst e1
        subst e3
        have hcl := (hcells k (by rw [← Hn.out]; exact hlt)).1
        have hcm := (hcells k (by rw [← Hn.out]; exact hlt)).2
        obtain ⟨hsm, hs1', hs2⟩ := Hsum.out k hlt
        have hdr : F.drop k = F.getD k 0 :: F.drop (k + 1) := by
          rw [List.drop_eq_getElem_cons (by rw [HFL.out]; exact hlt), List.getD_eq_getElem?_getD, List.getElem?_eq_getElem (by rw [HFL.out]; exact hlt)]; rfl
        rw [hdr] at hA
        generalize F.getD k 0 = q at *
        generalize (L.getD k (0, 0)).1 = P at *
        generalize (L.getD k (0, 0)).2 = M at *
        have hkc : k < vcap := by have := Hn.out; omega
        have hbb := box_below wr (.cells #[.int .i64 (P : Int), .int .i64 (M : Int)] 68)
        have hcut2 := hcut.keeps (Turns.of_new hbb (fun _ => False)) (fun e => e) (fun e => e) (fun _ _ _ _ e => e)
        have hb2 := hb.trans (hbb.mono hb.size)
        have ca := cell_of_one hcut2.a
        have hcw1 : IntKind.i64.wrap ((P : Int) + (M : Int)) = (q : Int) := by simp only [IntKind.wrap_i64]; omega
        have Hb2 := Lib.hid hb2; clear hb2 hbb
        have Hcut2 := Lib.hid hcut2; clear hcut2 hcut
        have Hb := Lib.hid hb; clear hb
        have HEs := Lib.hid hEs; clear hEs
        clear hcells e2 hcap hdr
        by_cases hqa : a < q
        · have g1 : decide ((a : Int) < (q : Int)) = true := decide_eq_true (by omega)
          have g2 : decide (a < q) = true := decide_eq_true hqa
          have hA2 : A = (ps ++ [(a, Lin.al s.data.toList q - a)]) ++ Chu.pcs (Lin.al s.data.toList q) (Lin.acut s.data.toList (Lin.al s.data.toList q) (F.drop (k + 1))) := by
            rw [hA, Lin.acut, if_pos hqa, Chu.pcs]; simp
          have hal := Lin.al_range (l := s.data.toList) (a := q) (by rw [ba_len]; omega)
          have hal1 : a ≤ Lin.al s.data.toList q := by omega
          have hal2 : Lin.al s.data.toList q ≤ s.size := by have := hal.2.1; rw [ba_len] at this; exact this
          have cal := fun u => align_any s hsz (q : Int) (by omega) u
          unfold alI at cal
          simp only [Int.toNat_natCast] at cal
          clear hal hA
          generalize Lin.al s.data.toList q = r at *
          have Cal := Lib.hid cal; clear cal
          have HA2 := Lib.hid hA2; clear hA2
          have hE2 : E + 2 ≤ (wr.alloc (.cells #[.int .i64 (P : Int), .int .i64 (M : Int)] 68)).heap.size := by
            have := row_lt Hcut2.out.a; have := HEs.out; omega
          have c1 := lcut1_any (i := r) Hcut2.out (by omega) hE2 hal1 (by omega)
          have C1 := Lib.hid c1; clear c1 hE2
          go_wp2_with fail
          refine (Cal.out _).mono ?_; rintro e w3 ⟨rfl, rfl⟩
          go_wp2_with fail
          refine C1.out.mono ?_; rintro e w4 ⟨rfl, hn4, ht4⟩
          have hb4 : Below w1.heap.size w1 w4 := Hb2.out.trans (ht4.below Hb2.out.size (fun j _ e => by
            have := HEs.out
            rcases e with e | e | e
            · omega
            · omega
            · rcases Nat.lt_or_ge j w1.heap.size with q | q
              · exact absurd e (Hcut2.out.o.low (by omega))
              · exact q))
          have hlc4 : LcI s A E n F w1 (k + 1) w4 := by
            obtain ⟨v4, hc4⟩ := hn4
            exact ⟨r, _, v4, hc4, HA2.out, by rw [List.length_append]; simp; exact hps, hal2, hb4⟩
          have Hlc4 := Lib.hid hlc4; clear hlc4 hb4 ht4 hn4
          go_wp2_with fail
          go_roundw
          case rel => exact ⟨k + 1, by omega, by go_num, Hlc4.out⟩
          case measure => simp [intOf]; omega
        · have g1 : decide ((a : Int) < (q : Int)) = false := decide_eq_false (by omega)
          have g2 : decide (a < q) = false := decide_eq_false hqa
          have hA2 : A = ps ++ Chu.pcs a (Lin.acut s.data.toList a (F.drop (k + 1))) := by
            rw [hA, Lin.acut, if_neg hqa]
          have hlc4 : LcI s A E n F w1 (k + 1) (wr.alloc (.cells #[.int .i64 (P : Int), .int .i64 (M : Int)] 68)) :=
            ⟨a, _, v, Hcut2.out, hA2, by omega, ha, Hb2.out⟩
          have Hlc4 := Lib.hid hlc4; clear hlc4 hA2 hA
          go_wp2_with fail
          go_roundw
          case rel => exact ⟨k + 1, by omega, by go_num, Hlc4.out⟩
          case measure => simp [intOf]; omega
  · simp only [if_neg hm] at cf ⊢
    unfold Ctr.v at *
    have Cf := Lib.hid cf; clear cf
    have hbw := box_below w (.cells #[.int .u64 c.p, .int .i64 c.n, .int .i64 c.mn, .int .i64 c.mx, .int .i64 c.b] 38)
    have Hbw := Lib.hid hbw; clear hbw
    clear hm
    go_enter Try.func31, Try.ntmps31
    go_wp2_with fail
    refine (Cf.out _).mono ?_; rintro e w1 ⟨h1, rfl⟩
    have hbe := Hbw.out.trans (h1.mono Hbw.out.size)
    have Hbe := Lib.hid hbe; clear hbe h1
    go_wp2_with fail
    go_ret2
    exact ⟨Hbe.out, rfl⟩
end Go.Proofs.Ytcmlcpejlmlcfaa

/-
  What lines.Texts returns.
-/
set_option linter.unusedVariables false
set_option maxRecDepth 100000
namespace Go.Proofs.Ytcmlcpejlmlcfaa
open Go.RowKit

theorem Lin.acut_rng (l : List UInt8) : ∀ (a : Nat) (cs : List Nat), (∀ x ∈ cs, 1 ≤ x ∧ x ≤ l.length) → ∀ x ∈ Lin.acut l a cs, x ≤ l.length
  | _, [], _, x, hx => by simp [Lin.acut] at hx
  | a, c :: r, hc, x, hx => by
    unfold Lin.acut at hx
    split at hx
    · rcases List.mem_cons.1 hx with rfl | hx
      · exact Lin.al_le l c
      · exact Lin.acut_rng l _ r (fun y hy => hc y (by simp [hy])) x hx
    · exact Lin.acut_rng l _ r (fun y hy => hc y (by simp [hy])) x hx
theorem Lin.acut_pw (l : List UInt8) : ∀ (a : Nat) (cs : List Nat), (∀ x ∈ cs, 1 ≤ x ∧ x ≤ l.length) → (a :: Lin.acut l a cs).Pairwise (· < ·)
  | a, [], _ => by simp [Lin.acut]
  | a, c :: r, hc => by
    have hc1 := hc c (by simp)
    unfold Lin.acut
    by_cases h : a < c
    · rw [if_pos h]
      have hr := Lin.al_range (l := l) (a := c) (by omega)
      have ih := Lin.acut_pw l (Lin.al l c) r (fun y hy => hc y (by simp [hy]))
      refine List.pairwise_cons.2 ⟨fun x hx => ?_, ih⟩
      rcases List.mem_cons.1 hx with rfl | hx
      · omega
      · have := (List.pairwise_cons.1 ih).1 x hx; omega
    · rw [if_neg h]
      exact Lin.acut_pw l a r (fun y hy => hc y (by simp [hy]))
theorem pcs_le : ∀ (a m : Nat) (l : List Nat), (∀ x ∈ l, x ≤ m) → (a :: l).Pairwise (· < ·) → ∀ x ∈ Chu.pcs a l, 1 ≤ x.2 ∧ x.1 + x.2 ≤ m
  | a, m, [], _, _, x, hx => by simp [Chu.pcs] at hx
  | a, m, e :: r, h1, h2, x, hx => by
    have he := h1 e (by simp)
    have hae := (List.pairwise_cons.1 h2).1 e (by simp)
    rw [Chu.pcs] at hx
    rcases List.mem_cons.1 hx with rfl | hx
    · simp only; omega
    · exact pcs_le e m r (fun y hy => h1 y (by simp [hy])) (List.pairwise_cons.1 h2).2 x hx
theorem Ctr.aends_len {c : Ctr} (h : c.May) (l : List UInt8) : (c.aends l).length ≤ l.length := by
  unfold Ctr.aends
  have h1 := Lin.acut_len l 0 (c.ends l)
  have h2 := Ctr.cut_len h l
  unfold Ctr.cut at h2
  rw [Chu.pcs_length] at h2
  omega
theorem Ctr.aends_pw {c : Ctr} (h : c.May) (l : List UInt8) : (0 :: c.aends l).Pairwise (· < ·) := Lin.acut_pw l 0 _ (fun x hx => by have := Ctr.ends_range h l x hx; omega)
theorem Ctr.aends_le {c : Ctr} (h : c.May) (l : List UInt8) : ∀ x ∈ c.aends l, x ≤ l.length := Lin.acut_rng l 0 _ (fun x hx => by have := Ctr.ends_range h l x hx; omega)
theorem Ctr.acut_len {c : Ctr} (h : c.May) (l : List UInt8) : (c.acut l).length ≤ l.length := by
  unfold Ctr.acut
  rw [Chu.pcs_length]
  exact Ctr.aends_len h l
theorem Ctr.acut_ok {c : Ctr} (h : c.May) (l : List UInt8) : ∀ x ∈ c.acut l, 1 ≤ x.2 ∧ x.1 + x.2 ≤ l.length := pcs_le 0 _ _ (Ctr.aends_le h l) (Ctr.aends_pw h l)

theorem ltxt1_any {S A M : Nat} {s : ByteArray} (hsz : s.size ≤ 1099511627776) (hb : A + M ≤ s.size) (w : World) (h : w.heap[S]? = some (.cells #[.string s] 9 (0, 0))) :
    Calls Try.prog 33 #[.agg #[.int .i64 (A : Int), .int .i64 (M : Int)], .pointer (some ⟨S, 0, none⟩)] w fun e w' => e = .returned (.string (s.extract A (A + M))) ∧ Below w.heap.size w w' := by
  have c0 := cell_of_one h
  have hS := row_lt h
  have hxs : (s.extract A (A + M)).size ≤ 281474976710656 := by rw [ByteArray.size_extract]; omega
  have cc := fun u => clone_any (s.extract A (A + M)) u hxs
  have Cc := Lib.hid cc; clear cc
  have hbw := box_below w (.cells #[.int .i64 (A : Int), .int .i64 (M : Int)] 68)
  have Hbw := Lib.hid hbw; clear hbw
  have hw1 : IntKind.i64.wrap ((A : Int) + (M : Int)) = (A : Int) + (M : Int) := by simp only [IntKind.wrap_i64]; omega
  clear h
  go_enter Try.func33, Try.ntmps33
  go_wp2_with fail
  refine (Cc.out _).mono ?_; rintro e w2 ⟨rfl, h2⟩
  have hbe := Hbw.out.trans (h2.mono Hbw.out.size)
  have Hbe := Lib.hid hbe; clear hbe h2
  go_wp2_with fail
  go_ret
  exact ⟨rfl, Hbe.out⟩

def textsF (S : Nat) : Value := .func (.func 33) #[] #[.pointer (some ⟨S, 0, none⟩)]
set_option maxHeartbeats 1000000 in
theorem each_any {S : Nat} {s : ByteArray} {L : List Pc} {v : Value} (hsz : s.size ≤ 1099511627776) (w : World) (h : w.heap[S]? = some (.cells #[.string s] 9 (0, 0))) (hv : PRd v L w) (hlen : L.length ≤ 1099511627776) (hok : ∀ x ∈ L, 1 ≤ x.2 ∧ x.1 + x.2 ≤ s.size) :
    Calls Try.prog 32 #[v, textsF S] w fun e w' => ∃ g, w.heap.size ≤ g ∧ e = .returned (.slice (some ⟨g, 0, none⟩) L.length L.length) ∧ w'.heap[g]? = some (.cells ((pcTexts s L).map Value.string).toArray 9 (0, 0)) ∧ Below w.heap.size w w' := by
  obtain ⟨a, cap, rfl, hcap, hf⟩ := hv
  obtain ⟨ts, hts⟩ : ∃ ts, ts = pcTexts s L := ⟨_, rfl⟩
  have htl : ts.length = L.length := by rw [hts, pcTexts_length]
  have htg : ∀ k, k < L.length → ts.getD k ⟨#[]⟩ = s.extract (L.getD k (0, 0)).1 ((L.getD k (0, 0)).1 + (L.getD k (0, 0)).2) := fun k hk => by
    rw [hts]; unfold pcTexts
    simp [List.getD_eq_getElem?_getD, hk]
  have hok2 : ∀ k, k < L.length → (L.getD k (0, 0)).1 + (L.getD k (0, 0)).2 ≤ s.size := fun k hk => by
    rw [List.getD_eq_getElem?_getD, List.getElem?_eq_getElem hk]
    exact (hok _ (List.getElem_mem hk)).2
  rw [← hts]
  have Htg := Lib.hid htg; clear htg
  have Hok2 := Lib.hid hok2; clear hok2
  obtain ⟨n, hn⟩ : ∃ n, n = L.length := ⟨_, rfl⟩
  rw [← hn] at hlen htl hcap hf ⊢
  have hmk := make_texts n (by omega)
  have Hf := Lib.hid hf; clear hf
  have Hn := Lib.hid hn; clear hn
  have Htl := Lib.hid htl; clear htl
  have Hh := Lib.hid h; clear h
  clear hts hok
  unfold textsF
  go_enter Try.func32, Try.ntmps32
  go_wp2_with fail
  have hrow0 : (w.alloc (.cells (Array.replicate n (Value.string ⟨#[]⟩)) 9)).heap[w.heap.size]? = some (.cells (mixT ts 0).toArray 9 (0, 0)) := by
    rw [mixT_zero, Htl.out, List.toArray_replicate]; exact heap_alloc_new _ _
  have hbl0 : Below w.heap.size w (w.alloc (.cells (Array.replicate n (Value.string ⟨#[]⟩)) 9)) := box_below w _
  have Hrow0 := Lib.hid hrow0; clear hrow0
  have Hbl0 := Lib.hid hbl0; clear hbl0
  clear hmk
  go_loopw [13] (fun i wr => ∃ k : Nat, k ≤ n ∧ i = .int .i64 (k : Int) ∧ Below w.heap.size w wr ∧ wr.heap[w.heap.size]? = some (.cells (mixT ts k).toArray 9 (0, 0))) (fun i _ => n - (intOf i).toNat)
  case atStart => exact ⟨0, Nat.zero_le _, rfl, Hbl0.out, Hrow0.out⟩
  case round =>
    clear Hrow0 Hbl0
    obtain ⟨k, hk, rfl, hbw, hrow⟩ := hrel
    by_cases hc : k = n
    · subst hc
      have hge : decide ((k : Int) < (k : Int)) = false := decide_eq_false (by omega)
      have e1 : mixT ts k = ts.map Value.string := by
        have := mixT_all ts
        rw [Htl.out] at this; exact this
      rw [e1] at hrow
      have Hrow := Lib.hid hrow; clear hrow
      have Hbw := Lib.hid hbw; clear hbw e1
      go_wp2_with fail
      go_ret
      exact ⟨w.heap.size, Nat.le_refl _, rfl, Hrow.out, Hbw.out⟩
    · have hlt : k < n := by omega
      have hge : decide (k < n) = true := decide_eq_true hlt
      have hge2 : decide ((k : Int) < (n : Int)) = true := decide_eq_true (by omega)
      obtain ⟨g, rfl, d1, d2⟩ := Hf.out k hlt
      have hcl : wr.cell? ⟨g, k * 2, none⟩ = some (.int .i64 ((L.getD k (0, 0)).1 : Int)) := by rw [hbw.cell (p := ⟨g, k * 2, none⟩) (cell_lt d1)]; exact d1
      have hcm : wr.cell? ⟨g, k * 2 + 1, none⟩ = some (.int .i64 ((L.getD k (0, 0)).2 : Int)) := by rw [hbw.cell (p := ⟨g, k * 2 + 1, none⟩) (cell_lt d2)]; exact d2
      have hb := Hok2.out k (by rw [← Hn.out]; exact hlt)
      have htk := Htg.out k (by rw [← Hn.out]; exact hlt)
      clear d1 d2
      generalize (L.getD k (0, 0)).1 = A at *
      generalize (L.getD k (0, 0)).2 = M at *
      have hset := mixT_set ts k (by rw [Htl.out]; exact hlt)
      rw [htk] at hset
      obtain ⟨v0, hv0⟩ := mixT_get ts k (by rw [Htl.out]; exact hlt)
      have hal : Below wr.heap.size wr (wr.alloc (.cells #[.int .i64 (A : Int), .int .i64 (M : Int)] 68)) := box_below wr _
      have hsS : (wr.alloc (.cells #[.int .i64 (A : Int), .int .i64 (M : Int)] 68)).heap[S]? = some (.cells #[.string s] 9 (0, 0)) := by
        rw [hal.block _ (by have := row_lt Hh.out; have := hbw.size; omega), hbw.block _ (row_lt Hh.out)]; exact Hh.out
      have ct := ltxt1_any (A := A) (M := M) hsz hb _ hsS
      have Ct := Lib.hid ct; clear ct hsS
      have hls := row_lt hrow
      have hkc : k < cap := by omega
      have Hal := Lib.hid hal; clear hal
      have Hset := Lib.hid hset; clear hset
      have Hrow := Lib.hid hrow; clear hrow
      have Hbw := Lib.hid hbw; clear hbw
      clear htk
      go_wp2_with fail
      refine Ct.out.mono ?_; rintro e w5 ⟨rfl, h5⟩
      have hb5 : Below wr.heap.size wr w5 := Hal.out.trans (h5.mono Hal.out.size)
      have hr5 : w5.heap[w.heap.size]? = some (.cells (mixT ts k).toArray 9 (0, 0)) := by rw [hb5.block _ hls]; exact Hrow.out
      have hcr : w5.cell? ⟨w.heap.size, k, none⟩ = some v0 := by rw [cell_of_row _ _ k _ _ _ hr5]; simpa using hv0
      have hfr := row_free hr5 k
      have hr6 : (w5.setCell ⟨w.heap.size, k, none⟩ (.string (s.extract A (A + M)))).heap[w.heap.size]? = some (.cells (mixT ts (k + 1)).toArray 9 (0, 0)) := by
        rw [heap_setCell_same _ _ k _ _ _ hr5, ← Hset.out]
        simp
      have hb6 : Below w.heap.size w (w5.setCell ⟨w.heap.size, k, none⟩ (.string (s.extract A (A + M)))) := ((Hbw.out).trans (hb5.mono (by have := Hbw.out.size; omega))).setCell (p := ⟨w.heap.size, k, none⟩) (Nat.le_refl _) _
      have Hr6 := Lib.hid hr6; clear hr6
      have Hb6 := Lib.hid hb6; clear hb6
      clear hr5 hb5 h5
      go_wp2_with fail
      go_roundw
      case rel => exact ⟨k + 1, by omega, by go_num, Hb6.out, Hr6.out⟩
      case measure => simp [intOf]; omega

set_option maxHeartbeats 1000000 in
theorem ltexts_any (c : Ctr) (hp : c.p < 18446744073709551616) (s : ByteArray) (hsz : s.size ≤ 1099511627776) (w : World) :
    Calls Try.prog 20 #[c.v, .string s] w fun e w' => Below w.heap.size w w' ∧ if c.May then TxR (c.atexts s) w e w' else e = .returned (.tuple #[.slice none 0 0, .int .i64 2]) := by
  have cf := fun u => lcut_any c hp s hsz u
  have hbw := box_below w (.cells #[.int .u64 c.p, .int .i64 c.n, .int .i64 c.mn, .int .i64 c.mx, .int .i64 c.b] 38)
  have hbx : Below w.heap.size w ((w.alloc (.cells #[.int .u64 c.p, .int .i64 c.n, .int .i64 c.mn, .int .i64 c.mx, .int .i64 c.b] 38)).alloc (.cells #[.string s] 9)) := hbw.alloc (by simp) _
  have hS : ((w.alloc (.cells #[.int .u64 c.p, .int .i64 c.n, .int .i64 c.mn, .int .i64 c.mx, .int .i64 c.b] 38)).alloc (.cells #[.string s] 9)).heap[w.heap.size + 1]? = some (.cells #[.string s] 9 (0, 0)) := by
    have := heap_alloc_new (w.alloc (.cells #[.int .u64 c.p, .int .i64 c.n, .int .i64 c.mn, .int .i64 c.mx, .int .i64 c.b] 38)) (.cells #[.string s] 9)
    simp only [World.size_alloc] at this; exact this
  have Hbx := Lib.hid hbx; clear hbx hbw
  have HS := Lib.hid hS; clear hS
  by_cases hm : c.May
  · simp only [if_pos hm] at cf ⊢
    have hlen := Ctr.acut_len hm s.data.toList
    have hok := Ctr.acut_ok hm s.data.toList
    rw [ba_len] at hlen hok
    unfold Ctr.atexts
    generalize c.acut s.data.toList = L at *
    unfold Ctr.v TxR at *
    have hpl := pcTexts_length s L
    rw [hpl]
    have Cf := Lib.hid cf; clear cf
    have Hok := Lib.hid hok; clear hok
    obtain ⟨n, hn⟩ : ∃ n, n = L.length := ⟨_, rfl⟩
    rw [← hn] at hlen ⊢
    have Hn := Lib.hid hn; clear hn hpl hm
    go_enter Try.func20, Try.ntmps20
    go_wp2_with fail
    refine (Cf.out _).mono ?_; rintro e w1 ⟨h1, v, rfl, hv⟩
    have hS1 := HS.out
    rw [← h1.block _ (row_lt HS.out)] at hS1
    have hrd := hv.reads
    have ce := each_any hsz w1 hS1 hrd (by rw [← Hn.out]; omega) Hok.out
    rw [← Hn.out] at ce
    unfold textsF at ce
    have hbe := Hbx.out.trans (h1.mono Hbx.out.size)
    obtain ⟨va, vcap, hvf⟩ := hv.form
    rw [← Hn.out] at hvf
    subst hvf
    have Ce := Lib.hid ce; clear ce
    have Hbe := Lib.hid hbe; clear hbe h1 hv hS1 hrd
    go_wp2_with fail
    refine Ce.out.mono ?_; rintro e w2 ⟨g, hg, rfl, hrow, h2⟩
    have hbe2 := Hbe.out.trans (h2.mono Hbe.out.size)
    have hg2 : w.heap.size ≤ g := Nat.le_trans Hbe.out.size hg
    have Hbe2 := Lib.hid hbe2; clear hbe2 h2
    have Hrow := Lib.hid hrow; clear hrow
    go_wp2_with fail
    go_ret2
    exact ⟨Hbe2.out, g, hg2, rfl, Hrow.out⟩
  · simp only [if_neg hm] at cf ⊢
    unfold Ctr.v at *
    have Cf := Lib.hid cf; clear cf
    clear hm
    go_enter Try.func20, Try.ntmps20
    go_wp2_with fail
    refine (Cf.out _).mono ?_; rintro e w1 ⟨h1, rfl⟩
    have hbe := Hbx.out.trans (h1.mono Hbx.out.size)
    have Hbe := Lib.hid hbe; clear hbe h1
    go_wp2_with fail
    go_ret2
    exact ⟨Hbe.out, rfl⟩
end Go.Proofs.Ytcmlcpejlmlcfaa
