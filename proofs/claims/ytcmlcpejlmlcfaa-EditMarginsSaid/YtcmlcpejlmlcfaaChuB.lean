/- Put together of: GoRangeOut GoMarks ChuPcs ChuCutI ChuCut GoClone ChuTexts -/
import Derived.Test.YtcmlcpejlmlcfaaGoAll
import Derived.Test.YtcmlcpejlmlcfaaPolAll
import Derived.RangeFuncNested
import Derived.RangeFuncBound
import Derived.RangeFuncCalls
import Derived.RangeFuncLeaves
import Derived.WalkMore
import Derived.Test.YtcmlcpejlmlcfaaChuA
import Derived.Lib.Strings
import Derived.Test.YtcmlcpejlmlcfaaShelf
import Derived.Test.YtcmlcpejlmlcfaaRows
set_option maxRecDepth 100000
/-
  As GoRange, the body going on or leaving a block around the range (a labelled continue or break): the iterator may write memory of its own.
-/
set_option linter.unusedVariables false
namespace Go.Proofs.Ytcmlcpejlmlcfaa
open Go.RowKit

/-- the body has come to its end, or leaves the block i, and has let lie whatever is no cells -/
def endsOut (i : Nat) (R Rr : World → Prop) (W : World) : Exit → Act → World → Prop
  | .normal, _, W' => KeepsOthers W W' ∧ R W'
  | .exit j, _, W' => j = i ∧ KeepsOthers W W' ∧ Rr W'
  | _, _, _ => False

variable {F : Fence} {n : Nat} {P : Program}

theorem rangeFunc_out {α : Type} (i : Nat) {g : Operand} {ps : Array Tmp} {assign body : Code} {Q : Exit → Act → World → Prop} {a : Act} {w : World}
    (hro : F.round = none) (h1 : 1 ≤ n) {gf : Nat} {lb : Array Value} (hg : a.eval g = .func (.func gf) #[] lb) (hFg : F.fn gf) (eg : ∀ args w, (callFunc gf args).run P w = .ok (.enter gf args) w)
    (encs : α → Array Value) (hps : ∀ x, (encs x).size = ps.size) (J0 Jend Jstop : World → Prop) (Jin Jout Jret : α → World → Prop) (Jmid : α → Act → World → Prop)
    (sEnd : Stays w.heap.size Jend) (sStop : Stays w.heap.size Jstop) (sOut : ∀ x, Stays w.heap.size (Jout x)) (sRet : ∀ x, Stays w.heap.size (Jret x)) (sMid : ∀ x a₁, Stays w.heap.size (Jmid x a₁)) (h0 : ∀ o o' : Obj, J0 ((w.alloc o).alloc o'))
    (hiter : ∀ (l : Nat) (Book BookS : World → Prop) (W1 : World), (∀ A B, KeepsOthers A B → Book A → Book B) → (∀ A B, KeepsOthers A B → BookS A → BookS B) → w.heap.size ≤ l → Book W1 → J0 W1 →
      (∀ x W, Book W → Jin x W → YieldAt F (n - 1 - 1) P l (encs x) W fun e W' => (e = .returned (.bool true) ∧ Book W' ∧ Jout x W') ∨ (e = .returned (.bool false) ∧ BookS W' ∧ Jret x W')) →
      CallsIn F (n - 1) P gf (#[.func (.yield l) #[] #[]] ++ lb) W1 fun e W' => (∃ v, e = .returned v) ∧ ((Book W' ∧ Jend W') ∨ (BookS W' ∧ Jstop W')))
    (hassign : ∀ (l : Nat) (x : α) (W : World) (K : Act → World → Prop), w.heap.size ≤ l → Jin x W → (∀ a₁ W₁, KeepsOthers W W₁ → Jmid x a₁ W₁ → K a₁ W₁) →
      assign.wpIn (F.inRound l) (n - 1 - 1) P (Exit.then K (fun _ _ _ => False)) { tmps := (ps.zip (encs x)).foldl (fun t (p, v) => t.setIfInBounds p v) a.tmps, defers := [] } W)
    (hbody : ∀ (l : Nat) (x : α) (a₁ : Act) (W : World), w.heap.size ≤ l → Jmid x a₁ W → body.wpIn (F.inRound l) (n - 1 - 1) P (endsOut i (Jout x) (Jret x) W) a₁ W)
    (hdone : ∀ (D : Nat) (W : World), w.heap.size ≤ D → Jend W → W.heap[D]? = some (.deferred (some [])) → Q .normal { a with defers := { target := .collected D, args := #[] } :: a.defers } W)
    (hstop : ∀ (D : Nat) (W : World), w.heap.size ≤ D → Jstop W → W.heap[D]? = some (.deferred (some [])) → (Code.exit i).wpIn F n P Q { a with defers := { target := .collected D, args := #[] } :: a.defers } W) :
    (Code.rangeFunc g ps assign body).wpIn F n P Q a w := by
  refine wpIn_rangeFunc fun fn hfn => ?_
  rw [hro]
  obtain ⟨D, hD⟩ : ∃ D, D = w.heap.size := ⟨_, rfl⟩
  let rc : LoopState → Option Code → Loop := fun st pe => { state := st, pending := pe, fn, tmps := a.tmps, params := ps, assign, body, defers := D }
  let W1 := (w.alloc (.deferred (some []))).alloc (.loop (rc .ready none))
  let Book : World → Prop := fun W => W.heap[D + 1]? = some (.loop (rc .ready none)) ∧ W.heap[D]? = some (.deferred (some []))
  let BookS : World → Prop := fun W => W.heap[D + 1]? = some (.loop (rc .done (some (.exit i)))) ∧ W.heap[D]? = some (.deferred (some []))
  have hbook : Book W1 := by
    refine ⟨?_, ?_⟩
    · have := World.alloc_heap_new (w.alloc (.deferred (some []))) (.loop (rc .ready none))
      rw [World.size_alloc, ← hD] at this
      exact this
    · show ((w.alloc (.deferred (some []))).alloc (.loop (rc .ready none))).heap[D]? = _
      rw [Below.heap_alloc _ _ _ (by simp [hD]), hD]
      exact World.alloc_heap_new w _
  refine ⟨D + 1, [{ target := .collected D, args := #[] }], W1, { target := .fn (.func gf) lb, args := #[.func (.yield (D + 1)) #[] #[]] }, W1, gf,
    #[.func (.yield (D + 1)) #[] #[]] ++ lb, W1, ?_, ?_, ?_, ?_, fun _ => h1, ?_⟩
  · rw [hD]
    have := run_enterLoop_outer (P := P) (w := w) fn a.tmps ps assign body
    rw [← hD] at this ⊢
    exact this
  · simp only [resolve, hg]
    simp [go_sem]
  · intro f' hf'
    simp [Target.leads] at hf'
    subst hf'
    exact hFg
  · simp [invoke, go_sem, eg]
  · refine (hiter (D + 1) Book BookS W1 (fun A B hk hb => ⟨hk.same _ _ hb.1 rfl, hk.same _ _ hb.2 rfl⟩) (fun A B hk hb => ⟨hk.same _ _ hb.1 rfl, hk.same _ _ hb.2 rfl⟩) (by omega) hbook (h0 _ _) ?_).mono ?_
    · rintro x W ⟨hl, hk⟩ hin
      have hlt : D + 1 < W.heap.size := (Array.getElem?_eq_some_iff.1 hl).1
      refine ⟨fn, _, assign, body, run_yield (P := P) (args := encs x) hl (hps x), roundIn_of_wpIn hfn (hassign _ x W _ (by omega) hin fun a₁ W₁ hk1 hm1 => ?_)⟩
      have hl1 := hk1.same _ _ hl rfl
      have hk1' := hk1.same _ _ hk rfl
      have hlt1 : D + 1 < W₁.heap.size := (Array.getElem?_eq_some_iff.1 hl1).1
      refine ⟨_, run_beginRound hl1 rfl, wpIn_mono (hbody _ x a₁ _ (by omega) (sMid x a₁ _ _ _ _ (by omega) hl1 rfl hm1)) ?_⟩
      have hb2 : (W₁.putObj (D + 1) (.loop (rc .busy none))).heap[D + 1]? = some (.loop (rc .busy none)) := World.putObj_heap_same hlt1
      have hd2 : (W₁.putObj (D + 1) (.loop (rc .busy none))).heap[D]? = some (.deferred (some [])) := (World.putObj_heap_other (by omega)).trans hk1'
      rintro e a3 W3 hp
      cases e with
      | normal =>
        obtain ⟨hk3, hj3⟩ := hp
        have hl3 := hk3.same _ _ hb2 rfl
        have hd3 := hk3.same _ _ hd2 rfl
        have hr := run_endRound (P := P) none hl3
        exact ⟨_, _, hr, .inl ⟨rfl, ⟨World.putObj_heap_same (Array.getElem?_eq_some_iff.1 hl3).1, (World.putObj_heap_other (by omega)).trans hd3⟩, sOut x _ _ _ _ (by omega) hl3 rfl hj3⟩⟩
      | ret => exact hp.elim
      | exit j =>
        obtain ⟨rfl, hk3, hj3⟩ := hp
        have hl3 := hk3.same _ _ hb2 rfl
        have hd3 := hk3.same _ _ hd2 rfl
        have hr := run_endRound (P := P) (some (.exit j)) hl3
        exact ⟨_, _, hr, .inr ⟨rfl, ⟨World.putObj_heap_same (Array.getElem?_eq_some_iff.1 hl3).1, (World.putObj_heap_other (by omega)).trans hd3⟩, sRet x _ _ _ _ (by omega) hl3 rfl hj3⟩⟩
      | goto t => exact hp.elim
      | panic ch => exact hp.elim
      | outgrown => exact hp.elim
    · rintro e W2 ⟨⟨v, rfl⟩, (⟨⟨hl, hk⟩, hj⟩ | ⟨⟨hl, hk⟩, hj⟩)⟩
      · exact ⟨none, _, run_endLoop (P := P) hl (by simp [rc]), hdone D _ (by omega) (sEnd _ _ _ _ (by omega) hl rfl hj) ((World.putObj_heap_other (by omega)).trans hk)⟩
      · exact ⟨some (.exit i), _, run_endLoop (P := P) hl (by simp [rc]), hstop D _ (by omega) (sStop _ _ _ _ (by omega) hl rfl hj) ((World.putObj_heap_other (by omega)).trans hk)⟩
end Go.Proofs.Ytcmlcpejlmlcfaa

/-
  A frame on its way out that has nothing deferred but the marks of ranges over functions.
-/
set_option linter.unusedVariables false
namespace Go.Proofs.Ytcmlcpejlmlcfaa
open Go.RowKit

def markD (D : Nat) : Deferred := { target := .collected D, args := #[] }
theorem leaves_ds {F : Fence} {n : Nat} {P : Program} {fn : Func} {tmps : Array Value} {R : Ending → World → Prop} (v : Value) : ∀ (Ds : List Nat) (w : World), Ds.Nodup → (∀ D ∈ Ds, w.heap[D]? = some (.deferred (some []))) →
    (∀ w' : World, w'.os = w.os → w'.tape = w.tape → w'.output = w.output → w'.heap.size = w.heap.size → (∀ k, k ∉ Ds → w'.heap[k]? = w.heap[k]?) → (results fn tmps).run P w' = .ok v w' ∧ R (.returned v) w') →
    LeavesInM F n P fn tmps R (Ds.map markD) .returning w
  | [], w, _, _, h => by
    obtain ⟨h1, h2⟩ := h w rfl rfl rfl rfl (fun _ _ => rfl)
    exact ⟨v, h1, h2⟩
  | D :: Ds, w, hn, hd, h => by
    have hD := hd D (by simp)
    have hn' := List.nodup_cons.1 hn
    refine ⟨by simp, .inl ⟨D, _, rfl, run_takeDeferred hD, ?_⟩⟩
    refine leaves_ds v Ds _ hn'.2 (fun D' hD' => ?_) (fun w' h1 h2 h3 h4 h5 => ?_)
    · have hne : D' ≠ D := fun e => hn'.1 (by rw [← e]; exact hD')
      rw [World.putObj_heap_other hne]
      exact hd D' (by simp [hD'])
    · refine h w' h1 h2 h3 (by rw [h4]; exact World.putObj_size ..) (fun k hk => ?_)
      have hk' : k ∉ Ds ∧ k ≠ D := ⟨fun e => hk (by simp [e]), fun e => hk (by simp [e])⟩
      rw [h5 k hk'.1, World.putObj_heap_other hk'.2]
/-- a function's value is stored -/
@[go_sem] theorem run_store_fn (a : Addr) (f : Fn) (x y : Array Value) (m : Mode) (P : Program) (w : World) : (store a (.func f x y) m).run P w = stored P w a (.func f x y) m := run_store P w a _ m rfl
/-- a function that holds a label, in the wide fence: its scope, if no goto jumps -/
theorem wpIn_scope_wide {n : Nat} {P : Program} {Q : Exit → Act → World → Prop} {a : Act} {w : World} {c : Code} (h : c.wpIn Fence.wide n P (Exit.noGoto Q) a w) : (Code.scope c).wpIn Fence.wide n P Q a w :=
  wpIn_wide.2 (wp_scope_straight (wpIn_wide.1 h))
end Go.Proofs.Ytcmlcpejlmlcfaa

/-
  Plain mathematics of layer 9: the pieces, by their ends.
-/
set_option linter.unusedVariables false
namespace Go.Proofs.Ytcmlcpejlmlcfaa
namespace Chu
/-- the pieces between one cut and the ends behind it: where each begins, and how long it is -/
def pcs : Nat → List Nat → List (Nat × Nat)
  | _, [] => []
  | a, e :: r => (a, e - a) :: pcs e r
theorem pcs_length : ∀ (a : Nat) (l : List Nat), (pcs a l).length = l.length
  | _, [] => rfl
  | a, e :: r => by simp [pcs, pcs_length e r]
theorem ends_next {mk : Nat → Bool} {mn mx len a : Nat} (h1 : 1 ≤ mn) (h2 : mn ≤ mx) (h : a < len) : ends mk mn mx len len a = nxt mk mn mx len a :: ends mk mn mx len len (nxt mk mn mx len a) := by
  have hr := nxt_range (mk := mk) h1 h2 h
  obtain ⟨f, hf⟩ : ∃ f, len = f + 1 := ⟨len - 1, by omega⟩
  have e : ends mk mn mx len len a = ends mk mn mx len (f + 1) a := by rw [← hf]
  rw [e]
  rw [ends, if_pos h, ends_fuel h1 h2 f len _ (by omega) (by omega)]
theorem ends_len {mk : Nat → Bool} {mn mx len : Nat} (h1 : 1 ≤ mn) (h2 : mn ≤ mx) : ∀ (f i : Nat), (ends mk mn mx len f i).length ≤ len - i
  | 0, i => by simp [ends]
  | f + 1, i => by
    unfold ends
    by_cases h : i < len
    · have g := nxt_range (mk := mk) h1 h2 h
      have ih := ends_len (mk := mk) (len := len) h1 h2 f (nxt mk mn mx len i)
      rw [if_pos h, List.length_cons]
      omega
    · rw [if_neg h]; simp
theorem pcs_ok {mk : Nat → Bool} {mn mx len : Nat} (h1 : 1 ≤ mn) (h2 : mn ≤ mx) : ∀ (f i : Nat), ∀ x ∈ pcs i (ends mk mn mx len f i), 1 ≤ x.2 ∧ x.1 + x.2 ≤ len
  | 0, i => by simp [ends, pcs]
  | f + 1, i => by
    unfold ends
    by_cases h : i < len
    · have g := nxt_range (mk := mk) h1 h2 h
      rw [if_pos h, pcs]
      intro x hx
      rcases List.mem_cons.1 hx with rfl | hx
      · simp only; omega
      · exact pcs_ok h1 h2 f _ x hx
    · rw [if_neg h]; simp [pcs]
end Chu
theorem Ctr.May.nat {c : Ctr} (h : c.May) : 1 ≤ c.mn.toNat ∧ c.mn.toNat ≤ c.mx.toNat ∧ c.n.toNat ≤ c.mn.toNat ∧ 1 ≤ c.n.toNat ∧ c.mx.toNat ≤ 4096 := by
  have a := h.1.2.1
  have b := h.2.1
  have d := h.2.2.1
  omega
/-- where the pieces end -/
def Ctr.ends (c : Ctr) (l : List UInt8) : List Nat := Chu.ends (c.isMk l) c.mn.toNat c.mx.toNat l.length l.length 0
/-- the pieces -/
def Ctr.cut (c : Ctr) (l : List UInt8) : List (Nat × Nat) := Chu.pcs 0 (c.ends l)
theorem Ctr.cut_len {c : Ctr} (h : c.May) (l : List UInt8) : (c.cut l).length ≤ l.length := by
  unfold Ctr.cut Ctr.ends
  rw [Chu.pcs_length]
  exact Chu.ends_len h.nat.1 h.nat.2.1 _ _
theorem Ctr.cut_ok {c : Ctr} (h : c.May) (l : List UInt8) : ∀ x ∈ c.cut l, 1 ≤ x.2 ∧ x.1 + x.2 ≤ l.length := Chu.pcs_ok h.nat.1 h.nat.2.1 _ _
end Go.Proofs.Ytcmlcpejlmlcfaa

/-
  What lies where while chunk.Cut goes on.
-/
set_option linter.unusedVariables false
set_option maxRecDepth 100000
namespace Go.Proofs.Ytcmlcpejlmlcfaa
open Go.RowKit

/-- the closure's value -/
def cutF (E : Nat) : Value := .func (.func 54) #[] #[.pointer (some ⟨E + 1, 0, none⟩), .pointer (some ⟨E + 1 + 1, 0, none⟩)]
structure CtI (c : Ctr) (w : World) (E b k : Nat) (ps : List Pc) (a : Nat) (Ds : List Nat) (W : World) : Prop where
  be : Below w.heap.size w W
  box : CtrAt c w.heap.size W
  fin : W.heap[E]? = some (.cells #[.pointer (some ⟨b, 0, none⟩), .int .u64 ((2 ^ k - 1 : Nat) : Int)] 86 (0, 0))
  cut : ∃ v, CutAt (E + 4) (E + 1) (E + 1 + 1) ps a v W
  fn : W.heap[E + 1 + 1 + 1]? = some (.cells #[cutF E] 53 (0, 0))
  mks : ∀ D ∈ Ds, W.heap[D]? = some (.deferred (some []))
  sz : E + 4 ≤ W.heap.size
  wE : w.heap.size < E
section
variable {c : Ctr} {w W W' : World} {E b k a C : Nat} {ps : List Pc} {Ds : List Nat} {v : Value}
theorem CutAt.keeps {Bs Bl Ba : Nat} {T : Nat → Prop} (h : CutAt Bs Bl Ba ps a v W) (ht : Turns T W W') (h1 : ¬ T Bl) (h2 : ¬ T Ba) (h3 : ∀ g, Bs ≤ g → g < W.heap.size → (∃ cs : Array Value, W.heap[g]? = some (.cells cs 68 (0, 0))) → ¬ T g) : CutAt Bs Bl Ba ps a v W' :=
  ⟨ht.same h.l h1, h.o.same (fun g x y z => ht.block g y (h3 g x y z)), ht.same h.a h2⟩
theorem CtI.keeps {T : Nat → Prop} (h : CtI c w E b k ps a Ds W) (ht : Turns T W W') (h0 : ∀ j, j < w.heap.size → ¬ T j) (h1 : ¬ T w.heap.size) (h2 : ∀ j, E ≤ j → j < E + 4 → ¬ T j) (h3 : ∀ g, E + 4 ≤ g → g < W.heap.size → (∃ cs : Array Value, W.heap[g]? = some (.cells cs 68 (0, 0))) → ¬ T g) (h4 : ∀ D ∈ Ds, ¬ T D) : CtI c w E b k ps a Ds W' := by
  obtain ⟨v, hv⟩ := h.cut
  exact ⟨h.be.trans (ht.below h.be.size (fun j _ e => by rcases Nat.lt_or_ge j w.heap.size with hh | hh; exact absurd e (h0 j hh); exact hh)), ht.same h.box h1, ht.same h.fin (h2 _ (by omega) (by omega)), ⟨v, hv.keeps ht (h2 _ (by omega) (by omega)) (h2 _ (by omega) (by omega)) h3⟩,
    ht.same h.fn (h2 _ (by omega) (by omega)), fun D hD => ht.same (h.mks D hD) (h4 D hD), Nat.le_trans h.sz ht.size, h.wE⟩
theorem CtI.turn (h : CtI c w E b k ps a Ds W) (hb1 : w.heap.size < b) (hb2 : b < E) (hD : ∀ D ∈ Ds, E + 4 ≤ D) (ht : Turns (fun j => j = b) W W') : CtI c w E b k ps a Ds W' :=
  h.keeps ht (fun j _ => by omega) (by omega) (fun j _ _ => by omega) (fun g _ _ _ => by omega) (fun D hd => by have := hD D hd; omega)
theorem CtI.new (h : CtI c w E b k ps a Ds W) (hb : Below W.heap.size W W') : CtI c w E b k ps a Ds W' :=
  h.keeps (Turns.of_new hb (fun _ => False)) (fun _ _ e => e) (fun e => e) (fun _ _ _ e => e) (fun _ _ _ _ e => e) (fun _ _ e => e)
theorem CtI.stays (hC : w.heap.size ≤ C) (hD : ∀ D ∈ Ds, D < C) : Stays C (CtI c w E b k ps a Ds) := fun W j o o' hl ho hc h => by
  obtain ⟨v, hv⟩ := h.cut
  refine ⟨Stays.below hC W j o o' hl ho hc h.be, Stays.row W j o o' hl ho hc h.box, Stays.row W j o o' hl ho hc h.fin, ⟨v, Stays.row W j o o' hl ho hc hv.l, hv.o.same (fun g _ _ ⟨cs, hcs⟩ => World.putObj_heap_other (fun e => ?_)), Stays.row W j o o' hl ho hc hv.a⟩,
    Stays.row W j o o' hl ho hc h.fn, fun D hd => (World.putObj_heap_other (by have := hD D hd; omega)).trans (h.mks D hd), by rw [World.putObj_size]; exact h.sz, h.wE⟩
  subst e
  rw [hcs] at ho; cases ho
  simp [Obj.isCells] at hc
theorem CtI.mark {D : Nat} (h : CtI c w E b k ps a Ds W) (hd : W.heap[D]? = some (.deferred (some []))) : CtI c w E b k ps a (D :: Ds) W :=
  ⟨h.be, h.box, h.fin, h.cut, h.fn, fun D' hD' => by rcases List.mem_cons.1 hD' with rfl | hD'; exact hd; exact h.mks D' hD', h.sz, h.wE⟩
/-- behind a piece that was put -/
theorem CtI.step {i : Nat} (h : CtI c w E b k ps a Ds W) (hc : CutAt (E + 4) (E + 1) (E + 1 + 1) ps a v W) (hn : ∃ v', CutAt (E + 4) (E + 1) (E + 1 + 1) (ps ++ [(a, i - a)]) i v' W') (ht : Turns (fun j => j = E + 1 ∨ j = E + 1 + 1 ∨ v.ownBlock = some j) W W') : CtI c w E b k (ps ++ [(a, i - a)]) i Ds W' := by
  have hE := h.wE
  have hlow : ∀ j, j < E + 4 → v.ownBlock ≠ some j := fun j hj => hc.o.low hj
  refine ⟨h.be.trans (ht.below h.be.size (fun j _ e => ?_)), ht.same h.box ?_, ht.same h.fin ?_, hn, ht.same h.fn ?_, fun D hD => ht.same (h.mks D hD) ?_, Nat.le_trans h.sz ht.size, h.wE⟩
  · rcases e with e | e | e
    · omega
    · omega
    · rcases Nat.lt_or_ge j w.heap.size with hh | hh
      · exact absurd e (hlow j (by omega))
      · exact hh
  · rintro (e | e | e)
    · omega
    · omega
    · exact hlow _ (by omega) e
  · rintro (e | e | e)
    · omega
    · omega
    · exact hlow _ (by omega) e
  · rintro (e | e | e)
    · omega
    · omega
    · exact hlow _ (by omega) e
  · have hd := h.mks D hD
    rintro (e | e | e)
    · rw [e, hc.l] at hd; cases hd
    · rw [e, hc.a] at hd; cases hd
    · obtain ⟨cur, hcur⟩ := ownsRow_block hc.o e
      rw [hd] at hcur; cases hcur
theorem CutAt.others (hc : CutAt (E + 4) (E + 1) (E + 1 + 1) ps a v W) (ht : Turns (fun j => j = E + 1 ∨ j = E + 1 + 1 ∨ v.ownBlock = some j) W W') : KeepsOthers W W' := by
  refine ⟨ht.size, fun j o hj ho => ht.same hj ?_⟩
  rintro (e | e | e)
  · subst e; rw [hc.l] at hj; cases hj; simp [Obj.isCells] at ho
  · subst e; rw [hc.a] at hj; cases hj; simp [Obj.isCells] at ho
  · obtain ⟨cur, hcur⟩ := ownsRow_block hc.o e
    rw [hcur] at hj; cases hj; simp [Obj.isCells] at ho
theorem CutAt.roller {p n : Nat} {G : List UInt8} (hc : CutAt (E + 4) (E + 1) (E + 1 + 1) ps a v W) (ht : Turns (fun j => j = E + 1 ∨ j = E + 1 + 1 ∨ v.ownBlock = some j) W W') (hb : b < E) (h : RolG b p n G W) : RolG b p n G W' := by
  refine h.keeps ht ?_
  rintro (e | e | e)
  · omega
  · omega
  · exact hc.o.low (b := b) (by omega) e
end
end Go.Proofs.Ytcmlcpejlmlcfaa

/-
  What chunk.Cut returns.
-/
set_option linter.unusedVariables false
set_option maxRecDepth 100000
namespace Go.Proofs.Ytcmlcpejlmlcfaa
open Go.RowKit
attribute [local go_sem] Oper.semAt_some

def cutAct (c : Ctr) (s : ByteArray) (B b k E : Nat) (Ds : List Nat) (u11 u22 u23 u24 u25 u26 u27 u28 u29 u30 u31 u32 u33 u34 u35 u36 u37 u38 u39 u40 u45 u46 u47 : Value) : Act :=
  { tmps := #[.agg #[.int .u64 c.p, .int .i64 c.n, .int .i64 c.mn, .int .i64 c.mx, .int .i64 c.b], .string s, .pointer (some ⟨B, 0, none⟩), undef, .slice none 0 0, .int .i64 0, .pointer (some ⟨E, 0, none⟩), .int .i64 0, .pointer (some ⟨E + 1, 0, none⟩), .pointer (some ⟨E + 1 + 1, 0, none⟩), .pointer (some ⟨E + 1 + 1 + 1, 0, none⟩), u11, undef, .tuple #[.agg #[.pointer (some ⟨b, 0, none⟩), .int .u64 ((2 ^ k - 1 : Nat) : Int)], .int .i64 0], .agg #[.int .u64 c.p, .int .i64 c.n, .int .i64 c.mn, .int .i64 c.mx, .int .i64 c.b], .tuple #[.agg #[.pointer (some ⟨b, 0, none⟩), .int .u64 ((2 ^ k - 1 : Nat) : Int)], .int .i64 0], .agg #[.pointer (some ⟨b, 0, none⟩), .int .u64 ((2 ^ k - 1 : Nat) : Int)], .int .i64 0, .int .i64 0, .bool false, undef, cutF E, u22, u23, u24, u25, u26, u27, u28, u29, u30, u31, u32, u33, u34, u35, u36, u37, u38, u39, u40, undef, undef, undef, undef, u45, u46, u47, undef], defers := Ds.map markD }
def cutMu (E len : Nat) (_ : Act) (W : World) : Nat := len - (intOf ((W.cell? ⟨E + 1 + 1, 0, none⟩).getD undef)).toNat
/-- how far the loop is -/
def CutL (c : Ctr) (s : ByteArray) (w : World) (b k E : Nat) (Z : List Pc) (x : Act) (W : World) : Prop :=
  ∃ a ps Ds u11 u22 u23 u24 u25 u26 u27 u28 u29 u30 u31 u32 u33 u34 u35 u36 u37 u38 u39 u40 u45 u46 u47, a ≤ s.size ∧ Z = ps ++ Chu.pcs a (Chu.ends (c.isMk s.data.toList) c.mn.toNat c.mx.toNat s.size s.size a) ∧ ps.length ≤ a ∧ x = cutAct c s w.heap.size b k E Ds u11 u22 u23 u24 u25 u26 u27 u28 u29 u30 u31 u32 u33 u34 u35 u36 u37 u38 u39 u40 u45 u46 u47 ∧ CtI c w E b k ps a Ds W ∧ (∃ G, RolG b c.p c.n.toNat G W) ∧ Ds.Nodup ∧ ∀ D ∈ Ds, E + 4 ≤ D

/-- on the way out -/
theorem cut_leave {c : Ctr} {w W : World} {b k E a : Nat} {ps : List Pc} {Ds : List Nat} {tmps : Array Value} {v : Value} {R : List Pc} (h4 : tmps.getD 4 undef = v) (h5 : tmps.getD 5 undef = .int .i64 0) (hi : CtI c w E b k ps a Ds W) (hv : POwn (E + 4) v ps W) (hn : Ds.Nodup) (hD : ∀ D ∈ Ds, E + 4 ≤ D) (hR : R = ps) :
    LeavesInM Fence.wide 5 Try.prog Try.f46 tmps (fun e w' => Below w.heap.size w w' ∧ ∃ v, e = .returned (.tuple #[v, .int .i64 0]) ∧ POwn w.heap.size v R w') (Ds.map markD) .returning W := by
  subst hR
  refine leaves_ds (.tuple #[v, .int .i64 0]) Ds W hn hi.mks (fun w' h1 h2 h3 hs hk => ?_)
  have hE := hi.wE
  have hnD : ∀ j, j < E + 4 → j ∉ Ds := fun j hj hd => by have := hD j hd; omega
  refine ⟨by rw [results_tmp2 rfl]; simp only [h4, h5], ⟨h1.trans hi.be.os, h2.trans hi.be.tape, h3.trans hi.be.output, by rw [hs]; exact hi.be.size, fun j hj => (hk j (hnD j (by omega))).trans (hi.be.block j hj)⟩, v, rfl, ?_⟩
  refine (hv.same (fun g _ _ ⟨cs, hcs⟩ => hk g (fun hd => ?_))).base (by omega)
  rw [hi.mks g hd] at hcs
  cases hcs

theorem Chu.cut_step {mk : Nat → Bool} {mn mx len a r : Nat} {ps Z : List (Nat × Nat)} (h1 : 1 ≤ mn) (h2 : mn ≤ mx) (h : a < len) (hr : Chu.nxt mk mn mx len a = r) (hz : Z = ps ++ Chu.pcs a (Chu.ends mk mn mx len len a)) : Z = (ps ++ [(a, r - a)]) ++ Chu.pcs r (Chu.ends mk mn mx len len r) := by
  rw [hz, Chu.ends_next h1 h2 h, hr]
  simp [Chu.pcs]
/-- no mark so far -/
def CutC (c : Ctr) (w : World) (E b k : Nat) (ps : List Pc) (a : Nat) (Ds : List Nat) (mk : Nat → Bool) (f i : Nat) (V : World) : Prop := (∀ j, f ≤ j → j < i → mk j = false) ∧ CtI c w E b k ps a Ds V
/-- cut at the first mark -/
def CutS (c : Ctr) (w : World) (E b k : Nat) (ps : List Pc) (a : Nat) (Ds : List Nat) (mk : Nat → Bool) (f t i : Nat) (V : World) : Prop := (f ≤ i ∧ i ≤ t ∧ mk i = true ∧ ∀ j, f ≤ j → j < i → mk j = false) ∧ (∃ G, RolG b c.p c.n.toNat G V) ∧ CtI c w E b k (ps ++ [(a, i - a)]) i Ds V

set_option maxHeartbeats 1000000 in
theorem chCut_may (c : Ctr) (hp : c.p < 18446744073709551616) (hm : c.May) (s : ByteArray) (hsz : s.size ≤ 1099511627776) (w : World) :
    Calls Try.prog 46 #[c.v, .string s] w fun e w' => Below w.heap.size w w' ∧ ∃ v, e = .returned (.tuple #[v, .int .i64 0]) ∧ POwn w.heap.size v (c.cut s.data.toList) w' := by
  have cf := fun u => callsIn_wide (n := 4).2 (finder_any c hp u)
  simp only [if_pos hm] at cf
  have hb0 := hm.2.2.2.1
  have hb1 := hm.2.2.2.2
  obtain ⟨k, hk⟩ : ∃ k : Nat, c.b = (k : Int) := ⟨c.b.toNat, by omega⟩
  have hk16 : k ≤ 16 := by omega
  have hkb : c.b.toNat = k := by omega
  have hfine := hm.1.1
  obtain ⟨mn, hmn⟩ : ∃ mn : Nat, c.mn = (mn : Int) := ⟨c.mn.toNat, by have := hm.1.2.1; have := hm.2.1.1; omega⟩
  obtain ⟨mx, hmx⟩ : ∃ mx : Nat, c.mx = (mx : Int) := ⟨c.mx.toNat, by have := hm.2.2.1.1; omega⟩
  have hmn1 : 1 ≤ mn := by have := hm.1.2.1; have := hm.2.1.1; omega
  have hmm : mn ≤ mx := by have := hm.2.1.2; omega
  have hmx4 : mx ≤ 4096 := by have := hm.2.2.1.2; omega
  obtain ⟨Z, hZ⟩ : ∃ Z, Z = c.cut s.data.toList := ⟨_, rfl⟩
  have hZ0 : Z = [] ++ Chu.pcs 0 (Chu.ends (c.isMk s.data.toList) c.mn.toNat c.mx.toNat s.size s.size 0) := by
    rw [hZ]; unfold Ctr.cut Ctr.ends; rw [ba_len]; rfl
  rw [← hZ]
  rw [hkb] at cf
  have HZ0 := Lib.hid hZ0; clear hZ0 hZ
  have hmk : c.isMk s.data.toList = Chu.mark c.p c.n.toNat k s.data.toList := by unfold Ctr.isMk; rw [hkb]
  have Hmk := Lib.hid hmk; clear hmk
  have Hmn := Lib.hid hmn; clear hmn
  have Hmx := Lib.hid hmx; clear hmx
  clear hk hkb
  refine (callsIn_wide (n := 5)).1 ?_
  refine callsIn_of_wp_marks Try.func46 rfl trivial ?_ rfl
  simp only [Try.ntmps46, List.size_toArray, List.length_cons, List.length_nil, Nat.reduceAdd, Nat.reduceSub, Array.replicate_succ, Array.replicate_zero, List.push_toArray, List.append_toArray, List.nil_append, List.cons_append]
  have hbw := box_below w (.cells #[.int .u64 c.p, .int .i64 c.n, .int .i64 c.mn, .int .i64 c.mx, .int .i64 c.b] 38)
  have hbox := CtrAt.box c w
  unfold Ctr.v finV at *
  have Cf := Lib.hid cf; clear cf
  have Hbw := Lib.hid hbw; clear hbw
  have Hbox := Lib.hid hbox; clear hbox
  have Hm := Lib.hid hm; clear hm
  clear hb0 hb1
  gi_wp2_with fail
  refine wpIn_scope_wide ?_
  gi_wp2_with fail
  refine ⟨trivial, (Cf.out _).mono ?_⟩; rintro e w1 ⟨h1, b, hb, rfl, hg⟩
  have Hbox1 := Lib.hid (Hbox.out.new h1); clear Hbox
  have Hbe1 := Lib.hid (Hbw.out.trans (h1.mono Hbw.out.size))
  have hwb : w.heap.size < b := by have := hb; simp only [World.size_alloc] at this; omega
  have hbE : b < w1.heap.size := hg.lt
  have Hg := Lib.hid hg; clear hg
  clear h1 hb Hbw
  gi_wp2_with fail
  refine wpIn_label ?_
  gi_wp2_with fail
  obtain ⟨E, hE⟩ : ∃ E, E = w1.heap.size := ⟨_, rfl⟩
  obtain ⟨w2, hw2⟩ : ∃ w2, w2 = (((w1.alloc (.cells #[.pointer (some ⟨b, 0, none⟩), .int .u64 ((2 ^ k - 1 : Nat) : Int)] 86)).alloc (.cells #[.slice none 0 0] 65)).alloc (.cells #[.int .i64 0] 3)).alloc (.cells #[cutF w1.heap.size] 53) := ⟨_, rfl⟩
  have hw2' := hw2
  unfold cutF at hw2'
  rw [← hw2']
  have hbw2 : Below w1.heap.size w1 w2 := by rw [hw2]; exact ((((Below.refl _ w1).alloc (Nat.le_refl _) _).alloc (by simp) _).alloc (by simp; omega) _).alloc (by simp; omega) _
  have hci : CtI c w E b k [] 0 [] w2 := by
    have hs := Hbe1.out.size
    refine ⟨Hbe1.out.trans (hbw2.mono hs), Hbox1.out.new hbw2, ?_, ⟨.slice none 0 0, ?_, World.ownsRow_nil _ _ 68 2, ?_⟩, ?_, fun D hD => by simp at hD, ?_, by omega⟩
    · rw [hw2, hE]; exact row_alloc (row_alloc (row_alloc (heap_alloc_new _ _) _) _) _
    · rw [hw2, hE]
      refine row_alloc (row_alloc ?_ _) _
      have := heap_alloc_new (w1.alloc (.cells #[.pointer (some ⟨b, 0, none⟩), .int .u64 ((2 ^ k - 1 : Nat) : Int)] 86)) (.cells #[.slice none 0 0] 65)
      simp only [World.size_alloc] at this; exact this
    · rw [hw2, hE]
      refine row_alloc ?_ _
      have := heap_alloc_new ((w1.alloc (.cells #[.pointer (some ⟨b, 0, none⟩), .int .u64 ((2 ^ k - 1 : Nat) : Int)] 86)).alloc (.cells #[.slice none 0 0] 65)) (.cells #[.int .i64 0] 3)
      simp only [World.size_alloc] at this; exact this
    · rw [hw2, hE]
      have := heap_alloc_new (((w1.alloc (.cells #[.pointer (some ⟨b, 0, none⟩), .int .u64 ((2 ^ k - 1 : Nat) : Int)] 86)).alloc (.cells #[.slice none 0 0] 65)).alloc (.cells #[.int .i64 0] 3)) (.cells #[cutF w1.heap.size] 53)
      simp only [World.size_alloc] at this; exact this
    · rw [hw2, hE]; simp
  have hg2 := Hg.out.new hbw2
  rw [← hE] at hbE ⊢
  have Hci := Lib.hid hci; clear hci
  have Hg2 := Lib.hid hg2; clear hg2 Hg Hbe1 Hbox1 Cf
  have HE := Lib.hid hE
  clear hw2 hw2' hbw2 hE
  refine wpIn_loop (CutL c s w b k E Z) (cutMu E s.size) ?_ ?_
  · exact ⟨0, [], [], _, _, _, _, _, _, _, _, _, _, _, _, _, _, _, _, _, _, _, _, _, _, _, Nat.zero_le _, HZ0.out, Nat.le_refl _, rfl, Hci.out, ⟨_, Hg2.out⟩, List.nodup_nil, fun D hD => by simp at hD⟩
  · rintro x W ⟨a, ps, Ds, u11, u22, u23, u24, u25, u26, u27, u28, u29, u30, u31, u32, u33, u34, u35, u36, u37, u38, u39, u40, u45, u46, u47, ha, hz, hpl, rfl, hi, ⟨G, hgl⟩, hnd, hD4⟩
    obtain ⟨v, hcut⟩ := hi.cut
    have hbox := hi.box
    have c2 := hbox.c2
    have c3 := hbox.c3
    rw [Hmn.out] at c2
    rw [Hmx.out] at c3
    have ca := cell_of_one hcut.a
    have cl := cell_of_one hcut.l
    have cf := cell_of_one hi.fn
    have e0 : W.cell? ⟨E, 0, none⟩ = some (.pointer (some ⟨b, 0, none⟩)) := cell_of_row _ _ 0 _ _ _ hi.fin
    have e1 : W.cell? ⟨E, 1, none⟩ = some (.int .u64 ((2 ^ k - 1 : Nat) : Int)) := cell_of_row _ _ 1 _ _ _ hi.fin
    have Hi := Lib.hid hi; clear hi
    have Hcut := Lib.hid hcut; clear hcut
    have Hz := Lib.hid hz; clear hz
    have Hgl := Lib.hid hgl; clear hgl
    have Hnd := Lib.hid hnd; clear hnd
    have HD4 := Lib.hid hD4; clear hD4 hbox
    by_cases hlt : a < s.size
    · obtain ⟨t, ht⟩ : ∃ t, t = min (a + mx) s.size := ⟨_, rfl⟩
      have htm : min ((a : Int) + (mx : Int)) (s.size : Int) = (t : Int) := by omega
      have hts : t ≤ s.size := by omega
      have hat : a < t := by omega
      have Ht := Lib.hid ht; clear ht
      have cm := fun u => callsIn_wide (n := 4).2 (cmarks_any b k s ((a : Int) + (mn : Int)) (t : Int) u)
      unfold finV mkF at cm
      have Cm := Lib.hid cm; clear cm
      unfold cutAct cutF
      unfold cutF at cf
      gi_wp2_with fail
      refine ⟨trivial, (Cm.out _).mono ?_⟩; rintro e W2 ⟨rfl, hbx, hbn⟩
      have hB : b < W.heap.size := by have := Hi.out.sz; omega
      have hi2 := Hi.out.new hbn
      have hg2 := Hgl.out.new hbn
      have hfe : ((a + mn : Nat) : Int) = (a : Int) + (mn : Int) := by omega
      rw [← hfe] at hbx
      have hwW2 : w.heap.size ≤ W2.heap.size := by have := Hi.out.be.size; have := hbn.size; omega
      have hDW2 : ∀ D ∈ Ds, D < W2.heap.size := fun D hD => by have := row_lt (Hi.out.mks D hD); have := hbn.size; omega
      have Hi2 := Lib.hid hi2; clear hi2
      have Hgn := Lib.hid hg2; clear hg2
      have Hbx := Lib.hid hbx; clear hbx
      have Hbn := Lib.hid hbn; clear hbn
      have HW2 := Lib.hid hwW2; clear hwW2
      have HDW := Lib.hid hDW2; clear hDW2
      have HB := Lib.hid hB; clear hB
      clear hfe Cm
      gi_wp2_with fail
      have hwW2 := HW2.out
      have hDW2 := HDW.out
      refine rangeFunc_out 1 rfl (by decide) (gf := 60) (lb := #[.pointer (some ⟨W.heap.size + 2, 0, none⟩), .pointer (some ⟨W.heap.size + 3, 0, none⟩), .pointer (some ⟨W.heap.size, 0, none⟩), .pointer (some ⟨W.heap.size + 1, 0, none⟩)]) rfl trivial (enters_of Try.func60 (by kernel_rfl) rfl)
        (α := Nat) (fun i => #[.int .i64 (i : Int)]) (fun _ => rfl)
        (fun V => MkAny b c.p c.n.toNat k s ((a + mn : Nat) : Int) t W.heap.size V ∧ CtI c w E b k ps a Ds V)
        (fun V => MkAny b c.p c.n.toNat k s ((a + mn : Nat) : Int) t W.heap.size V ∧ CutC c w E b k ps a Ds (c.isMk s.data.toList) (a + mn) (max (a + mn) (t + 1)) V)
        (fun V => ∃ i, CutS c w E b k ps a Ds (c.isMk s.data.toList) (a + mn) t i V)
        (fun i V => (a + mn ≤ i ∧ i ≤ t ∧ c.isMk s.data.toList i = true) ∧ MkOwn b c.p c.n.toNat k s ((a + mn : Nat) : Int) t W.heap.size i V ∧ CutC c w E b k ps a Ds (c.isMk s.data.toList) (a + mn) i V)
        (fun _ _ => False)
        (fun i V => CutS c w E b k ps a Ds (c.isMk s.data.toList) (a + mn) t i V)
        (fun i a₁ V => (a + mn ≤ i ∧ i ≤ t ∧ c.isMk s.data.toList i = true) ∧ (MkOwn b c.p c.n.toNat k s ((a + mn : Nat) : Int) t W.heap.size i V ∧ CutC c w E b k ps a Ds (c.isMk s.data.toList) (a + mn) i V) ∧
          a₁ = { tmps := #[.agg #[.int .u64 c.p, .int .i64 c.n, .int .i64 c.mn, .int .i64 c.mx, .int .i64 c.b], .string s, .pointer (some ⟨w.heap.size, 0, none⟩), undef, .slice none 0 0, .int .i64 0, .pointer (some ⟨E, 0, none⟩), .int .i64 0, .pointer (some ⟨E + 1, 0, none⟩), .pointer (some ⟨E + 1 + 1, 0, none⟩), .pointer (some ⟨E + 1 + 1 + 1, 0, none⟩), .int .i64 (t : Int), .int .i64 (i : Int), .tuple #[.agg #[.pointer (some ⟨b, 0, none⟩), .int .u64 ((2 ^ k - 1 : Nat) : Int)], .int .i64 0], .agg #[.int .u64 c.p, .int .i64 c.n, .int .i64 c.mn, .int .i64 c.mx, .int .i64 c.b], .tuple #[.agg #[.pointer (some ⟨b, 0, none⟩), .int .u64 ((2 ^ k - 1 : Nat) : Int)], .int .i64 0], .agg #[.pointer (some ⟨b, 0, none⟩), .int .u64 ((2 ^ k - 1 : Nat) : Int)], .int .i64 0, .int .i64 0, .bool false, undef, .func (.func 54) #[] #[.pointer (some ⟨E + 1, 0, none⟩), .pointer (some ⟨E + 1 + 1, 0, none⟩)], .int .i64 (a : Int), .string s, .int .i64 (s.size : Int), .bool true, .int .i64 (a : Int), .pointer (some ⟨w.heap.size, 3, none⟩), .int .i64 (mx : Int), .int .i64 ((a : Int) + (mx : Int)), .string s, .int .i64 (s.size : Int), .int .i64 (t : Int), .agg #[.pointer (some ⟨b, 0, none⟩), .int .u64 ((2 ^ k - 1 : Nat) : Int)], .string s, .int .i64 (a : Int), .pointer (some ⟨w.heap.size, 2, none⟩), .int .i64 (mn : Int), .int .i64 ((a : Int) + (mn : Int)), .int .i64 (t : Int), .func (.func 60) #[] #[.pointer (some ⟨W.heap.size + 2, 0, none⟩), .pointer (some ⟨W.heap.size + 3, 0, none⟩), .pointer (some ⟨W.heap.size, 0, none⟩), .pointer (some ⟨W.heap.size + 1, 0, none⟩)], .int .i64 (i : Int), undef, undef, undef, u45, u46, u47, undef], defers := [] })
        ?sEnd ?sStop ?sOut ?sRet ?sMid ?h0 ?hiter ?hassign ?hbody ?hdone ?hstop
      case sEnd => exact fun V l o o' hl ho hc ⟨⟨⟨G, h1⟩, h2⟩, h3⟩ => ⟨⟨⟨G, RolG.stays V l o o' hl ho hc h1⟩, MkBox.stays V l o o' hl ho hc h2⟩, h3.1, CtI.stays hwW2 hDW2 V l o o' hl ho hc h3.2⟩
      case sStop => exact fun V l o o' hl ho hc ⟨i, h1, ⟨G, h2⟩, h3⟩ => ⟨i, h1, ⟨G, RolG.stays V l o o' hl ho hc h2⟩, CtI.stays hwW2 hDW2 V l o o' hl ho hc h3⟩
      case sOut => exact fun i V l o o' hl ho hc h => h
      case sRet => exact fun i V l o o' hl ho hc ⟨h1, ⟨G, h2⟩, h3⟩ => ⟨h1, ⟨G, RolG.stays V l o o' hl ho hc h2⟩, CtI.stays hwW2 hDW2 V l o o' hl ho hc h3⟩
      case sMid => exact fun i a₁ V l o o' hl ho hc ⟨h0, ⟨⟨h1, h2⟩, h3⟩, h4⟩ => ⟨h0, ⟨⟨RolG.stays V l o o' hl ho hc h1, MkBox.stays V l o o' hl ho hc h2⟩, h3.1, CtI.stays hwW2 hDW2 V l o o' hl ho hc h3.2⟩, h4⟩
      case h0 =>
        intro o o'
        have hbb : Below W2.heap.size W2 ((W2.alloc o).alloc o') := ((Below.refl _ _).alloc (Nat.le_refl _) _).alloc (by simp) _
        exact ⟨⟨⟨G, Hgn.out.new hbb⟩, Hbx.out.new hbb⟩, Hi2.out.new hbb⟩
      case hiter =>
        intro ly Book BookS V1 hBk hBs hly hbk hj0 hY
        refine (mkIter_any (b := b) (p := c.p) (n := c.n.toNat) (k := k) (B := W.heap.size) (f := a + mn) (t := t) (s := s) (by omega) hts hk16 hfine (by omega) HB.out (C := CutC c w E b k ps a Ds (c.isMk s.data.toList) (a + mn)) (CS := CutS c w E b k ps a Ds (c.isMk s.data.toList) (a + mn) t) (W1 := V1)
          (fun i V V' h ht => ⟨h.1, h.2.turn hwb hbE HD4.out ht⟩) (fun i V h1 h2 hm h => ⟨fun j x y => ?_, h.2⟩) hj0.1 ⟨fun j x y => by omega, hj0.2⟩ ly Book BookS hBk hbk ?_).mono ?_
        · rcases Nat.lt_or_ge j i with hji | hji
          · exact h.1 j x hji
          · obtain rfl : j = i := by omega
            rw [Hmk.out]; exact hm
        · intro i V h1 h2 hm hb ho hc
          rw [← Hmk.out] at hm
          exact yield_imp (hY i V hb ⟨⟨h1, h2, hm⟩, ho, hc⟩) (fun e w hh => by
            rcases hh with ⟨x, y, z⟩ | ⟨x, y, z⟩
            · exact z.elim
            · exact .inr ⟨x, y, z⟩)
        · rintro e V ⟨hv, h⟩
          rcases h with ⟨h1, h2, h3⟩ | ⟨i, _, _, h1, h2⟩
          · exact ⟨hv, .inl ⟨h1, h2, h3⟩⟩
          · exact ⟨hv, .inr ⟨h1, i, h2⟩⟩
      case hassign =>
        intro ly i V K hly hin hK
        have Hin := Lib.hid hin; clear hin
        have HK := Lib.hid hK; clear hK
        gi_wp2_with fail
        exact HK.out _ _ (KeepsOthers.refl _) ⟨Hin.out.1, Hin.out.2, rfl⟩
      case hbody =>
        rintro ly i a₁ V hly ⟨hi3, ⟨ho, hc⟩, rfl⟩
        obtain ⟨v3, hcut3⟩ := hc.2.cut
        have cf3 := cell_of_one hc.2.fn
        unfold cutF at cf3
        have c1 := cut1_any (i := i) hcut3 (by omega) hc.2.sz (by omega) (by omega)
        have C1 := Lib.hid c1; clear c1
        have Hc := Lib.hid hc; clear hc
        have Hi3 := Lib.hid hi3; clear hi3
        have Ho := Lib.hid ho; clear ho
        have Hcut3 := Lib.hid hcut3; clear hcut3
        clear hwW2 hDW2 c2 c3 ca cl cf e0 e1
        gi_wp2_with fail
        refine ⟨trivial, (CallsIn.inRound ly (callsIn_wide.2 C1.out)).mono ?_⟩; rintro e V2 ⟨rfl, hn, ht⟩
        have hko := Hcut3.out.others ht
        have hfin : CutS c w E b k ps a Ds (c.isMk s.data.toList) (a + mn) t i V2 := ⟨⟨Hi3.out.1, Hi3.out.2.1, Hi3.out.2.2, Hc.out.1⟩, ⟨_, Hcut3.out.roller ht hbE Ho.out.1⟩, Hc.out.2.step Hcut3.out hn ht⟩
        have Hko := Lib.hid hko; clear hko
        have Hfin := Lib.hid hfin; clear hfin
        clear hn ht
        gi_wp2_with fail
        exact ⟨rfl, Hko.out, Hfin.out⟩
      case hdone =>
        rintro D V hD ⟨⟨⟨G2, hg3⟩, hbx3⟩, hc⟩ hK2
        obtain ⟨v3, hcut3⟩ := hc.2.cut
        have cf3 := cell_of_one hc.2.fn
        unfold cutF at cf3
        have c1 := cut1_any (i := t) hcut3 (by omega) hc.2.sz (by omega) (by omega)
        have hnx : Chu.nxt (c.isMk s.data.toList) mn mx s.size a = t := by
          have := Ht.out
          exact Chu.nxt_eq (by omega) (.inl this) (fun j x y => hc.1 j x (by omega))
        have hz2 := Chu.cut_step (Z := Z) (ps := ps) hmn1 hmm hlt hnx (by have := Hz.out; simp only [Hmn.out, Hmx.out, Int.toNat_natCast] at this; exact this)
        have hnd2 : (D :: Ds).Nodup := List.nodup_cons.2 ⟨fun e => by have := hDW2 D e; omega, Hnd.out⟩
        have hD5 : ∀ D' ∈ D :: Ds, E + 4 ≤ D' := fun D' hD' => by
          rcases List.mem_cons.1 hD' with rfl | hD'
          · have := Hi.out.sz; have := Hbn.out.size; omega
          · exact HD4.out D' hD'
        have hmu : ∀ x x' : Act, ∀ V2 : World, V2.cell? ⟨E + 1 + 1, 0, none⟩ = some (.int .i64 (t : Int)) → cutMu E s.size x' V2 < cutMu E s.size x W := fun x x' V2 h => by
          unfold cutMu
          rw [h, ca]
          simp [intOf]
          omega
        have C1 := Lib.hid c1; clear c1
        have Hc := Lib.hid hc; clear hc
        have Hcut3 := Lib.hid hcut3; clear hcut3
        have Hg3 := Lib.hid hg3; clear hg3
        have HK2 := Lib.hid hK2; clear hK2
        have Hz2 := Lib.hid hz2; clear hz2
        have Hnd2 := Lib.hid hnd2; clear hnd2
        have HD5 := Lib.hid hD5; clear hD5
        have Hmu := Lib.hid hmu; clear hmu
        clear hwW2 hDW2 c2 c3 ca cl cf e0 e1 hnx hbx3
        gi_wp2_with fail
        refine ⟨trivial, (callsIn_wide.2 C1.out).mono ?_⟩; rintro e V2 ⟨rfl, hn, ht⟩
        have hi4 := (Hc.out.2.mark HK2.out).step Hcut3.out hn ht
        have hg4 := Hcut3.out.roller ht hbE Hg3.out
        obtain ⟨v4, hcut4⟩ := hn
        have ca4 := cell_of_one hcut4.a
        have Hi4 := Lib.hid hi4; clear hi4
        have Hg4 := Lib.hid hg4; clear hg4
        have Hca4 := Lib.hid ca4; clear ca4
        clear ht hcut4
        gi_wp2_with fail
        refine ⟨⟨t, ps ++ [(a, t - a)], D :: Ds, _, _, _, _, _, _, _, _, _, _, _, _, _, _, _, _, _, _, _, _, _, _, _, hts, ?_, by rw [List.length_append]; exact (by omega : ps.length + 1 ≤ t), rfl, Hi4.out, ⟨_, Hg4.out⟩, Hnd2.out, HD5.out⟩, Hmu.out _ _ _ Hca4.out⟩
        rw [Hmn.out, Hmx.out, Int.toNat_natCast, Int.toNat_natCast]
        exact Hz2.out
      case hstop =>
        rintro D V hD ⟨i, hi3, hg3, hc⟩ hK2
        have hnx : Chu.nxt (c.isMk s.data.toList) mn mx s.size a = i := by
          have := Ht.out
          exact Chu.nxt_eq (by omega) (.inr ⟨hi3.1, hi3.2.2.1⟩) hi3.2.2.2
        have hz2 := Chu.cut_step (Z := Z) (ps := ps) hmn1 hmm hlt hnx (by have := Hz.out; simp only [Hmn.out, Hmx.out, Int.toNat_natCast] at this; exact this)
        have hnd2 : (D :: Ds).Nodup := List.nodup_cons.2 ⟨fun e => by have := hDW2 D e; omega, Hnd.out⟩
        have hD5 : ∀ D' ∈ D :: Ds, E + 4 ≤ D' := fun D' hD' => by
          rcases List.mem_cons.1 hD' with rfl | hD'
          · have := Hi.out.sz; have := Hbn.out.size; omega
          · exact HD4.out D' hD'
        have hi1 := hi3.1
        have hi2 := hi3.2.1
        obtain ⟨v4, hcut4⟩ := hc.cut
        have ca4 := cell_of_one hcut4.a
        have hmu : ∀ x x' : Act, cutMu E s.size x' V < cutMu E s.size x W := fun x x' => by
          unfold cutMu
          rw [ca4, ca]
          simp [intOf]
          omega
        have hi4 := hc.mark hK2
        have Hi4 := Lib.hid hi4; clear hi4 hc
        have Hg4 := Lib.hid hg3; clear hg3
        have Hz2 := Lib.hid hz2; clear hz2
        have Hnd2 := Lib.hid hnd2; clear hnd2
        have HD5 := Lib.hid hD5; clear hD5
        have Hmu := Lib.hid hmu; clear hmu
        clear hwW2 hDW2 c2 c3 ca cl cf e0 e1 hnx hK2 hcut4 ca4 hi3
        gi_wp2_with fail
        refine ⟨⟨i, ps ++ [(a, i - a)], D :: Ds, _, _, _, _, _, _, _, _, _, _, _, _, _, _, _, _, _, _, _, _, _, _, _, by omega, ?_, by rw [List.length_append]; exact (by omega : ps.length + 1 ≤ i), rfl, Hi4.out, Hg4.out, Hnd2.out, HD5.out⟩, Hmu.out _ _⟩
        rw [Hmn.out, Hmx.out, Int.toNat_natCast, Int.toNat_natCast]
        exact Hz2.out
    · have hae : a = s.size := by omega
      have hge : decide (a < s.size) = false := decide_eq_false hlt
      have hzz : Z = ps := by
        rw [Hz.out, hae, Chu.ends_done _ _ _ _ _ _ (Nat.le_refl _)]
        simp [Chu.pcs]
      obtain ⟨va, vcap, hvf⟩ := Hcut.out.o.form
      obtain ⟨nps, hnps⟩ : ∃ nps, nps = ps.length := ⟨_, rfl⟩
      rw [← hnps] at hvf
      rw [hvf] at cl
      have Hvf := Lib.hid hvf; clear hvf hnps
      have Hzz := Lib.hid hzz; clear hzz hae
      unfold cutAct cutF
      gi_wp2_with fail
      exact cut_leave (k := k) (E := E) (a := a) (b := b) rfl rfl Hi.out (by rw [← Hvf.out]; exact Hcut.out.o) Hnd.out HD4.out Hzz.out

theorem chCut_any (c : Ctr) (hp : c.p < 18446744073709551616) (s : ByteArray) (hsz : s.size ≤ 1099511627776) (w : World) :
    Calls Try.prog 46 #[c.v, .string s] w fun e w' => Below w.heap.size w w' ∧ if c.May then ∃ v, e = .returned (.tuple #[v, .int .i64 0]) ∧ POwn w.heap.size v (c.cut s.data.toList) w' else e = .returned (.tuple #[.slice none 0 0, .int .i64 2]) := by
  by_cases hm : c.May
  · simp only [if_pos hm]
    exact chCut_may c hp hm s hsz w
  · have cf := fun u => callsIn_wide (n := 4).2 (finder_any c hp u)
    simp only [if_neg hm] at cf ⊢
    have hbw := box_below w (.cells #[.int .u64 c.p, .int .i64 c.n, .int .i64 c.mn, .int .i64 c.mx, .int .i64 c.b] 38)
    refine (callsIn_wide (n := 5)).1 ?_
    refine callsIn_of_wp_marks Try.func46 rfl trivial ?_ rfl
    simp only [Try.ntmps46, List.size_toArray, List.length_cons, List.length_nil, Nat.reduceAdd, Nat.reduceSub, Array.replicate_succ, Array.replicate_zero, List.push_toArray, List.append_toArray, List.nil_append, List.cons_append]
    unfold Ctr.v noFin at *
    have Cf := Lib.hid cf; clear cf
    have Hbw := Lib.hid hbw; clear hbw
    clear hm
    gi_wp2_with fail
    refine wpIn_scope_wide ?_
    gi_wp2_with fail
    refine ⟨trivial, (Cf.out _).mono ?_⟩; rintro e w1 ⟨h1, rfl⟩
    have hbe := (Hbw.out.trans (h1.mono Hbw.out.size)).alloc (Nat.le_trans Hbw.out.size h1.size) (.cells #[.pointer none, .int .u64 0] 86)
    have Hbe := Lib.hid hbe; clear hbe h1
    gi_wp2_with fail
    exact ⟨_, results_tmp2 rfl _ _ _, Hbe.out, rfl⟩
end Go.Proofs.Ytcmlcpejlmlcfaa

/-
  What strings.Clone returns.
-/
set_option linter.unusedVariables false
namespace Go.Proofs.Ytcmlcpejlmlcfaa
open Go.RowKit

theorem clone_any (s : ByteArray) (w : World) (hm : s.size ≤ 281474976710656) :
    Calls Try.prog 26 #[.string s] w fun e w' => e = .returned (.string s) ∧ Below w.heap.size w w' := by
  go_enter Try.func26, Try.ntmps26
  go_wp2_with (go_at_call 39; refine (Try.stringslite_Clone s _ hm).mono ?_; rintro e w' ⟨rfl, hb⟩)
  go_ret
  exact ⟨rfl, hb⟩
end Go.Proofs.Ytcmlcpejlmlcfaa

/-
  What chunk.Texts returns.
-/
set_option linter.unusedVariables false
set_option maxRecDepth 100000
namespace Go.Proofs.Ytcmlcpejlmlcfaa
open Go.RowKit

theorem pc_get : ∀ (l : List Pc) (k : Nat), k < l.length → (l.flatMap Pc.cells)[k * 2]? = some (.int .i64 ((l.getD k (0, 0)).1 : Int)) ∧ (l.flatMap Pc.cells)[k * 2 + 1]? = some (.int .i64 ((l.getD k (0, 0)).2 : Int))
  | [], k, h => by simp at h
  | x :: r, 0, _ => by simp [Pc.cells]
  | x :: r, k + 1, h => by
    have h' : k < r.length := by simpa using h
    have ih := pc_get r k h'
    rw [show (k + 1) * 2 = k * 2 + 2 by omega]
    rw [List.flatMap_cons, List.getD_cons_succ]
    have e1 : ∀ j, (Pc.cells x ++ r.flatMap Pc.cells)[j + 2]? = (r.flatMap Pc.cells)[j]? := fun j => by
      rw [List.getElem?_append_right (by simp [Pc.cells])]
      simp [Pc.cells]
    exact ⟨by rw [e1]; exact ih.1, by rw [show k * 2 + 2 + 1 = (k * 2 + 1) + 2 by omega, e1]; exact ih.2⟩
theorem POwn.at_ {B : Nat} {v : Value} {l : List Pc} {w : World} (h : POwn B v l w) (k : Nat) (hk : k < l.length) : ∃ g cap, v = .slice (some ⟨g, 0, none⟩) l.length cap ∧ B ≤ g ∧ g < w.heap.size ∧ l.length ≤ cap ∧
    ∀ j, j < l.length → w.cell? ⟨g, j * 2, none⟩ = some (.int .i64 ((l.getD j (0, 0)).1 : Int)) ∧ w.cell? ⟨g, j * 2 + 1, none⟩ = some (.int .i64 ((l.getD j (0, 0)).2 : Int)) := by
  have hl := h
  rcases h.2 with ⟨_, h0⟩ | ⟨g, cap, cur, rfl, hb, hg, hn, hm, hc, ht⟩
  · omega
  · refine ⟨g, cap, rfl, hb, row_lt hg, hn, fun j hj => ?_⟩
    have hget : ∀ i u, (l.flatMap Pc.cells)[i]? = some u → w.cell? ⟨g, i, none⟩ = some u := fun i u hu => by
      rw [cell_of_row _ _ i _ _ _ hg]
      rw [← ht] at hu
      rw [List.getElem?_take] at hu
      split at hu
      · simpa using hu
      · cases hu
    exact ⟨hget _ _ (pc_get l j hj).1, hget _ _ (pc_get l j hj).2⟩

/-- the strings of pieces -/
def pcTexts (s : ByteArray) (l : List Pc) : List ByteArray := l.map fun x => s.extract x.1 (x.1 + x.2)
@[simp] theorem pcTexts_length (s : ByteArray) (l : List Pc) : (pcTexts s l).length = l.length := by simp [pcTexts]
/-- a row of strings, the first k of which are there -/
def mixT (ts : List ByteArray) (k : Nat) : List Value := ((ts.take k) ++ List.replicate (ts.length - k) (⟨#[]⟩ : ByteArray)).map Value.string
theorem mixT_length (ts : List ByteArray) (k : Nat) (h : k ≤ ts.length) : (mixT ts k).length = ts.length := by simp [mixT]; omega
theorem mixT_zero (ts : List ByteArray) : mixT ts 0 = List.replicate ts.length (.string ⟨#[]⟩) := by simp [mixT]
theorem mixT_all (ts : List ByteArray) : mixT ts ts.length = ts.map Value.string := by simp [mixT]
theorem mixT_get (ts : List ByteArray) (k : Nat) (h : k < ts.length) : ∃ v, (mixT ts k)[k]? = some v := by
  have := mixT_length ts k (by omega)
  exact ⟨(mixT ts k)[k], List.getElem?_eq_getElem (by omega)⟩
theorem mixT_set (ts : List ByteArray) (k : Nat) (h : k < ts.length) : (mixT ts k).set k (.string (ts.getD k ⟨#[]⟩)) = mixT ts (k + 1) := by
  unfold mixT
  rw [← List.map_set]
  congr 1
  have hl : (ts.take k).length = k := by rw [List.length_take]; omega
  rw [List.set_append_right _ _ (by omega), hl, Nat.sub_self]
  obtain ⟨m, hm⟩ : ∃ m, ts.length - k = m + 1 := ⟨ts.length - k - 1, by omega⟩
  rw [hm, List.replicate_succ, List.set_cons_zero, show ts.length - (k + 1) = m by omega]
  rw [List.take_succ_eq_append_getElem h, List.append_assoc]
  simp [List.getD_eq_getElem?_getD, h]

theorem texts_made (n : Nat) : madeCells (Value.string ⟨#[]⟩).cells n = (List.replicate n (Value.string ⟨#[]⟩)).toArray := by
  apply Array.ext
  · simp [madeCells]
  · intro i h1 h2
    simp [madeCells, Value.cells, Nat.mod_one]
theorem make_texts (m : Nat) (hm : m ≤ 8796093022208) (u : World) : (Instr.makeSlice 24 (.int .i64 (m : Int)) (.int .i64 (m : Int))).run Try.prog u = .ok (.slice (some ⟨u.heap.size, 0, none⟩) m m) (u.alloc (.cells (List.replicate m (Value.string ⟨#[]⟩)).toArray 9)) := by
  obtain ⟨i, hi, h0, h1, h2⟩ := info_parts (show (Try.prog.info? 9).map (fun i => (i.zero, i.size, i.bytes)) = some (some (.string ⟨#[]⟩), 1, 16) by kernel_rfl)
  have := run_make (P := Try.prog) u 24 9 i (.string ⟨#[]⟩) Try.underlying24 hi h0 .i64 .i64 (m : Int) (m : Int) (by omega) (by omega) (by rw [h2]; omega) (by omega)
  rw [this, h1, Int.toNat_natCast, Nat.mul_one]
  rw [texts_made]

def Ctr.texts (c : Ctr) (s : ByteArray) : List ByteArray := pcTexts s (c.cut s.data.toList)
/-- what Texts returns -/
def TxR (L : List ByteArray) (w : World) (e : Ending) (w' : World) : Prop :=
  ∃ g, w.heap.size ≤ g ∧ e = .returned (.tuple #[.slice (some ⟨g, 0, none⟩) L.length L.length, .int .i64 0]) ∧ w'.heap[g]? = some (.cells (L.map Value.string).toArray 9 (0, 0))

end Go.Proofs.Ytcmlcpejlmlcfaa
