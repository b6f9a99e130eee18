/-
  As GoRange, the body turning maps that lay there ahead of it: a range over a function whose body always goes on, where the iterator writes memory of its own between two rounds:
  the caller says what holds where yield is called (Jin), where the body begins (Jmid), where it has ended (Jout), and behind the iterator (Jend).
-/
import Derived.Test.YtjlkppdailkanaaGoRange
import Derived.RangeFuncNested
import Derived.RangeFuncBound
import Derived.RangeFuncCalls
import Derived.RangeFuncLeaves
set_option linter.unusedVariables false
namespace Go.Proofs.Ytjlkppdailkanaa
open Go.RowKit

/-- whatever is no cells, of the blocks from B on, lies as it lay -/
def KeepsFrom (B : Nat) (A A' : World) : Prop := ∀ (k : Nat) (o : Obj), B ≤ k → A.heap[k]? = some o → o.isCells = false → A'.heap[k]? = some o
theorem KeepsFrom.refl (B : Nat) (A : World) : KeepsFrom B A A := fun _ _ _ h _ => h
theorem KeepsFrom.trans {B : Nat} {a b c : World} (h : KeepsFrom B a b) (k : KeepsFrom B b c) : KeepsFrom B a c := fun j o hj ho hc => k j o hj (h j o hj ho hc) hc
theorem KeepsFrom.alloc (B : Nat) (A : World) (o' : Obj) : KeepsFrom B A (A.alloc o') := fun k o _ h _ => by rw [Below.heap_alloc A o' k (Array.getElem?_eq_some_iff.1 h).1]; exact h
theorem KeepsFrom.of_grown {B : Nat} {A A' : World} {row : Option Nat} (h : A.grownBy A' row) (hr : ∀ b, row = some b → B ≤ b → ∀ o, A.heap[b]? = some o → o.isCells = true) : KeepsFrom B A A' := fun k o hk ho hc => by
  by_cases e : some k = row
  · have := hr k e.symm hk o ho
    rw [hc] at this; cases this
  · rw [h.block k (Array.getElem?_eq_some_iff.1 ho).1 e]; exact ho
theorem KeepsFrom.of_below {B : Nat} {A A' : World} (h : Below A.heap.size A A') : KeepsFrom B A A' := fun k o hk ho hc => by
  rw [h.block k (Array.getElem?_eq_some_iff.1 ho).1]; exact ho

/-- the body has come to its end, and has let lie whatever is no cells -/
def endsFrom (B : Nat) (R : World → Prop) (W : World) : Exit → Act → World → Prop
  | .normal, _, W' => KeepsFrom B W W' ∧ R W'
  | _, _, _ => False

variable {F : Fence} {n : Nat} {P : Program}

theorem rangeFunc_from {α : Type} {g : Operand} {ps : Array Tmp} {assign body : Code} {Q : Exit → Act → World → Prop} {a : Act} {w : World}
    (hro : F.round = none) (h1 : 1 ≤ n) {gf : Nat} {lb : Array Value} (hg : a.eval g = .func (.func gf) #[] lb) (hFg : F.fn gf) (eg : ∀ args w, (callFunc gf args).run P w = .ok (.enter gf args) w)
    (encs : α → Array Value) (hps : ∀ x, (encs x).size = ps.size) (J0 Jend : World → Prop) (Jin Jout : α → World → Prop) (Jmid : α → Act → World → Prop)
    (sEnd : Stays w.heap.size Jend) (sOut : ∀ x, Stays w.heap.size (Jout x)) (sMid : ∀ x a₁, Stays w.heap.size (Jmid x a₁)) (h0 : ∀ o o' : Obj, J0 ((w.alloc o).alloc o'))
    (hiter : ∀ (l : Nat) (Book : World → Prop) (W1 : World), (∀ A B, KeepsFrom w.heap.size A B → Book A → Book B) → w.heap.size ≤ l → Book W1 → J0 W1 →
      (∀ x W, Book W → Jin x W → YieldAt F (n - 1 - 1) P l (encs x) W fun e W' => e = .returned (.bool true) ∧ Book W' ∧ Jout x W') →
      CallsIn F (n - 1) P gf (#[.func (.yield l) #[] #[]] ++ lb) W1 fun e W' => (∃ v, e = .returned v) ∧ Book W' ∧ Jend W')
    (hassign : ∀ (l : Nat) (x : α) (W : World) (K : Act → World → Prop), w.heap.size ≤ l → Jin x W → (∀ a₁ W₁, KeepsFrom w.heap.size W W₁ → Jmid x a₁ W₁ → K a₁ W₁) →
      assign.wpIn (F.inRound l) (n - 1 - 1) P (Exit.then K (fun _ _ _ => False)) { tmps := (ps.zip (encs x)).foldl (fun t (p, v) => t.setIfInBounds p v) a.tmps, defers := [] } W)
    (hbody : ∀ (l : Nat) (x : α) (a₁ : Act) (W : World), w.heap.size ≤ l → Jmid x a₁ W → body.wpIn (F.inRound l) (n - 1 - 1) P (endsFrom w.heap.size (Jout x) W) a₁ W)
    (hdone : ∀ (D : Nat) (W : World), w.heap.size ≤ D → Jend W → W.heap[D]? = some (.deferred (some [])) → Q .normal { a with defers := { target := .collected D, args := #[] } :: a.defers } W) :
    (Code.rangeFunc g ps assign body).wpIn F n P Q a w := by
  refine wpIn_rangeFunc fun fn hfn => ?_
  rw [hro]
  obtain ⟨D, hD⟩ : ∃ D, D = w.heap.size := ⟨_, rfl⟩
  let rc : LoopState → Loop := fun st => { state := st, pending := none, fn, tmps := a.tmps, params := ps, assign, body, defers := D }
  let W1 := (w.alloc (.deferred (some []))).alloc (.loop (rc .ready))
  let Book : World → Prop := fun W => W.heap[D + 1]? = some (.loop (rc .ready)) ∧ W.heap[D]? = some (.deferred (some []))
  have hbook : Book W1 := by
    refine ⟨?_, ?_⟩
    · have := World.alloc_heap_new (w.alloc (.deferred (some []))) (.loop (rc .ready))
      rw [World.size_alloc, ← hD] at this
      exact this
    · show ((w.alloc (.deferred (some []))).alloc (.loop (rc .ready))).heap[D]? = _
      rw [Below.heap_alloc _ _ _ (by simp [hD]), hD]
      exact World.alloc_heap_new w _
  refine ⟨D + 1, [{ target := .collected D, args := #[] }], W1, { target := .fn (.func gf) lb, args := #[.func (.yield (D + 1)) #[] #[]] }, W1, gf,
    #[.func (.yield (D + 1)) #[] #[]] ++ lb, W1, ?_, ?_, ?_, ?_, fun _ => h1, ?_⟩
  · rw [hD]
    have := run_enterLoop_outer (P := P) (w := w) fn a.tmps ps assign body
    rw [← hD] at this ⊢
    exact this
  · simp only [resolve, hg]
    simp [go_sem]
  · intro f' hf'
    simp [Target.leads] at hf'
    subst hf'
    exact hFg
  · simp [invoke, go_sem, eg]
  · refine (hiter (D + 1) Book W1 (fun A B hk hb => ⟨hk _ _ (by omega) hb.1 rfl, hk _ _ (by omega) hb.2 rfl⟩) (by omega) hbook (h0 _ _) ?_).mono ?_
    · rintro x W ⟨hl, hk⟩ hin
      have hlt : D + 1 < W.heap.size := (Array.getElem?_eq_some_iff.1 hl).1
      refine ⟨fn, _, assign, body, run_yield (P := P) (args := encs x) hl (hps x), roundIn_of_wpIn hfn (hassign _ x W _ (by omega) hin fun a₁ W₁ hk1 hm1 => ?_)⟩
      have hl1 := hk1 _ _ (by omega) hl rfl
      have hk1' := hk1 _ _ (by omega) hk rfl
      have hlt1 : D + 1 < W₁.heap.size := (Array.getElem?_eq_some_iff.1 hl1).1
      refine ⟨_, run_beginRound hl1 rfl, wpIn_mono (hbody _ x a₁ _ (by omega) (sMid x a₁ _ _ _ _ (by omega) hl1 rfl hm1)) ?_⟩
      rintro e a3 W3 hp
      cases e with
      | normal =>
        obtain ⟨hk3, hj3⟩ := hp
        have hb2 : (W₁.putObj (D + 1) (.loop (rc .busy))).heap[D + 1]? = some (.loop (rc .busy)) := World.putObj_heap_same hlt1
        have hd2 : (W₁.putObj (D + 1) (.loop (rc .busy))).heap[D]? = some (.deferred (some [])) := (World.putObj_heap_other (by omega)).trans hk1'
        have hl3 := hk3 _ _ (by omega) hb2 rfl
        have hd3 := hk3 _ _ (by omega) hd2 rfl
        have hr := run_endRound (P := P) none hl3
        refine ⟨_, _, hr, rfl, ⟨World.putObj_heap_same (Array.getElem?_eq_some_iff.1 hl3).1, (World.putObj_heap_other (by omega)).trans hd3⟩, sOut x _ _ _ _ (by omega) hl3 rfl hj3⟩
      | ret => exact hp.elim
      | exit id => exact hp.elim
      | goto t => exact hp.elim
      | panic ch => exact hp.elim
      | outgrown => exact hp.elim
    · rintro e W2 ⟨⟨v, rfl⟩, ⟨hl, hk⟩, hj⟩
      exact ⟨none, _, run_endLoop (P := P) hl (by simp [rc]), hdone D _ (by omega) (sEnd _ _ _ _ (by omega) hl rfl hj) ((World.putObj_heap_other (by omega)).trans hk)⟩
end Go.Proofs.Ytjlkppdailkanaa
