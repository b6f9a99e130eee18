/-
  readGroups: the changes of groups, one behind the other.
-/
import Derived.Test.YticcipgdjpoimaaGreatFilChunk
import Derived.Test.YticcipgdjpoimaaGreatFilChg
import Derived.Test.YticcipgdjpoimaaGreatFilDec
import Derived.Test.YticcipgdjpoimaaGreatWalGroups
import Derived.Maps.OwnIn
set_option linter.unusedVariables false
set_option maxRecDepth 100000
namespace Go.Proofs.YticcipgdjpoimaaGreat
open Go.RowKit
attribute [local go_sem] Oper.semAt_some
namespace Fil
/-- the k-th two of a row -/
def two (l : List ByteArray) (k : Nat) : List ByteArray := (l.drop (2 * k)).take 2
/-- the changes of the first k twos -/
def rgN (l : List ByteArray) : Nat → Option (List Chb)
  | 0 => some []
  | k + 1 => (rgN l k).bind fun xs => (rchg (two l k)).map fun x => xs ++ [x]
def rgrp (l : List ByteArray) : Option (List Chb) := rgN l ((l.length + 1) / 2)
/-- the changes of the first k groups -/
def rgsN (L : List (List ByteArray)) : Nat → Option (List Chb)
  | 0 => some []
  | k + 1 => (rgsN L k).bind fun xs => (rgrp (L.getD k [])).map fun ys => xs ++ ys
def rgs (L : List (List ByteArray)) : Option (List Chb) := rgsN L L.length
theorem rgN_none {l : List ByteArray} : ∀ {j k : Nat}, k ≤ j → rgN l k = none → rgN l j = none
  | 0, k, h, e => by
    obtain rfl : k = 0 := by omega
    exact e
  | j + 1, k, h, e => by
    by_cases hk : k = j + 1
    · subst hk; exact e
    · rw [rgN, rgN_none (j := j) (by omega) e]; rfl
theorem rgsN_none {L : List (List ByteArray)} : ∀ {j k : Nat}, k ≤ j → rgsN L k = none → rgsN L j = none
  | 0, k, h, e => by
    obtain rfl : k = 0 := by omega
    exact e
  | j + 1, k, h, e => by
    by_cases hk : k = j + 1
    · subst hk; exact e
    · rw [rgsN, rgsN_none (j := j) (by omega) e]; rfl
theorem rgN_len {l : List ByteArray} : ∀ {k : Nat} {ys : List Chb}, rgN l k = some ys → ys.length = k
  | 0, ys, h => by cases h; rfl
  | k + 1, ys, h => by
    rw [rgN] at h
    cases e : rgN l k with
    | none => rw [e] at h; cases h
    | some zs =>
      rw [e] at h
      simp only [Option.bind_some] at h
      cases e2 : rchg (two l k) with
      | none => rw [e2] at h; cases h
      | some x =>
        rw [e2] at h
        cases h
        rw [List.length_append, rgN_len e]; rfl
theorem rgsN_len {L : List (List ByteArray)} {M : Nat} (hM : ∀ g ∈ L, g.length ≤ M) : ∀ {k : Nat} {xs : List Chb}, k ≤ L.length → rgsN L k = some xs → xs.length ≤ k * (M + 1)
  | 0, xs, _, h => by cases h; simp
  | k + 1, xs, hk, h => by
    rw [rgsN] at h
    cases e : rgsN L k with
    | none => rw [e] at h; cases h
    | some zs =>
      rw [e] at h
      simp only [Option.bind_some] at h
      cases e2 : rgrp (L.getD k []) with
      | none => rw [e2] at h; cases h
      | some ys =>
        rw [e2] at h
        cases h
        have h1 := rgsN_len hM (by omega) e
        have h2 := rgN_len (show rgN (L.getD k []) (((L.getD k []).length + 1) / 2) = some ys from e2)
        have h3 : (L.getD k []).length ≤ M := by
          rw [List.getD_eq_getElem?_getD, List.getElem?_eq_getElem (by omega)]
          exact hM _ (List.getElem_mem _)
        rw [List.length_append, Nat.add_mul]
        omega
end Fil

/-- a frame on its way out that has marks alone -/
def markOf (D : Nat) : Deferred := { target := .collected D, args := #[] }
theorem leaves_marks {F : Fence} {n : Nat} {P : Program} {fn : Func} {tmps : Array Value} {R : Ending → World → Prop} (v : Value) : ∀ (Ds : List Nat) (w : World), Ds.Nodup → (∀ D ∈ Ds, w.heap[D]? = some (.deferred (some []))) →
    (∀ w' : World, w'.os = w.os → w'.tape = w.tape → w'.output = w.output → w'.heap.size = w.heap.size → (∀ k, k ∉ Ds → w'.heap[k]? = w.heap[k]?) → (results fn tmps).run P w' = .ok v w' ∧ R (.returned v) w') →
    LeavesInM F n P fn tmps R (Ds.map markOf) .returning w
  | [], w, _, _, h => by
    obtain ⟨h1, h2⟩ := h w rfl rfl rfl rfl (fun _ _ => rfl)
    exact ⟨v, h1, h2⟩
  | D :: Ds, w, hn, hd, h => by
    have hD := hd D (by simp)
    have hn' := List.nodup_cons.1 hn
    refine ⟨by simp, .inl ⟨D, _, rfl, run_takeDeferred hD, ?_⟩⟩
    refine leaves_marks v Ds _ hn'.2 (fun D' hD' => ?_) (fun w' h1 h2 h3 h4 h5 => ?_)
    · have hne : D' ≠ D := fun e => hn'.1 (by rw [← e]; exact hD')
      rw [World.putObj_heap_other hne]
      exact hd D' (by simp [hD'])
    · refine h w' h1 h2 h3 (by rw [h4]; exact World.putObj_size ..) (fun k hk => ?_)
      have hk' : k ∉ Ds ∧ k ≠ D := ⟨fun e => hk (by simp [e]), fun e => hk (by simp [e])⟩
      rw [h5 k hk'.1, World.putObj_heap_other hk'.2]

/-- a row with nothing: no twos -/
theorem chunk1_none {a : Option Addr} {cap B1 B2 : Nat} {W1 : World} (c1 : W1.cell? ⟨B1, 0, none⟩ = some (.slice a 0 cap)) (ly : Nat) (R : Ending → World → Prop) (hR : ∀ v, R (.returned v) W1) :
    CallsIn Fence.wide 4 Tryz.prog 147 (#[.func (.yield ly) #[] #[]] ++ #[.pointer (some ⟨B1, 0, none⟩), .pointer (some ⟨B2, 0, none⟩)]) W1 R := by
  refine callsIn_of_wp Tryz.func147 rfl trivial ?_ rfl
  simp only [Tryz.ntmps147, List.size_toArray, List.length_cons, List.length_nil, Nat.reduceAdd, Nat.reduceSub, Array.replicate_succ, Array.replicate_zero, List.push_toArray, List.append_toArray, List.nil_append, List.cons_append]
  gi_wp2
  gi_loopw [4] (fun c wr => c = .int .i64 0 ∧ wr = W1) (fun _ _ => 0)
  case atStart => exact ⟨rfl, rfl⟩
  case round =>
    obtain ⟨rfl, rfl⟩ := hrel
    gi_wp2
    go_end0
    exact hR _
end Go.Proofs.YticcipgdjpoimaaGreat
