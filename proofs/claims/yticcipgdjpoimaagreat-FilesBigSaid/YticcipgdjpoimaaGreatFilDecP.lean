/-
  What decoded says of a text.
-/
import Derived.Test.YticcipgdjpoimaaGreatFilArea
import Derived.Test.YticcipgdjpoimaaGreatFilApply
import Derived.Test.YticcipgdjpoimaaGreatGoAll
set_option linter.unusedVariables false
set_option maxRecDepth 100000
namespace Go.Proofs.YticcipgdjpoimaaGreat
namespace Fil
theorem before_asymm {a b : Txt} (h : bytesBefore a b = true) : bytesBefore b a = false := by
  cases hb : bytesBefore b a with
  | false => rfl
  | true =>
    have := WideShapes.bytes_trans _ _ _ h hb
    rw [WideAt.bytes_irrefl] at this; cases this
theorem ins_last (x : Txt × Txt) : ∀ a : Row, (∀ y ∈ a, bytesBefore y.1 x.1 = true) → ins x a = a ++ [x]
  | [], _ => rfl
  | y :: r, h => by
    rw [ins, before_asymm (h y (by simp)), if_neg (by decide), ins_last x r (fun z hz => h z (by simp [hz]))]
    rfl
theorem del_none (n : Txt) (a : Row) (h : ∀ y ∈ a, y.1 ≠ n) : del a n = a := by
  unfold del
  rw [List.filter_eq_self]
  intro y hy
  simpa using h y hy
theorem puts_sorted : ∀ (r a : Row), Sorted (a ++ r) → puts a (r.map fun x => ⟨x.1, x.2, false⟩) = a ++ r
  | [], a, _ => by simp [puts]
  | x :: r, a, h => by
    have hp := List.pairwise_append.1 h
    have hx : ∀ y ∈ a, bytesBefore y.1 x.1 = true := fun y hy => hp.2.2 y hy x (by simp)
    have h1 : put1 a ⟨x.1, x.2, false⟩ = a ++ [x] := by
      unfold put1
      rw [if_neg (by simp), del_none x.1 a (fun y hy e => by have := hx y hy; rw [e, WideAt.bytes_irrefl] at this; cases this)]
      exact ins_last x a hx
    have ih := puts_sorted r (a ++ [x]) (by rw [List.append_assoc]; exact h)
    show puts (put1 a _) _ = _
    rw [h1, ih, List.append_assoc]; rfl

def okB (nm d : Txt) : Bool := !(chgB (ba nm) (ba d) false)
theorem okB_may (nm d : Txt) : okB nm d = true ↔ Chg.May ⟨nm, d, false⟩ := by
  unfold okB
  have := chgB_may (ba nm) (ba d) false
  rw [ba_list, ba_list] at this
  rw [Bool.not_eq_true', this]
def decG : Nat → Txt → Txt → Option (Row × Txt)
  | 0, _, s => some ([], s)
  | n + 1, last, s => match cut s with
    | none => none
    | some (nm, s1) => match cut s1 with
      | none => none
      | some (d, s2) => if okB nm d = true ∧ bytesBefore last nm = true then (decG n nm s2).map (fun x => ((nm, d) :: x.1, x.2)) else none
/-- .. where nothing is behind -/
def decF : Option (Row × Txt) → Option Row
  | some (r, []) => some r
  | _ => none
/-- the files whose encoding it is -/
def dec (s : Txt) : Option Row := if s.length < 4 then none else decF (decG (Oct.un (s.take 4)) [] (s.drop 4))
theorem cut_is {s a b : Txt} (h : cut s = some (a, b)) : s = Oct.le 4 a.length ++ a ++ b ∧ a.length < 4294967296 := by
  unfold cut at h
  split at h
  · cases h
  rename_i h4
  split at h
  · cases h
  rename_i h5
  simp only [Option.some.injEq, Prod.mk.injEq] at h
  obtain ⟨rfl, rfl⟩ := h
  have hl : (s.take 4).length = 4 := by rw [List.length_take]; omega
  have hu := Oct.un_lt (s.take 4)
  rw [hl] at hu
  have hlen : ((s.drop 4).take (Oct.un (s.take 4))).length = Oct.un (s.take 4) := by rw [List.length_take, List.length_drop]; omega
  refine ⟨?_, by rw [hlen]; exact hu⟩
  rw [hlen]
  have h1 : Oct.le 4 (Oct.un (s.take 4)) = s.take 4 := by
    have := Oct.le_un (s.take 4)
    rwa [hl] at this
  rw [h1, List.append_assoc, List.take_append_drop, List.take_append_drop]
theorem cut_of {a : Txt} (b : Txt) (h : a.length < 4294967296) : cut (Oct.le 4 a.length ++ a ++ b) = some (a, b) := by
  have hl : (Oct.le 4 a.length).length = 4 := Oct.le_length _ _
  have h1 : (Oct.le 4 a.length ++ a ++ b).take 4 = Oct.le 4 a.length := by rw [List.append_assoc, List.take_left' hl]
  have h2 : (Oct.le 4 a.length ++ a ++ b).drop 4 = a ++ b := by rw [List.append_assoc, List.drop_left' hl]
  have h3 : (Oct.le 4 a.length ++ a ++ b).length = 4 + a.length + b.length := by simp only [List.length_append, hl]
  unfold cut
  rw [h1, h2, h3, Oct.un_le 4 _ h, if_neg (by omega), if_neg (by omega), List.take_left' rfl, List.drop_left' rfl]
theorem decG_good : ∀ (n : Nat) (last s : Txt) (r : Row) (t : Txt), decG n last s = some (r, t) → Sorted r ∧ Fine r ∧ (∀ x ∈ r, bytesBefore last x.1 = true) ∧ s = r.flatMap enc1 ++ t ∧ r.length = n
  | 0, last, s, r, t, h => by
    simp only [decG, Option.some.injEq, Prod.mk.injEq] at h
    obtain ⟨rfl, rfl⟩ := h
    exact ⟨List.Pairwise.nil, (fun x hx => absurd hx (by simp)), (fun x hx => absurd hx (by simp)), rfl, rfl⟩
  | n + 1, last, s, r, t, h => by
    rw [decG] at h
    split at h
    · cases h
    rename_i nm s1 hc1
    split at h
    · cases h
    rename_i d s2 hc2
    split at h
    · rename_i hok
      cases hd : decG n nm s2 with
      | none => rw [hd] at h; cases h
      | some x =>
        rw [hd] at h
        simp only [Option.map_some, Option.some.injEq, Prod.mk.injEq] at h
        obtain ⟨rfl, rfl⟩ := h
        obtain ⟨g1, g2, g3, g4, g5⟩ := decG_good n nm s2 x.1 x.2 hd
        obtain ⟨e1, _⟩ := cut_is hc1
        obtain ⟨e2, _⟩ := cut_is hc2
        have hm := (okB_may nm d).1 hok.1
        refine ⟨List.pairwise_cons.2 ⟨fun y hy => g3 y hy, g1⟩, ?_, ?_, ?_, by rw [List.length_cons, g5]⟩
        · intro y hy
          rcases List.mem_cons.1 hy with rfl | hy
          · exact ⟨hm.lo, hm.hi, hm.data⟩
          · exact g2 y hy
        · intro y hy
          rcases List.mem_cons.1 hy with rfl | hy
          · exact hok.2
          · exact WideShapes.bytes_trans _ _ _ hok.2 (g3 y hy)
        · rw [e1, e2, g4]
          simp only [List.flatMap_cons, enc1, List.append_assoc]
    · cases h
theorem decG_enc : ∀ (r : Row) (last t : Txt), Sorted r → Fine r → (∀ x ∈ r, bytesBefore last x.1 = true) → decG r.length last (r.flatMap enc1 ++ t) = some (r, t)
  | [], last, t, _, _, _ => by simp [decG]
  | x :: r, last, t, hs, hf, hl => by
    have hfx := hf x (by simp)
    have e1 : (x :: r).flatMap enc1 ++ t = Oct.le 4 x.1.length ++ x.1 ++ (Oct.le 4 x.2.length ++ x.2 ++ (r.flatMap enc1 ++ t)) := by
      simp only [List.flatMap_cons, enc1, List.append_assoc]
    have hp := List.pairwise_cons.1 hs
    have ih := decG_enc r x.1 t hp.2 (fun y hy => hf y (by simp [hy])) (fun y hy => hp.1 y hy)
    have hm : okB x.1 x.2 = true := (okB_may _ _).2 ⟨hfx.1, hfx.2.1, hfx.2.2, fun h => by cases h⟩
    rw [List.length_cons, e1, decG, cut_of _ (by omega)]
    simp only []
    rw [cut_of _ (by omega)]
    simp only []
    rw [if_pos ⟨hm, hl x (by simp)⟩, ih]
    rfl
theorem nil_before {a : Txt} (h : 1 ≤ a.length) : bytesBefore [] a = true := by
  cases a with
  | nil => simp at h
  | cons x r => rfl
theorem dec_enc (r : Row) (hs : Sorted r) (hf : Fine r) (hn : r.length < 4294967296) : dec (enc r) = some r := by
  have hl : (Oct.le 4 r.length).length = 4 := Oct.le_length _ _
  have h1 : (enc r).take 4 = Oct.le 4 r.length := by rw [enc, List.take_left' hl]
  have h2 : (enc r).drop 4 = r.flatMap enc1 := by rw [enc, List.drop_left' hl]
  have h3 : ¬ (enc r).length < 4 := by rw [enc, List.length_append, hl]; omega
  unfold dec
  have := decG_enc r [] [] hs hf (fun x hx => nil_before (hf x hx).1)
  rw [List.append_nil] at this
  rw [if_neg h3, h1, h2, Oct.un_le 4 _ hn, this]; rfl
theorem dec_good {s : Txt} {r : Row} (h : dec s = some r) : Sorted r ∧ Fine r ∧ s = enc r := by
  unfold dec at h
  split at h
  · cases h
  rename_i h4
  unfold decF at h
  split at h
  · rename_i r' hd
    cases h
    obtain ⟨g1, g2, _, g4, g5⟩ := decG_good _ _ _ _ _ hd
    refine ⟨g1, g2, ?_⟩
    have hl : (s.take 4).length = 4 := by rw [List.length_take]; omega
    have h1 : Oct.le 4 (Oct.un (s.take 4)) = s.take 4 := by
      have := Oct.le_un (s.take 4)
      rwa [hl] at this
    rw [enc, g5, h1]
    rw [List.append_nil] at g4
    rw [← g4, List.take_append_drop]
  · cases h
end Fil
end Go.Proofs.YticcipgdjpoimaaGreat
