/- Put together of: FilArea FilDecP FilDec FilRead -/
import Derived.Test.YtalklpnekbfehaaGreatFilPB
import Derived.Test.YtalklpnekbfehaaGreatWalA
import Derived.Test.YtalklpnekbfehaaGreatWalB
import Derived.Test.YtalklpnekbfehaaGreatRefAll
import Derived.Test.YtalklpnekbfehaaGreatFilPA
import Derived.Test.YtalklpnekbfehaaGreatGoAll
set_option maxRecDepth 100000
/-
  Files are written into an area; the header is written.
-/
set_option linter.unusedVariables false
set_option maxRecDepth 100000
namespace Go.Proofs.YtalklpnekbfehaaGreat
open Go.RowKit

/-- a place, and an area: a structure's cells lie flat -/
def areaV (p f n : Nat) : Value := .agg #[.pointer (some ⟨p, 0, none⟩), .int .i64 (f : Int), .int .i64 (n : Int)]
namespace Fil
/-- what an area has from its first sector on -/
def atext (r : Row) : Txt := Wal.fill (Oct.le 4 (enc r).length ++ enc r)
theorem atext_length (r : Row) : (atext r).length = Wal.whole (4 + used r) * 64 := by
  rw [atext, Wal.fill_length, List.length_append, Oct.le_length, enc_length]
end Fil

theorem capacity_any (p f n : Nat) (hn : n ≤ 16384) (w : World) :
    Calls Tryz.prog 39 #[areaV p f n] w fun e w' => e = .returned (.int .i64 ((n : Int) * 64 - 4)) ∧ Below w.heap.size w w' := by
  have h1 : wrap64 ((n : Int) * 64) = (n : Int) * 64 := IntWalk.wrap64_in _ ⟨by omega, by omega⟩
  have h2 : wrap64 ((n : Int) * 64 - 4) = (n : Int) * 64 - 4 := IntWalk.wrap64_in _ ⟨by omega, by omega⟩
  have hb : Below w.heap.size w (w.alloc (.cells #[.pointer (some ⟨p, 0, none⟩), .int .i64 (f : Int), .int .i64 (n : Int)] 70)) := (Below.refl _ w).alloc (Nat.le_refl _) _
  unfold areaV
  go_enter Tryz.func39, Tryz.ntmps39
  go_wp2
  go_ret
  exact ⟨rfl, hb⟩

section
variable {S : Nat → Prop} {p : Nat} {d : Dsk.St} {w : World}
theorem awrite_any (h : DiskAt S p d w) {b nn : Nat} {r : Fil.Row} (hm : ContAt b nn r w) (hs : Fil.Sorted r) (hfi : Fil.Fine r) (hsum : Fil.sum r ≤ 1099511627) (f n : Nat) (hf : f ≤ 1099511627) (hops : d.ops ≤ 1099511627) :
    Calls Tryz.prog 99 #[areaV p f n, .map (some b)] w fun e w' => e = .returned (.int .i64 (Dsk.write d (f : Int) (Fil.atext r)).2) ∧ Turns S w w' ∧ ∃ S', (∀ j, S' j → S j ∨ w.heap.size ≤ j) ∧ DiskAt S' p (Dsk.write d (f : Int) (Fil.atext r)).1 w' := by
  have hlt : ∀ k, S k → k < w.heap.size := h.lt
  have hu : Fil.used r ≤ 1099511700 := by unfold Fil.used; omega
  have he := fun u (hu : ContAt b nn r u) => encoded_any hu hs hfi hsum
  have hE1 : (ba (Fil.enc r)).size = Fil.used r := by rw [ba_size, Fil.enc_length]
  have hc := fun u => counted_any (ba (Fil.enc r)) (by rw [hE1]; omega) u
  have hE2 : (ba (Oct.le 4 (ba (Fil.enc r)).size ++ (ba (Fil.enc r)).data.toList)).size = 4 + Fil.used r := by rw [ba_size, List.length_append, Oct.le_length, ba_list, Fil.enc_length]
  have hff := fun u => filled_any (ba (Oct.le 4 (ba (Fil.enc r)).size ++ (ba (Fil.enc r)).data.toList)) (by rw [hE2]; omega) u
  have hE3 : Wal.fill (ba (Oct.le 4 (ba (Fil.enc r)).size ++ (ba (Fil.enc r)).data.toList)).data.toList = Fil.atext r := by
    rw [ba_list, ba_list, ba_size]; rfl
  rw [hE3] at hff
  have hz3 : (ba (Fil.atext r)).size ≤ 1099511800 := by
    rw [ba_size, Fil.atext_length]; have := Wal.whole_hi (4 + Fil.used r); omega
  have hw := fun u (hu : DiskAt S p d u) => write_all hu (f : Int) (show I64 (f : Int) from ⟨by omega, by omega⟩) (ba (Fil.atext r)) (by omega) (by omega)
  have hl3 : (ba (Fil.atext r)).data.toList = Fil.atext r := ba_list _
  rw [← hl3]
  generalize ba (Oct.le 4 (ba (Fil.enc r)).size ++ (ba (Fil.enc r)).data.toList) = E2 at *
  generalize ba (Fil.enc r) = E1 at *
  generalize ba (Fil.atext r) = E3 at *
  have He := Lib.hid he; clear he
  have Hc := Lib.hid hc; clear hc
  have Hf := Lib.hid hff; clear hff
  have Hw := Lib.hid hw; clear hw
  have Hd := Lib.hid h; clear h
  have Hlt := Lib.hid hlt; clear hlt
  clear hE1 hE2 hE3 hz3 hl3 hu hs hfi hsum
  unfold areaV
  go_enter Tryz.func99, Tryz.ntmps99
  go_wp2_with fail
  obtain ⟨w1, hw1⟩ : ∃ w1, w1 = w.alloc (.cells #[.pointer (some ⟨p, 0, none⟩), .int .i64 (f : Int), .int .i64 (n : Int)] 70) := ⟨_, rfl⟩
  obtain ⟨B, hB⟩ : ∃ B, B = w.heap.size := ⟨_, rfl⟩
  have hk1 : Below w.heap.size w w1 := by rw [hw1]; exact (Below.refl _ w).alloc (Nat.le_refl _) _
  have hrow : w1.heap[B]? = some (.cells #[.pointer (some ⟨p, 0, none⟩), .int .i64 (f : Int), .int .i64 (n : Int)] 70 (0, 0)) := by rw [hw1, hB]; exact heap_alloc_new _ _
  have hm1 : ContAt b nn r w1 := hm.new hk1
  have hs1 : w.heap.size ≤ w1.heap.size := hk1.size
  rw [← hw1, ← hB]
  have K1 := Lib.hid hk1; clear hk1
  have Hrow := Lib.hid hrow; clear hrow
  have Hm1 := Lib.hid hm1; clear hm1
  clear hw1 hm
  refine wp_region_phases [([0, 1, 2, 3, 4, 5, 6], [7, 8, 9, 10, 11])] (by kernel_rfl) (by kernel_rfl) (fun z => z.heap[B]? = some (.cells #[.pointer (some ⟨p, 0, none⟩), .int .i64 (f : Int), .int .i64 (n : Int)] 70 (0, 0))) Hrow.out ?_
  simp only [wpPhases, pick, List.filterMap_cons, List.filterMap_nil, List.getElem?_toArray, List.getElem?_cons_zero, List.getElem?_cons_succ]
  refine take_one (.pointer (some ⟨B, 0, none⟩)) rfl (fun u _ => by go_simp) ?_
  simp only [Act.put, List.setIfInBounds_toArray, List.set_cons_zero, List.set_cons_succ]
  refine take_one (.pointer (some ⟨B, 0, none⟩)) rfl (fun u _ => by go_simp) ?_
  simp only [Act.put, List.setIfInBounds_toArray, List.set_cons_zero, List.set_cons_succ]
  refine take_load 34 (.tmp 6) ⟨B, 0, none⟩ (.pointer (some ⟨p, 0, none⟩)) rfl rfl rfl (fun u hu => load_any Tryz.underlying34 Tryz.isAgg34 (by rw [cell_of_row u _ 0 _ _ _ hu]; rfl)) ?_
  simp only [Act.put, List.setIfInBounds_toArray, List.set_cons_zero, List.set_cons_succ]
  refine take_one (.pointer (some ⟨B, 0, none⟩)) rfl (fun u _ => by go_simp) ?_
  simp only [Act.put, List.setIfInBounds_toArray, List.set_cons_zero, List.set_cons_succ]
  refine take_one (.pointer (some ⟨B, 1, none⟩)) rfl (fun u _ => by go_simp) ?_
  simp only [Act.put, List.setIfInBounds_toArray, List.set_cons_zero, List.set_cons_succ]
  refine take_load 3 (.tmp 9) ⟨B, 1, none⟩ (.int .i64 (f : Int)) rfl rfl rfl (fun u hu => load_any Tryz.underlying3 Tryz.isAgg3 (by rw [cell_of_row u _ 1 _ _ _ hu]; rfl)) ?_
  simp only [Act.put, List.setIfInBounds_toArray, List.set_cons_zero, List.set_cons_succ]
  refine take_move (.tmp 1) (.map (some b)) rfl rfl rfl ?_
  simp only [Act.put, List.setIfInBounds_toArray, List.set_cons_zero, List.set_cons_succ]
  refine take_done ?_
  refine midk_wp rfl (call_wp 134 [.tmp 11] #[74] #[.map (some b)] rfl rfl rfl ?_)
  refine (He.out _ Hm1.out.drew).mono ?_
  rintro e wE ⟨rfl, hE⟩
  have kE := K1.out.drew.trans (hE.mono (by simp; omega))
  have rE : wE.heap[B]? = some (.cells #[.pointer (some ⟨p, 0, none⟩), .int .i64 (f : Int), .int .i64 (n : Int)] 70 (0, 0)) := by rw [hE.block _ (row_lt Hrow.out)]; exact Hrow.out
  refine ⟨_, rfl, rE, ?_⟩
  refine midk_wp rfl (call_wp 133 [.tmp 12] #[9] #[.string E1] rfl rfl rfl ?_)
  refine (Hc.out _).mono ?_
  rintro e wC ⟨rfl, hC⟩
  have kC := kE.trans (hC.mono kE.size)
  have rC : wC.heap[B]? = some (.cells #[.pointer (some ⟨p, 0, none⟩), .int .i64 (f : Int), .int .i64 (n : Int)] 70 (0, 0)) := by rw [hC.block _ (row_lt rE)]; exact rE
  refine ⟨_, rfl, rC, ?_⟩
  refine midk_wp rfl (call_wp 116 [.tmp 13] #[9] #[.string E2] rfl rfl rfl ?_)
  refine (Hf.out _).mono ?_
  rintro e wF ⟨rfl, hF⟩
  have kF := kC.trans (hF.mono kC.size)
  have rF : wF.heap[B]? = some (.cells #[.pointer (some ⟨p, 0, none⟩), .int .i64 (f : Int), .int .i64 (n : Int)] 70 (0, 0)) := by rw [hF.block _ (row_lt rC)]; exact rC
  refine ⟨_, rfl, rF, ?_⟩
  refine midk_wp rfl (call_wp 89 [.tmp 7, .tmp 10, .tmp 14] #[34, 3, 9] #[.pointer (some ⟨p, 0, none⟩), .int .i64 (f : Int), .string E3] rfl rfl rfl ?_)
  refine (Hw.out wF (Hd.out.new kF)).mono ?_
  rintro e wW ⟨rfl, tW, S', lW, dW⟩
  have rW : wW.heap[B]? = some (.cells #[.pointer (some ⟨p, 0, none⟩), .int .i64 (f : Int), .int .i64 (n : Int)] 70 (0, 0)) := tW.same rF (fun e => by have := Hlt.out B e; omega)
  refine ⟨_, rfl, rW, ?_⟩
  refine midk_one (.int .i64 (Dsk.write d (f : Int) E3.data.toList).2) rfl rfl rW ?_
  have tA : Turns S w wW := (Turns.of_new kF S).trans tW (fun _ _ e => e)
  have lA : ∀ j, S' j → S j ∨ w.heap.size ≤ j := fun j e => by
    rcases lW j e with e | e
    · exact .inl e
    · have := kF.size; exact .inr (by omega)
  have TA := Lib.hid tA; clear tA
  have LA := Lib.hid lA; clear lA
  have DA := Lib.hid dW; clear dW
  clear tW lW rW rF rC rE hE hC hF kE kC kF
  refine midk_end ?_
  go_wp2
  go_ret
  exact ⟨rfl, TA.out, S', LA.out, DA.out⟩

theorem mwrite_any (h : DiskAt S p d w) (a q : Nat) (nm : Bool) (ha : a < 256) (hq : q < 18446744073709551616) (hops : d.ops ≤ 1099511627) :
    Calls Tryz.prog 102 #[fmarkV nm a q, .pointer (some ⟨p, 0, none⟩)] w fun e w' => e = .returned (.int .i64 (Dsk.write d 0 (Fil.mark a q)).2) ∧ Turns S w w' ∧ ∃ S', (∀ j, S' j → S j ∨ w.heap.size ≤ j) ∧ DiskAt S' p (Dsk.write d 0 (Fil.mark a q)).1 w' := by
  have ht := fun u => ftext_any a q nm ha hq u
  have hz3 : (ba (Fil.mark a q)).size = 64 := by rw [ba_size, Fil.mark_length]
  have hw := fun u (hu : DiskAt S p d u) => write_all hu 0 (show I64 0 from ⟨by decide, by decide⟩) (ba (Fil.mark a q)) (by omega) (by omega)
  have hl3 : (ba (Fil.mark a q)).data.toList = Fil.mark a q := ba_list _
  rw [← hl3]
  generalize ba (Fil.mark a q) = E3 at *
  have hk1 : Below w.heap.size w (w.alloc (.cells #[.bool nm, .int .i64 (a : Int), .int .u64 (q : Int)] 66)) := (Below.refl _ w).alloc (Nat.le_refl _) _
  have Hk := Lib.hid hk1; clear hk1
  have Ht := Lib.hid ht; clear ht
  have Hw := Lib.hid hw; clear hw
  have Hd := Lib.hid h; clear h
  clear hz3 hl3
  unfold fmarkV
  go_enter Tryz.func102, Tryz.ntmps102
  go_wp2_with fail
  refine (Ht.out _).mono ?_; rintro e w1 ⟨rfl, h1⟩
  have k1 := Hk.out.trans (h1.mono Hk.out.size)
  have K1 := Lib.hid k1; clear k1 h1
  go_wp2_with fail
  refine (Hw.out w1 (Hd.out.new K1.out)).mono ?_; rintro e wW ⟨rfl, tW, S', lW, dW⟩
  have tA : Turns S w wW := (Turns.of_new K1.out S).trans tW (fun _ _ e => e)
  have lA : ∀ j, S' j → S j ∨ w.heap.size ≤ j := fun j e => by
    rcases lW j e with e | e
    · exact .inl e
    · have := K1.out.size; exact .inr (by omega)
  have TA := Lib.hid tA; clear tA
  have LA := Lib.hid lA; clear lA
  have DA := Lib.hid dW; clear dW
  clear tW lW
  go_wp2_with fail
  go_ret
  exact ⟨rfl, TA.out, S', LA.out, DA.out⟩
end
end Go.Proofs.YtalklpnekbfehaaGreat

/-
  What decoded says of a text.
-/
set_option linter.unusedVariables false
set_option maxRecDepth 100000
namespace Go.Proofs.YtalklpnekbfehaaGreat
namespace Fil
theorem before_asymm {a b : Txt} (h : bytesBefore a b = true) : bytesBefore b a = false := by
  cases hb : bytesBefore b a with
  | false => rfl
  | true =>
    have := WideShapes.bytes_trans _ _ _ h hb
    rw [WideAt.bytes_irrefl] at this; cases this
theorem ins_last (x : Txt × Txt) : ∀ a : Row, (∀ y ∈ a, bytesBefore y.1 x.1 = true) → ins x a = a ++ [x]
  | [], _ => rfl
  | y :: r, h => by
    rw [ins, before_asymm (h y (by simp)), if_neg (by decide), ins_last x r (fun z hz => h z (by simp [hz]))]
    rfl
theorem del_none (n : Txt) (a : Row) (h : ∀ y ∈ a, y.1 ≠ n) : del a n = a := by
  unfold del
  rw [List.filter_eq_self]
  intro y hy
  simpa using h y hy
theorem puts_sorted : ∀ (r a : Row), Sorted (a ++ r) → puts a (r.map fun x => ⟨x.1, x.2, false⟩) = a ++ r
  | [], a, _ => by simp [puts]
  | x :: r, a, h => by
    have hp := List.pairwise_append.1 h
    have hx : ∀ y ∈ a, bytesBefore y.1 x.1 = true := fun y hy => hp.2.2 y hy x (by simp)
    have h1 : put1 a ⟨x.1, x.2, false⟩ = a ++ [x] := by
      unfold put1
      rw [if_neg (by simp), del_none x.1 a (fun y hy e => by have := hx y hy; rw [e, WideAt.bytes_irrefl] at this; cases this)]
      exact ins_last x a hx
    have ih := puts_sorted r (a ++ [x]) (by rw [List.append_assoc]; exact h)
    show puts (put1 a _) _ = _
    rw [h1, ih, List.append_assoc]; rfl

def okB (nm d : Txt) : Bool := !(chgB (ba nm) (ba d) false)
theorem okB_may (nm d : Txt) : okB nm d = true ↔ Chg.May ⟨nm, d, false⟩ := by
  unfold okB
  have := chgB_may (ba nm) (ba d) false
  rw [ba_list, ba_list] at this
  rw [Bool.not_eq_true', this]
def decG : Nat → Txt → Txt → Option (Row × Txt)
  | 0, _, s => some ([], s)
  | n + 1, last, s => match cut s with
    | none => none
    | some (nm, s1) => match cut s1 with
      | none => none
      | some (d, s2) => if okB nm d = true ∧ bytesBefore last nm = true then (decG n nm s2).map (fun x => ((nm, d) :: x.1, x.2)) else none
/-- .. where nothing is behind -/
def decF : Option (Row × Txt) → Option Row
  | some (r, []) => some r
  | _ => none
/-- the files whose encoding it is -/
def dec (s : Txt) : Option Row := if s.length < 4 then none else decF (decG (Oct.un (s.take 4)) [] (s.drop 4))
theorem cut_is {s a b : Txt} (h : cut s = some (a, b)) : s = Oct.le 4 a.length ++ a ++ b ∧ a.length < 4294967296 := by
  unfold cut at h
  split at h
  · cases h
  rename_i h4
  split at h
  · cases h
  rename_i h5
  simp only [Option.some.injEq, Prod.mk.injEq] at h
  obtain ⟨rfl, rfl⟩ := h
  have hl : (s.take 4).length = 4 := by rw [List.length_take]; omega
  have hu := Oct.un_lt (s.take 4)
  rw [hl] at hu
  have hlen : ((s.drop 4).take (Oct.un (s.take 4))).length = Oct.un (s.take 4) := by rw [List.length_take, List.length_drop]; omega
  refine ⟨?_, by rw [hlen]; exact hu⟩
  rw [hlen]
  have h1 : Oct.le 4 (Oct.un (s.take 4)) = s.take 4 := by
    have := Oct.le_un (s.take 4)
    rwa [hl] at this
  rw [h1, List.append_assoc, List.take_append_drop, List.take_append_drop]
theorem cut_of {a : Txt} (b : Txt) (h : a.length < 4294967296) : cut (Oct.le 4 a.length ++ a ++ b) = some (a, b) := by
  have hl : (Oct.le 4 a.length).length = 4 := Oct.le_length _ _
  have h1 : (Oct.le 4 a.length ++ a ++ b).take 4 = Oct.le 4 a.length := by rw [List.append_assoc, List.take_left' hl]
  have h2 : (Oct.le 4 a.length ++ a ++ b).drop 4 = a ++ b := by rw [List.append_assoc, List.drop_left' hl]
  have h3 : (Oct.le 4 a.length ++ a ++ b).length = 4 + a.length + b.length := by simp only [List.length_append, hl]
  unfold cut
  rw [h1, h2, h3, Oct.un_le 4 _ h, if_neg (by omega), if_neg (by omega), List.take_left' rfl, List.drop_left' rfl]
theorem decG_good : ∀ (n : Nat) (last s : Txt) (r : Row) (t : Txt), decG n last s = some (r, t) → Sorted r ∧ Fine r ∧ (∀ x ∈ r, bytesBefore last x.1 = true) ∧ s = r.flatMap enc1 ++ t ∧ r.length = n
  | 0, last, s, r, t, h => by
    simp only [decG, Option.some.injEq, Prod.mk.injEq] at h
    obtain ⟨rfl, rfl⟩ := h
    exact ⟨List.Pairwise.nil, (fun x hx => absurd hx (by simp)), (fun x hx => absurd hx (by simp)), rfl, rfl⟩
  | n + 1, last, s, r, t, h => by
    rw [decG] at h
    split at h
    · cases h
    rename_i nm s1 hc1
    split at h
    · cases h
    rename_i d s2 hc2
    split at h
    · rename_i hok
      cases hd : decG n nm s2 with
      | none => rw [hd] at h; cases h
      | some x =>
        rw [hd] at h
        simp only [Option.map_some, Option.some.injEq, Prod.mk.injEq] at h
        obtain ⟨rfl, rfl⟩ := h
        obtain ⟨g1, g2, g3, g4, g5⟩ := decG_good n nm s2 x.1 x.2 hd
        obtain ⟨e1, _⟩ := cut_is hc1
        obtain ⟨e2, _⟩ := cut_is hc2
        have hm := (okB_may nm d).1 hok.1
        refine ⟨List.pairwise_cons.2 ⟨fun y hy => g3 y hy, g1⟩, ?_, ?_, ?_, by rw [List.length_cons, g5]⟩
        · intro y hy
          rcases List.mem_cons.1 hy with rfl | hy
          · exact ⟨hm.lo, hm.hi, hm.data⟩
          · exact g2 y hy
        · intro y hy
          rcases List.mem_cons.1 hy with rfl | hy
          · exact hok.2
          · exact WideShapes.bytes_trans _ _ _ hok.2 (g3 y hy)
        · rw [e1, e2, g4]
          simp only [List.flatMap_cons, enc1, List.append_assoc]
    · cases h
theorem decG_enc : ∀ (r : Row) (last t : Txt), Sorted r → Fine r → (∀ x ∈ r, bytesBefore last x.1 = true) → decG r.length last (r.flatMap enc1 ++ t) = some (r, t)
  | [], last, t, _, _, _ => by simp [decG]
  | x :: r, last, t, hs, hf, hl => by
    have hfx := hf x (by simp)
    have e1 : (x :: r).flatMap enc1 ++ t = Oct.le 4 x.1.length ++ x.1 ++ (Oct.le 4 x.2.length ++ x.2 ++ (r.flatMap enc1 ++ t)) := by
      simp only [List.flatMap_cons, enc1, List.append_assoc]
    have hp := List.pairwise_cons.1 hs
    have ih := decG_enc r x.1 t hp.2 (fun y hy => hf y (by simp [hy])) (fun y hy => hp.1 y hy)
    have hm : okB x.1 x.2 = true := (okB_may _ _).2 ⟨hfx.1, hfx.2.1, hfx.2.2, fun h => by cases h⟩
    rw [List.length_cons, e1, decG, cut_of _ (by omega)]
    simp only []
    rw [cut_of _ (by omega)]
    simp only []
    rw [if_pos ⟨hm, hl x (by simp)⟩, ih]
    rfl
theorem nil_before {a : Txt} (h : 1 ≤ a.length) : bytesBefore [] a = true := by
  cases a with
  | nil => simp at h
  | cons x r => rfl
theorem dec_enc (r : Row) (hs : Sorted r) (hf : Fine r) (hn : r.length < 4294967296) : dec (enc r) = some r := by
  have hl : (Oct.le 4 r.length).length = 4 := Oct.le_length _ _
  have h1 : (enc r).take 4 = Oct.le 4 r.length := by rw [enc, List.take_left' hl]
  have h2 : (enc r).drop 4 = r.flatMap enc1 := by rw [enc, List.drop_left' hl]
  have h3 : ¬ (enc r).length < 4 := by rw [enc, List.length_append, hl]; omega
  unfold dec
  have := decG_enc r [] [] hs hf (fun x hx => nil_before (hf x hx).1)
  rw [List.append_nil] at this
  rw [if_neg h3, h1, h2, Oct.un_le 4 _ hn, this]; rfl
theorem dec_good {s : Txt} {r : Row} (h : dec s = some r) : Sorted r ∧ Fine r ∧ s = enc r := by
  unfold dec at h
  split at h
  · cases h
  rename_i h4
  unfold decF at h
  split at h
  · rename_i r' hd
    cases h
    obtain ⟨g1, g2, _, g4, g5⟩ := decG_good _ _ _ _ _ hd
    refine ⟨g1, g2, ?_⟩
    have hl : (s.take 4).length = 4 := by rw [List.length_take]; omega
    have h1 : Oct.le 4 (Oct.un (s.take 4)) = s.take 4 := by
      have := Oct.le_un (s.take 4)
      rwa [hl] at this
    rw [enc, g5, h1]
    rw [List.append_nil] at g4
    rw [← g4, List.take_append_drop]
  · cases h
end Fil
end Go.Proofs.YtalklpnekbfehaaGreat

/-
  What decoded returns.
-/
set_option linter.unusedVariables false
set_option maxRecDepth 100000
namespace Go.Proofs.YtalklpnekbfehaaGreat
open Go.RowKit

def Chb.cells (x : Chb) : List Value := [.string x.n, .string x.d, .bool x.g]
/-- a row of changes of the call's own -/
def COwn (B : Nat) (v : Value) (l : List Chb) (w : World) : Prop := w.ownsRow B 58 3 v l.length (l.flatMap Chb.cells)
theorem cells_at : ∀ (l : List Chb) (j : Nat) (x : Chb), l[j]? = some x → ∀ i u, x.cells[i]? = some u → (l.flatMap Chb.cells)[j * 3 + i]? = some u
  | y :: l, 0, x, h, i, u, hu => by
    have : y = x := by simpa using h
    subst this
    have hi : i < y.cells.length := (List.getElem?_eq_some_iff.1 hu).1
    rw [List.flatMap_cons, List.getElem?_append_left (by omega)]
    simpa using hu
  | y :: l, j + 1, x, h, i, u, hu => by
    have h' : l[j]? = some x := by simpa using h
    have hl : y.cells.length = 3 := rfl
    rw [List.flatMap_cons, List.getElem?_append_right (by omega), hl, show (j + 1) * 3 + i - 3 = j * 3 + i by omega]
    exact cells_at l j x h' i u hu
theorem COwn.chgs {B : Nat} {v : Value} {l : List Chb} {w : World} (h : COwn B v l w) : ∃ a cap, v = .slice a l.length cap ∧ Chgs a l.length l w ∧ ∀ b off, a = some ⟨b, off, none⟩ → B ≤ b ∧ b < w.heap.size := by
  have hc := fun g hg => World.ownsRow.cells (g := g) h hg
  obtain ⟨h1, h2⟩ := h
  rcases h2 with ⟨rfl, h0⟩ | ⟨g, cap, cur, rfl, hb, hg, hle, hcm, hcs, hct⟩
  · have : l = [] := List.eq_nil_of_length_eq_zero h0
    subst this
    exact ⟨none, 0, rfl, Chgs.nil _ _, fun b off e => by cases e⟩
  · refine ⟨some ⟨g, 0, none⟩, cap, rfl, ⟨rfl, fun j hj => ⟨g, 0, rfl, ?_⟩⟩, fun b off e => by cases e; exact ⟨hb, row_lt hg⟩⟩
    have hx : l[j]? = some (l.getD j default) := by rw [List.getD_eq_getElem?_getD, List.getElem?_eq_getElem hj]; rfl
    have hcell : ∀ i u, (l.getD j default).cells[i]? = some u → w.cell? ⟨g, 0 + j * 3 + i, none⟩ = some u := fun i u hu => by
      have := hc g rfl (j * 3 + i) u (cells_at l j _ hx i u hu)
      have ea : (⟨g, 0, none⟩ : Addr).add (j * 3 + i) = ⟨g, 0 + j * 3 + i, none⟩ := by unfold Addr.add; split <;> simp_all
      rw [ea] at this
      exact this
    exact ⟨hcell 0 _ rfl, hcell 1 _ rfl, hcell 2 _ rfl⟩
theorem chg_info : (Tryz.prog.info? 58).map (fun i => (i.zero, i.size, i.bytes)) = some (some (.agg #[.string ⟨#[]⟩, .string ⟨#[]⟩, .bool false]), 3, 40) := by kernel_rfl

theorem less_before : ∀ (a b : List UInt8), Op.bytesLess a b = bytesBefore a b
  | [], [] => rfl
  | _ :: _, [] => rfl
  | [], _ :: _ => rfl
  | a :: x, b :: y => by simp only [Op.bytesLess, bytesBefore, less_before x y]
theorem cell_row_new (w : World) (cs : List Value) (T : TypeId) (j : Nat) (u : Value) (h : cs[j]? = some u) : (w.alloc (.cells cs.toArray T)).cell? ((⟨w.heap.size, 0, none⟩ : Addr).add j) = some u := by
  have ea : (⟨w.heap.size, 0, none⟩ : Addr).add j = ⟨w.heap.size, j, none⟩ := by unfold Addr.add; split <;> simp_all
  rw [ea, cell_of_row _ _ j _ _ _ (heap_alloc_new _ _)]
  simpa using h
/-- what is decoded -/
def DecR (o : Option Fil.Row) (w : World) (e : Ending) (w' : World) : Prop := Below w.heap.size w w' ∧ match o with
  | none => e = .returned (.tuple #[.map none, .int .i64 50])
  | some r => ∃ b n, w.heap.size ≤ b ∧ n ≤ r.length ∧ e = .returned (.tuple #[.map (some b), .int .i64 0]) ∧ ContAt b n r w'
def chb0 (x : Fil.Txt × Fil.Txt) : Chb := ⟨ba x.1, ba x.2, false⟩

set_option maxHeartbeats 1000000 in
theorem decoded_any (s : ByteArray) (hs : s.size ≤ 1099511627) (w : World) : Calls Tryz.prog 119 #[.string s] w (DecR (Fil.dec s.data.toList) w) := by
  obtain ⟨i0, hi, hz0, hz1, hz2⟩ := info_parts chg_info
  have hL := ba_len s
  unfold Fil.dec
  rw [hL]
  by_cases h4 : s.size < 4
  · rw [if_pos h4]
    have x0 : decide ((s.size : Int) < 4) = true := decide_eq_true (by omega)
    go_enter Tryz.func119, Tryz.ntmps119
    go_wp2
    go_ret2
    exact ⟨Below.refl _ _, rfl⟩
  rw [if_neg h4]
  have x0 : decide ((s.size : Int) < 4) = false := decide_eq_false (by omega)
  have g1 := fun u => octGet_any (s.extract 0 4) u
  have e1 : (s.extract 0 4).data.toList = s.data.toList.take 4 := by
    rw [ByteArray.data_extract, Array.toList_extract, List.extract_eq_take_drop]; simp
  have l1 : (s.data.toList.take 4).length = 4 := by rw [List.length_take, hL]; omega
  rw [e1, show Oct.get (s.data.toList.take 4) = (Oct.un (s.data.toList.take 4), 0) from by unfold Oct.get; rw [if_pos (by omega)]] at g1
  have b1 := Oct.un_lt (s.data.toList.take 4)
  rw [l1] at b1
  have b1' : Oct.un (s.data.toList.take 4) < 4294967296 := b1
  have hr : s.extract 4 s.size = ba (s.data.toList.drop 4) := by
    rw [← ba_of (s.extract 4 s.size), ByteArray.data_extract, Array.toList_extract, List.extract_eq_take_drop, List.take_of_length_le (by rw [List.length_drop, hL]; exact Nat.le_refl _)]
  have hrs : (s.data.toList.drop 4).length = s.size - 4 := by rw [List.length_drop, hL]
  clear e1 l1 b1
  generalize Oct.un (s.data.toList.take 4) = n at *
  generalize s.data.toList.drop 4 = s0 at *
  have x4 : (4 : Int) ≤ (s.size : Int) := by omega
  have G1 := Lib.hid g1; clear g1
  have Hr := Lib.hid hr; clear hr
  go_enter Tryz.func119, Tryz.ntmps119
  go_wp2_with fail
  refine (G1.out _).mono ?_; rintro e w1 ⟨rfl, rfl⟩
  go_wp2_with fail
  rw [Hr.out]
  have hF : ∃ X, X = Fil.decG n [] s0 := ⟨_, rfl⟩
  obtain ⟨X, hX⟩ := hF
  have HX0 := Lib.hid hX; clear hX
  go_loopw [6, 7, 8, 27] (fun s6 s7 s8 i wr => ∃ (k : Nat) (rest last : Fil.Txt) (acc : Fil.Row), s6 = .string (ba rest) ∧ s8 = .string (ba last) ∧ i = .int .u64 (k : Int) ∧ k ≤ n ∧ rest.length + 8 * acc.length ≤ s.size ∧ acc.length = k ∧ Below w.heap.size w wr ∧ COwn w.heap.size s7 (acc.map chb0) wr ∧
    X = (Fil.decG (n - k) last rest).map (fun x => (acc ++ x.1, x.2))) (fun _ _ _ i _ => n - (intOf i).toNat)
  case atStart =>
    refine ⟨0, s0, [], [], rfl, rfl, rfl, by omega, by simp; omega, rfl, Below.refl _ _, World.ownsRow_nil _ _ _ _, ?_⟩
    rw [HX0.out]; simp
  case round =>
    obtain ⟨k, rest, last, acc, rfl, rfl, rfl, hk, hle, hak, hb, hown, hrel⟩ := hrel
    by_cases hlt : k < n
    · have hx28 : decide ((k : Int) < (n : Int)) = true := decide_eq_true (by omega)
      have hc1 := fun u => cut_any (ba rest) (by rw [ba_size]; omega) u
      rw [ba_list] at hc1
      rw [show n - k = (n - (k + 1)) + 1 by omega, Fil.decG] at hrel
      cases hq1 : Fil.cut rest with
      | none =>
        rw [hq1] at hc1 hrel
        have HX := Lib.hid hrel; clear hrel
        have Hc1 := Lib.hid hc1; clear hc1
        have Hq1 := Lib.hid hq1; clear hq1
        have Hown := Lib.hid hown; clear hown
        go_wp2_with fail
        refine (Hc1.out _).mono ?_; rintro e w2 ⟨rfl, h2⟩
        simp only [cutR]
        go_wp2_with fail
        go_ret2
        refine ⟨hb.trans (h2.mono hb.size), ?_⟩
        rw [← HX0.out, HX.out]; rfl
      | some y =>
        obtain ⟨nm, s1⟩ := y
        rw [hq1] at hc1 hrel
        simp only [] at hrel
        obtain ⟨e1, hl1⟩ := Fil.cut_is hq1
        have hs1 : rest.length = 4 + nm.length + s1.length := by
          have := congrArg List.length e1
          simp only [List.length_append, Oct.le_length] at this
          exact this
        have hc2 := fun u => cut_any (ba s1) (by rw [ba_size]; omega) u
        rw [ba_list] at hc2
        clear e1
        cases hq2 : Fil.cut s1 with
        | none =>
          rw [hq2] at hc2 hrel
          have HX := Lib.hid hrel; clear hrel
          have Hc1 := Lib.hid hc1; clear hc1
          have Hc2 := Lib.hid hc2; clear hc2
          have Hq1 := Lib.hid hq1; clear hq1
          have Hq2 := Lib.hid hq2; clear hq2
          have Hown := Lib.hid hown; clear hown
          go_wp2_with fail
          refine (Hc1.out _).mono ?_; rintro e w2 ⟨rfl, h2⟩
          simp only [cutR]
          go_wp2_with fail
          refine (Hc2.out _).mono ?_; rintro e w3 ⟨rfl, h3⟩
          simp only [cutR]
          go_wp2_with fail
          go_ret2
          refine ⟨hb.trans ((h2.trans (h3.mono h2.size)).mono hb.size), ?_⟩
          rw [← HX0.out, HX.out]; rfl
        | some y =>
          obtain ⟨d, s2⟩ := y
          rw [hq2] at hc2 hrel
          simp only [] at hrel
          obtain ⟨e2, hl2⟩ := Fil.cut_is hq2
          have hs2 : s1.length = 4 + d.length + s2.length := by
            have := congrArg List.length e2
            simp only [List.length_append, Oct.le_length] at this
            exact this
          clear e2
          have hiv := fun u => invalid_any (ba nm) (ba d) false u
          have Hc1 := Lib.hid hc1; clear hc1
          have Hc2 := Lib.hid hc2; clear hc2
          have Hq1 := Lib.hid hq1; clear hq1
          have Hq2 := Lib.hid hq2; clear hq2
          have Hown := Lib.hid hown; clear hown
          have Hiv := Lib.hid hiv; clear hiv
          have HX := Lib.hid hrel; clear hrel
          go_wp2_with fail
          refine (Hc1.out _).mono ?_; rintro e w2 ⟨rfl, h2⟩
          simp only [cutR]
          go_wp2_with fail
          refine (Hc2.out _).mono ?_; rintro e w3 ⟨rfl, h3⟩
          simp only [cutR]
          have hb3 := hb.trans ((h2.trans (h3.mono h2.size)).mono hb.size)
          have Hb3 := Lib.hid hb3; clear hb3
          go_wp2_with fail
          refine (Hiv.out _).mono ?_; rintro e w4 ⟨rfl, h4⟩
          have hrow4 : w4.heap[w3.heap.size]? = some (.cells #[.string (ba nm), .string (ba d), .bool false] 58 (0, 0)) := by
            rw [h4.block _ (by simp)]; exact heap_alloc_new _ _
          have hb4 : Below w3.heap.size w3 w4 := ((Below.refl _ w3).alloc (Nat.le_refl _) _).trans (h4.mono (by simp))
          have d0 : w4.cell? ⟨w3.heap.size, 0, none⟩ = some (.string (ba nm)) := by rw [cell_of_row _ _ 0 _ _ _ hrow4]; rfl
          have d1 : w4.cell? ⟨w3.heap.size, 1, none⟩ = some (.string (ba d)) := by rw [cell_of_row _ _ 1 _ _ _ hrow4]; rfl
          have d2 : w4.cell? ⟨w3.heap.size, 2, none⟩ = some (.bool false) := by rw [cell_of_row _ _ 2 _ _ _ hrow4]; rfl
          have hbr : Below wr.heap.size wr w4 := (h2.trans (h3.mono h2.size)).trans (hb4.mono (Nat.le_trans h2.size h3.size))
          have hbw : Below w.heap.size w w4 := Hb3.out.trans (hb4.mono Hb3.out.size)
          have Hbw := Lib.hid hbw; clear hbw
          clear h4 hrow4
          cases hcb : chgB (ba nm) (ba d) false with
          | true =>
            have hok : ¬ (Fil.okB nm d = true ∧ bytesBefore last nm = true) := fun e => by
              have := e.1; unfold Fil.okB at this; rw [hcb] at this; cases this
            have hX2 := HX.out
            rw [if_neg hok] at hX2
            have HX2 := Lib.hid hX2; clear hX2
            clear hok
            go_wp2_with fail
            go_ret2
            refine ⟨Hbw.out, ?_⟩
            rw [← HX0.out, HX2.out]; rfl
          | false =>
            have hokB : Fil.okB nm d = true := by unfold Fil.okB; rw [hcb]; rfl
            have heq : ((ba nm).toList == (ba last).toList) = (nm == last) := by rw [Lib.toList_data, Lib.toList_data, ba_list, ba_list]
            have hls : Op.bytesLess (ba nm).toList (ba last).toList = bytesBefore nm last := by rw [Lib.toList_data, Lib.toList_data, ba_list, ba_list, less_before]
            by_cases hlb : bytesBefore last nm = true
            · have hX2 := HX.out
              rw [if_pos ⟨hokB, hlb⟩] at hX2
              have HX2 := Lib.hid hX2; clear hX2
              rw [Fil.before_asymm hlb] at hls
              have hne : (nm == last) = false := beq_eq_false_iff_ne.2 (fun e => by rw [e, WideAt.bytes_irrefl] at hlb; cases hlb)
              rw [hne] at heq
              have hown4 : w4.ownsRow w.heap.size 58 3 u7 (acc.map chb0).length ((acc.map chb0).flatMap Chb.cells) := ownsRow_new Hown.out hbr
              have hcl : (acc.map chb0).length = k := by rw [List.length_map, hak]
              clear hlb hokB hcb hne
              go_wp2_with (at_builtin; go_loud (refine wpList_append_own_at _ rfl _ _ 43 rfl w.heap.size 58 i0 (.agg #[.string ⟨#[]⟩, .string ⟨#[]⟩, .bool false]) 3 40 Tryz.underlying43 hi hz0 hz1 hz2 rfl (by decide) _ _ _ rfl (hown4.alloc _) ⟨w4.heap.size, 0, none⟩ 1 1 [.string (ba nm), .string (ba d), .bool false] rfl rfl (cell_row_new w4 [.string (ba nm), .string (ba d), .bool false] 58) ?c2 ?c3 ?c4 ?c5 ?_))
              case c2 => intro z hz; simp at hz; rcases hz with rfl | rfl | rfl <;> rfl
              case c3 => unfold maxLen; omega
              case c4 => omega
              case c5 => have := Hbw.out.size; simp; omega
              intro v' w5 hown5 hgrow _ hvb
              have hb4w := Hbw.out
              have hs4 := hb4w.size
              have hgs := hgrow.size
              have hsA : (w4.alloc (.cells #[.string (ba nm), .string (ba d), .bool false] 58)).heap.size = w4.heap.size + 1 := by simp
              have hb5 : Below w.heap.size w w5 := (hb4w.alloc hs4 _).grown hgrow (by omega) (fun b' h => (World.ownsRow.lt hown4 b' h).1)
              have hown6 : COwn w.heap.size v' ((acc ++ [(nm, d)]).map chb0) w5 := by
                have e1 : ((acc ++ [(nm, d)]).map chb0).length = k + 1 := by rw [List.length_map, List.length_append, hak]; rfl
                have e2 : ((acc ++ [(nm, d)]).map chb0).flatMap Chb.cells = (acc.map chb0).flatMap Chb.cells ++ [.string (ba nm), .string (ba d), .bool false] := by
                  rw [List.map_append, List.flatMap_append]; rfl
                unfold COwn
                rw [e1, e2]
                exact hown5
              have Hb5 := Lib.hid hb5; clear hb5
              have Hown6 := Lib.hid hown6; clear hown6
              clear hown5 hgrow hvb hown4 hsA hgs hbr
              go_wp2_with fail
              go_roundw
              case rel =>
                refine ⟨k + 1, s2, nm, acc ++ [(nm, d)], rfl, rfl, by go_num, by omega, by rw [List.length_append]; simp; omega, by rw [List.length_append, hak]; rfl, Hb5.out, Hown6.out, ?_⟩
                · rw [HX2.out, Option.map_map]
                  congr 1
                  funext x
                  simp
              case measure => simp [intOf]; omega
            · have hX2 := HX.out
              rw [if_neg (fun e => hlb e.2)] at hX2
              have HX2 := Lib.hid hX2; clear hX2
              by_cases hnl : nm = last
              · rw [(show bytesBefore nm last = false by rw [hnl, WideAt.bytes_irrefl])] at hls
                rw [(show (nm == last) = true by rw [hnl, beq_self_eq_true])] at heq
                clear hlb hokB hcb hnl
                go_wp2_with fail
                go_ret2
                refine ⟨Hbw.out, ?_⟩
                rw [← HX0.out, HX2.out]; rfl
              · have hbn : bytesBefore nm last = true := by
                  rcases WideAt.bytes_total nm last hnl with h | h
                  · exact h
                  · exact absurd h hlb
                rw [hbn] at hls
                clear hlb hokB hcb heq
                go_wp2_with fail
                go_ret2
                refine ⟨Hbw.out, ?_⟩
                rw [← HX0.out, HX2.out]; rfl
    · have hkn : k = n := by omega
      have hx28 : decide ((k : Int) < (n : Int)) = false := decide_eq_false (by omega)
      rw [hkn, Nat.sub_self, Fil.decG] at hrel
      simp only [Option.map_some, List.append_nil] at hrel
      by_cases hre : rest = []
      · subst hre
        have HX := Lib.hid hrel; clear hrel
        obtain ⟨a7, c7, rfl, hch, hbl⟩ := hown.chgs
        have Hch := Lib.hid hch; clear hch
        have Hbl := Lib.hid hbl; clear hbl
        clear hown
        have hdG : Fil.decG n [] s0 = some (acc, []) := by rw [← HX0.out, HX.out]
        obtain ⟨gs, gf, _, _, gl⟩ := Fil.decG_good _ _ _ _ _ hdG
        have hok : ∀ x ∈ acc.map chb0, x.Ok := fun x hx => by
          obtain ⟨y, hy, rfl⟩ := List.mem_map.1 hx
          have := gf y hy
          exact ⟨by show (ba y.1).size ≤ _; rw [ba_size]; omega, by show (ba y.2).size ≤ _; rw [ba_size]; omega⟩
        have hput : Fil.puts [] (chs (acc.map chb0)) = acc := by
          have h1 : chs (acc.map chb0) = acc.map fun x => ⟨x.1, x.2, false⟩ := by
            unfold chs; rw [List.map_map]; refine List.map_congr_left fun x _ => ?_; show (chb0 x).c = _; simp [chb0, Chb.c, ba_list]
          rw [h1]
          exact Fil.puts_sorted acc [] gs
        have hlm : (acc.map chb0).length = acc.length := List.length_map ..
        have hbA : Below wr.heap.size wr (wr.alloc (.map #[] 0)) := (Below.refl _ wr).alloc (Nat.le_refl _) _
        have hmA : ContAt wr.heap.size 0 [] (wr.alloc (.map #[] 0)) := World.ownsMap_made (H := Unit) wr Tryz.prog 9 fileElem
        have hap := apply_any wr.heap.size 0 [] _ hmA a7 (acc.map chb0).length c7 (acc.map chb0) (Hch.out.keep hbA) hok (by omega) (by omega)
        rw [hput, Nat.zero_add, hlm] at hap
        rw [hlm] at Hch
        rw [hlm]
        have hsz := hb.size
        have hdF : Fil.decF (Fil.decG n [] s0) = some acc := by rw [hdG]; rfl
        have HdF := Lib.hid hdF; clear hdF
        have Hap := Lib.hid hap; clear hap
        have hmm := @run_makeMap Tryz.prog
        have hb0 : ba ([] : List UInt8) = ⟨#[]⟩ := rfl
        rw [hb0]
        have hlt2 : w.heap.size ≤ wr.heap.size := hsz
        clear hok hput hmA gs gf gl hdG Hch hlm hak hle hrs Hbl
        obtain ⟨m, hm⟩ : ∃ m, m = acc.length := ⟨_, rfl⟩
        rw [← hm] at Hap ⊢
        have Hml := Lib.hid hm; clear hm
        go_wp2_with fail
        refine Hap.out.mono ?_; rintro e w2 ⟨rfl, ht2, hm2⟩
        have hw2 : Below w.heap.size w w2 := (hb.trans (hbA.mono hsz)).trans (ht2.below (by simp; omega) (fun k hk e => by omega))
        have Hw2 := Lib.hid hw2; clear hw2
        have Hm2 := Lib.hid hm2; clear hm2
        clear ht2 hbA hmm
        go_wp2_with fail
        go_ret2
        refine ⟨Hw2.out, ?_⟩
        rw [HdF.out]
        exact ⟨wr.heap.size, m, hsz, Nat.le_of_eq Hml.out, rfl, Hm2.out⟩
      · have hne := ba_empty (ba rest) (by rw [ba_list]; exact hre)
        have hXX : Fil.decF X = none := by
          rw [hrel]
          cases rest with
          | nil => exact absurd rfl hre
          | cons x r => rfl
        have HX := Lib.hid hXX; clear hXX hrel
        have Hown := Lib.hid hown; clear hown
        clear hre
        go_wp2_with fail
        go_ret2
        refine ⟨hb, ?_⟩
        rw [← HX0.out, HX.out]; rfl
end Go.Proofs.YtalklpnekbfehaaGreat

/-
  An area is read.
-/
set_option linter.unusedVariables false
set_option maxRecDepth 100000
namespace Go.Proofs.YtalklpnekbfehaaGreat
open Go.RowKit

namespace Fil
/-- the files that sectors have -/
def aread (s : Txt) : Option Row := match cut s with
  | none => none
  | some (c, _) => dec c
theorem aread_atext (r : Row) (hs : Sorted r) (hf : Fine r) (hn : used r < 4294967296) (t : Txt) : aread (atext r ++ t) = some r := by
  have h1 : (enc r).length = used r := enc_length r
  have h2 : r.length < 4294967296 := by
    have := len_used r
    unfold used at hn
    omega
  unfold aread atext Wal.fill
  rw [List.append_assoc, cut_of _ (by omega)]
  exact dec_enc r hs hf h2
end Fil
/-- what read returns, where the disk's answer is x with the error E -/
structure AreadR (E : Int) (x : List UInt8) (w : World) (e : Ending) (w' : World) : Prop where
  bad : E ≠ 0 → Below w.heap.size w w' ∧ e = .returned (.tuple #[.map none, .int .i64 E])
  good : E = 0 → DecR (Fil.aread x) w e w'

section
variable {S : Nat → Prop} {p : Nat} {d : Dsk.St} {w : World}
set_option maxHeartbeats 600000 in
theorem aread_any (h : DiskAt S p d w) (f n : Nat) (hf : f ≤ 1099511627) (hn : n ≤ 16384) (hsz : (Dsk.read d (f : Int) (n : Int)).1.length ≤ 1099511627) :
    Calls Tryz.prog 70 #[areaV p f n] w (AreadR (Dsk.read d (f : Int) (n : Int)).2 (Dsk.read d (f : Int) (n : Int)).1 w) := by
  have hr := fun u (hu : DiskAt S p d u) => read_all hu (f : Int) (n : Int) ⟨by omega, by omega⟩ ⟨by omega, by omega⟩
  generalize (Dsk.read d (f : Int) (n : Int)).1 = x at *
  generalize (Dsk.read d (f : Int) (n : Int)).2 = E at *
  have hr2 : ∀ u (hu : DiskAt S p d u), Calls Tryz.prog 66 #[.pointer (some ⟨p, 0, none⟩), .int .i64 (f : Int), .int .i64 (n : Int)] u fun e w' => e = .returned (.tuple #[.string (ba x), .int .i64 E]) ∧ Below u.heap.size u w' := hr
  have hk : Below w.heap.size w (w.alloc (.cells #[.pointer (some ⟨p, 0, none⟩), .int .i64 (f : Int), .int .i64 (n : Int)] 70)) := (Below.refl _ w).alloc (Nat.le_refl _) _
  have hr3 := hr2 _ (h.new hk)
  have Hr := Lib.hid hr3; clear hr hr2 hr3
  have Hk := Lib.hid hk; clear hk
  clear h
  unfold areaV
  by_cases hE : E = 0
  · subst hE
    have hc := fun u => cut_any (ba x) (by rw [ba_size]; omega) u
    rw [ba_list] at hc
    cases hq : Fil.cut x with
    | none =>
      rw [hq] at hc
      have hA : Fil.aread x = none := by unfold Fil.aread; rw [hq]
      have Hc := Lib.hid hc; clear hc
      have HA := Lib.hid hA; clear hA
      clear hq
      go_enter Tryz.func70, Tryz.ntmps70
      go_wp2_with fail
      refine Hr.out.mono ?_; rintro e w1 ⟨rfl, h1⟩
      go_wp2_with fail
      refine (Hc.out _).mono ?_; rintro e w2 ⟨rfl, h2⟩
      simp only [cutR]
      go_wp2_with fail
      go_ret2
      refine ⟨fun e => absurd rfl e, fun _ => ⟨(Hk.out.trans (h1.mono Hk.out.size)).trans (h2.mono (Nat.le_trans Hk.out.size h1.size)), ?_⟩⟩
      rw [HA.out]; rfl
    | some y =>
      obtain ⟨c, t⟩ := y
      rw [hq] at hc
      have hA : Fil.aread x = Fil.dec c := by unfold Fil.aread; rw [hq]
      obtain ⟨e1, _⟩ := Fil.cut_is hq
      have hcl : c.length ≤ 1099511627 := by
        have := congrArg List.length e1
        simp only [List.length_append] at this
        omega
      have hd := fun u => decoded_any (ba c) (by rw [ba_size]; exact hcl) u
      rw [ba_list] at hd
      have Hd := Lib.hid hd; clear hd
      have Hc := Lib.hid hc; clear hc
      have HA := Lib.hid hA; clear hA
      clear hq e1 hcl
      go_enter Tryz.func70, Tryz.ntmps70
      go_wp2_with fail
      refine Hr.out.mono ?_; rintro e w1 ⟨rfl, h1⟩
      go_wp2_with fail
      refine (Hc.out _).mono ?_; rintro e w2 ⟨rfl, h2⟩
      simp only [cutR]
      go_wp2_with fail
      have hb2 : Below w.heap.size w w2 := (Hk.out.trans (h1.mono Hk.out.size)).trans (h2.mono (Nat.le_trans Hk.out.size h1.size))
      have Hb2 := Lib.hid hb2; clear hb2
      clear h1 h2
      refine (Hd.out _).mono ?_; rintro e w3 ⟨h3, hres⟩
      cases hdc : Fil.dec c with
      | none =>
        rw [hdc] at hres
        simp only [] at hres
        subst hres
        have HA2 : Hid (Fil.aread x = none) := Lib.hid (by rw [HA.out, hdc])
        clear hdc
        go_wp2_with fail
        go_ret2
        refine ⟨fun e => absurd rfl e, fun _ => ⟨Hb2.out.trans (h3.mono Hb2.out.size), ?_⟩⟩
        rw [HA2.out]; rfl
      | some r =>
        rw [hdc] at hres
        simp only [] at hres
        obtain ⟨b, nn, hb, hnn, rfl, hm⟩ := hres
        have HA2 : Hid (Fil.aread x = some r) := Lib.hid (by rw [HA.out, hdc])
        have Hm := Lib.hid hm; clear hm
        have Hnn := Lib.hid hnn; clear hnn
        clear hdc
        go_wp2_with fail
        go_ret2
        refine ⟨fun e => absurd rfl e, fun _ => ⟨Hb2.out.trans (h3.mono Hb2.out.size), ?_⟩⟩
        rw [HA2.out]
        exact ⟨b, nn, Nat.le_trans Hb2.out.size hb, Hnn.out, rfl, Hm.out⟩
  · have hx : (E != 0) = true := by rw [bne_iff_ne]; exact hE
    have HE := Lib.hid hE; clear hE
    go_enter Tryz.func70, Tryz.ntmps70
    go_wp2_with fail
    refine Hr.out.mono ?_; rintro e w1 ⟨rfl, h1⟩
    go_wp2_with fail
    go_ret2
    exact ⟨fun _ => ⟨Hk.out.trans (h1.mono Hk.out.size), rfl⟩, fun e => absurd e HE.out⟩
end
end Go.Proofs.YtalklpnekbfehaaGreat
