/-
  Commit's two steps; files with their disk and log.
-/
import Derived.Test.YtalklpnekbfehaaGreatFilCnt
set_option linter.unusedVariables false
set_option maxRecDepth 100000
namespace Go.Proofs.YtalklpnekbfehaaGreat
open Go.RowKit

section
variable {w : World} {T S0 R0 : Nat → Prop} {kept : List (Nat × Obj)} {S R : Nat → Prop} {p q pw bm bn B C D : Nat} {d : Dsk.St} {s : Wal.St} {t : Fil.St} {W W' : World} {o o' : Obj}

/-- the same, begun anew -/
theorem Apn.base (h : Apn w S0 R0 kept S R pw q d s W) (hp : (p, o) ∈ kept) : Apn W (fun j => S j ∨ j = p) R [(p, o)] S R pw q d s W :=
  ⟨h.disk, h.wal, h.apart, fun x hx => by
    simp only [List.mem_singleton] at hx
    subst hx
    exact h.rows _ hp, fun j hj => .inl (.inl hj), fun j hj => .inl hj, Turns.refl _ W⟩
theorem Apn.comp2 {S' R' : Nat → Prop} {d' : Dsk.St} {s' : Wal.St} (h : Apn w T T ((p, o) :: kept) S R pw q d s W) (k : Apn W (fun j => S j ∨ j = p) R [(p, o')] S' R' pw q d' s' W') (hk : ∀ y ∈ kept, y.1 ≠ p) (hT : p < w.heap.size → T p) :
    Apn w T T ((p, o') :: kept) S' R' pw q d' s' W' := by
  have hsz := h.turns.size
  have hlow : ∀ y ∈ kept, W.heap[y.1]? = some y.2 ∧ ¬ S y.1 ∧ ¬ R y.1 := fun y hy => h.rows y (List.mem_cons_of_mem _ hy)
  have hp : ∀ j, j = p → T j ∨ w.heap.size ≤ j := fun j e => by
    subst e
    by_cases hc : j < w.heap.size
    · exact .inl (hT hc)
    · exact .inr (by omega)
  refine ⟨k.disk, k.wal, k.apart, fun x hx => ?_, fun j hj => ?_, fun j hj => ?_, h.turns.trans k.turns (fun j hj e => ?_)⟩
  · rcases List.mem_cons.1 hx with rfl | hx
    · exact k.rows _ (by simp)
    · obtain ⟨h1, h2, h3⟩ := hlow x hx
      have hlt := row_lt h1
      refine ⟨k.turns.same h1 (fun e => ?_), fun e => ?_, fun e => ?_⟩
      · rcases e with (e | e) | e
        · exact h2 e
        · exact hk x hx e
        · exact h3 e
      · rcases k.loS _ e with (e | e) | e
        · exact h2 e
        · exact hk x hx e
        · omega
      · rcases k.loR _ e with e | e
        · exact h3 e
        · omega
  · rcases k.loS _ hj with (e | e) | e
    · exact h.loS _ e
    · exact hp _ e
    · exact .inr (by omega)
  · rcases k.loR _ hj with e | e
    · exact h.loR _ e
    · exact .inr (by omega)
  · rcases e with (e | e) | e
    · rcases h.loS _ e with e | e
      · exact .inl e
      · exact absurd e (by omega)
    · rcases hp _ e with e | e
      · exact .inl e
      · exact absurd e (by omega)
    · rcases h.loR _ e with e | e
      · exact .inl e
      · exact absurd e (by omega)

def boxCh (a : Option Addr) (len cap : Nat) : Obj := .cells #[.slice a len cap] 43 (0, 0)

theorem com1_any {m : Nat} (h : Apn w T T ((p, objF (fcells t q pw bm)) :: kept) S R pw q d s W) (hk : ∀ y ∈ kept, y.1 ≠ p) (hT : p < w.heap.size → T p) (hta : t.a < 2)
    (a : Option Addr) (len cap : Nat) (l : List Chb) (hl : Chgs a len l W) (hlo : ∀ x ∈ l, x.Ok) (hlen : len ≤ 1099511627)
    (hB : (B, boxF p) ∈ kept) (hC : (C, boxCh a len cap) ∈ kept) (hD : (D, boxC bn) ∈ kept)
    {nn : Nat} {r : Fil.Row} (hmp : ContAt bn nn r W) (hbn : ¬ S bn ∧ ¬ R bn ∧ bn ≠ p) (hs : Fil.Sorted r) (hfi : Fil.Fine r) (hsum : Fil.sum r ≤ 1099511627) (hn : t.n ≤ 16384) (hok : s.Ok m) (hops : d.ops ≤ 999000000) :
    Calls Tryz.prog 34 #[.pointer (some ⟨B, 0, none⟩), .pointer (some ⟨C, 0, none⟩), .pointer (some ⟨D, 0, none⟩)] W fun e W' => e = .returned (.int .i64 (Fil.store d s t (lists (gtexts l)) r).2.2.2) ∧ ∃ S' R', Apn w T T ((p, objF (fcells (Fil.store d s t (lists (gtexts l)) r).2.2.1 q pw bm)) :: kept) S' R' pw q (Fil.store d s t (lists (gtexts l)) r).1 (Fil.store d s t (lists (gtexts l)) r).2.1 W' := by
  have c0 : W.cell? ⟨B, 0, none⟩ = some (.pointer (some ⟨p, 0, none⟩)) := by rw [cell_of_row _ _ 0 _ _ _ (h.row (List.mem_cons_of_mem _ hB))]; rfl
  have c1 : W.cell? ⟨C, 0, none⟩ = some (.slice a len cap) := by rw [cell_of_row _ _ 0 _ _ _ (h.row (List.mem_cons_of_mem _ hC))]; rfl
  have c2 : W.cell? ⟨D, 0, none⟩ = some (.map (some bn)) := by rw [cell_of_row _ _ 0 _ _ _ (h.row (List.mem_cons_of_mem _ hD))]; rfl
  have hst := store_any (h.base (o := objF (fcells t q pw bm)) (p := p) (by simp)) (fun _ => .inl (.inr rfl)) hta hmp hbn hs hfi hsum hn hok hops a len cap l hl hlo hlen
  have Hst := Lib.hid hst; clear hst
  have H := Lib.hid h; clear h
  have Hk := Lib.hid hk; clear hk
  have HT := Lib.hid hT; clear hT
  generalize Fil.store d s t (lists (gtexts l)) r = F at *
  obtain ⟨dF, sF, tF, EF⟩ := F
  clear hl hlo hB hC hD hmp hbn hs hfi hsum hok hops
  go_enter Tryz.func34, Tryz.ntmps34
  go_wp2_with fail
  refine Hst.out.mono ?_; rintro e w1 ⟨rfl, S', R', k⟩
  have h2 := H.out.comp2 k Hk.out HT.out
  have H2 := Lib.hid h2; clear h2 k
  go_wp2_with fail
  go_ret
  exact ⟨rfl, S', R', H2.out⟩

theorem com2_any (h : Apn w T T ((p, objF (fcells t q pw bm)) :: kept) S R pw q d s W) (hk : ∀ y ∈ kept, y.1 ≠ p) (hT : p < w.heap.size → T p)
    (hB : (B, boxF p) ∈ kept) (hD : (D, boxC bn) ∈ kept) :
    Calls Tryz.prog 36 #[.pointer (some ⟨D, 0, none⟩), .pointer (some ⟨B, 0, none⟩)] W fun e W' => e = .returned (.int .i64 0) ∧ Apn w T T ((p, objF (fcells t q pw bn)) :: kept) S R pw q d s W' := by
  have c0 : W.cell? ⟨B, 0, none⟩ = some (.pointer (some ⟨p, 0, none⟩)) := by rw [cell_of_row _ _ 0 _ _ _ (h.row (List.mem_cons_of_mem _ hB))]; rfl
  have c2 : W.cell? ⟨D, 0, none⟩ = some (.map (some bn)) := by rw [cell_of_row _ _ 0 _ _ _ (h.row (List.mem_cons_of_mem _ hD))]; rfl
  have hrp : W.heap[p]? = some (.cells (fcells t q pw bm) 76 (0, 0)) := h.row (o := objF (fcells t q pw bm)) List.mem_cons_self
  have p11 : W.cell? ⟨p, 11, none⟩ = some (.map (some bm)) := by rw [cell_of_row _ _ 11 _ _ _ hrp]; rfl
  have f11 := row_free hrp 11
  have ho : (W.setCell ⟨p, 11, none⟩ (.map (some bn))).heap[p]? = some (objF (fcells t q pw bn)) := heap_setCell_same W p 11 _ _ (.map (some bn)) hrp
  have ht : Turns (fun j => j = p) W (W.setCell ⟨p, 11, none⟩ (.map (some bn))) := (Turns.refl (fun j => j = p) W).set p 11 _ (fun _ => rfl)
  have h2 := h.turnOwn ht ho hk (fun e => .inl (hT e))
  have H2 := Lib.hid h2; clear h2 h ht ho hrp
  clear hk hT hB hD
  go_enter Tryz.func36, Tryz.ntmps36
  go_wp2_with fail
  go_ret
  exact ⟨rfl, H2.out⟩

theorem slice_fn2 (x y : Nat × Array Value) (w : World) : (Instr.buildSlice 111 2 #[(0, fnv x), (1, fnv y)]).run Tryz.prog w = .ok (.slice (some ⟨w.heap.size, 0, none⟩) 2 2) (w.alloc (.cells #[fnv x, fnv y] 33)) := by
  obtain ⟨i, hi, h0, h1, h2⟩ := info_parts fn_info
  have hf := Great.fill_whole (s := 1) (by omega) [fnv x, fnv y] ((Array.range (2 * 1)).map (Value.nilFunc.cells[· % Value.nilFunc.cells.size]!)) (fun v hv => by simp at hv; rcases hv with rfl | rfl <;> rfl) (by simp)
  refine run_buildSlice w 111 33 2 _ #[fnv x, fnv y] i _ fn_u hi h0 (by rw [h1]; decide) (by rw [h1]; decide) ?_
  rw [h1]
  have e : ([fnv x, fnv y].flatMap fun v => v.cells.toList).toArray = #[fnv x, fnv y] := by simp [Value.cells, fnv]
  rw [e] at hf
  exact hf
def comG : Nat → Nat
  | 0 => 34
  | _ => 36
def comL (B C D : Nat) : Nat → Array Value
  | 0 => #[.pointer (some ⟨B, 0, none⟩), .pointer (some ⟨C, 0, none⟩), .pointer (some ⟨D, 0, none⟩)]
  | _ => #[.pointer (some ⟨D, 0, none⟩), .pointer (some ⟨B, 0, none⟩)]
def comObj (B C D : Nat) : Obj := .cells #[fnv (comG 0, comL B C D 0), fnv (comG 1, comL B C D 1)] 33 (0, 0)
theorem com_eg (i : Nat) (args : Array Value) (w : World) : (callFunc (comG i) args).run Tryz.prog w = .ok (.enter (comG i) args) w := by
  match i with
  | 0 => exact enters_of Tryz.func34 (by kernel_rfl) rfl args w
  | k + 1 => exact enters_of Tryz.func36 (by kernel_rfl) rfl args w
def comE (E : Int) : Nat → Int
  | 0 => E
  | _ => 0
theorem comE_err (E : Int) : Fil.err (comE E) 2 = E ∧ Fil.at_ (comE E) 2 = if E = 0 then 2 else 1 := by
  by_cases h : E = 0
  · subst h
    exact ⟨by decide, by decide⟩
  · have e : Fil.stop (comE E) 2 0 = 0 := by
      rw [Fil.stop, if_neg (show ¬ comE E 0 = 0 from h)]
    unfold Fil.err Fil.at_
    rw [e, if_neg (by omega), if_neg (by omega), if_neg h]
    exact ⟨rfl, rfl⟩
theorem com_follow {m : Nat} {fb : Nat} (h : Apn w T T ((p, objF (fcells t q pw bm)) :: kept) S R pw q d s W) (hk : ∀ y ∈ kept, y.1 ≠ p) (hT : p < w.heap.size → T p) (hta : t.a < 2)
    (a : Option Addr) (len cap : Nat) (l : List Chb) (hl : Chgs a len l W) (hlo : ∀ x ∈ l, x.Ok) (hlen : len ≤ 1099511627)
    (hB : (B, boxF p) ∈ kept) (hC : (C, boxCh a len cap) ∈ kept) (hD : (D, boxC bn) ∈ kept) (hfb : (fb, comObj B C D) ∈ kept)
    {nn : Nat} {r : Fil.Row} (hmp : ContAt bn nn r W) (hbn : ¬ S bn ∧ ¬ R bn ∧ bn ≠ p) (hs : Fil.Sorted r) (hfi : Fil.Fine r) (hsum : Fil.sum r ≤ 1099511627) (hn : t.n ≤ 16384) (hok : s.Ok m) (hops : d.ops ≤ 999000000) :
    Calls Tryz.prog 33 #[.slice (some ⟨fb, 0, none⟩) 2 2] W fun e W' => e = .returned (.int .i64 (Fil.store d s t (lists (gtexts l)) r).2.2.2) ∧ ∃ S' R', Apn w T T ((p, objF (fcells (Fil.store d s t (lists (gtexts l)) r).2.2.1 q pw (if (Fil.store d s t (lists (gtexts l)) r).2.2.2 = 0 then bn else bm))) :: kept) S' R' pw q (Fil.store d s t (lists (gtexts l)) r).1 (Fil.store d s t (lists (gtexts l)) r).2.1 W' := by
  have h1 := com1_any h hk hT hta a len cap l hl hlo hlen hB hC hD hmp hbn hs hfi hsum hn hok hops
  generalize Fil.store d s t (lists (gtexts l)) r = F at *
  have hmem : ∀ {x : Nat × Obj} {o : Obj}, x ∈ kept → x ∈ (p, o) :: kept := fun h => List.mem_cons_of_mem _ h
  have hrow : ∀ {S R : Nat → Prop} {d : Dsk.St} {s : Wal.St} {o : Obj} {W' : World}, Apn w T T ((p, o) :: kept) S R pw q d s W' → ∀ i, i < 2 → W'.cell? ⟨fb, i, none⟩ = some (.func (.func (comG i)) #[] (comL B C D i)) := fun hA i hi => by
    rw [cell_of_row _ _ i _ _ _ (hA.row (hmem hfb))]
    match i, hi with
    | 0, _ => rfl
    | 1, _ => rfl
    | (m + 2), h => exact absurd h (by omega)
  refine (follow_any fb 2 comG (comL B C D) (fun i _ => com_eg i) (comE F.2.2.2) (fun k W' => (k = 0 → W' = W) ∧ (k ≠ 0 → ∃ S' R', Apn w T T ((p, objF (fcells F.2.2.1 q pw (if k = 1 then bm else bn))) :: kept) S' R' pw q F.1 F.2.1 W')) (by omega) W ?_ ?_ ⟨fun _ => rfl, fun e => absurd rfl e⟩).mono ?_
  · rintro k W' ⟨e0, e1⟩ i hi
    by_cases hk0 : k = 0
    · rw [e0 hk0]; exact hrow h i hi
    · obtain ⟨S', R', hI⟩ := e1 hk0
      exact hrow hI i hi
  · rintro k W' hk2 hz ⟨e0, e1⟩
    match k, hk2, e0, e1 with
    | 0, _, e0, _ =>
      rw [e0 rfl]
      exact h1.mono fun e W2 ⟨x1, S2, R2, x2⟩ => ⟨x1, (fun e => by cases e), fun _ => ⟨S2, R2, x2⟩⟩
    | 1, _, _, e1 =>
      obtain ⟨S', R', hI⟩ := e1 (by omega)
      rw [if_pos rfl] at hI
      exact (com2_any hI hk hT hB hD).mono fun e W2 ⟨x1, x2⟩ => ⟨x1, (fun e => by cases e), fun _ => ⟨S', R', by rw [if_neg (by omega)]; exact x2⟩⟩
    | (j + 2), hj, _, _ => exact absurd hj (by omega)
  · intro e W' hw
    obtain ⟨x1, x2⟩ := hw.stop
    obtain ⟨y1, y2⟩ := comE_err F.2.2.2
    rw [y1] at x1
    rw [y2] at x2
    refine ⟨x1, ?_⟩
    by_cases hE : F.2.2.2 = 0
    · rw [if_pos hE] at x2 ⊢
      obtain ⟨S', R', hI⟩ := x2.2 (by omega)
      rw [if_neg (by omega)] at hI
      exact ⟨S', R', hI⟩
    · rw [if_neg hE] at x2 ⊢
      obtain ⟨S', R', hI⟩ := x2.2 (by omega)
      rw [if_pos rfl] at hI
      exact ⟨S', R', hI⟩
/-- the fault is set -/
theorem com_fault (h : Apn w T T ((p, objF (fcells t q pw bm)) :: kept) S R pw q d s W) (hk : ∀ y ∈ kept, y.1 ≠ p) (hT : p < w.heap.size → T p) (E : Int) :
    (Instr.storeAt 27 (.pointer (some ⟨p, 12, none⟩)) (.int .i64 E)).run Tryz.prog W = .ok () (W.setCell ⟨p, 12, none⟩ (.int .i64 E)) ∧ Apn w T T ((p, objF (fcells { t with err := E } q pw bm)) :: kept) S R pw q d s (W.setCell ⟨p, 12, none⟩ (.int .i64 E)) := by
  have hrp : W.heap[p]? = some (.cells (fcells t q pw bm) 76 (0, 0)) := h.row (o := objF (fcells t q pw bm)) List.mem_cons_self
  have c12 : W.cell? ⟨p, 12, none⟩ = some (.int .i64 t.err) := by rw [cell_of_row _ _ 12 _ _ _ hrp]; rfl
  have ho : (W.setCell ⟨p, 12, none⟩ (.int .i64 E)).heap[p]? = some (objF (fcells { t with err := E } q pw bm)) := heap_setCell_same W p 12 _ _ (.int .i64 E) hrp
  exact ⟨store_err c12 (row_free hrp 12), h.turnOwn ((Turns.refl (fun j => j = p) W).set p 12 _ (fun _ => rfl)) ho hk (fun e => .inl (hT e))⟩
end
end Go.Proofs.YtalklpnekbfehaaGreat
