/-
  contents.all: it goes over the files in the order of their names; between two of them the caller's body may turn blocks of its own.
-/
import Derived.Test.YticcipgdjpoimaaGreatFilLook
import Derived.OwnWalkIn
import Derived.TacticsInMore
import Derived.LoopNIn
import Derived.LoopIn
import Derived.Shelf.Abstract
import Derived.Shelf.RegionOpen
set_option linter.unusedVariables false
set_option maxRecDepth 100000
namespace Go.Proofs.YticcipgdjpoimaaGreat
open Go.RowKit
attribute [local go_sem] Oper.semAt_some

/-- the kinds of rows that the iterator has -/
def Ki (T : TypeId) : Prop := T = 9 ∨ T = 74
/-- of the blocks that were there, the caller's own S apart: those below C lie as they lay, and of the others those of the iterator's kinds -/
def Kc (C : Nat) (S : Nat → Prop) (w : World) (k : Nat) : Prop := S k ∨ (C ≤ k ∧ ∀ (cs : Array Value) (T : TypeId) (fr : Nat × Nat), Ki T → w.heap[k]? ≠ some (.cells cs T fr))
def KeepC (C : Nat) (S : Nat → Prop) (w w' : World) : Prop := Turns (Kc C S w) w w'
section
variable {C : Nat} {S S' : Nat → Prop} {a b c : World}
theorem KeepC.cells (h : KeepC C S a b) {k : Nat} {cs : Array Value} {T : TypeId} {fr : Nat × Nat} (hT : Ki T) (hk : a.heap[k]? = some (.cells cs T fr)) (hn : ¬ S k) : b.heap[k]? = some (.cells cs T fr) :=
  Turns.same h hk (fun e => by
    rcases e with e | e
    · exact hn e
    · exact e.2 _ _ _ hT hk)
theorem KeepC.low (h : KeepC C S a b) {k : Nat} (hk : k < C) (hka : k < a.heap.size) (hn : ¬ S k) : b.heap[k]? = a.heap[k]? :=
  h.block k hka (fun e => by
    rcases e with e | e
    · exact hn e
    · omega)
theorem KeepC.trans (h : KeepC C S a b) (k : KeepC C S' b c) (hS : ∀ j, S' j → S j ∨ a.heap.size ≤ j) : KeepC C S a c :=
  Turns.trans h k (fun j hj e => by
    rcases e with e | e
    · rcases hS j e with e | e
      · exact .inl e
      · omega
    · by_cases hs : S j
      · exact .inl hs
      · refine .inr ⟨e.1, fun cs T fr hT hc => e.2 cs T fr hT (KeepC.cells h hT hc hs)⟩)
theorem KeepC.refl (C : Nat) (S : Nat → Prop) (a : World) : KeepC C S a a := Turns.refl _ a
theorem KeepC.of_new (h : Below a.heap.size a b) (C : Nat) (S : Nat → Prop) : KeepC C S a b := Turns.of_new h _
theorem KeepC.of_turns (h : Turns S a b) (C : Nat) : KeepC C S a b := h.mono (fun _ _ e => .inl e)
theorem KeepC.turns (h : KeepC C S a b) (hC : C = a.heap.size) : Turns S a b := h.mono (fun j hj e => by
  rcases e with e | e
  · exact e
  · omega)
theorem KeepC.stays (hC : C ≤ C) : Stays C (fun W => KeepC C S a W) := fun W l o o' hl ho hc hj => by
  refine ⟨hj.os, hj.tape, hj.output, by show _ ≤ (W.putObj l o').heap.size; rw [World.putObj_size]; exact hj.size, fun k hk hn => ?_⟩
  by_cases hkl : k = l
  · subst hkl
    refine absurd ?_ hn
    by_cases hs : S k
    · exact .inl hs
    · refine .inr ⟨hl, fun cs T fr hT hcs => ?_⟩
      rw [KeepC.cells hj hT hcs hs] at ho
      cases ho
      simp [Obj.isCells] at hc
  · rw [show (W.putObj l o').heap[k]? = W.heap[k]? from World.putObj_heap_other hkl]
    exact hj.block k hk hn
end

/-- what the caller has of its own, the blocks that it may turn, while it goes over the files -/
structure OwnsB (own : Nat → (Nat → Prop) → World → Prop) (Bx bm : Nat) : Prop where
  lt : ∀ i S W, own i S W → ∀ k, S k → k < W.heap.size
  new : ∀ i S W W', own i S W → Below W.heap.size W W' → own i S W'
  off : ∀ i S W, own i S W → ¬ S Bx ∧ ¬ S bm

/-- what lies where, i files having been gone over -/
structure Alw (C Bx bm nn : Nat) (r : Fil.Row) (own : Nat → (Nat → Prop) → World → Prop) (S0 : Nat → Prop) (W1 : World) (i : Nat) (W : World) : Prop where
  ow : ∃ S, own i S W ∧ ∀ j, S j → S0 j ∨ W1.heap.size ≤ j
  kp : KeepC C S0 W1 W
  bx : W.heap[Bx]? = some (.cells #[.map (some bm)] 74 (0, 0))
  mp : ContAt bm nn r W

section
variable {C Bx bm nn : Nat} {r : Fil.Row} {own : Nat → (Nat → Prop) → World → Prop} {S0 : Nat → Prop} {W1 W W' : World} {i : Nat}
theorem Alw.new (h : Alw C Bx bm nn r own S0 W1 i W) (o : OwnsB own Bx bm) (hb : Below W.heap.size W W') : Alw C Bx bm nn r own S0 W1 i W' := by
  obtain ⟨S, h1, h2⟩ := h.ow
  have hs := h.kp.size
  exact ⟨⟨S, o.new _ _ _ _ h1 hb, h2⟩, h.kp.trans (KeepC.of_new hb C S0) (fun j e => .inl e), by rw [hb.block _ (row_lt h.bx)]; exact h.bx, h.mp.new hb⟩
/-- a round of the caller's -/
theorem Alw.next (h : Alw C Bx bm nn r own S0 W1 i W) (o : OwnsB own Bx bm) (hC : bm < C) {S : Nat → Prop} (h1 : own i S W) (h2 : ∀ j, S j → S0 j ∨ W1.heap.size ≤ j) (hk : KeepC C S W W') {S' : Nat → Prop} (h3 : own (i + 1) S' W') (h4 : ∀ j, S' j → S j ∨ W.heap.size ≤ j) :
    Alw C Bx bm nn r own S0 W1 (i + 1) W' := by
  have hs := h.kp.size
  refine ⟨⟨S', h3, fun j e => ?_⟩, h.kp.trans hk h2, hk.cells (.inr rfl) h.bx (o.off _ _ _ h1).1, ownsMap_same h.mp (hk.low hC h.mp.lt (o.off _ _ _ h1).2)⟩
  rcases h4 j e with e | e
  · exact h2 j e
  · exact .inr (by omega)
end

theorem all_any (m : Option Nat) (w : World) :
    Calls Tryz.prog 37 #[.map m] w fun e w' => e = .returned (.func (.func 62) #[] #[.pointer (some ⟨w.heap.size, 0, none⟩)]) ∧ w' = w.alloc (.cells #[.map m] 74) := by
  go_enter Tryz.func37, Tryz.ntmps37
  go_wp2
  go_ret
  exact ⟨rfl, rfl⟩

set_option maxHeartbeats 1000000 in
theorem all1_any {C Bx bm nn : Nat} {r : Fil.Row} {own : Nat → (Nat → Prop) → World → Prop} {S0 : Nat → Prop} {W1 : World} (hr : Fil.Sorted r) (hf : Fil.Fine r) (hlen : r.length ≤ 1099511627776) (o : OwnsB own Bx bm) (hC : bm < C)
    (hbx : W1.heap[Bx]? = some (.cells #[.map (some bm)] 74 (0, 0))) (hmp : ContAt bm nn r W1) (hown : own 0 S0 W1)
    (ly : Nat) (Book : World → Prop) (hBook : ∀ A A', KeepsOthers A A' → Book A → Book A') (hb1 : Book W1)
    (hY : ∀ i x S W, r[i]? = some x → Book W → Alw C Bx bm nn r own S0 W1 i W → own i S W → YieldAt Fence.wide 3 Tryz.prog ly #[.string (ba x.1), .string (ba x.2)] W fun e W' => e = .returned (.bool true) ∧ Book W' ∧ KeepC C S W W' ∧ ∃ S', own (i + 1) S' W' ∧ ∀ j, S' j → S j ∨ W.heap.size ≤ j) :
    CallsIn Fence.wide 4 Tryz.prog 62 (#[.func (.yield ly) #[] #[]] ++ #[.pointer (some ⟨Bx, 0, none⟩)]) W1
      fun e W' => (∃ v, e = .returned v) ∧ Book W' ∧ Alw C Bx bm nn r own S0 W1 r.length W' := by
  have hk := fun u => callsIn_wide (n := 3).2 (callsIn_wide.1 (Tryz.maps_Keys_64 (some bm) u))
  have hsz : Maps.size (Fil.D r) = r.length := Fil.D_size r
  have hs := callsIn_wide (n := 3).2 (callsIn_wide.1 (Tryz.slices_Sorted_keys_63_64 bm nn (Fil.D r) fileElem W1 hmp (by rw [hsz]; show r.length ≤ 9223372036854775807; omega) (by rw [hsz]; omega)))
  rw [Fil.D_keys] at hs
  have h0 : Alw C Bx bm nn r own S0 W1 0 W1 := ⟨⟨S0, hown, fun j e => .inl e⟩, KeepC.refl _ _ _, hbx, hmp⟩
  have c1 := cell_of_one hbx
  refine callsIn_of_wp Tryz.func62 rfl trivial ?_ rfl
  simp only [Tryz.ntmps62, List.size_toArray, List.length_cons, List.length_nil, Nat.reduceAdd, Nat.reduceSub, Array.replicate_succ, Array.replicate_zero, List.push_toArray, List.append_toArray, List.nil_append, List.cons_append]
  have HY := Lib.hid hY; clear hY
  have HB := Lib.hid hBook; clear hBook
  have Hb1 := Lib.hid hb1; clear hb1
  have H0 := Lib.hid h0; clear h0
  have Hk := Lib.hid hk; clear hk
  have Hs := Lib.hid hs; clear hs
  have Hr := Lib.hid hr; clear hr
  have Hf := Lib.hid hf; clear hf
  have Ho := Lib.hid o; clear o
  have Hown := Lib.hid hown; clear hown
  clear hbx hmp hsz
  gi_wp2_with fail
  refine ⟨trivial, (Hk.out _).mono ?_⟩; rintro e w1 ⟨rfl, rfl⟩
  gi_wp2_with fail
  refine ⟨trivial, Hs.out.mono ?_⟩; rintro e w2 ⟨v, ss, rfl, hp, hrow, hnil, hb⟩
  rw [Fil.names_sorted Hr.out hp] at hrow
  have hl : ss.length = r.length := by have := hp.length_eq; simpa using this
  rw [hl] at hrow
  have hb2 : Below W1.heap.size W1 w2 := ((Below.refl _ W1).alloc (Nat.le_refl _) _).trans (hb.mono (by simp))
  have h2 := H0.out.new Ho.out hb2
  have hw2 : own 0 S0 w2 ∧ ∀ j, S0 j → j < W1.heap.size := ⟨Ho.out.new _ _ _ _ Hown.out hb2, Ho.out.lt _ _ _ Hown.out⟩
  have Hw2 := Lib.hid hw2; clear hw2
  have hbk2 : Book w2 := HB.out _ _ ⟨hb2.size, fun k o hk ho => by rw [hb2.block k (row_lt hk)]; exact hk⟩ Hb1.out
  have Hbk2 := Lib.hid hbk2; clear hbk2
  have H2 := Lib.hid h2; clear h2
  have hg0 := hb.size
  have hs1 : (W1.alloc (.cells #[.map (some bm)] 74)).heap.size = W1.heap.size + 1 := by simp
  clear hp hl hb hnil Hk Hs H0 Hb1 hb2
  clear c1
  rw [hs1] at hrow
  obtain ⟨hrl, hrow⟩ := hrow
  rcases hrow with ⟨rfl, h0⟩ | ⟨g, cap, cur, rfl, hge, hg, hcap, hcm, hcs, hct⟩
  · have Hz := Lib.hid h0; clear h0
    gi_wp2
    gi_loopw [9] (fun c wr => c = .int .i64 0 ∧ wr = w2) (fun _ _ => 0)
    case atStart => exact ⟨rfl, rfl⟩
    case round =>
      obtain ⟨rfl, rfl⟩ := hrel
      gi_wp2
      go_end0
      exact ⟨⟨_, rfl⟩, Hbk2.out, by rw [Hz.out]; exact H2.out⟩
  · generalize hn : r.length = n at *
    have Hn := Lib.hid hn; clear hn
    have Hg := Lib.hid hg; clear hg
    have Hct := Lib.hid hct; clear hct
    clear hrl hcs hcm hcap
    gi_wp2
    gi_loopw [9] (fun c wr => ∃ i, i ≤ n ∧ c = .int .i64 (i : Int) ∧ Book wr ∧ Alw C Bx bm nn r own S0 W1 i wr ∧ wr.heap[g]? = some (.cells cur 9 (0, 0)) ∧ ∃ S, own i S wr ∧ (∀ j, S j → S0 j ∨ W1.heap.size ≤ j) ∧ ¬ S g) (fun c _ => n - (intOf c).toNat)
    case atStart => exact ⟨0, by omega, rfl, Hbk2.out, H2.out, Hg.out, S0, Hw2.out.1, fun j e => .inl e, fun e => by have := Hw2.out.2 g e; omega⟩
    case round =>
      obtain ⟨i, hi, rfl, hbk, hst, hgr, S, how, hS, hgS⟩ := hrel
      have b2 := cell_of_one hst.bx
      have Hbk := Lib.hid hbk; clear hbk
      clear Hbk2 H2 Hg
      by_cases hlt : i < n
      · obtain ⟨x, hx⟩ : ∃ x, r[i]? = some x := ⟨r[i]'(by rw [Hn.out]; exact hlt), List.getElem?_eq_getElem _⟩
        have hcell : wr.cell? ⟨g, i, none⟩ = some (.string (ba x.1)) := by
          rw [cell_of_row wr g i _ _ _ hgr]
          have h1 := congrArg (fun l : List Value => l[i]?) Hct.out
          rw [Nat.mul_one] at h1
          simp only [List.getElem?_take, List.getElem?_map, hx, Option.map_some] at h1
          rw [if_pos hlt] at h1
          rw [← Array.getElem?_toList, h1]; rfl
        have hfx := Hf.out x (List.mem_of_getElem? hx)
        have hlk := look_any hst.mp (ba x.1) (by rw [ba_size]; show x.1.length ≤ 9223372036854775807; omega)
        rw [ba_list, Fil.get_at Hr.out hx, Option.getD_some] at hlk
        have hfd : (Instr.field 81 (.agg #[.string (ba x.2)]) 0).run Tryz.prog wr = .ok (.string (ba x.2)) wr := by kernel_rfl
        have hgl := row_lt hgr
        obtain ⟨fn, tmps, assign, body, hy, hR⟩ := HY.out i x S wr hx Hbk.out hst how
        have HR := Lib.hid hR; clear hR
        have Hx := Lib.hid hx; clear hx
        have Hst := Lib.hid hst; clear hst
        have Hhow := Lib.hid how; clear how
        have HS := Lib.hid hS; clear hS
        have Hgr := Lib.hid hgr; clear hgr
        have hli : (i : Int) < (n : Int) := by omega
        clear hfx
        generalize ba x.1 = X1 at *
        generalize ba x.2 = X2 at *
        gi_wp2
        refine HR.out.mono ?_
        rintro e W7 ⟨rfl, hbk7, hkc, S', ho7, hS7⟩
        have hst7 := Hst.out.next Ho.out hC Hhow.out HS.out hkc ho7 hS7
        have hS7' : ∀ j, S' j → S0 j ∨ W1.heap.size ≤ j := fun j e => by
          rcases hS7 j e with e | e
          · exact HS.out j e
          · have := Hst.out.kp.size; exact .inr (by omega)
        have hgS7 : ¬ S' g := fun e => by
          rcases hS7 g e with e | e
          · exact hgS e
          · omega
        have Ho7 := Lib.hid (And.intro ho7 (And.intro hS7' hgS7)); clear hS7' hgS7
        have hgr7 := hkc.cells (.inl rfl) Hgr.out hgS
        have Hbk7 := Lib.hid hbk7; clear hbk7
        have Hst7 := Lib.hid hst7; clear hst7
        have Hgr7 := Lib.hid hgr7; clear hgr7
        clear hkc ho7 hS7 hgS hcell hlk hy hfd
        gi_wp2
        go_roundw
        case rel => exact ⟨i + 1, by omega, by go_num, Hbk7.out, Hst7.out, Hgr7.out, S', Ho7.out⟩
        case measure => simp [intOf]; omega
      · obtain rfl : i = n := by omega
        have Hst := Lib.hid hst; clear hst
        gi_wp2
        go_end0
        exact ⟨⟨_, rfl⟩, Hbk.out, by rw [Hn.out]; exact Hst.out⟩
end Go.Proofs.YticcipgdjpoimaaGreat
