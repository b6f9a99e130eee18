/- Put together of: FilGrp FilGrp2 -/
import Derived.Test.YtalklpnekbfehaaGreatFilChunk
import Derived.Test.YtalklpnekbfehaaGreatFilChg
import Derived.Test.YtalklpnekbfehaaGreatFilPC
import Derived.Test.YtalklpnekbfehaaGreatWalGroups
import Derived.Maps.OwnIn
set_option maxRecDepth 100000
/-
  readGroups: the changes of groups, one behind the other.
-/
set_option linter.unusedVariables false
set_option maxRecDepth 100000
namespace Go.Proofs.YtalklpnekbfehaaGreat
open Go.RowKit
attribute [local go_sem] Oper.semAt_some
namespace Fil
/-- the k-th two of a row -/
def two (l : List ByteArray) (k : Nat) : List ByteArray := (l.drop (2 * k)).take 2
/-- the changes of the first k twos -/
def rgN (l : List ByteArray) : Nat → Option (List Chb)
  | 0 => some []
  | k + 1 => (rgN l k).bind fun xs => (rchg (two l k)).map fun x => xs ++ [x]
def rgrp (l : List ByteArray) : Option (List Chb) := rgN l ((l.length + 1) / 2)
/-- the changes of the first k groups -/
def rgsN (L : List (List ByteArray)) : Nat → Option (List Chb)
  | 0 => some []
  | k + 1 => (rgsN L k).bind fun xs => (rgrp (L.getD k [])).map fun ys => xs ++ ys
def rgs (L : List (List ByteArray)) : Option (List Chb) := rgsN L L.length
theorem rgN_none {l : List ByteArray} : ∀ {j k : Nat}, k ≤ j → rgN l k = none → rgN l j = none
  | 0, k, h, e => by
    obtain rfl : k = 0 := by omega
    exact e
  | j + 1, k, h, e => by
    by_cases hk : k = j + 1
    · subst hk; exact e
    · rw [rgN, rgN_none (j := j) (by omega) e]; rfl
theorem rgsN_none {L : List (List ByteArray)} : ∀ {j k : Nat}, k ≤ j → rgsN L k = none → rgsN L j = none
  | 0, k, h, e => by
    obtain rfl : k = 0 := by omega
    exact e
  | j + 1, k, h, e => by
    by_cases hk : k = j + 1
    · subst hk; exact e
    · rw [rgsN, rgsN_none (j := j) (by omega) e]; rfl
theorem rgN_len {l : List ByteArray} : ∀ {k : Nat} {ys : List Chb}, rgN l k = some ys → ys.length = k
  | 0, ys, h => by cases h; rfl
  | k + 1, ys, h => by
    rw [rgN] at h
    cases e : rgN l k with
    | none => rw [e] at h; cases h
    | some zs =>
      rw [e] at h
      simp only [Option.bind_some] at h
      cases e2 : rchg (two l k) with
      | none => rw [e2] at h; cases h
      | some x =>
        rw [e2] at h
        cases h
        rw [List.length_append, rgN_len e]; rfl
theorem rgsN_len {L : List (List ByteArray)} {M : Nat} (hM : ∀ g ∈ L, g.length ≤ M) : ∀ {k : Nat} {xs : List Chb}, k ≤ L.length → rgsN L k = some xs → xs.length ≤ k * (M + 1)
  | 0, xs, _, h => by cases h; simp
  | k + 1, xs, hk, h => by
    rw [rgsN] at h
    cases e : rgsN L k with
    | none => rw [e] at h; cases h
    | some zs =>
      rw [e] at h
      simp only [Option.bind_some] at h
      cases e2 : rgrp (L.getD k []) with
      | none => rw [e2] at h; cases h
      | some ys =>
        rw [e2] at h
        cases h
        have h1 := rgsN_len hM (by omega) e
        have h2 := rgN_len (show rgN (L.getD k []) (((L.getD k []).length + 1) / 2) = some ys from e2)
        have h3 : (L.getD k []).length ≤ M := by
          rw [List.getD_eq_getElem?_getD, List.getElem?_eq_getElem (by omega)]
          exact hM _ (List.getElem_mem _)
        rw [List.length_append, Nat.add_mul]
        omega
end Fil

/-- a frame on its way out that has marks alone -/
def markOf (D : Nat) : Deferred := { target := .collected D, args := #[] }
theorem leaves_marks {F : Fence} {n : Nat} {P : Program} {fn : Func} {tmps : Array Value} {R : Ending → World → Prop} (v : Value) : ∀ (Ds : List Nat) (w : World), Ds.Nodup → (∀ D ∈ Ds, w.heap[D]? = some (.deferred (some []))) →
    (∀ w' : World, w'.os = w.os → w'.tape = w.tape → w'.output = w.output → w'.heap.size = w.heap.size → (∀ k, k ∉ Ds → w'.heap[k]? = w.heap[k]?) → (results fn tmps).run P w' = .ok v w' ∧ R (.returned v) w') →
    LeavesInM F n P fn tmps R (Ds.map markOf) .returning w
  | [], w, _, _, h => by
    obtain ⟨h1, h2⟩ := h w rfl rfl rfl rfl (fun _ _ => rfl)
    exact ⟨v, h1, h2⟩
  | D :: Ds, w, hn, hd, h => by
    have hD := hd D (by simp)
    have hn' := List.nodup_cons.1 hn
    refine ⟨by simp, .inl ⟨D, _, rfl, run_takeDeferred hD, ?_⟩⟩
    refine leaves_marks v Ds _ hn'.2 (fun D' hD' => ?_) (fun w' h1 h2 h3 h4 h5 => ?_)
    · have hne : D' ≠ D := fun e => hn'.1 (by rw [← e]; exact hD')
      rw [World.putObj_heap_other hne]
      exact hd D' (by simp [hD'])
    · refine h w' h1 h2 h3 (by rw [h4]; exact World.putObj_size ..) (fun k hk => ?_)
      have hk' : k ∉ Ds ∧ k ≠ D := ⟨fun e => hk (by simp [e]), fun e => hk (by simp [e])⟩
      rw [h5 k hk'.1, World.putObj_heap_other hk'.2]

/-- a row with nothing: no twos -/
theorem chunk1_none {a : Option Addr} {cap B1 B2 : Nat} {W1 : World} (c1 : W1.cell? ⟨B1, 0, none⟩ = some (.slice a 0 cap)) (ly : Nat) (R : Ending → World → Prop) (hR : ∀ v, R (.returned v) W1) :
    CallsIn Fence.wide 4 Tryz.prog 147 (#[.func (.yield ly) #[] #[]] ++ #[.pointer (some ⟨B1, 0, none⟩), .pointer (some ⟨B2, 0, none⟩)]) W1 R := by
  refine callsIn_of_wp Tryz.func147 rfl trivial ?_ rfl
  simp only [Tryz.ntmps147, List.size_toArray, List.length_cons, List.length_nil, Nat.reduceAdd, Nat.reduceSub, Array.replicate_succ, Array.replicate_zero, List.push_toArray, List.append_toArray, List.nil_append, List.cons_append]
  gi_wp2
  gi_loopw [4] (fun c wr => c = .int .i64 0 ∧ wr = W1) (fun _ _ => 0)
  case atStart => exact ⟨rfl, rfl⟩
  case round =>
    obtain ⟨rfl, rfl⟩ := hrel
    gi_wp2
    go_end0
    exact hR _
end Go.Proofs.YtalklpnekbfehaaGreat

/-
  readGroups, all of it.
-/
set_option linter.unusedVariables false
set_option maxRecDepth 100000
namespace Go.Proofs.YtalklpnekbfehaaGreat
open Go.RowKit
attribute [local go_sem] Oper.semAt_some

/-- what readGroups leaves -/
def GrR (o : Option (List Chb)) (w : World) (e : Ending) (w' : World) : Prop := Below w.heap.size w w' ∧ match o with
  | none => e = .returned (.tuple #[.slice none 0 0, .int .i64 50])
  | some xs => ∃ v, e = .returned (.tuple #[v, .int .i64 0]) ∧ COwn w.heap.size v xs w'

/-- what lies where, while the groups are read -/
structure Grg (w : World) (L : List Wal.Grp) (Z : Nat → Prop) (vg : Value) (xs : List Chb) (W : World) : Prop where
  be : Below w.heap.size w W
  r0 : W.heap[w.heap.size]? = some (.cells #[.slice none 0 0] 43 (0, 0))
  r1 : W.heap[w.heap.size + 1]? = some (.cells #[.int .i64 0] 27 (0, 0))
  r2 : ∃ v, W.heap[w.heap.size + 2]? = some (.cells #[v] 43 (0, 0)) ∧ COwn w.heap.size v xs W
theorem Grg.new {w : World} {L : List Wal.Grp} {Z : Nat → Prop} {vg : Value} {xs : List Chb} {W W' : World} (h : Grg w L Z vg xs W) (hb : Below W.heap.size W W') : Grg w L Z vg xs W' := by
  obtain ⟨v, h1, h2⟩ := h.r2
  have hs := h.be.size
  exact ⟨h.be.trans (hb.mono hs), by rw [hb.block _ (row_lt h.r0)]; exact h.r0, by rw [hb.block _ (row_lt h.r1)]; exact h.r1, v, by rw [hb.block _ (row_lt h1)]; exact h1, ownsRow_new h2 hb⟩
theorem Grg.stays {w : World} {L : List Wal.Grp} {Z : Nat → Prop} {vg : Value} {xs : List Chb} {B : Nat} (hB : w.heap.size ≤ B) : Stays B (Grg w L Z vg xs) := fun W l o o' hl ho hc hj => by
  obtain ⟨v, h1, h2⟩ := hj.r2
  refine ⟨Stays.below hB W l o o' hl ho hc hj.be, Stays.row W l o o' hl ho hc hj.r0, Stays.row W l o o' hl ho hc hj.r1, v, Stays.row W l o o' hl ho hc h1, ?_⟩
  refine ownsRow_same h2 fun g hg => World.putObj_heap_other (fun e => ?_)
  subst e
  obtain ⟨cur, hcur⟩ := ownsRow_block h2 hg
  rw [hcur] at ho
  cases ho
  simp [Obj.isCells] at hc

def grAct (vg : Value) (len b0 k : Nat) (u6 u13 u14 u15 u16 u17 u31 : Value) (Ds : List Nat) : Act :=
  { tmps := #[vg, undef, .pointer (some ⟨b0, 0, none⟩), .pointer (some ⟨b0 + 1, 0, none⟩), .pointer (some ⟨b0 + 1 + 1, 0, none⟩), undef, u6, undef, undef, undef, vg, .int .i64 (len : Int), .int .i64 (k : Int), u13, u14, u15, u16, u17, undef, undef, undef, undef, undef, undef, undef, undef, undef, undef, undef, undef, undef, u31, undef], defers := Ds.map markOf }
def Marks (B : Nat) (Ds : List Nat) (W : World) : Prop := Ds.Nodup ∧ ∀ D ∈ Ds, B ≤ D ∧ W.heap[D]? = some (.deferred (some []))
theorem Marks.new {B : Nat} {Ds : List Nat} {W W' : World} (h : Marks B Ds W) (hb : Below W.heap.size W W') : Marks B Ds W' :=
  ⟨h.1, fun D hD => ⟨(h.2 D hD).1, by rw [hb.block _ (row_lt (h.2 D hD).2)]; exact (h.2 D hD).2⟩⟩
theorem Marks.keeps {B : Nat} {Ds : List Nat} {W W' : World} (h : Marks B Ds W) (hb : KeepsOthers W W') : Marks B Ds W' :=
  ⟨h.1, fun D hD => ⟨(h.2 D hD).1, hb.same _ _ (h.2 D hD).2 rfl⟩⟩
/-- how far the outer loop is -/
def GrI (w : World) (L : List Wal.Grp) (Z : Nat → Prop) (vg : Value) (a : Act) (W : World) : Prop :=
  ∃ k u6 u13 u14 u15 u16 u17 u31 Ds xs, k ≤ L.length ∧ a = grAct vg L.length w.heap.size k u6 u13 u14 u15 u16 u17 u31 Ds ∧ Fil.rgsN (L.map bas) k = some xs ∧ Grg w L Z vg xs W ∧ Marks (w.heap.size + 3) Ds W
def grMu (L : List Wal.Grp) (a : Act) (_ : World) : Nat := L.length - (intOf (a.tmps.getD 12 undef)).toNat
/-- what holds while a group's twos are read -/
structure Grj (w : World) (L : List Wal.Grp) (Z : Nat → Prop) (vg : Value) (b off len cap B1 B2 : Nat) (g : List ByteArray) (xs : List Chb) (Ds : List Nat) (k : Nat) (W : World) : Prop where
  ys : ∃ ys, Fil.rgN g k = some ys ∧ Grg w L Z vg (xs ++ ys) W
  i1 : W.heap[B1]? = some (.cells #[.slice (some ⟨b, off, none⟩) len cap] 29 (0, 0))
  i2 : W.heap[B2]? = some (.cells #[.int .i64 2] 3 (0, 0))
  mks : ∀ D ∈ Ds, W.heap[D]? = some (.deferred (some []))
  sz : B2 < W.heap.size

theorem grp_results (tmps : Array Value) (b c : Nat) (x y : Value) (W : World) (h2 : tmps.getD 2 undef = .pointer (some ⟨b, 0, none⟩)) (h3 : tmps.getD 3 undef = .pointer (some ⟨c, 0, none⟩))
    (h : W.heap[b]? = some (.cells #[x] 43 (0, 0))) (k : W.heap[c]? = some (.cells #[y] 27 (0, 0))) :
    (results Tryz.f78 tmps).run Tryz.prog W = .ok (.tuple #[x, y]) W := by
  have c0 : W.cell? ⟨b, 0, none⟩ = some x := by rw [cell_of_row _ _ 0 _ _ _ h]; rfl
  have c1 : W.cell? ⟨c, 0, none⟩ = some y := by rw [cell_of_row _ _ 0 _ _ _ k]; rfl
  have f0 := row_free h 0
  have f1 := row_free k 0
  have h2' : tmps[2]?.getD undef = .pointer (some ⟨b, 0, none⟩) := by simpa using h2
  have h3' : tmps[3]?.getD undef = .pointer (some ⟨c, 0, none⟩) := by simpa using h3
  simp [results, go_sem, h2', h3', c0, c1]

/-- on the way out -/
theorem grp_leave {w W : World} {L : List Wal.Grp} {Z : Nat → Prop} {vg : Value} {Ds : List Nat} {tmps : Array Value} {O : Option (List Chb)} {x : Value} {e : Int} (h2 : tmps.getD 2 undef = .pointer (some ⟨w.heap.size, 0, none⟩)) (h3 : tmps.getD 3 undef = .pointer (some ⟨w.heap.size + 1, 0, none⟩))
    (hm : Marks (w.heap.size + 3) Ds W) (r0 : W.heap[w.heap.size]? = some (.cells #[x] 43 (0, 0))) (r1 : W.heap[w.heap.size + 1]? = some (.cells #[.int .i64 e] 27 (0, 0))) (hb : Below w.heap.size w W)
    (hO : match O with
      | none => x = .slice none 0 0 ∧ e = 50
      | some xs => e = 0 ∧ COwn w.heap.size x xs W) :
    LeavesInM Fence.wide 5 Tryz.prog Tryz.f78 tmps (GrR O w) (Ds.map markOf) .returning W := by
  refine leaves_marks (.tuple #[x, .int .i64 e]) Ds W hm.1 (fun D hD => (hm.2 D hD).2) (fun w' h4 h5 h6 h7 h8 => ?_)
  have hk : ∀ k, k < w.heap.size + 3 → w'.heap[k]? = W.heap[k]? := fun k hk => h8 k (fun hD => by have := (hm.2 k hD).1; omega)
  refine ⟨grp_results tmps w.heap.size (w.heap.size + 1) x _ w' h2 h3 (by rw [hk _ (by omega)]; exact r0) (by rw [hk _ (by omega)]; exact r1), ?_, ?_⟩
  · exact ⟨h4.trans hb.os, h5.trans hb.tape, h6.trans hb.output, by rw [h7]; exact hb.size, fun k hk' => (hk k (by omega)).trans (hb.block k hk')⟩
  · cases O with
    | none =>
      obtain ⟨rfl, rfl⟩ := hO
      rfl
    | some xs =>
      obtain ⟨rfl, hc⟩ := hO
      refine ⟨x, rfl, ownsRow_same hc fun g hg => ?_⟩
      refine h8 g (fun hD => ?_)
      obtain ⟨cur, hcur⟩ := ownsRow_block hc hg
      rw [(hm.2 g hD).2] at hcur
      cases hcur
theorem COwn.off {B b : Nat} {v : Value} {xs : List Chb} {W : World} (h : COwn B v xs W) {cs : Array Value} {T : TypeId} (hT : T ≠ 58) (hr : W.heap[b]? = some (.cells cs T (0, 0))) : v.ownBlock ≠ some b := fun e => by
  obtain ⟨cur, hcur⟩ := ownsRow_block h e
  rw [hr] at hcur
  simp only [Option.some.injEq, Obj.cells.injEq] at hcur
  exact hT hcur.2.1
theorem COwn.set {B b : Nat} {v : Value} {xs : List Chb} {W : World} (h : COwn B v xs W) {cs : Array Value} {T : TypeId} (hT : T ≠ 58) (hr : W.heap[b]? = some (.cells cs T (0, 0))) (j : Nat) (u : Value) : COwn B v xs (W.setCell ⟨b, j, none⟩ u) :=
  ownsRow_same h fun g hg => heap_setCell_other _ _ _ _ (fun e => COwn.off h hT hr (by rw [hg, e]))

theorem Grj.stays {w : World} {L : List Wal.Grp} {Z : Nat → Prop} {vg : Value} {b off len cap B1 B2 : Nat} {g : List ByteArray} {xs : List Chb} {Ds : List Nat} {k B : Nat} (hB : w.heap.size ≤ B) (hD : ∀ D ∈ Ds, D < B) : Stays B (Grj w L Z vg b off len cap B1 B2 g xs Ds k) := fun W l o o' hl ho hc hj => by
  obtain ⟨ys, h1, h2⟩ := hj.ys
  exact ⟨⟨ys, h1, Grg.stays hB W l o o' hl ho hc h2⟩, Stays.row W l o o' hl ho hc hj.i1, Stays.row W l o o' hl ho hc hj.i2, fun D hD' => (World.putObj_heap_other (by have := hD D hD'; omega)).trans (hj.mks D hD'), by rw [World.putObj_size]; exact hj.sz⟩
theorem Grj.new {w : World} {L : List Wal.Grp} {Z : Nat → Prop} {vg : Value} {b off len cap B1 B2 : Nat} {g : List ByteArray} {xs : List Chb} {Ds : List Nat} {k : Nat} {W W' : World} (h : Grj w L Z vg b off len cap B1 B2 g xs Ds k W) (hb : Below W.heap.size W W') : Grj w L Z vg b off len cap B1 B2 g xs Ds k W' := by
  obtain ⟨ys, h1, h2⟩ := h.ys
  have := hb.size
  have := h.sz
  exact ⟨⟨ys, h1, h2.new hb⟩, by rw [hb.block _ (row_lt h.i1)]; exact h.i1, by rw [hb.block _ (row_lt h.i2)]; exact h.i2, fun D hD' => by rw [hb.block _ (row_lt (h.mks D hD'))]; exact h.mks D hD', by omega⟩
/-- a two of a row -/
theorem strs_by2 {b off len : Nat} {l : List ByteArray} {w : World} (h : Strs (some ⟨b, off, none⟩) len l w) (k : Nat) (hk : 2 * k < len) : Strs (some ⟨b, off + 2 * k, none⟩) (min 2 (len - 2 * k)) (Fil.two l k) w := by
  refine ⟨by unfold Fil.two; rw [List.length_take, List.length_drop, h.1], fun j hj => ?_⟩
  obtain ⟨b', off', e, hc⟩ := h.2 (2 * k + j) (by omega)
  cases e
  refine ⟨b, off + 2 * k, rfl, ?_⟩
  rw [show off + 2 * k + j = off + (2 * k + j) by omega, hc]
  unfold Fil.two
  congr 2
  rw [List.getD_eq_getElem?_getD, List.getD_eq_getElem?_getD, List.getElem?_take_of_lt (by omega), List.getElem?_drop]
/-- what the twos end with, if one is none -/
def GrS (w : World) (Ds : List Nat) (O : Option (List Chb)) (W : World) : Prop :=
  O = none ∧ Below w.heap.size w W ∧ W.heap[w.heap.size]? = some (.cells #[.slice none 0 0] 43 (0, 0)) ∧ W.heap[w.heap.size + 1]? = some (.cells #[.int .i64 50] 27 (0, 0)) ∧ ∀ D ∈ Ds, W.heap[D]? = some (.deferred (some []))
theorem GrS.stays {w : World} {Ds : List Nat} {O : Option (List Chb)} {B : Nat} (hB : w.heap.size ≤ B) (hD : ∀ D ∈ Ds, D < B) : Stays B (GrS w Ds O) := fun W l o o' hl ho hc hj =>
  ⟨hj.1, Stays.below hB W l o o' hl ho hc hj.2.1, Stays.row W l o o' hl ho hc hj.2.2.1, Stays.row W l o o' hl ho hc hj.2.2.2.1, fun D hD' => (World.putObj_heap_other (by have := hD D hD'; omega)).trans (hj.2.2.2.2 D hD')⟩

set_option maxHeartbeats 1000000 in
theorem fgroups_any (v : Value) (L : List Wal.Grp) (Z : Nat → Prop) (w : World) (h : GRows Z v L w) (hL : L.length ≤ 16384) (hgl : ∀ g ∈ L, g.length ≤ 1000000) :
    Calls Tryz.prog 78 #[v] w (GrR (Fil.rgs (L.map bas)) w) := by
  obtain ⟨a, cap, rfl, hcap, hcm, hgs⟩ := h.form
  have hZ := h.1
  refine (callsIn_wide (n := 5)).1 ?_
  refine callsIn_of_wp_marks Tryz.func78 rfl trivial ?_ rfl
  simp only [Tryz.ntmps78, List.size_toArray, List.length_cons, List.length_nil, Nat.reduceAdd, Nat.reduceSub, Array.replicate_succ, Array.replicate_zero, List.push_toArray, List.append_toArray, List.nil_append, List.cons_append]
  have Hgs := Lib.hid hgs; clear hgs
  have HZ := Lib.hid hZ; clear hZ h
  obtain ⟨O, hO⟩ : ∃ O, O = Fil.rgs (L.map bas) := ⟨_, rfl⟩
  rw [← hO]
  have HO := Lib.hid hO; clear hO
  gi_wp2_with fail
  refine wpIn_loop (GrI w L Z (.slice a L.length cap)) (grMu L) ?_ ?_
  · refine ⟨0, undef, undef, undef, undef, undef, undef, undef, [], [], Nat.zero_le _, rfl, rfl, ⟨(((Below.refl _ _).alloc (Nat.le_refl _) _).alloc (by simp) _).alloc (by simp; omega) _, ?_, ?_, .slice none 0 0, ?_, ?_⟩, List.nodup_nil, fun D hD => by simp at hD⟩
    · exact row_alloc (row_alloc (heap_alloc_new _ _) _) _
    · refine row_alloc ?_ _
      have := heap_alloc_new (w.alloc (.cells #[.slice none 0 0] 43)) (.cells #[.int .i64 0] 27)
      rw [World.size_alloc] at this
      exact this
    · have := heap_alloc_new ((w.alloc (.cells #[.slice none 0 0] 43)).alloc (.cells #[.int .i64 0] 27)) (.cells #[.slice none 0 0] 43)
      rw [World.size_alloc, World.size_alloc] at this
      exact this
    · exact World.ownsRow_nil _ _ _ _
  · rintro a1 W ⟨k, u6, u13, u14, u15, u16, u17, u31, Ds, xs, hk, rfl, hxs, hg, hm⟩
    unfold grAct
    by_cases hc : k = L.length
    · subst hc
      have hge : decide ((L.length : Int) < (L.length : Int)) = false := decide_eq_false (by omega)
      obtain ⟨vv, hr2, hco⟩ := hg.r2
      obtain ⟨ca, ccap, rfl, hch, hlow⟩ := hco.chgs
      have c0 := cell_of_one hg.r0
      have f0 := row_free hg.r0 0
      have c1 := cell_of_one hg.r1
      have f1 := row_free hg.r1 0
      have c2 := cell_of_one hr2
      have Hg := Lib.hid hg; clear hg
      have Hm := Lib.hid hm; clear hm
      have Hco := Lib.hid hco; clear hco
      have Hr2 := Lib.hid hr2; clear hr2
      have Hxs := Lib.hid hxs; clear hxs
      have hfin : O = some xs := by
        rw [HO.out]; unfold Fil.rgs; rw [List.length_map]; exact Hxs.out
      subst hfin
      gi_wp2_with fail
      have hr0 := Hg.out.r0
      have hr1 := Hg.out.r1
      have q0 := heap_setCell_same W w.heap.size 0 _ _ (.slice ca xs.length ccap) hr0
      have q1 : (W.setCell ⟨w.heap.size, 0, none⟩ (.slice ca xs.length ccap)).heap[w.heap.size + 1]? = some (.cells #[.int .i64 0] 27 (0, 0)) := by rw [heap_setCell_other _ _ _ _ (by simp)]; exact hr1
      have q2 := heap_setCell_same _ (w.heap.size + 1) 0 _ _ (.int .i64 0) q1
      have hc1 := COwn.set Hco.out (by decide) hr0 0 (.slice ca xs.length ccap)
      have hc2 := COwn.set hc1 (by decide) q1 0 (.int .i64 0)
      have hbe := (Hg.out.be.setCell (p := ⟨w.heap.size, 0, none⟩) (Nat.le_refl _) (.slice ca xs.length ccap)).setCell (p := ⟨w.heap.size + 1, 0, none⟩) (show w.heap.size ≤ w.heap.size + 1 by omega) (.int .i64 0)
      have hmk := (Hm.out.keeps (KeepsOthers.setCell _ ⟨w.heap.size, 0, none⟩ (.slice ca xs.length ccap))).keeps (KeepsOthers.setCell _ ⟨w.heap.size + 1, 0, none⟩ (.int .i64 0))
      exact grp_leave (L := L) (Z := Z) (vg := .slice a L.length cap) rfl rfl hmk (by rw [heap_setCell_other _ _ _ _ (by simp)]; exact q0) q2 hbe ⟨rfl, hc2⟩
    · have hge : decide ((k : Int) < (L.length : Int)) = true := decide_eq_true (by omega)
      have hlt : k < L.length := by omega
      obtain ⟨g, hgk⟩ : ∃ g, L[k]? = some g := ⟨L[k], List.getElem?_eq_getElem hlt⟩
      obtain ⟨b, u, rfl, hcu, hgu⟩ := Hgs.out k g hgk
      obtain ⟨ga, gcap, rfl, hst, hgc, hgm⟩ := hgu.strs
      have hltk : (k : Int) < (L.length : Int) := by omega
      have hcu' : W.cell? ⟨b, k, none⟩ = some (.slice ga g.length gcap) := by rw [hg.be.cell (cell_lt hcu)]; exact hcu
      have Hg := Lib.hid hg; clear hg
      have Hm := Lib.hid hm; clear hm
      have Hst := Lib.hid hst; clear hst
      have Hxs := Lib.hid hxs; clear hxs
      have Hgk := Lib.hid hgk; clear hgk
      have ct := fun u => callsIn_wide (n := 4).2 (chunk_any ga g.length gcap u)
      have Ct := Lib.hid ct; clear ct
      clear hgu hcu
      gi_wp2_with fail
      refine ⟨trivial, (Ct.out _).mono ?_⟩; rintro e W1 ⟨rfl, hW1⟩
      have hb1 : Below W.heap.size W W1 := by rw [hW1]; exact ((Below.refl _ _).alloc (Nat.le_refl _) _).alloc (by simp) _
      have hi1 : W1.heap[W.heap.size]? = some (.cells #[.slice ga g.length gcap] 29 (0, 0)) := by rw [hW1]; exact row_alloc (heap_alloc_new _ _) _
      have hi2 : W1.heap[W.heap.size + 1]? = some (.cells #[.int .i64 2] 3 (0, 0)) := by
        rw [hW1]
        have := heap_alloc_new (W.alloc (.cells #[.slice ga g.length gcap] 29)) (.cells #[.int .i64 2] 3)
        rw [World.size_alloc] at this
        exact this
      have hs1 : W1.heap.size = W.heap.size + 2 := by rw [hW1]; simp
      have Hb1 := Lib.hid hb1; clear hb1
      have Hi1 := Lib.hid hi1; clear hi1
      have Hi2 := Lib.hid hi2; clear hi2
      have HW1 := Lib.hid hW1; clear hW1
      have Hcu := Lib.hid hcu'; clear hcu'
      have hmD : ∀ D ∈ Ds, D < W1.heap.size := fun D hD => by have := row_lt ((Hm.out.2 D hD).2); omega
      have hwW : w.heap.size ≤ W1.heap.size := by have := Hg.out.be.size; omega
      have HmD := Lib.hid hmD; clear hmD
      have HwW := Lib.hid hwW; clear hwW
      have Hs1 := Lib.hid hs1; clear hs1
      gi_wp2_with fail
      have hmD := HmD.out
      have hwW := HwW.out
      have hs1 := Hs1.out
      refine rangeFunc_stop rfl (by decide) (gf := 147) (lb := #[.pointer (some ⟨W.heap.size, 0, none⟩), .pointer (some ⟨W.heap.size + 1, 0, none⟩)]) rfl trivial (enters_of Tryz.func147 (by kernel_rfl) rfl)
        (α := Nat × Nat × Nat) (fun x => #[chk x.1 x.2.1 g.length x.2.2]) (fun _ => rfl)
        (fun W' => Below W1.heap.size W1 W')
        (fun W' => ∃ ys, Fil.rgrp (bas g) = some ys ∧ Grg w L Z (.slice (some ⟨b, 0, none⟩) L.length cap) (xs ++ ys) W' ∧ ∀ D ∈ Ds, W'.heap[D]? = some (.deferred (some [])))
        (GrS w Ds O)
        (fun x W' => ga = some ⟨x.1, x.2.1, none⟩ ∧ 2 * x.2.2 < g.length ∧ Grj w L Z (.slice (some ⟨b, 0, none⟩) L.length cap) x.1 x.2.1 g.length gcap W.heap.size (W.heap.size + 1) (bas g) xs Ds x.2.2 W')
        (fun x W' => Grj w L Z (.slice (some ⟨b, 0, none⟩) L.length cap) x.1 x.2.1 g.length gcap W.heap.size (W.heap.size + 1) (bas g) xs Ds (x.2.2 + 1) W')
        (fun x W' => GrS w Ds O W')
        (fun x a₁ W' => (ga = some ⟨x.1, x.2.1, none⟩ ∧ 2 * x.2.2 < g.length) ∧ Grj w L Z (.slice (some ⟨b, 0, none⟩) L.length cap) x.1 x.2.1 g.length gcap W.heap.size (W.heap.size + 1) (bas g) xs Ds x.2.2 W' ∧
          a₁ = { tmps := #[.slice (some ⟨b, 0, none⟩) L.length cap, undef, .pointer (some ⟨w.heap.size, 0, none⟩), .pointer (some ⟨w.heap.size + 1, 0, none⟩), .pointer (some ⟨w.heap.size + 1 + 1, 0, none⟩), undef, .slice ga g.length gcap, chk x.1 x.2.1 g.length x.2.2, undef, undef, .slice (some ⟨b, 0, none⟩) L.length cap, .int .i64 (L.length : Int), .int .i64 (k : Int), .bool true, .pointer (some ⟨b, k, none⟩), .slice ga g.length gcap, .slice ga g.length gcap, .func (.func 147) #[] #[.pointer (some ⟨W.heap.size, 0, none⟩), .pointer (some ⟨W.heap.size + 1, 0, none⟩)], chk x.1 x.2.1 g.length x.2.2, undef, undef, undef, undef, undef, undef, undef, undef, undef, undef, undef, undef, u31, undef], defers := [] })
        ?sEnd ?sStop ?sOut ?sRet ?sMid ?h0 ?hiter ?hassign ?hbody ?hdone ?hstop
      case sEnd => exact fun W' l o o' hl ho hc ⟨ys, h1, h2, h3⟩ => ⟨ys, h1, Grg.stays hwW W' l o o' hl ho hc h2, fun D hD => (World.putObj_heap_other (by have := hmD D hD; omega)).trans (h3 D hD)⟩
      case sStop => exact GrS.stays hwW hmD
      case sOut => exact fun x => Grj.stays hwW hmD
      case sRet => exact fun x => GrS.stays hwW hmD
      case sMid => exact fun x a₁ W' l o o' hl ho hc ⟨h1, h2, h3⟩ => ⟨h1, Grj.stays hwW hmD W' l o o' hl ho hc h2, h3⟩
      case h0 => exact fun o o' => ((Below.refl _ _).alloc (Nat.le_refl _) _).alloc (by simp) _
      case hiter =>
        intro ly Book BookS W2 hBk hBs hly hbk hj0 hY
        have hi1 : W2.heap[W.heap.size]? = some (.cells #[.slice ga g.length gcap] 29 (0, 0)) := by rw [hj0.block _ (row_lt Hi1.out)]; exact Hi1.out
        have hi2 : W2.heap[W.heap.size + 1]? = some (.cells #[.int .i64 2] 3 (0, 0)) := by rw [hj0.block _ (row_lt Hi2.out)]; exact Hi2.out
        have hg2 := (Hg.out.new Hb1.out).new hj0
        have hm2 : ∀ D ∈ Ds, W2.heap[D]? = some (.deferred (some [])) := fun D hD => by
          rw [hj0.block _ (hmD D hD), Hb1.out.block _ (row_lt (Hm.out.2 D hD).2)]; exact (Hm.out.2 D hD).2
        by_cases hg0 : g.length = 0
        · rw [hg0] at hi1
          refine chunk1_none (cell_of_one hi1) ly _ (fun v => ⟨⟨v, rfl⟩, .inl ⟨hbk, [], ?_, ?_, hm2⟩⟩)
          · unfold Fil.rgrp; rw [bas_length, hg0]; rfl
          · rw [List.append_nil]; exact hg2
        · obtain ⟨gb, goff, rfl, _⟩ := Hst.out.2 0 (by omega)
          refine (chunk1_any (b := gb) (off := goff) (len := g.length) (cap := gcap) (B1 := W.heap.size) (B2 := W.heap.size + 1) (J := fun k W' => Grj w L Z (.slice (some ⟨b, 0, none⟩) L.length cap) gb goff g.length gcap W.heap.size (W.heap.size + 1) (bas g) xs Ds k W') (JS := GrS w Ds O) (W1 := W2)
            (by have := hgl g (List.mem_of_getElem? Hgk.out); omega) hgc hgm (fun k W' h => ⟨h.i1, h.i2⟩) (fun k W' h => h.new ((Below.refl _ W').drew)) ?_ ly Book BookS hBk hbk ?_).mono ?_
          · exact ⟨⟨[], rfl, by rw [List.append_nil]; exact hg2⟩, hi1, hi2, hm2, by have := hj0.size; omega⟩
          · intro k' W' h2 hbk' hj
            exact hY (gb, goff, k') W' hbk' ⟨rfl, h2, hj⟩
          · rintro e W' ⟨hv, hc⟩
            refine ⟨hv, ?_⟩
            rcases hc with ⟨h1, h2⟩ | h
            · obtain ⟨ys, h3, h4⟩ := h2.ys
              exact .inl ⟨h1, ys, by unfold Fil.rgrp; rw [bas_length]; exact h3, h4, h2.mks⟩
            · exact .inr h
      case hassign =>
        intro ly x W' K hly hin hK
        have Hin := Lib.hid hin; clear hin
        clear hs1 hmD hwW
        gi_wp2_with fail
        exact hK _ _ (KeepsOthers.refl _) ⟨⟨Hin.out.1, Hin.out.2.1⟩, Hin.out.2.2, rfl⟩
      case hbody =>
        rintro ly ⟨gb, goff, j⟩ a₁ W' hly ⟨⟨hga, hj2⟩, hj, rfl⟩
        simp only at hga hj2 hj ⊢
        obtain ⟨ys, hys, hg'⟩ := hj.ys
        have hst' : Strs ga g.length (bas g) W' := Strs.keep Hst.out hg'.be
        rw [hga] at hst'
        have hst2 := strs_by2 hst' j hj2
        have hrc := readChange_any _ _ (min 2 (g.length - 2 * j)) _ W' hst2
        have hbz : KeepsOthers W' W' := KeepsOthers.refl _
        have hOn : Fil.rchg (Fil.two (bas g) j) = none → O = none := fun hn => by
          rw [HO.out]
          unfold Fil.rgs
          refine Fil.rgsN_none (k := k + 1) (by rw [List.length_map]; omega) ?_
          rw [Fil.rgsN, Hxs.out]
          have e : (L.map bas).getD k [] = bas g := by rw [List.getD_eq_getElem?_getD, List.getElem?_map, Hgk.out]; rfl
          rw [e]
          have : Fil.rgrp (bas g) = none := by
            unfold Fil.rgrp
            refine Fil.rgN_none (k := j + 1) (by rw [bas_length]; omega) ?_
            rw [Fil.rgN, hys, hn]; rfl
          rw [this]; rfl
        have hSo : ∀ x, Fil.rchg (Fil.two (bas g) j) = some x → Fil.rgN (bas g) (j + 1) = some (ys ++ [x]) := fun x hx => by
          rw [Fil.rgN, hys, hx]; rfl
        generalize Fil.rchg (Fil.two (bas g) j) = rc at *
        cases rc with
        | none =>
          have hOn' := hOn rfl
          subst hOn'
          obtain ⟨v2, hr2, hco⟩ := hg'.r2
          have HJ := Lib.hid hj; clear hj
          have Hg' := Lib.hid hg'; clear hg'
          have Hrc := Lib.hid hrc; clear hrc
          have c0 := cell_of_one Hg'.out.r0
          have f0 := row_free Hg'.out.r0 0
          have c1 := cell_of_one Hg'.out.r1
          have f1 := row_free Hg'.out.r1 0
          clear hst' hst2 hOn hSo hys hr2 hco hs1 hmD hwW
          unfold chk
          gi_wp2_with fail
          refine ⟨trivial, (CallsIn.inRound ly (callsIn_wide.2 Hrc.out)).mono ?_⟩; rintro e W2 ⟨he, hb2⟩
          unfold rchR chgV at he
          subst he
          clear c0 c1 f0 f1
          obtain ⟨W3, hW3⟩ : ∃ W3, W3 = W2.alloc (.cells #[.string ⟨#[]⟩, .string ⟨#[]⟩, .bool false] 58) := ⟨_, rfl⟩
          have hb3 : Below W'.heap.size W' W3 := by rw [hW3]; exact hb2.alloc hb2.size _
          have hg3 := Hg'.out.new hb3
          have hmk3 : ∀ D ∈ Ds, W3.heap[D]? = some (.deferred (some [])) := fun D hD => by rw [hb3.block _ (row_lt (HJ.out.mks D hD))]; exact HJ.out.mks D hD
          have c0 := cell_of_one hg3.r0
          have f0 := row_free hg3.r0 0
          have q1 : (W3.setCell ⟨w.heap.size, 0, none⟩ (.slice none 0 0)).heap[w.heap.size + 1]? = some (.cells #[.int .i64 0] 27 (0, 0)) := by rw [heap_setCell_other _ _ _ _ (by simp)]; exact hg3.r1
          have c1 := cell_of_one q1
          have f1 := row_free q1 0
          have q0 := heap_setCell_same W3 w.heap.size 0 _ _ (.slice none 0 0) hg3.r0
          have q2 := heap_setCell_same _ (w.heap.size + 1) 0 _ _ (.int .i64 50) q1
          have hbe := (hg3.be.setCell (p := ⟨w.heap.size, 0, none⟩) (Nat.le_refl _) (.slice none 0 0)).setCell (p := ⟨w.heap.size + 1, 0, none⟩) (show w.heap.size ≤ w.heap.size + 1 by omega) (.int .i64 50)
          have hfin : GrS w Ds none ((W3.setCell ⟨w.heap.size, 0, none⟩ (.slice none 0 0)).setCell ⟨w.heap.size + 1, 0, none⟩ (.int .i64 50)) := by
            refine ⟨rfl, hbe, ?_, q2, fun D hD => ?_⟩
            · rw [heap_setCell_other _ _ _ _ (by simp)]; exact q0
            · have hD3 := (Hm.out.2 D hD).1
              rw [heap_setCell_other _ _ _ _ (by simp only; omega), heap_setCell_other _ _ _ _ (by simp only; omega)]; exact hmk3 D hD
          have hko : KeepsOthers W' ((W3.setCell ⟨w.heap.size, 0, none⟩ (.slice none 0 0)).setCell ⟨w.heap.size + 1, 0, none⟩ (.int .i64 50)) :=
            (KeepsOthers.trans (B := W3) ⟨hb3.size, fun k o hk ho => by rw [hb3.block k (row_lt hk)]; exact hk⟩ (KeepsOthers.setCell _ _ _)).trans (KeepsOthers.setCell _ _ _)
          have Hfin := Lib.hid hfin; clear hfin
          have Hko := Lib.hid hko; clear hko
          clear q0 q1 q2 hbe hg3 hmk3 hb3 hb2
          rw [hW3] at c0 f0 c1 f1 Hfin Hko
          clear hW3
          gi_wp2_with fail
          exact ⟨Hko.out, Hfin.out⟩
        | some x =>
          obtain ⟨xn, xd, xg⟩ := x
          have hS := hSo _ rfl
          obtain ⟨v2, hr2, hco⟩ := hg'.r2
          have hlt2 := row_lt hr2
          have hys0 := hys
          have HJ := Lib.hid hj; clear hj
          have Hg' := Lib.hid hg'; clear hg'
          have Hrc := Lib.hid hrc; clear hrc
          have HS := Lib.hid hS; clear hS
          clear hst' hst2 hOn hSo hys hs1 hmD hwW
          unfold chk
          gi_wp2_with fail
          refine ⟨trivial, (CallsIn.inRound ly (callsIn_wide.2 Hrc.out)).mono ?_⟩; rintro e W2 ⟨he, hb2⟩
          unfold rchR chgV at he
          subst he
          obtain ⟨W3, hW3⟩ : ∃ W3, W3 = W2.alloc (.cells #[.string xn, .string xd, .bool xg] 58) := ⟨_, rfl⟩
          have hb3 : Below W'.heap.size W' W3 := by rw [hW3]; exact hb2.alloc hb2.size _
          have hr3 : W3.heap[w.heap.size + 2]? = some (.cells #[v2] 43 (0, 0)) := by rw [hb3.block _ hlt2]; exact hr2
          have c2 := cell_of_one hr3
          have f2 := row_free hr3 0
          have hb2s := hb2.size
          have Hb2 := Lib.hid hb2
          have Hb3 := Lib.hid hb3; clear hb3 hb2
          have Hr3 := Lib.hid hr3; clear hr3
          have Hco := Lib.hid hco; clear hco
          have hyl := Fil.rgN_len hys0
          have hxl := Fil.rgsN_len (M := 1000000) (L := L.map bas) (fun z hz => by
            obtain ⟨z', hz', rfl⟩ := List.mem_map.1 hz
            rw [bas_length]; exact hgl z' hz') (by rw [List.length_map]; omega) Hxs.out
          have hgn := hgl g (List.mem_of_getElem? Hgk.out)
          have hnl : (xs ++ ys).length ≤ 20000000000 := by
            rw [List.length_append, hyl]
            have : k * (1000000 + 1) ≤ 16384 * (1000000 + 1) := Nat.mul_le_mul_right _ (by omega)
            omega
          obtain ⟨nn, hnn⟩ : ∃ nn, nn = (xs ++ ys).length := ⟨_, rfl⟩
          have hbY : Below W2.heap.size W2 ((W2.alloc (.cells #[.string xn, .string xd, .bool xg] 58)).alloc (.cells #[.string xn, .string xd, .bool xg] 58)) := ((Below.refl _ _).alloc (Nat.le_refl _) _).alloc (by simp) _
          have hown4 : ((W2.alloc (.cells #[.string xn, .string xd, .bool xg] 58)).alloc (.cells #[.string xn, .string xd, .bool xg] 58)).ownsRow w.heap.size 58 3 v2 nn ((xs ++ ys).flatMap Chb.cells) := by
            rw [hnn]
            have h1 : COwn w.heap.size v2 (xs ++ ys) W2 := ownsRow_new Hco.out (Hb2.out)
            exact ownsRow_new h1 hbY
          have hcl : ∀ i u, [Value.string xn, .string xd, .bool xg][i]? = some u → ((W2.alloc (.cells #[.string xn, .string xd, .bool xg] 58)).alloc (.cells #[.string xn, .string xd, .bool xg] 58)).cell? ((⟨W2.heap.size + 1, 0, none⟩ : Addr).add i) = some u := by
            intro i u h
            have := cell_row_new (W2.alloc (.cells #[.string xn, .string xd, .bool xg] 58)) [.string xn, .string xd, .bool xg] 58 i u h
            rw [World.size_alloc] at this
            exact this
          obtain ⟨i0, hi, hz0, hz1, hz2⟩ := info_parts chg_info
          have hws : w.heap.size ≤ W2.heap.size := by have := Hg'.out.be.size; omega
          rw [hW3] at c2 f2
          have Hr2 := Lib.hid hr2
          clear hr2 hys0 hyl hxl hgn
          have HW3 := Lib.hid hW3; clear hW3
          have Hnn := Lib.hid hnn; clear hnn
          have Hcl := Lib.hid hcl; clear hcl
          rw [← Hnn.out] at hnl
          gi_wp2_with (gi_at_builtin; go_loud (refine wpListIn_append_own_at _ rfl _ _ 43 rfl w.heap.size 58 i0 (.agg #[.string ⟨#[]⟩, .string ⟨#[]⟩, .bool false]) 3 40 Tryz.underlying43 hi hz0 hz1 hz2 rfl (by decide) _ _ _ rfl hown4 ⟨W2.heap.size + 1, 0, none⟩ 1 1 [.string xn, .string xd, .bool xg] rfl rfl Hcl.out ?c2 ?c3 ?c4 ?c5 ?_))
          case c2 => intro z hz; simp at hz; rcases hz with rfl | rfl | rfl <;> rfl
          case c3 => unfold maxLen; omega
          case c4 => omega
          case c5 => simp; omega
          intro v' w5 hown5 hgrow _ hvb
          have happ : (xs ++ (ys ++ [⟨xn, xd, xg⟩])) = (xs ++ ys) ++ [(⟨xn, xd, xg⟩ : Chb)] := (List.append_assoc _ _ _).symm
          have hco5 : COwn w.heap.size v' (xs ++ (ys ++ [⟨xn, xd, xg⟩])) w5 := by
            unfold COwn
            rw [happ, List.length_append, ← Hnn.out, List.flatMap_append, List.flatMap_append, List.append_assoc]
            exact hown5
          obtain ⟨ca, ccap, hv', _, _⟩ := hco5.chgs
          obtain ⟨n5, hn5⟩ : ∃ n5, n5 = (xs ++ (ys ++ [(⟨xn, xd, xg⟩ : Chb)])).length := ⟨_, rfl⟩
          rw [← hn5] at hv'
          subst hv'
          clear hn5
          have hW'Y : Below W'.heap.size W' ((W2.alloc (.cells #[.string xn, .string xd, .bool xg] 58)).alloc (.cells #[.string xn, .string xd, .bool xg] 58)) := Hb2.out.trans (hbY.mono Hb2.out.size)
          have hkeep : ∀ b o, W'.heap[b]? = some o → v2.ownBlock ≠ some b → w5.heap[b]? = some o := fun b o hb hv => by
            rw [hgrow.block b (by have := row_lt hb; have := hW'Y.size; omega) (fun e => hv e.symm), hW'Y.block b (row_lt hb)]; exact hb
          have hr0 := hkeep _ _ Hg'.out.r0 (COwn.off Hco.out (by decide) Hg'.out.r0)
          have hr1 := hkeep _ _ Hg'.out.r1 (COwn.off Hco.out (by decide) Hg'.out.r1)
          have hr2 := hkeep _ _ Hr2.out (COwn.off Hco.out (by decide) Hr2.out)
          have hi1 := hkeep _ _ HJ.out.i1 (COwn.off Hco.out (by decide) HJ.out.i1)
          have hi2 := hkeep _ _ HJ.out.i2 (COwn.off Hco.out (by decide) HJ.out.i2)
          have hmk : ∀ D ∈ Ds, w5.heap[D]? = some (.deferred (some [])) := fun D hD => hkeep _ _ (HJ.out.mks D hD) (fun e => by
            obtain ⟨cur, hcur⟩ := ownsRow_block Hco.out e
            rw [HJ.out.mks D hD] at hcur; cases hcur)
          have hbe5 : Below w.heap.size w w5 := (Hg'.out.be.trans (hW'Y.mono Hg'.out.be.size)).grown hgrow (by have := Hg'.out.be.size; have := hW'Y.size; omega) (fun k' hk' => (World.ownsRow.lt Hco.out k' hk').1)
          have hs5 := hgrow.size
          have hfin : Grj w L Z (.slice (some ⟨b, 0, none⟩) L.length cap) gb goff g.length gcap W.heap.size (W.heap.size + 1) (bas g) xs Ds (j + 1) (w5.setCell ⟨w.heap.size + 2, 0, none⟩ (.slice ca n5 ccap)) := by
            have hlt3 : w.heap.size + 3 ≤ W.heap.size := by obtain ⟨v, hr, _⟩ := Hg.out.r2; have := row_lt hr; omega
            have oth : ∀ b o, b ≠ w.heap.size + 2 → w5.heap[b]? = some o → (w5.setCell ⟨w.heap.size + 2, 0, none⟩ (.slice ca n5 ccap)).heap[b]? = some o := fun b o hb h => by
              rw [heap_setCell_other _ _ _ _ hb]; exact h
            refine ⟨⟨ys ++ [⟨xn, xd, xg⟩], HS.out, ⟨hbe5.setCell (p := ⟨w.heap.size + 2, 0, none⟩) (show w.heap.size ≤ w.heap.size + 2 by omega) _, oth _ _ (by omega) hr0, oth _ _ (by omega) hr1, _, heap_setCell_same w5 (w.heap.size + 2) 0 _ _ _ hr2, COwn.set hco5 (by decide) hr2 0 _⟩⟩, oth _ _ (by omega) hi1, oth _ _ (by omega) hi2, fun D hD => oth _ _ (by have := (Hm.out.2 D hD).1; omega) (hmk D hD), ?_⟩
            have := HJ.out.sz
            have := hW'Y.size
            simp [World.setCell]
            omega
          have hko : KeepsOthers W' (w5.setCell ⟨w.heap.size + 2, 0, none⟩ (.slice ca n5 ccap)) := by
            refine KeepsOthers.trans (B := w5) ⟨Nat.le_trans hW'Y.size hs5, fun k o hk ho => hkeep k o hk (fun e => ?_)⟩ (KeepsOthers.setCell _ _ _)
            obtain ⟨cur, hcur⟩ := ownsRow_block Hco.out e
            rw [hk] at hcur; cases hcur
            simp [Obj.isCells] at ho
          have c2' := cell_of_one hr2
          have f2' := row_free hr2 0
          have Hfin := Lib.hid hfin; clear hfin
          have Hko := Lib.hid hko; clear hko
          clear hkeep hr0 hr1 hr2 hi1 hi2 hmk hbe5 hs5 hco5 hown5 hgrow hvb happ hW'Y hown4 hbY c2 f2 hnl
          gi_wp2_with fail
          exact ⟨Hko.out, Hfin.out⟩
      case hdone =>
        rintro D W' hD ⟨ys, h1, h2, h3⟩ hK2
        have hnx : Fil.rgsN (L.map bas) (k + 1) = some (xs ++ ys) := by
          rw [Fil.rgsN, Hxs.out]
          have e : (L.map bas).getD k [] = bas g := by rw [List.getD_eq_getElem?_getD, List.getElem?_map, Hgk.out]; rfl
          rw [e]
          simp [h1]
        have hmk : Marks (w.heap.size + 3) (D :: Ds) W' := by
          have hlt3 : w.heap.size + 3 ≤ W.heap.size := by obtain ⟨v, hr, _⟩ := Hg.out.r2; have := row_lt hr; omega
          refine ⟨List.nodup_cons.2 ⟨fun e => ?_, Hm.out.1⟩, fun D' hD' => ?_⟩
          · have := hmD D e; omega
          · rcases List.mem_cons.1 hD' with rfl | hD'
            · exact ⟨by omega, hK2⟩
            · exact ⟨(Hm.out.2 D' hD').1, h3 D' hD'⟩
        have Hnx := Lib.hid hnx; clear hnx
        have Hmk := Lib.hid hmk; clear hmk
        have H2 := Lib.hid h2; clear h2
        clear h1 h3 hK2 hs1 hmD hwW
        gi_wp2_with fail
        refine ⟨⟨k + 1, .slice ga g.length gcap, .bool true, .pointer (some ⟨b, k, none⟩), .slice ga g.length gcap, .slice ga g.length gcap, .func (.func 147) #[] #[.pointer (some ⟨W.heap.size, 0, none⟩), .pointer (some ⟨W.heap.size + 1, 0, none⟩)], .int .i64 ((k : Int) + 1), D :: Ds, xs ++ ys, hlt, ?_, Hnx.out, H2.out, Hmk.out⟩, ?_⟩
        · unfold grAct
          rw [show ((k + 1 : Nat) : Int) = (k : Int) + 1 by omega]
          rfl
        unfold grMu
        simp [intOf]
        omega
      case hstop =>
        rintro D W' hD ⟨hOn, hbe, hr0, hr1, hms⟩ hK2
        subst hOn
        have hmk : Marks (w.heap.size + 3) (D :: Ds) W' := by
          have hlt3 : w.heap.size + 3 ≤ W.heap.size := by obtain ⟨v, hr, _⟩ := Hg.out.r2; have := row_lt hr; omega
          refine ⟨List.nodup_cons.2 ⟨fun e => ?_, Hm.out.1⟩, fun D' hD' => ?_⟩
          · have := hmD D e; omega
          · rcases List.mem_cons.1 hD' with rfl | hD'
            · exact ⟨by omega, hK2⟩
            · exact ⟨(Hm.out.2 D' hD').1, hms D' hD'⟩
        have Hmk := Lib.hid hmk; clear hmk
        have Hall := Lib.hid (And.intro hbe (And.intro hr0 hr1)); clear hbe hr0 hr1
        clear hms hK2 hs1 hmD hwW
        gi_wp2_with fail
        exact grp_leave (L := L) (Z := Z) (vg := .slice (some ⟨b, 0, none⟩) L.length cap) (Ds := D :: Ds) rfl rfl Hmk.out Hall.out.2.1 Hall.out.2.2 Hall.out.1 ⟨rfl, rfl⟩
end Go.Proofs.YtalklpnekbfehaaGreat
