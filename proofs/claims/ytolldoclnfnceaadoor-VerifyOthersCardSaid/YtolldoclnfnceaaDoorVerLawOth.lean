/-
  VerifyOthers: what is let be is let be, with the same kinds, where texts, or numbers, are others of it.
  Conditions: none.
-/
import Derived.Test.YtolldoclnfnceaaDoorVerLawC
import Derived.Test.YtolldoclnfnceaaDoorCards
import Derived.Test.YtolldoclnfnceaaDoorTie
import Derived.SevenTiedAt
import Derived.ProofKit
import Derived.OpenShut
import Derived.ShutString
import Derived.ChangeOld
import Derived.SliceStrings
namespace Go.Proofs.YtolldoclnfnceaaDoor.verifyOthers
open Go.ChangeShapes Go.WideShapes Go.ChangeAt Go.RowKit
open Go.ChangeMaps (open_string shut_string)
set_option linter.unusedVariables false
set_option maxRecDepth 100000

theorem flat_put : ∀ (cs : List Cod.In) (i : Nat) (y : Cod.In), i < cs.length → ((cs.flatMap insCells).set (i * 2) (.int .u8 (y.1.toNat : Int))).set (i * 2 + 1) (.int .u8 (y.2.toNat : Int)) = (cs.set i y).flatMap insCells
  | [], i, y, h => by cases h
  | x :: r, 0, y, h => rfl
  | x :: r, i + 1, y, h => by
    have ih := flat_put r i y (by simp only [List.length_cons] at h; omega)
    rw [List.set_cons_succ, List.flatMap_cons, List.flatMap_cons, ← ih, show (i + 1) * 2 = i * 2 + 2 by omega, show i * 2 + 2 + 1 = (i * 2 + 1) + 2 by omega]
    rfl
/-- the program's box, the first of the call's blocks -/
structure V1 (w : World) (x : Pv) (W : World) : Prop where
  b : Below w.heap.size w W
  p : W.heap[w.heap.size]? = some (.cells #[.slice x.a x.n x.c, .slice x.b x.m x.d] 25 (0, 0))
theorem V1.new {w W W' : World} {x : Pv} (h : V1 w x W) (hb : Below W.heap.size W W') : V1 w x W' := ⟨h.b.trans (hb.mono h.b.size), row_below h.p hb (row_lt h.p)⟩
theorem V1.turns {w W W' : World} {x : Pv} {S : Nat → Prop} (h : V1 w x W) (ht : Turns S W W') (h0 : ∀ j, S j → w.heap.size < j) : V1 w x W' :=
  ⟨h.b.trans (ht.below h.b.size (fun k _ hk => by have := h0 k hk; omega)), by rw [ht.block _ (row_lt h.p) (fun e => by have := h0 _ e; omega)]; exact h.p⟩
theorem V1.p0 {w W : World} {x : Pv} (h : V1 w x W) : W.cell? ⟨w.heap.size, 0, none⟩ = some (.slice x.a x.n x.c) := by rw [cell_at h.p]; rfl
theorem V1.p1 {w W : World} {x : Pv} (h : V1 w x W) : W.cell? ⟨w.heap.size, 1, none⟩ = some (.slice x.b x.m x.d) := by rw [cell_at h.p]; rfl
/-- a copy of the program, of the call's own, in its box; what lay there at W0 is kept -/
structure Bq (w : World) (x : Pv) (W0 : World) (b : Nat) (ts : List ByteArray) (cs : List Cod.In) (z : Pv) (W : World) : Prop where
  v : V1 w x W
  k : Below W0.heap.size W0 W
  o : PrOwn W0.heap.size z ts cs W
  r : W.heap[b]? = some (.cells #[.slice z.a z.n z.c, .slice z.b z.m z.d] 25 (0, 0))
  h0 : w.heap.size < W0.heap.size
section
variable {w W0 : World} {x z : Pv} {b : Nat} {ts : List ByteArray} {cs : List Cod.In} {W W' : World}
theorem Bq.new (h : Bq w x W0 b ts cs z W) (hb : Below W.heap.size W W') : Bq w x W0 b ts cs z W' := ⟨h.v.new hb, h.k.trans (hb.mono h.k.size), h.o.new hb, row_below h.r hb (row_lt h.r), h.h0⟩
theorem Bq.b0 (h : Bq w x W0 b ts cs z W) : W.cell? ⟨b, 0, none⟩ = some (.slice z.a z.n z.c) := by rw [cell_at h.r]; rfl
theorem Bq.b1 (h : Bq w x W0 b ts cs z W) : W.cell? ⟨b, 1, none⟩ = some (.slice z.b z.m z.d) := by rw [cell_at h.r]; rfl
/-- where a text lies, and what becomes of it -/
theorem Bq.text (h : Bq w x W0 b ts cs z W) {i : Nat} (hi : i < ts.length) : ∃ g, z.a = some ⟨g, 0, none⟩ ∧ W.cell? ⟨g, i, none⟩ = some (.string (ts.getD i .empty)) ∧ W.frozen? ⟨g, i, none⟩ = false ∧
    ∀ s, Bq w x W0 b (ts.set i s) cs z (W.setCell ⟨g, i, none⟩ (.string s)) := by
  rcases h.o.t.2 with ⟨_, h0⟩ | ⟨g, cap, cur, hv, hg, hh, hn, hcm, hcs, hct⟩
  · omega
  · simp only [Value.slice.injEq] at hv
    obtain ⟨e1, e2, e3⟩ := hv
    have hown : W.ownsRow W0.heap.size 9 1 (.slice (some ⟨g, 0, none⟩) ts.length z.c) ts.length (ts.map Value.string) := by
      have := h.o.t
      unfold TOwn at this
      rwa [e1, e2] at this
    have hu : (ts.map Value.string)[i]? = some (.string (ts.getD i .empty)) := by simp [List.getD_eq_getElem?_getD, hi]
    obtain ⟨c1, c2⟩ := owns_cell hown hu
    refine ⟨g, e1, c1, c2, fun s => ?_⟩
    have hs := grown_set W g i (.string s)
    have hset := owns_set hown (i := i) (by omega) (.string s)
    have hgb : g ≠ b := fun e => by
      rw [e, h.r] at hh
      simp only [Option.some.injEq, Obj.cells.injEq] at hh
      exact absurd hh.2.1 (by decide)
    have hgp : g ≠ w.heap.size := fun e => by
      rw [e, h.v.p] at hh
      simp only [Option.some.injEq, Obj.cells.injEq] at hh
      exact absurd hh.2.1 (by decide)
    refine ⟨h.v.turns (Turns.of_grown hs) (fun j hj => by have e : g = j := Option.some.inj hj; have := h.h0; omega), h.k.setCell hg _, ⟨?_, h.o.i.turned hs (h.o.i.off (by decide) hh)⟩, grown_row h.r hs (Ne.symm hgb), h.h0⟩
    unfold TOwn
    rw [List.length_set, List.map_set, e1, e2]
    exact hset
/-- where an instruction lies, and what becomes of it -/
theorem Bq.instr (h : Bq w x W0 b ts cs z W) {i : Nat} (hi : i < cs.length) : ∃ g, z.b = some ⟨g, 0, none⟩ ∧ W.cell? ⟨g, i * 2, none⟩ = some (.int .u8 ((cs.getD i (0, 0)).1.toNat : Int)) ∧ W.cell? ⟨g, i * 2 + 1, none⟩ = some (.int .u8 ((cs.getD i (0, 0)).2.toNat : Int)) ∧ g < W.heap.size ∧
    ∀ W', Below W.heap.size W W' → (W'.cell? ⟨g, i * 2, none⟩ = some (.int .u8 ((cs.getD i (0, 0)).1.toNat : Int)) ∧ W'.cell? ⟨g, i * 2 + 1, none⟩ = some (.int .u8 ((cs.getD i (0, 0)).2.toNat : Int))) ∧ (W'.frozen? ⟨g, i * 2, none⟩ = false ∧ W'.frozen? ⟨g, i * 2 + 1, none⟩ = false) ∧
    ∀ y : Cod.In, Bq w x W0 b ts (cs.set i y) z ((W'.setCell ⟨g, i * 2, none⟩ (.int .u8 (y.1.toNat : Int))).setCell ⟨g, i * 2 + 1, none⟩ (.int .u8 (y.2.toNat : Int))) := by
  have key : ∀ V, Bq w x W0 b ts cs z V → ∃ g, z.b = some ⟨g, 0, none⟩ ∧ V.cell? ⟨g, i * 2, none⟩ = some (.int .u8 ((cs.getD i (0, 0)).1.toNat : Int)) ∧ V.cell? ⟨g, i * 2 + 1, none⟩ = some (.int .u8 ((cs.getD i (0, 0)).2.toNat : Int)) ∧ g < V.heap.size ∧ V.frozen? ⟨g, i * 2, none⟩ = false ∧ V.frozen? ⟨g, i * 2 + 1, none⟩ = false ∧
      ∀ y : Cod.In, Bq w x W0 b ts (cs.set i y) z ((V.setCell ⟨g, i * 2, none⟩ (.int .u8 (y.1.toNat : Int))).setCell ⟨g, i * 2 + 1, none⟩ (.int .u8 (y.2.toNat : Int))) := by
    intro V h
    rcases h.o.i.2 with ⟨_, h0⟩ | ⟨g, cap, cur, hv, hg, hh, hn, hcm, hcs, hct⟩
    · omega
    · simp only [Value.slice.injEq] at hv
      obtain ⟨e1, e2, e3⟩ := hv
      have hown : V.ownsRow W0.heap.size 48 2 (.slice (some ⟨g, 0, none⟩) cs.length z.d) cs.length (cs.flatMap insCells) := by
        have := h.o.i
        unfold XOwn at this
        rwa [e1, e2] at this
      have hx : cs[i]? = some (cs.getD i (0, 0)) := by rw [List.getD_eq_getElem?_getD, List.getElem?_eq_getElem hi]; rfl
      have hu0 := insCells_at cs i _ hx 0 _ rfl
      have hu1 := insCells_at cs i _ hx 1 _ rfl
      rw [Nat.add_zero] at hu0
      obtain ⟨c1, c2⟩ := owns_cell hown hu0
      obtain ⟨c3, c4⟩ := owns_cell hown hu1
      refine ⟨g, e1, c1, c3, row_lt hh, c2, c4, fun y => ?_⟩
      have hs := grown_trans (grown_set V g (i * 2) (.int .u8 (y.1.toNat : Int))) (grown_set _ g (i * 2 + 1) (.int .u8 (y.2.toNat : Int)))
      have hset := owns_set (owns_set hown (i := i * 2) (by omega) (.int .u8 (y.1.toNat : Int))) (i := i * 2 + 1) (by omega) (.int .u8 (y.2.toNat : Int))
      have hfl : ((cs.flatMap insCells).set (i * 2) (.int .u8 (y.1.toNat : Int))).set (i * 2 + 1) (.int .u8 (y.2.toNat : Int)) = (cs.set i y).flatMap insCells := flat_put cs i y hi
      rw [hfl] at hset
      have hgb : g ≠ b := fun e => by
        rw [e, h.r] at hh
        simp only [Option.some.injEq, Obj.cells.injEq] at hh
        exact absurd hh.2.1 (by decide)
      have hgp : g ≠ w.heap.size := fun e => by
        rw [e, h.v.p] at hh
        simp only [Option.some.injEq, Obj.cells.injEq] at hh
        exact absurd hh.2.1 (by decide)
      refine ⟨h.v.turns (Turns.of_grown hs) (fun j hj => by have e : g = j := Option.some.inj hj; have := h.h0; omega), (h.k.setCell hg _).setCell hg _, ⟨h.o.t.turned hs (h.o.t.off (by decide) hh), ?_⟩, grown_row h.r hs (Ne.symm hgb), h.h0⟩
      unfold XOwn
      rw [List.length_set, e1, e2]
      exact hset
  obtain ⟨g, e1, c1, c2, hlt, _⟩ := key W h
  refine ⟨g, e1, c1, c2, hlt, fun W' hb => ?_⟩
  obtain ⟨g', e1', d1, d2, _, f1, f2, hy⟩ := key W' (h.new hb)
  rw [e1] at e1'
  simp only [Option.some.injEq, Addr.mk.injEq] at e1'
  obtain ⟨rfl, _⟩ := e1'
  exact ⟨⟨d1, d2⟩, ⟨f1, f2⟩, hy⟩
end


/-- a text, cut to what may be -/
def cutS (s : ByteArray) : ByteArray := s.extract 0 (min s.size 64)
theorem cutS_size (s : ByteArray) : (cutS s).size ≤ 64 := by
  unfold cutS
  rw [ByteArray.size_extract]
  omega
def halfT (tx us : List ByteArray) (k : Nat) : List ByteArray := (us.take k).map cutS ++ tx.drop k
theorem halfT_len {tx us : List ByteArray} {k : Nat} (h1 : k ≤ us.length) (h2 : k ≤ tx.length) : (halfT tx us k).length = tx.length := by
  unfold halfT
  rw [List.length_append, List.length_map, List.length_take, List.length_drop]
  omega
theorem halfT_step {tx us : List ByteArray} {k : Nat} (h1 : k < us.length) (h2 : k < tx.length) : (halfT tx us k).set k (cutS (us.getD k .empty)) = halfT tx us (k + 1) := by
  unfold halfT
  have hl : ((us.take k).map cutS).length = k := by rw [List.length_map, List.length_take]; omega
  rw [List.set_append, if_neg (by omega), hl, Nat.sub_self, List.drop_eq_getElem_cons h2, List.set_cons_zero, List.take_succ_eq_append_getElem h1, List.map_append, List.append_assoc, List.getD_eq_getElem?_getD, List.getElem?_eq_getElem h1]
  rfl
def halfC (b : UInt8) (cs : List Cod.In) (k : Nat) : List Cod.In := (cs.take k).map (Ver.other b) ++ cs.drop k
theorem halfC_len (b : UInt8) (cs : List Cod.In) (k : Nat) : (halfC b cs k).length = cs.length := by
  unfold halfC
  rw [List.length_append, List.length_map, List.length_take, List.length_drop]
  omega
theorem halfC_get (b : UInt8) {cs : List Cod.In} {k : Nat} (h : k < cs.length) : (halfC b cs k).getD k (0, 0) = cs.getD k (0, 0) := by
  unfold halfC
  have hl : ((cs.take k).map (Ver.other b)).length = k := by rw [List.length_map, List.length_take]; omega
  rw [List.getD_eq_getElem?_getD, List.getElem?_append_right (by omega), hl, Nat.sub_self, List.getElem?_drop, Nat.add_zero, ← List.getD_eq_getElem?_getD]
theorem halfC_step (b : UInt8) {cs : List Cod.In} {k : Nat} (h : k < cs.length) : (halfC b cs k).set k (Ver.other b (cs.getD k (0, 0))) = halfC b cs (k + 1) := by
  unfold halfC
  have hl : ((cs.take k).map (Ver.other b)).length = k := by rw [List.length_map, List.length_take]; omega
  rw [List.set_append, if_neg (by omega), hl, Nat.sub_self, List.drop_eq_getElem_cons h, List.set_cons_zero, List.take_succ_eq_append_getElem h, List.map_append, List.append_assoc, List.getD_eq_getElem?_getD, List.getElem?_eq_getElem h]
  rfl
theorem others_same {tx us : List ByteArray} {cs : List Cod.In} {b : UInt8} {role k : Nat} (h1 : k ≤ us.length) (h2 : k ≤ tx.length) (hz : ∀ j, j < tx.length → (tx.getD j .empty).size ≤ 64) :
    Ver.check (prog (halfT tx us k) (cs.map (Ver.other b))) role = Ver.check (prog tx cs) role := by
  have hz' : ∀ t ∈ tx, t.size ≤ 64 := fun t ht => by
    obtain ⟨j, hj, rfl⟩ := List.getElem_of_mem ht
    have := hz j hj
    rwa [List.getD_eq_getElem?_getD, List.getElem?_eq_getElem hj] at this
  refine Ver.check_other (p := prog tx cs) (q := prog (halfT tx us k) (cs.map (Ver.other b))) ?_ (fun t ht => ?_) (fun t ht => ?_) rfl
  · show (lists tx).length = (lists (halfT tx us k)).length
    rw [lists_length, lists_length, halfT_len h1 h2]
  · obtain ⟨s, hs, rfl⟩ := List.mem_map.1 ht
    rw [ba_len]
    exact hz' s hs
  · obtain ⟨s, hs, rfl⟩ := List.mem_map.1 ht
    rw [ba_len]
    unfold halfT at hs
    rcases List.mem_append.1 hs with h | h
    · obtain ⟨u, _, rfl⟩ := List.mem_map.1 h
      exact cutS_size u
    · exact hz' s (List.mem_of_mem_drop h)
theorem other_nums (b : UInt8) (x : Cod.In) : (Ver.other b x).1.toNat = x.1.toNat ∧ ((x.1.toNat = 2 ∨ x.1.toNat = 22) → (Ver.other b x).2.toNat = (x.2.toNat + b.toNat) % 256) ∧ (¬ (x.1.toNat = 2 ∨ x.1.toNat = 22) → (Ver.other b x).2.toNat = x.2.toNat) := by
  have e2 : x.1 = 2 ↔ x.1.toNat = 2 := ⟨fun h => by rw [h]; rfl, fun h => UInt8.toNat_inj.1 h⟩
  have e22 : x.1 = 22 ↔ x.1.toNat = 22 := ⟨fun h => by rw [h]; rfl, fun h => UInt8.toNat_inj.1 h⟩
  simp only [← e2, ← e22]
  unfold Ver.other
  split
  · rename_i h
    exact ⟨rfl, fun _ => UInt8.toNat_add _ _, fun h' => absurd h h'⟩
  · rename_i h
    exact ⟨rfl, fun h' => absurd h' h, fun _ => rfl⟩
theorem vkinds_le (tx : List ByteArray) (cs : List Cod.In) (role : Nat) : (vKinds (Ver.check (prog tx cs) role)).length ≤ cs.length := by
  unfold Ver.check
  split
  · cases h : Ver.all (prog tx cs).ts.length role (prog tx cs).cs with
    | error x => exact Nat.zero_le _
    | ok f =>
      unfold vKinds
      rw [List.length_map, (Ver.all_kinds h).1]
      exact Nat.le_refl _
  · exact Nat.zero_le _
/-- what stays from call to call -/
structure S1 (w : World) (x : Pv) (tx : List ByteArray) (cs : List Cod.In) (a : Option Addr) (n : Nat) (us : List ByteArray) (W : World) : Prop where
  v : V1 w x W
  k : Kn W
  p : PrAt x tx cs W
  u : Strs a n us W
theorem S1.new {w W W' : World} {x : Pv} {tx us : List ByteArray} {cs : List Cod.In} {a : Option Addr} {n : Nat} (h : S1 w x tx cs a n us W) (hb : Below W.heap.size W W') : S1 w x tx cs a n us W' := ⟨h.v.new hb, h.k.keep hb, h.p.keep hb, h.u.keep hb⟩

set_option maxHeartbeats 60000000 in
theorem walk (x : Pv) (tx : List ByteArray) (cs : List Cod.In) (role : Nat) (ua : Option Addr) (un uc : Nat) (us : List ByteArray) (by_ : UInt8) (w : World) (hk : Kn w) (hp : PrAt x tx cs w) (hz : ∀ t ∈ tx, t.size ≤ 140737488351232) (hn : x.n ≤ 8796093022208) (hm : x.m ≤ 70368744177664)
    (hu : Strs ua un us w) (uz : ∀ t ∈ us, t.size ≤ 140737488351232) (ul : un ≤ 140737488351232) : Calls Tryd.prog 4 #[x.v, .int .u8 (role : Int), .slice ua un uc, .int .u8 (by_.toNat : Int)] w fun e w' => e = .returned (.bool true) ∧ Below w.heap.size w w' := by
  have cL := fun u (h : PrAt x tx cs u) => large_any h (by omega) (by omega) (fun y hy => by have := hz y hy; omega)
  have cK := fun u (h : PrAt x tx cs u) (k : Kn u) => vkinds_any h k role (by omega) (by omega)
  have cA := fun u (k : Kn u) => alive_any u k
  have cC := fun u (h : PrAt x tx cs u) (hm' : x.m ≤ 8796093022208) => refCopy12_own h hn hm'
  have hS : S1 w x tx cs ua un us (w.alloc (.cells #[.slice x.a x.n x.c, .slice x.b x.m x.d] 25)) := by
    have h1 := obj_below w (.cells #[.slice x.a x.n x.c, .slice x.b x.m x.d] 25)
    exact ⟨⟨h1, alloc_at rfl⟩, hk.keep h1, hp.keep h1, hu.keep h1⟩
  have hlx := hp.n
  have hmx := hp.m
  have hlu := hu.1
  obtain ⟨LP, hLP⟩ : ∃ LP, LP = largeB tx cs.length := ⟨_, rfl⟩
  obtain ⟨E1, hE1⟩ : ∃ E1, E1 = Ver.check (prog tx cs) role := ⟨_, rfl⟩
  rw [← hLP] at cL
  rw [← hE1] at cK
  obtain ⟨xa, xn, xc, xb, xm, xd⟩ := x
  simp only at hn hm hlx hmx
  unfold Pv.v at cL cK cC ⊢
  simp only at cL cK cC hS ⊢
  have HS := Lib.hid hS; clear hS
  have HCL := Lib.hid cL; clear cL
  have HCK := Lib.hid cK; clear cK
  have HCA := Lib.hid cA; clear cA
  have HCC := Lib.hid cC; clear cC
  have HLP := Lib.hid hLP; clear hLP
  have HE1 := Lib.hid hE1; clear hE1
  have HLX := Lib.hid hlx; clear hlx
  have HMX := Lib.hid hmx; clear hmx
  have HLU := Lib.hid hlu; clear hlu
  have HP := Lib.hid hp; clear hp
  have HU := Lib.hid hu; clear hu
  have HKN := Lib.hid hk; clear hk
  have HUZ := Lib.hid uz; clear uz
  clear hz
  go_enter Tryd.func4, Tryd.ntmps4
  go_wp2_with fail
  refine (HCL.out _ HS.out.p).mono ?_; rintro e w1 ⟨rfl, b1⟩
  have H1 := Lib.hid (HS.out.new b1); clear b1 HS
  have p0 := H1.out.v.p0
  have p1 := H1.out.v.p1
  simp only at p0 p1
  cases LP with
  | true =>
    clear p0 p1
    go_wp2_with fail
    refine (HCA.out _ H1.out.k).mono ?_; rintro e wz ⟨rfl, bz⟩
    have HZ := Lib.hid (H1.out.v.b.trans (bz.mono H1.out.v.b.size)); clear bz
    go_wp2_with fail
    go_ret
    exact ⟨rfl, HZ.out⟩
  | false =>
    by_cases g1 : 20 < un
    · have d1 : decide ((20 : Int) < (un : Int)) = true := decide_eq_true (by omega)
      have d2 : (20 : Int) < (un : Int) := by omega
      go_wp2_with fail
      refine (HCA.out _ H1.out.k).mono ?_; rintro e wz ⟨rfl, bz⟩
      have HZ := Lib.hid (H1.out.v.b.trans (bz.mono H1.out.v.b.size)); clear bz
      go_wp2_with fail
      go_ret
      exact ⟨rfl, HZ.out⟩
    have d1 : decide ((20 : Int) < (un : Int)) = false := decide_eq_false (by omega)
    have d2 : ¬ (20 : Int) < (un : Int) := by omega
    have hx1 := largeB_false HLP.out.symm
    have hxm : xm ≤ 4000 := by have := HMX.out; omega
    have hxn : xn ≤ 40 := by have := HLX.out; omega
    have htot := hx1.2
    have Htot := Lib.hid htot
    clear hx1 htot
    go_wp2_with fail
    refine (HCK.out _ H1.out.p H1.out.k).mono ?_; rintro e w2 ⟨v1, rfl, s1, b2⟩
    clear p0 p1
    have H2 := Lib.hid (H1.out.new b2); clear b2 H1
    have p0 := H2.out.v.p0
    have p1 := H2.out.v.p1
    simp only at p0 p1
    obtain ⟨k1, kc1, hv1⟩ := s1.form
    obtain ⟨KL, hKL⟩ : ∃ KL, KL = (vKinds E1).length := ⟨_, rfl⟩
    rw [← hKL] at hv1
    have S1_ := Lib.hid s1; clear s1
    have HKL := Lib.hid hKL; clear hKL
    subst hv1
    go_wp2_with fail
    refine (HCC.out _ H2.out.p (show xm ≤ 8796093022208 by omega)).mono ?_; rintro e w3 ⟨z, rfl, ho3, b3⟩
    clear p0 p1
    have h3 := H2.out.new b3
    have hw02 : w.heap.size < w2.heap.size := row_lt H2.out.v.p
    have hk3 := b3
    clear b3 H2
    have hb4 := obj_below w3 (.cells #[.slice z.a z.n z.c, .slice z.b z.m z.d] 25)
    have hB4 : Bq w ⟨xa, xn, xc, xb, xm, xd⟩ w2 w3.heap.size tx cs z (w3.alloc (.cells #[.slice z.a z.n z.c, .slice z.b z.m z.d] 25)) := ⟨(h3.new hb4).v, hk3.trans (hb4.mono hk3.size), ho3.new hb4, alloc_at rfl, hw02⟩
    have hzn : z.n = xn := by have := (ho3.at_).n; rw [HLX.out] at this; exact this.symm
    have hzm : z.m = xm := by have := (ho3.at_).m; rw [HMX.out] at this; exact this.symm
    obtain ⟨b9, hb9⟩ : ∃ b9, b9 = w3.heap.size := ⟨_, rfl⟩
    have hb9w : w.heap.size < b9 := by rw [hb9]; exact row_lt h3.v.p
    have hKN3 := h3.k
    obtain ⟨za, zn, zc, zb, zm, zd⟩ := z
    simp only at hzn hzm hB4 hb4
    subst hzn
    subst hzm
    rw [← hb9] at hB4
    have HB4 := Lib.hid hB4; clear hB4
    clear ho3 h3 HCL HCK HCC hb4 hKN3 hk3
    go_wp2_with fail
    obtain ⟨W4, hW4⟩ : ∃ W4, W4 = (w3.alloc (.cells #[.slice za zn zc, .slice zb zm zd] 25)) := ⟨_, rfl⟩
    rw [← hW4] at HB4
    rw [← hW4, ← hb9]
    have Hb3 := Lib.hid hb9; clear hb9
    clear hW4
    go_loopw [12] (fun i wr => ∃ k : Nat, k ≤ zn ∧ k ≤ un ∧ i = .int .i64 (k : Int) ∧ Bq w ⟨xa, zn, xc, xb, zm, xd⟩ w2 b9 (halfT tx us k) cs ⟨za, zn, zc, zb, zm, zd⟩ wr) (fun i _ => zn - (intOf i).toNat)
    case atStart => exact ⟨0, Nat.zero_le _, Nat.zero_le _, rfl, HB4.out⟩
    case round =>
      clear HB4
      obtain ⟨k, hk1, hk2, rfl, hB⟩ := hrel
      have e0 : wr.cell? ⟨b9, 0, none⟩ = some (.slice za zn zc) := hB.b0
      by_cases g3 : k < zn
      · have g3' : decide (k < zn) = true := decide_eq_true g3
        have g3i : (k : Int) < (zn : Int) := by omega
        by_cases g4 : k < un
        · have g4' : decide (k < un) = true := decide_eq_true g4
          have g4i : (k : Int) < (un : Int) := by omega
          obtain ⟨g, hga, hc, hf, hset⟩ := hB.text (i := k) (by rw [halfT_len (by rw [HLU.out]; omega) (by rw [HLX.out]; omega), HLX.out]; exact g3)
          simp only at hga
          obtain ⟨ub, uo, rfl, hcu⟩ := (HU.out.keep hB.v.b).2 k g4
          have hst := halfT_step (tx := tx) (us := us) (k := k) (by rw [HLU.out]; exact g4) (by rw [HLX.out]; exact g3)
          have hsn := hset (cutS (us.getD k .empty))
          rw [hst] at hsn
          obtain ⟨T, hT⟩ : ∃ T, T = us.getD k .empty := ⟨_, rfl⟩
          have hTz : T.size ≤ 140737488351232 := by
            rw [hT, List.getD_eq_getElem?_getD, List.getElem?_eq_getElem (show k < us.length by rw [HLU.out]; exact g4)]
            exact HUZ.out _ (List.getElem_mem _)
          rw [← hT] at hcu hsn
          obtain ⟨M, hM⟩ : ∃ M, M = min T.size 64 := ⟨_, rfl⟩
          have hMi : min (T.size : Int) 64 = (M : Int) := by omega
          have hcut : cutS T = T.extract 0 M := by unfold cutS; rw [← hM]
          rw [hcut] at hsn
          have hMs : M ≤ T.size := by omega
          have hsl : ∀ u, (Instr.sliceAt 9 (.string T) none (some (.int .i64 (M : Int))) none).run Tryd.prog u = .ok (.string (T.extract 0 M)) u := fun u => text_head T M hMs u
          have HSL := Lib.hid hsl; clear hsl
          have HSN := Lib.hid hsn; clear hsn
          have HB := Lib.hid hB; clear hB
          clear hset hst hT hM hcut
          subst hga
          go_wp2_with fail
          refine wp_region_text [0, 1, 2, 3, 4, 5, 6, 7, 8, 9, 10, 11, 12, 13, 14] [] [15] (by kernel_rfl) (by kernel_rfl) (fun z => z.cell? ⟨b9, 0, none⟩ = some (.slice (some ⟨g, 0, none⟩) zn zc) ∧ z.cell? ⟨ub, uo + k, none⟩ = some (.string T)) ⟨e0, hcu⟩ ?_
          simp only [pick, List.filterMap_cons, List.filterMap_nil, List.getElem?_toArray, List.getElem?_cons_zero, List.getElem?_cons_succ]
          refine take_one (.pointer (some ⟨b9, 0, none⟩)) rfl (fun u _ => by go_simp) ?_
          simp only [Act.put, List.setIfInBounds_toArray, List.set_cons_zero, List.set_cons_succ]
          refine take_load 22 (.tmp 47) ⟨b9, 0, none⟩ (.slice (some ⟨g, 0, none⟩) zn zc) rfl rfl rfl (fun u hu => load_at Tryd.underlying22 Tryd.isAgg22 hu.1) ?_
          simp only [Act.put, List.setIfInBounds_toArray, List.set_cons_zero, List.set_cons_succ]
          refine take_move (.tmp 12) (.int .i64 (k : Int)) rfl rfl rfl ?_
          simp only [Act.put, List.setIfInBounds_toArray, List.set_cons_zero, List.set_cons_succ]
          refine take_move (.tmp 2) (.slice (some ⟨ub, uo, none⟩) un uc) rfl rfl rfl ?_
          simp only [Act.put, List.setIfInBounds_toArray, List.set_cons_zero, List.set_cons_succ]
          refine take_move (.tmp 12) (.int .i64 (k : Int)) rfl rfl rfl ?_
          simp only [Act.put, List.setIfInBounds_toArray, List.set_cons_zero, List.set_cons_succ]
          refine take_one (.pointer (some ⟨ub, uo + k, none⟩)) rfl (fun u hu => by go_simp) ?_
          simp only [Act.put, List.setIfInBounds_toArray, List.set_cons_zero, List.set_cons_succ]
          refine take_load 9 (.tmp 52) ⟨ub, uo + k, none⟩ (.string T) rfl rfl rfl (fun u hu => load_at Tryd.underlying9 Tryd.isAgg9 hu.2) ?_
          simp only [Act.put, List.setIfInBounds_toArray, List.set_cons_zero, List.set_cons_succ]
          refine take_move (.tmp 2) (.slice (some ⟨ub, uo, none⟩) un uc) rfl rfl rfl ?_
          simp only [Act.put, List.setIfInBounds_toArray, List.set_cons_zero, List.set_cons_succ]
          refine take_move (.tmp 12) (.int .i64 (k : Int)) rfl rfl rfl ?_
          simp only [Act.put, List.setIfInBounds_toArray, List.set_cons_zero, List.set_cons_succ]
          refine take_one (.pointer (some ⟨ub, uo + k, none⟩)) rfl (fun u hu => by go_simp) ?_
          simp only [Act.put, List.setIfInBounds_toArray, List.set_cons_zero, List.set_cons_succ]
          refine take_load 9 (.tmp 56) ⟨ub, uo + k, none⟩ (.string T) rfl rfl rfl (fun u hu => load_at Tryd.underlying9 Tryd.isAgg9 hu.2) ?_
          simp only [Act.put, List.setIfInBounds_toArray, List.set_cons_zero, List.set_cons_succ]
          refine take_one (.int .i64 (T.size : Int)) rfl (fun u hu => by go_simp) ?_
          simp only [Act.put, List.setIfInBounds_toArray, List.set_cons_zero, List.set_cons_succ]
          refine take_one (.int .i64 (M : Int)) rfl (fun u hu => by go_simp) ?_
          simp only [Act.put, List.setIfInBounds_toArray, List.set_cons_zero, List.set_cons_succ]
          refine take_one (.string (T.extract 0 M)) rfl (fun u hu => run_sub_hi 9 (.tmp 53) (.tmp 59) rfl _ _ _ rfl rfl (HSL.out u)) ?_
          simp only [Act.put, List.setIfInBounds_toArray, List.set_cons_zero, List.set_cons_succ]
          refine take_one (.pointer (some ⟨g, k, none⟩)) rfl (fun u hu => by go_simp) ?_
          simp only [Act.put, List.setIfInBounds_toArray, List.set_cons_zero, List.set_cons_succ]
          refine take_done ?_
          refine mid_list ?_
          have hc' : wr.drew.cell? ⟨g, k, none⟩ = some (.string ((halfT tx us k).getD k .empty)) := hc
          have hf' : wr.drew.frozen? ⟨g, k, none⟩ = false := hf
          go_wp2_with fail
          refine NoPanic.normal ?_
          go_wp2_with fail
          go_roundw
          case rel => exact ⟨k + 1, by omega, by omega, by go_num, HSN.out.new ((Below.refl _ _).drew)⟩
          case measure => simp [intOf]; omega
        · have g4' : decide (k < un) = false := decide_eq_false g4
          have g4i : ¬ (k : Int) < (un : Int) := by omega
          have hkx : k ≤ us.length := by rw [HLU.out]; exact hk2
          have hky : k ≤ tx.length := by rw [HLX.out]; exact hk1
          obtain ⟨TS, hTS⟩ : ∃ TS, TS = halfT tx us k := ⟨_, rfl⟩
          have hoth := fun (hz : ∀ j, j < tx.length → (tx.getD j .empty).size ≤ 64) => others_same (cs := cs) (b := by_) (role := role) hkx hky hz
          rw [← hTS] at hoth hB
          have HO := Lib.hid hoth; clear hoth
          have HB := Lib.hid hB; clear hB
          clear hTS hkx hky
          go_wp2_with fail
          go_loopw [13] (fun i wr => ∃ j : Nat, j ≤ zm ∧ i = .int .i64 (j : Int) ∧ Bq w ⟨xa, zn, xc, xb, zm, xd⟩ w2 b9 TS (halfC by_ cs j) ⟨za, zn, zc, zb, zm, zd⟩ wr) (fun i _ => zm - (intOf i).toNat)
          case atStart => exact ⟨0, Nat.zero_le _, rfl, HB.out⟩
          case round =>
            clear HB
            obtain ⟨j, hj, rfl, hB⟩ := hrel
            have e1 : wr.cell? ⟨b9, 1, none⟩ = some (.slice zb zm zd) := hB.b1
            by_cases g5 : j < zm
            · have g5' : decide (j < zm) = true := decide_eq_true g5
              have g5i : (j : Int) < (zm : Int) := by omega
              have hjl : j < cs.length := by rw [HMX.out]; exact g5
              obtain ⟨g, hgb, c1, c2, hglt, hset⟩ := hB.instr (i := j) (by rw [halfC_len]; exact hjl)
              rw [halfC_get by_ hjl] at c1 c2
              simp only at hgb
              subst hgb
              have hst := halfC_step by_ hjl
              obtain ⟨X, hX⟩ : ∃ X, X = cs.getD j (0, 0) := ⟨_, rfl⟩
              rw [← hX] at c1 c2 hst
              obtain ⟨Y, hY⟩ : ∃ Y, Y = Ver.other by_ X := ⟨_, rfl⟩
              rw [← hY] at hst
              have hx1 := X.1.toNat_lt
              have hx2 := X.2.toNat_lt
              have hW := obj_below wr (.cells #[.int .u8 (X.1.toNat : Int), .int .u8 (X.2.toNat : Int)] 48)
              have hV := obj_below wr (.cells #[.int .u8 (Y.1.toNat : Int), .int .u8 (Y.2.toNat : Int)] 48)
              have eX : (wr.alloc (.cells #[.int .u8 (X.1.toNat : Int), .int .u8 (X.2.toNat : Int)] 48)).cell? ⟨b9, 1, none⟩ = some (.slice (some ⟨g, 0, none⟩) zm zd) := (hB.new hW).b1
              have eY : (wr.alloc (.cells #[.int .u8 (Y.1.toNat : Int), .int .u8 (Y.2.toNat : Int)] 48)).cell? ⟨b9, 1, none⟩ = some (.slice (some ⟨g, 0, none⟩) zm zd) := (hB.new hV).b1
              obtain ⟨f1, f2⟩ := (hset _ (Below.refl _ _)).2.1
              have hnext := (hset _ hV).2.2
              have hn' := hnext Y
              rw [hst] at hn'
              rw [World.setCell_alloc_past _ _ _ _ (w := wr) (by omega), World.setCell_alloc_past _ _ _ _ (by rw [World.size_setCell]; omega)] at hn'
              have HB := Lib.hid hB; clear hB
              clear hset hnext hst hW hV
              obtain ⟨o, ho⟩ : ∃ o, o = X.1.toNat := ⟨_, rfl⟩
              obtain ⟨a, ha⟩ : ∃ a, a = X.2.toNat := ⟨_, rfl⟩
              obtain ⟨o', ho'⟩ : ∃ o', o' = Y.1.toNat := ⟨_, rfl⟩
              obtain ⟨a', ha'⟩ : ∃ a', a' = Y.2.toNat := ⟨_, rfl⟩
              obtain ⟨hoo, hyes, hno⟩ := other_nums by_ X
              rw [← hY] at hoo hyes hno
              rw [← ho', ← ho] at hoo
              rw [← ho, ← ha, ← ha'] at hyes hno
              rw [← ho, ← ha] at eX
              rw [← ho'] at eY hn'
              rw [← ha'] at eY hn'
              rw [← ho] at c1 hx1
              rw [← ha] at c2 hx2
              rw [hoo] at eY hn'
              clear hoo ho' ha' ho ha hY hX
              obtain ⟨y, hy⟩ : ∃ y, y = by_.toNat := ⟨_, rfl⟩
              rw [← hy] at hyes
              by_cases ho2 : o = 2
              · subst ho2
                have hw : IntKind.u8.wrap ((a : Int) + (y : Int)) = (a' : Int) := by have := hyes (Or.inl rfl); simp only [IntKind.wrap_u8]; omega
                have hw2 : IntKind.u8.wrap ((a : Int) + (by_.toNat : Int)) = (a' : Int) := by rw [← hy]; exact hw
                clear hno hyes hy hx1 hx2
                have eYq : (wr.alloc (.cells #[.int .u8 2, .int .u8 (a' : Int)] 48)).cell? ⟨b9, 1, none⟩ = some (.slice (some ⟨g, 0, none⟩) zm zd) := eY
                have eXq : (wr.alloc (.cells #[.int .u8 2, .int .u8 (a : Int)] 48)).cell? ⟨b9, 1, none⟩ = some (.slice (some ⟨g, 0, none⟩) zm zd) := eX
                have c1q : wr.cell? ⟨g, j * 2, none⟩ = some (.int .u8 2) := c1
                have HNQ := Lib.hid (show Bq w ⟨xa, zn, xc, xb, zm, xd⟩ w2 b9 TS (halfC by_ cs (j + 1)) ⟨za, zn, zc, some ⟨g, 0, none⟩, zm, zd⟩ (((wr.setCell ⟨g, j * 2, none⟩ (.int .u8 2)).setCell ⟨g, j * 2 + 1, none⟩ (.int .u8 (a' : Int))).alloc (.cells #[.int .u8 2, .int .u8 (a' : Int)] 48)) from hn')
                clear eX eY c1 hn'
                go_wp2_with fail
                go_roundw
                case rel => exact ⟨j + 1, by omega, by go_num, HNQ.out⟩
                case measure => simp [intOf]; omega
              · by_cases ho22 : o = 22
                · subst ho22
                  have hw : IntKind.u8.wrap ((a : Int) + (y : Int)) = (a' : Int) := by have := hyes (Or.inr rfl); simp only [IntKind.wrap_u8]; omega
                  have hw2 : IntKind.u8.wrap ((a : Int) + (by_.toNat : Int)) = (a' : Int) := by rw [← hy]; exact hw
                  clear hno hyes hy hx1 hx2 ho2
                  have eYq : (wr.alloc (.cells #[.int .u8 22, .int .u8 (a' : Int)] 48)).cell? ⟨b9, 1, none⟩ = some (.slice (some ⟨g, 0, none⟩) zm zd) := eY
                  have eXq : (wr.alloc (.cells #[.int .u8 22, .int .u8 (a : Int)] 48)).cell? ⟨b9, 1, none⟩ = some (.slice (some ⟨g, 0, none⟩) zm zd) := eX
                  have c1q : wr.cell? ⟨g, j * 2, none⟩ = some (.int .u8 22) := c1
                  have HNQ := Lib.hid (show Bq w ⟨xa, zn, xc, xb, zm, xd⟩ w2 b9 TS (halfC by_ cs (j + 1)) ⟨za, zn, zc, some ⟨g, 0, none⟩, zm, zd⟩ (((wr.setCell ⟨g, j * 2, none⟩ (.int .u8 22)).setCell ⟨g, j * 2 + 1, none⟩ (.int .u8 (a' : Int))).alloc (.cells #[.int .u8 22, .int .u8 (a' : Int)] 48)) from hn')
                  clear eX eY c1 hn'
                  go_wp2_with fail
                  go_roundw
                  case rel => exact ⟨j + 1, by omega, by go_num, HNQ.out⟩
                  case measure => simp [intOf]; omega
                · obtain rfl : a' = a := hno (by omega)
                  have do2 : ((o : Int) == 2) = false := beq_eq_false_iff_ne.2 (by omega)
                  have do22 : ((o : Int) == 22) = false := beq_eq_false_iff_ne.2 (by omega)
                  clear hno hyes hy hx1 hx2 ho2 ho22
                  go_wp2_with fail
                  go_roundw
                  case rel => exact ⟨j + 1, by omega, by go_num, hn'⟩
                  case measure => simp [intOf]; omega
            · obtain rfl : j = zm := by omega
              have g5' : decide (j < j) = false := decide_eq_false (by omega)
              have g5i : ¬ (j : Int) < (j : Int) := by omega
              have hall : halfC by_ cs j = cs.map (Ver.other by_) := by unfold halfC; rw [List.take_of_length_le (by rw [HMX.out]; exact Nat.le_refl _), List.drop_of_length_le (by rw [HMX.out]; exact Nat.le_refl _), List.append_nil]
              rw [hall] at hB
              have hkr := HKN.out.keep hB.v.b
              have hck := vkinds_any hB.o.at_ hkr role (show zn ≤ _ by omega) (show j ≤ _ by omega)
              obtain ⟨E2, hE2⟩ : ∃ E2, E2 = Ver.check (prog TS (cs.map (Ver.other by_))) role := ⟨_, rfl⟩
              rw [← hE2] at hck
              have ho := HO.out
              rw [← hE2, ← HE1.out] at ho
              have HO2 := Lib.hid ho; clear ho HO
              have e2 : wr.cell? ⟨b9, 0, none⟩ = some (.slice za zn zc) := hB.b0
              unfold Pv.v at hck
              simp only at hck
              have HB := Lib.hid hB; clear hB
              have HCK2 := Lib.hid hck; clear hck
              have HKR := Lib.hid hkr; clear hkr
              clear hall hE2
              go_wp2_with fail
              refine HCK2.out.mono ?_; rintro e w5 ⟨v2, rfl, s2, b5⟩
              obtain ⟨k2, kc2, hv2⟩ := s2.form
              obtain ⟨KL2, hKL2⟩ : ∃ KL2, KL2 = (vKinds E2).length := ⟨_, rfl⟩
              rw [← hKL2] at hv2
              have HKL2 := Lib.hid hKL2; clear hKL2
              subst hv2
              have HB5 := Lib.hid (HB.out.new b5)
              have HK5 := Lib.hid (HKR.out.keep b5); clear b5
              have HS2 := Lib.hid s2; clear s2
              clear e1 e2 HB HKR HCK2
              go_wp2_with fail
              go_loopw [17] (fun i wq => ∃ m : Nat, m ≤ zn ∧ i = .int .i64 (m : Int) ∧ (∀ j, j < m → (tx.getD j .empty).size ≤ 64) ∧ Below w5.heap.size w5 wq) (fun i _ => zn - (intOf i).toNat)
              case atStart => exact ⟨0, Nat.zero_le _, rfl, fun j h => absurd h (by omega), Below.refl _ _⟩
              case round =>
                obtain ⟨m, hm3, rfl, hsm, b6⟩ := hrel
                have hB6 := HB5.out.new b6
                have q0 : wr.cell? ⟨w.heap.size, 0, none⟩ = some (.slice xa zn xc) := hB6.v.p0
                by_cases g6 : m < zn
                · have g6' : decide (m < zn) = true := decide_eq_true g6
                  have g6i : (m : Int) < (zn : Int) := by omega
                  obtain ⟨tb, to, hta, htc⟩ := (HP.out.keep hB6.v.b).t.2 m g6
                  simp only at hta
                  subst hta
                  obtain ⟨T, hT⟩ : ∃ T, T = tx.getD m .empty := ⟨_, rfl⟩
                  rw [← hT] at htc
                  by_cases g7 : 64 < T.size
                  · have d7 : decide ((64 : Int) < (T.size : Int)) = true := decide_eq_true (by omega)
                    have d7i : (64 : Int) < (T.size : Int) := by omega
                    have HB6 := Lib.hid hB6; clear hB6
                    have HK6 := Lib.hid (HK5.out.keep b6); clear b6
                    clear hT
                    go_wp2_with fail
                    refine (HCA.out _ HK6.out).mono ?_; rintro e wz ⟨rfl, bz⟩
                    have HZ := Lib.hid (HB6.out.v.b.trans (bz.mono HB6.out.v.b.size)); clear bz
                    go_wp2_with fail
                    go_ret
                    exact ⟨rfl, HZ.out⟩
                  · have d7 : decide ((64 : Int) < (T.size : Int)) = false := decide_eq_false (by omega)
                    have d7i : ¬ (64 : Int) < (T.size : Int) := by omega
                    have hsm' : ∀ j, j < m + 1 → (tx.getD j .empty).size ≤ 64 := fun j h => by
                      by_cases e : j < m
                      · exact hsm j e
                      · obtain rfl : j = m := by omega
                        rw [← hT]; omega
                    have HSM := Lib.hid hsm'; clear hsm'
                    have HB6 := Lib.hid b6; clear b6
                    clear hT hB6 hsm
                    go_wp2_with fail
                    go_roundw
                    case rel => exact ⟨m + 1, by omega, by go_num, HSM.out, HB6.out⟩
                    case measure => simp [intOf]; omega
                · obtain rfl : m = zn := by omega
                  have g6' : decide (m < m) = false := decide_eq_false (by omega)
                  have g6i : ¬ (m : Int) < (m : Int) := by omega
                  have hE : E2 = E1 := HO2.out (fun j h => hsm j (by rw [← HLX.out]; exact h))
                  subst hE
                  obtain rfl : KL2 = KL := by rw [HKL2.out, HKL.out]
                  have hsa := vsame_any _ _ _ _ (S1_.out.new hB6.k) (HS2.out.new b6) (by rw [HE1.out]; have := vkinds_le tx cs role; have := HMX.out; omega)
                  obtain ⟨ER, hER⟩ : ∃ ER, ER = vErr E2 := ⟨_, rfl⟩
                  rw [← hER]
                  have HSA := Lib.hid hsa; clear hsa
                  have HB6 := Lib.hid hB6; clear hB6
                  have HK6 := Lib.hid (HK5.out.keep b6); clear b6
                  clear hsm hER
                  have der : ((ER : Int) == (ER : Int)) = true := beq_self_eq_true _
                  go_wp2_with fail
                  refine HSA.out.mono ?_; rintro e w7 ⟨rfl, b7⟩
                  have HB7 := Lib.hid (HB6.out.v.b.trans (b7.mono HB6.out.v.b.size))
                  have HK7 := Lib.hid (HK6.out.keep b7); clear b7 HSA
                  clear q0
                  go_wp2_with fail
                  refine (HCA.out _ HK7.out).mono ?_; rintro e wz ⟨rfl, bz⟩
                  have HZ := Lib.hid (HB7.out.trans (bz.mono HB7.out.size)); clear bz
                  go_wp2_with fail
                  go_ret
                  exact ⟨rfl, HZ.out⟩
      · have g3' : decide (k < zn) = false := decide_eq_false g3
        have g3i : ¬ (k : Int) < (zn : Int) := by omega
        have hkx : k ≤ us.length := by rw [HLU.out]; exact hk2
        have hky : k ≤ tx.length := by rw [HLX.out]; exact hk1
        obtain ⟨TS, hTS⟩ : ∃ TS, TS = halfT tx us k := ⟨_, rfl⟩
        have hoth := fun (hz : ∀ j, j < tx.length → (tx.getD j .empty).size ≤ 64) => others_same (cs := cs) (b := by_) (role := role) hkx hky hz
        rw [← hTS] at hoth hB
        have HO := Lib.hid hoth; clear hoth
        have HB := Lib.hid hB; clear hB
        clear hTS hkx hky
        go_wp2_with fail
        go_loopw [13] (fun i wr => ∃ j : Nat, j ≤ zm ∧ i = .int .i64 (j : Int) ∧ Bq w ⟨xa, zn, xc, xb, zm, xd⟩ w2 b9 TS (halfC by_ cs j) ⟨za, zn, zc, zb, zm, zd⟩ wr) (fun i _ => zm - (intOf i).toNat)
        case atStart => exact ⟨0, Nat.zero_le _, rfl, HB.out⟩
        case round =>
          clear HB
          obtain ⟨j, hj, rfl, hB⟩ := hrel
          have e1 : wr.cell? ⟨b9, 1, none⟩ = some (.slice zb zm zd) := hB.b1
          by_cases g5 : j < zm
          · have g5' : decide (j < zm) = true := decide_eq_true g5
            have g5i : (j : Int) < (zm : Int) := by omega
            have hjl : j < cs.length := by rw [HMX.out]; exact g5
            obtain ⟨g, hgb, c1, c2, hglt, hset⟩ := hB.instr (i := j) (by rw [halfC_len]; exact hjl)
            rw [halfC_get by_ hjl] at c1 c2
            simp only at hgb
            subst hgb
            have hst := halfC_step by_ hjl
            obtain ⟨X, hX⟩ : ∃ X, X = cs.getD j (0, 0) := ⟨_, rfl⟩
            rw [← hX] at c1 c2 hst
            obtain ⟨Y, hY⟩ : ∃ Y, Y = Ver.other by_ X := ⟨_, rfl⟩
            rw [← hY] at hst
            have hx1 := X.1.toNat_lt
            have hx2 := X.2.toNat_lt
            have hW := obj_below wr (.cells #[.int .u8 (X.1.toNat : Int), .int .u8 (X.2.toNat : Int)] 48)
            have hV := obj_below wr (.cells #[.int .u8 (Y.1.toNat : Int), .int .u8 (Y.2.toNat : Int)] 48)
            have eX : (wr.alloc (.cells #[.int .u8 (X.1.toNat : Int), .int .u8 (X.2.toNat : Int)] 48)).cell? ⟨b9, 1, none⟩ = some (.slice (some ⟨g, 0, none⟩) zm zd) := (hB.new hW).b1
            have eY : (wr.alloc (.cells #[.int .u8 (Y.1.toNat : Int), .int .u8 (Y.2.toNat : Int)] 48)).cell? ⟨b9, 1, none⟩ = some (.slice (some ⟨g, 0, none⟩) zm zd) := (hB.new hV).b1
            obtain ⟨f1, f2⟩ := (hset _ (Below.refl _ _)).2.1
            have hnext := (hset _ hV).2.2
            have hn' := hnext Y
            rw [hst] at hn'
            rw [World.setCell_alloc_past _ _ _ _ (w := wr) (by omega), World.setCell_alloc_past _ _ _ _ (by rw [World.size_setCell]; omega)] at hn'
            have HB := Lib.hid hB; clear hB
            clear hset hnext hst hW hV
            obtain ⟨o, ho⟩ : ∃ o, o = X.1.toNat := ⟨_, rfl⟩
            obtain ⟨a, ha⟩ : ∃ a, a = X.2.toNat := ⟨_, rfl⟩
            obtain ⟨o', ho'⟩ : ∃ o', o' = Y.1.toNat := ⟨_, rfl⟩
            obtain ⟨a', ha'⟩ : ∃ a', a' = Y.2.toNat := ⟨_, rfl⟩
            obtain ⟨hoo, hyes, hno⟩ := other_nums by_ X
            rw [← hY] at hoo hyes hno
            rw [← ho', ← ho] at hoo
            rw [← ho, ← ha, ← ha'] at hyes hno
            rw [← ho, ← ha] at eX
            rw [← ho'] at eY hn'
            rw [← ha'] at eY hn'
            rw [← ho] at c1 hx1
            rw [← ha] at c2 hx2
            rw [hoo] at eY hn'
            clear hoo ho' ha' ho ha hY hX
            obtain ⟨y, hy⟩ : ∃ y, y = by_.toNat := ⟨_, rfl⟩
            rw [← hy] at hyes
            by_cases ho2 : o = 2
            · subst ho2
              have hw : IntKind.u8.wrap ((a : Int) + (y : Int)) = (a' : Int) := by have := hyes (Or.inl rfl); simp only [IntKind.wrap_u8]; omega
              have hw2 : IntKind.u8.wrap ((a : Int) + (by_.toNat : Int)) = (a' : Int) := by rw [← hy]; exact hw
              clear hno hyes hy hx1 hx2
              have eYq : (wr.alloc (.cells #[.int .u8 2, .int .u8 (a' : Int)] 48)).cell? ⟨b9, 1, none⟩ = some (.slice (some ⟨g, 0, none⟩) zm zd) := eY
              have eXq : (wr.alloc (.cells #[.int .u8 2, .int .u8 (a : Int)] 48)).cell? ⟨b9, 1, none⟩ = some (.slice (some ⟨g, 0, none⟩) zm zd) := eX
              have c1q : wr.cell? ⟨g, j * 2, none⟩ = some (.int .u8 2) := c1
              have HNQ := Lib.hid (show Bq w ⟨xa, zn, xc, xb, zm, xd⟩ w2 b9 TS (halfC by_ cs (j + 1)) ⟨za, zn, zc, some ⟨g, 0, none⟩, zm, zd⟩ (((wr.setCell ⟨g, j * 2, none⟩ (.int .u8 2)).setCell ⟨g, j * 2 + 1, none⟩ (.int .u8 (a' : Int))).alloc (.cells #[.int .u8 2, .int .u8 (a' : Int)] 48)) from hn')
              clear eX eY c1 hn'
              go_wp2_with fail
              go_roundw
              case rel => exact ⟨j + 1, by omega, by go_num, HNQ.out⟩
              case measure => simp [intOf]; omega
            · by_cases ho22 : o = 22
              · subst ho22
                have hw : IntKind.u8.wrap ((a : Int) + (y : Int)) = (a' : Int) := by have := hyes (Or.inr rfl); simp only [IntKind.wrap_u8]; omega
                have hw2 : IntKind.u8.wrap ((a : Int) + (by_.toNat : Int)) = (a' : Int) := by rw [← hy]; exact hw
                clear hno hyes hy hx1 hx2 ho2
                have eYq : (wr.alloc (.cells #[.int .u8 22, .int .u8 (a' : Int)] 48)).cell? ⟨b9, 1, none⟩ = some (.slice (some ⟨g, 0, none⟩) zm zd) := eY
                have eXq : (wr.alloc (.cells #[.int .u8 22, .int .u8 (a : Int)] 48)).cell? ⟨b9, 1, none⟩ = some (.slice (some ⟨g, 0, none⟩) zm zd) := eX
                have c1q : wr.cell? ⟨g, j * 2, none⟩ = some (.int .u8 22) := c1
                have HNQ := Lib.hid (show Bq w ⟨xa, zn, xc, xb, zm, xd⟩ w2 b9 TS (halfC by_ cs (j + 1)) ⟨za, zn, zc, some ⟨g, 0, none⟩, zm, zd⟩ (((wr.setCell ⟨g, j * 2, none⟩ (.int .u8 22)).setCell ⟨g, j * 2 + 1, none⟩ (.int .u8 (a' : Int))).alloc (.cells #[.int .u8 22, .int .u8 (a' : Int)] 48)) from hn')
                clear eX eY c1 hn'
                go_wp2_with fail
                go_roundw
                case rel => exact ⟨j + 1, by omega, by go_num, HNQ.out⟩
                case measure => simp [intOf]; omega
              · obtain rfl : a' = a := hno (by omega)
                have do2 : ((o : Int) == 2) = false := beq_eq_false_iff_ne.2 (by omega)
                have do22 : ((o : Int) == 22) = false := beq_eq_false_iff_ne.2 (by omega)
                clear hno hyes hy hx1 hx2 ho2 ho22
                go_wp2_with fail
                go_roundw
                case rel => exact ⟨j + 1, by omega, by go_num, hn'⟩
                case measure => simp [intOf]; omega
          · obtain rfl : j = zm := by omega
            have g5' : decide (j < j) = false := decide_eq_false (by omega)
            have g5i : ¬ (j : Int) < (j : Int) := by omega
            have hall : halfC by_ cs j = cs.map (Ver.other by_) := by unfold halfC; rw [List.take_of_length_le (by rw [HMX.out]; exact Nat.le_refl _), List.drop_of_length_le (by rw [HMX.out]; exact Nat.le_refl _), List.append_nil]
            rw [hall] at hB
            have hkr := HKN.out.keep hB.v.b
            have hck := vkinds_any hB.o.at_ hkr role (show zn ≤ _ by omega) (show j ≤ _ by omega)
            obtain ⟨E2, hE2⟩ : ∃ E2, E2 = Ver.check (prog TS (cs.map (Ver.other by_))) role := ⟨_, rfl⟩
            rw [← hE2] at hck
            have ho := HO.out
            rw [← hE2, ← HE1.out] at ho
            have HO2 := Lib.hid ho; clear ho HO
            have e2 : wr.cell? ⟨b9, 0, none⟩ = some (.slice za zn zc) := hB.b0
            unfold Pv.v at hck
            simp only at hck
            have HB := Lib.hid hB; clear hB
            have HCK2 := Lib.hid hck; clear hck
            have HKR := Lib.hid hkr; clear hkr
            clear hall hE2
            go_wp2_with fail
            refine HCK2.out.mono ?_; rintro e w5 ⟨v2, rfl, s2, b5⟩
            obtain ⟨k2, kc2, hv2⟩ := s2.form
            obtain ⟨KL2, hKL2⟩ : ∃ KL2, KL2 = (vKinds E2).length := ⟨_, rfl⟩
            rw [← hKL2] at hv2
            have HKL2 := Lib.hid hKL2; clear hKL2
            subst hv2
            have HB5 := Lib.hid (HB.out.new b5)
            have HK5 := Lib.hid (HKR.out.keep b5); clear b5
            have HS2 := Lib.hid s2; clear s2
            clear e1 e2 HB HKR HCK2
            go_wp2_with fail
            go_loopw [17] (fun i wq => ∃ m : Nat, m ≤ zn ∧ i = .int .i64 (m : Int) ∧ (∀ j, j < m → (tx.getD j .empty).size ≤ 64) ∧ Below w5.heap.size w5 wq) (fun i _ => zn - (intOf i).toNat)
            case atStart => exact ⟨0, Nat.zero_le _, rfl, fun j h => absurd h (by omega), Below.refl _ _⟩
            case round =>
              obtain ⟨m, hm3, rfl, hsm, b6⟩ := hrel
              have hB6 := HB5.out.new b6
              have q0 : wr.cell? ⟨w.heap.size, 0, none⟩ = some (.slice xa zn xc) := hB6.v.p0
              by_cases g6 : m < zn
              · have g6' : decide (m < zn) = true := decide_eq_true g6
                have g6i : (m : Int) < (zn : Int) := by omega
                obtain ⟨tb, to, hta, htc⟩ := (HP.out.keep hB6.v.b).t.2 m g6
                simp only at hta
                subst hta
                obtain ⟨T, hT⟩ : ∃ T, T = tx.getD m .empty := ⟨_, rfl⟩
                rw [← hT] at htc
                by_cases g7 : 64 < T.size
                · have d7 : decide ((64 : Int) < (T.size : Int)) = true := decide_eq_true (by omega)
                  have d7i : (64 : Int) < (T.size : Int) := by omega
                  have HB6 := Lib.hid hB6; clear hB6
                  have HK6 := Lib.hid (HK5.out.keep b6); clear b6
                  clear hT
                  go_wp2_with fail
                  refine (HCA.out _ HK6.out).mono ?_; rintro e wz ⟨rfl, bz⟩
                  have HZ := Lib.hid (HB6.out.v.b.trans (bz.mono HB6.out.v.b.size)); clear bz
                  go_wp2_with fail
                  go_ret
                  exact ⟨rfl, HZ.out⟩
                · have d7 : decide ((64 : Int) < (T.size : Int)) = false := decide_eq_false (by omega)
                  have d7i : ¬ (64 : Int) < (T.size : Int) := by omega
                  have hsm' : ∀ j, j < m + 1 → (tx.getD j .empty).size ≤ 64 := fun j h => by
                    by_cases e : j < m
                    · exact hsm j e
                    · obtain rfl : j = m := by omega
                      rw [← hT]; omega
                  have HSM := Lib.hid hsm'; clear hsm'
                  have HB6 := Lib.hid b6; clear b6
                  clear hT hB6 hsm
                  go_wp2_with fail
                  go_roundw
                  case rel => exact ⟨m + 1, by omega, by go_num, HSM.out, HB6.out⟩
                  case measure => simp [intOf]; omega
              · obtain rfl : m = zn := by omega
                have g6' : decide (m < m) = false := decide_eq_false (by omega)
                have g6i : ¬ (m : Int) < (m : Int) := by omega
                have hE : E2 = E1 := HO2.out (fun j h => hsm j (by rw [← HLX.out]; exact h))
                subst hE
                obtain rfl : KL2 = KL := by rw [HKL2.out, HKL.out]
                have hsa := vsame_any _ _ _ _ (S1_.out.new hB6.k) (HS2.out.new b6) (by rw [HE1.out]; have := vkinds_le tx cs role; have := HMX.out; omega)
                obtain ⟨ER, hER⟩ : ∃ ER, ER = vErr E2 := ⟨_, rfl⟩
                rw [← hER]
                have HSA := Lib.hid hsa; clear hsa
                have HB6 := Lib.hid hB6; clear hB6
                have HK6 := Lib.hid (HK5.out.keep b6); clear b6
                clear hsm hER
                have der : ((ER : Int) == (ER : Int)) = true := beq_self_eq_true _
                go_wp2_with fail
                refine HSA.out.mono ?_; rintro e w7 ⟨rfl, b7⟩
                have HB7 := Lib.hid (HB6.out.v.b.trans (b7.mono HB6.out.v.b.size))
                have HK7 := Lib.hid (HK6.out.keep b7); clear b7 HSA
                clear q0
                go_wp2_with fail
                refine (HCA.out _ HK7.out).mono ?_; rintro e wz ⟨rfl, bz⟩
                have HZ := Lib.hid (HB7.out.trans (bz.mono HB7.out.size)); clear bz
                go_wp2_with fail
                go_ret
                exact ⟨rfl, HZ.out⟩
set_option maxRecDepth 100000 in
theorem lifted (os : Os) (started : os.Started) (H : Type) (enc : TypeId × Value → H) :
    ReturnsInHanded {} Tryd.checked os 4 .any (fun w args => (Rows.verifyOthersSpec.pre enc Tryd.prog Tryd.f4 [] false w args ∧ laidMetH Tryd.prog laidList w) ∧ sizedMet enc Tryd.prog Tryd.f4 (OpenSpec.ofChange Rows.verifyOthersSpec) false w args)
      (Rows.verifyOthersSpec.post enc Tryd.prog Tryd.f4 false true false false) := by
  refine returnsInHanded_of_change_sh (C := Tryd.checked) (X := fun w _ => laidMetH Tryd.prog laidList w) (fun _ _ _ hh h => h.of_heap hh) own started (by kernel_rfl) Tryd.func4
    (ChangeSpec.witness_shaped (enc := enc) (C := Tryd.checked) (os := os) (X := fun w _ => laidMetH Tryd.prog laidList w) false (World.laidAll Tryd.prog os laidList) #[.agg #[.slice none 0 0, .slice none 0 0], .int .u8 0, .slice none 0 0, .int .u8 0] 8 (World.laidAll_os _ _ _) (World.shaped_of_ZipB (by kernel_rfl) (by kernel_rfl)) (by kernel_rfl) (by kernel_rfl) (by kernel_rfl) (door_met os _)) ?_
  intro W base args ds gs before hval0 hW _ hsz hL hsh _
  have hval : ∀ (j : Nat) t v, Tryd.f4.params[j]? = some t → args[j]? = some v → Value.okWide Tryd.prog W .any base t v := hval0
  have hW' := hW
  obtain ⟨p, q, hA0, hV, rfl, hfz, hnd⟩ := hW
  have hA : DataW.TrodAll enc Tryd.prog W 0 (fun _ => true) true Tryd.f4.params.toList args.toList ds p := hA0
  rw [Tryd.params4] at hA hval hsz
  obtain ⟨v0, vs0, d0, ds0, p0, q0, hargs, rfl, rfl, h0, r0⟩ := trodAll_cons hA
  obtain ⟨v1, vs1, d1, ds1, p1, q1, rfl, rfl, rfl, h1, r1⟩ := trodAll_cons r0
  obtain ⟨v2, vs2, d2, ds2, p2, q2, rfl, rfl, rfl, h2, r2⟩ := trodAll_cons r1
  obtain ⟨v3, vs3, d3, ds3, p3, q3, rfl, rfl, rfl, h3, r3⟩ := trodAll_cons r2
  obtain ⟨rfl, rfl, rfl⟩ := trodAll_nil r3
  obtain rfl : args = #[v0, v1, v2, v3] := Array.ext' hargs
  obtain ⟨rfl, rfl⟩ := trodVars_none hV
  have k0 := h0
  have lt0 : ∀ x ∈ p0, x.block < W.heap.size := by obtain ⟨m, hm⟩ := k0; exact DataW.trod_lt m _ _ _ hm
  obtain ⟨x0, tx0, cs0, rfl, hp0, hz0, hn0, hm0⟩ := open_prog Tryd.underlying25 rfl rfl Tryd.underlying22 Tryd.underlying9 (by kernel_rfl) (by kernel_rfl) Tryd.underlying23 Tryd.underlying48 rfl rfl Tryd.underlying5 (by kernel_rfl) (by kernel_rfl) (by kernel_rfl) (by kernel_rfl) (by kernel_rfl) (hval 0 25 v0 rfl rfl) h0 (fun n hn => by
    have := List.all_eq_true.1 hsz n (by
      simp only [List.cons_append, DataW.weightsEach]
      exact List.mem_append_left _ hn)
    simpa using this)
  obtain ⟨n1, rfl, rfl, rfl, w1⟩ := open_int Tryd.underlying5 (hval 1 5 v1 rfl rfl) h1
  have wf1 := w1
  obtain ⟨b1, rfl⟩ := byte_of w1
  obtain ⟨a2, len2, cap2, rfl⟩ := okWide_slice Tryd.underlying22 (hval 2 22 v2 rfl rfl)
  have k2 := h2
  have lt2 : ∀ x ∈ p2, x.block < W.heap.size := by obtain ⟨m, hm⟩ := k2; exact DataW.trod_lt m _ _ _ hm
  obtain ⟨fuel2, hf2⟩ := h2
  obtain ⟨l2, hst2, hlz2, hll2, hnil2⟩ := open_texts Tryd.underlying22 Tryd.underlying9 (by kernel_rfl) (by kernel_rfl) hf2 (fun n hn => by
    have := List.all_eq_true.1 hsz n (by
      simp only [List.cons_append, DataW.weightsEach]
      exact List.mem_append_right _ (List.mem_append_right _ (List.mem_append_left _ hn)))
    simpa using this)
  obtain ⟨n3, rfl, rfl, rfl, w3⟩ := open_int Tryd.underlying5 (hval 3 5 v3 rfl rfl) h3
  have wf3 := w3
  obtain ⟨b3, rfl⟩ := byte_of w3
  clear hA0 hval0
  refine (walk x0 tx0 cs0 b1.toNat a2 len2 cap2 l2 b3 W (kn_of_laid hL hsh) hp0 hz0 hn0 hm0 hst2 hlz2 (by omega)).mono fun e W' ⟨he, bel⟩ => ?_
  subst he
  exact ⟨_, rfl, _, _, _, [], _, [], hW', trodAll_mk1 (shut_bool Tryd.underlying4 _), (trodAll_cons_mk (Below.trod laidOut (by kernel_rfl) (of_decide_eq_true (by kernel_rfl)) k0 bel lt0) (trodAll_cons_mk (shut_int Tryd.underlying5 w1) (trodAll_cons_mk (Below.trod laidOut (by kernel_rfl) (of_decide_eq_true (by kernel_rfl)) k2 bel lt2) (trodAll_cons_mk (shut_int Tryd.underlying5 w3) trodAll_mk0)))), rfl, bel.frame _, fun h => by cases h⟩

theorem over : Rows.VerifyOthersSaid :=
  OpenClaim.holds_of_wide 4 Tryd.f4 rfl rfl rfl rfl rfl rfl rfl ⟨rfl, rfl, rfl, rfl, rfl⟩ rfl rfl rfl rfl rfl (by kernel_rfl) Tryd.func4 (by kernel_rfl)
    (of_decide_eq_true (by kernel_rfl)) (by unfold Func.isWrapper; first | (rw [if_pos (by decide +kernel)]; kernel_rfl) | (rw [if_neg (by decide +kernel)]; exact ⟨rfl, rfl⟩))
    (fun os started H enc _ => lifted os started H enc)

theorem proved : Rows.VerifyOthersCardSaid :=
  Claim7.holds_tied_plain_at .later [] [.data, .data, .pinned] true (true, "50b2c3491813eace00d4f3d2c32a93119e2c541e682bd2132fd38ade77fbbf74") false
    over (fun _ h => by cases h) (by kernel_rfl) (fun _ h => by cases h) verifyOthers_row_tie rfl ⟨rfl, rfl⟩ (by kernel_rfl) rfl
    (fun f fn hf hfn => by
      obtain rfl : f = 4 := Option.some.inj ((show Tryd.prog.funcNamed "maslin/maslinlaw13.VerifyOthers" = some 4 by kernel_rfl).symm.trans hf) |>.symm
      obtain rfl : fn = Tryd.f4 := (Option.some.inj (Tryd.func4.symm.trans hfn)).symm
      exact ⟨by kernel_rfl, fun j t ht => by
        rw [Tryd.params4] at ht
        have hm : t ∈ [25, 5, 22, 5] := by simpa using Array.mem_of_getElem? ht
        have hall : ([25, 5, 22, 5].all fun u => !Tryd.prog.wantsStandIn u) = true := by kernel_rfl
        exact (show Tryd.prog.wantsStandIn t = false by simpa using List.all_eq_true.1 hall t hm)⟩)
    (by kernel_rfl)


end Go.Proofs.YtolldoclnfnceaaDoor.verifyOthers
