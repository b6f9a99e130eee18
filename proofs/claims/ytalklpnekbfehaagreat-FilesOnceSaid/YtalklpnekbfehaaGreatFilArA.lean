/- Put together of: FilArgs FilLong FilHeavy -/
import Derived.Test.YtalklpnekbfehaaGreatGoAll
import Derived.Test.YtalklpnekbfehaaGreatFilPA
import Derived.Test.YtalklpnekbfehaaGreatRows
import Derived.BigQuiet
set_option maxRecDepth 100000
/-
  Arguments that are slices of changes, or of files' steps (two integers, changes, a text), as a walk meets them.
-/
set_option linter.unusedVariables false
set_option maxRecDepth 100000
namespace Go.Proofs.YtalklpnekbfehaaGreat
open Go.ChangeShapes Go.WideShapes Go.Deep Go.RowKit

theorem open_chgs {H : Type} {enc : TypeId × Value → H} {P : Program} {w : World} {base : Nat} {spare : Nat → Bool} {held : Bool} {t e ts tb : TypeId} {f0 f1 f2 : Field} {a0 : Option Addr} {len cap fuel : Nat} {x : DataW H × List MemPlace} (ht : P.underlying t = some (.slice e)) (he : P.underlying e = some (.struct #[f0, f1, f2]))
    (h0 : f0.type = ts) (h1 : f1.type = ts) (h2 : f2.type = tb) (hts : P.underlying ts = some .string) (htb : P.underlying tb = some .bool)
    (hone : oneCellFields P #[f0, f1, f2] = true) (hC : P.cellsOf e = 3) (hb40 : P.bytesOf e = 40)
    (hf : DataW.trod enc P w base spare held fuel t (Value.slice a0 len cap).cells.toList = some x) (hsz : ∀ n ∈ DataW.weights P t x.1, n ≤ reachBytes) :
    ∃ l : List Chb, Chgs a0 len l w ∧ (∀ y ∈ l, y.Ok) ∧ len ≤ 3518437208883 ∧ (a0 = none → len = 0 ∧ cap = 0) ∧ len ≤ cap := by
  rcases open_slice_fields ht he hone hC hf with ⟨hcs, _⟩ | ⟨a, len', cap', m, D, Pl, hcs, _, hl, hm, hz, hx, hcell⟩
  · simp [Value.cells] at hcs
    obtain ⟨rfl, rfl, rfl⟩ := hcs
    exact ⟨[], Chgs.nil _ _, by simp, by omega, fun _ => ⟨rfl, rfl⟩, by omega⟩
  · simp [Value.cells] at hcs
    obtain ⟨rfl, rfl, rfl⟩ := hcs
    subst hx
    have hsl : len ≤ m := by rw [hz]; split <;> omega
    have step : ∀ i, i < len → ∃ y : Chb, y.Ok ∧ ∃ b off, some a = some ⟨b, off, none⟩ ∧ ChgAt w b (off + i * 3) y := by
      intro i hi
      obtain ⟨ys, n, hD, _, hyl, hfl⟩ := hcell i (by omega)
      obtain ⟨v0, y0, c0, q0, t0⟩ := hfl 0 f0 rfl
      obtain ⟨v1, y1, c1, q1, t1⟩ := hfl 1 f1 rfl
      obtain ⟨v2, y2, c2, q2, t2⟩ := hfl 2 f2 rfl
      rw [h0] at t0; rw [h1] at t1; rw [h2] at t2
      obtain ⟨s0, e0, x0, _⟩ := DataW.trod_string hts t0
      obtain ⟨s1, e1, x1, _⟩ := DataW.trod_string hts t1
      obtain ⟨b2, e2, _⟩ := DataW.trod_bool htb t2
      obtain rfl : v0 = .string s0 := by simpa using e0
      obtain rfl : v1 = .string s1 := by simpa using e1
      obtain rfl : v2 = .bool b2 := by simpa using e2
      obtain ⟨z0, z1, z2, rfl⟩ : ∃ z0 z1 z2, ys = [z0, z1, z2] := by
        match ys, hyl with
        | [z0, z1, z2], _ => exact ⟨z0, z1, z2, rfl⟩
      obtain rfl : z0 = y0 := by simpa using q0
      obtain rfl : z1 = y1 := by simpa using q1
      have big : ∀ k, k ∈ DataW.weights P e (D i) → k ≤ reachBytes := fun k hk => hsz k (by
        simp only [DataW.weights, ht]
        refine List.mem_cons_of_mem _ (List.mem_append_left _ ?_)
        exact mem_weightsAll P e (D i) _ hk _ (List.mem_map.2 ⟨i, List.mem_range.2 hi, rfl⟩))
      have hz0 : s0.size ≤ 140737488351232 := by
        have := big s0.data.toList.length (by
          rw [hD]
          simp only [DataW.weights, he]
          subst x0
          simp only [List.map_cons, List.map_nil, DataW.weightsEach]
          refine List.mem_append_left _ ?_
          simp [DataW.weights])
        rw [ba_len] at this
        exact this
      have hz1 : s1.size ≤ 140737488351232 := by
        have := big s1.data.toList.length (by
          rw [hD]
          simp only [DataW.weights, he]
          subst x1
          simp only [List.map_cons, List.map_nil, DataW.weightsEach]
          refine List.mem_append_right _ (List.mem_append_left _ ?_)
          simp [DataW.weights])
        rw [ba_len] at this
        exact this
      obtain ⟨b, off, spot⟩ := a
      obtain ⟨_, _, _, _, _, hfl0⟩ := hcell 0 (by omega)
      obtain ⟨v00, _, c00, _, _⟩ := hfl0 0 f0 rfl
      have hspot : spot = none := by simpa [Addr.add] using World.cell?_spot c00
      subst hspot
      have ea : ∀ k, (Addr.add ⟨b, off, none⟩ k) = ⟨b, off + k, none⟩ := fun k => by cases k <;> simp [Addr.add]
      rw [ea] at c0 c1 c2
      exact ⟨⟨s0, s1, b2⟩, ⟨hz0, hz1⟩, b, off, rfl, ⟨c0, c1, c2⟩⟩
    obtain ⟨l, hll, hp⟩ := list_of len step
    refine ⟨l, ⟨hll, fun j hj => (hp j hj).2⟩, fun y hy => ?_, ?_, (fun c => by cases c), hl⟩
    · obtain ⟨j, hj, rfl⟩ := List.getElem_of_mem hy
      have := (hp j (by omega)).1
      rw [List.getD_eq_getElem?_getD, List.getElem?_eq_getElem hj] at this
      exact this
    · have := hsz ((((List.range len).map D).length + ((List.range (m - len)).map fun j => D (len + j)).length) * P.bytesOf e) (by simp only [DataW.weights, ht]; exact List.mem_cons_self ..)
      rw [hb40] at this
      simp only [List.length_map, List.length_range] at this
      have hr : reachBytes = 140737488351232 := rfl
      omega

structure FStp where
  d : Int
  n : Int
  la : Option Addr
  lc : Nat
  l : List Chb
  k : ByteArray
instance : Inhabited FStp := ⟨⟨0, 0, none, 0, [], .empty⟩⟩
structure FStp.Ok (x : FStp) : Prop where
  d : I64 x.d
  n : I64 x.n
  ll : x.l.length ≤ 3518437208883
  ls : ∀ y ∈ x.l, y.Ok
  k : x.k.size ≤ 140737488351232
structure FStpAt (w : World) (b off : Nat) (x : FStp) : Prop where
  d : w.cell? ⟨b, off, none⟩ = some (.int .i64 x.d)
  n : w.cell? ⟨b, off + 1, none⟩ = some (.int .i64 x.n)
  l : w.cell? ⟨b, off + 2, none⟩ = some (.slice x.la x.l.length x.lc)
  k : w.cell? ⟨b, off + 3, none⟩ = some (.string x.k)
  s : Chgs x.la x.l.length x.l w
  z : x.la = none → x.lc = 0
/-- the slice's elements are the steps l -/
def FStps (a : Option Addr) (len : Nat) (l : List FStp) (w : World) : Prop := l.length = len ∧ ∀ j, j < len → ∃ b off, a = some ⟨b, off, none⟩ ∧ FStpAt w b (off + j * 4) (l.getD j default)
theorem FStpAt.keep {w w' : World} {b off : Nat} {x : FStp} (h : FStpAt w b off x) (hb : Below w.heap.size w w') : FStpAt w' b off x := by
  have e := hb.block b (cell_lt h.d)
  exact ⟨by rw [World.cell?_of_block e]; exact h.d, by rw [World.cell?_of_block e]; exact h.n, by rw [World.cell?_of_block e]; exact h.l, by rw [World.cell?_of_block e]; exact h.k, h.s.keep hb, h.z⟩
theorem FStps.keep {a : Option Addr} {len : Nat} {l : List FStp} {w w' : World} (h : FStps a len l w) (hb : Below w.heap.size w w') : FStps a len l w' := by
  refine ⟨h.1, fun j hj => ?_⟩
  obtain ⟨b, off, rfl, hc⟩ := h.2 j hj
  exact ⟨b, off, rfl, hc.keep hb⟩
theorem FStps.nil (a : Option Addr) (w : World) : FStps a 0 [] w := ⟨rfl, fun j hj => by omega⟩

theorem open_fsteps {H : Type} {enc : TypeId × Value → H} {P : Program} {w : World} {base : Nat} {spare : Nat → Bool} {held : Bool} {t e ti tl tc ts tb : TypeId} {f0 f1 f2 f3 g0 g1 g2 : Field} {a0 : Option Addr} {len cap fuel : Nat} {x : DataW H × List MemPlace} (ht : P.underlying t = some (.slice e)) (he : P.underlying e = some (.struct #[f0, f1, f2, f3]))
    (h0 : f0.type = ti) (h1 : f1.type = ti) (h2 : f2.type = tl) (h3 : f3.type = ts) (hti : P.underlying ti = some (.int .i64)) (htl : P.underlying tl = some (.slice tc)) (htc : P.underlying tc = some (.struct #[g0, g1, g2]))
    (k0 : g0.type = ts) (k1 : g1.type = ts) (k2 : g2.type = tb) (hts : P.underlying ts = some .string) (htb : P.underlying tb = some .bool) (honec : oneCellFields P #[g0, g1, g2] = true) (hCc : P.cellsOf tc = 3) (hbc : P.bytesOf tc = 40)
    (hone : oneCellFields P #[f0, f1, f2, f3] = true) (hC : P.cellsOf e = 4) (hb16 : P.bytesOf e = 56)
    (hf : DataW.trod enc P w base spare held fuel t (Value.slice a0 len cap).cells.toList = some x) (hsz : ∀ n ∈ DataW.weights P t x.1, n ≤ reachBytes) :
    ∃ l : List FStp, FStps a0 len l w ∧ (∀ y ∈ l, y.Ok) ∧ len ≤ 2513169434843 ∧ (a0 = none → len = 0 ∧ cap = 0) := by
  rcases open_slice_fields ht he hone hC hf with ⟨hcs, _⟩ | ⟨a, len', cap', m, D, Pl, hcs, _, hl, hm, hz, hx, hcell⟩
  · simp [Value.cells] at hcs
    obtain ⟨rfl, rfl, rfl⟩ := hcs
    exact ⟨[], FStps.nil _ _, by simp, by omega, fun _ => ⟨rfl, rfl⟩⟩
  · simp [Value.cells] at hcs
    obtain ⟨rfl, rfl, rfl⟩ := hcs
    subst hx
    have hsl : len ≤ m := by rw [hz]; split <;> omega
    have step : ∀ i, i < len → ∃ y : FStp, y.Ok ∧ ∃ b off, some a = some ⟨b, off, none⟩ ∧ FStpAt w b (off + i * 4) y := by
      intro i hi
      obtain ⟨ys, n, hD, _, hyl, hfl⟩ := hcell i (by omega)
      obtain ⟨v0, y0, c0, q0, t0⟩ := hfl 0 f0 rfl
      obtain ⟨v1, y1, c1, q1, t1⟩ := hfl 1 f1 rfl
      obtain ⟨v2, y2, c2, q2, t2⟩ := hfl 2 f2 rfl
      obtain ⟨v3, y3, c3, q3, t3⟩ := hfl 3 f3 rfl
      rw [h0] at t0; rw [h1] at t1; rw [h2] at t2; rw [h3] at t3
      obtain ⟨n0, e0, _, w0⟩ := DataW.trod_int hti t0
      obtain ⟨n1, e1, _, w1⟩ := DataW.trod_int hti t1
      obtain ⟨s3, e3, x3, _⟩ := DataW.trod_string hts t3
      obtain rfl : v0 = .int .i64 n0 := by simpa using e0
      obtain rfl : v1 = .int .i64 n1 := by simpa using e1
      obtain rfl : v3 = .string s3 := by simpa using e3
      obtain ⟨z0, z1, z2, z3, rfl⟩ : ∃ z0 z1 z2 z3, ys = [z0, z1, z2, z3] := by
        match ys, hyl with
        | [z0, z1, z2, z3], _ => exact ⟨z0, z1, z2, z3, rfl⟩
      obtain rfl : z3 = y3 := by simpa using q3
      obtain rfl : z2 = y2 := by simpa using q2
      have big : ∀ k, k ∈ DataW.weights P e (D i) → k ≤ reachBytes := fun k hk => hsz k (by
        simp only [DataW.weights, ht]
        refine List.mem_cons_of_mem _ (List.mem_append_left _ ?_)
        exact mem_weightsAll P e (D i) _ hk _ (List.mem_map.2 ⟨i, List.mem_range.2 hi, rfl⟩))
      have hwl : ∀ k ∈ DataW.weights P tl z2.1, k ≤ reachBytes := fun k hk => big k (by
        rw [hD]
        simp only [DataW.weights, he]
        simp only [List.map_cons, List.map_nil, DataW.weightsEach]
        refine List.mem_append_right _ (List.mem_append_right _ (List.mem_append_left _ ?_))
        rw [h2]; exact hk)
      have hs3 : s3.size ≤ 140737488351232 := by
        have := big s3.data.toList.length (by
          rw [hD]
          simp only [DataW.weights, he]
          subst x3
          simp only [List.map_cons, List.map_nil, DataW.weightsEach]
          refine List.mem_append_right _ (List.mem_append_right _ (List.mem_append_right _ (List.mem_append_left _ ?_)))
          simp [DataW.weights])
        rw [ba_len] at this
        exact this
      have hv2 : ∃ la ln lc, v2 = .slice la ln lc := by
        rcases open_slice htl t2 with ⟨hv, _⟩ | ⟨aa, ln, lc, _, _, _, _, hv, _⟩
        · exact ⟨none, 0, 0, by simpa using hv⟩
        · exact ⟨some aa, ln, lc, by simpa using hv⟩
      obtain ⟨la, ln, lc, rfl⟩ := hv2
      obtain ⟨sl, hst, hsz2, hll, hzz, _⟩ := open_chgs (a0 := la) (len := ln) (cap := lc) htl htc k0 k1 k2 hts htb honec hCc hbc t2 hwl
      obtain ⟨b, off, spot⟩ := a
      obtain ⟨_, _, _, _, _, hfl0⟩ := hcell 0 (by omega)
      obtain ⟨v00, _, c00, _, _⟩ := hfl0 0 f0 rfl
      have hspot : spot = none := by simpa [Addr.add] using World.cell?_spot c00
      subst hspot
      have ea : ∀ k, (Addr.add ⟨b, off, none⟩ k) = ⟨b, off + k, none⟩ := fun k => by cases k <;> simp [Addr.add]
      rw [ea] at c0 c1 c2 c3
      have hln := hst.1
      exact ⟨⟨n0, n1, la, lc, sl, s3⟩, ⟨wf_i64 w0, wf_i64 w1, by show sl.length ≤ _; omega, hsz2, hs3⟩, b, off, rfl, ⟨c0, c1, by show _ = some (Value.slice la sl.length lc); rw [hln]; exact c2, c3, by show Chgs la sl.length sl w; rw [hln]; exact hst, fun e => (hzz e).2⟩⟩
    obtain ⟨l, hll, hp⟩ := list_of len step
    refine ⟨l, ⟨hll, fun j hj => (hp j hj).2⟩, fun y hy => ?_, ?_, fun c => by cases c⟩
    · obtain ⟨j, hj, rfl⟩ := List.getElem_of_mem hy
      have := (hp j (by omega)).1
      rw [List.getD_eq_getElem?_getD, List.getElem?_eq_getElem hj] at this
      exact this
    · have := hsz ((((List.range len).map D).length + ((List.range (m - len)).map fun j => D (len + j)).length) * P.bytesOf e) (by simp only [DataW.weights, ht]; exact List.mem_cons_self ..)
      rw [hb16] at this
      simp only [List.length_map, List.length_range] at this
      have hr : reachBytes = 140737488351232 := rfl
      omega
end Go.Proofs.YtalklpnekbfehaaGreat

/-
  What long says of changes, and Heavy of steps.
-/
set_option linter.unusedVariables false
set_option maxRecDepth 100000
namespace Go.Proofs.YtalklpnekbfehaaGreat
open Go.RowKit

/-- the bytes of the first k changes -/
def ctot (l : List Chb) (k : Nat) : Nat := ((l.take k).map fun x => x.n.size + x.d.size).sum
theorem ctot_succ (l : List Chb) (k : Nat) (h : k < l.length) : ctot l (k + 1) = ctot l k + ((l.getD k default).n.size + (l.getD k default).d.size) := by
  unfold ctot
  rw [List.take_add_one, List.getElem?_eq_getElem h, List.map_append, List.sum_append]
  simp [List.getD_eq_getElem?_getD, h]
theorem ctot_le (l : List Chb) (h : ∀ x ∈ l, x.Ok) : ∀ k, k ≤ 200 → ctot l k ≤ k * 281474976702464
  | 0, _ => by simp [ctot]
  | k + 1, hk => by
    by_cases hl : k < l.length
    · rw [ctot_succ l k hl]
      have h1 := ctot_le l h k (by omega)
      have h2 := h (l.getD k default) (by rw [List.getD_eq_getElem?_getD, List.getElem?_eq_getElem hl]; exact List.getElem_mem _)
      have h3 := h2.n
      have h4 := h2.d
      omega
    · have h1 := ctot_le l h k (by omega)
      have e : ctot l (k + 1) = ctot l k := by unfold ctot; rw [List.take_of_length_le (by omega), List.take_of_length_le (by omega)]
      omega
def FLongSays (len : Nat) (l : List Chb) (w : World) (e : Ending) (w' : World) : Prop := ∃ b : Bool, e = .returned (.bool b) ∧ (b = false → len ≤ 60 ∧ ctot l len ≤ 131072) ∧ ∃ n, w' = w.drewN n

set_option maxHeartbeats 2000000 in
theorem flong_any (a : Option Addr) (len cap : Nat) (l : List Chb) (w : World) (hl : Chgs a len l w) (hok : ∀ x ∈ l, x.Ok) (hlen : len ≤ 3518437208883) :
    Calls Tryz.prog 26 #[.slice a len cap] w (FLongSays len l w) := by
  have hll := hl.1
  have Hl := Lib.hid hl; clear hl
  have Hok := Lib.hid hok; clear hok
  go_enter Tryz.func26, Tryz.ntmps26
  go_wp2
  go_loopw [3, 4] (fun nv iv wr => ∃ k : Nat, k ≤ len ∧ k ≤ 200 ∧ iv = .int .i64 (k : Int) ∧ nv = .int .i64 ((ctot l k : Nat) : Int) ∧ ∃ n, wr = w.drewN n) (fun _ iv _ => 200 - (intOf iv).toNat)
  case atStart => exact ⟨0, by omega, by omega, rfl, rfl, 0, rfl⟩
  case round =>
    obtain ⟨k, hk, hk2, rfl, rfl, nd, hnd⟩ := hrel
    have hb1 := ctot_le l Hok.out k hk2
    have hb2 : ctot l k ≤ 56294995340492800 := by omega
    clear hb1
    by_cases hlt : k < len
    · by_cases h100 : k < 200
      · have hsucc := ctot_succ l k (by rw [hll]; exact hlt)
        obtain ⟨b, off, rfl, hst⟩ := Hl.out.2 k hlt
        have hxo := Hok.out (l.getD k default) (by
          rw [List.getD_eq_getElem?_getD, List.getElem?_eq_getElem (by rw [hll]; exact hlt)]
          exact List.getElem_mem _)
        generalize l.getD k default = x at *
        have c1 : wr.cell? ⟨b, off + k * 3, none⟩ = some (.string x.n) := by rw [hnd]; exact hst.n
        have c2 : wr.cell? ⟨b, off + k * 3 + 1, none⟩ = some (.string x.d) := by rw [hnd]; exact hst.d
        have Hnd := Lib.hid hnd; clear hnd
        have hxs := hxo.n
        have hxd := hxo.d
        have h1 : (k : Int) < (len : Int) := by omega
        have h2 : (k : Int) < 200 := by omega
        generalize ctot l k = B at *
        have Hsucc := Lib.hid hsucc; clear hsucc
        clear hst hxo
        go_wp2
        go_region
        go_wp2
        go_roundw
        case rel => exact ⟨k + 1, by omega, by omega, by go_num, by rw [Hsucc.out]; congr 1; omega, nd + 1, by rw [Hnd.out]; rfl⟩
        case measure => simp [intOf]; omega
      · have g1 : (k : Int) < (len : Int) := by omega
        have g2 : decide ((k : Int) < 200) = false := decide_eq_false (by omega)
        have g3 : (60 : Int) < (len : Int) := by omega
        have Hnd := Lib.hid hnd; clear hnd
        go_wp2
        go_ret
        exact ⟨true, rfl, (fun h => Bool.noConfusion h), nd, Hnd.out⟩
    · have g1 : decide ((k : Int) < (len : Int)) = false := decide_eq_false (by omega)
      obtain rfl : k = len := by omega
      by_cases h60 : 60 < k
      · have g3 : (60 : Int) < (k : Int) := by omega
        have Hnd := Lib.hid hnd; clear hnd
        go_wp2
        go_ret
        exact ⟨true, rfl, (fun h => Bool.noConfusion h), nd, Hnd.out⟩
      · have g3 : decide ((60 : Int) < (k : Int)) = false := decide_eq_false (by omega)
        by_cases h2000 : 131072 < ctot l k
        · have g4 : decide ((131072 : Int) < (ctot l k : Int)) = true := decide_eq_true (by omega)
          have Hnd := Lib.hid hnd; clear hnd
          go_wp2
          go_ret
          exact ⟨true, rfl, (fun h => Bool.noConfusion h), nd, Hnd.out⟩
        · have g4 : decide ((131072 : Int) < (ctot l k : Int)) = false := decide_eq_false (by omega)
          have Hnd := Lib.hid hnd; clear hnd
          go_wp2
          go_ret
          exact ⟨false, rfl, (fun _ => ⟨by omega, by omega⟩), nd, Hnd.out⟩
end Go.Proofs.YtalklpnekbfehaaGreat

/-
  What Heavy says of steps.
-/
set_option linter.unusedVariables false
set_option maxRecDepth 100000
namespace Go.Proofs.YtalklpnekbfehaaGreat
open Go.RowKit

def hch (x : Chb) : Nat := 20 + x.n.size + min x.d.size 16384
def htot (l : List Chb) (k : Nat) : Nat := ((l.take k).map hch).sum
theorem htot_succ (l : List Chb) (k : Nat) (h : k < l.length) : htot l (k + 1) = htot l k + hch (l.getD k default) := by
  unfold htot
  rw [List.take_add_one, List.getElem?_eq_getElem h, List.map_append, List.sum_append]
  simp [List.getD_eq_getElem?_getD, h]
theorem htot_le (l : List Chb) (h : ∀ x ∈ l, x.Ok) : ∀ k, htot l k ≤ k * 140737488370000
  | 0 => by simp [htot]
  | k + 1 => by
    by_cases hl : k < l.length
    · rw [htot_succ l k hl]
      have h1 := htot_le l h k
      have h2 := (h (l.getD k default) (by rw [List.getD_eq_getElem?_getD, List.getElem?_eq_getElem hl]; exact List.getElem_mem _)).n
      unfold hch
      omega
    · have h1 := htot_le l h k
      have e : htot l (k + 1) = htot l k := by unfold htot; rw [List.take_of_length_le (by omega), List.take_of_length_le (by omega)]
      omega
def hstp (x : FStp) : Nat := x.k.size + htot x.l (min x.l.length 100)
def hsum (l : List FStp) (k : Nat) : Nat := ((l.take k).map hstp).sum
theorem hsum_succ (l : List FStp) (k : Nat) (h : k < l.length) : hsum l (k + 1) = hsum l k + hstp (l.getD k default) := by
  unfold hsum
  rw [List.take_add_one, List.getElem?_eq_getElem h, List.map_append, List.sum_append]
  simp [List.getD_eq_getElem?_getD, h]
theorem hstp_le (x : FStp) (h : x.Ok) : hstp x ≤ 14214486325400000 := by
  have h1 := htot_le x.l h.ls (min x.l.length 100)
  have h2 := h.k
  have h3 : min x.l.length 100 * 140737488370000 ≤ 100 * 140737488370000 := Nat.mul_le_mul_right _ (Nat.min_le_right _ _)
  unfold hstp
  omega
theorem hsum_le (l : List FStp) (h : ∀ x ∈ l, x.Ok) : ∀ k, hsum l k ≤ k * 14214486325400000
  | 0 => by simp [hsum]
  | k + 1 => by
    by_cases hl : k < l.length
    · rw [hsum_succ l k hl]
      have h1 := hsum_le l h k
      have h2 := hstp_le (l.getD k default) (h _ (by rw [List.getD_eq_getElem?_getD, List.getElem?_eq_getElem hl]; exact List.getElem_mem _))
      omega
    · have h1 := hsum_le l h k
      have e : hsum l (k + 1) = hsum l k := by unfold hsum; rw [List.take_of_length_le (by omega), List.take_of_length_le (by omega)]
      omega
theorem hstp_in (l : List FStp) {x : FStp} (h : x ∈ l) : hstp x ≤ hsum l l.length := by
  unfold hsum
  rw [List.take_length]
  induction l with
  | nil => simp at h
  | cons y r ih =>
    simp only [List.map_cons, List.sum_cons]
    rcases List.mem_cons.1 h with rfl | h
    · omega
    · have := ih h; omega

theorem drewN_two (w : World) (a b : Nat) : (w.drewN a).drewN b = w.drewN (a + b) := by
  simp [World.drewN, Nat.add_assoc]
structure FLight (sectors : Int) (len : Nat) (l : List FStp) : Prop where
  len : len ≤ 60
  stp : ∀ x ∈ l, x.l.length ≤ 60 ∧ x.k.size ≤ 32768
  sec : ¬ (200 < sectors ∧ sectors ≤ 16384)
def FHeavySays (sectors : Int) (len : Nat) (l : List FStp) (w : World) (e : Ending) (w' : World) : Prop := ∃ b : Bool, e = .returned (.bool b) ∧ (b = false → FLight sectors len l) ∧ ∃ n, w' = w.drewN n

set_option maxHeartbeats 4000000 in
theorem fheavy_any (sectors : Int) (hsec : I64 sectors) (a : Option Addr) (len cap : Nat) (l : List FStp) (w : World) (hl : FStps a len l w) (hok : ∀ x ∈ l, x.Ok) (hlen : len ≤ 2513169434843) :
    Calls Tryz.prog 7 #[.int .i64 sectors, .slice a len cap] w (FHeavySays sectors len l w) := by
  have hll := hl.1
  have Hl := Lib.hid hl; clear hl
  have Hok := Lib.hid hok; clear hok
  have Hsec := Lib.hid hsec; clear hsec
  go_enter Tryz.func7, Tryz.ntmps7
  go_wp2
  go_loopw [5, 6] (fun nv iv wr => ∃ k : Nat, k ≤ len ∧ k ≤ 100 ∧ iv = .int .i64 (k : Int) ∧ nv = .int .i64 ((hsum l k : Nat) : Int) ∧ (∀ j, j < k → (l.getD j default).l.length ≤ 60) ∧ ∃ n, wr = w.drewN n) (fun _ iv _ => 100 - (intOf iv).toNat)
  case atStart => exact ⟨0, by omega, by omega, rfl, rfl, fun j hj => by omega, 0, rfl⟩
  case round =>
    obtain ⟨k, hk, hk2, rfl, rfl, hall, nd, hnd⟩ := hrel
    have hb1 := hsum_le l Hok.out k
    have hb2 : hsum l k ≤ 1421448632540000000 := by omega
    have Hall := Lib.hid hall; clear hall
    clear hb1
    by_cases hlt : k < len
    · by_cases h100 : k < 100
      · have hsucc := hsum_succ l k (by rw [hll]; exact hlt)
        obtain ⟨b, off, rfl, hst0⟩ := Hl.out.2 k hlt
        have hbel : Below w.heap.size w wr := by rw [hnd]; exact drewN_below (Below.refl _ w) nd
        have hst := hst0.keep hbel
        have hxo := Hok.out (l.getD k default) (by
          rw [List.getD_eq_getElem?_getD, List.getElem?_eq_getElem (by rw [hll]; exact hlt)]
          exact List.getElem_mem _)
        have hall2 : (l.getD k default).l.length ≤ 60 → ∀ j, j < k + 1 → (l.getD j default).l.length ≤ 60 := fun h j hj => by
          by_cases e : j = k
          · subst e; exact h
          · exact Hall.out j (by omega)
        generalize hx : l.getD k default = x at *
        clear hx
        have c2 := hst.l
        have c3 := hst.k
        have hxs := hxo.k
        have hxl := hxo.ll
        have h1 : (k : Int) < (len : Int) := by omega
        have h2 : (k : Int) < 100 := by omega
        generalize hsum l k = B at *
        have Hst := Lib.hid hst0; clear hst
        have Hsucc := Lib.hid hsucc; clear hsucc
        have Hxo := Lib.hid hxo; clear hxo
        have Hall2 := Lib.hid hall2; clear hall2
        have Hnd := Lib.hid hnd; clear hnd
        clear hst0 hbel
        go_wp2
        go_loopw [5, 7] (fun nv jv wj => ∃ j : Nat, j ≤ x.l.length ∧ j ≤ 100 ∧ jv = .int .i64 (j : Int) ∧ nv = .int .i64 ((B + x.k.size + htot x.l j : Nat) : Int) ∧ ∃ n, wj = w.drewN n) (fun _ jv _ => 100 - (intOf jv).toNat)
        case atStart => exact ⟨0, by omega, by omega, rfl, by congr 1, nd, Hnd.out⟩
        case round =>
          obtain ⟨j, hj, hj2, rfl, rfl, nj, hnj⟩ := hrel
          have hb3 := htot_le x.l Hxo.out.ls j
          have hb4 : htot x.l j ≤ 14073748837000000 := by omega
          have hbj : Below w.heap.size w wr := by rw [hnj]; exact drewN_below (Below.refl _ w) nj
          have hstj := Hst.out.keep hbj
          have c2 := hstj.l
          clear hb3
          by_cases hlj : j < x.l.length
          · have g1 : (j : Int) < (x.l.length : Int) := by omega
            by_cases hj3 : j < 100
            · have g2 : (j : Int) < 100 := by omega
              have hts := htot_succ x.l j hlj
              obtain ⟨b', off', hla, hcs⟩ := hstj.s.2 j hlj
              have hyo := Hxo.out.ls (x.l.getD j default) (by
                rw [List.getD_eq_getElem?_getD, List.getElem?_eq_getElem hlj]
                exact List.getElem_mem _)
              rw [hla] at c2
              generalize x.l.getD j default = y at *
              have d1 := hcs.n
              have d2 := hcs.d
              have hys := hyo.n
              have hyd := hyo.d
              have hmin : min (y.d.size : Int) 16384 = ((min y.d.size 16384 : Nat) : Int) := by omega
              obtain ⟨z, hz⟩ : ∃ z, z = min y.d.size 16384 := ⟨_, rfl⟩
              have hts2 : htot x.l (j + 1) = htot x.l j + (20 + y.n.size + z) := by rw [hts, hz]; rfl
              rw [← hz] at hmin
              have hz2 : z ≤ 16384 := by omega
              have Hts := Lib.hid hts2; clear hts2 hts hz
              generalize hT : htot x.l j = T at *
              have HT := Lib.hid hT; clear hT
              have Hnj := Lib.hid hnj; clear hnj
              clear hcs hyo hstj hbj
              go_wp2
              go_region
              go_wp2
              go_roundw
              case rel => exact ⟨j + 1, by omega, by omega, by go_num, by rw [Hts.out]; congr 1; omega, nj + 1, by rw [Hnj.out]; rfl⟩
              case measure => simp [intOf]; omega
            · have g2 : decide ((j : Int) < 100) = false := decide_eq_false (by omega)
              have g1 : (j : Int) < (x.l.length : Int) := by omega
              have hlg := flong_any x.la x.l.length x.lc x.l wr hstj.s Hxo.out.ls hxl
              have hq : ∀ Q : Ending → World → Prop, (∀ b : Bool, (b = false → x.l.length ≤ 60) → ∀ n, Q (.returned (.bool b)) (w.drewN n)) → Calls Tryz.prog 26 #[.slice x.la x.l.length x.lc] wr Q := fun Q h => hlg.mono fun e w' ⟨b, he, hb, m, hw⟩ => by
                subst he; subst hw
                rw [hnj]
                rw [drewN_two]
                exact h b (fun e => (hb e).1) _
              have Hq := Lib.hid hq; clear hq hlg
              have Hnj := Lib.hid hnj; clear hnj
              clear hstj hbj
              go_wp2_with fail
              refine Hq.out _ ?_
              intro bb hbb m
              cases bb with
              | true =>
                go_wp2
                go_ret
                exact ⟨true, rfl, (fun h => Bool.noConfusion h), m, rfl⟩
              | false => have := hbb rfl; omega
          · have g1 : decide ((j : Int) < (x.l.length : Int)) = false := decide_eq_false (by omega)
            obtain rfl : j = x.l.length := by omega
            have hlg := flong_any x.la x.l.length x.lc x.l wr hstj.s Hxo.out.ls hxl
            have hq : ∀ Q : Ending → World → Prop, (∀ b : Bool, (b = false → x.l.length ≤ 60) → ∀ n, Q (.returned (.bool b)) (w.drewN n)) → Calls Tryz.prog 26 #[.slice x.la x.l.length x.lc] wr Q := fun Q h => hlg.mono fun e w' ⟨b, he, hb, m, hw⟩ => by
              subst he; subst hw
              rw [hnj]
              rw [drewN_two]
              exact h b (fun e => (hb e).1) _
            have Hq := Lib.hid hq; clear hq hlg
            have Hnj := Lib.hid hnj; clear hnj
            have hs1 : hstp x = x.k.size + htot x.l x.l.length := by unfold hstp; rw [Nat.min_eq_left hj2]
            rw [hs1] at Hsucc
            generalize htot x.l x.l.length = T at *
            clear hstj hbj hs1
            go_wp2_with fail
            refine Hq.out _ ?_
            intro bb hbb m
            cases bb with
            | true =>
              go_wp2
              go_ret
              exact ⟨true, rfl, (fun h => Bool.noConfusion h), m, rfl⟩
            | false =>
              have ha := Hall2.out (hbb rfl)
              have Ha := Lib.hid ha; clear ha hbb
              go_wp2
              go_roundw
              case rel => exact ⟨k + 1, by omega, by omega, by go_num, by rw [Hsucc.out]; congr 1; omega, Ha.out, m, rfl⟩
              case measure => simp [intOf]; omega
      · have g1 : (k : Int) < (len : Int) := by omega
        have g2 : decide ((k : Int) < 100) = false := decide_eq_false (by omega)
        have g3 : (60 : Int) < (len : Int) := by omega
        have Hnd := Lib.hid hnd; clear hnd
        go_wp2
        go_ret
        exact ⟨true, rfl, (fun h => Bool.noConfusion h), nd, Hnd.out⟩
    · have g1 : decide ((k : Int) < (len : Int)) = false := decide_eq_false (by omega)
      obtain rfl : k = len := by omega
      have Hnd := Lib.hid hnd; clear hnd
      by_cases h60 : 60 < k
      · have g3 : (60 : Int) < (k : Int) := by omega
        go_wp2
        go_ret
        exact ⟨true, rfl, (fun h => Bool.noConfusion h), nd, Hnd.out⟩
      · have g3 : decide ((60 : Int) < (k : Int)) = false := decide_eq_false (by omega)
        have hin : ∀ x ∈ l, hstp x ≤ hsum l k := fun x hx => by have := hstp_in l hx; rw [hll] at this; exact this
        have hstp2 : ∀ x ∈ l, x.l.length ≤ 60 := fun x hx => by
          obtain ⟨j, hj, rfl⟩ := List.getElem_of_mem hx
          have := Hall.out j (by omega)
          rw [List.getD_eq_getElem?_getD, List.getElem?_eq_getElem hj] at this
          exact this
        have Hin := Lib.hid hin; clear hin
        have Hstp := Lib.hid hstp2; clear hstp2
        generalize hsum l k = B at *
        by_cases hB : 32768 < B
        · have g4 : decide ((32768 : Int) < (B : Int)) = true := decide_eq_true (by omega)
          go_wp2
          go_ret
          exact ⟨true, rfl, (fun h => Bool.noConfusion h), nd, Hnd.out⟩
        · have g4 : decide ((32768 : Int) < (B : Int)) = false := decide_eq_false (by omega)
          have hkk : ∀ x ∈ l, x.k.size ≤ 32768 := fun x hx => by have := Hin.out x hx; unfold hstp at this; omega
          have Hkk := Lib.hid hkk; clear hkk
          by_cases h200 : 200 < sectors
          · have g5 : decide (200 < sectors) = true := decide_eq_true h200
            by_cases h16 : sectors ≤ 16384
            · have g6 : decide (sectors ≤ 16384) = true := decide_eq_true h16
              go_wp2
              go_ret
              exact ⟨true, rfl, (fun h => Bool.noConfusion h), nd, Hnd.out⟩
            · have g6 : decide (sectors ≤ 16384) = false := decide_eq_false h16
              go_wp2
              go_ret
              exact ⟨false, rfl, (fun _ => ⟨by omega, fun x hx => ⟨Hstp.out x hx, Hkk.out x hx⟩, by omega⟩), nd, Hnd.out⟩
          · have g5 : decide (200 < sectors) = false := decide_eq_false h200
            go_wp2
            go_ret
            exact ⟨false, rfl, (fun _ => ⟨by omega, fun x hx => ⟨Hstp.out x hx, Hkk.out x hx⟩, by omega⟩), nd, Hnd.out⟩
end Go.Proofs.YtalklpnekbfehaaGreat
