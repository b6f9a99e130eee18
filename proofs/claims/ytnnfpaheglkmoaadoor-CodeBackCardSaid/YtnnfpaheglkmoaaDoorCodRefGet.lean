/-
  Which program any bytes are, by the document.
-/
import Derived.Test.YtnnfpaheglkmoaaDoorCodGet
import Derived.Test.YtnnfpaheglkmoaaDoorCodRefPut
import Derived.Laws.ResultCell
set_option linter.unusedVariables false
set_option maxRecDepth 100000
namespace Cod
theorem getC_cut : ∀ (j : Nat) (q : List UInt8), 2 * j ≤ q.length → getC q = getC (q.take (2 * j)) ++ getC (q.drop (2 * j))
  | 0, q, _ => by simp [getC]
  | j + 1, [], h => by simp at h
  | j + 1, [a], h => by simp at h; omega
  | j + 1, a :: b :: q, h => by
    have ih := getC_cut j q (by simp at h; omega)
    rw [show 2 * (j + 1) = 2 * j + 1 + 1 by omega]
    simp only [List.take_succ_cons, List.drop_succ_cons, getC, List.cons_append]
    rw [← ih]
theorem getC_len : ∀ (j : Nat) (q : List UInt8), q.length = 2 * j → (getC q).length = j := fun j q h => (getC_is j q h).2
theorem getC_two (j : Nat) (q : List UInt8) (h : 2 * j + 1 < q.length) : getC (q.take (2 * (j + 1))) = getC (q.take (2 * j)) ++ [(q.getD (2 * j) 0, q.getD (2 * j + 1) 0)] := by
  have hc := getC_cut j (q.take (2 * (j + 1))) (by rw [List.length_take]; omega)
  rw [hc, List.take_take, show min (2 * j) (2 * (j + 1)) = 2 * j by omega]
  congr 1
  have e : (q.take (2 * (j + 1))).drop (2 * j) = [q.getD (2 * j) 0, q.getD (2 * j + 1) 0] := by
    apply List.ext_getElem
    · rw [List.length_drop, List.length_take]; simp; omega
    · intro i h1 h2
      simp only [List.length_cons, List.length_nil] at h2
      rw [List.getElem_drop, List.getElem_take]
      match i, h2 with
      | 0, _ => simp [List.getD_eq_getElem?_getD, show 2 * j < q.length by omega]
      | 1, _ => simp [List.getD_eq_getElem?_getD, h]
  rw [e]
  rfl
end Cod
namespace Go.Proofs.YtnnfpaheglkmoaaDoor
open Go.RowKit

/-- the document's reading: the result, the program so far -/
structure RgI (w : World) (v : Value) (ts : List ByteArray) (u : Value) (cs : List Cod.In) (W : World) : Prop where
  b : Below w.heap.size w W
  a : W.heap[w.heap.size]? = some (.cells #[.slice none 0 0, .slice none 0 0] 25 (0, 0))
  p : W.heap[w.heap.size + 1]? = some (.cells #[v, u] 25 (0, 0))
  t : TOwn (w.heap.size + 2) v ts W
  c : XOwn (w.heap.size + 2) u cs W
  sz : w.heap.size + 2 ≤ W.heap.size
section
variable {w W : World} {v u : Value} {ts : List ByteArray} {cs : List Cod.In}
theorem RgI.new {W' : World} (h : RgI w v ts u cs W) (hb : Below W.heap.size W W') : RgI w v ts u cs W' :=
  ⟨h.b.trans (hb.mono h.b.size), row_below h.a hb (row_lt h.a), row_below h.p hb (row_lt h.p), h.t.new hb, h.c.new hb, Nat.le_trans h.sz hb.size⟩
theorem RgI.drew (h : RgI w v ts u cs W) : RgI w v ts u cs W.drew := h.new ((Below.refl _ _).drew)
theorem RgI.c0 (h : RgI w v ts u cs W) : W.cell? ⟨w.heap.size + 1, 0, none⟩ = some v := by rw [cell_of_row _ _ 0 _ _ _ h.p]; rfl
theorem RgI.c1 (h : RgI w v ts u cs W) : W.cell? ⟨w.heap.size + 1, 1, none⟩ = some u := by rw [cell_of_row _ _ 1 _ _ _ h.p]; rfl
theorem RgI.appT {W' : World} {v' : Value} {y : ByteArray} (h : RgI w v ts u cs W) (ho : W'.ownsRow (w.heap.size + 2) 9 1 v' (ts.length + 1) (ts.map Value.string ++ [.string y])) (hg : W.grownBy W' v.ownBlock) :
    W'.heap[w.heap.size + 1]? = some (.cells #[v, u] 25 (0, 0)) ∧ RgI w v' (ts ++ [y]) u cs (W'.setCell ⟨w.heap.size + 1, 0, none⟩ v') := by
  have hne : ∀ k, k < w.heap.size + 2 → v.ownBlock ≠ some k := fun k hk e => by have := (World.ownsRow.lt h.t k e).1; omega
  have hb : ∀ k o, W.heap[k]? = some o → v.ownBlock ≠ some k → W'.heap[k]? = some o := fun k o hk hn => by rw [hg.block k (row_lt hk) (fun e => hn e.symm)]; exact hk
  have hp := hb _ _ h.p (hne _ (by omega))
  have ha := hb _ _ h.a (hne _ (by omega))
  have hc : XOwn (w.heap.size + 2) u cs W' := ownsRow_same h.c fun g hg' => by
    obtain ⟨cur, hcur⟩ := ownsRow_block h.c hg'
    rw [hcur]
    exact hb _ _ hcur (TOwn.off h.t (by decide) hcur)
  have hB : Below w.heap.size w W' := h.b.grown hg (by have := h.sz; omega) (fun k hk => by have := (World.ownsRow.lt h.t k hk).1; omega)
  have hs := grown_set W' (w.heap.size + 1) 0 v'
  have hT : TOwn (w.heap.size + 2) v' (ts ++ [y]) W' := by
    unfold TOwn
    rw [List.length_append, List.map_append]
    exact ho
  have hsz := Nat.le_trans h.sz hg.size
  refine ⟨hp, below_grown hB hs (by omega) (by omega), grown_row ha hs (by omega), ?_, hT.turned hs (fun e => ?_), hc.turned hs (fun e => ?_), by simpa [World.setCell] using hsz⟩
  · rw [heap_setCell_same W' _ 0 _ _ _ hp]; rfl
  · have := (World.ownsRow.lt hT _ e).1; omega
  · have := (World.ownsRow.lt hc _ e).1; omega
theorem RgI.appC {W' : World} {u' : Value} {y : Cod.In} (h : RgI w v ts u cs W) (ho : W'.ownsRow (w.heap.size + 2) 39 2 u' (cs.length + 1) (cs.flatMap insCells ++ insCells y)) (hg : W.grownBy W' u.ownBlock) :
    W'.heap[w.heap.size + 1]? = some (.cells #[v, u] 25 (0, 0)) ∧ RgI w v ts u' (cs ++ [y]) (W'.setCell ⟨w.heap.size + 1, 1, none⟩ u') := by
  have hne : ∀ k, k < w.heap.size + 2 → u.ownBlock ≠ some k := fun k hk e => by have := (World.ownsRow.lt h.c k e).1; omega
  have hb : ∀ k o, W.heap[k]? = some o → u.ownBlock ≠ some k → W'.heap[k]? = some o := fun k o hk hn => by rw [hg.block k (row_lt hk) (fun e => hn e.symm)]; exact hk
  have hp := hb _ _ h.p (hne _ (by omega))
  have ha := hb _ _ h.a (hne _ (by omega))
  have ht : TOwn (w.heap.size + 2) v ts W' := ownsRow_same h.t fun g hg' => by
    obtain ⟨cur, hcur⟩ := ownsRow_block h.t hg'
    rw [hcur]
    exact hb _ _ hcur (XOwn.off h.c (by decide) hcur)
  have hB : Below w.heap.size w W' := h.b.grown hg (by have := h.sz; omega) (fun k hk => by have := (World.ownsRow.lt h.c k hk).1; omega)
  have hs := grown_set W' (w.heap.size + 1) 1 u'
  have hC : XOwn (w.heap.size + 2) u' (cs ++ [y]) W' := by
    unfold XOwn
    rw [List.length_append, List.flatMap_append, List.flatMap_singleton]
    exact ho
  have hsz := Nat.le_trans h.sz hg.size
  refine ⟨hp, below_grown hB hs (by omega) (by omega), grown_row ha hs (by omega), ?_, ht.turned hs (fun e => ?_), hC.turned hs (fun e => ?_), by simpa [World.setCell] using hsz⟩
  · rw [heap_setCell_same W' _ 1 _ _ _ hp]; rfl
  · have := (World.ownsRow.lt ht _ e).1; omega
  · have := (World.ownsRow.lt hC _ e).1; omega
end
theorem rget_results (tmps : Array Value) (g : Nat) (x y e : Value) (W : World) (h2 : tmps.getD 2 undef = .pointer (some ⟨g, 0, none⟩)) (h3 : tmps.getD 3 undef = e) (hg : W.heap[g]? = some (.cells #[x, y] 25 (0, 0))) :
    (results Tryd.f13 tmps).run Tryd.prog W = .ok (.tuple #[.agg #[x, y], e]) W := by
  rw [results_cell_tmp (p := 2) (u := 3) rfl, h2, h3]
  simp [asAddr, run_loadVar_row W g _ 25 #[x, y] _ _ hg Tryd.underlying25 rfl (by kernel_rfl)]
theorem list_part (b : UInt8) (m : List UInt8) (q : Nat) (h : q ≤ m.length) : (⟨(b :: m).toArray⟩ : ByteArray).extract 1 (1 + q) = ⟨(m.take q).toArray⟩ := by
  have e : ((⟨(b :: m).toArray⟩ : ByteArray).extract 1 (1 + q)).data.toList = m.take q := by
    rw [ByteArray.data_extract]
    simp only [List.extract_toArray, List.extract_eq_take_drop]
    simp
  rw [← ba_eta ((⟨(b :: m).toArray⟩ : ByteArray).extract 1 (1 + q)), e]
theorem list_tail (b : UInt8) (m : List UInt8) (q : Nat) (h : q ≤ m.length) : (⟨(b :: m).toArray⟩ : ByteArray).extract (1 + q) (m.length + 1) = ⟨(m.drop q).toArray⟩ := by
  have e : ((⟨(b :: m).toArray⟩ : ByteArray).extract (1 + q) (m.length + 1)).data.toList = m.drop q := by
    rw [ByteArray.data_extract]
    simp only [List.extract_toArray, List.extract_eq_take_drop]
    rw [show 1 + q = q + 1 by omega, List.drop_succ_cons]
    exact List.take_of_length_le (by simp)
  rw [← ba_eta ((⟨(b :: m).toArray⟩ : ByteArray).extract (1 + q) (m.length + 1)), e]
/-- an answer of ErrForm -/
theorem rget_form {w W : World} {v u : Value} {ts : List ByteArray} {cs : List Cod.In} {z : Option Cod.Pr} (h : RgI w v ts u cs W) (hz : z = none) :
    GetR z (.returned (.tuple #[.agg #[.slice none 0 0, .slice none 0 0], .int .i64 7])) ((W.setCell ⟨w.heap.size, 0, none⟩ (.slice none 0 0)).setCell ⟨w.heap.size, 1, none⟩ (.slice none 0 0)) ∧ Below w.heap.size w ((W.setCell ⟨w.heap.size, 0, none⟩ (.slice none 0 0)).setCell ⟨w.heap.size, 1, none⟩ (.slice none 0 0)) :=
  ⟨.inl ⟨hz, rfl⟩, (h.b.setCell (Nat.le_refl _) _).setCell (Nat.le_refl _) _⟩

set_option maxHeartbeats 8000000 in
theorem refGet12_any (s : ByteArray) (hs : s.size ≤ 1099511627776) (w : World) :
    Calls Tryd.prog 13 #[.string s] w fun e w' => GetR (Cod.get s.data.toList) e w' ∧ Below w.heap.size w w' := by
  obtain ⟨i0, hi0, hz0, hz1, hz2⟩ := info_parts tstr_info
  obtain ⟨j0, hj0, hy0, hy1, hy2⟩ := info_parts ins_info
  obtain ⟨z, hz⟩ : ∃ z, z = Cod.get s.data.toList := ⟨_, rfl⟩
  rw [← hz]
  obtain ⟨l, hl⟩ : ∃ l, l = s.data.toList := ⟨_, rfl⟩
  have hse : s = ⟨l.toArray⟩ := by rw [hl, ba_eta]
  have hll : l.length ≤ 1099511627776 := by rw [hl, ba_len]; exact hs
  rw [← hl] at hz
  clear hl
  subst hse
  clear hs
  have HZ := Lib.hid hz; clear hz
  have hI : RgI w (.slice none 0 0) [] (.slice none 0 0) [] ((w.alloc (.cells #[.slice none 0 0, .slice none 0 0] 25)).alloc (.cells #[.slice none 0 0, .slice none 0 0] 25)) := by
    have h1 := obj_below w (.cells #[.slice none 0 0, .slice none 0 0] 25)
    have e1 := heap_alloc_new w (.cells #[.slice none 0 0, .slice none 0 0] 25)
    have e2 := heap_alloc_new (w.alloc (.cells #[.slice none 0 0, .slice none 0 0] 25)) (.cells #[.slice none 0 0, .slice none 0 0] 25)
    have es : (w.alloc (.cells #[.slice none 0 0, .slice none 0 0] 25)).heap.size = w.heap.size + 1 := by simp
    rw [es] at e2
    exact ⟨h1.trans ((obj_below (w.alloc (.cells #[.slice none 0 0, .slice none 0 0] 25)) (.cells #[.slice none 0 0, .slice none 0 0] 25)).mono h1.size), row_alloc e1 _, e2, World.ownsRow_nil _ _ _ _, World.ownsRow_nil _ _ _ _, by simp⟩
  have HI := Lib.hid hI; clear hI
  have Hll := Lib.hid hll; clear hll
  cases l with
  | nil =>
    have hzn : z = none := HZ.out
    have Hzn := Lib.hid hzn; clear hzn
    go_enter Tryd.func13, Tryd.ntmps13
    go_wp2_with fail
    refine bodyPost_ret (rget_results _ w.heap.size _ _ _ _ rfl rfl HI.out.a) rfl ?_
    exact ⟨.inl ⟨Hzn.out, rfl⟩, HI.out.b⟩
  | cons n0 l1 =>
    have hl1 : l1.length ≤ 1099511627776 := by have := Hll.out; simp only [List.length_cons] at this; omega
    obtain ⟨n, hn⟩ : ∃ n, n = n0.toNat := ⟨_, rfl⟩
    have hn256 : n < 256 := by rw [hn]; exact n0.toNat_lt
    have hzz : z = match Cod.getT n l1 with | none => none | some x => Cod.getR x.1 x.2 := by rw [hn]; exact HZ.out
    have Hzz := Lib.hid hzz; clear hzz HZ
    have hsz : (⟨(n0 :: l1).toArray⟩ : ByteArray).size = l1.length + 1 := list_size _
    have hx0 : ∀ (h : 0 < (⟨(n0 :: l1).toArray⟩ : ByteArray).size), ((⟨(n0 :: l1).toArray⟩ : ByteArray)[0]'h).toNat = n := fun h => by rw [hn]; rfl
    have hex := list_drop (n0 :: l1) 1 (by simp)
    rw [List.length_cons, ← hsz, List.drop_succ_cons, List.drop_zero] at hex
    have hne : (⟨(n0 :: l1).toArray⟩ : ByteArray).toList.isEmpty = false := by rw [Lib.toList_data]; rfl
    obtain ⟨r, hr⟩ : ∃ r : ByteArray, r = ⟨(n0 :: l1).toArray⟩ := ⟨_, rfl⟩
    rw [← hr] at hx0 hex hne hsz ⊢
    clear hr hn
    have hsz1 : (1 : Int) ≤ (r.size : Int) := by omega
    obtain ⟨r1, hr1⟩ : ∃ r1 : ByteArray, r1 = ⟨l1.toArray⟩ := ⟨_, rfl⟩
    rw [← hr1] at hex
    have Hl1 := Lib.hid hl1; clear hl1 Hll
    have hwn : IntKind.i64.wrap (n : Int) = (n : Int) := by simp only [IntKind.wrap_i64]; omega
    have Hr1 := Lib.hid hr1; clear hr1
    have Hsz := Lib.hid hsz; clear hsz
    go_enter Tryd.func13, Tryd.ntmps13
    go_wp2_with fail
    go_loopw [0, 6] (fun q i wr => ∃ (k : Nat) (rest : List UInt8) (v : Value) (ts : List ByteArray), k ≤ n ∧ q = .string ⟨rest.toArray⟩ ∧ i = .int .i64 (k : Int) ∧ ts.length = k ∧ rest.length ≤ 1099511627776 ∧ Cod.getT n l1 = (Cod.getT (n - k) rest).map (fun x => (lists ts ++ x.1, x.2)) ∧ RgI w v ts (.slice none 0 0) [] wr) (fun _ i _ => n - (intOf i).toNat)
    case atStart => exact ⟨0, l1, _, [], Nat.zero_le _, by rw [Hr1.out], rfl, rfl, Hl1.out, by rw [Nat.sub_zero]; cases Cod.getT n l1 <;> simp [lists], HI.out⟩
    case round =>
      clear HI hx0 hex hne hsz1 Hsz Hr1
      obtain ⟨k, rest, v, ts, hk, rfl, rfl, htk, hrl, hg, hI⟩ := hrel
      have HI := Lib.hid hI; clear hI
      have Hg := Lib.hid hg; clear hg
      have Htk := Lib.hid htk; clear htk
      have Hrl := Lib.hid hrl; clear hrl
      have a0 : wr.cell? ⟨w.heap.size, 0, none⟩ = some (.slice none 0 0) := by rw [cell_of_row _ _ 0 _ _ _ HI.out.a]; rfl
      have a1 : wr.cell? ⟨w.heap.size, 1, none⟩ = some (.slice none 0 0) := by rw [cell_of_row _ _ 1 _ _ _ HI.out.a]; rfl
      have f0 := row_free HI.out.a 0
      have f1 := row_free HI.out.a 1
      by_cases hlt : k < n
      · have hlt2 : (k : Int) < (n : Int) := by omega
        cases rest with
        | nil =>
          have hzn : z = none := by rw [Hzz.out, Hg.out, show n - k = (n - (k + 1)) + 1 by omega, Cod.getT_nil]; rfl
          have Hzn := Lib.hid hzn; clear hzn
          go_wp2_with fail
          refine bodyPost_ret (rget_results _ w.heap.size _ _ _ _ rfl rfl (set_two HI.out.a)) rfl ?_
          exact rget_form HI.out Hzn.out
        | cons b m =>
        obtain ⟨q, hq⟩ : ∃ q, q = b.toNat := ⟨_, rfl⟩
        have hq256 : q < 256 := by rw [hq]; exact b.toNat_lt
        have hml : m.length ≤ 1099511627776 := by have := Hrl.out; simp only [List.length_cons] at this; omega
        have hsz : (⟨(b :: m).toArray⟩ : ByteArray).size = m.length + 1 := list_size _
        have hx0 : ∀ (h : 0 < (⟨(b :: m).toArray⟩ : ByteArray).size), ((⟨(b :: m).toArray⟩ : ByteArray)[0]'h).toNat = q := fun h => by rw [hq]; rfl
        have hne : (⟨(b :: m).toArray⟩ : ByteArray).toList.isEmpty = false := by rw [Lib.toList_data]; rfl
        have hpart := list_part b m q
        have htail := list_tail b m q
        rw [← hsz] at htail
        obtain ⟨r, hr⟩ : ∃ r : ByteArray, r = ⟨(b :: m).toArray⟩ := ⟨_, rfl⟩
        rw [← hr] at hx0 hne hsz hpart htail ⊢
        clear hr
        have Hq := Lib.hid hq; clear hq
        have hwq : IntKind.i64.wrap (q : Int) = (q : Int) := by simp only [IntKind.wrap_i64]; omega
        have hws : IntKind.i64.wrap ((r.size : Int) - 1) = (r.size : Int) - 1 := by simp only [IntKind.wrap_i64]; omega
        have hpos : 0 < r.size := by omega
        by_cases hs : m.length < q
        · have hzn : z = none := by rw [Hzz.out, Hg.out, show n - k = (n - (k + 1)) + 1 by omega, Cod.getT_short (by rw [← Hq.out]; exact hs)]; rfl
          have Hzn := Lib.hid hzn; clear hzn
          have d1 : decide ((r.size : Int) - 1 < (q : Int)) = true := decide_eq_true (by omega)
          clear hpart htail hs hsz
          go_wp2_with fail
          refine bodyPost_ret (rget_results _ w.heap.size _ _ _ _ rfl rfl (set_two HI.out.a)) rfl ?_
          exact rget_form HI.out Hzn.out
        have hpart := hpart (Nat.le_of_not_lt hs)
        have htail := htail (Nat.le_of_not_lt hs)
        have d1 : decide ((r.size : Int) - 1 < (q : Int)) = false := decide_eq_false (by omega)
        obtain ⟨Y, hY⟩ : ∃ Y : ByteArray, Y = ⟨(m.take q).toArray⟩ := ⟨_, rfl⟩
        have hsl : ∀ u, (Instr.sliceAt 9 (.string r) (some (.int .i64 1)) (some (.int .i64 (1 + (q : Int)))) none).run Tryd.prog u = .ok (.string Y) u := fun u => by
          have := text_part r 1 (1 + q) (by omega) (by omega) u
          rw [hpart, ← hY, show ((1 + q : Nat) : Int) = 1 + (q : Int) by omega] at this
          exact this
        have Hsl := Lib.hid hsl; clear hsl hpart
        have hw1q : IntKind.i64.wrap (1 + (q : Int)) = 1 + (q : Int) := by simp only [IntKind.wrap_i64]; omega
        have hst := Cod.getT_step (b := b) (l := m) (T := lists ts) hlt (by rw [← Hq.out]; exact hs) Hg.out
        have Hst := Lib.hid hst; clear hst
        have hqs : 1 + (q : Int) ≤ (r.size : Int) := by omega
        have hqs0 : (0 : Int) ≤ 1 + (q : Int) := by omega
        have HY := Lib.hid hY; clear hY
        have Hs := Lib.hid hs; clear hs
        have Hmd : (m.drop q).length ≤ 1099511627776 := by rw [List.length_drop]; omega
        have HMd := Lib.hid Hmd; clear Hmd hsz hml
        obtain ⟨r2, hr2⟩ : ∃ r2 : ByteArray, r2 = ⟨(m.drop q).toArray⟩ := ⟨_, rfl⟩
        rw [← hr2] at htail
        have Hr2 := Lib.hid hr2; clear hr2
        have Htail := Lib.hid htail; clear htail
        go_wp2_with fail
        have hId := HI.out.drew
        refine wp_region_text [0, 1, 2, 3, 4] [5, 6] [7, 8] (by kernel_rfl) (by kernel_rfl) (fun hu => hu.cell? ⟨w.heap.size + 1, 0, none⟩ = some v) hId.c0 ?_
        simp only [pick, List.filterMap_cons, List.filterMap_nil, List.getElem?_toArray, List.getElem?_cons_zero, List.getElem?_cons_succ]
        refine take_one (.pointer (some ⟨(w.heap.size + 1), 0, none⟩)) rfl (fun u _ => by go_simp) ?_
        simp only [Act.put, List.setIfInBounds_toArray, List.set_cons_zero, List.set_cons_succ]
        refine take_load 22 (.tmp 39) ⟨(w.heap.size + 1), 0, none⟩ v rfl rfl rfl (fun u hu => load_at Tryd.underlying22 Tryd.isAgg22 hu) ?_
        simp only [Act.put, List.setIfInBounds_toArray, List.set_cons_zero, List.set_cons_succ]
        refine take_move (.tmp 0) (.string r) rfl rfl rfl ?_
        simp only [Act.put, List.setIfInBounds_toArray, List.set_cons_zero, List.set_cons_succ]
        refine take_move (.tmp 7) (.int .i64 (1 + (q : Int))) rfl rfl rfl ?_
        simp only [Act.put, List.setIfInBounds_toArray, List.set_cons_zero, List.set_cons_succ]
        refine take_one (.string Y) rfl (fun u hu => by exact run_sub_both 9 (.tmp 41) (.const (.int .i64 1)) (.tmp 42) rfl _ _ _ _ rfl rfl rfl (Hsl.out u)) ?_
        simp only [Act.put, List.setIfInBounds_toArray, List.set_cons_zero, List.set_cons_succ]
        refine take_done ?_
        have h7 := hId.new (obj_below wr.drew (.cells #[.string Y] 9))
        refine mid_one (w' := wr.drew.alloc (.cells #[.string Y] 9)) (.slice (some ⟨wr.drew.heap.size, 0, none⟩) 1 1) rfl (run_slice_op 22 1 [(0, .tmp 43)] rfl (slice_str1 _ wr.drew)) h7.c0 ?_
        simp only [Act.put, List.setIfInBounds_toArray, List.set_cons_zero, List.set_cons_succ]
        refine mid_wp rfl (Edt.append_at (.tmp 40) (.tmp 44) 22 rfl (w.heap.size + 2) 9 i0 _ 1 16 Tryd.underlying22 hi0 hz0 hz1 hz2 rfl (by decide) v ts.length (ts.map Value.string) rfl h7.t ⟨wr.drew.heap.size, 0, none⟩ 1 1 [.string Y] rfl rfl (cell_new_row wr.drew [.string Y] 9) (by intro u hu; simp at hu; subst hu; rfl) (by have := Htk.out; unfold maxLen; omega) (by have := Htk.out; omega) h7.sz ?_)
        intro v8 w8 ho8 hg8
        obtain ⟨hp8, h9⟩ := h7.appT ho8 hg8
        have c8 : w8.cell? ⟨w.heap.size + 1, 0, none⟩ = some v := by rw [cell_of_row _ _ 0 _ _ _ hp8]; rfl
        refine ⟨c8, ?_⟩
        simp only [Act.put, List.setIfInBounds_toArray, List.set_cons_zero, List.set_cons_succ]
        refine mid_list ?_
        have g8 := row_free hp8 0
        obtain ⟨a8, d8, hv8⟩ := h9.t.form
        rw [show (ts ++ [Y]).length = k + 1 by rw [List.length_append, Htk.out]; rfl] at hv8
        subst hv8
        have H9 := Lib.hid h9
        clear h9 hp8 ho8 hg8 h7 hId a0 a1 f0 f1
        go_wp2_with fail
        refine NoPanic.normal ?_
        have hk1 : IntKind.i64.wrap ((k : Int) + 1) = ((k + 1 : Nat) : Int) := by simp only [IntKind.wrap_i64]; omega
        go_wp2_with fail
        go_roundw
        case rel => exact ⟨k + 1, m.drop q, _, ts ++ [Y], by omega, by rw [Htail.out, Hr2.out], by go_num, by rw [List.length_append, Htk.out]; rfl, HMd.out, by rw [Hst.out, HY.out, codAt_append, ← Hq.out], H9.out⟩
        case measure => simp [intOf]; omega
      · obtain rfl : k = n := by omega
        have hlt2 : ¬ (k : Int) < (k : Int) := by omega
        have hgt : Cod.getT k l1 = some (lists ts, rest) := by
          rw [Hg.out, Nat.sub_self]
          simp [Cod.getT]
        have hz2 : z = Cod.getR (lists ts) rest := by rw [Hzz.out, hgt]
        have Hz2 := Lib.hid hz2; clear hz2 hgt
        clear Hg Hzz hlt hk
        go_wp2_with fail
        by_cases hsh : rest.length < 2
        · have hzn : z = none := by
            rw [Hz2.out]
            match rest, hsh with
            | [], _ => rfl
            | [a], _ => rfl
          have Hzn := Lib.hid hzn; clear hzn
          have hsz : (⟨rest.toArray⟩ : ByteArray).size = rest.length := list_size _
          obtain ⟨r3, hr3⟩ : ∃ r : ByteArray, r = ⟨rest.toArray⟩ := ⟨_, rfl⟩
          rw [← hr3] at hsz ⊢
          have d1 : decide ((r3.size : Int) < (2 : Int)) = true := decide_eq_true (by omega)
          clear hr3 hsz hsh
          go_region
          go_wp2_with fail
          refine bodyPost_ret (rget_results _ w.heap.size _ _ _ _ rfl rfl (set_two HI.out.a)) rfl ?_
          exact ⟨.inl ⟨Hzn.out, rfl⟩, ((HI.out.b.setCell (Nat.le_refl _) _).setCell (Nat.le_refl _) _).drew⟩
        obtain ⟨a, b, r0, rfl⟩ : ∃ a b r0, rest = a :: b :: r0 := by
          match rest, hsh with
          | [], h => simp at h
          | [a], h => simp at h
          | a :: b :: r, _ => exact ⟨a, b, r, rfl⟩
        clear hsh
        have hrl0 : r0.length ≤ 1099511627776 := by have := Hrl.out; simp only [List.length_cons] at this; omega
        have hsz : (⟨(a :: b :: r0).toArray⟩ : ByteArray).size = r0.length + 2 := list_size _
        obtain ⟨A, hA⟩ : ∃ A, A = a.toNat := ⟨_, rfl⟩
        obtain ⟨B, hB⟩ : ∃ B, B = b.toNat := ⟨_, rfl⟩
        have hA256 : A < 256 := by rw [hA]; exact a.toNat_lt
        have hB256 : B < 256 := by rw [hB]; exact b.toNat_lt
        have hx0 : ∀ (h : 0 < (⟨(a :: b :: r0).toArray⟩ : ByteArray).size), ((⟨(a :: b :: r0).toArray⟩ : ByteArray)[0]'h).toNat = A := fun h => by rw [hA]; rfl
        have hx1 : ∀ (h : 1 < (⟨(a :: b :: r0).toArray⟩ : ByteArray).size), ((⟨(a :: b :: r0).toArray⟩ : ByteArray)[1]'h).toNat = B := fun h => by rw [hB]; rfl
        have hz3 : z = if r0.length = 2 * (A + 256 * B) ∧ (⟨lists ts, Cod.getC r0⟩ : Cod.Pr).May then some ⟨lists ts, Cod.getC r0⟩ else none := by rw [hA, hB]; exact Hz2.out
        have Hz3 := Lib.hid hz3; clear hz3 Hz2 hA hB
        have hget : ∀ t, t < r0.length → (⟨(a :: b :: r0).toArray⟩ : ByteArray).data.toList.getD (2 + t) 0 = r0.getD t 0 := fun t ht => by
          show (a :: b :: r0).getD (2 + t) 0 = _
          rw [show 2 + t = t + 1 + 1 by omega]
          rfl
        obtain ⟨r3, hr3⟩ : ∃ r : ByteArray, r = ⟨(a :: b :: r0).toArray⟩ := ⟨_, rfl⟩
        rw [← hr3] at hsz hx0 hx1 hget ⊢
        clear hr3
        have hp0 : 0 < r3.size := by omega
        have hp1 : 1 < r3.size := by omega
        have d1 : decide ((r3.size : Int) < (2 : Int)) = false := decide_eq_false (by omega)
        have hw1 : IntKind.i64.wrap (A : Int) = (A : Int) := by simp only [IntKind.wrap_i64]; omega
        have hw2 : IntKind.i64.wrap (B : Int) = (B : Int) := by simp only [IntKind.wrap_i64]; omega
        have hw3 : IntKind.i64.wrap (256 * (B : Int)) = 256 * (B : Int) := by simp only [IntKind.wrap_i64]; omega
        have hw4 : IntKind.i64.wrap ((A : Int) + 256 * (B : Int)) = (A : Int) + 256 * (B : Int) := by simp only [IntKind.wrap_i64]; omega
        have hw5 : IntKind.i64.wrap (2 * ((A : Int) + 256 * (B : Int))) = 2 * ((A : Int) + 256 * (B : Int)) := by simp only [IntKind.wrap_i64]; omega
        have hw6 : IntKind.i64.wrap (2 + 2 * ((A : Int) + 256 * (B : Int))) = 2 + 2 * ((A : Int) + 256 * (B : Int)) := by simp only [IntKind.wrap_i64]; omega
        have Hget := Lib.hid hget; clear hget
        by_cases hlc : r0.length = 2 * (A + 256 * B)
        · have d2 : ((r3.size : Int) == 2 + 2 * ((A : Int) + 256 * (B : Int))) = true := beq_iff_eq.2 (by omega)
          have d3 : ((r3.size : Int) != 2 + 2 * ((A : Int) + 256 * (B : Int))) = false := by rw [bne, d2]; rfl
          obtain ⟨c, hc⟩ : ∃ c, c = A + 256 * B := ⟨_, rfl⟩
          have hcm : c ≤ 65535 := by omega
          have hlc2 : r0.length = 2 * c := by rw [hc]; exact hlc
          have hsz2 : r3.size = 2 + 2 * c := by omega
          have hz4 : z = if (⟨lists ts, Cod.getC r0⟩ : Cod.Pr).May then some ⟨lists ts, Cod.getC r0⟩ else none := by
            rw [Hz3.out]
            by_cases e : (⟨lists ts, Cod.getC r0⟩ : Cod.Pr).May
            · rw [if_pos ⟨hlc, e⟩, if_pos e]
            · rw [if_neg (fun x => e x.2), if_neg e]
          have Hz4 := Lib.hid hz4; clear hz4 Hz3
          have Hlc2 := Lib.hid hlc2; clear hlc2
          have Hsz2 := Lib.hid hsz2; clear hsz2
          have Hcm := Lib.hid hcm; clear hcm
          clear hc hlc hsz hrl0
          go_region
          clear hx0 hx1 hp0 hp1 d1 d2 d3 hw1 hw2 hw3 hw4 hw5 hw6 hA256 hB256
          go_wp2_with fail
          have hId0 := HI.out.drew
          have HI0 := Lib.hid hId0; clear hId0
          go_loopw [8] (fun i wr => ∃ (j : Nat) (u : Value), j ≤ c ∧ i = .int .i64 ((2 + 2 * j : Nat) : Int) ∧ RgI w v ts u (Cod.getC (r0.take (2 * j))) wr) (fun i _ => 2 + 2 * c - (intOf i).toNat)
          case atStart => exact ⟨0, _, Nat.zero_le _, rfl, HI0.out⟩
          case round =>
            clear HI0 HI a0 a1 f0 f1
            obtain ⟨j, u, hj, rfl, hI⟩ := hrel
            have hcl := Cod.getC_len j (r0.take (2 * j)) (by rw [List.length_take]; have := Hlc2.out; omega)
            have HI := Lib.hid hI; clear hI
            have Hcl := Lib.hid hcl; clear hcl
            by_cases hlj : j < c
            · have dj : decide (((2 + 2 * j : Nat) : Int) < (r3.size : Int)) = true := decide_eq_true (by have := Hsz2.out; omega)
              have htw := Cod.getC_two j r0 (by have := Hlc2.out; omega)
              have hg0 := Hget.out (2 * j) (by have := Hlc2.out; omega)
              have hg1 := Hget.out (2 * j + 1) (by have := Hlc2.out; omega)
              obtain ⟨x, hx⟩ : ∃ x, x = r0.getD (2 * j) 0 := ⟨_, rfl⟩
              obtain ⟨y, hy⟩ : ∃ y, y = r0.getD (2 * j + 1) 0 := ⟨_, rfl⟩
              rw [← hx] at hg0 htw
              rw [← hy] at hg1 htw
              have hi0' : ∀ u, (Instr.index 9 (.string r3) (.int .i64 ((2 + 2 * j : Nat) : Int))).run Tryd.prog u = .ok (.int .u8 (x.toNat : Int)) u := fun u => by
                have := text_index r3 (2 + 2 * j) (by have := Hsz2.out; omega) u
                rwa [hg0] at this
              have hi1' : ∀ u, (Instr.index 9 (.string r3) (.int .i64 ((2 + 2 * j + 1 : Nat) : Int))).run Tryd.prog u = .ok (.int .u8 (y.toNat : Int)) u := fun u => by
                have := text_index r3 (2 + 2 * j + 1) (by have := Hsz2.out; omega) u
                rw [show 2 + 2 * j + 1 = 2 + (2 * j + 1) by omega] at this ⊢
                rwa [hg1] at this
              have Hi0 := Lib.hid hi0'; clear hi0' hg0
              have Hi1 := Lib.hid hi1'; clear hi1' hg1 hx hy
              have Htw := Lib.hid htw; clear htw
              obtain ⟨P, hP⟩ : ∃ P : Int, P = ((2 + 2 * j : Nat) : Int) := ⟨_, rfl⟩
              rw [← hP] at Hi0 dj ⊢
              have hw1 : IntKind.i64.wrap (P + 1) = P + 1 := by have := Hcm.out; simp only [IntKind.wrap_i64]; omega
              have hP1 : ((2 + 2 * j + 1 : Nat) : Int) = P + 1 := by omega
              rw [hP1] at Hi1
              have hw2 : IntKind.i64.wrap (P + 2) = P + 2 := by have := Hcm.out; simp only [IntKind.wrap_i64]; omega
              have Hw1 := Lib.hid hw1; clear hw1
              have HP := Lib.hid hP; clear hP hP1
              have Hj := Lib.hid hj; clear hj
              have Hlj := Lib.hid hlj; clear hlj
              go_wp2_with fail
              have hId := HI.out.drew
              refine wp_region_text [0, 1, 2, 3, 4, 5, 6, 7, 8, 9] [10, 11] [12, 13] (by kernel_rfl) (by kernel_rfl) (fun hu => hu.cell? ⟨w.heap.size + 1, 1, none⟩ = some u) hId.c1 ?_
              simp only [pick, List.filterMap_cons, List.filterMap_nil, List.getElem?_toArray, List.getElem?_cons_zero, List.getElem?_cons_succ]
              refine take_one (.pointer (some ⟨(w.heap.size + 1), 1, none⟩)) rfl (fun u _ => by go_simp) ?_
              simp only [Act.put, List.setIfInBounds_toArray, List.set_cons_zero, List.set_cons_succ]
              refine take_load 23 (.tmp 75) ⟨(w.heap.size + 1), 1, none⟩ u rfl rfl rfl (fun u hu => load_at Tryd.underlying23 Tryd.isAgg23 hu) ?_
              simp only [Act.put, List.setIfInBounds_toArray, List.set_cons_zero, List.set_cons_succ]
              refine take_move (.tmp 0) (.string r3) rfl rfl rfl ?_
              simp only [Act.put, List.setIfInBounds_toArray, List.set_cons_zero, List.set_cons_succ]
              refine take_move (.tmp 8) (.int .i64 P) rfl rfl rfl ?_
              simp only [Act.put, List.setIfInBounds_toArray, List.set_cons_zero, List.set_cons_succ]
              refine take_one (.int .u8 (x.toNat : Int)) rfl (fun u hu => by exact run_index_at 9 (.tmp 77) (.tmp 78) rfl _ _ _ rfl rfl (Hi0.out _)) ?_
              simp only [Act.put, List.setIfInBounds_toArray, List.set_cons_zero, List.set_cons_succ]
              refine take_move (.tmp 0) (.string r3) rfl rfl rfl ?_
              simp only [Act.put, List.setIfInBounds_toArray, List.set_cons_zero, List.set_cons_succ]
              refine take_move (.tmp 8) (.int .i64 P) rfl rfl rfl ?_
              simp only [Act.put, List.setIfInBounds_toArray, List.set_cons_zero, List.set_cons_succ]
              refine take_one (.int .i64 (P + 1)) rfl (fun u hu => by go_simp; exact Hw1.out) ?_
              simp only [Act.put, List.setIfInBounds_toArray, List.set_cons_zero, List.set_cons_succ]
              refine take_one (.int .u8 (y.toNat : Int)) rfl (fun u hu => by exact run_index_at 9 (.tmp 80) (.tmp 82) rfl _ _ _ rfl rfl (Hi1.out _)) ?_
              simp only [Act.put, List.setIfInBounds_toArray, List.set_cons_zero, List.set_cons_succ]
              refine take_one (insV (x, y)) rfl (fun u hu => by exact run_build_at 39 [(0, .tmp 79), (1, .tmp 83)] rfl (build_ins (x, y) _)) ?_
              simp only [Act.put, List.setIfInBounds_toArray, List.set_cons_zero, List.set_cons_succ]
              refine take_done ?_
              have h7 := hId.new (obj_below wr.drew (.cells #[.int .u8 (x.toNat : Int), .int .u8 (y.toNat : Int)] 39))
              refine mid_one (w' := wr.drew.alloc (.cells #[.int .u8 (x.toNat : Int), .int .u8 (y.toNat : Int)] 39)) (.slice (some ⟨wr.drew.heap.size, 0, none⟩) 1 1) rfl (run_slice_op 23 1 [(0, .tmp 84)] rfl (slice_ins1 (x, y) wr.drew)) h7.c1 ?_
              simp only [Act.put, List.setIfInBounds_toArray, List.set_cons_zero, List.set_cons_succ]
              refine mid_wp rfl (Edt.append_at (.tmp 76) (.tmp 85) 23 rfl (w.heap.size + 2) 39 j0 _ 2 2 Tryd.underlying23 hj0 hy0 hy1 hy2 rfl (by decide) u (Cod.getC (r0.take (2 * j))).length ((Cod.getC (r0.take (2 * j))).flatMap insCells) rfl h7.c ⟨wr.drew.heap.size, 0, none⟩ 1 1 [.int .u8 (x.toNat : Int), .int .u8 (y.toNat : Int)] rfl rfl (cell_new_row wr.drew [.int .u8 (x.toNat : Int), .int .u8 (y.toNat : Int)] 39) (by intro u hu; simp at hu; rcases hu with rfl | rfl <;> rfl) (by have := Hcl.out; have := Hcm.out; have := Hj.out; unfold maxLen; omega) (by have := Hcl.out; have := Hcm.out; have := Hj.out; omega) h7.sz ?_)
              intro u8 w8 ho8 hg8
              obtain ⟨hp8, h9⟩ := h7.appC (y := (x, y)) ho8 hg8
              have c8 : w8.cell? ⟨w.heap.size + 1, 1, none⟩ = some u := by rw [cell_of_row _ _ 1 _ _ _ hp8]; rfl
              refine ⟨c8, ?_⟩
              simp only [Act.put, List.setIfInBounds_toArray, List.set_cons_zero, List.set_cons_succ]
              refine mid_list ?_
              have g8 := row_free hp8 1
              obtain ⟨a8, d8, hv8⟩ := h9.c.form
              rw [show (Cod.getC (r0.take (2 * j)) ++ [(x, y)]).length = j + 1 by rw [List.length_append, Hcl.out]; rfl] at hv8
              subst hv8
              rw [← Htw.out] at h9
              have H9 := Lib.hid h9
              clear h9 hp8 ho8 hg8 h7 hId
              go_wp2_with fail
              refine NoPanic.normal ?_
              go_wp2_with fail
              go_roundw
              case rel => exact ⟨j + 1, _, by have := Hlj.out; omega, by rw [HP.out]; congr 1, H9.out⟩
              case measure => have := HP.out; have := Hlj.out; simp [intOf]; omega
            · obtain rfl : j = c := by omega
              have dj : decide (((2 + 2 * j : Nat) : Int) < (r3.size : Int)) = false := decide_eq_false (by have := Hsz2.out; omega)
              have htk2 : r0.take (2 * j) = r0 := List.take_of_length_le (by rw [Hlc2.out]; exact Nat.le_refl _)
              rw [htk2] at HI Hcl
              obtain ⟨P, hP⟩ : ∃ P : Int, P = ((2 + 2 * j : Nat) : Int) := ⟨_, rfl⟩
              rw [← hP] at dj ⊢
              clear hP htk2
              obtain ⟨av, dv, hv, hvs, hvz⟩ := HI.out.t.strs
              obtain ⟨au, du, hu, hus, huz⟩ := HI.out.c.reads
              have hpr : PrAt ⟨av, ts.length, dv, au, (Cod.getC r0).length, du⟩ ts (Cod.getC r0) wr := ⟨hvs, hus, hvz, huz⟩
              have c0 := HI.out.c0
              have c1 := HI.out.c1
              rw [hv] at c0
              rw [hu] at c1
              rw [Htk.out] at c0 hpr
              rw [Hcl.out] at c1 hpr
              have hmay := refMay12_any hpr (by simp only; omega) (by simp only; have := Hcm.out; omega)
              unfold Pv.v prog at hmay
              simp only at hmay
              have a0 : wr.cell? ⟨w.heap.size, 0, none⟩ = some (.slice none 0 0) := by rw [cell_of_row _ _ 0 _ _ _ HI.out.a]; rfl
              have Hpr := Lib.hid hpr; clear hpr
              have Hv := Lib.hid hv
              have Hu := Lib.hid hu
              clear hv hu hvs hus hvz huz hlj hj
              clear a0
              by_cases hM : (⟨lists ts, Cod.getC r0⟩ : Cod.Pr).May
              · rw [decide_eq_true hM] at hmay
                have hzs : z = some ⟨lists ts, Cod.getC r0⟩ := by rw [Hz4.out, if_pos hM]
                have Hmay := Lib.hid hmay; clear hmay
                have Hzs := Lib.hid hzs; clear hzs hM
                go_wp2_with fail
                refine Hmay.out.mono ?_; rintro e w6 ⟨rfl, h6⟩
                have hI6 := HI.out.new h6
                have hpr6 := Hpr.out.keep h6
                have k0 := hI6.c0
                have k1 := hI6.c1
                rw [Hv.out] at k0
                rw [Hu.out] at k1
                rw [Htk.out] at k0
                rw [Hcl.out] at k1
                have a0 : w6.cell? ⟨w.heap.size, 0, none⟩ = some (.slice none 0 0) := by rw [cell_of_row _ _ 0 _ _ _ hI6.a]; rfl
                have a1 : w6.cell? ⟨w.heap.size, 1, none⟩ = some (.slice none 0 0) := by rw [cell_of_row _ _ 1 _ _ _ hI6.a]; rfl
                have f0 := row_free hI6.a 0
                have f1 := row_free hI6.a 1
                have HI6 := Lib.hid hI6; clear hI6 h6
                have Hpr6 := Lib.hid hpr6; clear hpr6
                clear c0 c1
                go_wp2_with fail
                refine bodyPost_ret (rget_results _ w.heap.size _ _ _ _ rfl rfl (set_two HI6.out.a)) rfl ?_
                refine ⟨.inr ⟨_, _, ts, Cod.getC r0, Hzs.out, rfl, ⟨⟨av, k, dv, au, j, du⟩, rfl, ?_⟩, rfl⟩, (HI6.out.b.setCell (Nat.le_refl _) _).setCell (Nat.le_refl _) _⟩
                refine Hpr6.out.past (fun b => b = w.heap.size) (fun b hlt hn => ?_) (fun b hb o => by subst hb; exact slices_only HI6.out.a ⟨_, _, _, rfl⟩ ⟨_, _, _, rfl⟩ o)
                exact (grown_trans (grown_set w6 w.heap.size 0 _) (grown_set _ w.heap.size 1 _)).block b hlt (fun e => hn (by simpa using e))
              · rw [decide_eq_false hM] at hmay
                have hzs : z = none := by rw [Hz4.out, if_neg hM]
                have Hmay := Lib.hid hmay; clear hmay
                have Hzs := Lib.hid hzs; clear hzs hM
                go_wp2_with fail
                refine Hmay.out.mono ?_; rintro e w6 ⟨rfl, h6⟩
                have hI6 := HI.out.new h6
                have a0 : w6.cell? ⟨w.heap.size, 0, none⟩ = some (.slice none 0 0) := by rw [cell_of_row _ _ 0 _ _ _ hI6.a]; rfl
                have a1 : w6.cell? ⟨w.heap.size, 1, none⟩ = some (.slice none 0 0) := by rw [cell_of_row _ _ 1 _ _ _ hI6.a]; rfl
                have f0 := row_free hI6.a 0
                have f1 := row_free hI6.a 1
                have HI6 := Lib.hid hI6; clear hI6 h6
                clear c0 c1
                go_wp2_with fail
                refine bodyPost_ret (rget_results _ w.heap.size _ _ _ _ rfl rfl (set_two HI6.out.a)) rfl ?_
                exact rget_form HI6.out Hzs.out
        · have d2 : ((r3.size : Int) == 2 + 2 * ((A : Int) + 256 * (B : Int))) = false := beq_eq_false_iff_ne.2 (by omega)
          have d3 : ((r3.size : Int) != 2 + 2 * ((A : Int) + 256 * (B : Int))) = true := by rw [bne, d2]; rfl
          have hzn : z = none := by rw [Hz3.out, if_neg (fun x => hlc x.1)]
          have Hzn := Lib.hid hzn; clear hzn hlc hsz
          go_region
          go_wp2_with fail
          refine bodyPost_ret (rget_results _ w.heap.size _ _ _ _ rfl rfl (set_two HI.out.a)) rfl ?_
          exact ⟨.inl ⟨Hzn.out, rfl⟩, ((HI.out.b.setCell (Nat.le_refl _) _).setCell (Nat.le_refl _) _).drew⟩
end Go.Proofs.YtnnfpaheglkmoaaDoor
