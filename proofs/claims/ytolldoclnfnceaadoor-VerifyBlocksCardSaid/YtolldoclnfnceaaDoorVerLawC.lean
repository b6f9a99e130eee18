/-
  What the laws have in common: boxes, rows that are appended to, rows of texts and of numbers that are the same, answers that are known.
-/
import Derived.Test.YtolldoclnfnceaaDoorVerAlive
import Derived.Test.YtolldoclnfnceaaDoorVerCopy
import Derived.Test.YtolldoclnfnceaaDoorCodSame
import Derived.Test.YtolldoclnfnceaaDoorCodArg
import Derived.Test.YtolldoclnfnceaaDoorGoHand
import Derived.Test.YtolldoclnfnceaaDoorVerBlk
set_option linter.unusedVariables false
set_option maxRecDepth 100000
namespace Go.Proofs.YtolldoclnfnceaaDoor
open Go.RowKit

namespace Ver
theorem step_pos {nt role i op a c : Nat} {s : St} (h : step nt role i op a s = .error c) : c ≠ 0 := by
  rw [step_is] at h
  split at h
  · rename_i c' hc
    cases h
    exact stp_pos hc
  · cases h
theorem go_pos {nt role : Nat} : ∀ (cs : List Cod.In) (i : Nat) (s : St) (x : Nat × Nat), go nt role cs i s = .error x → x.2 ≠ 0
  | [], i, s, x, h => by cases h
  | y :: r, i, s, x, h => by
    simp only [go] at h
    split at h
    · rename_i e he
      cases h
      exact step_pos he
    · exact go_pos r _ _ x h
theorem check_pos {p : Cod.Pr} {role : Nat} {x : Nat × Nat} (h : check p role = .error x) : x.2 ≠ 0 := by
  unfold check at h
  split at h
  · unfold all at h
    split at h
    · rename_i e he
      cases h
      exact go_pos _ _ _ _ he
    · split at h
      · rename_i h1
        cases h
        exact h1
      · cases h
  · cases h
    decide
theorem check_may {p : Cod.Pr} {role : Nat} {s : St} (h : check p role = .ok s) : p.May ∧ Role role = true ∧ all p.ts.length role p.cs = .ok s := by
  unfold check at h
  split at h
  · rename_i hm
    exact ⟨hm.1, hm.2, h⟩
  · cases h
end Ver
theorem vErr_ok {p : Cod.Pr} {role : Nat} (h : vErr (Ver.check p role) = 0) : ∃ s, Ver.check p role = .ok s := by
  cases hc : Ver.check p role with
  | ok s => exact ⟨s, rfl⟩
  | error x => rw [hc] at h; exact absurd h (Ver.check_pos hc)
/-- the answer of two programs, one behind the other -/
theorem vstraight {tx ux : List ByteArray} {cs ds : List Cod.In} (h1 : vErr (Ver.check (prog tx cs) 1) = 0) (h2 : vErr (Ver.check (prog ux ds) 1) = 0) (ht : tx.length + ux.length ≤ 16) (hc : cs.length + ds.length ≤ 256) :
    vAt (Ver.check (prog (tx ++ ux) (cs ++ ds.map (Ver.shift tx.length))) 1) = 0 ∧ vErr (Ver.check (prog (tx ++ ux) (cs ++ ds.map (Ver.shift tx.length))) 1) = 0 := by
  obtain ⟨s, hs⟩ := vErr_ok h1
  obtain ⟨t, ht'⟩ := vErr_ok h2
  obtain ⟨m1, _, a1⟩ := Ver.check_may hs
  obtain ⟨m2, _, a2⟩ := Ver.check_may ht'
  have l1 : (prog tx cs).ts.length = tx.length := lists_length tx
  have l2 : (prog ux ds).ts.length = ux.length := lists_length ux
  rw [l1] at a1
  rw [l2] at a2
  obtain ⟨u, hu⟩ := Ver.all_straight a1 a2 (by omega)
  have hm : (prog (tx ++ ux) (cs ++ ds.map (Ver.shift tx.length))).May := by
    obtain ⟨p1, p2, p3, p4⟩ := m1
    obtain ⟨q1, q2, q3, q4⟩ := m2
    have e : (prog (tx ++ ux) (cs ++ ds.map (Ver.shift tx.length))).ts = (prog tx cs).ts ++ (prog ux ds).ts := by unfold prog lists; simp
    refine ⟨by rw [e, List.length_append, l1, l2]; exact ht, fun t ht => ?_, by show (cs ++ ds.map _).length ≤ 256; rw [List.length_append, List.length_map]; exact hc, fun z hz => ?_⟩
    · rw [e] at ht
      rcases List.mem_append.1 ht with h | h
      · exact p2 t h
      · exact q2 t h
    · rcases List.mem_append.1 hz with h | h
      · exact p4 z h
      · obtain ⟨z', hz', rfl⟩ := List.mem_map.1 h
        have := q4 z' hz'
        unfold Ver.shift
        split
        · rename_i e1
          unfold Cod.ins Cod.has
          rw [e1]
          simp
        · exact this
  have hck : Ver.check (prog (tx ++ ux) (cs ++ ds.map (Ver.shift tx.length))) 1 = .ok u := by
    unfold Ver.check
    rw [if_pos ⟨hm, by decide⟩]
    have e : (prog (tx ++ ux) (cs ++ ds.map (Ver.shift tx.length))).ts.length = tx.length + ux.length := by show (lists (tx ++ ux)).length = _; rw [lists_length, List.length_append]
    rw [e]
    exact hu
  rw [hck]
  exact ⟨rfl, rfl⟩
/-- two programs' boxes, the first of a call's blocks -/
structure V2 (w : World) (x y : Pv) (W : World) : Prop where
  b : Below w.heap.size w W
  p : W.heap[w.heap.size]? = some (.cells #[.slice x.a x.n x.c, .slice x.b x.m x.d] 25 (0, 0))
  q : W.heap[w.heap.size + 1]? = some (.cells #[.slice y.a y.n y.c, .slice y.b y.m y.d] 25 (0, 0))
theorem V2.new {w W W' : World} {x y : Pv} (h : V2 w x y W) (hb : Below W.heap.size W W') : V2 w x y W' :=
  ⟨h.b.trans (hb.mono h.b.size), row_below h.p hb (row_lt h.p), row_below h.q hb (row_lt h.q)⟩
theorem V2.turns {w W W' : World} {x y : Pv} {S : Nat → Prop} (h : V2 w x y W) (ht : Turns S W W') (h0 : ∀ j, S j → w.heap.size + 1 < j) : V2 w x y W' :=
  ⟨h.b.trans (ht.below h.b.size (fun k _ hk => by have := h0 k hk; omega)), by rw [ht.block _ (row_lt h.p) (fun e => by have := h0 _ e; omega)]; exact h.p, by rw [ht.block _ (row_lt h.q) (fun e => by have := h0 _ e; omega)]; exact h.q⟩
theorem V2.start (w : World) (x y : Pv) : V2 w x y ((w.alloc (.cells #[.slice x.a x.n x.c, .slice x.b x.m x.d] 25)).alloc (.cells #[.slice y.a y.n y.c, .slice y.b y.m y.d] 25)) := by
  have h1 := obj_below w (.cells #[.slice x.a x.n x.c, .slice x.b x.m x.d] 25)
  have h2 := obj_below (w.alloc (.cells #[.slice x.a x.n x.c, .slice x.b x.m x.d] 25)) (.cells #[.slice y.a y.n y.c, .slice y.b y.m y.d] 25)
  exact ⟨h1.trans (h2.mono h1.size), row_alloc (alloc_at rfl) _, alloc_at (alloc_size _ _).symm⟩
/-- a row of texts that came in is appended to one of the call's own -/
theorem TOwn.appS {B : Nat} {v : Value} {l ls : List ByteArray} {la : Option Addr} {n lc : Nat} {w : World} (h : TOwn B v l w) (hs : Strs la n ls w) (hz : la = none → lc = 0) (hl : l.length ≤ 1000000) (hn : n ≤ 1000000) (hB : B ≤ w.heap.size) :
    ∃ v' w', (Builtin.append_ #[22, 22] 22 #[v, .slice la n lc]).run Tryd.prog w = .ok v' w' ∧ TOwn B v' (l ++ ls) w' ∧ w.grownBy w' v.ownBlock ∧ (v'.ownBlock = v.ownBlock ∨ v'.ownBlock = some w.heap.size) := by
  obtain ⟨i0, hi, hz0, hz1, hz2⟩ := info_parts tstr_info
  have hll := hs.1
  cases la with
  | none =>
    have hn0 : n = 0 := by
      rcases Nat.eq_zero_or_pos n with e | e
      · exact e
      · obtain ⟨b, off, hb, _⟩ := hs.2 0 e; cases hb
    subst hn0
    have hl0 : ls = [] := List.eq_nil_of_length_eq_zero hll
    subst hl0
    rw [hz rfl, List.append_nil]
    exact ⟨_, w, run_append_owned_none (P := Tryd.prog) (w := w) B 22 22 9 i0 1 Tryd.underlying22 hi v l.length (l.map Value.string) h, h, grown_refl _ _, .inl rfl⟩
  | some ad =>
    obtain ⟨v', w', hr, h2, h3, _, h5⟩ := run_append_own_at (P := Tryd.prog) (w := w) B 22 22 9 i0 (.string ⟨#[]⟩) 1 16 Tryd.underlying22 hi hz0 hz1 hz2 rfl (by decide) v l.length (l.map Value.string) h ad n lc (ls.map Value.string) (by simp [hll]) (fun j u hu => by
          obtain ⟨hj, rfl⟩ := List.getElem?_eq_some_iff.1 hu
          have hj' : j < n := by simpa [hll] using hj
          obtain ⟨b, off, hb, hc⟩ := hs.2 j hj'
          simp only [Option.some.injEq] at hb
          subst hb
          have ea : (Addr.add ⟨b, off, none⟩ j) = ⟨b, off + j, none⟩ := by cases j <;> simp [Addr.add]
          rw [ea, hc]
          simp [List.getD_eq_getElem?_getD, show j < ls.length by omega]) (fun u hu => by
          obtain ⟨x, _, rfl⟩ := List.mem_map.1 hu
          rfl) (by unfold maxLen; omega) (by omega) hB
    refine ⟨v', w', hr, ?_, h3, h5⟩
    unfold TOwn
    rw [List.length_append, List.map_append, hll]
    exact h2
theorem insCells_len (x : Cod.In) : (insCells x).length = 2 := rfl
/-- an instruction is appended to a row of the call's own -/
theorem XOwn.app1 {B : Nat} {v : Value} {l : List Cod.In} {w : World} (h : XOwn B v l w) (x : Cod.In) (hl : l.length ≤ 1000000) (hB : B ≤ w.heap.size) :
    ∃ v' w', (Builtin.append_ #[23, 23] 23 #[v, .slice (some ⟨w.heap.size, 0, none⟩) 1 1]).run Tryd.prog (w.alloc (.cells #[.int .u8 (x.1.toNat : Int), .int .u8 (x.2.toNat : Int)] 48)) = .ok v' w' ∧ XOwn B v' (l ++ [x]) w' ∧ (w.alloc (.cells #[.int .u8 (x.1.toNat : Int), .int .u8 (x.2.toNat : Int)] 48)).grownBy w' v.ownBlock ∧
      (v'.ownBlock = v.ownBlock ∨ w.heap.size ≤ (v'.ownBlock).getD 0 ∧ v'.ownBlock ≠ none) := by
  obtain ⟨i0, hi, hz0, hz1, hz2⟩ := info_parts ins_info
  obtain ⟨v', w', hr, h2, h3, _, h5⟩ := run_append_own_at (P := Tryd.prog) (w := w.alloc (.cells #[.int .u8 (x.1.toNat : Int), .int .u8 (x.2.toNat : Int)] 48)) B 23 23 48 i0 (.agg #[.int .u8 0, .int .u8 0]) 2 2 Tryd.underlying23 hi hz0 hz1 hz2 rfl (by decide) v l.length (l.flatMap insCells) (h.new (obj_below w _)) ⟨w.heap.size, 0, none⟩ 1 1 (insCells x) rfl (fun j u hu => cell_new_row w (insCells x) _ j u hu) (fun u hu => by
    simp only [insCells, List.mem_cons, List.mem_nil_iff, or_false] at hu
    rcases hu with rfl | rfl <;> rfl) (by unfold maxLen; omega) (by omega) (by rw [alloc_size]; omega)
  refine ⟨v', w', hr, ?_, h3, ?_⟩
  · unfold XOwn
    rw [List.length_append, List.length_singleton, List.flatMap_append, show [x].flatMap insCells = insCells x by simp]
    exact h2
  · rcases h5 with e | e
    · exact .inl e
    · refine .inr ⟨?_, by rw [e]; exact Option.some_ne_none _⟩
      rw [e, alloc_size]
      show w.heap.size ≤ w.heap.size + 1
      omega


theorem vsame_any (v1 v2 : Value) (l : List ByteArray) (w : World) (h1 : SRd v1 l w) (h2 : SRd v2 l w) (hl : l.length ≤ 1099511627776) :
    Calls Tryd.prog 16 #[v1, v2] w fun e w' => e = .returned (.bool true) ∧ Below w.heap.size w w' := by
  obtain ⟨a1, c1, rfl, hc1, hf1⟩ := h1
  obtain ⟨a2, c2, rfl, hc2, hf2⟩ := h2
  obtain ⟨n, hn⟩ : ∃ n, n = l.length := ⟨_, rfl⟩
  rw [← hn] at hl hc1 hc2 hf1 hf2 ⊢
  have Hf1 := Lib.hid hf1; clear hf1
  have Hf2 := Lib.hid hf2; clear hf2
  clear hn
  go_enter Tryd.func16, Tryd.ntmps16
  go_wp2_with fail
  go_loopw [5] (fun i wr => ∃ k : Nat, k ≤ n ∧ i = .int .i64 (k : Int) ∧ Below w.heap.size w wr) (fun i _ => n - (intOf i).toNat)
  case atStart => exact ⟨0, Nat.zero_le _, rfl, Below.refl _ _⟩
  case round =>
    obtain ⟨k, hk, rfl, hb⟩ := hrel
    by_cases hlt : k < n
    · have g1 : decide (k < n) = true := decide_eq_true hlt
      have g2 : (k : Int) < (n : Int) := by omega
      obtain ⟨b1, rfl, e1⟩ := Hf1.out k hlt
      obtain ⟨b2, rfl, e2⟩ := Hf2.out k hlt
      have d1 : wr.cell? ⟨b1, k, none⟩ = some (.string (l.getD k .empty)) := by rw [hb.cell (p := ⟨b1, k, none⟩) (cell_lt e1)]; exact e1
      have d2 : wr.cell? ⟨b2, k, none⟩ = some (.string (l.getD k .empty)) := by rw [hb.cell (p := ⟨b2, k, none⟩) (cell_lt e2)]; exact e2
      generalize l.getD k .empty = x at *
      have hxx : (x.toList == x.toList) = true := by simp
      have Hb := Lib.hid hb; clear hb
      clear e1 e2
      go_wp2_with fail
      go_quiet (fail)
      go_wp2_with fail
      go_roundw
      case rel => exact ⟨k + 1, by omega, by go_num, drewN_below Hb.out _⟩
      case measure => simp [intOf]; omega
    · have g1 : decide (k < n) = false := decide_eq_false hlt
      have Hb := Lib.hid hb; clear hb
      go_wp2_with fail
      go_ret
      exact ⟨rfl, Hb.out⟩


theorem vnums_any (v1 v2 : Value) (l : List Nat) (w : World) (h1 : NRd v1 l w) (h2 : NRd v2 l w) (hl : l.length ≤ 1099511627776) :
    Calls Tryd.prog 17 #[v1, v2] w fun e w' => e = .returned (.bool true) ∧ Below w.heap.size w w' := by
  obtain ⟨a1, c1, rfl, hc1, hf1⟩ := h1
  obtain ⟨a2, c2, rfl, hc2, hf2⟩ := h2
  obtain ⟨n, hn⟩ : ∃ n, n = l.length := ⟨_, rfl⟩
  rw [← hn] at hl hc1 hc2 hf1 hf2 ⊢
  have Hf1 := Lib.hid hf1; clear hf1
  have Hf2 := Lib.hid hf2; clear hf2
  clear hn
  go_enter Tryd.func17, Tryd.ntmps17
  go_wp2_with fail
  go_loopw [5] (fun i wr => ∃ k : Nat, k ≤ n ∧ i = .int .i64 (k : Int) ∧ Below w.heap.size w wr) (fun i _ => n - (intOf i).toNat)
  case atStart => exact ⟨0, Nat.zero_le _, rfl, Below.refl _ _⟩
  case round =>
    obtain ⟨k, hk, rfl, hb⟩ := hrel
    by_cases hlt : k < n
    · have g1 : decide (k < n) = true := decide_eq_true hlt
      have g2 : (k : Int) < (n : Int) := by omega
      obtain ⟨b1, rfl, e1⟩ := Hf1.out k hlt
      obtain ⟨b2, rfl, e2⟩ := Hf2.out k hlt
      have d1 : wr.cell? ⟨b1, k, none⟩ = some (.int .i64 ((l.getD k 0 : Nat) : Int)) := by rw [hb.cell (p := ⟨b1, k, none⟩) (cell_lt e1)]; exact e1
      have d2 : wr.cell? ⟨b2, k, none⟩ = some (.int .i64 ((l.getD k 0 : Nat) : Int)) := by rw [hb.cell (p := ⟨b2, k, none⟩) (cell_lt e2)]; exact e2
      generalize l.getD k 0 = x at *
      have Hb := Lib.hid hb; clear hb
      clear e1 e2
      go_wp2_with fail
      go_quiet (fail)
      go_wp2_with fail
      go_roundw
      case rel => exact ⟨k + 1, by omega, by go_num, drewN_below Hb.out _⟩
      case measure => simp [intOf]; omega
    · have g1 : decide (k < n) = false := decide_eq_false hlt
      have Hb := Lib.hid hb; clear hb
      go_wp2_with fail
      go_ret
      exact ⟨rfl, Hb.out⟩

end Go.Proofs.YtolldoclnfnceaaDoor
