/- Put together of: DskCopy RefMem RefSmall RefNow RefRead RefNew RefCrash RefCopy RefWrite DskBoth0 -/
import Derived.Test.YtjmpagbjkehebaaGreatDskAll
import Derived.Shelf.SlMaps.Clone
import Derived.Laws.OwnMore
import Derived.Test.YtjmpagbjkehebaaGreatDskFill
import Derived.StillTailTactics
import Derived.Test.YtjmpagbjkehebaaGreatGoAll
set_option maxRecDepth 100000
/-
  Copy: an equal disk, with nothing shared.
-/
set_option linter.unusedVariables false
namespace Go.Proofs.YtjmpagbjkehebaaGreat
open Go.RowKit

theorem owns_clone {R : Value → Option (DataW Unit × List MemPlace)} {k : TypeId} {b n : Nat} {D : DataW Unit} {w w' : World} {es : Array MapEntry} {clock c : Nat} (h : w.ownsMap Tryz.prog k R b n D) (hb : w.heap[b]? = some (.map es clock)) (hc : w'.heap[c]? = some (.map es clock)) : w'.ownsMap Tryz.prog k R c n D := by
  obtain ⟨es2, clock2, hb2, F, hs, hD⟩ := h
  rw [hb] at hb2
  cases hb2
  exact ⟨es, clock, hc, F, hs, hD⟩

theorem ownsRow_base {w : World} {B : Nat} {e : TypeId} {size : Nat} {v : Value} {n : Nat} {xs : List Value} (h : w.ownsRow B e size v n xs) : w.ownsRow 0 e size v n xs := by
  obtain ⟨h1, h2⟩ := h
  refine ⟨h1, ?_⟩
  rcases h2 with h2 | ⟨g, cap, cur, hv, hb, hr⟩
  · exact .inl h2
  · exact .inr ⟨g, cap, cur, hv, Nat.zero_le _, hr⟩

theorem lcells_one (L : List (Nat × List UInt8)) : ∀ u ∈ lcells L, u.oneCell' = true := by
  intro u hu
  obtain ⟨x, _, hx⟩ := List.mem_flatMap.1 hu
  exact wcells_one x u hx

theorem wpList_append_at {P : Program} (w : World) {ops : Array Oper} {rest : List Oper} {o : Oper} {a : Act} {Q : Exit → Act → World → Prop} (hgd : o.guard = none) (s x : Operand) (t : TypeId)
    (ho : o.op = .call { callee := .builtin .append, args := #[s, x], argTypes := #[t, t] })
    (base : Nat) (e : TypeId) (i : TypeInfo) (z : Value) (size bytes : Nat) (ht : P.underlying t = some (.slice e)) (hi : P.info? e = some i) (hz : i.zero = some z)
    (hsize : i.size = size) (hby : i.bytes = bytes) (hzs : z.cells.size = size) (hsz : 0 < size)
    (v : Value) (n : Nat) (xs : List Value) (hs : a.eval s = v) (hown : w.ownsRow base e size v n xs)
    (ad : Addr) (m c : Nat) (news : List Value) (hx : a.eval x = .slice (some ad) m c) (hl : news.length = m * size) (hnews : ∀ j u, news[j]? = some u → w.cell? (ad.add j) = some u) (h1 : ∀ u ∈ news, u.oneCell' = true)
    (h63 : n + m ≤ maxLen) (hbytes : (n + m) * bytes ≤ 140737488355328) (hbase : base ≤ w.heap.size)
    (h : ∀ v' w', w'.ownsRow base e size v' (n + m) (xs ++ news) → w.grownBy w' v.ownBlock → (v'.ownBlock = v.ownBlock ∨ v'.ownBlock = some w.heap.size) → wpList P ops Q rest (a.put o.dst v') w') : wpList P ops Q (o :: rest) a w := by
  refine wpList_plain hgd fun K hK => ?_
  obtain ⟨v', w', hr, h2, h3, _, h5⟩ := run_append_own_at (P := P) w base t o.type e i z size bytes ht hi hz hsize hby hzs hsz v n xs hown ad m c news hl hnews h1 h63 hbytes hbase
  unfold Oper.wp execOp
  simp only [ho, resolve, invoke, builtin, Sem.run_bind, Sem.run_pure, Result.andThen_ok, List.map_toArray, List.map_cons, List.map_nil, hs, hx, hr]
  exact hK _ _ (h v' w' h2 h3 h5)

theorem DiskIn.one {S : Nat → Prop} {p : Nat} {d : Dsk.St} {w : World} {bF bM : Nat} {v : Value} {nf : Nat} {DF : DataW Unit} (h : DiskIn S p d w bF bM v nf DF) : (dcells d bF v bM).all (·.oneCell') = true := by
  rcases h.vlen with ⟨_, rfl⟩ | ⟨g, cap, rfl, _⟩ <;> simp [dcells, Value.oneCell']
theorem disk_info : (Tryz.prog.info? 112).map (·.size) = some 6 := by kernel_rfl
theorem dcells_ld (d : Dsk.St) (bF : Nat) (v : Value) (bM : Nat) : (#[.int .i64 (d.n : Int), .map (some bF), v, .map (some bM), .int .i64 d.fuse, .bool d.down] : Array Value) = dcells d bF v bM := rfl

end Go.Proofs.YtjmpagbjkehebaaGreat

/-
  How the document's disk lies in memory: its own cells, the row of its sectors, the row of its loose writes.
-/
set_option linter.unusedVariables false
namespace Go.Proofs.YtjmpagbjkehebaaGreat
open Go.RowKit

def secv (s : List UInt8) : Value := .string ⟨s.toArray⟩
def secs (f : Nat → Dsk.Sec) (n : Nat) : List Value := (List.range n).map fun k => secv (f k)
def pcells (x : Nat × List UInt8) : List Value := [.int .i64 (x.1 : Int), secv x.2]
def puts (L : List (Nat × List UInt8)) : List Value := L.flatMap pcells
theorem secs_length (f : Nat → Dsk.Sec) (n : Nat) : (secs f n).length = n := by simp [secs]
theorem secs_get (f : Nat → Dsk.Sec) {n k : Nat} (h : k < n) : (secs f n)[k]? = some (secv (f k)) := by simp [secs, h]
theorem secs_snoc (f : Nat → Dsk.Sec) (n : Nat) : secs f (n + 1) = secs f n ++ [secv (f n)] := by simp [secs, List.range_succ]
theorem secs_set (f : Nat → Dsk.Sec) (n k : Nat) (s : Dsk.Sec) : (secs f n).set k (secv s) = secs (Dsk.upd f k s) n := by
  apply List.ext_getElem?
  intro j
  rw [List.getElem?_set]
  by_cases hj : j < n
  · rw [secs_get _ hj, secs_get _ hj]
    by_cases e : k = j
    · subst e; rw [if_pos rfl, secs_length, if_pos hj, Dsk.upd_same]
    · rw [if_neg e, Dsk.upd_other (fun h => e h.symm)]
  · rw [List.getElem?_eq_none (by rw [secs_length]; omega), List.getElem?_eq_none (by rw [secs_length]; omega)]
    split
    · split
      · rename_i h; rw [secs_length] at h; omega
      · rfl
    · rfl
theorem secs_one (f : Nat → Dsk.Sec) (n : Nat) : ∀ u ∈ secs f n, u.oneCell' = true := by
  intro u hu
  obtain ⟨k, _, rfl⟩ := List.mem_map.1 hu
  rfl
theorem puts_length (L : List (Nat × List UInt8)) : (puts L).length = L.length * 2 := by
  induction L with
  | nil => rfl
  | cons x r ih =>
    have : puts (x :: r) = pcells x ++ puts r := by simp [puts]
    rw [this, List.length_append, ih]; simp [pcells]; omega
theorem puts_snoc (L : List (Nat × List UInt8)) (x : Nat × List UInt8) : puts (L ++ [x]) = puts L ++ pcells x := by simp [puts]
theorem puts_one (L : List (Nat × List UInt8)) : ∀ u ∈ puts L, u.oneCell' = true := by
  intro u hu
  obtain ⟨x, _, hx⟩ := List.mem_flatMap.1 hu
  simp only [pcells, List.mem_cons, List.not_mem_nil, or_false] at hx
  rcases hx with rfl | rfl <;> rfl
theorem puts_get {L : List (Nat × List UInt8)} {i : Nat} {x : Nat × List UInt8} (h : L[i]? = some x) : (puts L)[2 * i]? = some (.int .i64 (x.1 : Int)) ∧ (puts L)[2 * i + 1]? = some (secv x.2) := by
  induction L generalizing i with
  | nil => simp at h
  | cons y r ih =>
    have e : puts (y :: r) = pcells y ++ puts r := by simp [puts]
    rw [e]
    cases i with
    | zero => simp at h; subst h; exact ⟨rfl, rfl⟩
    | succ i =>
      have := ih (i := i) (by simpa using h)
      rw [show 2 * (i + 1) = 2 * i + 2 by omega]
      simpa [pcells] using this

def rcells (d : Dsk.St) (vB vL : Value) : Array Value := #[vB, vL, .int .i64 (max d.fuse (-1)), .bool d.down]

/-- block q, and the other blocks of S, are the document's disk -/
structure RefIn (S : Nat → Prop) (q : Nat) (d : Dsk.St) (w : World) (vB vL : Value) : Prop where
  hq : S q
  hB : ∀ k, vB.ownBlock = some k → S k
  hL : ∀ k, vL.ownBlock = some k → S k
  lt : ∀ k, S k → k < w.heap.size
  row : w.heap[q]? = some (.cells (rcells d vB vL) 115 (0, 0))
  rB : w.ownsRow 0 9 1 vB d.n (secs d.fl d.n)
  rL : w.ownsRow 0 125 2 vL d.L.length (puts d.L)
  cnt : d.L.length ≤ d.ops
  ok : d.Ok

def RefAt (S : Nat → Prop) (q : Nat) (d : Dsk.St) (w : World) : Prop := ∃ vB vL, RefIn S q d w vB vL

theorem RefIn.keeps {S T : Nat → Prop} {q : Nat} {d : Dsk.St} {w w' : World} {vB vL : Value} (h : RefIn S q d w vB vL) (ht : Turns T w w') (hST : ∀ k, S k → ¬ T k) : RefIn S q d w' vB vL :=
  { h with
    lt := fun k hk => Nat.lt_of_lt_of_le (h.lt k hk) ht.size
    row := ht.same h.row (hST _ h.hq)
    rB := ownsRow_same h.rB (fun g hg => ht.block _ (h.lt _ (h.hB g hg)) (hST _ (h.hB g hg)))
    rL := ownsRow_same h.rL (fun g hg => ht.block _ (h.lt _ (h.hL g hg)) (hST _ (h.hL g hg))) }
theorem RefAt.keeps {S T : Nat → Prop} {q : Nat} {d : Dsk.St} {w w' : World} (h : RefAt S q d w) (ht : Turns T w w') (hST : ∀ k, S k → ¬ T k) : RefAt S q d w' := by
  obtain ⟨vB, vL, h⟩ := h
  exact ⟨vB, vL, h.keeps ht hST⟩
theorem RefAt.new {S : Nat → Prop} {q : Nat} {d : Dsk.St} {w w' : World} (h : RefAt S q d w) (hb : Below w.heap.size w w') : RefAt S q d w' :=
  h.keeps (Turns.of_new hb (fun _ => False)) (fun _ _ => id)
theorem RefIn.new {S : Nat → Prop} {q : Nat} {d : Dsk.St} {w w' : World} {vB vL : Value} (h : RefIn S q d w vB vL) (hb : Below w.heap.size w w') : RefIn S q d w' vB vL :=
  h.keeps (Turns.of_new hb (fun _ => False)) (fun _ _ => id)
theorem RefAt.lt {S : Nat → Prop} {q : Nat} {d : Dsk.St} {w : World} (h : RefAt S q d w) : ∀ k, S k → k < w.heap.size := by
  obtain ⟨vB, vL, h⟩ := h; exact h.lt
theorem RefAt.ok {S : Nat → Prop} {q : Nat} {d : Dsk.St} {w : World} (h : RefAt S q d w) : d.Ok := by
  obtain ⟨vB, vL, h⟩ := h; exact h.ok
theorem RefAt.hq {S : Nat → Prop} {q : Nat} {d : Dsk.St} {w : World} (h : RefAt S q d w) : S q := by
  obtain ⟨vB, vL, h⟩ := h; exact h.hq
theorem RefAt.cnt {S : Nat → Prop} {q : Nat} {d : Dsk.St} {w : World} (h : RefAt S q d w) : d.L.length ≤ d.ops := by
  obtain ⟨vB, vL, h⟩ := h; exact h.cnt

variable {S : Nat → Prop} {q : Nat} {d : Dsk.St} {w : World} {vB vL : Value}
theorem RefIn.qB (h : RefIn S q d w vB vL) : vB.ownBlock ≠ some q := fun e => by
  obtain ⟨cur, hb⟩ := ownsRow_block h.rB e
  have := h.row; rw [hb] at this; cases this
theorem RefIn.qL (h : RefIn S q d w vB vL) : vL.ownBlock ≠ some q := fun e => by
  obtain ⟨cur, hb⟩ := ownsRow_block h.rL e
  have := h.row; rw [hb] at this; cases this
theorem RefIn.bl (h : RefIn S q d w vB vL) : ∀ g, vB.ownBlock = some g → vL.ownBlock ≠ some g := fun g e e2 => by
  obtain ⟨cur, hb⟩ := ownsRow_block h.rL e2
  obtain ⟨cur2, hb2⟩ := ownsRow_block h.rB e
  rw [hb] at hb2; cases hb2
theorem RefIn.c0 (h : RefIn S q d w vB vL) : w.cell? ⟨q, 0, none⟩ = some vB := by rw [cell_of_row w q 0 _ _ _ h.row]; rfl
theorem RefIn.c1 (h : RefIn S q d w vB vL) : w.cell? ⟨q, 1, none⟩ = some vL := by rw [cell_of_row w q 1 _ _ _ h.row]; rfl
theorem RefIn.c2 (h : RefIn S q d w vB vL) : w.cell? ⟨q, 2, none⟩ = some (.int .i64 (max d.fuse (-1))) := by rw [cell_of_row w q 2 _ _ _ h.row]; rfl
theorem RefIn.c3 (h : RefIn S q d w vB vL) : w.cell? ⟨q, 3, none⟩ = some (.bool d.down) := by rw [cell_of_row w q 3 _ _ _ h.row]; rfl
theorem RefIn.free (h : RefIn S q d w vB vL) (j : Nat) : w.frozen? ⟨q, j, none⟩ = false := row_free h.row j
theorem RefIn.formB (h : RefIn S q d w vB vL) : ∃ g cap, vB = .slice (some ⟨g, 0, none⟩) d.n cap := by
  obtain ⟨h1, h2⟩ := h.rB
  have := h.ok.lo
  rcases h2 with ⟨rfl, h0⟩ | ⟨g, cap, cur, rfl, _⟩
  · omega
  · exact ⟨g, cap, rfl⟩
theorem RefIn.formL (h : RefIn S q d w vB vL) : (d.L = [] ∧ vL = .slice none 0 0) ∨ ∃ g cap, vL = .slice (some ⟨g, 0, none⟩) d.L.length cap ∧ d.L.length ≤ cap := by
  obtain ⟨h1, h2⟩ := h.rL
  rcases h2 with ⟨rfl, h0⟩ | ⟨g, cap, cur, rfl, hb, hg, hn, hm, hc, ht⟩
  · exact .inl ⟨List.eq_nil_of_length_eq_zero h0, rfl⟩
  · exact .inr ⟨g, cap, rfl, hn⟩
theorem add_at (g j : Nat) : (⟨g, 0, none⟩ : Addr).add j = ⟨g, j, none⟩ := by unfold Addr.add; split <;> simp_all
theorem ownsRow_cell {e : TypeId} {size n g cap base : Nat} {xs : List Value} (h : w.ownsRow base e size (.slice (some ⟨g, 0, none⟩) n cap) n xs) {j : Nat} {u : Value} (hu : xs[j]? = some u) : w.cell? ⟨g, j, none⟩ = some u := by
  have := World.ownsRow.cells h rfl j u hu
  rwa [add_at] at this
/-- two cells have turned: how much of the fuse is left, whether it stands still -/
theorem RefIn.turn (h : RefIn S q d w vB vL) {w' : World} (ht : Turns (fun k => k = q) w w') (f : Int) (b : Bool) (hf : -9223372036854775808 ≤ f ∧ f ≤ 9223372036854775807)
    (hr : w'.heap[q]? = some (.cells (rcells { d with fuse := f, down := b } vB vL) 115 (0, 0))) : RefIn S q { d with fuse := f, down := b } w' vB vL :=
  { hq := h.hq, hB := h.hB, hL := h.hL, cnt := h.cnt
    ok := ⟨h.ok.lo, h.ok.hi, h.ok.fl, h.ok.at_, h.ok.sz, hf⟩
    lt := fun k hk => Nat.lt_of_lt_of_le (h.lt k hk) ht.size
    row := hr
    rB := ownsRow_same h.rB (fun g hg => ht.block _ (h.lt _ (h.hB g hg)) (fun e => h.qB (by rw [hg, e])))
    rL := ownsRow_same h.rL (fun g hg => ht.block _ (h.lt _ (h.hL g hg)) (fun e => h.qL (by rw [hg, e]))) }
end Go.Proofs.YtjmpagbjkehebaaGreat

/-
  The document's disk, short ones: May, zero, in, Fuse.
-/
set_option linter.unusedVariables false
namespace Go.Proofs.YtjmpagbjkehebaaGreat
open Go.RowKit

theorem may_any (n : Int) (w : World) : Calls Tryz.prog 10 #[.int .i64 n] w fun e w' => e = .returned (.bool (decide (1 ≤ n ∧ n ≤ 16384))) ∧ w = w' := by
  by_cases h1 : 1 ≤ n
  · have e1 : decide (1 ≤ n) = true := decide_eq_true h1
    have e : decide (1 ≤ n ∧ n ≤ 16384) = decide (n ≤ 16384) := by rw [decide_eq_decide]; omega
    rw [e]
    clear e
    go_enter Tryz.func10, Tryz.ntmps10
    go_wp2
    go_ret
    exact ⟨rfl, rfl⟩
  · have e1 : decide (1 ≤ n) = false := decide_eq_false h1
    have e : decide (1 ≤ n ∧ n ≤ 16384) = false := by rw [decide_eq_false_iff_not]; omega
    rw [e]
    clear e
    go_enter Tryz.func10, Tryz.ntmps10
    go_wp2
    go_ret
    exact ⟨rfl, rfl⟩

theorem zero_any (w : World) : Calls Tryz.prog 70 #[] w fun e w' => e = .returned (secv Dsk.zer) ∧ Below w.heap.size w w' := by
  have hmk := fun u => make_u8 64 (by omega) u
  rw [show ((64 : Nat) : Int) = 64 from rfl] at hmk
  have hA : ArrB w.heap.size (List.replicate 64 0) (w.alloc (.cells (u8s (List.replicate 64 0)) 5)) := fun j hj => by
    exact ⟨row_u8 (heap_alloc_new w _) j hj, row_free (heap_alloc_new w _) j⟩
  have hcv := hA.conv (P := Tryz.prog) 91 9 5 Tryz.underlying91 Tryz.underlying5 Tryz.underlying9 64 64 (by simp)
  rw [List.take_of_length_le (by simp)] at hcv
  have e : (.string ⟨(List.replicate 64 (0 : UInt8)).toArray⟩ : Value) = secv Dsk.zer := rfl
  rw [e] at hcv
  generalize u8s (List.replicate 64 0) = Z at *
  have Hmk := Lib.hid hmk; clear hmk
  have Hcv := Lib.hid hcv; clear hcv
  clear hA e
  go_enter Tryz.func70, Tryz.ntmps70
  go_wp2_with (first | (rw [Hmk.out]; simp only [Result.andThen]; rw [Oper.upon_value]) | (rw [Hcv.out]; simp only [Result.andThen]; rw [Oper.upon_value]))
  go_ret
  exact ⟨rfl, (Below.refl _ w).alloc (Nat.le_refl _) _⟩

section
variable {S : Nat → Prop} {q : Nat} {d : Dsk.St} {w : World}
theorem refIn_any (h : RefAt S q d w) (at_ n : Int) (ha : -9223372036854775808 ≤ at_ ∧ at_ ≤ 9223372036854775807) (hn : -9223372036854775808 ≤ n ∧ n ≤ 9223372036854775807) :
    Calls Tryz.prog 83 #[.pointer (some ⟨q, 0, none⟩), .int .i64 at_, .int .i64 n] w fun e w' => e = .returned (.bool (decide (0 ≤ at_ ∧ 0 ≤ n ∧ at_ + n ≤ (d.n : Int)))) ∧ w = w' := by
  obtain ⟨vB, vL, h⟩ := h
  have c0 := h.c0
  have ok := h.ok
  have h1 := ok.lo
  have h2 := ok.hi
  obtain ⟨g, cap, rfl⟩ := h.formB
  clear h ok
  generalize d.n = m at *
  by_cases a0 : 0 ≤ at_
  · have af : decide (0 ≤ at_) = true := decide_eq_true a0
    by_cases b0 : 0 ≤ n
    · have bf : decide (0 ≤ n) = true := decide_eq_true b0
      by_cases k0 : at_ ≤ (m : Int)
      · have kf : decide (at_ ≤ (m : Int)) = true := decide_eq_true k0
        have e : decide (0 ≤ at_ ∧ 0 ≤ n ∧ at_ + n ≤ (m : Int)) = decide (n ≤ (m : Int) - at_) := by rw [decide_eq_decide]; omega
        rw [e]
        clear e
        go_enter Tryz.func83, Tryz.ntmps83
        go_wp2
        go_ret
        exact ⟨rfl, rfl⟩
      · have kf : decide (at_ ≤ (m : Int)) = false := decide_eq_false k0
        have e : decide (0 ≤ at_ ∧ 0 ≤ n ∧ at_ + n ≤ (m : Int)) = false := by rw [decide_eq_false_iff_not]; omega
        rw [e]
        clear e
        go_enter Tryz.func83, Tryz.ntmps83
        go_wp2
        go_ret
        exact ⟨rfl, rfl⟩
    · have e : decide (0 ≤ at_ ∧ 0 ≤ n ∧ at_ + n ≤ (m : Int)) = false := by rw [decide_eq_false_iff_not]; omega
      rw [e]
      clear e
      have bf : decide (0 ≤ n) = false := by rw [decide_eq_false_iff_not]; omega
      go_enter Tryz.func83, Tryz.ntmps83
      go_wp2
      go_ret
      exact ⟨rfl, rfl⟩
  · have e : decide (0 ≤ at_ ∧ 0 ≤ n ∧ at_ + n ≤ (m : Int)) = false := by rw [decide_eq_false_iff_not]; omega
    rw [e]
    clear e
    have bf : decide (0 ≤ at_) = false := by rw [decide_eq_false_iff_not]; omega
    go_enter Tryz.func83, Tryz.ntmps83
    go_wp2
    go_ret
    exact ⟨rfl, rfl⟩

theorem refFuse_any (h : RefAt S q d w) (n : Int) (hn : -9223372036854775808 ≤ n ∧ n ≤ 9223372036854775807) : Calls Tryz.prog 73 #[.pointer (some ⟨q, 0, none⟩), .int .i64 n] w fun e w' => e = .returned (.tuple #[]) ∧ Turns (fun k => k = q) w w' ∧ RefAt S q { d with fuse := n } w' := by
  obtain ⟨vB, vL, h⟩ := h
  have hr := h.free
  have hk : RefIn S q { d with fuse := n } (w.setCell ⟨q, 2, none⟩ (.int .i64 (max n (-1)))) vB vL := by
    have := h.turn (w' := w.setCell ⟨q, 2, none⟩ (.int .i64 (max n (-1)))) ((Turns.refl _ w).set q 2 _ (fun _ => rfl)) n d.down hn (by
      rw [heap_setCell_same w q 2 _ _ _ h.row]; rfl)
    exact this
  have Hk := Lib.hid hk; clear hk
  have f2 := hr 2
  have c2 := h.c2
  clear h hr
  go_enter Tryz.func73, Tryz.ntmps73
  go_wp2
  all_goals
    go_end0
    refine ⟨rfl, (Turns.refl _ w).set q 2 _ (fun _ => rfl), vB, vL, ?_⟩
    have := Hk.out
    first | exact this | (rwa [Int.max_eq_left (by omega)] at this) | (rwa [Int.max_eq_right (by omega)] at this) | (split <;> first | (rwa [Int.max_eq_left (by omega)] at this) | (rwa [Int.max_eq_right (by omega)] at this))
end
end Go.Proofs.YtjmpagbjkehebaaGreat

/-
  The document's disk: what is read of all sectors.
-/
set_option linter.unusedVariables false
namespace Go.Proofs.YtjmpagbjkehebaaGreat
open Go.RowKit

theorem str_info : (Tryz.prog.info? 9).map (fun i => (i.zero, i.size, i.bytes)) = some (some (.string .empty), 1, 16) := by kernel_rfl
theorem lay_take {L : List (Nat × Dsk.Sec)} {k : Nat} {x : Nat × Dsk.Sec} (h : L[k]? = some x) (f : Nat → Dsk.Sec) : Dsk.lay (L.take (k + 1)) f = Dsk.upd (Dsk.lay (L.take k) f) x.1 x.2 := by
  rw [List.take_add_one, h, Option.toList_some, Dsk.lay_snoc]

set_option maxHeartbeats 1000000 in
theorem refNow_any {S : Nat → Prop} {q : Nat} {d : Dsk.St} {w : World} (h : RefAt S q d w) (hops : d.ops ≤ 1099511627776) :
    Calls Tryz.prog 136 #[.pointer (some ⟨q, 0, none⟩)] w fun e w' => ∃ g cap, e = .returned (.slice (some ⟨g, 0, none⟩) d.n cap) ∧ w'.ownsRow w.heap.size 9 1 (.slice (some ⟨g, 0, none⟩) d.n cap) d.n (secs (Dsk.now d) d.n) ∧ Below w.heap.size w w' := by
  obtain ⟨vB, vL, h⟩ := h
  obtain ⟨g, cap, rfl⟩ := h.formB
  have c0 := h.c0
  have hn1 := h.ok.lo
  have hn2 := h.ok.hi
  have hcnt := h.cnt
  have hown0 : w.ownsRow w.heap.size 9 1 (.slice none 0 0) 0 [] := World.ownsRow_nil _ _ _ _
  obtain ⟨i0, hi, hi0, hi1, hi2⟩ := info_parts str_info
  have hnews : ∀ j u, (secs d.fl d.n)[j]? = some u → w.cell? ((⟨g, 0, none⟩ : Addr).add j) = some u := World.ownsRow.cells h.rB rfl
  have hl : (secs d.fl d.n).length = d.n * 1 := by rw [secs_length, Nat.mul_one]
  have hone := secs_one d.fl d.n
  have Hnews := Lib.hid hnews; clear hnews
  have Hown0 := Lib.hid hown0; clear hown0
  have Hi := Lib.hid hi; clear hi
  have Hi0 := Lib.hid hi0; clear hi0
  have Hi1 := Lib.hid hi1; clear hi1
  have Hi2 := Lib.hid hi2; clear hi2
  have Hl := Lib.hid hl; clear hl
  have Hone := Lib.hid hone; clear hone
  have H := Lib.hid h; clear h
  go_enter Tryz.func136, Tryz.ntmps136
  go_wp2_with (at_builtin; refine wpList_append_at _ rfl (.const (.slice none 0 0)) (.tmp 8) 23 rfl w.heap.size 9 i0 _ 1 16 Tryz.underlying23 Hi.out Hi0.out Hi1.out Hi2.out rfl (by decide) (.slice none 0 0) 0 [] rfl Hown0.out ⟨g, 0, none⟩ d.n cap (secs d.fl d.n) rfl Hl.out Hnews.out Hone.out (by unfold maxLen; omega) (by omega) (Nat.le_refl _) ?_)
  intro v2 w2 hown2 hg2 hat
  have hb : Below w.heap.size w w2 := below_of_grown hg2 (fun k hk => by cases hk)
  obtain ⟨g2, cap2, hv2⟩ : ∃ g2 cap2, v2 = .slice (some ⟨g2, 0, none⟩) d.n cap2 := by
    obtain ⟨_, h2⟩ := hown2
    rcases h2 with ⟨rfl, h0⟩ | ⟨g2, cap2, cur, rfl, _⟩
    · omega
    · exact ⟨_, _, rfl⟩
  subst hv2
  have Hb := Lib.hid hb; clear hb
  have Hown2 := Lib.hid hown2; clear hown2
  clear hg2 hat c0
  go_wp2
  go_loopw [4] (fun i wr => ∃ k : Nat, k ≤ d.L.length ∧ i = .int .i64 (k : Int) ∧ wr.ownsRow w.heap.size 9 1 (.slice (some ⟨g2, 0, none⟩) d.n cap2) d.n (secs (Dsk.lay (d.L.take k) d.fl) d.n) ∧ Below w.heap.size w wr) (fun i _ => d.L.length - (intOf i).toNat)
  case atStart => exact ⟨0, by omega, rfl, by rw [List.take_zero]; exact Hown2.out, Hb.out⟩
  case round =>
    obtain ⟨k, hk, rfl, hown, hbel⟩ := hrel
    have hr := H.out.new hbel
    have c1 := hr.c1
    have Hown := Lib.hid hown; clear hown
    have Hbel := Lib.hid hbel; clear hbel
    have Hr := Lib.hid hr; clear hr
    rcases H.out.formL with ⟨hL0, rfl⟩ | ⟨gl, capl, rfl, hcl⟩
    · have hk0 : k = 0 := by rw [hL0] at hk; simpa using hk
      subst hk0
      have hfin := Hown.out
      rw [List.take_zero] at hfin
      have hnow : Dsk.now d = Dsk.lay [] d.fl := by unfold Dsk.now; rw [hL0]
      rw [← hnow] at hfin
      have Hfin := Lib.hid hfin; clear hfin
      clear hL0 hnow
      go_wp2
      go_ret
      exact ⟨_, _, rfl, Hfin.out, Hbel.out⟩
    · by_cases hlt : k < d.L.length
      · obtain ⟨x, hx⟩ : ∃ x, d.L[k]? = some x := ⟨d.L[k], List.getElem?_eq_getElem hlt⟩
        have hxn : x.1 < d.n := Hr.out.ok.at_ x (List.mem_of_getElem? hx)
        obtain ⟨p0, p1⟩ := puts_get hx
        have a0 := ownsRow_cell Hr.out.rL p0
        have a1 := ownsRow_cell Hr.out.rL p1
        rw [Nat.mul_comm 2 k] at a0 a1
        have hset := World.ownsRow.stored Hown.out x.1 (secv x.2)
        rw [secs_set, ← lay_take hx] at hset
        obtain ⟨hs1, _⟩ := hset
        have b0 : wr.cell? ⟨g2, x.1, none⟩ = some (secv (Dsk.lay (d.L.take k) d.fl x.1)) := by
          rw [World.ownsRow.cellAt Hown.out x.1 (by omega), secs_get _ hxn]
        have b1 := World.ownsRow.frozenAt Hown.out x.1
        have hg2b := (World.ownsRow.lt Hown.out g2 rfl).1
        obtain ⟨y, hy⟩ : ∃ y, secv x.2 = .string y := ⟨_, rfl⟩
        rw [hy] at a1 hs1
        obtain ⟨j, hj⟩ : ∃ j, j = x.1 := ⟨_, rfl⟩
        rw [← hj] at a0 hxn hs1 b0 b1
        have b0d : wr.drew.cell? ⟨g2, j, none⟩ = some (secv (Dsk.lay (d.L.take k) d.fl j)) := b0
        have b1d : wr.drew.frozen? ⟨g2, j, none⟩ = false := b1
        have hs1d : (wr.drew.setCell ⟨g2, j, none⟩ (.string y)).ownsRow w.heap.size 9 1 (.slice (some ⟨g2, 0, none⟩) d.n cap2) d.n (secs (Dsk.lay (d.L.take (k + 1)) d.fl) d.n) := hs1
        have hs2d : Below w.heap.size w (wr.drew.setCell ⟨g2, j, none⟩ (.string y)) := (Hbel.out.drew).setCell (p := ⟨g2, j, none⟩) hg2b _
        have Hs1 := Lib.hid hs1d; clear hs1d
        have Hs2 := Lib.hid hs2d; clear hs2d
        clear hs1 b0 b1
        have Hx := Lib.hid hx; clear hx
        clear p0 p1 hy hj
        go_wp2
        go_still_tail 18, (by kernel_rfl)
        go_wp2
        go_roundw
        case rel => exact ⟨k + 1, by omega, by go_num, Hs1.out, Hs2.out⟩
        case measure => simp [intOf]; omega
      · obtain rfl : k = d.L.length := by omega
        have hfin := Hown.out
        rw [List.take_length] at hfin
        have Hfin := Lib.hid hfin; clear hfin
        go_wp2
        go_ret
        exact ⟨_, _, rfl, Hfin.out, Hbel.out⟩
end Go.Proofs.YtjmpagbjkehebaaGreat

/-
  Reading and flushing: of the disk and of the document's one, in one form.
-/
set_option linter.unusedVariables false
namespace Go.Proofs.YtjmpagbjkehebaaGreat
namespace Dsk
/-- what Read answers -/
def read (d : St) (at_ n : Int) : List UInt8 × Int := if d.down = true then ([], 40) else if 0 ≤ at_ ∧ 0 ≤ n ∧ at_ + n ≤ (d.n : Int) then (rd d at_.toNat n.toNat, 0) else ([], 2)
/-- what Flush does -/
def flush (d : St) : St × Int := if d.down = true then (d, 40) else (settle d [1], 0)
theorem settle_one (d : St) : settle d [1] = { d with fl := now d, L := [] } := by unfold settle; rw [kept_one]; rfl
end Dsk
open Go.RowKit

section
variable {S : Nat → Prop} {p q : Nat} {d : Dsk.St} {w : World}
theorem read_all (h : DiskAt S p d w) (at_ n : Int) (ha : -9223372036854775808 ≤ at_ ∧ at_ ≤ 9223372036854775807) (hn : -9223372036854775808 ≤ n ∧ n ≤ 9223372036854775807) :
    Calls Tryz.prog 79 #[.pointer (some ⟨p, 0, none⟩), .int .i64 at_, .int .i64 n] w fun e w' => e = .returned (.tuple #[.string ⟨(Dsk.read d at_ n).1.toArray⟩, .int .i64 (Dsk.read d at_ n).2]) ∧ Below w.heap.size w w' := by
  unfold Dsk.read
  by_cases hd : d.down = true
  · rw [if_pos hd]
    exact (read_down h hd at_ n).mono fun e w' ⟨h1, h2⟩ => ⟨h1, by rw [h2]; exact Below.refl _ _⟩
  · rw [if_neg hd]
    have hd : d.down = false := by simpa using hd
    by_cases hb : 0 ≤ at_ ∧ 0 ≤ n ∧ at_ + n ≤ (d.n : Int)
    · rw [if_pos hb]
      have h1 := read_good h hd at_.toNat n.toNat (by omega)
      rw [show ((at_.toNat : Nat) : Int) = at_ by omega, show ((n.toNat : Nat) : Int) = n by omega] at h1
      exact h1
    · rw [if_neg hb]
      exact (read_bad h hd at_ n ha hn hb).mono fun e w' ⟨h1, h2⟩ => ⟨h1, by rw [h2]; exact Below.refl _ _⟩
theorem flush_all (h : DiskAt S p d w) (hops : d.ops ≤ 1099511627776) : Calls Tryz.prog 57 #[.pointer (some ⟨p, 0, none⟩)] w fun e w' => e = .returned (.int .i64 (Dsk.flush d).2) ∧ Turns S w w' ∧ ∃ S', (∀ j, S' j → S j ∨ w.heap.size ≤ j) ∧ DiskAt S' p (Dsk.flush d).1 w' := by
  unfold Dsk.flush
  by_cases hd : d.down = true
  · rw [if_pos hd]
    exact (flush_down h hd).mono fun e w' ⟨h1, h2⟩ => ⟨h1, by rw [← h2]; exact Turns.refl _ _, S, fun j hj => .inl hj, by rw [← h2]; exact h⟩
  · rw [if_neg hd]
    exact flush_any h (by simpa using hd) hops

theorem refRead_down (h : RefAt S q d w) (hd : d.down = true) (at_ n : Int) : Calls Tryz.prog 80 #[.pointer (some ⟨q, 0, none⟩), .int .i64 at_, .int .i64 n] w fun e w' => e = .returned (.tuple #[.string ⟨#[]⟩, .int .i64 40]) ∧ w = w' := by
  obtain ⟨vB, vL, h⟩ := h
  have c3 := h.c3
  rw [hd] at c3
  clear h hd
  go_enter Tryz.func80, Tryz.ntmps80
  go_wp2
  go_ret2
  exact ⟨rfl, rfl⟩
theorem refRead_bad (h : RefAt S q d w) (hd : d.down = false) (at_ n : Int) (ha : -9223372036854775808 ≤ at_ ∧ at_ ≤ 9223372036854775807) (hn : -9223372036854775808 ≤ n ∧ n ≤ 9223372036854775807) (hb : ¬ (0 ≤ at_ ∧ 0 ≤ n ∧ at_ + n ≤ (d.n : Int))) :
    Calls Tryz.prog 80 #[.pointer (some ⟨q, 0, none⟩), .int .i64 at_, .int .i64 n] w fun e w' => e = .returned (.tuple #[.string ⟨#[]⟩, .int .i64 2]) ∧ w = w' := by
  have hin := refIn_any h at_ n ha hn
  rw [decide_eq_false hb] at hin
  obtain ⟨vB, vL, h⟩ := h
  have c3 := h.c3
  rw [hd] at c3
  have Hin := Lib.hid hin; clear hin
  clear h hd hb ha hn
  go_enter Tryz.func80, Tryz.ntmps80
  go_wp2_with fail
  refine Hin.out.mono ?_; rintro e w' ⟨rfl, rfl⟩
  go_wp2_with fail
  go_ret2
  exact ⟨rfl, rfl⟩

set_option maxHeartbeats 1000000 in
theorem refRead_good (h : RefAt S q d w) (hd : d.down = false) (hops : d.ops ≤ 1099511627776) (k n : Nat) (hfit : k + n ≤ d.n) :
    Calls Tryz.prog 80 #[.pointer (some ⟨q, 0, none⟩), .int .i64 (k : Int), .int .i64 (n : Int)] w fun e w' => e = .returned (.tuple #[.string ⟨(Dsk.rd d k n).toArray⟩, .int .i64 0]) ∧ Below w.heap.size w w' := by
  have hhi := h.ok.hi
  have hin := refIn_any h (k : Int) (n : Int) ⟨by omega, by omega⟩ ⟨by omega, by omega⟩
  rw [show decide (0 ≤ (k : Int) ∧ 0 ≤ (n : Int) ∧ (k : Int) + (n : Int) ≤ (d.n : Int)) = true by rw [decide_eq_true_iff]; omega] at hin
  have hnw := refNow_any h hops
  obtain ⟨vB, vL, h⟩ := h
  have c3 := h.c3
  rw [hd] at c3
  have Hin := Lib.hid hin; clear hin
  have Hnw := Lib.hid hnw; clear hnw
  have hok := h.ok
  have Hok := Lib.hid hok; clear hok
  clear h hd
  go_enter Tryz.func80, Tryz.ntmps80
  go_wp2_with fail
  refine Hin.out.mono ?_; rintro e w' ⟨rfl, rfl⟩
  go_wp2_with fail
  refine Hnw.out.mono ?_; rintro e w2 ⟨g, cap, rfl, hown, hbel⟩
  have Hown := Lib.hid hown; clear hown
  have Hbel := Lib.hid hbel; clear hbel
  clear c3
  go_wp2_with fail
  go_loop [9, 10] (fun s i => ∃ m : Nat, m ≤ n ∧ i = .int .i64 ((k + m : Nat) : Int) ∧ s = .string ⟨(Dsk.rd d k m).toArray⟩) (fun _ i => k + n - (intOf i).toNat)
  case atStart => exact ⟨0, by omega, by simp, rfl⟩
  case round =>
    obtain ⟨m, hm, rfl, rfl⟩ := hrel
    by_cases hlt : m < n
    · have c := ownsRow_cell Hown.out (secs_get (Dsk.now d) (show k + m < d.n by omega))
      obtain ⟨y, hy⟩ : ∃ y, secv (Dsk.now d (k + m)) = .string y := ⟨_, rfl⟩
      have hy2 : (⟨(Dsk.rd d k m).toArray⟩ : ByteArray) ++ y = ⟨(Dsk.rd d k (m + 1)).toArray⟩ := by
        have : y = ⟨(Dsk.now d (k + m)).toArray⟩ := by simpa [secv] using hy.symm
        rw [this, cat_list, ← Dsk.rd_succ]
      have hys : y.size = 64 := by
        have : y = ⟨(Dsk.now d (k + m)).toArray⟩ := by simpa [secv] using hy.symm
        rw [this]
        show (Dsk.now d (k + m)).toArray.size = 64
        rw [List.size_toArray, Dsk.now_length Hok.out]
      have hxs : (⟨(Dsk.rd d k m).toArray⟩ : ByteArray).size = 64 * m := by
        show (Dsk.rd d k m).toArray.size = 64 * m
        rw [List.size_toArray, Dsk.rd_length Hok.out]
      rw [hy] at c
      obtain ⟨j, hj⟩ : ∃ j, j = k + m := ⟨_, rfl⟩
      rw [← hj] at c ⊢
      have hjl : j < k + n := by omega
      have hjd : j < d.n := by omega
      have hj1 : j + 1 = k + (m + 1) := by omega
      have Hy2 := Lib.hid hy2; clear hy2
      have Hj := Lib.hid hj; clear hj
      have Hj1 := Lib.hid hj1; clear hj1
      clear hy
      generalize (⟨(Dsk.rd d k m).toArray⟩ : ByteArray) = x at *
      go_wp2
      go_round
      case rel => exact ⟨m + 1, by omega, by rw [← Hj1.out]; go_num, by rw [Hy2.out]⟩
      case measure => simp [intOf]; omega
    · obtain rfl : m = n := by omega
      go_wp2
      go_ret2
      exact ⟨rfl, Hbel.out⟩

theorem refRead_all (h : RefAt S q d w) (hops : d.ops ≤ 1099511627776) (at_ n : Int) (ha : -9223372036854775808 ≤ at_ ∧ at_ ≤ 9223372036854775807) (hn : -9223372036854775808 ≤ n ∧ n ≤ 9223372036854775807) :
    Calls Tryz.prog 80 #[.pointer (some ⟨q, 0, none⟩), .int .i64 at_, .int .i64 n] w fun e w' => e = .returned (.tuple #[.string ⟨(Dsk.read d at_ n).1.toArray⟩, .int .i64 (Dsk.read d at_ n).2]) ∧ Below w.heap.size w w' := by
  unfold Dsk.read
  by_cases hd : d.down = true
  · rw [if_pos hd]
    exact (refRead_down h hd at_ n).mono fun e w' ⟨h1, h2⟩ => ⟨h1, by rw [h2]; exact Below.refl _ _⟩
  · rw [if_neg hd]
    have hd : d.down = false := by simpa using hd
    by_cases hb : 0 ≤ at_ ∧ 0 ≤ n ∧ at_ + n ≤ (d.n : Int)
    · rw [if_pos hb]
      have h1 := refRead_good h hd hops at_.toNat n.toNat (by omega)
      rw [show ((at_.toNat : Nat) : Int) = at_ by omega, show ((n.toNat : Nat) : Int) = n by omega] at h1
      exact h1
    · rw [if_neg hb]
      exact (refRead_bad h hd at_ n ha hn hb).mono fun e w' ⟨h1, h2⟩ => ⟨h1, by rw [h2]; exact Below.refl _ _⟩

/-- the rows have been replaced by one of the sectors as they are read -/
theorem RefIn.settled {w2 w3 : World} {vB vL : Value} {g cap : Nat} (h : RefIn S q d w vB vL) (f : Nat → Dsk.Sec) (hf : ∀ k, (f k).length = 64) (hb : Below w.heap.size w w2) (hown : w2.ownsRow w.heap.size 9 1 (.slice (some ⟨g, 0, none⟩) d.n cap) d.n (secs f d.n))
    (ht : Turns (fun k => k = q) w2 w3) (hrow : w3.heap[q]? = some (.cells (rcells { d with fl := f, L := [] } (.slice (some ⟨g, 0, none⟩) d.n cap) (.slice none 0 0)) 115 (0, 0))) :
    RefIn (fun j => j = q ∨ (w.heap.size ≤ j ∧ j < w2.heap.size)) q { d with fl := f, L := [] } w3 (.slice (some ⟨g, 0, none⟩) d.n cap) (.slice none 0 0) := by
  have hgl := World.ownsRow.lt hown g rfl
  have hql := h.lt q h.hq
  have hsz := hb.size
  have hsz3 := ht.size
  exact
  { hq := .inl rfl
    hB := fun k hk => by
      have : g = k := by simpa [Value.ownBlock] using hk
      subst this
      exact .inr hgl
    hL := fun k hk => by simp [Value.ownBlock] at hk
    lt := fun k hk => by
      have := hsz3
      rcases hk with rfl | ⟨_, hk⟩ <;> omega
    row := hrow
    rB := ownsRow_same (ownsRow_base hown) (fun k hk => ht.block k (World.ownsRow.lt hown k hk).2 (fun e => by have := (World.ownsRow.lt hown k hk).1; omega))
    rL := World.ownsRow_nil _ _ _ _
    cnt := Nat.zero_le _
    ok := ⟨h.ok.lo, h.ok.hi, hf, fun _ hx => by simp at hx, fun _ hx => by simp at hx, h.ok.fu⟩ }

theorem refFlush_down (h : RefAt S q d w) (hd : d.down = true) : Calls Tryz.prog 131 #[.pointer (some ⟨q, 0, none⟩)] w fun e w' => e = .returned (.int .i64 40) ∧ w = w' := by
  obtain ⟨vB, vL, h⟩ := h
  have c3 := h.c3
  rw [hd] at c3
  clear h hd
  go_enter Tryz.func131, Tryz.ntmps131
  go_wp2
  go_ret
  exact ⟨rfl, rfl⟩

set_option maxHeartbeats 1000000 in
theorem refFlush_good (h : RefAt S q d w) (hd : d.down = false) (hops : d.ops ≤ 1099511627776) : Calls Tryz.prog 131 #[.pointer (some ⟨q, 0, none⟩)] w fun e w' => e = .returned (.int .i64 0) ∧ Turns S w w' ∧ ∃ S', (∀ j, S' j → S j ∨ w.heap.size ≤ j) ∧ RefAt S' q (Dsk.settle d [1]) w' := by
  have hnw := refNow_any h hops
  obtain ⟨vB, vL, h⟩ := h
  have c3 := h.c3
  rw [hd] at c3
  have Hnw := Lib.hid hnw; clear hnw
  have H := Lib.hid h; clear h
  go_enter Tryz.func131, Tryz.ntmps131
  go_wp2_with fail
  refine Hnw.out.mono ?_; rintro e w2 ⟨g, cap, rfl, hown, hbel⟩
  have hr := H.out.new hbel
  have c0 := hr.c0
  have f0 := hr.free 0
  have row1 := heap_setCell_same w2 q 0 _ _ (.slice (some ⟨g, 0, none⟩) d.n cap) hr.row
  have c1 : (w2.setCell ⟨q, 0, none⟩ (.slice (some ⟨g, 0, none⟩) d.n cap)).cell? ⟨q, 1, none⟩ = some vL := by rw [cell_of_row _ q 1 _ _ _ row1]; rfl
  have f1 := row_free row1 1
  have row2 := heap_setCell_same _ q 1 _ _ (.slice none 0 0) row1
  have ht : Turns (fun k => k = q) w2 ((w2.setCell ⟨q, 0, none⟩ (.slice (some ⟨g, 0, none⟩) d.n cap)).setCell ⟨q, 1, none⟩ (.slice none 0 0)) := ((Turns.refl (fun k => k = q) w2).set q 0 _ (fun _ => rfl)).set q 1 _ (fun _ => rfl)
  have hfin := H.out.settled (Dsk.now d) (fun k => Dsk.now_length H.out.ok k) hbel hown ht row2
  rw [show ({ d with fl := Dsk.now d, L := [] } : Dsk.St) = Dsk.settle d [1] from (Dsk.settle_one d).symm] at hfin
  have htt : Turns S w ((w2.setCell ⟨q, 0, none⟩ (.slice (some ⟨g, 0, none⟩) d.n cap)).setCell ⟨q, 1, none⟩ (.slice none 0 0)) := (Turns.of_new hbel S).trans ht (fun j _ e => by rw [e]; exact H.out.hq)
  have Hfin := Lib.hid hfin; clear hfin
  have Htt := Lib.hid htt; clear htt
  clear row1 row2 ht hr hown hbel c3
  go_wp2_with fail
  go_ret
  exact ⟨rfl, Htt.out, _, fun j hj => by
    rcases hj with rfl | hj
    · exact .inl H.out.hq
    · exact .inr hj.1, _, _, Hfin.out⟩

theorem refFlush_all (h : RefAt S q d w) (hops : d.ops ≤ 1099511627776) : Calls Tryz.prog 131 #[.pointer (some ⟨q, 0, none⟩)] w fun e w' => e = .returned (.int .i64 (Dsk.flush d).2) ∧ Turns S w w' ∧ ∃ S', (∀ j, S' j → S j ∨ w.heap.size ≤ j) ∧ RefAt S' q (Dsk.flush d).1 w' := by
  unfold Dsk.flush
  by_cases hd : d.down = true
  · rw [if_pos hd]
    exact (refFlush_down h hd).mono fun e w' ⟨h1, h2⟩ => ⟨h1, by rw [← h2]; exact Turns.refl _ _, S, fun j hj => .inl hj, by rw [← h2]; exact h⟩
  · rw [if_neg hd]
    exact refFlush_good h (by simpa using hd) hops
end
end Go.Proofs.YtjmpagbjkehebaaGreat

/-
  The document's disk: New.
-/
set_option linter.unusedVariables false
namespace Go.Proofs.YtjmpagbjkehebaaGreat
open Go.RowKit

theorem slice_str (s : ByteArray) (w : World) : (Instr.buildSlice 23 1 #[(0, .string s)]).run Tryz.prog w = .ok (.slice (some ⟨w.heap.size, 0, none⟩) 1 1) (w.alloc (.cells #[.string s] 9)) := by
  obtain ⟨i, hi, h0, h1, h2⟩ := info_parts str_info
  have hf := Great.fill_whole (s := 1) (by omega) [.string s] ((Array.range (1 * 1)).map ((Value.string .empty).cells[· % (Value.string .empty).cells.size]!)) (fun v hv => by simp at hv; subst hv; rfl) (by simp)
  refine run_buildSlice w 23 9 1 _ #[.string s] i _ Tryz.underlying23 hi h0 (by rw [h1]; decide) (by rw [h1]; decide) ?_
  rw [h1]
  have e : ([Value.string s].flatMap fun v => v.cells.toList).toArray = #[.string s] := by simp [Value.cells]
  rw [e] at hf
  exact hf
theorem load_strs (p j : Nat) (v : Value) (u : World) (h : u.cell? ⟨p, j, none⟩ = some v) : (Instr.loadAt 23 (.pointer (some ⟨p, j, none⟩))).run Tryz.prog u = .ok v u := by
  go_simp

theorem zers_snoc (n : Nat) : secs (fun _ => Dsk.zer) (n + 1) = secs (fun _ => Dsk.zer) n ++ [secv Dsk.zer] := secs_snoc _ n

set_option maxHeartbeats 1000000 in
theorem refNew_any (n : Nat) (h1 : 1 ≤ n) (h2 : n ≤ 16384) (w : World) : Calls Tryz.prog 21 #[.int .i64 (n : Int)] w fun e w' =>
    e = .returned (.pointer (some ⟨w.heap.size, 0, none⟩)) ∧ Below w.heap.size w w' ∧ RefAt (fun j => w.heap.size ≤ j ∧ j < w'.heap.size) w.heap.size (Dsk.new n) w' := by
  obtain ⟨b, hb⟩ : ∃ b, b = w.heap.size := ⟨_, rfl⟩
  have hrow0 : (w.alloc (.cells #[.slice none 0 0, .slice none 0 0, .int .i64 (-1), .bool false] 115)).heap[b]? = some (.cells #[.slice none 0 0, .slice none 0 0, .int .i64 (-1), .bool false] 115 (0, 0)) := by rw [hb]; exact heap_alloc_new w _
  have hbel0 : Below b w (w.alloc (.cells #[.slice none 0 0, .slice none 0 0, .int .i64 (-1), .bool false] 115)) := (Below.refl _ w).alloc (by omega) _
  have hsz0 : b < (w.alloc (.cells #[.slice none 0 0, .slice none 0 0, .int .i64 (-1), .bool false] 115)).heap.size := by simp; omega
  have Hrow0 := Lib.hid hrow0; clear hrow0
  have Hbel0 := Lib.hid hbel0; clear hbel0
  have Hsz0 := Lib.hid hsz0; clear hsz0
  go_enter Tryz.func21, Tryz.ntmps21
  go_wp2
  rw [← hb]
  have Hb := Lib.hid hb; clear hb
  go_loopw [4] (fun i wr => ∃ (k : Nat) (vB : Value), k ≤ n ∧ i = .int .i64 (k : Int) ∧ wr.heap[b]? = some (.cells #[vB, .slice none 0 0, .int .i64 (-1), .bool false] 115 (0, 0)) ∧ wr.ownsRow (b + 1) 9 1 vB k (secs (fun _ => Dsk.zer) k) ∧ Below b w wr ∧ b < wr.heap.size) (fun i _ => n - (intOf i).toNat)
  case atStart => exact ⟨0, _, by omega, rfl, Hrow0.out, World.ownsRow_nil _ _ _ _, Hbel0.out, Hsz0.out⟩
  case round =>
    obtain ⟨k, vB, hk, rfl, hrow, hown, hbel, hsz⟩ := hrel
    have Hrow := Lib.hid hrow; clear hrow
    have Hown := Lib.hid hown; clear hown
    have Hbel := Lib.hid hbel; clear hbel
    by_cases hlt : k < n
    · have c0 : wr.cell? ⟨b, 0, none⟩ = some vB := by rw [cell_of_row wr b 0 _ _ _ Hrow.out]; rfl
      have C0 := Lib.hid c0; clear c0
      obtain ⟨i0, hi, hi0, hi1, hi2⟩ := info_parts str_info
      have Hi := Lib.hid hi; clear hi
      have Hi0 := Lib.hid hi0; clear hi0
      have Hi1 := Lib.hid hi1; clear hi1
      have Hi2 := Lib.hid hi2; clear hi2
      go_wp2
      refine wp_region_mid_np 5 8 (by kernel_rfl) (by kernel_rfl) (fun u => u.cell? ⟨b, 0, none⟩ = some vB) C0.out ?_
      simp only [List.take_succ_cons, List.take_zero, List.drop_succ_cons, List.drop_zero, Nat.reduceSub]
      refine take_move (.tmp 3) (.pointer (some ⟨b, 0, none⟩)) rfl rfl rfl ?_
      simp only [Act.put, List.setIfInBounds_toArray, List.set_cons_zero, List.set_cons_succ]
      refine take_move (.tmp 3) (.pointer (some ⟨b, 0, none⟩)) rfl rfl rfl ?_
      simp only [Act.put, List.setIfInBounds_toArray, List.set_cons_zero, List.set_cons_succ]
      refine take_nil (.tmp 13) ⟨b, 0, none⟩ rfl rfl rfl ?_
      simp only [Act.put, List.setIfInBounds_toArray, List.set_cons_zero, List.set_cons_succ]
      refine take_one (.pointer (some ⟨b, 0, none⟩)) rfl (fun u _ => by go_simp) ?_
      simp only [Act.put, List.setIfInBounds_toArray, List.set_cons_zero, List.set_cons_succ]
      refine take_load 23 (.tmp 15) ⟨b, 0, none⟩ vB rfl rfl rfl (fun u hu => load_strs _ _ _ _ hu) ?_
      simp only [Act.put, List.setIfInBounds_toArray, List.set_cons_zero, List.set_cons_succ]
      refine take_done ?_
      refine mid_wp rfl (call_wp 70 [] #[] #[] rfl rfl rfl ?_)
      refine (zero_any _).mono ?_; rintro e w1 ⟨rfl, hb1⟩
      have hrow1 : w1.heap[b]? = some (.cells #[vB, .slice none 0 0, .int .i64 (-1), .bool false] 115 (0, 0)) := row_below (w := wr.drew) Hrow.out hb1 hsz
      have hown1 : w1.ownsRow (b + 1) 9 1 vB k (secs (fun _ => Dsk.zer) k) := World.ownsRow.kept (w := wr.drew) Hown.out (grown_of_below hb1 none) (by cases vB.ownBlock <;> simp)
      have hbel1 : Below b w w1 := (Hbel.out.drew).trans (hb1.mono (by show b ≤ wr.heap.size; omega))
      have hsz1 : b < w1.heap.size := Nat.lt_of_lt_of_le hsz hb1.size
      refine ⟨_, rfl, by rw [cell_of_row w1 b 0 _ _ _ hrow1]; rfl, ?_⟩
      clear hb1
      simp only [Act.put, List.setIfInBounds_toArray, List.set_cons_zero, List.set_cons_succ]
      refine mid_one (w' := w1.alloc (.cells #[secv Dsk.zer] 9)) (.slice (some ⟨w1.heap.size, 0, none⟩) 1 1) rfl ?_ ?_ ?_
      · exact run_slice_op 23 1 [(0, .tmp 17)] rfl (slice_str _ w1)
      · rw [World.cell?_of_block (Below.heap_alloc w1 _ b hsz1), cell_of_row w1 b 0 _ _ _ hrow1]; rfl
      refine mid_wp rfl (wp_append_lies _ (.tmp 16) (.tmp 18) 23 rfl (b + 1) 9 i0 _ 1 16 Tryz.underlying23 Hi.out Hi0.out Hi1.out Hi2.out (by rfl) (by decide) vB k (secs (fun _ => Dsk.zer) k) rfl (hown1.alloc _) ⟨w1.heap.size, 0, none⟩ 1 1 [secv Dsk.zer] rfl rfl (World.news_of_block (cs := #[secv Dsk.zer]) (heap_alloc_new w1 _)) (by intro u hu; simp at hu; subst hu; rfl) (by decide) (by unfold maxLen; omega) (by omega) (by simp; omega) (w1.heap.size + 1) (by simp) ?_)
      intro g cap w4 hown4 hg4 hat hgl
      have hnb : vB.ownBlock ≠ some b := fun e => by have := (World.ownsRow.lt hown1 b e).1; omega
      have hrow4 : w4.heap[b]? = some (.cells #[vB, .slice none 0 0, .int .i64 (-1), .bool false] 115 (0, 0)) := by
        rw [hg4.block b (by simp; omega) (fun e => hnb e.symm)]
        exact row_alloc hrow1 _
      have hbel4 : Below b w w4 := (hbel1.alloc (by omega) _).grown hg4 (by simp; omega) (fun j hj => by have := (World.ownsRow.lt hown1 j hj).1; omega)
      have hsz4 : b < w4.heap.size := by have := hg4.size; simp at this; omega
      have hgb : b + 1 ≤ g := (World.ownsRow.lt hown4 g rfl).1
      rw [← zers_snoc] at hown4
      have c4 : w4.cell? ⟨b, 0, none⟩ = some vB := by rw [cell_of_row w4 b 0 _ _ _ hrow4]; rfl
      have f4 := row_free hrow4 0
      refine ⟨c4, mid_list ?_⟩
      have hrow5 := heap_setCell_same w4 b 0 _ _ (.slice (some ⟨g, 0, none⟩) (k + 1) cap) hrow4
      have hown5 : (w4.setCell ⟨b, 0, none⟩ (.slice (some ⟨g, 0, none⟩) (k + 1) cap)).ownsRow (b + 1) 9 1 (.slice (some ⟨g, 0, none⟩) (k + 1) cap) (k + 1) (secs (fun _ => Dsk.zer) (k + 1)) := ownsRow_same hown4 (fun j hj => heap_setCell_other _ _ _ _ (by have : g = j := (by simpa [Value.ownBlock] using hj); simp; omega))
      have hbel5 : Below b w (w4.setCell ⟨b, 0, none⟩ (.slice (some ⟨g, 0, none⟩) (k + 1) cap)) := hbel4.setCell (p := ⟨b, 0, none⟩) (Nat.le_refl _) _
      have hsz5 : b < (w4.setCell ⟨b, 0, none⟩ (.slice (some ⟨g, 0, none⟩) (k + 1) cap)).heap.size := by simpa [World.setCell] using hsz4
      have Hrow5 := Lib.hid hrow5; clear hrow5
      have Hown5 := Lib.hid hown5; clear hown5
      have Hbel5 := Lib.hid hbel5; clear hbel5
      have Hsz5 := Lib.hid hsz5; clear hsz5
      clear hrow1 hown1 hbel1 hsz1 hown4 hg4 hat hgl hrow4 hbel4 hsz4
      go_wp2
      apply NoPanic.normal
      go_wp2
      go_roundw
      case rel => exact ⟨k + 1, _, by omega, by go_num, Hrow5.out, Hown5.out, Hbel5.out, Hsz5.out⟩
      case measure => simp [intOf]; omega
    · obtain rfl : k = n := by omega
      have hfin : RefIn (fun j => b ≤ j ∧ j < wr.heap.size) b (Dsk.new k) wr vB (.slice none 0 0) :=
        { hq := ⟨Nat.le_refl _, hsz⟩
          hB := fun j hj => by have := World.ownsRow.lt Hown.out j hj; omega
          hL := fun j hj => by simp [Value.ownBlock] at hj
          lt := fun j hj => hj.2
          row := Hrow.out
          rB := ownsRow_base Hown.out
          rL := World.ownsRow_nil _ _ _ _
          cnt := Nat.le_refl _
          ok := Dsk.new_ok h1 h2 }
      have Hfin := Lib.hid hfin; clear hfin
      go_wp2
      go_ret
      rw [← Hb.out]
      exact ⟨rfl, Hbel.out, _, _, Hfin.out⟩
end Go.Proofs.YtjmpagbjkehebaaGreat

/-
  The document's disk: Crash.
-/
set_option linter.unusedVariables false
namespace Go.Proofs.YtjmpagbjkehebaaGreat
open Go.RowKit

theorem crash_eq (d : Dsk.St) (keep : List UInt8) : Dsk.crash d keep = { ({ d with fl := Dsk.lay (Dsk.kept keep d.L) d.fl, L := [] } : Dsk.St) with fuse := -1, down := false } := rfl

section
variable {S : Nat → Prop} {q : Nat} {d : Dsk.St} {w : World}
/-- behind the loop -/
theorem RefIn.crashed {w2 : World} {vB vL : Value} {g cap : Nat} (h : RefIn S q d w vB vL) (keep : List UInt8) (hb : Below w.heap.size w w2) (hown : w2.ownsRow w.heap.size 9 1 (.slice (some ⟨g, 0, none⟩) d.n cap) d.n (secs (Dsk.lay (Dsk.kept keep d.L) d.fl) d.n)) :
    Turns S w ((((w2.setCell ⟨q, 0, none⟩ (.slice (some ⟨g, 0, none⟩) d.n cap)).setCell ⟨q, 1, none⟩ (.slice none 0 0)).setCell ⟨q, 2, none⟩ (.int .i64 (-1))).setCell ⟨q, 3, none⟩ (.bool false)) ∧
    ∃ S', (∀ j, S' j → S j ∨ w.heap.size ≤ j) ∧ RefAt S' q (Dsk.crash d keep) ((((w2.setCell ⟨q, 0, none⟩ (.slice (some ⟨g, 0, none⟩) d.n cap)).setCell ⟨q, 1, none⟩ (.slice none 0 0)).setCell ⟨q, 2, none⟩ (.int .i64 (-1))).setCell ⟨q, 3, none⟩ (.bool false)) := by
  have hr := h.new hb
  have row1 := heap_setCell_same w2 q 0 _ _ (.slice (some ⟨g, 0, none⟩) d.n cap) hr.row
  have row2 := heap_setCell_same _ q 1 _ _ (.slice none 0 0) row1
  have row3 := heap_setCell_same _ q 2 _ _ (.int .i64 (-1)) row2
  have row4 := heap_setCell_same _ q 3 _ _ (.bool false) row3
  have ht : Turns (fun k => k = q) w2 ((w2.setCell ⟨q, 0, none⟩ (.slice (some ⟨g, 0, none⟩) d.n cap)).setCell ⟨q, 1, none⟩ (.slice none 0 0)) := ((Turns.refl (fun k => k = q) w2).set q 0 _ (fun _ => rfl)).set q 1 _ (fun _ => rfl)
  have ht2 : Turns (fun k => k = q) ((w2.setCell ⟨q, 0, none⟩ (.slice (some ⟨g, 0, none⟩) d.n cap)).setCell ⟨q, 1, none⟩ (.slice none 0 0)) ((((w2.setCell ⟨q, 0, none⟩ (.slice (some ⟨g, 0, none⟩) d.n cap)).setCell ⟨q, 1, none⟩ (.slice none 0 0)).setCell ⟨q, 2, none⟩ (.int .i64 (-1))).setCell ⟨q, 3, none⟩ (.bool false)) := ((Turns.refl (fun k => k = q) _).set q 2 _ (fun _ => rfl)).set q 3 _ (fun _ => rfl)
  have hok := h.ok
  have hs := h.settled (Dsk.lay (Dsk.kept keep d.L) d.fl) (fun k => by
    have := (Dsk.settle_ok hok keep).fl k
    exact this) hb hown ht row2
  have hfin := hs.turn ht2 (-1) false ⟨by omega, by omega⟩ (by rw [row4]; simp [rcells])
  refine ⟨((Turns.of_new hb S).trans ht (fun j _ e => by rw [e]; exact h.hq)).trans ht2 (fun j _ e => by rw [e]; exact h.hq), _, fun j hj => ?_, _, _, hfin⟩
  rcases hj with rfl | hj
  · exact .inl h.hq
  · exact .inr hj.1

set_option maxHeartbeats 2000000 in
theorem refCrash_any (h : RefAt S q d w) (keep : ByteArray) (hks : keep.size ≤ 1099511627776) (hops : d.ops ≤ 1099511627776) :
    Calls Tryz.prog 74 #[.pointer (some ⟨q, 0, none⟩), .string keep] w fun e w' => e = .returned (.tuple #[]) ∧ Turns S w w' ∧ ∃ S', (∀ j, S' j → S j ∨ w.heap.size ≤ j) ∧ RefAt S' q (Dsk.crash d keep.data.toList) w' := by
  obtain ⟨vB, vL, h⟩ := h
  obtain ⟨g, cap, rfl⟩ := h.formB
  have c0 := h.c0
  have hn1 := h.ok.lo
  have hn2 := h.ok.hi
  have hcnt := h.cnt
  have hown0 : w.ownsRow w.heap.size 9 1 (.slice none 0 0) 0 [] := World.ownsRow_nil _ _ _ _
  obtain ⟨i0, hi, hi0, hi1, hi2⟩ := info_parts str_info
  have hnews : ∀ j u, (secs d.fl d.n)[j]? = some u → w.cell? ((⟨g, 0, none⟩ : Addr).add j) = some u := World.ownsRow.cells h.rB rfl
  have hl : (secs d.fl d.n).length = d.n * 1 := by rw [secs_length, Nat.mul_one]
  have hone := secs_one d.fl d.n
  have Hnews := Lib.hid hnews; clear hnews
  have Hown0 := Lib.hid hown0; clear hown0
  have Hi := Lib.hid hi; clear hi
  have Hi0 := Lib.hid hi0; clear hi0
  have Hi1 := Lib.hid hi1; clear hi1
  have Hi2 := Lib.hid hi2; clear hi2
  have Hl := Lib.hid hl; clear hl
  have Hone := Lib.hid hone; clear hone
  have H := Lib.hid h; clear h
  go_enter Tryz.func74, Tryz.ntmps74
  go_wp2_with (at_builtin; refine wpList_append_at _ rfl (.const (.slice none 0 0)) (.tmp 9) 23 rfl w.heap.size 9 i0 _ 1 16 Tryz.underlying23 Hi.out Hi0.out Hi1.out Hi2.out rfl (by decide) (.slice none 0 0) 0 [] rfl Hown0.out ⟨g, 0, none⟩ d.n cap (secs d.fl d.n) rfl Hl.out Hnews.out Hone.out (by unfold maxLen; omega) (by omega) (Nat.le_refl _) ?_)
  intro v2 w2 hown2 hg2 hat
  have hb : Below w.heap.size w w2 := below_of_grown hg2 (fun k hk => by cases hk)
  obtain ⟨g2, cap2, hv2⟩ : ∃ g2 cap2, v2 = .slice (some ⟨g2, 0, none⟩) d.n cap2 := by
    obtain ⟨_, h2⟩ := hown2
    rcases h2 with ⟨rfl, h0⟩ | ⟨g2, cap2, cur, rfl, _⟩
    · omega
    · exact ⟨_, _, rfl⟩
  subst hv2
  have Hb := Lib.hid hb; clear hb
  have Hown2 := Lib.hid hown2; clear hown2
  clear hg2 hat c0
  go_wp2
  go_loopw [5] (fun i wr => ∃ k : Nat, k ≤ d.L.length ∧ (keep.size = 0 → k = 0) ∧ i = .int .i64 (k : Int) ∧ wr.ownsRow w.heap.size 9 1 (.slice (some ⟨g2, 0, none⟩) d.n cap2) d.n (secs (Dsk.lay (Dsk.done keep.data.toList d.L k) d.fl) d.n) ∧ Below w.heap.size w wr) (fun i _ => d.L.length - (intOf i).toNat)
  case atStart => exact ⟨0, by omega, fun _ => rfl, rfl, by rw [Dsk.done_zero]; exact Hown2.out, Hb.out⟩
  case round =>
    obtain ⟨k, hk, hkz, rfl, hown, hbel⟩ := hrel
    have hr := H.out.new hbel
    have c1 := hr.c1
    -- what the end leaves
    have hend : Dsk.done keep.data.toList d.L k = Dsk.kept keep.data.toList d.L → Turns S w ((((wr.setCell ⟨q, 0, none⟩ (.slice (some ⟨g2, 0, none⟩) d.n cap2)).setCell ⟨q, 1, none⟩ (.slice none 0 0)).setCell ⟨q, 2, none⟩ (.int .i64 (-1))).setCell ⟨q, 3, none⟩ (.bool false)) ∧
        ∃ S', (∀ j, S' j → S j ∨ w.heap.size ≤ j) ∧ RefAt S' q (Dsk.crash d keep.data.toList) ((((wr.setCell ⟨q, 0, none⟩ (.slice (some ⟨g2, 0, none⟩) d.n cap2)).setCell ⟨q, 1, none⟩ (.slice none 0 0)).setCell ⟨q, 2, none⟩ (.int .i64 (-1))).setCell ⟨q, 3, none⟩ (.bool false)) := fun e => by
      rw [e] at hown
      exact H.out.crashed keep.data.toList hbel hown
    have row0 := hr.row
    have c0 := hr.c0
    have f0 := hr.free 0
    have row1 := heap_setCell_same wr q 0 _ _ (.slice (some ⟨g2, 0, none⟩) d.n cap2) row0
    have d1 : (wr.setCell ⟨q, 0, none⟩ (.slice (some ⟨g2, 0, none⟩) d.n cap2)).cell? ⟨q, 1, none⟩ = some vL := by rw [cell_of_row _ q 1 _ _ _ row1]; rfl
    have f1 := row_free row1 1
    have row2 := heap_setCell_same _ q 1 _ _ (.slice none 0 0) row1
    have d2 : ((wr.setCell ⟨q, 0, none⟩ (.slice (some ⟨g2, 0, none⟩) d.n cap2)).setCell ⟨q, 1, none⟩ (.slice none 0 0)).cell? ⟨q, 2, none⟩ = some (.int .i64 (max d.fuse (-1))) := by rw [cell_of_row _ q 2 _ _ _ row2]; rfl
    have f2 := row_free row2 2
    have row3 := heap_setCell_same _ q 2 _ _ (.int .i64 (-1)) row2
    have d3 : (((wr.setCell ⟨q, 0, none⟩ (.slice (some ⟨g2, 0, none⟩) d.n cap2)).setCell ⟨q, 1, none⟩ (.slice none 0 0)).setCell ⟨q, 2, none⟩ (.int .i64 (-1))).cell? ⟨q, 3, none⟩ = some (.bool d.down) := by rw [cell_of_row _ q 3 _ _ _ row3]; rfl
    have f3 := row_free row3 3
    have Hend := Lib.hid hend; clear hend
    have Hown := Lib.hid hown; clear hown
    have Hbel := Lib.hid hbel; clear hbel
    have Hr := Lib.hid hr; clear hr
    have Hkz := Lib.hid hkz; clear hkz
    clear row0 row1 row2 row3
    rcases H.out.formL with ⟨hL0, rfl⟩ | ⟨gl, capl, rfl, hcl⟩
    · have hk0 : k = 0 := by rw [hL0] at hk; simpa using hk
      subst hk0
      have he := Hend.out (by rw [hL0]; unfold Dsk.done Dsk.kept; simp)
      have He := Lib.hid he; clear he
      clear hL0
      go_wp2
      go_end0
      exact ⟨rfl, He.out⟩
    · by_cases hks0 : keep.size = 0
      · have hk0 := Hkz.out hks0
        subst hk0
        have hkl : keep.data.toList = [] := List.eq_nil_of_length_eq_zero (by rw [ba_len]; exact hks0)
        have he := Hend.out (by rw [hkl]; rfl)
        have He := Lib.hid he; clear he
        clear hkl
        by_cases hl0 : 0 < d.L.length
        · go_wp2
          go_end0
          exact ⟨rfl, He.out⟩
        · have hl0 : d.L.length = 0 := by omega
          go_wp2
          go_end0
          exact ⟨rfl, He.out⟩
      · have hkp : 0 < keep.size := by omega
        have hkne : keep.data.toList ≠ [] := fun e => hks0 (by rw [← ba_len, e]; rfl)
        by_cases hlt : k < d.L.length
        · obtain ⟨x, hx⟩ : ∃ x, d.L[k]? = some x := ⟨d.L[k], List.getElem?_eq_getElem hlt⟩
          have hsucc := Dsk.done_succ hkne hx
          obtain ⟨r, hrq⟩ : ∃ r, r = k % keep.size := ⟨_, rfl⟩
          have hqs : r < keep.size := by rw [hrq]; exact Nat.mod_lt _ hkp
          have hodd : Dsk.odd keep.data.toList k = (keep[r].toNat % 2 == 1) := by
            unfold Dsk.odd
            rw [ba_len, ← hrq, List.getD_eq_getElem?_getD, List.getElem?_eq_getElem (by rw [ba_len]; exact hqs), Option.getD_some, ba_get keep r hqs]
          have hqt : Int.tmod (k : Int) (keep.size : Int) = (r : Int) := by rw [Int.tmod_eq_emod_of_nonneg (by omega), hrq]; omega
          have hk0 : ¬ ((keep.size : Nat) : Int) = 0 := by omega
          have hk3 : ¬ keep.size = 0 := by omega
          have hw3 : IntKind.i64.wrap (r : Int) = (r : Int) := IntWalk.i64_in _ (by omega)
          have htq : ((r : Int)).toNat = r := by omega
          have q0 : (0 : Int) ≤ (r : Int) := by omega
          have q1 : (r : Int) < (keep.size : Int) := by omega
          have Hrq := Lib.hid hrq; clear hrq
          have Hodd := Lib.hid hodd; clear hodd
          have Hsucc := Lib.hid hsucc; clear hsucc
          have Hkne := Lib.hid hkne; clear hkne
          have hxn : x.1 < d.n := Hr.out.ok.at_ x (List.mem_of_getElem? hx)
          obtain ⟨p0, p1⟩ := puts_get hx
          have a0 := ownsRow_cell Hr.out.rL p0
          have a1 := ownsRow_cell Hr.out.rL p1
          rw [Nat.mul_comm 2 k] at a0 a1
          cases ho : Dsk.odd keep.data.toList k with
          | true =>
            have hob : (((keep[r].toNat : Nat) : Int) % 2 == 1) = true := by
              have h1 := Hodd.out
              rw [ho] at h1
              have h2 : keep[r].toNat % 2 = 1 := by simpa using h1.symm
              rw [beq_iff_eq]; omega
            have hset := World.ownsRow.stored Hown.out x.1 (secv x.2)
            have hs := Hsucc.out
            rw [ho, if_pos rfl] at hs
            rw [secs_set, ← Dsk.lay_snoc, show (Dsk.done keep.data.toList d.L k ++ [(x.1, x.2)]) = Dsk.done keep.data.toList d.L (k + 1) from hs.symm] at hset
            obtain ⟨hs1, _⟩ := hset
            have b0 : wr.drew.cell? ⟨g2, x.1, none⟩ = some (secv (Dsk.lay (Dsk.done keep.data.toList d.L k) d.fl x.1)) := by
              show wr.cell? _ = _
              rw [World.ownsRow.cellAt Hown.out x.1 (by omega), secs_get _ hxn]
            have b1 : wr.drew.frozen? ⟨g2, x.1, none⟩ = false := World.ownsRow.frozenAt Hown.out x.1
            have hg2b := (World.ownsRow.lt Hown.out g2 rfl).1
            obtain ⟨y, hy⟩ : ∃ y, secv x.2 = .string y := ⟨_, rfl⟩
            rw [hy] at a1 hs1
            obtain ⟨j, hj⟩ : ∃ j, j = x.1 := ⟨_, rfl⟩
            rw [← hj] at a0 hxn hs1 b0 b1
            have hs1d : (wr.drew.setCell ⟨g2, j, none⟩ (.string y)).ownsRow w.heap.size 9 1 (.slice (some ⟨g2, 0, none⟩) d.n cap2) d.n (secs (Dsk.lay (Dsk.done keep.data.toList d.L (k + 1)) d.fl) d.n) := hs1
            have hs2d : Below w.heap.size w (wr.drew.setCell ⟨g2, j, none⟩ (.string y)) := (Hbel.out.drew).setCell (p := ⟨g2, j, none⟩) hg2b _
            have Hs1 := Lib.hid hs1d; clear hs1d
            have Hs2 := Lib.hid hs2d; clear hs2d
            have Hx := Lib.hid hx; clear hx
            have Ho := Lib.hid ho; clear ho
            clear hs1 hs p0 p1 hy hj d1 d2 d3 f1 f2 f3 f0 c0
            go_wp2
            clear hqt hk0 hk3 hw3 hob
            go_still_tail 18, (by kernel_rfl)
            go_wp2
            go_roundw
            case rel => exact ⟨k + 1, by omega, fun e => absurd e hks0, by go_num, Hs1.out, Hs2.out⟩
            case measure => simp [intOf]; omega
          | false =>
            have hob : (((keep[r].toNat : Nat) : Int) % 2 == 1) = false := by
              have h1 := Hodd.out
              rw [ho] at h1
              have h2 : ¬ keep[r].toNat % 2 = 1 := by simpa using h1.symm
              rw [beq_eq_false_iff_ne]; omega
            have hs := Hsucc.out
            rw [ho] at hs
            simp only [Bool.false_eq_true, if_false, List.append_nil] at hs
            have hs1 := Hown.out
            rw [← hs] at hs1
            have Hs1 := Lib.hid hs1; clear hs1
            have Hx := Lib.hid hx; clear hx
            have Ho := Lib.hid ho; clear ho
            clear hs p0 p1 d1 d2 d3 f1 f2 f3 f0 c0 a0 a1
            go_wp2
            go_roundw
            case rel => exact ⟨k + 1, by omega, fun e => absurd e hks0, by go_num, Hs1.out, Hbel.out⟩
            case measure => simp [intOf]; omega
        · obtain rfl : k = d.L.length := by omega
          have he := Hend.out (Dsk.done_all _ _)
          have He := Lib.hid he; clear he
          go_wp2
          go_end0
          exact ⟨rfl, He.out⟩
end
end Go.Proofs.YtjmpagbjkehebaaGreat

/-
  The document's disk: Copy.
-/
set_option linter.unusedVariables false
namespace Go.Proofs.YtjmpagbjkehebaaGreat
open Go.RowKit

theorem put_info : (Tryz.prog.info? 125).map (fun i => (i.zero, i.size, i.bytes)) = some (some (.agg #[.int .i64 0, .string .empty]), 2, 24) := by kernel_rfl
theorem load_puts (p j : Nat) (v : Value) (u : World) (h : u.cell? ⟨p, j, none⟩ = some v) : (Instr.loadAt 113 (.pointer (some ⟨p, j, none⟩))).run Tryz.prog u = .ok v u := by
  go_simp
theorem load_int (p j : Nat) (v : Value) (u : World) (h : u.cell? ⟨p, j, none⟩ = some v) : (Instr.loadAt 3 (.pointer (some ⟨p, j, none⟩))).run Tryz.prog u = .ok v u := by
  go_simp
theorem load_bool (p j : Nat) (v : Value) (u : World) (h : u.cell? ⟨p, j, none⟩ = some v) : (Instr.loadAt 4 (.pointer (some ⟨p, j, none⟩))).run Tryz.prog u = .ok v u := by
  go_simp

end Go.Proofs.YtjmpagbjkehebaaGreat

/-
  The document's disk: Write.
-/
set_option linter.unusedVariables false
namespace Go.Proofs.YtjmpagbjkehebaaGreat
open Go.RowKit

theorem slice_put (a b : Value) (ha : a.cells = #[a]) (hb : b.cells = #[b]) (w : World) : (Instr.buildSlice 113 1 #[(0, .agg #[a, b])]).run Tryz.prog w = .ok (.slice (some ⟨w.heap.size, 0, none⟩) 1 1) (w.alloc (.cells #[a, b] 125)) := by
  obtain ⟨i, hi, h0, h1, h2⟩ := info_parts put_info
  have hf := Great.fill_whole (s := 2) (by omega) [.agg #[a, b]] ((Array.range (1 * 2)).map ((Value.agg #[.int .i64 0, .string .empty]).cells[· % (Value.agg #[.int .i64 0, .string .empty]).cells.size]!)) (fun v hv => by simp at hv; subst hv; rfl) (by simp)
  refine run_buildSlice w 113 125 1 _ #[a, b] i _ Tryz.underlying113 hi h0 (by rw [h1]; decide) (by rw [h1]; decide) ?_
  rw [h1]
  have e : ([Value.agg #[a, b]].flatMap fun v => v.cells.toList).toArray = #[a, b] := by simp [Value.cells]
  rw [e] at hf
  exact hf

section
variable {S : Nat → Prop} {q : Nat} {d : Dsk.St} {w : World}
theorem refWrite_down (h : RefAt S q d w) (hd : d.down = true) (at_ : Int) (s : ByteArray) (hs : s.size ≤ 9223372036854775807) :
    Calls Tryz.prog 27 #[.pointer (some ⟨q, 0, none⟩), .int .i64 at_, .string s] w fun e w' => e = .returned (.int .i64 40) ∧ w = w' := by
  obtain ⟨vB, vL, h⟩ := h
  have c3 := h.c3
  rw [hd] at c3
  clear h hd
  go_enter Tryz.func27, Tryz.ntmps27
  go_wp2
  go_ret
  exact ⟨rfl, rfl⟩

theorem refWrite_bad (h : RefAt S q d w) (hd : d.down = false) (at_ : Int) (ha : -9223372036854775808 ≤ at_ ∧ at_ ≤ 9223372036854775807) (s : ByteArray) (hs : s.size ≤ 9223372036854775807)
    (hb : s.size % 64 ≠ 0 ∨ ¬ (0 ≤ at_ ∧ at_ + (s.size / 64 : Nat) ≤ (d.n : Int))) :
    Calls Tryz.prog 27 #[.pointer (some ⟨q, 0, none⟩), .int .i64 at_, .string s] w fun e w' => e = .returned (.int .i64 2) ∧ w = w' := by
  have hq : (s.size : Int) / 64 = ((s.size / 64 : Nat) : Int) := by omega
  obtain ⟨n, hn⟩ : ∃ n, n = s.size / 64 := ⟨_, rfl⟩
  have hnb : n ≤ 9223372036854775807 := by omega
  rw [← hn] at hq hb
  have hin := refIn_any h at_ (n : Int) ha ⟨by omega, by omega⟩
  obtain ⟨vB, vL, h⟩ := h
  have c3 := h.c3
  rw [hd] at c3
  clear h hd
  have Hn := Lib.hid hn; clear hn
  by_cases hm : s.size % 64 = 0
  · have hm2 : ((s.size : Int) % 64 != 0) = false := by rw [bne_eq_false_iff_eq]; omega
    have hb2 : ¬ (0 ≤ at_ ∧ 0 ≤ (n : Int) ∧ at_ + (n : Int) ≤ (d.n : Int)) := by omega
    rw [decide_eq_false hb2] at hin
    have Hin := Lib.hid hin; clear hin
    clear hb hb2
    go_enter Tryz.func27, Tryz.ntmps27
    go_wp2_with fail
    refine Hin.out.mono ?_; rintro e w' ⟨rfl, rfl⟩
    go_wp2_with fail
    go_ret
    exact ⟨rfl, rfl⟩
  · have hm2 : ((s.size : Int) % 64 != 0) = true := by rw [bne_iff_ne]; omega
    clear hin hb
    go_enter Tryz.func27, Tryz.ntmps27
    go_wp2
    go_ret
    exact ⟨rfl, rfl⟩

/-- behind one sector -/
theorem RefIn.put_done {vB vL : Value} (h : RefIn S q d w vB vL) (k : Nat) (s : List UInt8) (hk : k < d.n) (hs : s.length = 64) {w1 w4 : World} (hb1 : Below w.heap.size w w1) {g cap : Nat}
    (hown4 : w4.ownsRow 0 125 2 (.slice (some ⟨g, 0, none⟩) (d.L.length + 1) cap) (d.L.length + 1) (puts d.L ++ pcells (k, s))) (hg4 : w1.grownBy w4 vL.ownBlock) (hat : vL.ownBlock = some g ∨ w.heap.size ≤ g)
    (f lv : Int) (hlv : lv = max f (-1)) (hf : -9223372036854775808 ≤ f ∧ f ≤ 9223372036854775807) :
    Turns S w ((w4.setCell ⟨q, 1, none⟩ (.slice (some ⟨g, 0, none⟩) (d.L.length + 1) cap)).setCell ⟨q, 2, none⟩ (.int .i64 lv)) ∧
    ∃ S', (∀ j, S' j → S j ∨ w.heap.size ≤ j) ∧ RefAt S' q (Dsk.put { d with fuse := f } k s) ((w4.setCell ⟨q, 1, none⟩ (.slice (some ⟨g, 0, none⟩) (d.L.length + 1) cap)).setCell ⟨q, 2, none⟩ (.int .i64 lv)) := by
  subst hlv
  have hr1 := h.new hb1
  have tg : Turns (fun k => vL.ownBlock = some k) w1 w4 := Turns.of_grown hg4
  have t4 : Turns S w w4 := (Turns.of_new hb1 S).trans tg (fun j _ e => h.hL j e)
  have hgl := World.ownsRow.lt hown4 g rfl
  have hqg : g ≠ q := fun e => by
    rcases hat with hh | hh
    · exact h.qL (by rw [hh, e])
    · have := h.lt q h.hq; omega
  have hrow4 : w4.heap[q]? = some (.cells (rcells d vB vL) 115 (0, 0)) := tg.same hr1.row (fun e => h.qL e)
  have row5 := heap_setCell_same w4 q 1 _ _ (.slice (some ⟨g, 0, none⟩) (d.L.length + 1) cap) hrow4
  have row6 := heap_setCell_same _ q 2 _ _ (.int .i64 (max f (-1))) row5
  have t5 : Turns (fun k => k = q) w4 ((w4.setCell ⟨q, 1, none⟩ (.slice (some ⟨g, 0, none⟩) (d.L.length + 1) cap)).setCell ⟨q, 2, none⟩ (.int .i64 (max f (-1)))) := ((Turns.refl (fun k => k = q) w4).set q 1 _ (fun _ => rfl)).set q 2 _ (fun _ => rfl)
  have t6 : Turns S w ((w4.setCell ⟨q, 1, none⟩ (.slice (some ⟨g, 0, none⟩) (d.L.length + 1) cap)).setCell ⟨q, 2, none⟩ (.int .i64 (max f (-1)))) := t4.trans t5 (fun j _ e => by rw [e]; exact h.hq)
  have hsz := t5.size
  have hsz4 := t4.size
  refine ⟨t6, fun j => S j ∨ (w.heap.size ≤ j ∧ j < w4.heap.size), fun j hj => by rcases hj with hj | hj; exact .inl hj; exact .inr hj.1, vB, .slice (some ⟨g, 0, none⟩) (d.L.length + 1) cap, ?_⟩
  have hok : (Dsk.put { d with fuse := f } k s).Ok := Dsk.put_ok (d := { d with fuse := f }) ⟨h.ok.lo, h.ok.hi, h.ok.fl, h.ok.at_, h.ok.sz, hf⟩ hk hs
  have hll : (Dsk.put { d with fuse := f } k s).L.length = d.L.length + 1 := by simp [Dsk.put]
  exact
  { hq := .inl h.hq
    hB := fun j hj => .inl (h.hB j hj)
    hL := fun j hj => by
      have : g = j := by simpa [Value.ownBlock] using hj
      subst this
      rcases hat with hh | hh
      · exact .inl (h.hL g hh)
      · exact .inr ⟨hh, hgl.2⟩
    lt := fun j hj => by
      rcases hj with hj | hj
      · have := h.lt j hj; omega
      · omega
    row := row6
    rB := by
      refine ownsRow_same h.rB (fun j hj => ?_)
      rw [t5.block j (by have := h.lt j (h.hB j hj); omega) (fun e => h.qB (by rw [hj, e])), tg.block j (by have := h.lt j (h.hB j hj); have := hb1.size; omega) (h.bl j hj)]
      exact hb1.block j (h.lt j (h.hB j hj))
    rL := by
      rw [hll]
      have e : puts (Dsk.put { d with fuse := f } k s).L = puts d.L ++ pcells (k, s) := puts_snoc _ _
      rw [e]
      exact ownsRow_same hown4 (fun j hj => by
        have : g = j := by simpa [Value.ownBlock] using hj
        subst this
        exact t5.block g hgl.2 hqg)
    cnt := by rw [hll]; have := h.cnt; show d.L.length + 1 ≤ d.ops + 1; omega
    ok := hok }

set_option maxRecDepth 20000 in
set_option maxHeartbeats 2000000 in
theorem refWrite_good (h : RefAt S q d w) (hd : d.down = false) (k : Nat) (s : ByteArray) (n : Nat) (hs : s.size = 64 * n) (hfit : k + n ≤ d.n) (hops : d.ops + n ≤ 1099511627776) :
    Calls Tryz.prog 27 #[.pointer (some ⟨q, 0, none⟩), .int .i64 (k : Int), .string s] w fun e w' => e = .returned (.int .i64 (if (Dsk.wr s.data.toList k n 0 d).down = true then 40 else 0)) ∧ Turns S w w' ∧ ∃ S', (∀ j, S' j → S j ∨ w.heap.size ≤ j) ∧ RefAt S' q (Dsk.wr s.data.toList k n 0 d) w' := by
  have hhi := h.ok.hi
  have hin := refIn_any h (k : Int) (n : Int) ⟨by omega, by omega⟩ ⟨by omega, by omega⟩
  have hyes : decide (0 ≤ (k : Int) ∧ 0 ≤ (n : Int) ∧ (k : Int) + (n : Int) ≤ (d.n : Int)) = true := by rw [decide_eq_true_iff]; omega
  rw [hyes] at hin
  have hq : (s.size : Int) / 64 = (n : Int) := by omega
  have hm2 : ((s.size : Int) % 64 != 0) = false := by rw [bne_eq_false_iff_eq]; omega
  have hsb : s.size ≤ 1048576 := by omega
  have hat := h
  obtain ⟨vB, vL, h⟩ := h
  have c3 := h.c3
  rw [hd] at c3
  have hqS := h.hq
  have hS0 := h.lt
  obtain ⟨j0, hj, hj0, hj1, hj2⟩ := info_parts put_info
  have Hj := Lib.hid hj; clear hj
  have Hj0 := Lib.hid hj0; clear hj0
  have Hj1 := Lib.hid hj1; clear hj1
  have Hj2 := Lib.hid hj2; clear hj2
  have Hat := Lib.hid hat; clear hat
  have Hs := Lib.hid hs; clear hs
  have Hin := Lib.hid hin; clear hin
  have Hd := Lib.hid hd; clear hd
  have HqS := Lib.hid hqS; clear hqS
  clear h hyes
  obtain ⟨A, hA⟩ : ∃ A : Int, (if (Dsk.wr s.data.toList k n 0 d).down = true then 40 else 0) = A := ⟨_, rfl⟩
  rw [hA]
  have HA := Lib.hid hA; clear hA
  go_enter Tryz.func27, Tryz.ntmps27
  go_wp2_with fail
  refine Hin.out.mono ?_; rintro e w' ⟨rfl, rfl⟩
  go_wp2_with fail
  go_loopw [8] (fun c wr => ∃ i d' S', i ≤ n ∧ c = .int .i64 (i : Int) ∧ d'.down = false ∧ Dsk.wr s.data.toList k (n - i) i d' = Dsk.wr s.data.toList k n 0 d ∧ d'.n = d.n ∧ d'.ops + (n - i) ≤ 1099511627776 ∧ Turns S w wr ∧ (∀ j, S' j → S j ∨ w.heap.size ≤ j) ∧ RefAt S' q d' wr) (fun c _ => n - (intOf c).toNat)
  case atStart => exact ⟨0, d, S, by omega, rfl, Hd.out, rfl, rfl, by omega, Turns.refl S w, fun j h => .inl h, Hat.out⟩
  case round =>
    obtain ⟨i, d', S', hi, rfl, hdd, hwr, hn', hops', ht, hS', vB, vL, hr⟩ := hrel
    have c1 := hr.c1
    have c2 := hr.c2
    have c3' := hr.c3
    rw [hdd] at c3'
    have f3 := hr.free 3
    have hcnt := hr.cnt
    have hfu := hr.ok.fu
    have hqr := hr.lt q hr.hq
    have Hwr := Lib.hid hwr; clear hwr
    have Hn' := Lib.hid hn'; clear hn'
    have Hdd := Lib.hid hdd; clear hdd
    have Ht := Lib.hid ht; clear ht
    have HS' := Lib.hid hS'; clear hS'
    have Hr := Lib.hid hr; clear hr
    clear c3
    by_cases hlt : i < n
    · have hstep : Dsk.wr s.data.toList k (n - i) i d' = if d'.fuse = 0 then { d' with down := true } else Dsk.wr s.data.toList k (n - (i + 1)) (i + 1) (Dsk.put { d' with fuse := if 0 < d'.fuse then d'.fuse - 1 else d'.fuse } (k + i) (Dsk.sect s.data.toList i)) := by
        rw [show n - i = (n - (i + 1)) + 1 by omega]; rfl
      have Hstep := Lib.hid hstep; clear hstep
      by_cases hf : d'.fuse = 0
      · rw [hf, show max (0 : Int) (-1) = 0 from rfl] at c2
        have hE : Dsk.wr s.data.toList k n 0 d = { d' with down := true } := by rw [← Hwr.out, Hstep.out, if_pos hf]
        have hfin : RefIn S' q { d' with down := true } (wr.setCell ⟨q, 3, none⟩ (.bool true)) vB vL := by
          have := Hr.out.turn (w' := wr.setCell ⟨q, 3, none⟩ (.bool true)) ((Turns.refl (fun k => k = q) wr).set q 3 _ (fun _ => rfl)) d'.fuse true hfu (by rw [heap_setCell_same wr q 3 _ _ _ Hr.out.row]; rfl)
          exact this
        have Hfin := Lib.hid hfin; clear hfin
        have HE := Lib.hid hE; clear hE
        have Hf := Lib.hid hf; clear hf
        clear c1 hfu
        go_wp2_with fail
        go_ret
        refine ⟨by rw [← HA.out, HE.out]; rfl, Ht.out.set q 3 _ (fun _ => HqS.out), S', HS'.out, ?_⟩
        rw [HE.out]
        exact ⟨_, _, Hfin.out⟩
      · have hx0 : 0 ≤ (i : Int) * 64 := by omega
        have hx1 : (i : Int) * 64 ≤ ((i : Int) + 1) * 64 := by omega
        have hx2 : ((i : Int) + 1) * 64 ≤ (s.size : Int) := by have := Hs.out; omega
        have hx3 : i * 64 ≤ (i + 1) * 64 := by omega
        have hx4 : (i + 1) * 64 ≤ s.size := by have := Hs.out; omega
        -- both ways the fuse goes
        obtain ⟨f, hfv⟩ : ∃ f, f = if 0 < d'.fuse then d'.fuse - 1 else d'.fuse := ⟨_, rfl⟩
        have hfr : -9223372036854775808 ≤ f ∧ f ≤ 9223372036854775807 := by rw [hfv]; split <;> omega
        obtain ⟨lv, hlv⟩ : ∃ lv, lv = max d'.fuse (-1) := ⟨_, rfl⟩
        have hl1 : lv ≠ 0 := by rw [hlv]; omega
        have hl2 : max (lv - 1) (-1) = max f (-1) := by rw [hlv, hfv]; split <;> omega
        have hl3 : -1 ≤ lv ∧ lv ≤ 9223372036854775807 := by rw [hlv]; omega
        have hb0 : (lv == 0) = false := by rw [beq_eq_false_iff_ne]; exact hl1
        rw [← hlv] at c2
        rw [← hfv] at Hstep
        have Hf := Lib.hid hf; clear hf
        have Hfr := Lib.hid hfr; clear hfr
        have Hl2 := Lib.hid hl2; clear hl2
        have Hlv := Lib.hid hlv; clear hlv
        clear hl1 hfv hfu
        have C1 := Lib.hid c1; clear c1
        have hkn : k + i < d'.n := by have := Hn'.out; omega
        have hsz := sect_size s i n Hs.out hlt
        have hsb2 := sect_bytes s i
        obtain ⟨m, hm⟩ : ∃ m, m = d'.L.length := ⟨_, rfl⟩
        have hmb : m ≤ 1099511627776 := by omega
        have Hm := Lib.hid hm; clear hm
        go_wp2_with fail
        refine wp_region_mid_np 16 18 (by kernel_rfl) (by kernel_rfl) (fun u => u.cell? ⟨q, 1, none⟩ = some vL) C1.out ?_
        simp only [List.take_succ_cons, List.take_zero, List.drop_succ_cons, List.drop_zero, Nat.reduceSub]
        have hki : (k : Int) + (i : Int) ≤ 16384 := by omega
        refine take_move (.tmp 0) (.pointer (some ⟨q, 0, none⟩)) rfl rfl rfl ?_
        simp only [Act.put, List.setIfInBounds_toArray, List.set_cons_zero, List.set_cons_succ]
        refine take_move (.tmp 0) (.pointer (some ⟨q, 0, none⟩)) rfl rfl rfl ?_
        simp only [Act.put, List.setIfInBounds_toArray, List.set_cons_zero, List.set_cons_succ]
        refine take_nil (.tmp 41) ⟨q, 0, none⟩ rfl rfl rfl ?_
        simp only [Act.put, List.setIfInBounds_toArray, List.set_cons_zero, List.set_cons_succ]
        refine take_one (.pointer (some ⟨q, 1, none⟩)) rfl (fun u _ => by go_simp) ?_
        simp only [Act.put, List.setIfInBounds_toArray, List.set_cons_zero, List.set_cons_succ]
        refine take_load 113 (.tmp 43) ⟨q, 1, none⟩ vL rfl rfl rfl (fun u hu => load_puts _ _ _ _ hu) ?_
        simp only [Act.put, List.setIfInBounds_toArray, List.set_cons_zero, List.set_cons_succ]
        refine take_move (.tmp 1) (.int .i64 (k : Int)) rfl rfl rfl ?_
        simp only [Act.put, List.setIfInBounds_toArray, List.set_cons_zero, List.set_cons_succ]
        refine take_move (.tmp 8) (.int .i64 (i : Int)) rfl rfl rfl ?_
        simp only [Act.put, List.setIfInBounds_toArray, List.set_cons_zero, List.set_cons_succ]
        refine take_one (.int .i64 ((k : Int) + (i : Int))) rfl (fun u _ => by go_simp; exact IntWalk.i64_in _ (by omega)) ?_
        simp only [Act.put, List.setIfInBounds_toArray, List.set_cons_zero, List.set_cons_succ]
        refine take_move (.tmp 2) (.string s) rfl rfl rfl ?_
        simp only [Act.put, List.setIfInBounds_toArray, List.set_cons_zero, List.set_cons_succ]
        refine take_move (.tmp 8) (.int .i64 (i : Int)) rfl rfl rfl ?_
        simp only [Act.put, List.setIfInBounds_toArray, List.set_cons_zero, List.set_cons_succ]
        refine take_one (.int .i64 ((i : Int) * 64)) rfl (fun u _ => by go_simp; exact IntWalk.i64_in _ (by omega)) ?_
        simp only [Act.put, List.setIfInBounds_toArray, List.set_cons_zero, List.set_cons_succ]
        refine take_move (.tmp 8) (.int .i64 (i : Int)) rfl rfl rfl ?_
        simp only [Act.put, List.setIfInBounds_toArray, List.set_cons_zero, List.set_cons_succ]
        refine take_one (.int .i64 ((i : Int) + 1)) rfl (fun u _ => by go_simp; exact IntWalk.i64_in _ (by omega)) ?_
        simp only [Act.put, List.setIfInBounds_toArray, List.set_cons_zero, List.set_cons_succ]
        refine take_one (.int .i64 (((i : Int) + 1) * 64)) rfl (fun u _ => by go_simp; exact IntWalk.i64_in _ (by omega)) ?_
        simp only [Act.put, List.setIfInBounds_toArray, List.set_cons_zero, List.set_cons_succ]
        refine take_one (.string (s.extract (i * 64) ((i + 1) * 64))) rfl (fun u _ => by go_simp; rw [if_pos (by omega), if_pos (by omega), show ((i : Int) * 64).toNat = i * 64 by omega, show (((i : Int) + 1) * 64).toNat = (i + 1) * 64 by omega]) ?_
        simp only [Act.put, List.setIfInBounds_toArray, List.set_cons_zero, List.set_cons_succ]
        refine take_one (.agg #[.int .i64 ((k : Int) + (i : Int)), .string (s.extract (i * 64) ((i + 1) * 64))]) rfl (fun u _ => by go_simp) ?_
        simp only [Act.put, List.setIfInBounds_toArray, List.set_cons_zero, List.set_cons_succ]
        refine take_done ?_
        generalize hex : s.extract (i * 64) ((i + 1) * 64) = x at *
        have hxs : x = ⟨(Dsk.sect s.data.toList i).toArray⟩ := by rw [← ba_eta x, hsb2]
        have hxl : (Dsk.sect s.data.toList i).length = 64 := by rw [← hsb2, ba_len]; exact hsz
        refine mid_one (w' := wr.drew.alloc (.cells #[.int .i64 ((k : Int) + (i : Int)), .string x] 125)) (.slice (some ⟨wr.heap.size, 0, none⟩) 1 1) rfl ?_ ?_ ?_
        · exact run_slice_op 113 1 [(0, .tmp 55)] rfl (slice_put _ _ rfl rfl wr.drew)
        · rw [World.cell?_of_block (Below.heap_alloc wr.drew _ q hqr)]; exact C1.out
        have hb1 : Below wr.heap.size wr (wr.drew.alloc (.cells #[.int .i64 ((k : Int) + (i : Int)), .string x] 125)) := ((Below.refl _ wr).drew).alloc (Nat.le_refl _) _
        have hpc : (#[.int .i64 ((k : Int) + (i : Int)), .string x] : Array Value).toList = pcells (k + i, Dsk.sect s.data.toList i) := by rw [hxs]; rfl
        have hrL : wr.drew.ownsRow 0 125 2 vL m (puts d'.L) := by rw [Hm.out]; exact World.ownsRow.drew Hr.out.rL
        refine mid_wp rfl (wp_append_lies _ (.tmp 44) (.tmp 56) 113 rfl 0 125 j0 _ 2 24 Tryz.underlying113 Hj.out Hj0.out Hj1.out Hj2.out (by rfl) (by decide) vL m (puts d'.L) rfl (hrL.alloc _) ⟨wr.heap.size, 0, none⟩ 1 1 _ rfl rfl (World.news_of_block (cs := #[.int .i64 ((k : Int) + (i : Int)), .string x]) (heap_alloc_new wr.drew _)) (by intro u hu; simp at hu; rcases hu with rfl | rfl <;> rfl) (by decide) (by unfold maxLen; omega) (by omega) (Nat.zero_le _) (wr.heap.size + 1) (by simp) ?_)
        intro g cap w4 hown4 hg4 hat hgl
        rw [hpc] at hown4
        have hqg : vL.ownBlock ≠ some q := Hr.out.qL
        have e4 : w4.heap[q]? = wr.heap[q]? := by
          rw [hg4.block q (by simp; omega) (fun e => hqg e.symm)]
          exact Below.heap_alloc wr.drew _ q hqr
        have hrow4 : w4.heap[q]? = some (.cells (rcells d' vB vL) 115 (0, 0)) := by rw [e4]; exact Hr.out.row
        have q1 : w4.cell? ⟨q, 1, none⟩ = some vL := by rw [cell_of_row w4 q 1 _ _ _ hrow4]; rfl
        have g1 := row_free hrow4 1
        have row5 := heap_setCell_same w4 q 1 _ _ (.slice (some ⟨g, 0, none⟩) (m + 1) cap) hrow4
        have q2 : (w4.setCell ⟨q, 1, none⟩ (.slice (some ⟨g, 0, none⟩) (m + 1) cap)).cell? ⟨q, 2, none⟩ = some (.int .i64 lv) := by
          rw [cell_of_row _ q 2 _ _ _ row5, Hlv.out]; rfl
        have g2 := row_free row5 2
        refine ⟨q1, mid_list ?_⟩
        have hat' : vL.ownBlock = some g ∨ wr.heap.size ≤ g := by rcases hat with h | h; exact .inl h; exact .inr (by omega)
        have hfin := fun (lv' : Int) (hlv' : lv' = max f (-1)) => Hr.out.put_done (k + i) (Dsk.sect s.data.toList i) hkn hxl hb1 (by rw [← Hm.out]; exact hown4) hg4 hat' f lv' hlv' Hfr.out
        rw [← Hm.out] at hfin
        have Hfin := Lib.hid hfin; clear hfin
        clear hrow4 row5 hown4 hg4 hat hat' hgl hb1 hpc hrL e4 hqg hxs hxl hex hsz hsb2 hx0 hx1 hx2 hx3 hx4 hki c2
        go_wp2
        apply NoPanic.normal
        go_wp2
        all_goals
          go_roundw
          case rel =>
            have h1 := Hwr.out
            rw [Hstep.out, if_neg Hf.out] at h1
            obtain ⟨ht3, S3, hS3, hat3⟩ := Hfin.out _ (by have := Hl2.out; omega)
            refine ⟨i + 1, Dsk.put { d' with fuse := f } (k + i) (Dsk.sect s.data.toList i), S3, by omega, by go_num, Hdd.out, h1, Hn'.out, by simp only [Dsk.put]; omega, Ht.out.trans ht3 (fun j hj hj2 => ?_), fun j hj => ?_, hat3⟩
            · rcases HS'.out j hj2 with h | h
              · exact h
              · omega
            · rcases hS3 j hj with h | h
              · exact HS'.out j h
              · have := Ht.out.size; exact .inr (by omega)
          case measure => simp [intOf]; omega
    · obtain rfl : i = n := by omega
      have hE : Dsk.wr s.data.toList k i 0 d = d' := by rw [← Hwr.out, Nat.sub_self]; rfl
      have HE := Lib.hid hE; clear hE
      go_wp2_with fail
      go_ret
      rw [HE.out]
      exact ⟨by rw [← HA.out, HE.out, Hdd.out]; rfl, Ht.out, S', HS'.out, _, _, Hr.out⟩
end
end Go.Proofs.YtjmpagbjkehebaaGreat

/-
  Writing, of the disk and of the document's one, in one form; without the steps of a script.
-/
set_option linter.unusedVariables false
set_option maxRecDepth 100000
namespace Go.Proofs.YtjmpagbjkehebaaGreat
namespace Dsk
theorem wr_n (s : List UInt8) (k : Nat) : ∀ (m i : Nat) (d : St), (wr s k m i d).n = d.n
  | 0, _, _ => rfl
  | m + 1, i, d => by
    unfold wr
    split
    · rfl
    · rw [wr_n s k m]; rfl
theorem wr_ops (s : List UInt8) (k : Nat) : ∀ (m i : Nat) (d : St), (wr s k m i d).ops ≤ d.ops + m
  | 0, _, _ => Nat.le_refl _
  | m + 1, i, d => by
    unfold wr
    split
    · show d.ops ≤ _; omega
    · refine Nat.le_trans (wr_ops s k m _ _) ?_
      show d.ops + 1 + m ≤ _; omega
theorem write_n (d : St) (at_ : Int) (s : List UInt8) : (write d at_ s).1.n = d.n := by
  unfold write
  split
  · rfl
  · split
    · rfl
    · exact wr_n _ _ _ _ _
theorem write_ops (d : St) (at_ : Int) (s : List UInt8) : (write d at_ s).1.ops ≤ d.ops + s.length / 64 := by
  unfold write
  split
  · show d.ops ≤ _; omega
  · split
    · show d.ops ≤ _; omega
    · exact wr_ops _ _ _ _ _
theorem flush_n (d : St) : (flush d).1.n = d.n := by unfold flush; split <;> rfl
theorem flush_ops (d : St) : (flush d).1.ops = d.ops := by unfold flush; split <;> rfl
end Dsk
open Go.RowKit

section
variable {S : Nat → Prop} {p q : Nat} {d : Dsk.St} {w : World}
theorem write_all (h : DiskAt S p d w) (at_ : Int) (ha : I64 at_) (s : ByteArray) (hs : s.size ≤ 9223372036854775807) (hops : d.ops + s.size / 64 ≤ 1099511627776) :
    Calls Tryz.prog 26 #[.pointer (some ⟨p, 0, none⟩), .int .i64 at_, .string s] w fun e w' => e = .returned (.int .i64 (Dsk.write d at_ s.data.toList).2) ∧ Turns S w w' ∧ ∃ S', (∀ j, S' j → S j ∨ w.heap.size ≤ j) ∧ DiskAt S' p (Dsk.write d at_ s.data.toList).1 w' := by
  unfold Dsk.write
  by_cases hd : d.down = true
  · rw [if_pos hd]
    exact (write_down h hd at_ s hs).mono fun e w' ⟨h1, h2⟩ => ⟨h1, by rw [← h2]; exact Turns.refl _ _, S, fun j hj => .inl hj, by rw [← h2]; exact h⟩
  · rw [if_neg hd, ba_len]
    have hd : d.down = false := by simpa using hd
    by_cases hb : s.size % 64 ≠ 0 ∨ ¬ (0 ≤ at_ ∧ at_ + (s.size / 64 : Nat) ≤ (d.n : Int))
    · rw [if_pos hb]
      exact (write_bad h hd at_ ha s hs hb).mono fun e w' ⟨h1, h2⟩ => ⟨h1, by rw [← h2]; exact Turns.refl _ _, S, fun j hj => .inl hj, by rw [← h2]; exact h⟩
    · rw [if_neg hb]
      have h1 := write_good h hd at_.toNat s (s.size / 64) (by omega) (by omega) hops
      rw [show ((at_.toNat : Nat) : Int) = at_ by omega] at h1
      exact h1
theorem refWrite_all (h : RefAt S q d w) (at_ : Int) (ha : I64 at_) (s : ByteArray) (hs : s.size ≤ 9223372036854775807) (hops : d.ops + s.size / 64 ≤ 1099511627776) :
    Calls Tryz.prog 27 #[.pointer (some ⟨q, 0, none⟩), .int .i64 at_, .string s] w fun e w' => e = .returned (.int .i64 (Dsk.write d at_ s.data.toList).2) ∧ Turns S w w' ∧ ∃ S', (∀ j, S' j → S j ∨ w.heap.size ≤ j) ∧ RefAt S' q (Dsk.write d at_ s.data.toList).1 w' := by
  unfold Dsk.write
  by_cases hd : d.down = true
  · rw [if_pos hd]
    exact (refWrite_down h hd at_ s hs).mono fun e w' ⟨h1, h2⟩ => ⟨h1, by rw [← h2]; exact Turns.refl _ _, S, fun j hj => .inl hj, by rw [← h2]; exact h⟩
  · rw [if_neg hd, ba_len]
    have hd : d.down = false := by simpa using hd
    by_cases hb : s.size % 64 ≠ 0 ∨ ¬ (0 ≤ at_ ∧ at_ + (s.size / 64 : Nat) ≤ (d.n : Int))
    · rw [if_pos hb]
      exact (refWrite_bad h hd at_ ha s hs hb).mono fun e w' ⟨h1, h2⟩ => ⟨h1, by rw [← h2]; exact Turns.refl _ _, S, fun j hj => .inl hj, by rw [← h2]; exact h⟩
    · rw [if_neg hb]
      have h1 := refWrite_good h hd at_.toNat s (s.size / 64) (by omega) (by omega) hops
      rw [show ((at_.toNat : Nat) : Int) = at_ by omega] at h1
      exact h1
end
/-- two that have nothing in common still have nothing in common behind one's turn -/
theorem apart_on {S T S' : Nat → Prop} {w : World} (h : ∀ j, S j → ¬ T j) (hT : ∀ j, T j → j < w.heap.size) (hS' : ∀ j, S' j → S j ∨ w.heap.size ≤ j) : ∀ j, S' j → ¬ T j := fun j hj ht => by
  rcases hS' j hj with hs | hs
  · exact h j hs ht
  · have := hT j ht; omega
end Go.Proofs.YtjmpagbjkehebaaGreat
