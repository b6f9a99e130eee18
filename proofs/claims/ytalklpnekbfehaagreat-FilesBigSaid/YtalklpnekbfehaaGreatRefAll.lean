/- Put together of: DskCopy RefMem RefSmall RefNow RefRead RefNew RefCrash RefCopy RefWrite DskBoth0 -/
import Derived.Test.YtalklpnekbfehaaGreatDskAll
import Derived.Shelf.SlMaps.Clone
import Derived.Laws.OwnMore
import Derived.Test.YtalklpnekbfehaaGreatDskFill
import Derived.StillTailTactics
import Derived.Test.YtalklpnekbfehaaGreatGoAll
set_option maxRecDepth 100000
/-
  Copy: an equal disk, with nothing shared.
-/
set_option linter.unusedVariables false
namespace Go.Proofs.YtalklpnekbfehaaGreat
open Go.RowKit

theorem owns_clone {R : Value → Option (DataW Unit × List MemPlace)} {k : TypeId} {b n : Nat} {D : DataW Unit} {w w' : World} {es : Array MapEntry} {clock c : Nat} (h : w.ownsMap Tryz.prog k R b n D) (hb : w.heap[b]? = some (.map es clock)) (hc : w'.heap[c]? = some (.map es clock)) : w'.ownsMap Tryz.prog k R c n D := by
  obtain ⟨es2, clock2, hb2, F, hs, hD⟩ := h
  rw [hb] at hb2
  cases hb2
  exact ⟨es, clock, hc, F, hs, hD⟩

theorem ownsRow_base {w : World} {B : Nat} {e : TypeId} {size : Nat} {v : Value} {n : Nat} {xs : List Value} (h : w.ownsRow B e size v n xs) : w.ownsRow 0 e size v n xs := by
  obtain ⟨h1, h2⟩ := h
  refine ⟨h1, ?_⟩
  rcases h2 with h2 | ⟨g, cap, cur, hv, hb, hr⟩
  · exact .inl h2
  · exact .inr ⟨g, cap, cur, hv, Nat.zero_le _, hr⟩

theorem lcells_one (L : List (Nat × List UInt8)) : ∀ u ∈ lcells L, u.oneCell' = true := by
  intro u hu
  obtain ⟨x, _, hx⟩ := List.mem_flatMap.1 hu
  exact wcells_one x u hx

theorem wpList_append_at {P : Program} (w : World) {ops : Array Oper} {rest : List Oper} {o : Oper} {a : Act} {Q : Exit → Act → World → Prop} (hgd : o.guard = none) (s x : Operand) (t : TypeId)
    (ho : o.op = .call { callee := .builtin .append, args := #[s, x], argTypes := #[t, t] })
    (base : Nat) (e : TypeId) (i : TypeInfo) (z : Value) (size bytes : Nat) (ht : P.underlying t = some (.slice e)) (hi : P.info? e = some i) (hz : i.zero = some z)
    (hsize : i.size = size) (hby : i.bytes = bytes) (hzs : z.cells.size = size) (hsz : 0 < size)
    (v : Value) (n : Nat) (xs : List Value) (hs : a.eval s = v) (hown : w.ownsRow base e size v n xs)
    (ad : Addr) (m c : Nat) (news : List Value) (hx : a.eval x = .slice (some ad) m c) (hl : news.length = m * size) (hnews : ∀ j u, news[j]? = some u → w.cell? (ad.add j) = some u) (h1 : ∀ u ∈ news, u.oneCell' = true)
    (h63 : n + m ≤ maxLen) (hbytes : (n + m) * bytes ≤ 140737488355328) (hbase : base ≤ w.heap.size)
    (h : ∀ v' w', w'.ownsRow base e size v' (n + m) (xs ++ news) → w.grownBy w' v.ownBlock → (v'.ownBlock = v.ownBlock ∨ v'.ownBlock = some w.heap.size) → wpList P ops Q rest (a.put o.dst v') w') : wpList P ops Q (o :: rest) a w := by
  refine wpList_plain hgd fun K hK => ?_
  obtain ⟨v', w', hr, h2, h3, _, h5⟩ := run_append_own_at (P := P) w base t o.type e i z size bytes ht hi hz hsize hby hzs hsz v n xs hown ad m c news hl hnews h1 h63 hbytes hbase
  unfold Oper.wp execOp
  simp only [ho, resolve, invoke, builtin, Sem.run_bind, Sem.run_pure, Result.andThen_ok, List.map_toArray, List.map_cons, List.map_nil, hs, hx, hr]
  exact hK _ _ (h v' w' h2 h3 h5)

theorem DiskIn.one {S : Nat → Prop} {p : Nat} {d : Dsk.St} {w : World} {bF bM : Nat} {v : Value} {nf : Nat} {DF : DataW Unit} (h : DiskIn S p d w bF bM v nf DF) : (dcells d bF v bM).all (·.oneCell') = true := by
  rcases h.vlen with ⟨_, rfl⟩ | ⟨g, cap, rfl, _⟩ <;> simp [dcells, Value.oneCell']
theorem disk_info : (Tryz.prog.info? 93).map (·.size) = some 6 := by kernel_rfl
theorem dcells_ld (d : Dsk.St) (bF : Nat) (v : Value) (bM : Nat) : (#[.int .i64 (d.n : Int), .map (some bF), v, .map (some bM), .int .i64 d.fuse, .bool d.down] : Array Value) = dcells d bF v bM := rfl

end Go.Proofs.YtalklpnekbfehaaGreat

/-
  How the document's disk lies in memory: its own cells, the row of its sectors, the row of its loose writes.
-/
set_option linter.unusedVariables false
namespace Go.Proofs.YtalklpnekbfehaaGreat
open Go.RowKit

def secv (s : List UInt8) : Value := .string ⟨s.toArray⟩
def secs (f : Nat → Dsk.Sec) (n : Nat) : List Value := (List.range n).map fun k => secv (f k)
def pcells (x : Nat × List UInt8) : List Value := [.int .i64 (x.1 : Int), secv x.2]
def puts (L : List (Nat × List UInt8)) : List Value := L.flatMap pcells
theorem secs_length (f : Nat → Dsk.Sec) (n : Nat) : (secs f n).length = n := by simp [secs]
theorem secs_get (f : Nat → Dsk.Sec) {n k : Nat} (h : k < n) : (secs f n)[k]? = some (secv (f k)) := by simp [secs, h]
theorem secs_snoc (f : Nat → Dsk.Sec) (n : Nat) : secs f (n + 1) = secs f n ++ [secv (f n)] := by simp [secs, List.range_succ]
theorem secs_set (f : Nat → Dsk.Sec) (n k : Nat) (s : Dsk.Sec) : (secs f n).set k (secv s) = secs (Dsk.upd f k s) n := by
  apply List.ext_getElem?
  intro j
  rw [List.getElem?_set]
  by_cases hj : j < n
  · rw [secs_get _ hj, secs_get _ hj]
    by_cases e : k = j
    · subst e; rw [if_pos rfl, secs_length, if_pos hj, Dsk.upd_same]
    · rw [if_neg e, Dsk.upd_other (fun h => e h.symm)]
  · rw [List.getElem?_eq_none (by rw [secs_length]; omega), List.getElem?_eq_none (by rw [secs_length]; omega)]
    split
    · split
      · rename_i h; rw [secs_length] at h; omega
      · rfl
    · rfl
theorem secs_one (f : Nat → Dsk.Sec) (n : Nat) : ∀ u ∈ secs f n, u.oneCell' = true := by
  intro u hu
  obtain ⟨k, _, rfl⟩ := List.mem_map.1 hu
  rfl
theorem puts_length (L : List (Nat × List UInt8)) : (puts L).length = L.length * 2 := by
  induction L with
  | nil => rfl
  | cons x r ih =>
    have : puts (x :: r) = pcells x ++ puts r := by simp [puts]
    rw [this, List.length_append, ih]; simp [pcells]; omega
theorem puts_snoc (L : List (Nat × List UInt8)) (x : Nat × List UInt8) : puts (L ++ [x]) = puts L ++ pcells x := by simp [puts]
theorem puts_one (L : List (Nat × List UInt8)) : ∀ u ∈ puts L, u.oneCell' = true := by
  intro u hu
  obtain ⟨x, _, hx⟩ := List.mem_flatMap.1 hu
  simp only [pcells, List.mem_cons, List.not_mem_nil, or_false] at hx
  rcases hx with rfl | rfl <;> rfl
theorem puts_get {L : List (Nat × List UInt8)} {i : Nat} {x : Nat × List UInt8} (h : L[i]? = some x) : (puts L)[2 * i]? = some (.int .i64 (x.1 : Int)) ∧ (puts L)[2 * i + 1]? = some (secv x.2) := by
  induction L generalizing i with
  | nil => simp at h
  | cons y r ih =>
    have e : puts (y :: r) = pcells y ++ puts r := by simp [puts]
    rw [e]
    cases i with
    | zero => simp at h; subst h; exact ⟨rfl, rfl⟩
    | succ i =>
      have := ih (i := i) (by simpa using h)
      rw [show 2 * (i + 1) = 2 * i + 2 by omega]
      simpa [pcells] using this

def rcells (d : Dsk.St) (vB vL : Value) : Array Value := #[vB, vL, .int .i64 (max d.fuse (-1)), .bool d.down]

variable {S : Nat → Prop} {q : Nat} {d : Dsk.St} {w : World} {vB vL : Value}
theorem add_at (g j : Nat) : (⟨g, 0, none⟩ : Addr).add j = ⟨g, j, none⟩ := by unfold Addr.add; split <;> simp_all
theorem ownsRow_cell {e : TypeId} {size n g cap base : Nat} {xs : List Value} (h : w.ownsRow base e size (.slice (some ⟨g, 0, none⟩) n cap) n xs) {j : Nat} {u : Value} (hu : xs[j]? = some u) : w.cell? ⟨g, j, none⟩ = some u := by
  have := World.ownsRow.cells h rfl j u hu
  rwa [add_at] at this
end Go.Proofs.YtalklpnekbfehaaGreat

/-
  The document's disk, short ones: May, zero, in, Fuse.
-/
set_option linter.unusedVariables false
namespace Go.Proofs.YtalklpnekbfehaaGreat
open Go.RowKit

theorem may_any (n : Int) (w : World) : Calls Tryz.prog 8 #[.int .i64 n] w fun e w' => e = .returned (.bool (decide (1 ≤ n ∧ n ≤ 16384))) ∧ w = w' := by
  by_cases h1 : 1 ≤ n
  · have e1 : decide (1 ≤ n) = true := decide_eq_true h1
    have e : decide (1 ≤ n ∧ n ≤ 16384) = decide (n ≤ 16384) := by rw [decide_eq_decide]; omega
    rw [e]
    clear e
    go_enter Tryz.func8, Tryz.ntmps8
    go_wp2
    go_ret
    exact ⟨rfl, rfl⟩
  · have e1 : decide (1 ≤ n) = false := decide_eq_false h1
    have e : decide (1 ≤ n ∧ n ≤ 16384) = false := by rw [decide_eq_false_iff_not]; omega
    rw [e]
    clear e
    go_enter Tryz.func8, Tryz.ntmps8
    go_wp2
    go_ret
    exact ⟨rfl, rfl⟩

section
variable {S : Nat → Prop} {q : Nat} {d : Dsk.St} {w : World}
end
end Go.Proofs.YtalklpnekbfehaaGreat

/-
  The document's disk: what is read of all sectors.
-/
set_option linter.unusedVariables false
namespace Go.Proofs.YtalklpnekbfehaaGreat
open Go.RowKit

theorem str_info : (Tryz.prog.info? 9).map (fun i => (i.zero, i.size, i.bytes)) = some (some (.string .empty), 1, 16) := by kernel_rfl
theorem lay_take {L : List (Nat × Dsk.Sec)} {k : Nat} {x : Nat × Dsk.Sec} (h : L[k]? = some x) (f : Nat → Dsk.Sec) : Dsk.lay (L.take (k + 1)) f = Dsk.upd (Dsk.lay (L.take k) f) x.1 x.2 := by
  rw [List.take_add_one, h, Option.toList_some, Dsk.lay_snoc]

end Go.Proofs.YtalklpnekbfehaaGreat

/-
  Reading and flushing: of the disk and of the document's one, in one form.
-/
set_option linter.unusedVariables false
namespace Go.Proofs.YtalklpnekbfehaaGreat
namespace Dsk
/-- what Read answers -/
def read (d : St) (at_ n : Int) : List UInt8 × Int := if d.down = true then ([], 40) else if 0 ≤ at_ ∧ 0 ≤ n ∧ at_ + n ≤ (d.n : Int) then (rd d at_.toNat n.toNat, 0) else ([], 2)
/-- what Flush does -/
def flush (d : St) : St × Int := if d.down = true then (d, 40) else (settle d [1], 0)
theorem settle_one (d : St) : settle d [1] = { d with fl := now d, L := [] } := by unfold settle; rw [kept_one]; rfl
end Dsk
open Go.RowKit

section
variable {S : Nat → Prop} {p q : Nat} {d : Dsk.St} {w : World}
theorem read_all (h : DiskAt S p d w) (at_ n : Int) (ha : -9223372036854775808 ≤ at_ ∧ at_ ≤ 9223372036854775807) (hn : -9223372036854775808 ≤ n ∧ n ≤ 9223372036854775807) :
    Calls Tryz.prog 66 #[.pointer (some ⟨p, 0, none⟩), .int .i64 at_, .int .i64 n] w fun e w' => e = .returned (.tuple #[.string ⟨(Dsk.read d at_ n).1.toArray⟩, .int .i64 (Dsk.read d at_ n).2]) ∧ Below w.heap.size w w' := by
  unfold Dsk.read
  by_cases hd : d.down = true
  · rw [if_pos hd]
    exact (read_down h hd at_ n).mono fun e w' ⟨h1, h2⟩ => ⟨h1, by rw [h2]; exact Below.refl _ _⟩
  · rw [if_neg hd]
    have hd : d.down = false := by simpa using hd
    by_cases hb : 0 ≤ at_ ∧ 0 ≤ n ∧ at_ + n ≤ (d.n : Int)
    · rw [if_pos hb]
      have h1 := read_good h hd at_.toNat n.toNat (by omega)
      rw [show ((at_.toNat : Nat) : Int) = at_ by omega, show ((n.toNat : Nat) : Int) = n by omega] at h1
      exact h1
    · rw [if_neg hb]
      exact (read_bad h hd at_ n ha hn hb).mono fun e w' ⟨h1, h2⟩ => ⟨h1, by rw [h2]; exact Below.refl _ _⟩
theorem flush_all (h : DiskAt S p d w) (hops : d.ops ≤ 1099511627776) : Calls Tryz.prog 92 #[.pointer (some ⟨p, 0, none⟩)] w fun e w' => e = .returned (.int .i64 (Dsk.flush d).2) ∧ Turns S w w' ∧ ∃ S', (∀ j, S' j → S j ∨ w.heap.size ≤ j) ∧ DiskAt S' p (Dsk.flush d).1 w' := by
  unfold Dsk.flush
  by_cases hd : d.down = true
  · rw [if_pos hd]
    exact (flush_down h hd).mono fun e w' ⟨h1, h2⟩ => ⟨h1, by rw [← h2]; exact Turns.refl _ _, S, fun j hj => .inl hj, by rw [← h2]; exact h⟩
  · rw [if_neg hd]
    exact flush_any h (by simpa using hd) hops

end
end Go.Proofs.YtalklpnekbfehaaGreat

/-
  The document's disk: New.
-/
set_option linter.unusedVariables false
namespace Go.Proofs.YtalklpnekbfehaaGreat
open Go.RowKit

theorem slice_str (s : ByteArray) (w : World) : (Instr.buildSlice 29 1 #[(0, .string s)]).run Tryz.prog w = .ok (.slice (some ⟨w.heap.size, 0, none⟩) 1 1) (w.alloc (.cells #[.string s] 9)) := by
  obtain ⟨i, hi, h0, h1, h2⟩ := info_parts str_info
  have hf := Great.fill_whole (s := 1) (by omega) [.string s] ((Array.range (1 * 1)).map ((Value.string .empty).cells[· % (Value.string .empty).cells.size]!)) (fun v hv => by simp at hv; subst hv; rfl) (by simp)
  refine run_buildSlice w 29 9 1 _ #[.string s] i _ Tryz.underlying29 hi h0 (by rw [h1]; decide) (by rw [h1]; decide) ?_
  rw [h1]
  have e : ([Value.string s].flatMap fun v => v.cells.toList).toArray = #[.string s] := by simp [Value.cells]
  rw [e] at hf
  exact hf
theorem load_strs (p j : Nat) (v : Value) (u : World) (h : u.cell? ⟨p, j, none⟩ = some v) : (Instr.loadAt 29 (.pointer (some ⟨p, j, none⟩))).run Tryz.prog u = .ok v u := by
  go_simp

theorem zers_snoc (n : Nat) : secs (fun _ => Dsk.zer) (n + 1) = secs (fun _ => Dsk.zer) n ++ [secv Dsk.zer] := secs_snoc _ n

end Go.Proofs.YtalklpnekbfehaaGreat

/-
  The document's disk: Crash.
-/
set_option linter.unusedVariables false
namespace Go.Proofs.YtalklpnekbfehaaGreat
open Go.RowKit

theorem crash_eq (d : Dsk.St) (keep : List UInt8) : Dsk.crash d keep = { ({ d with fl := Dsk.lay (Dsk.kept keep d.L) d.fl, L := [] } : Dsk.St) with fuse := -1, down := false } := rfl

section
variable {S : Nat → Prop} {q : Nat} {d : Dsk.St} {w : World}
end
end Go.Proofs.YtalklpnekbfehaaGreat

/-
  The document's disk: Copy.
-/
set_option linter.unusedVariables false
namespace Go.Proofs.YtalklpnekbfehaaGreat
open Go.RowKit

theorem load_int (p j : Nat) (v : Value) (u : World) (h : u.cell? ⟨p, j, none⟩ = some v) : (Instr.loadAt 3 (.pointer (some ⟨p, j, none⟩))).run Tryz.prog u = .ok v u := by
  go_simp
theorem load_bool (p j : Nat) (v : Value) (u : World) (h : u.cell? ⟨p, j, none⟩ = some v) : (Instr.loadAt 4 (.pointer (some ⟨p, j, none⟩))).run Tryz.prog u = .ok v u := by
  go_simp

end Go.Proofs.YtalklpnekbfehaaGreat

/-
  The document's disk: Write.
-/
set_option linter.unusedVariables false
namespace Go.Proofs.YtalklpnekbfehaaGreat
open Go.RowKit

section
variable {S : Nat → Prop} {q : Nat} {d : Dsk.St} {w : World}
end
end Go.Proofs.YtalklpnekbfehaaGreat

/-
  Writing, of the disk and of the document's one, in one form; without the steps of a script.
-/
set_option linter.unusedVariables false
set_option maxRecDepth 100000
namespace Go.Proofs.YtalklpnekbfehaaGreat
namespace Dsk
theorem wr_n (s : List UInt8) (k : Nat) : ∀ (m i : Nat) (d : St), (wr s k m i d).n = d.n
  | 0, _, _ => rfl
  | m + 1, i, d => by
    unfold wr
    split
    · rfl
    · rw [wr_n s k m]; rfl
theorem wr_ops (s : List UInt8) (k : Nat) : ∀ (m i : Nat) (d : St), (wr s k m i d).ops ≤ d.ops + m
  | 0, _, _ => Nat.le_refl _
  | m + 1, i, d => by
    unfold wr
    split
    · show d.ops ≤ _; omega
    · refine Nat.le_trans (wr_ops s k m _ _) ?_
      show d.ops + 1 + m ≤ _; omega
theorem write_n (d : St) (at_ : Int) (s : List UInt8) : (write d at_ s).1.n = d.n := by
  unfold write
  split
  · rfl
  · split
    · rfl
    · exact wr_n _ _ _ _ _
theorem write_ops (d : St) (at_ : Int) (s : List UInt8) : (write d at_ s).1.ops ≤ d.ops + s.length / 64 := by
  unfold write
  split
  · show d.ops ≤ _; omega
  · split
    · show d.ops ≤ _; omega
    · exact wr_ops _ _ _ _ _
theorem flush_n (d : St) : (flush d).1.n = d.n := by unfold flush; split <;> rfl
theorem flush_ops (d : St) : (flush d).1.ops = d.ops := by unfold flush; split <;> rfl
end Dsk
open Go.RowKit

section
variable {S : Nat → Prop} {p q : Nat} {d : Dsk.St} {w : World}
theorem write_all (h : DiskAt S p d w) (at_ : Int) (ha : I64 at_) (s : ByteArray) (hs : s.size ≤ 9223372036854775807) (hops : d.ops + s.size / 64 ≤ 1099511627776) :
    Calls Tryz.prog 89 #[.pointer (some ⟨p, 0, none⟩), .int .i64 at_, .string s] w fun e w' => e = .returned (.int .i64 (Dsk.write d at_ s.data.toList).2) ∧ Turns S w w' ∧ ∃ S', (∀ j, S' j → S j ∨ w.heap.size ≤ j) ∧ DiskAt S' p (Dsk.write d at_ s.data.toList).1 w' := by
  unfold Dsk.write
  by_cases hd : d.down = true
  · rw [if_pos hd]
    exact (write_down h hd at_ s hs).mono fun e w' ⟨h1, h2⟩ => ⟨h1, by rw [← h2]; exact Turns.refl _ _, S, fun j hj => .inl hj, by rw [← h2]; exact h⟩
  · rw [if_neg hd, ba_len]
    have hd : d.down = false := by simpa using hd
    by_cases hb : s.size % 64 ≠ 0 ∨ ¬ (0 ≤ at_ ∧ at_ + (s.size / 64 : Nat) ≤ (d.n : Int))
    · rw [if_pos hb]
      exact (write_bad h hd at_ ha s hs hb).mono fun e w' ⟨h1, h2⟩ => ⟨h1, by rw [← h2]; exact Turns.refl _ _, S, fun j hj => .inl hj, by rw [← h2]; exact h⟩
    · rw [if_neg hb]
      have h1 := write_good h hd at_.toNat s (s.size / 64) (by omega) (by omega) hops
      rw [show ((at_.toNat : Nat) : Int) = at_ by omega] at h1
      exact h1
end
/-- two that have nothing in common still have nothing in common behind one's turn -/
theorem apart_on {S T S' : Nat → Prop} {w : World} (h : ∀ j, S j → ¬ T j) (hT : ∀ j, T j → j < w.heap.size) (hS' : ∀ j, S' j → S j ∨ w.heap.size ≤ j) : ∀ j, S' j → ¬ T j := fun j hj ht => by
  rcases hS' j hj with hs | hs
  · exact h j hs ht
  · have := hT j ht; omega
end Go.Proofs.YtalklpnekbfehaaGreat
