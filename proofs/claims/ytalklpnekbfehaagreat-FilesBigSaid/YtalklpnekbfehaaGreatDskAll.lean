/- Put together of: DskPure DskMem DskSmall DskNew DskGet DskPut DskWrite DskRead DskIter DskSettle DskCrash -/
import Derived.Maps.Views
import Derived.Maps.Own
import Derived.Test.YtalklpnekbfehaaGreatGoAll
import Derived.Maps.OwnSet
import Derived.Test.YtalklpnekbfehaaGreatRows
import Derived.StillTailTactics
import Derived.Outline
import Derived.WalkMore
import Derived.Carry
import Derived.Deep.MidRow
import Derived.Deep.WholeRow
import Derived.Maps.OwnOps
import Derived.Great.BuildSlice
import Derived.Deep.AppendLies
import Derived.Deep.RegionLaw
import Derived.OwnWalk
import Derived.Deep.LoopGhost
import Derived.Test.YtalklpnekbfehaaGreatShelf
import Derived.Shelf.Strings.Builder1
import Derived.Shelf.Strings.Builder2
import Derived.Deep.RegionHeld3
import Derived.OwnWalkIn
import Derived.TacticsInMore
import Derived.LoopNIn
import Derived.LoopIn
import Derived.Shelf.Abstract
import Derived.Shelf.RegionOpen
set_option maxRecDepth 100000
/-
  Plain mathematics of a disk of sectors: what is read of it behind a row of loose writes, which of them a crash keeps; how the row of loose writes is found again by the last one of each sector.
-/
set_option linter.unusedVariables false
namespace Go.Proofs.YtalklpnekbfehaaGreat
namespace Dsk
open Go

theorem snocInd {α : Type} {p : List α → Prop} (h0 : p []) (h1 : ∀ l x, p l → p (l ++ [x])) (l : List α) : p l := by
  have : ∀ n (l : List α), l.length = n → p l := fun n => by
    induction n with
    | zero => intro l hl; rw [List.eq_nil_of_length_eq_zero hl]; exact h0
    | succ n ih =>
      intro l hl
      have hne : l ≠ [] := fun e => by rw [e] at hl; simp at hl
      rw [← List.dropLast_concat_getLast hne]
      exact h1 _ _ (ih _ (by simp [hl]))
  exact this _ l rfl

abbrev Sec := List UInt8
def zer : Sec := List.replicate 64 0
theorem zer_length : zer.length = 64 := List.length_replicate

def upd (f : Nat → Sec) (k : Nat) (s : Sec) : Nat → Sec := fun j => if j = k then s else f j
theorem upd_same (f : Nat → Sec) (k : Nat) (s : Sec) : upd f k s k = s := if_pos rfl
theorem upd_other {f : Nat → Sec} {k j : Nat} {s : Sec} (h : j ≠ k) : upd f k s j = f j := if_neg h
/-- the writes, one behind the other, laid over what was there -/
def lay : List (Nat × Sec) → (Nat → Sec) → (Nat → Sec)
  | [], f => f
  | x :: r, f => lay r (upd f x.1 x.2)
theorem lay_append (a b : List (Nat × Sec)) (f : Nat → Sec) : lay (a ++ b) f = lay b (lay a f) := by
  induction a generalizing f with
  | nil => rfl
  | cons x r ih => exact ih _
theorem lay_snoc (a : List (Nat × Sec)) (x : Nat × Sec) (f : Nat → Sec) : lay (a ++ [x]) f = upd (lay a f) x.1 x.2 := lay_append a [x] f

/-- which byte of what a crash is told speaks of the write with this index -/
def odd (keep : List UInt8) (i : Nat) : Bool := (keep.getD (i % keep.length) 0).toNat % 2 == 1
/-- the writes that a crash keeps, the first one's index being i -/
def keptF (keep : List UInt8) : Nat → List (Nat × Sec) → List (Nat × Sec)
  | _, [] => []
  | i, x :: r => if odd keep i then x :: keptF keep (i + 1) r else keptF keep (i + 1) r
def kept (keep : List UInt8) (L : List (Nat × Sec)) : List (Nat × Sec) := if keep = [] then [] else keptF keep 0 L
theorem keptF_append (keep : List UInt8) (i : Nat) (a b : List (Nat × Sec)) : keptF keep i (a ++ b) = keptF keep i a ++ keptF keep (i + a.length) b := by
  induction a generalizing i with
  | nil => simp [keptF]
  | cons x r ih =>
    simp only [List.cons_append, keptF, List.length_cons, ih, show i + 1 + r.length = i + (r.length + 1) by omega]
    split <;> simp
theorem keptF_snoc (keep : List UInt8) (a : List (Nat × Sec)) (x : Nat × Sec) : keptF keep 0 (a ++ [x]) = keptF keep 0 a ++ (if odd keep a.length then [x] else []) := by
  rw [keptF_append]; simp only [keptF, Nat.zero_add]
theorem keptF_mem {keep : List UInt8} {L : List (Nat × Sec)} {i : Nat} {x : Nat × Sec} (h : x ∈ keptF keep i L) : x ∈ L := by
  induction L generalizing i with
  | nil => simp [keptF] at h
  | cons y r ih =>
    simp only [keptF] at h
    split at h
    · rcases List.mem_cons.1 h with rfl | h
      · exact List.mem_cons_self
      · exact List.mem_cons_of_mem _ (ih h)
    · exact List.mem_cons_of_mem _ (ih h)
theorem keptF_le (keep : List UInt8) (L : List (Nat × Sec)) (i : Nat) : (keptF keep i L).length ≤ L.length := by
  induction L generalizing i with
  | nil => simp [keptF]
  | cons y r ih => simp only [keptF]; split <;> simp only [List.length_cons] <;> have := ih (i + 1) <;> omega
theorem odd_one (i : Nat) : odd [1] i = true := by simp [odd, Nat.mod_one]
theorem keptF_one (L : List (Nat × Sec)) (i : Nat) : keptF [1] i L = L := by
  induction L generalizing i with
  | nil => rfl
  | cons y r ih => simp [keptF, odd_one, ih]
theorem kept_one (L : List (Nat × Sec)) : kept [1] L = L := by simp [kept, keptF_one]

/-- a disk: how many sectors, what was flushed, the loose writes, the fuse (none, if negative), whether it has failed; at most how many writes there were -/
structure St where
  n : Nat
  fl : Nat → Sec
  L : List (Nat × Sec)
  fuse : Int
  down : Bool
  ops : Nat
structure St.Ok (d : St) : Prop where
  lo : 1 ≤ d.n
  hi : d.n ≤ 16384
  fl : ∀ k, (d.fl k).length = 64
  at_ : ∀ x ∈ d.L, x.1 < d.n
  sz : ∀ x ∈ d.L, x.2.length = 64
  fu : -9223372036854775808 ≤ d.fuse ∧ d.fuse ≤ 9223372036854775807
def new (n : Nat) : St := ⟨n, fun _ => zer, [], -1, false, 0⟩
theorem new_ok {n : Nat} (h : 1 ≤ n) (h2 : n ≤ 16384) : (new n).Ok := ⟨h, h2, fun _ => zer_length, fun _ h => by simp [new] at h, fun _ h => by simp [new] at h, by simp [new]⟩
/-- what is read of a sector -/
def now (d : St) : Nat → Sec := lay d.L d.fl
theorem lay_length {L : List (Nat × Sec)} {f : Nat → Sec} (hf : ∀ k, (f k).length = 64) (hL : ∀ x ∈ L, x.2.length = 64) : ∀ k, (lay L f k).length = 64 := by
  induction L generalizing f with
  | nil => exact hf
  | cons x r ih =>
    refine ih (fun k => ?_) fun y hy => hL y (List.mem_cons_of_mem _ hy)
    unfold upd
    split
    · exact hL x List.mem_cons_self
    · exact hf k
theorem now_length {d : St} (h : d.Ok) (k : Nat) : (now d k).length = 64 := lay_length h.fl h.sz k

def put (d : St) (k : Nat) (s : Sec) : St := { d with L := d.L ++ [(k, s)], ops := d.ops + 1 }
theorem put_ok {d : St} (h : d.Ok) {k : Nat} {s : Sec} (hk : k < d.n) (hs : s.length = 64) : (put d k s).Ok :=
  ⟨h.lo, h.hi, h.fl, fun x hx => by
    rcases List.mem_append.1 hx with hx | hx
    · exact h.at_ x hx
    · simp at hx; subst hx; exact hk, fun x hx => by
    rcases List.mem_append.1 hx with hx | hx
    · exact h.sz x hx
    · simp at hx; subst hx; exact hs, h.fu⟩
theorem now_put (d : St) (k : Nat) (s : Sec) : now (put d k s) = upd (now d) k s := lay_snoc _ _ _

/-- what a crash, or a flush, leaves -/
def settle (d : St) (keep : List UInt8) : St := { d with fl := lay (kept keep d.L) d.fl, L := [] }
theorem settle_ok {d : St} (h : d.Ok) (keep : List UInt8) : (settle d keep).Ok :=
  ⟨h.lo, h.hi, lay_length h.fl (fun x hx => by
    unfold kept at hx
    split at hx
    · simp at hx
    · exact h.sz x (keptF_mem hx)), fun _ hx => by simp [settle] at hx, fun _ hx => by simp [settle] at hx, h.fu⟩

/-! how the last write of a sector is found -/
def key (k : Nat) : Lit := .int .i64 (k : Int)
theorem key_ne {j k : Nat} (h : j ≠ k) : key j ≠ key k := fun e => h (by simp [key] at e; omega)
theorem key_is (k : Nat) : WideAt.IsKeyLit (key k) := by simp [key, WideAt.IsKeyLit]
def num (i : Nat) : DataW Unit := .lit (.int .i64 (i : Int))
def lastF : Nat → List (Nat × Sec) → DataW Unit → DataW Unit
  | _, [], D => D
  | i, x :: r, D => lastF (i + 1) r (D.put (key x.1) (num i))
def lastD (L : List (Nat × Sec)) : DataW Unit := lastF 0 L (.map [])
theorem lastF_append (i : Nat) (a b : List (Nat × Sec)) (D : DataW Unit) : lastF i (a ++ b) D = lastF (i + a.length) b (lastF i a D) := by
  induction a generalizing i D with
  | nil => simp [lastF]
  | cons x r ih => simp only [List.cons_append, lastF, ih, List.length_cons, show i + 1 + r.length = i + (r.length + 1) by omega]
theorem lastD_snoc (L : List (Nat × Sec)) (x : Nat × Sec) : lastD (L ++ [x]) = (lastD L).put (key x.1) (num L.length) := by
  unfold lastD; rw [lastF_append]; simp [lastF]
theorem lastD_map (L : List (Nat × Sec)) : Maps.IsMap (lastD L) := by
  induction L using snocInd with
  | h0 => exact Maps.isMap_empty
  | h1 L x ih => rw [lastD_snoc]; exact ih.put _ _
/-- either no loose write is of this sector, or one is the last of them -/
theorem last_look (L : List (Nat × Sec)) (k : Nat) :
    (Maps.has (lastD L) (key k) = false ∧ ∀ f, lay L f k = f k) ∨
    (Maps.has (lastD L) (key k) = true ∧ ∃ i s, i < L.length ∧ L[i]? = some (k, s) ∧ (∀ z, (lastD L).atKey (key k) z = num i) ∧ ∀ f, lay L f k = s) := by
  induction L using snocInd with
  | h0 => exact .inl ⟨rfl, fun f => rfl⟩
  | h1 L x ih =>
    rw [lastD_snoc]
    by_cases hk : k = x.1
    · right
      refine ⟨by rw [hk]; exact Maps.has_put_same (lastD_map L) (key_is _) _, L.length, x.2, by simp, by rw [hk]; simp, fun z => by rw [hk]; exact Maps.atKey_put_same (lastD_map L) (key_is _) _ _, fun f => ?_⟩
      rw [lay_snoc, hk, upd_same]
    · rw [Maps.has_put_other (key_ne hk)]
      rcases ih with ⟨h1, h2⟩ | ⟨h1, i, s, h2, h3, h4, h5⟩
      · exact .inl ⟨h1, fun f => by rw [lay_snoc, upd_other hk, h2]⟩
      · refine .inr ⟨h1, i, s, by simp; omega, by rw [List.getElem?_append_left h2]; exact h3, fun z => by rw [Maps.atKey_put_other (key_ne hk)]; exact h4 z, fun f => by rw [lay_snoc, upd_other hk, h5]⟩

/-- what the map of flushed sectors reads as -/
def zsec : DataW Unit := .lit (.string zer)
def Reads (D : DataW Unit) (f : Nat → Sec) : Prop := Maps.IsMap D ∧ ∀ k, D.atKey (key k) zsec = .lit (.string (f k))
theorem reads_new : Reads (.map []) (fun _ => zer) := ⟨Maps.isMap_empty, fun k => rfl⟩
theorem Reads.put {D : DataW Unit} {f : Nat → Sec} (h : Reads D f) (k : Nat) (s : Sec) : Reads (D.put (key k) (.lit (.string s))) (upd f k s) :=
  ⟨h.1.put _ _, fun j => by
    by_cases e : j = k
    · subst e; rw [Maps.atKey_put_same h.1 (key_is _), upd_same]
    · rw [Maps.atKey_put_other (key_ne e), upd_other e]; exact h.2 j⟩
end Dsk
end Go.Proofs.YtalklpnekbfehaaGreat

/-
  How a disk lies in memory: its own cells, the map of what was flushed, the row of loose writes, the map of the last ones.
-/
set_option linter.unusedVariables false
namespace Go.Proofs.YtalklpnekbfehaaGreat
open Go.RowKit

theorem u8s_inj {a b : List UInt8} (h : u8s a = u8s b) : a = b := by
  have h1 := congrArg Array.toList h
  simp only [u8s] at h1
  have : ∀ (a b : List UInt8), a.map (fun b : UInt8 => Value.int .u8 (b.toNat : Int)) = b.map (fun b : UInt8 => Value.int .u8 (b.toNat : Int)) → a = b := by
    intro a
    induction a with
    | nil => intro b h; cases b with | nil => rfl | cons y r => simp at h
    | cons x r ih =>
      intro b h
      cases b with
      | nil => simp at h
      | cons y t =>
        simp only [List.map_cons, List.cons.injEq, Value.int.injEq, true_and] at h
        rw [ih _ h.2, show x = y from UInt8.toNat_inj.1 (by omega)]
  exact this a b h1

open Classical in
/-- how the value of a sector reads -/
noncomputable def secElem (v : Value) : Option (DataW Unit × List MemPlace) :=
  if h : ∃ bs : List UInt8, bs.length = 64 ∧ v = .agg (u8s bs) then some (.lit (.string h.choose), []) else none
theorem secElem_mk {bs : List UInt8} (h : bs.length = 64) : secElem (.agg (u8s bs)) = some (.lit (.string bs), []) := by
  have he : ∃ cs : List UInt8, cs.length = 64 ∧ Value.agg (u8s bs) = .agg (u8s cs) := ⟨bs, h, rfl⟩
  unfold secElem
  rw [dif_pos he]
  have h2 := he.choose_spec.2
  rw [← u8s_inj (Value.agg.inj h2)]
theorem secElem_inv {v : Value} {d : DataW Unit} {ps : List MemPlace} {s : List UInt8} (h : secElem v = some (d, ps)) (hd : d = .lit (.string s)) : v = .agg (u8s s) ∧ s.length = 64 := by
  unfold secElem at h
  split at h
  · rename_i he
    have h2 := he.choose_spec
    simp only [Option.some.injEq, Prod.mk.injEq] at h
    rw [hd] at h
    have h3 : he.choose = s := by simpa using h.1
    rw [h3] at h2
    exact ⟨h2.2, h2.1⟩
  · cases h

/-- the cells of a loose write; of a row of them -/
def wcells (x : Nat × List UInt8) : List Value := .int .i64 (x.1 : Int) :: (u8s x.2).toList
def lcells (L : List (Nat × List UInt8)) : List Value := L.flatMap wcells
theorem wcells_length {x : Nat × List UInt8} (h : x.2.length = 64) : (wcells x).length = 65 := by simp [wcells, h]
theorem lcells_snoc (L : List (Nat × List UInt8)) (x : Nat × List UInt8) : lcells (L ++ [x]) = lcells L ++ wcells x := by simp [lcells]
theorem lcells_get {L : List (Nat × List UInt8)} (h : ∀ x ∈ L, x.2.length = 64) {i : Nat} {x : Nat × List UInt8} (hi : L[i]? = some x) : ∀ j u, (wcells x)[j]? = some u → (lcells L)[65 * i + j]? = some u := by
  induction L generalizing i with
  | nil => simp at hi
  | cons y r ih =>
    intro j u hu
    have hy := wcells_length (h y List.mem_cons_self)
    have e : lcells (y :: r) = wcells y ++ lcells r := by simp [lcells]
    rw [e]
    cases i with
    | zero =>
      simp at hi; subst hi
      rw [List.getElem?_append_left (by have := (List.getElem?_eq_some_iff.1 hu).1; omega)]
      simpa using hu
    | succ i =>
      rw [List.getElem?_append_right (by omega), hy, show 65 * (i + 1) + j - 65 = 65 * i + j by omega]
      exact ih (fun z hz => h z (List.mem_cons_of_mem _ hz)) (by simpa using hi) j u hu

def dcells (d : Dsk.St) (bF : Nat) (v : Value) (bM : Nat) : Array Value := #[.int .i64 (d.n : Int), .map (some bF), v, .map (some bM), .int .i64 d.fuse, .bool d.down]

/-- block p, and the other blocks of S, are a disk -/
structure DiskIn (S : Nat → Prop) (p : Nat) (d : Dsk.St) (w : World) (bF bM : Nat) (v : Value) (nf : Nat) (DF : DataW Unit) : Prop where
  hp : S p
  hF : S bF
  hM : S bM
  hv : ∀ k, v.ownBlock = some k → S k
  lt : ∀ k, S k → k < w.heap.size
  row : w.heap[p]? = some (.cells (dcells d bF v bM) 93 (0, 0))
  ne : bF ≠ bM
  mF : w.ownsMap Tryz.prog 3 secElem bF nf DF
  rF : Dsk.Reads DF d.fl
  mM : w.ownsMap Tryz.prog 3 (plainElem Tryz.prog 3) bM d.L.length (Dsk.lastD d.L)
  rL : w.ownsRow 0 178 65 v d.L.length (lcells d.L)
  cnt : nf + d.L.length ≤ d.ops
  ok : d.Ok

def DiskAt (S : Nat → Prop) (p : Nat) (d : Dsk.St) (w : World) : Prop := ∃ bF bM v nf DF, DiskIn S p d w bF bM v nf DF

theorem DiskIn.keeps {S T : Nat → Prop} {p : Nat} {d : Dsk.St} {w w' : World} {bF bM : Nat} {v : Value} {nf : Nat} {DF : DataW Unit} (h : DiskIn S p d w bF bM v nf DF) (ht : Turns T w w') (hST : ∀ k, S k → ¬ T k) : DiskIn S p d w' bF bM v nf DF :=
  { h with
    lt := fun k hk => Nat.lt_of_lt_of_le (h.lt k hk) ht.size
    row := ht.same h.row (hST _ h.hp)
    mF := ownsMap_same h.mF (ht.block _ (h.lt _ h.hF) (hST _ h.hF))
    mM := ownsMap_same h.mM (ht.block _ (h.lt _ h.hM) (hST _ h.hM))
    rL := ownsRow_same h.rL (fun g hg => ht.block _ (h.lt _ (h.hv g hg)) (hST _ (h.hv g hg))) }
theorem DiskAt.keeps {S T : Nat → Prop} {p : Nat} {d : Dsk.St} {w w' : World} (h : DiskAt S p d w) (ht : Turns T w w') (hST : ∀ k, S k → ¬ T k) : DiskAt S p d w' := by
  obtain ⟨bF, bM, v, nf, DF, h⟩ := h
  exact ⟨bF, bM, v, nf, DF, h.keeps ht hST⟩
theorem DiskAt.new {S : Nat → Prop} {p : Nat} {d : Dsk.St} {w w' : World} (h : DiskAt S p d w) (hb : Below w.heap.size w w') : DiskAt S p d w' :=
  h.keeps (Turns.of_new hb (fun _ => False)) (fun _ _ => id)
theorem DiskAt.lt {S : Nat → Prop} {p : Nat} {d : Dsk.St} {w : World} (h : DiskAt S p d w) : ∀ k, S k → k < w.heap.size := by
  obtain ⟨bF, bM, v, nf, DF, h⟩ := h; exact h.lt
theorem DiskAt.ok {S : Nat → Prop} {p : Nat} {d : Dsk.St} {w : World} (h : DiskAt S p d w) : d.Ok := by
  obtain ⟨bF, bM, v, nf, DF, h⟩ := h; exact h.ok
theorem DiskAt.hp {S : Nat → Prop} {p : Nat} {d : Dsk.St} {w : World} (h : DiskAt S p d w) : S p := by
  obtain ⟨bF, bM, v, nf, DF, h⟩ := h; exact h.hp
theorem DiskAt.cnt {S : Nat → Prop} {p : Nat} {d : Dsk.St} {w : World} (h : DiskAt S p d w) : d.L.length ≤ d.ops := by
  obtain ⟨bF, bM, v, nf, DF, h⟩ := h; have := h.cnt; omega
theorem DiskIn.pF {S : Nat → Prop} {p : Nat} {d : Dsk.St} {w : World} {bF bM : Nat} {v : Value} {nf : Nat} {DF : DataW Unit} (h : DiskIn S p d w bF bM v nf DF) : p ≠ bF := fun e => by
  obtain ⟨es, c, hb⟩ := ownsMap_obj h.mF
  have := h.row; rw [e, hb] at this; cases this
theorem DiskIn.pM {S : Nat → Prop} {p : Nat} {d : Dsk.St} {w : World} {bF bM : Nat} {v : Value} {nf : Nat} {DF : DataW Unit} (h : DiskIn S p d w bF bM v nf DF) : p ≠ bM := fun e => by
  obtain ⟨es, c, hb⟩ := ownsMap_obj h.mM
  have := h.row; rw [e, hb] at this; cases this
theorem DiskIn.vp {S : Nat → Prop} {p : Nat} {d : Dsk.St} {w : World} {bF bM : Nat} {v : Value} {nf : Nat} {DF : DataW Unit} (h : DiskIn S p d w bF bM v nf DF) : v.ownBlock ≠ some p := fun e => by
  obtain ⟨cur, hb⟩ := ownsRow_block h.rL e
  have := h.row; rw [hb] at this; cases this
theorem DiskIn.vF {S : Nat → Prop} {p : Nat} {d : Dsk.St} {w : World} {bF bM : Nat} {v : Value} {nf : Nat} {DF : DataW Unit} (h : DiskIn S p d w bF bM v nf DF) : v.ownBlock ≠ some bF := fun e => by
  obtain ⟨cur, hb⟩ := ownsRow_block h.rL e
  obtain ⟨es, c, hb2⟩ := ownsMap_obj h.mF
  rw [hb] at hb2; cases hb2
theorem DiskIn.vM {S : Nat → Prop} {p : Nat} {d : Dsk.St} {w : World} {bF bM : Nat} {v : Value} {nf : Nat} {DF : DataW Unit} (h : DiskIn S p d w bF bM v nf DF) : v.ownBlock ≠ some bM := fun e => by
  obtain ⟨cur, hb⟩ := ownsRow_block h.rL e
  obtain ⟨es, c, hb2⟩ := ownsMap_obj h.mM
  rw [hb] at hb2; cases hb2

variable {S : Nat → Prop} {p : Nat} {d : Dsk.St} {w : World} {bF bM : Nat} {v : Value} {nf : Nat} {DF : DataW Unit}
theorem DiskIn.c0 (h : DiskIn S p d w bF bM v nf DF) : w.cell? ⟨p, 0, none⟩ = some (.int .i64 (d.n : Int)) := by rw [cell_of_row w p 0 _ _ _ h.row]; rfl
theorem DiskIn.c1 (h : DiskIn S p d w bF bM v nf DF) : w.cell? ⟨p, 1, none⟩ = some (.map (some bF)) := by rw [cell_of_row w p 1 _ _ _ h.row]; rfl
theorem DiskIn.c2 (h : DiskIn S p d w bF bM v nf DF) : w.cell? ⟨p, 2, none⟩ = some v := by rw [cell_of_row w p 2 _ _ _ h.row]; rfl
theorem DiskIn.c3 (h : DiskIn S p d w bF bM v nf DF) : w.cell? ⟨p, 3, none⟩ = some (.map (some bM)) := by rw [cell_of_row w p 3 _ _ _ h.row]; rfl
theorem DiskIn.c4 (h : DiskIn S p d w bF bM v nf DF) : w.cell? ⟨p, 4, none⟩ = some (.int .i64 d.fuse) := by rw [cell_of_row w p 4 _ _ _ h.row]; rfl
theorem DiskIn.c5 (h : DiskIn S p d w bF bM v nf DF) : w.cell? ⟨p, 5, none⟩ = some (.bool d.down) := by rw [cell_of_row w p 5 _ _ _ h.row]; rfl
theorem DiskIn.free (h : DiskIn S p d w bF bM v nf DF) (j : Nat) : w.frozen? ⟨p, j, none⟩ = false := row_free h.row j
theorem DiskIn.vlen (h : DiskIn S p d w bF bM v nf DF) : (d.L = [] ∧ v = .slice none 0 0) ∨ ∃ g cap, v = .slice (some ⟨g, 0, none⟩) d.L.length cap ∧ d.L.length ≤ cap := by
  obtain ⟨h1, h2⟩ := h.rL
  rcases h2 with ⟨rfl, h0⟩ | ⟨g, cap, cur, rfl, hb, hg, hn, hm, hc, ht⟩
  · exact .inl ⟨List.eq_nil_of_length_eq_zero h0, rfl⟩
  · exact .inr ⟨g, cap, rfl, hn⟩
/-- fuse and failing alone have turned -/
theorem DiskIn.turn (h : DiskIn S p d w bF bM v nf DF) {w' : World} (ht : Turns (fun k => k = p) w w') (f : Int) (b : Bool) (hf : -9223372036854775808 ≤ f ∧ f ≤ 9223372036854775807)
    (hr : w'.heap[p]? = some (.cells (dcells { d with fuse := f, down := b } bF v bM) 93 (0, 0))) : DiskIn S p { d with fuse := f, down := b } w' bF bM v nf DF :=
  { hp := h.hp, hF := h.hF, hM := h.hM, hv := h.hv, ne := h.ne, rF := h.rF, cnt := h.cnt
    ok := ⟨h.ok.lo, h.ok.hi, h.ok.fl, h.ok.at_, h.ok.sz, hf⟩
    lt := fun k hk => Nat.lt_of_lt_of_le (h.lt k hk) ht.size
    row := hr
    mF := ownsMap_same h.mF (ht.block _ (h.lt _ h.hF) (fun e => h.pF e.symm))
    mM := ownsMap_same h.mM (ht.block _ (h.lt _ h.hM) (fun e => h.pM e.symm))
    rL := ownsRow_same h.rL (fun g hg => ht.block _ (h.lt _ (h.hv g hg)) (fun e => h.vp (by rw [hg, e]))) }
end Go.Proofs.YtalklpnekbfehaaGreat

/-
  The short methods of a disk: New, Sectors, Loose, Down, Fuse, has.
-/
set_option linter.unusedVariables false
namespace Go.Proofs.YtalklpnekbfehaaGreat
open Go.RowKit

theorem sectors_nil (w : World) : Calls Tryz.prog 40 #[.pointer none] w fun e w' => e = .returned (.int .i64 0) ∧ w = w' := by
  go_enter Tryz.func40, Tryz.ntmps40
  go_wp2
  go_ret
  exact ⟨rfl, rfl⟩
theorem fuse_nil (n : Int) (w : World) : Calls Tryz.prog 25 #[.pointer none, .int .i64 n] w fun e w' => e = .returned (.int .i64 1) ∧ w = w' := by
  go_enter Tryz.func25, Tryz.ntmps25
  go_wp2
  go_ret
  exact ⟨rfl, rfl⟩
theorem flush_nil (w : World) : Calls Tryz.prog 92 #[.pointer none] w fun e w' => e = .returned (.int .i64 1) ∧ w = w' := by
  go_enter Tryz.func92, Tryz.ntmps92
  go_wp2
  go_ret
  exact ⟨rfl, rfl⟩
theorem crash_nil (s : ByteArray) (w : World) : Calls Tryz.prog 22 #[.pointer none, .string s] w fun e w' => e = .returned (.int .i64 1) ∧ w = w' := by
  go_enter Tryz.func22, Tryz.ntmps22
  go_wp2
  go_ret
  exact ⟨rfl, rfl⟩
theorem read_nil (at_ n : Int) (w : World) : Calls Tryz.prog 66 #[.pointer none, .int .i64 at_, .int .i64 n] w fun e w' => e = .returned (.tuple #[.string ⟨#[]⟩, .int .i64 1]) ∧ w = w' := by
  go_enter Tryz.func66, Tryz.ntmps66
  go_wp2
  go_ret2
  exact ⟨rfl, rfl⟩
theorem write_nil (at_ : Int) (s : ByteArray) (hs : s.size ≤ 9223372036854775807) (w : World) : Calls Tryz.prog 89 #[.pointer none, .int .i64 at_, .string s] w fun e w' => e = .returned (.int .i64 1) ∧ w = w' := by
  go_enter Tryz.func89, Tryz.ntmps89
  go_wp2
  go_step3
  go_wp2
  try rw [Exit.noGoto_ret]
  go_ret
  exact ⟨rfl, rfl⟩

section
variable {S : Nat → Prop} {p : Nat} {d : Dsk.St} {w : World}
theorem sectors_any (h : DiskAt S p d w) : Calls Tryz.prog 40 #[.pointer (some ⟨p, 0, none⟩)] w fun e w' => e = .returned (.int .i64 (d.n : Int)) ∧ w = w' := by
  obtain ⟨bF, bM, v, nf, DF, h⟩ := h
  have c0 := h.c0
  clear h
  go_enter Tryz.func40, Tryz.ntmps40
  go_wp2
  go_ret
  exact ⟨rfl, rfl⟩
theorem fuse_any (h : DiskAt S p d w) (n : Int) (hn : -9223372036854775808 ≤ n ∧ n ≤ 9223372036854775807) : Calls Tryz.prog 25 #[.pointer (some ⟨p, 0, none⟩), .int .i64 n] w fun e w' => e = .returned (.int .i64 0) ∧ Turns (fun k => k = p) w w' ∧ DiskAt S p { d with fuse := n } w' := by
  obtain ⟨bF, bM, v, nf, DF, h⟩ := h
  have hr := h.free
  have hk : DiskIn S p { d with fuse := n } (w.setCell ⟨p, 4, none⟩ (.int .i64 n)) bF bM v nf DF := by
    have := h.turn (w' := w.setCell ⟨p, 4, none⟩ (.int .i64 n)) ((Turns.refl _ w).set p 4 _ (fun _ => rfl)) n d.down hn (by
      rw [heap_setCell_same w p 4 _ _ _ h.row]; rfl)
    exact this
  have Hk := Lib.hid hk; clear hk
  have f4 := hr 4
  have c4 := h.c4
  clear h hr
  go_enter Tryz.func25, Tryz.ntmps25
  go_wp2
  go_ret
  exact ⟨rfl, (Turns.refl _ w).set p 4 _ (fun _ => rfl), bF, bM, v, nf, DF, Hk.out⟩
theorem has_any (h : DiskAt S p d w) (at_ n : Int) (ha : -9223372036854775808 ≤ at_ ∧ at_ ≤ 9223372036854775807) (hn : -9223372036854775808 ≤ n ∧ n ≤ 9223372036854775807) :
    Calls Tryz.prog 109 #[.pointer (some ⟨p, 0, none⟩), .int .i64 at_, .int .i64 n] w fun e w' => e = .returned (.bool (decide (0 ≤ at_ ∧ 0 ≤ n ∧ at_ + n ≤ (d.n : Int)))) ∧ w = w' := by
  obtain ⟨bF, bM, v, nf, DF, h⟩ := h
  have c0 := h.c0
  have ok := h.ok
  have h1 := ok.lo
  have h2 := ok.hi
  clear h ok
  generalize d.n = m at *
  by_cases a0 : 0 ≤ at_
  · by_cases b0 : 0 ≤ n
    · have e : decide (0 ≤ at_ ∧ 0 ≤ n ∧ at_ + n ≤ (m : Int)) = decide (n ≤ (m : Int) - at_) := by rw [decide_eq_decide]; omega
      rw [e]
      clear e
      go_enter Tryz.func109, Tryz.ntmps109
      go_wp2
      go_ret
      exact ⟨rfl, rfl⟩
    · have e : decide (0 ≤ at_ ∧ 0 ≤ n ∧ at_ + n ≤ (m : Int)) = false := by rw [decide_eq_false_iff_not]; omega
      rw [e]
      clear e
      have bf : decide (0 ≤ n) = false := by rw [decide_eq_false_iff_not]; omega
      go_enter Tryz.func109, Tryz.ntmps109
      go_wp2
      go_ret
      exact ⟨rfl, rfl⟩
  · have e : decide (0 ≤ at_ ∧ 0 ≤ n ∧ at_ + n ≤ (m : Int)) = false := by rw [decide_eq_false_iff_not]; omega
    rw [e]
    clear e
    have bf : decide (0 ≤ at_) = false := by rw [decide_eq_false_iff_not]; omega
    go_enter Tryz.func109, Tryz.ntmps109
    go_wp2
    go_ret
    exact ⟨rfl, rfl⟩
end
end Go.Proofs.YtalklpnekbfehaaGreat

/-
  New: a disk of that many sectors, all 0; or none.
-/
set_option linter.unusedVariables false
namespace Go.Proofs.YtalklpnekbfehaaGreat
open Go.RowKit

theorem new_bad (n : Int) (hn : n < 1 ∨ 16384 < n) (w : World) : Calls Tryz.prog 17 #[.int .i64 n] w fun e w' => e = .returned (.tuple #[.pointer none, .int .i64 2]) ∧ w = w' := by
  by_cases h1 : n < 1
  · have e1 : decide (n < 1) = true := decide_eq_true h1
    clear hn
    go_enter Tryz.func17, Tryz.ntmps17
    go_wp2
    go_ret2
    exact ⟨rfl, rfl⟩
  · have e1 : decide (n < 1) = false := decide_eq_false h1
    have h2 : 16384 < n := by omega
    have e2 : decide (16384 < n) = true := decide_eq_true h2
    clear hn
    go_enter Tryz.func17, Tryz.ntmps17
    go_wp2
    go_ret2
    exact ⟨rfl, rfl⟩

/-- the blocks of a disk that was just made -/
def NewS (w : World) : Nat → Prop := fun k => w.heap.size ≤ k ∧ k < w.heap.size + 3
theorem new_any (n : Nat) (h1 : 1 ≤ n) (h2 : n ≤ 16384) (w : World) : Calls Tryz.prog 17 #[.int .i64 (n : Int)] w fun e w' =>
    e = .returned (.tuple #[.pointer (some ⟨w.heap.size + 2, 0, none⟩), .int .i64 0]) ∧ Below w.heap.size w w' ∧ DiskAt (NewS w) (w.heap.size + 2) (Dsk.new n) w' := by
  have e1 : decide ((n : Int) < 1) = false := by rw [decide_eq_false_iff_not]; omega
  have e2 : decide ((16384 : Int) < (n : Int)) = false := by rw [decide_eq_false_iff_not]; omega
  have hmm := @run_makeMap Tryz.prog
  have hpost : DiskAt (NewS w) (w.heap.size + 2) (Dsk.new n) (((w.alloc (.map #[] 0)).alloc (.map #[] 0)).alloc (.cells #[.int .i64 (n : Int), .map (some w.heap.size), .slice none 0 0, .map (some (w.heap.size + 1)), .int .i64 (-1), .bool false] 93)) := by
    refine ⟨w.heap.size, w.heap.size + 1, .slice none 0 0, 0, .map [], ⟨by simp [NewS], by simp [NewS], by simp [NewS], fun k hk => by simp [Value.ownBlock] at hk, fun k hk => by simp [NewS] at hk; simp; omega, ?_, by omega, ?_, Dsk.reads_new, ?_, World.ownsRow_nil _ _ _ _, by simp [Dsk.new], Dsk.new_ok h1 h2⟩⟩
    · have := heap_alloc_new ((w.alloc (.map #[] 0)).alloc (.map #[] 0)) (.cells #[.int .i64 (n : Int), .map (some w.heap.size), .slice none 0 0, .map (some (w.heap.size + 1)), .int .i64 (-1), .bool false] 93)
      rw [World.size_alloc, World.size_alloc] at this
      exact this
    · exact ((World.ownsMap_made w _ _ _).alloc _).alloc _
    · have := (World.ownsMap_made (H := Unit) (w.alloc (.map #[] 0)) Tryz.prog 3 (plainElem Tryz.prog 3)).alloc (.cells #[.int .i64 (n : Int), .map (some w.heap.size), .slice none 0 0, .map (some (w.heap.size + 1)), .int .i64 (-1), .bool false] 93)
      rw [World.size_alloc] at this
      exact this
  have Hpost := Lib.hid hpost; clear hpost
  go_enter Tryz.func17, Tryz.ntmps17
  go_wp2
  go_ret2
  exact ⟨rfl, (((Below.refl _ w).alloc (Nat.le_refl _) _).alloc (by simp) _).alloc (by simp; omega) _, Hpost.out⟩
end Go.Proofs.YtalklpnekbfehaaGreat

/-
  get: what was written to a sector last.
-/
set_option linter.unusedVariables false
namespace Go.Proofs.YtalklpnekbfehaaGreat
open Go.RowKit

theorem key_wf (k : Nat) (hk : k ≤ 9223372036854775807) : (Lit.int .i64 (k : Int)).wf = true := by
  simp [Lit.wf]
  exact ⟨by show (-9223372036854775808 : Int) ≤ (k : Int); omega, by omega⟩
theorem keyed : Maps.Keyed Tryz.prog 3 := Maps.int_keyed Tryz.underlying3
theorem key_of (k : Nat) (hk : k ≤ 9223372036854775807) : keyOf Tryz.prog 3 (.int .i64 (k : Int)) = some (Dsk.key k) := Maps.keyOf_int_mk Tryz.underlying3 (key_wf k hk)
theorem zero_int (w : World) : (zeroValue 3).run Tryz.prog w = .ok (.int .i64 0) w := by kernel_rfl
theorem zero_sec (w : World) : (zeroValue 145).run Tryz.prog w = .ok (.agg (u8s Dsk.zer)) w := by kernel_rfl

section
variable {S : Nat → Prop} {p : Nat} {d : Dsk.St} {w : World} {bF bM : Nat} {v : Value} {nf : Nat} {DF : DataW Unit}
theorem DiskIn.lookM (h : DiskIn S p d w bF bM v nf DF) (k : Nat) (hk : k ≤ 9223372036854775807) : ∃ c : Int,
    (Instr.lookup 90 (.map (some bM)) (.int .i64 (k : Int)) true).run Tryz.prog w = .ok (.tuple #[.int .i64 c, .bool (Maps.has (Dsk.lastD d.L) (Dsk.key k))]) w ∧
    (Dsk.lastD d.L).atKey (Dsk.key k) (.lit (.int .i64 0)) = .lit (.int .i64 c) := by
  obtain ⟨x, ps, hrun, hv⟩ := h.mM.look_ok keyed Tryz.underlying90 (zero_int w) (plainElem_int Tryz.underlying3 (by decide)) (key_of k hk)
  obtain ⟨c, rfl, hc, _⟩ := plainElem_int_inv Tryz.underlying3 hv
  exact ⟨c, hrun, congrArg Prod.fst hc⟩
theorem DiskIn.lookF (h : DiskIn S p d w bF bM v nf DF) (k : Nat) (hk : k ≤ 9223372036854775807) :
    (Instr.lookup 89 (.map (some bF)) (.int .i64 (k : Int)) false).run Tryz.prog w = .ok (.agg (u8s (d.fl k))) w := by
  obtain ⟨x, ps, hrun, hv⟩ := h.mF.lookup keyed Tryz.underlying89 (zero_sec w) (secElem_mk Dsk.zer_length) (key_of k hk)
  obtain ⟨rfl, _⟩ := secElem_inv hv (h.rF.2 k)
  exact hrun
theorem DiskIn.rangeL (h : DiskIn S p d w bF bM v nf DF) {g : Nat} (hg : v.ownBlock = some g) {i : Nat} {x : Nat × List UInt8} (hi : d.L[i]? = some x) : w.rangeAt g (i * 65) (wcells x) := by
  intro j u hu
  have h1 := World.ownsRow.cells h.rL hg (i * 65 + j) u (by rw [Nat.mul_comm]; exact lcells_get h.ok.sz hi j u hu)
  have ea : (⟨g, 0, none⟩ : Addr).add (i * 65 + j) = ⟨g, i * 65 + j, none⟩ := by unfold Addr.add; split <;> simp_all
  rw [ea] at h1
  exact h1
end

theorem zer_size : (u8s Dsk.zer).size = 64 := by rw [u8s_size, Dsk.zer_length]
theorem get_any {S : Nat → Prop} {p : Nat} {d : Dsk.St} {w : World} (h : DiskAt S p d w) (k : Nat) (hk : k < d.n) :
    Calls Tryz.prog 111 #[.pointer (some ⟨p, 0, none⟩), .int .i64 (k : Int)] w fun e w' => e = .returned (.agg (u8s (Dsk.now d k))) ∧ Below w.heap.size w w' := by
  obtain ⟨bF, bM, v, nf, DF, h⟩ := h
  have hd := h.ok.hi
  have hbl : Below w.heap.size w (w.alloc (.cells (u8s Dsk.zer) 145)) := (Below.refl _ w).alloc (Nat.le_refl _) _
  have h1 : DiskIn S p d (w.alloc (.cells (u8s Dsk.zer) 145)) bF bM v nf DF := h.keeps (Turns.of_new hbl (fun _ => False)) (fun _ _ => id)
  obtain ⟨c, hM, hat⟩ := h1.lookM k (by omega)
  have hF := h1.lookF k (by omega)
  have c1 := h1.c1
  have c2 := h1.c2
  have c3 := h1.c3
  have hz := zero_sec
  have hzs := zer_size
  have hi : (Tryz.prog.info? 145).map (·.size) = some 64 := by kernel_rfl
  have hnl := Dsk.now_length h.ok k
  have hfl := h.ok.fl k
  have hone := u8s_one (Dsk.now d k)
  have hns : (u8s (Dsk.now d k)).size = 64 := by rw [u8s_size, hnl]
  have hnow : Dsk.now d k = Dsk.lay d.L d.fl k := rfl
  have hlook := Dsk.last_look d.L k
  have hrange : ∀ i s g, v.ownBlock = some g → d.L[i]? = some (k, s) → (w.alloc (.cells (u8s Dsk.zer) 145)).rangeAt g (i * 65) (wcells (k, s)) := fun i s g hg hi => h1.rangeL hg hi
  have hvl := h.vlen
  have hpl := row_lt h.row
  clear h h1 hbl hd
  generalize hZ : u8s Dsk.zer = Z at *
  clear hZ
  rcases hlook with ⟨hh, hl⟩ | ⟨hh, i, s, hi1, hi2, hi3, hi4⟩
  · rw [hh] at hM
    have he : Dsk.now d k = d.fl k := by rw [hnow, hl]
    rw [he] at hone hns ⊢
    clear hnow hl hh hat hrange hvl hnl hk he
    have hsz : (Tryz.prog.info? 145).map (·.size) = some (u8s (d.fl k)).size := by rw [hns]; exact hi
    have hss : Z.size = (u8s (d.fl k)).size := by rw [hzs, hns]
    have Hsz := Lib.hid hsz; clear hsz
    have Hss := Lib.hid hss; clear hss
    have Hone := Lib.hid hone; clear hone
    clear hi hns hzs hfl
    have HM := Lib.hid hM; clear hM
    have HF := Lib.hid hF; clear hF
    go_enter Tryz.func111, Tryz.ntmps111
    go_wp2_with (first | (rw [HM.out]; simp only [Result.andThen]; rw [Oper.upon_value]) | (rw [HF.out]; simp only [Result.andThen]; rw [Oper.upon_value]) | (refine wpList_store_whole rfl 145 (.tmp 4) (.tmp 30) rfl w.heap.size (u8s (d.fl k)) rfl rfl _ Z (heap_alloc_new _ _) Hsz.out Hss.out Hone.out ?_; rw [World.setRow_alloc_new]))
    refine bodyPost_ret (v := .agg (u8s (d.fl k))) (results_cell_row (P := Tryz.prog) rfl _ _ w.heap.size _ (u8s (d.fl k)) (0, 0) _ rfl (heap_alloc_new _ _) Tryz.underlying145 rfl Hsz.out) rfl ?_
    exact ⟨rfl, (Below.refl _ w).alloc (Nat.le_refl _) _⟩
  · rw [hh] at hM
    have hci : c = (i : Int) := by
      have := hi3 (.lit (.int .i64 0))
      rw [hat] at this
      simpa [Dsk.num] using this
    rw [hci] at hM
    have he : Dsk.now d k = s := by rw [hnow, hi4]
    rcases hvl with ⟨h0, _⟩ | ⟨g, cap, rfl, hcap⟩
    · rw [h0] at hi1; simp at hi1
    · have hr := hrange i s g rfl hi2
      have hr2 : (w.alloc (.cells Z 145)).rangeAt g (i * 65 + 1) (u8s s).toList := fun j u hu => by
        have := hr (j + 1) u (by simpa [wcells] using hu)
        rw [show i * 65 + 1 + j = i * 65 + (j + 1) by omega]
        exact this
      rw [he] at hone hns ⊢
      generalize d.L.length = n at *
      have hsz : (Tryz.prog.info? 145).map (·.size) = some (u8s s).size := by rw [hns]; exact hi
      have hsl : (Tryz.prog.info? 145).map (·.size) = some (u8s s).toList.length := by rw [Array.length_toList]; exact hsz
      have hss : Z.size = (u8s s).size := by rw [hzs, hns]
      have Hsz := Lib.hid hsz; clear hsz
      have Hsl := Lib.hid hsl; clear hsl
      have Hss := Lib.hid hss; clear hss
      have Hone := Lib.hid hone; clear hone
      have Hr := Lib.hid hr2; clear hr2
      clear hi hns hzs hfl hnow hi4 hi3 hi2 hat hr hrange hnl hF he hh hci hcap hk
      have i0 : (0 : Int) ≤ (i : Int) := by omega
      have HM := Lib.hid hM; clear hM
      go_enter Tryz.func111, Tryz.ntmps111
      go_wp2_with (first | (rw [HM.out]; simp only [Result.andThen]; rw [Oper.upon_value]) | (refine wpList_load_mid rfl 145 (.tmp 23) rfl g (i * 65 + 1) rfl (u8s s).toList _ Hr.out Tryz.underlying145 rfl Hsl.out ?_) | (refine wpList_store_whole rfl 145 (.tmp 4) (.tmp 24) rfl w.heap.size (u8s s) rfl rfl _ Z (heap_alloc_new _ _) Hsz.out Hss.out Hone.out ?_; rw [World.setRow_alloc_new]))
      trace_state
      refine bodyPost_ret (v := .agg (u8s s)) (results_cell_row (P := Tryz.prog) rfl _ _ w.heap.size _ (u8s s) (0, 0) _ rfl (heap_alloc_new _ _) Tryz.underlying145 rfl Hsz.out) rfl ?_
      exact ⟨rfl, (Below.refl _ w).alloc (Nat.le_refl _) _⟩
end Go.Proofs.YtalklpnekbfehaaGreat

/-
  put: a sector is written.
-/
set_option linter.unusedVariables false
namespace Go.Proofs.YtalklpnekbfehaaGreat
open Go.RowKit

/-- the cells of a loose write whose data are yet to come -/
def wz (k : Nat) : Array Value := (wcells (k, Dsk.zer)).toArray
def wfull (k : Nat) (s : List UInt8) : Array Value := (wcells (k, s)).toArray
theorem wz_size (k : Nat) : (wz k).size = 65 := by simp [wz, wcells_length (x := (k, Dsk.zer)) Dsk.zer_length]
theorem wfull_size (k : Nat) (s : List UInt8) (h : s.length = 64) : (wfull k s).size = 65 := by simp [wfull, wcells_length (x := (k, s)) h]
theorem wcells_one (x : Nat × List UInt8) : ∀ u ∈ wcells x, u.oneCell' = true := by
  intro u hu
  simp only [wcells, List.mem_cons] at hu
  rcases hu with rfl | hu
  · rfl
  · have := u8s_one x.2
    rw [Array.all_eq_true_iff_forall_mem] at this
    exact this u (by simpa using hu)
theorem wz_one (k : Nat) : (wz k).all (·.oneCell') = true := by
  rw [Array.all_eq_true_iff_forall_mem]
  intro u hu
  exact wcells_one _ u (by simpa [wz] using hu)
theorem zero_write (w : World) : (zeroValue 178).run Tryz.prog w = .ok (.agg (wz 0)) w := by kernel_rfl
theorem built_write (k : Nat) : Tryz.prog.built 178 [(0, .int .i64 (k : Int))] = some (wz k) := by kernel_rfl
theorem build_write (k : Nat) (w : World) : (Instr.build 178 #[(0, .int .i64 (k : Int))]).run Tryz.prog w = .ok (.agg (wz k)) w := run_build w _ _ _ (built_write k)
theorem wz_full (k : Nat) (s : List UInt8) (h : s.length = 64) : ((wz k).toList.take 1 ++ (u8s (s.take 64)).toList ++ (wz k).toList.drop (1 + 64)).toArray = wfull k s := by
  have h1 : (wz k).toList = .int .i64 (k : Int) :: (u8s Dsk.zer).toList := by simp [wz, wcells]
  have h2 : (u8s Dsk.zer).toList.length = 64 := by simp [Dsk.zer]
  rw [h1, List.take_of_length_le (l := s) (by omega)]
  simp only [List.take_succ_cons, List.take_zero, wfull, wcells]
  rw [List.drop_of_length_le (by simp only [List.length_cons, h2]; omega)]
  simp
theorem wz_set (k : Nat) : (wz 0).setIfInBounds 0 (.int .i64 (k : Int)) = wz k := by
  apply Array.ext'
  simp [wz, wcells]
theorem wz_ne : ¬ wz 0 = #[] := fun e => by have := congrArg Array.size e; rw [wz_size] at this; simp at this
theorem write_info : (Tryz.prog.info? 178).map (fun i => (i.zero, i.size, i.bytes)) = some (some (.agg (wz 0)), 65, 72) := by kernel_rfl
theorem slice_write (cs : Array Value) (hc : cs.size = 65) (w : World) : (Instr.buildSlice 91 1 #[(0, .agg cs)]).run Tryz.prog w = .ok (.slice (some ⟨w.heap.size, 0, none⟩) 1 1) (w.alloc (.cells cs 178)) := by
  obtain ⟨i, hi, h0, h1, h2⟩ := info_parts write_info
  have hf := Great.fill_whole (s := 65) (by omega) [.agg cs] ((Array.range (1 * 65)).map ((Value.agg (wz 0)).cells[· % (Value.agg (wz 0)).cells.size]!)) (fun v hv => by simp at hv; subst hv; exact hc) (by simp)
  refine run_buildSlice w 91 178 1 _ cs i _ Tryz.underlying91 hi h0 (by rw [h1]; decide) (by rw [h1]; decide) ?_
  rw [h1]
  have e : ([Value.agg cs].flatMap fun v => v.cells.toList).toArray = cs := by simp [Value.cells]
  rw [e] at hf
  exact hf

theorem put_done {S : Nat → Prop} {p : Nat} {d : Dsk.St} {w w2 w3 w3' w4 : World} {bF bM : Nat} {v : Value} {nf : Nat} {DF : DataW Unit} (h2 : DiskIn S p d w2 bF bM v nf DF) (hlt : ∀ j, S j → j < w.heap.size) (t2 : Turns S w w2) (k : Nat) (s : List UInt8) (hk : k < d.n) (hs : s.length = 64)
    (hown3 : w3.ownsMap Tryz.prog 3 (plainElem Tryz.prog 3) bM (d.L.length + 1) ((Dsk.lastD d.L).put (Dsk.key k) (Dsk.num d.L.length))) (hg3 : w2.grownBy w3 (some bM)) (hb3 : Below w3.heap.size w3 w3')
    (g cap : Nat) (hown4 : w4.ownsRow 0 178 65 (.slice (some ⟨g, 0, none⟩) (d.L.length + 1) cap) (d.L.length + 1) (lcells d.L ++ wcells (k, s))) (hg4 : w3'.grownBy w4 v.ownBlock) (hat : v.ownBlock = some g ∨ w.heap.size ≤ g) (hgl : g < w4.heap.size) :
    Turns S w (w4.setCell ⟨p, 2, none⟩ (.slice (some ⟨g, 0, none⟩) (d.L.length + 1) cap)) ∧ ∃ S', (∀ j, S' j → S j ∨ w.heap.size ≤ j) ∧ DiskAt S' p (Dsk.put d k s) (w4.setCell ⟨p, 2, none⟩ (.slice (some ⟨g, 0, none⟩) (d.L.length + 1) cap)) := by
  have hp2 := h2.lt _ h2.hp
  have hF2 := h2.lt _ h2.hF
  have hM2 := h2.lt _ h2.hM
  have s3 := hg3.size
  have s3' := hb3.size
  have s4 := hg4.size
  have ep : w4.heap[p]? = w2.heap[p]? := by rw [hg4.block p (by omega) (fun e => h2.vp e.symm), hb3.block p (by omega), hg3.block p hp2 (fun e => h2.pM (by simpa using e))]
  have eF : w4.heap[bF]? = w2.heap[bF]? := by rw [hg4.block bF (by omega) (fun e => h2.vF e.symm), hb3.block bF (by omega), hg3.block bF hF2 (fun e => h2.ne (by simpa using e))]
  have eM : w4.heap[bM]? = w3.heap[bM]? := by rw [hg4.block bM (by omega) (fun e => h2.vM e.symm), hb3.block bM (by omega)]
  have rp : w4.heap[p]? = some (.cells (dcells d bF v bM) 93 (0, 0)) := by rw [ep]; exact h2.row
  obtain ⟨cur, hcur⟩ := ownsRow_block hown4 (g := g) rfl
  have hgp : g ≠ p := fun e => by rw [e, rp] at hcur; cases hcur
  have tt : Turns S w (w4.setCell ⟨p, 2, none⟩ (.slice (some ⟨g, 0, none⟩) (d.L.length + 1) cap)) := by
    refine Turns.set ?_ p 2 _ (fun _ => h2.hp)
    have a1 : Turns S w w3 := t2.trans (Turns.of_grown hg3) (fun j _ e => by cases e; exact h2.hM)
    have a2 : Turns S w w3' := a1.trans (Turns.of_new hb3 (fun _ => False)) (fun _ _ e => e.elim)
    exact a2.trans (Turns.of_grown hg4) (fun j _ e => h2.hv j e)
  refine ⟨tt, fun j => S j ∨ j = g, fun j hj => ?_, bF, bM, .slice (some ⟨g, 0, none⟩) (d.L.length + 1) cap, nf, DF, ?_⟩
  · rcases hj with hj | rfl
    · exact .inl hj
    · rcases hat with h | h
      · exact .inl (h2.hv _ h)
      · exact .inr h
  · exact
      { hp := .inl h2.hp
        hF := .inl h2.hF
        hM := .inl h2.hM
        hv := fun j hj => .inr (by simpa [Value.ownBlock] using hj.symm)
        lt := fun j hj => by
          rcases hj with hj | rfl
          · have h1 := hlt j hj
            have h2 := tt.size
            omega
          · simpa [World.setCell] using hgl
        row := by
          rw [heap_setCell_same w4 p 2 _ _ _ rp]
          have e : (dcells d bF v bM).setIfInBounds 2 (.slice (some ⟨g, 0, none⟩) (d.L.length + 1) cap) = dcells (Dsk.put d k s) bF (.slice (some ⟨g, 0, none⟩) (d.L.length + 1) cap) bM := rfl
          rw [e]
        ne := h2.ne
        mF := ownsMap_same h2.mF (by rw [heap_setCell_other _ _ _ _ h2.pF.symm, eF])
        rF := h2.rF
        mM := by
          have e : Dsk.lastD (Dsk.put d k s).L = (Dsk.lastD d.L).put (Dsk.key k) (Dsk.num d.L.length) := Dsk.lastD_snoc _ _
          rw [e]
          have e2 : (Dsk.put d k s).L.length = d.L.length + 1 := by simp [Dsk.put]
          rw [e2]
          exact ownsMap_same hown3 (by rw [heap_setCell_other _ _ _ _ h2.pM.symm, eM])
        rL := by
          have e : lcells (Dsk.put d k s).L = lcells d.L ++ wcells (k, s) := lcells_snoc _ _
          rw [e]
          have e2 : (Dsk.put d k s).L.length = d.L.length + 1 := by simp [Dsk.put]
          rw [e2]
          exact ownsRow_same hown4 (fun j hj => by
            have : j = g := by simpa [Value.ownBlock] using hj.symm
            subst this
            exact heap_setCell_other _ _ _ _ hgp)
        cnt := by have := h2.cnt; simp [Dsk.put]; omega
        ok := Dsk.put_ok h2.ok hk hs }

theorem put_mid {S : Nat → Prop} {p : Nat} {d : Dsk.St} {w2 w3 : World} {bF bM : Nat} {v : Value} {nf : Nat} {DF : DataW Unit} (h2 : DiskIn S p d w2 bF bM v nf DF) (hg3 : w2.grownBy w3 (some bM)) {B : Nat} {Z : Array Value}
    (r2 : w2.heap[B]? = some (.cells Z 178 (0, 0))) (hBS : ¬ S B) :
    w3.cell? ⟨p, 2, none⟩ = some v ∧ w3.frozen? ⟨p, 2, none⟩ = false ∧ w3.heap[B]? = some (.cells Z 178 (0, 0)) ∧ w3.ownsRow 0 178 65 v d.L.length (lcells d.L) := by
  have e : w3.heap[p]? = w2.heap[p]? := hg3.block p (h2.lt _ h2.hp) (fun e => h2.pM (by simpa using e))
  refine ⟨?_, ?_, ?_, ownsRow_same h2.rL (fun j hj => hg3.block j (h2.lt _ (h2.hv j hj)) (fun e => h2.vM (by rw [hj]; exact e)))⟩
  · rw [World.cell?_of_block e]; exact h2.c2
  · rw [World.frozen?_of_block e]; exact h2.free 2
  · rw [hg3.block B (row_lt r2) (fun e => by
      have : B = bM := by simpa using e
      subst this
      exact hBS h2.hM)]
    exact r2

theorem load_loose (p j : Nat) (v : Value) (u : World) (h : u.cell? ⟨p, j, none⟩ = some v) : (Instr.loadAt 91 (.pointer (some ⟨p, j, none⟩))).run Tryz.prog u = .ok v u := by
  go_simp
theorem load_last (p j : Nat) (v : Value) (u : World) (h : u.cell? ⟨p, j, none⟩ = some v) : (Instr.loadAt 90 (.pointer (some ⟨p, j, none⟩))).run Tryz.prog u = .ok v u := by
  go_simp
theorem DiskIn.len_run {S : Nat → Prop} {p : Nat} {d : Dsk.St} {w : World} {bF bM : Nat} {v : Value} {nf : Nat} {DF : DataW Unit} (h : DiskIn S p d w bF bM v nf DF) (u : World) : (Builtin.len_ #[91] 3 #[v]).run Tryz.prog u = .ok (.int .i64 (d.L.length : Int)) u := by
  rcases h.vlen with ⟨h1, rfl⟩ | ⟨g, cap, rfl, h2⟩
  · rw [h1]
    simp [Builtin.len_, run_underlying Tryz.underlying91, goInt, Result.andThen]
  · simp [Builtin.len_, run_underlying Tryz.underlying91, goInt, Result.andThen]

set_option maxRecDepth 20000 in
set_option maxHeartbeats 400000 in
theorem put_any {S : Nat → Prop} {p : Nat} {d : Dsk.St} {w : World} (h : DiskAt S p d w) (k : Nat) (hk : k < d.n) (s : ByteArray) (hs : s.size = 64) (hops : d.ops ≤ 1099511627776) :
    Calls Tryz.prog 132 #[.pointer (some ⟨p, 0, none⟩), .int .i64 (k : Int), .string s] w fun e w' => e = .returned (.tuple #[]) ∧ Turns S w w' ∧ ∃ S', (∀ j, S' j → S j ∨ w.heap.size ≤ j) ∧ DiskAt S' p (Dsk.put d k s.data.toList) w' := by
  obtain ⟨bF, bM, v, nf, DF, h⟩ := h
  have hb := fun u => build_write k u
  have hz := zero_write
  have hzs := wz_size 0
  have hks := wz_size k
  have hko := wz_one k
  have hi : (Tryz.prog.info? 178).map (·.size) = some 65 := by kernel_rfl
  have hi1 : (Tryz.prog.info? 5).map (·.size) = some 1 := by kernel_rfl
  have hsl : s.data.toList.length = 64 := by rw [ba_len]; exact hs
  have hful := wz_full k s.data.toList hsl
  have hfs := wfull_size k s.data.toList hsl
  have hcp := run_copy_str (P := Tryz.prog) (w.alloc (.cells (wz k) 178)) 62 9 3 5 w.heap.size 1 64 64 s 64 (by rw [hs]; rfl) (wz k) 178 Tryz.underlying62 hi1 (heap_alloc_new _ _) (by rw [hks]; decide)
  rw [World.setRow_alloc_new, hful] at hcp
  have hne := wz_ne
  have hset := wz_set k
  rw [← hset] at hcp hko hks
  clear hset hb
  generalize wz 0 = Z0 at *
  have hz2d : wfull k s.data.toList = wfull k s.data.toList := rfl
  have hz2 : ∀ u ∈ (wfull k s.data.toList).toList, u.oneCell' = true := fun u hu => wcells_one _ u (by simpa [wfull] using hu)
  generalize hZ2 : wfull k s.data.toList = Z2 at *
  clear hz2d
  have hz2d : Z2 = wfull k s.data.toList := hZ2.symm
  clear hZ2
  have Hz2d := Lib.hid hz2d; clear hz2d
  have Hz2 := Lib.hid hz2; clear hz2
  have hsz : (Tryz.prog.info? 178).map (·.size) = some (Z0.setIfInBounds 0 (.int .i64 (k : Int))).size := by rw [hks]; exact hi
  have hss : Z0.size = (Z0.setIfInBounds 0 (.int .i64 (k : Int))).size := by rw [hzs, hks]
  have Hsz := Lib.hid hsz; clear hsz
  have Hss := Lib.hid hss; clear hss
  have Hko := Lib.hid hko; clear hko
  have Hcp := Lib.hid hcp; clear hcp
  have H := Lib.hid h; clear h
  have Hfs := Lib.hid hfs; clear hfs
  have Hs := Lib.hid hs; clear hs
  have Hsl := Lib.hid hsl; clear hsl
  clear hi hi1 hks hful
  go_enter Tryz.func132, Tryz.ntmps132
  go_wp2_with (first | (rw [Hcp.out]; simp only [Result.andThen]; rw [Oper.upon_value]) | (refine wpList_store_whole rfl 178 (.tmp 6) (.tmp 8) rfl w.heap.size (Z0.setIfInBounds 0 (.int .i64 (k : Int))) rfl rfl _ Z0 (heap_alloc_new _ _) Hsz.out Hss.out Hko.out ?_; rw [World.setRow_alloc_new]))
  obtain ⟨w2, hw2⟩ : ∃ w2, w2 = w.alloc (.cells Z2 178) := ⟨_, rfl⟩
  obtain ⟨B, hB⟩ : ∃ B, B = w.heap.size := ⟨_, rfl⟩
  have t2 : Turns S w w2 := by rw [hw2]; exact (Turns.refl S w).alloc _
  have h2 : DiskIn S p d w2 bF bM v nf DF := H.out.keeps (T := fun _ => False) (by rw [hw2]; exact (Turns.refl _ w).alloc _) (fun _ _ => id)
  have r2 : w2.heap[B]? = some (.cells Z2 178 (0, 0)) := by rw [hw2, hB]; exact heap_alloc_new w _
  have hBS : ¬ S B := fun e => by have := H.out.lt B e; omega
  rw [← hw2, ← hB]
  clear Hcp Hko Hss Hsz hne hzs hz
  have c2 := h2.c2
  have c3 := h2.c3
  have mM := h2.mM
  have HB := Lib.hid hB; clear hB
  have Hw2 := Lib.hid hw2; clear hw2
  have T2 := Lib.hid t2; clear t2
  have R2 := Lib.hid r2; clear r2
  have HBS := Lib.hid hBS; clear hBS
  have HM := Lib.hid mM; clear mM
  have H2 := Lib.hid h2; clear h2
  obtain ⟨n, hn⟩ : ∃ n, n = d.L.length := ⟨_, rfl⟩
  have hcnt := H2.out.cnt
  have hlen := fun u => H2.out.len_run u
  rw [← hn] at HM hlen
  have hnb : n ≤ 1099511627776 := by omega
  have Hn := Lib.hid hn; clear hn
  have Hlen := Lib.hid hlen; clear hlen
  clear hcnt
  refine wp_region_mid_np 10 10 (by kernel_rfl) (by kernel_rfl) (fun u => u.cell? ⟨p, 2, none⟩ = some v ∧ u.cell? ⟨p, 3, none⟩ = some (.map (some bM))) ⟨c2, c3⟩ ?_
  simp only [List.take_succ_cons, List.take_zero, List.drop_succ_cons, List.drop_zero, Nat.sub_self]
  refine take_move (.tmp 0) (.pointer (some ⟨p, 0, none⟩)) rfl rfl rfl ?_
  simp only [Act.put, List.setIfInBounds_toArray, List.set_cons_zero, List.set_cons_succ]
  refine take_nil (.tmp 13) ⟨p, 0, none⟩ rfl rfl rfl ?_
  simp only [Act.put, List.setIfInBounds_toArray, List.set_cons_zero, List.set_cons_succ]
  refine take_one (.pointer (some ⟨p, 3, none⟩)) rfl (fun u _ => by go_simp) ?_
  simp only [Act.put, List.setIfInBounds_toArray, List.set_cons_zero, List.set_cons_succ]
  refine take_load 90 (.tmp 15) ⟨p, 3, none⟩ (.map (some bM)) rfl rfl rfl (fun u hu => load_last _ _ _ _ hu.2) ?_
  simp only [Act.put, List.setIfInBounds_toArray, List.set_cons_zero, List.set_cons_succ]
  refine take_move (.tmp 1) (.int .i64 (k : Int)) rfl rfl rfl ?_
  simp only [Act.put, List.setIfInBounds_toArray, List.set_cons_zero, List.set_cons_succ]
  refine take_move (.tmp 0) (.pointer (some ⟨p, 0, none⟩)) rfl rfl rfl ?_
  simp only [Act.put, List.setIfInBounds_toArray, List.set_cons_zero, List.set_cons_succ]
  refine take_nil (.tmp 18) ⟨p, 0, none⟩ rfl rfl rfl ?_
  simp only [Act.put, List.setIfInBounds_toArray, List.set_cons_zero, List.set_cons_succ]
  refine take_one (.pointer (some ⟨p, 2, none⟩)) rfl (fun u _ => by go_simp) ?_
  simp only [Act.put, List.setIfInBounds_toArray, List.set_cons_zero, List.set_cons_succ]
  refine take_load 91 (.tmp 20) ⟨p, 2, none⟩ v rfl rfl rfl (fun u hu => load_loose _ _ _ _ hu.1) ?_
  simp only [Act.put, List.setIfInBounds_toArray, List.set_cons_zero, List.set_cons_succ]
  refine take_one (.int .i64 (n : Int)) rfl (fun u _ => run_len_op (.tmp 21) rfl rfl (Hlen.out u)) ?_
  simp only [Act.put, List.setIfInBounds_toArray, List.set_cons_zero, List.set_cons_succ]
  refine take_done ?_
  refine mid_list ?_
  refine wpList_mapUpdate_own _ rfl _ _ _ 90 rfl 3 3 keyed Tryz.underlying90 (plainElem Tryz.prog 3) bM n (Dsk.lastD d.L) rfl HM.out.drew (by unfold maxLen; omega) _ (.int .i64 ((n : Nat) : Int)) (Dsk.key k) rfl rfl (key_of k (by have := H.out.ok.hi; omega)) (Dsk.num n) [] (plainElem_int Tryz.underlying3 (key_wf n (by omega))) ?_
  intro w3 hown3 hg3'
  have hg3 : w2.grownBy w3 (some bM) := ⟨hg3'.os, hg3'.tape, hg3'.output, hg3'.size, hg3'.block⟩
  clear hg3'
  obtain ⟨q2, f2, r3, l3⟩ := put_mid H2.out hg3 R2.out HBS.out
  rw [← Hn.out] at l3
  have hsl3 := fun u => slice_write Z2 Hfs.out u
  obtain ⟨i0, hi, hi0, hi1, hi2⟩ := info_parts write_info
  have hld := fun (u : World) (h : u.heap[B]? = some (.cells Z2 178 (0, 0))) => load_row (P := Tryz.prog) u B 178 178 Z2 (0, 0) _ h Tryz.underlying178 rfl (by rw [Hfs.out, hi]; simp [hi1])
  clear c2 c3
  have Hl3 := Lib.hid l3; clear l3
  have Hr3 := Lib.hid r3; clear r3
  have Hsl3 := Lib.hid hsl3; clear hsl3
  have Hi := Lib.hid hi; clear hi
  have Hi0 := Lib.hid hi0; clear hi0
  have Hi1 := Lib.hid hi1; clear hi1
  have Hi2 := Lib.hid hi2; clear hi2
  have Hld := Lib.hid hld; clear hld
  have Hown3 := Lib.hid hown3; clear hown3
  have Hg3 := Lib.hid hg3; clear hg3
  have Hq2 := Lib.hid q2; clear q2
  have Hf2 := Lib.hid f2; clear f2
  apply NoPanic.normal
  go_wp2
  refine wp_region_mid_np 6 8 (by kernel_rfl) (by kernel_rfl) (fun u => u.cell? ⟨p, 2, none⟩ = some v ∧ u.heap[B]? = some (.cells Z2 178 (0, 0))) ⟨Hq2.out, Hr3.out⟩ ?_
  simp only [List.take_succ_cons, List.take_zero, List.drop_succ_cons, List.drop_zero, Nat.reduceSub]
  refine take_move (.tmp 0) (.pointer (some ⟨p, 0, none⟩)) rfl rfl rfl ?_
  simp only [Act.put, List.setIfInBounds_toArray, List.set_cons_zero, List.set_cons_succ]
  refine take_move (.tmp 0) (.pointer (some ⟨p, 0, none⟩)) rfl rfl rfl ?_
  simp only [Act.put, List.setIfInBounds_toArray, List.set_cons_zero, List.set_cons_succ]
  refine take_nil (.tmp 24) ⟨p, 0, none⟩ rfl rfl rfl ?_
  simp only [Act.put, List.setIfInBounds_toArray, List.set_cons_zero, List.set_cons_succ]
  refine take_one (.pointer (some ⟨p, 2, none⟩)) rfl (fun u _ => by go_simp) ?_
  simp only [Act.put, List.setIfInBounds_toArray, List.set_cons_zero, List.set_cons_succ]
  refine take_load 91 (.tmp 26) ⟨p, 2, none⟩ v rfl rfl rfl (fun u hu => load_loose _ _ _ _ hu.1) ?_
  simp only [Act.put, List.setIfInBounds_toArray, List.set_cons_zero, List.set_cons_succ]
  refine take_load 178 (.tmp 6) ⟨B, 0, none⟩ (.agg Z2) rfl rfl rfl (fun u hu => Hld.out u hu.2) ?_
  simp only [Act.put, List.setIfInBounds_toArray, List.set_cons_zero, List.set_cons_succ]
  refine take_done ?_
  have hBp : w3.heap.size ≠ p := fun e => by have := H2.out.lt _ H2.out.hp; have := Hg3.out.size; omega
  have hBB : w3.heap.size ≠ B := fun e => by have := row_lt Hr3.out; omega
  have hld2 : w3.drew.heap.size = w3.heap.size := rfl
  refine mid_one (w' := w3.drew.alloc (.cells Z2 178)) (.slice (some ⟨w3.heap.size, 0, none⟩) 1 1) rfl ?_ ?_ ?_
  · exact run_slice_op 91 1 [(0, .tmp 28)] rfl (Hsl3.out w3.drew)
  · refine ⟨?_, ?_⟩
    · have e := Below.heap_alloc w3.drew (.cells Z2 178) p (by have := H2.out.lt _ H2.out.hp; have := Hg3.out.size; exact Nat.lt_of_lt_of_le ‹_› ‹_›)
      rw [World.cell?_of_block e]; exact Hq2.out
    · exact row_alloc (w := w3.drew) Hr3.out _
  refine mid_wp rfl (wp_append_lies _ (.tmp 27) (.tmp 29) 91 rfl 0 178 i0 _ 65 72 Tryz.underlying91 Hi.out Hi0.out Hi1.out Hi2.out (by rfl) (by decide) v n (lcells d.L) rfl (Hl3.out.drew.alloc _) ⟨w3.heap.size, 0, none⟩ 1 1 Z2.toList rfl (by rw [Array.length_toList, Hfs.out]) (World.news_of_block (heap_alloc_new w3.drew _)) Hz2.out (by decide) (by unfold maxLen; omega) (by omega) (Nat.zero_le _) (w3.heap.size + 1) (by simp) ?_)
  intro g cap w4 hown4 hg4 hat hgl
  have hp3 : p < w3.heap.size := by have := H2.out.lt _ H2.out.hp; have := Hg3.out.size; omega
  have e4 : w4.heap[p]? = w3.heap[p]? := by
    rw [hg4.block p (by simp; omega) (fun e => H2.out.vp e.symm)]
    exact Below.heap_alloc w3.drew (.cells Z2 178) p hp3
  have q4 : w4.cell? ⟨p, 2, none⟩ = some v := by rw [World.cell?_of_block e4]; exact Hq2.out
  have f4 : w4.frozen? ⟨p, 2, none⟩ = false := by rw [World.frozen?_of_block e4]; exact Hf2.out
  have r4 : w4.heap[B]? = some (.cells Z2 178 (0, 0)) := by
    rw [hg4.block B (by have := row_lt Hr3.out; simp; omega) (fun e => HBS.out (H2.out.hv B e.symm))]
    exact row_alloc (w := w3.drew) Hr3.out _
  refine ⟨⟨q4, r4⟩, mid_list ?_⟩
  have hb3 : Below w3.heap.size w3 (w3.drew.alloc (.cells Z2 178)) := ((Below.refl _ w3).drew).alloc (Nat.le_refl _) _
  have hfin : Turns S w (w4.setCell ⟨p, 2, none⟩ (.slice (some ⟨g, 0, none⟩) (n + 1) cap)) ∧ ∃ S', (∀ j, S' j → S j ∨ w.heap.size ≤ j) ∧ DiskAt S' p (Dsk.put d k s.data.toList) (w4.setCell ⟨p, 2, none⟩ (.slice (some ⟨g, 0, none⟩) (n + 1) cap)) := by
    have h3 := Hown3.out
    rw [Hz2d.out, wfull, List.toList_toArray] at hown4
    rw [Hn.out] at h3 hown4 ⊢
    exact put_done H2.out H.out.lt T2.out k s.data.toList hk Hsl.out h3 Hg3.out hb3 g cap hown4 hg4 (by
      rcases hat with h | h
      · exact .inl h
      · refine .inr ?_
        have h1 := Hg3.out.size
        have h2 := T2.out.size
        omega) hgl
  have Hfin := Lib.hid hfin; clear hfin
  clear e4 hb3 hown4 hg4 hat hgl r4 hp3 hBp hBB hld2
  go_wp2
  apply NoPanic.normal
  go_wp2
  go_end0
  exact ⟨rfl, Hfin.out⟩
end Go.Proofs.YtalklpnekbfehaaGreat

/-
  Write: the sectors of a text, one by one, till the fuse is used up.
-/
set_option linter.unusedVariables false
namespace Go.Proofs.YtalklpnekbfehaaGreat
namespace Dsk
/-- sector number i of a text -/
def sect (s : List UInt8) (i : Nat) : Sec := (s.drop (64 * i)).take 64
theorem sect_length {s : List UInt8} {i n : Nat} (h : s.length = 64 * n) (hi : i < n) : (sect s i).length = 64 := by simp [sect]; omega
/-- m sectors of a text, from number i on, written from sector k on -/
def wr (s : List UInt8) (k : Nat) : Nat → Nat → St → St
  | 0, _, d => d
  | m + 1, i, d => if d.fuse = 0 then { d with down := true } else wr s k m (i + 1) (put { d with fuse := if 0 < d.fuse then d.fuse - 1 else d.fuse } (k + i) (sect s i))
/-- what Write does -/
def write (d : St) (at_ : Int) (s : List UInt8) : St × Int :=
  if d.down = true then (d, 40) else
  if s.length % 64 ≠ 0 ∨ ¬ (0 ≤ at_ ∧ at_ + (s.length / 64 : Nat) ≤ (d.n : Int)) then (d, 2) else
  let e := wr s at_.toNat (s.length / 64) 0 d
  (e, if e.down = true then 40 else 0)
theorem dec_ok {d : St} (h : d.Ok) : ({ d with fuse := if 0 < d.fuse then d.fuse - 1 else d.fuse } : St).Ok :=
  ⟨h.lo, h.hi, h.fl, h.at_, h.sz, by have := h.fu; simp only; split <;> omega⟩
end Dsk
open Go.RowKit

theorem DiskIn.relax {S T : Nat → Prop} {p : Nat} {d : Dsk.St} {w : World} {bF bM : Nat} {v : Value} {nf : Nat} {DF : DataW Unit} (h : DiskIn S p d w bF bM v nf DF) (hT : ∀ k, S k → T k) (hl : ∀ k, T k → k < w.heap.size) : DiskIn T p d w bF bM v nf DF :=
  { h with hp := hT _ h.hp, hF := hT _ h.hF, hM := hT _ h.hM, hv := fun k hk => hT _ (h.hv k hk), lt := hl }

theorem sect_bytes (s : ByteArray) (i : Nat) : (s.extract (i * 64) ((i + 1) * 64)).data.toList = Dsk.sect s.data.toList i := by
  rw [ByteArray.data_extract, Array.toList_extract, Dsk.sect, List.extract_eq_take_drop, show (i + 1) * 64 - i * 64 = 64 by omega, Nat.mul_comm]
theorem sect_size (s : ByteArray) (i n : Nat) (hs : s.size = 64 * n) (hi : i < n) : (s.extract (i * 64) ((i + 1) * 64)).size = 64 := by
  rw [← ba_len, sect_bytes, Dsk.sect_length (by rw [ba_len]; exact hs) hi]

theorem DiskIn.set4 {S : Nat → Prop} {p : Nat} {d : Dsk.St} {w : World} {bF bM : Nat} {v : Value} {nf : Nat} {DF : DataW Unit} (h : DiskIn S p d w bF bM v nf DF) (n : Int) (hn : -9223372036854775808 ≤ n ∧ n ≤ 9223372036854775807) : DiskIn S p { d with fuse := n } (w.setCell ⟨p, 4, none⟩ (.int .i64 n)) bF bM v nf DF :=
  h.turn (w' := w.setCell ⟨p, 4, none⟩ (.int .i64 n)) ((Turns.refl _ w).set p 4 _ (fun _ => rfl)) n d.down hn (by rw [heap_setCell_same w p 4 _ _ _ h.row]; rfl)
theorem DiskIn.set5 {S : Nat → Prop} {p : Nat} {d : Dsk.St} {w : World} {bF bM : Nat} {v : Value} {nf : Nat} {DF : DataW Unit} (h : DiskIn S p d w bF bM v nf DF) (b : Bool) : DiskIn S p { d with down := b } (w.setCell ⟨p, 5, none⟩ (.bool b)) bF bM v nf DF :=
  h.turn (w' := w.setCell ⟨p, 5, none⟩ (.bool b)) ((Turns.refl _ w).set p 5 _ (fun _ => rfl)) d.fuse b h.ok.fu (by rw [heap_setCell_same w p 5 _ _ _ h.row]; rfl)

theorem write_down {S : Nat → Prop} {p : Nat} {d : Dsk.St} {w : World} (h : DiskAt S p d w) (hd : d.down = true) (at_ : Int) (s : ByteArray) (hs : s.size ≤ 9223372036854775807) :
    Calls Tryz.prog 89 #[.pointer (some ⟨p, 0, none⟩), .int .i64 at_, .string s] w fun e w' => e = .returned (.int .i64 40) ∧ w = w' := by
  obtain ⟨bF, bM, v, nf, DF, h⟩ := h
  have c5 := h.c5
  rw [hd] at c5
  clear h hd
  go_enter Tryz.func89, Tryz.ntmps89
  go_wp2
  go_step3
  go_wp2
  try rw [Exit.noGoto_ret]
  go_ret
  exact ⟨rfl, rfl⟩

theorem write_bad {S : Nat → Prop} {p : Nat} {d : Dsk.St} {w : World} (h : DiskAt S p d w) (hd : d.down = false) (at_ : Int) (ha : -9223372036854775808 ≤ at_ ∧ at_ ≤ 9223372036854775807) (s : ByteArray) (hs : s.size ≤ 9223372036854775807)
    (hb : s.size % 64 ≠ 0 ∨ ¬ (0 ≤ at_ ∧ at_ + (s.size / 64 : Nat) ≤ (d.n : Int))) :
    Calls Tryz.prog 89 #[.pointer (some ⟨p, 0, none⟩), .int .i64 at_, .string s] w fun e w' => e = .returned (.int .i64 2) ∧ w = w' := by
  have hq : (s.size : Int) / 64 = ((s.size / 64 : Nat) : Int) := by omega
  obtain ⟨n, hn⟩ : ∃ n, n = s.size / 64 := ⟨_, rfl⟩
  have hnb : n ≤ 9223372036854775807 := by omega
  rw [← hn] at hq hb
  have hhas := has_any h at_ (n : Int) ha ⟨by omega, by omega⟩
  obtain ⟨bF, bM, v, nf, DF, h⟩ := h
  have c5 := h.c5
  rw [hd] at c5
  clear h hd
  have Hhas := Lib.hid hhas; clear hhas
  have Hn := Lib.hid hn; clear hn
  by_cases hm : s.size % 64 = 0
  · have hm2 : ((s.size : Int) % 64 == 0) = true := by rw [beq_iff_eq]; omega
    have hm3 : ((s.size : Int) % 64 != 0) = false := by rw [bne_eq_false_iff_eq]; omega
    have hno : decide (0 ≤ at_ ∧ 0 ≤ (n : Int) ∧ at_ + (n : Int) ≤ (d.n : Int)) = false := by
      rw [decide_eq_false_iff_not]
      rcases hb with hb | hb
      · exact absurd hm hb
      · omega
    have h2 := Hhas.out
    rw [hno] at h2
    have Hh2 := Lib.hid h2; clear h2
    clear hb hno Hhas ha hm
    go_enter Tryz.func89, Tryz.ntmps89
    go_wp2
    go_step3
    go_wp2_with fail
    refine Hh2.out.mono ?_; rintro e w' ⟨rfl, rfl⟩
    go_wp2_with fail
    try rw [Exit.noGoto_ret]
    go_ret
    exact ⟨rfl, rfl⟩
  · have hm2 : ((s.size : Int) % 64 == 0) = false := by rw [beq_eq_false_iff_ne]; omega
    have hm3 : ((s.size : Int) % 64 != 0) = true := by rw [bne_iff_ne]; omega
    clear hb Hhas ha hm
    go_enter Tryz.func89, Tryz.ntmps89
    go_wp2
    go_step3
    go_wp2_with fail
    try rw [Exit.noGoto_ret]
    go_ret
    exact ⟨rfl, rfl⟩

theorem write_good {S : Nat → Prop} {p : Nat} {d : Dsk.St} {w : World} (h : DiskAt S p d w) (hd : d.down = false) (k : Nat) (s : ByteArray) (n : Nat) (hs : s.size = 64 * n) (hfit : k + n ≤ d.n) (hops : d.ops + n ≤ 1099511627776) :
    Calls Tryz.prog 89 #[.pointer (some ⟨p, 0, none⟩), .int .i64 (k : Int), .string s] w fun e w' => e = .returned (.int .i64 (if (Dsk.wr s.data.toList k n 0 d).down = true then 40 else 0)) ∧ Turns S w w' ∧ ∃ S', (∀ j, S' j → S j ∨ w.heap.size ≤ j) ∧ DiskAt S' p (Dsk.wr s.data.toList k n 0 d) w' := by
  have ho := h.ok
  have hhi := ho.hi
  have hhas := has_any h (k : Int) (n : Int) ⟨by omega, by omega⟩ ⟨by omega, by omega⟩
  have hyes : decide (0 ≤ (k : Int) ∧ 0 ≤ (n : Int) ∧ (k : Int) + (n : Int) ≤ (d.n : Int)) = true := by rw [decide_eq_true_iff]; omega
  rw [hyes] at hhas
  have hq : (s.size : Int) / 64 = (n : Int) := by omega
  have hm2 : ((s.size : Int) % 64 == 0) = true := by rw [beq_iff_eq]; omega
  have hm3 : ((s.size : Int) % 64 != 0) = false := by rw [bne_eq_false_iff_eq]; omega
  have hsb : s.size ≤ 1048576 := by omega
  have hin := h
  obtain ⟨bF, bM, v, nf, DF, h⟩ := h
  have c5 := h.c5
  rw [hd] at c5
  have Hin := Lib.hid hin; clear hin
  have Hs := Lib.hid hs; clear hs
  have Hhas := Lib.hid hhas; clear hhas
  have Hd := Lib.hid hd; clear hd
  have Ho := Lib.hid ho; clear ho
  clear h hyes
  go_enter Tryz.func89, Tryz.ntmps89
  go_wp2
  go_step3
  go_wp2_with fail
  refine Hhas.out.mono ?_; rintro e w' ⟨rfl, rfl⟩
  go_wp2_with fail
  go_step3
  go_wp2_with fail
  go_loopw [33] (fun c wr => ∃ i d' S', i ≤ n ∧ c = .int .i64 (i : Int) ∧ d'.down = false ∧ Dsk.wr s.data.toList k (n - i) i d' = Dsk.wr s.data.toList k n 0 d ∧ d'.n = d.n ∧ d'.ops + (n - i) ≤ 1099511627776 ∧ Turns S w wr ∧ (∀ j, S' j → S j ∨ w.heap.size ≤ j) ∧ DiskAt S' p d' wr) (fun c _ => n - (intOf c).toNat)
  case atStart => exact ⟨0, d, S, by omega, rfl, Hd.out, rfl, rfl, by omega, Turns.refl S w, fun j h => .inl h, Hin.out⟩
  case round =>
    obtain ⟨i, d', S', hi, rfl, hdd, hwr, hn', hops', ht, hS', hat⟩ := hrel
    obtain ⟨bF', bM', v', nf', DF', hin'⟩ := hat
    have c4 := hin'.c4
    have c5' := hin'.c5
    rw [hdd] at c5'
    have f4 := hin'.free 4
    have f5 := hin'.free 5
    have Hwr := Lib.hid hwr; clear hwr
    have Hn' := Lib.hid hn'; clear hn'
    have Hdd := Lib.hid hdd; clear hdd
    have Ht := Lib.hid ht; clear ht
    have HS' := Lib.hid hS'; clear hS'
    have Hin' := Lib.hid hin'; clear hin'
    clear c5
    have hok' := Hin'.out.ok
    by_cases hlt : i < n
    · have hstep : Dsk.wr s.data.toList k (n - i) i d' = if d'.fuse = 0 then { d' with down := true } else Dsk.wr s.data.toList k (n - (i + 1)) (i + 1) (Dsk.put { d' with fuse := if 0 < d'.fuse then d'.fuse - 1 else d'.fuse } (k + i) (Dsk.sect s.data.toList i)) := by
        rw [show n - i = (n - (i + 1)) + 1 by omega]; rfl
      have Hstep := Lib.hid hstep; clear hstep
      by_cases hf : d'.fuse = 0
      · rw [hf] at c4
        have hE : Dsk.wr s.data.toList k n 0 d = { d' with down := true } := by rw [← Hwr.out, Hstep.out, if_pos hf]
        have HE := Lib.hid hE; clear hE
        have Hf := Lib.hid hf; clear hf
        clear hok'
        go_wp2_with fail
        rw [Exit.noGoto_ret]
        go_ret
        refine ⟨by rw [HE.out]; rfl, Ht.out.set p 5 _ (fun _ => Hin.out.hp), S', HS'.out, ?_⟩
        rw [HE.out]
        exact ⟨_, _, _, _, _, Hin'.out.set5 true⟩
      · have hb0 : (d'.fuse == 0) = false := by rw [beq_eq_false_iff_ne]; exact hf
        have hx0 : 0 ≤ (i : Int) * 64 := by omega
        have hx1 : (i : Int) * 64 ≤ ((i : Int) + 1) * 64 := by omega
        have hx2 : ((i : Int) + 1) * 64 ≤ (s.size : Int) := by have := Hs.out; omega
        by_cases hp : 0 < d'.fuse
        · have hb1 : decide (0 < d'.fuse) = true := decide_eq_true hp
          have h4 := Hin'.out.set4 (d'.fuse - 1) (by have := hok'.fu; omega)
          have hfu := hok'.fu
          generalize hfe : d'.fuse = f at c4 hb0 hb1 hp hf hfu h4
          have Hfe := Lib.hid hfe; clear hfe
          have H4 := Lib.hid h4; clear h4
          clear hok' hf
          have hput := put_any (S := S') (p := p) (w := wr.setCell ⟨p, 4, none⟩ (.int .i64 (f - 1))) ⟨_, _, _, _, _, H4.out⟩ (k + i) (by have := Hn'.out; simp only; omega) (s.extract (i * 64) ((i + 1) * 64)) (sect_size s i n Hs.out hlt) (by simp only; omega)
          rw [Int.natCast_add, sect_bytes] at hput
          have Hput := Lib.hid hput; clear hput
          go_wp2_with fail
          refine Hput.out.mono ?_; rintro e w3 ⟨rfl, ht3, S3, hS3, hat3⟩
          have hT : Turns S w w3 := (Ht.out.set p 4 _ (fun _ => Hin.out.hp)).trans ht3 (fun j hj hj2 => by
            rcases HS'.out j hj2 with h | h
            · exact h
            · omega)
          have hS4 : ∀ j, S3 j → S j ∨ w.heap.size ≤ j := fun j hj => by
            rcases hS3 j hj with h | h
            · exact HS'.out j h
            · have := Ht.out.size; simp [World.setCell] at h; exact .inr (by omega)
          have HT := Lib.hid hT; clear hT
          have HS4 := Lib.hid hS4; clear hS4
          have Hat3 := Lib.hid hat3; clear hat3
          clear hS3 ht3
          go_wp2_with fail
          go_roundw
          case rel =>
            have h1 := Hwr.out
            rw [Hstep.out, Hfe.out, if_neg (by omega), if_pos hp] at h1
            exact ⟨i + 1, Dsk.put { d' with fuse := f - 1 } (k + i) (Dsk.sect s.data.toList i), S3, by omega, by go_num, Hdd.out, h1, Hn'.out, by simp only [Dsk.put]; omega, HT.out, HS4.out, Hat3.out⟩
          case measure => simp [intOf]; omega
        · have hb1 : decide (0 < d'.fuse) = false := decide_eq_false hp
          have hsame : ({ d' with fuse := if 0 < d'.fuse then d'.fuse - 1 else d'.fuse } : Dsk.St) = d' := by rw [if_neg hp]
          rw [hsame] at Hstep
          have hput := put_any (S := S') (p := p) (w := wr) ⟨_, _, _, _, _, Hin'.out⟩ (k + i) (by have := Hn'.out; omega) (s.extract (i * 64) ((i + 1) * 64)) (sect_size s i n Hs.out hlt) (by omega)
          rw [Int.natCast_add, sect_bytes] at hput
          have Hput := Lib.hid hput; clear hput
          clear hsame
          generalize hfe : d'.fuse = f at c4 hb0 hb1 hp hf
          have Hfe := Lib.hid hfe; clear hfe
          clear hok'
          go_wp2_with fail
          refine Hput.out.mono ?_; rintro e w3 ⟨rfl, ht3, S3, hS3, hat3⟩
          have hT : Turns S w w3 := Ht.out.trans ht3 (fun j hj hj2 => by
            rcases HS'.out j hj2 with h | h
            · exact h
            · omega)
          have hS4 : ∀ j, S3 j → S j ∨ w.heap.size ≤ j := fun j hj => by
            rcases hS3 j hj with h | h
            · exact HS'.out j h
            · have := Ht.out.size; exact .inr (by omega)
          have HT := Lib.hid hT; clear hT
          have HS4 := Lib.hid hS4; clear hS4
          have Hat3 := Lib.hid hat3; clear hat3
          have Hf := Lib.hid hf; clear hf
          clear hS3 ht3
          go_wp2_with fail
          go_roundw
          case rel =>
            have h1 := Hwr.out
            rw [Hstep.out, if_neg (by rw [Hfe.out]; exact Hf.out)] at h1
            exact ⟨i + 1, Dsk.put d' (k + i) (Dsk.sect s.data.toList i), S3, by omega, by go_num, Hdd.out, h1, Hn'.out, by simp only [Dsk.put]; omega, HT.out, HS4.out, Hat3.out⟩
          case measure => simp [intOf]; omega
    · obtain rfl : i = n := by omega
      have hE : Dsk.wr s.data.toList k i 0 d = d' := by rw [← Hwr.out, Nat.sub_self]; rfl
      have HE := Lib.hid hE; clear hE
      clear hok'
      go_wp2_with fail
      rw [Exit.noGoto_ret]
      go_ret
      rw [HE.out]
      exact ⟨by rw [Hdd.out]; rfl, Ht.out, S', HS'.out, _, _, _, _, _, Hin'.out⟩
end Go.Proofs.YtalklpnekbfehaaGreat

/-
  Read: sectors, one behind the other. Builder.Write of a slice that the call made.
-/
set_option linter.unusedVariables false
namespace Go.Proofs.YtalklpnekbfehaaGreat
namespace Dsk
/-- so many sectors, from sector k on -/
def rd (d : St) (k n : Nat) : List UInt8 := (List.range n).flatMap fun j => now d (k + j)
theorem rd_succ (d : St) (k n : Nat) : rd d k (n + 1) = rd d k n ++ now d (k + n) := by simp [rd, List.range_succ]
theorem rd_length {d : St} (h : d.Ok) (k n : Nat) : (rd d k n).length = 64 * n := by
  induction n with
  | zero => rfl
  | succ n ih => rw [rd_succ, List.length_append, ih, now_length h]; omega
end Dsk
open Go.RowKit

theorem check_used (b : Nat) (w : World) (h0 : w.cell? ⟨b, 0, none⟩ = some (.pointer (some ⟨b, 0, none⟩))) :
    Calls Tryz.prog 138 #[.pointer (some ⟨b, 0, none⟩)] w fun e w' => e = .returned (.tuple #[]) ∧ w = w' := by
  obtain ⟨j, hj, _⟩ := Option.map_eq_some_iff.1 (show (Tryz.prog.info? 155).map (·.size) = some 2 by kernel_rfl)
  have hq := Lib.run_neq_ptr_same w ⟨b, 0, none⟩ Tryz.underlying153 hj
  have Hq := Lib.hid hq; clear hq
  clear hj
  go_enter Tryz.func138, Tryz.ntmps138
  go_wp2
  rw [Hq.out]
  go_wp2
  go_end0
  exact ⟨rfl, rfl⟩

theorem byte_info : (Tryz.prog.info? 5).map (fun i => (i.zero, i.size, i.bytes)) = some (some (.int .u8 0), 1, 1) := by kernel_rfl

set_option maxHeartbeats 1000000 in
theorem bwrite_any (B b : Nat) (bs : List Value) (w : World) (h : Lib.BuilderAt 155 5 B b (.pointer (some ⟨b, 0, none⟩)) bs w) (g : Nat) (x : List UInt8) (T : TypeId) (hg : w.heap[g]? = some (.cells (u8s x) T (0, 0))) (hx : x.length = 64) (hlen : bs.length ≤ 1099511627776) (hBw : B ≤ w.heap.size) :
    Calls Tryz.prog 112 #[.pointer (some ⟨b, 0, none⟩), .slice (some ⟨g, 0, none⟩) 64 64] w fun e w' => e = .returned (.tuple #[.int .i64 64, .nilIface]) ∧ Lib.BuilderAt 155 5 B b (.pointer (some ⟨b, 0, none⟩)) (bs ++ (u8s x).toList) w' ∧ Below B w w' := by
  obtain ⟨hBb, v, hrow, hown, hne⟩ := h
  obtain ⟨i0, hi, hi0, hi1, hi2⟩ := info_parts byte_info
  have c0 : w.cell? ⟨b, 0, none⟩ = some (.pointer (some ⟨b, 0, none⟩)) := by rw [cell_of_row w b 0 _ _ _ hrow]; rfl
  have c1 : w.cell? ⟨b, 1, none⟩ = some v := by rw [cell_of_row w b 1 _ _ _ hrow]; rfl
  have f1 := row_free hrow 1
  have hck := check_used b w c0
  have hnews := World.news_of_block hg
  have hone : ∀ u ∈ (u8s x).toList, u.oneCell' = true := fun u hu => by
    have := u8s_one x
    rw [Array.all_eq_true_iff_forall_mem] at this
    exact this u (by simpa using hu)
  have hxl : (u8s x).toList.length = 64 * 1 := by simp [hx]
  have hbl := row_lt hrow
  clear c0
  have Hck := Lib.hid hck; clear hck
  have Hown := Lib.hid hown; clear hown
  have Hrow := Lib.hid hrow; clear hrow
  have Hnews := Lib.hid hnews; clear hnews
  have Hone := Lib.hid hone; clear hone
  have Hxl := Lib.hid hxl; clear hxl
  have Hi := Lib.hid hi; clear hi
  have Hi0 := Lib.hid hi0; clear hi0
  have Hi1 := Lib.hid hi1; clear hi1
  have Hi2 := Lib.hid hi2; clear hi2
  have Hne := Lib.hid hne; clear hne
  clear hg hx
  go_enter Tryz.func112, Tryz.ntmps112
  go_wp2_with fail
  refine Hck.out.mono ?_; rintro e w' ⟨rfl, rfl⟩
  go_wp2_with (at_builtin; refine wpList_append_lies _ rfl (.tmp 12) (.tmp 13) 62 rfl B 5 i0 _ 1 1 Tryz.underlying62 Hi.out Hi0.out Hi1.out Hi2.out rfl (by decide) v bs.length bs rfl Hown.out ⟨g, 0, none⟩ 64 64 (u8s x).toList rfl Hxl.out Hnews.out Hone.out (by decide) (by unfold maxLen; omega) (by omega) hBw w.heap.size rfl ?_)
  intro g2 cap w2 hown2 hg2 hat hlt
  have r2 : w2.heap[b]? = some (.cells #[.pointer (some ⟨b, 0, none⟩), v] 155 (0, 0)) := by rw [hg2.block b hbl (fun e => Hne.out e.symm)]; exact Hrow.out
  have c2 : w2.cell? ⟨b, 1, none⟩ = some v := by rw [cell_of_row w2 b 1 _ _ _ r2]; rfl
  have f2 := row_free r2 1
  have hgb : g2 ≠ b := fun e => by
    rcases hat with h | h
    · exact Hne.out (by rw [h, e])
    · omega
  have hB2 : Below B w w2 := (Below.refl B w).grown hg2 hBw (fun k hk => (World.ownsRow.lt Hown.out k hk).1)
  have hfin : Lib.BuilderAt 155 5 B b (.pointer (some ⟨b, 0, none⟩)) (bs ++ (u8s x).toList) (w2.setCell ⟨b, 1, none⟩ (.slice (some ⟨g2, 0, none⟩) (bs.length + 64) cap)) ∧ Below B w (w2.setCell ⟨b, 1, none⟩ (.slice (some ⟨g2, 0, none⟩) (bs.length + 64) cap)) := by
    have hl : (bs ++ (u8s x).toList).length = bs.length + 64 := by rw [List.length_append, Hxl.out]
    refine ⟨⟨hBb, .slice (some ⟨g2, 0, none⟩) (bs.length + 64) cap, ?_, ?_, ?_⟩, hB2.setCell (p := ⟨b, 1, none⟩) hBb _⟩
    · rw [heap_setCell_same w2 b 1 _ _ _ r2]; rfl
    · rw [hl]
      exact ownsRow_same hown2 (fun j hj => by
        have : j = g2 := by simpa [Value.ownBlock] using hj.symm
        subst this
        exact heap_setCell_other _ _ _ _ hgb)
    · simp [Value.ownBlock, hgb]
  have Hfin := Lib.hid hfin; clear hfin
  clear hg2 hat hlt hown2 r2 hgb hB2 c1 f1
  go_wp2_with fail
  go_ret2
  exact ⟨rfl, Hfin.out⟩


theorem builder_new {B b : Nat} {q : Value} {bs : List Value} {w w' : World} (h : Lib.BuilderAt 155 5 B b q bs w) (hb : Below w.heap.size w w') : Lib.BuilderAt 155 5 B b q bs w' := by
  obtain ⟨h1, v, h2, h3, h4⟩ := h
  exact ⟨h1, v, row_below h2 hb (row_lt h2), ownsRow_same h3 (fun g hg => hb.block g (World.ownsRow.lt h3 g hg).2), h4⟩
theorem u8s_app (a b : List UInt8) : (u8s a).toList ++ (u8s b).toList = (u8s (a ++ b)).toList := by simp [u8s]

section
variable {S : Nat → Prop} {p : Nat} {d : Dsk.St} {w : World}
theorem read_down (h : DiskAt S p d w) (hd : d.down = true) (at_ n : Int) : Calls Tryz.prog 66 #[.pointer (some ⟨p, 0, none⟩), .int .i64 at_, .int .i64 n] w fun e w' => e = .returned (.tuple #[.string ⟨#[]⟩, .int .i64 40]) ∧ w = w' := by
  obtain ⟨bF, bM, v, nf, DF, h⟩ := h
  have c5 := h.c5
  rw [hd] at c5
  clear h hd
  go_enter Tryz.func66, Tryz.ntmps66
  go_wp2
  go_ret2
  exact ⟨rfl, rfl⟩
theorem read_bad (h : DiskAt S p d w) (hd : d.down = false) (at_ n : Int) (ha : -9223372036854775808 ≤ at_ ∧ at_ ≤ 9223372036854775807) (hn : -9223372036854775808 ≤ n ∧ n ≤ 9223372036854775807) (hb : ¬ (0 ≤ at_ ∧ 0 ≤ n ∧ at_ + n ≤ (d.n : Int))) :
    Calls Tryz.prog 66 #[.pointer (some ⟨p, 0, none⟩), .int .i64 at_, .int .i64 n] w fun e w' => e = .returned (.tuple #[.string ⟨#[]⟩, .int .i64 2]) ∧ w = w' := by
  have hhas := has_any h at_ n ha hn
  rw [decide_eq_false hb] at hhas
  obtain ⟨bF, bM, v, nf, DF, h⟩ := h
  have c5 := h.c5
  rw [hd] at c5
  have Hhas := Lib.hid hhas; clear hhas
  clear h hd hb ha hn
  go_enter Tryz.func66, Tryz.ntmps66
  go_wp2_with fail
  refine Hhas.out.mono ?_; rintro e w' ⟨rfl, rfl⟩
  go_wp2_with fail
  go_ret2
  exact ⟨rfl, rfl⟩

set_option maxRecDepth 20000 in
set_option maxHeartbeats 1000000 in
theorem read_good (h : DiskAt S p d w) (hd : d.down = false) (k n : Nat) (hfit : k + n ≤ d.n) :
    Calls Tryz.prog 66 #[.pointer (some ⟨p, 0, none⟩), .int .i64 (k : Int), .int .i64 (n : Int)] w fun e w' => e = .returned (.tuple #[.string ⟨(Dsk.rd d k n).toArray⟩, .int .i64 0]) ∧ Below w.heap.size w w' := by
  have ho := h.ok
  have hhi := ho.hi
  have hhas := has_any h (k : Int) (n : Int) ⟨by omega, by omega⟩ ⟨by omega, by omega⟩
  rw [show decide (0 ≤ (k : Int) ∧ 0 ≤ (n : Int) ∧ (k : Int) + (n : Int) ≤ (d.n : Int)) = true by rw [decide_eq_true_iff]; omega] at hhas
  have hin := h
  obtain ⟨bF, bM, v, nf, DF, h⟩ := h
  have c5 := h.c5
  rw [hd] at c5
  have hnb : n ≤ 16384 := by omega
  obtain ⟨w1, hw1⟩ : ∃ w1, w1 = w.alloc (.cells #[.pointer none, .slice none 0 0] 155) := ⟨_, rfl⟩
  have hb1 : Below w.heap.size w w1 := by rw [hw1]; exact (Below.refl _ w).alloc (Nat.le_refl _) _
  have hgr := Tryz.Builder_Grow_fresh w.heap.size w.heap.size (n * 64) w1 (Nat.le_refl _) (by rw [hw1]; exact heap_alloc_new w _) hb1.size (by omega)
  rw [show ((n * 64 : Nat) : Int) = (n : Int) * 64 by omega, hw1] at hgr
  rw [hw1] at hb1
  have Hgr := Lib.hid hgr; clear hgr
  have Hb1 := Lib.hid hb1; clear hb1
  have Hin := Lib.hid hin; clear hin
  have Hhas := Lib.hid hhas; clear hhas
  have Ho := Lib.hid ho; clear ho
  clear h hd hw1 w1
  go_enter Tryz.func66, Tryz.ntmps66
  go_wp2_with fail
  refine Hhas.out.mono ?_; rintro e w' ⟨rfl, rfl⟩
  go_wp2_with fail
  refine Hgr.out.mono ?_; rintro e w2 ⟨rfl, hbu, hb2⟩
  have hb3 : Below w.heap.size w w2 := Hb1.out.trans hb2
  have Hbu := Lib.hid hbu; clear hbu
  have Hb3 := Lib.hid hb3; clear hb3
  clear hb2 Hb1
  go_wp2_with fail
  go_loopw [29] (fun c wr => ∃ i, i ≤ n ∧ c = .int .i64 (i : Int) ∧ Lib.BuilderAt 155 5 w.heap.size w.heap.size (.pointer (some ⟨w.heap.size, 0, none⟩)) (u8s (Dsk.rd d k i)).toList wr ∧ Below w.heap.size w wr) (fun c _ => n - (intOf c).toNat)
  case atStart => exact ⟨0, by omega, rfl, Hbu.out, Hb3.out⟩
  case round =>
    clear Hbu Hb3 c5
    obtain ⟨i, hi, rfl, hbu, hbl⟩ := hrel
    have hat := Hin.out.new hbl
    have Hbu := Lib.hid hbu; clear hbu
    have Hbl := Lib.hid hbl; clear hbl
    have Hat := Lib.hid hat; clear hat
    by_cases hlt : i < n
    · have hget := get_any Hat.out (k + i) (by omega)
      rw [Int.natCast_add] at hget
      have hnl := Dsk.now_length Ho.out (k + i)
      have hz := zero_sec
      have hzs := zer_size
      have hi64 : (Tryz.prog.info? 145).map (·.size) = some 64 := by kernel_rfl
      have hns : (u8s (Dsk.now d (k + i))).size = 64 := by rw [u8s_size, hnl]
      have hone := u8s_one (Dsk.now d (k + i))
      have hrd := Dsk.rd_succ d k i
      generalize hx : Dsk.now d (k + i) = x at *
      clear hx
      generalize hZ : u8s Dsk.zer = Z at *
      clear hZ
      have hsz : (Tryz.prog.info? 145).map (·.size) = some (u8s x).size := by rw [hns]; exact hi64
      have hss : Z.size = (u8s x).size := by rw [hzs, hns]
      have Hget := Lib.hid hget; clear hget
      have Hnl := Lib.hid hnl; clear hnl
      have Hsz := Lib.hid hsz; clear hsz
      have Hss := Lib.hid hss; clear hss
      have Hone := Lib.hid hone; clear hone
      have Hrd := Lib.hid hrd; clear hrd
      clear hzs hi64 hns
      go_wp2_with fail
      refine Hget.out.mono ?_; rintro e w3 ⟨rfl, hb3⟩
      have hb4 : Below w.heap.size w w3 := Hbl.out.trans (hb3.mono Hbl.out.size)
      have hbu3 : Lib.BuilderAt 155 5 w.heap.size w.heap.size (.pointer (some ⟨w.heap.size, 0, none⟩)) (u8s (Dsk.rd d k i)).toList w3 := builder_new Hbu.out hb3
      have Hb4 := Lib.hid hb4; clear hb4
      have Hbu3 := Lib.hid hbu3; clear hbu3
      clear hb3
      go_wp2_with (refine wpList_store_whole rfl 145 (.tmp 10) (.tmp 36) rfl w3.heap.size (u8s x) rfl rfl _ Z (heap_alloc_new _ _) Hsz.out Hss.out Hone.out ?_; rw [World.setRow_alloc_new])
      have hbu4 := builder_new Hbu3.out ((Below.refl w3.heap.size w3).alloc (Nat.le_refl _) (.cells (u8s x) 145))
      have hb5 : Below w.heap.size w (w3.alloc (.cells (u8s x) 145)) := Hb4.out.alloc Hb4.out.size _
      have hrl := Dsk.rd_length Ho.out k i
      have hwr := bwrite_any w.heap.size w.heap.size (u8s (Dsk.rd d k i)).toList _ hbu4 w3.heap.size x 145 (heap_alloc_new w3 _) Hnl.out (by simp [hrl]; omega) hb5.size
      have Hwr := Lib.hid hwr; clear hwr
      have Hb5 := Lib.hid hb5; clear hb5
      clear hbu4 hrl
      refine Hwr.out.mono ?_; rintro e w4 ⟨rfl, hbu5, hb6⟩
      have hb7 := Hb5.out.trans hb6
      rw [u8s_app, ← Hrd.out] at hbu5
      have Hbu5 := Lib.hid hbu5; clear hbu5
      have Hb7 := Lib.hid hb7; clear hb7
      clear hb6
      go_wp2_with fail
      go_roundw
      case rel => exact ⟨i + 1, by omega, by go_num, Hbu5.out, Hb7.out⟩
      case measure => simp [intOf]; omega
    · obtain rfl : i = n := by omega
      have hst := Tryz.Builder_String_any w.heap.size w.heap.size (Dsk.rd d k i) wr (.inr Hbu.out) Hbl.out.size
      have Hst := Lib.hid hst; clear hst
      go_wp2_with fail
      refine Hst.out.mono ?_; rintro e w4 ⟨rfl, hb4⟩
      go_wp2_with fail
      go_ret2
      exact ⟨rfl, Hbl.out.trans hb4⟩
end
end Go.Proofs.YtalklpnekbfehaaGreat

/-
  kept: it goes over the loose writes that a crash keeps.
-/
set_option linter.unusedVariables false
namespace Go.Proofs.YtalklpnekbfehaaGreat
namespace Dsk
/-- of the first i loose writes, those that a crash keeps -/
def done (keep : List UInt8) (L : List (Nat × Sec)) (i : Nat) : List (Nat × Sec) := if keep = [] then [] else keptF keep 0 (L.take i)
theorem done_zero (keep : List UInt8) (L : List (Nat × Sec)) : done keep L 0 = [] := by unfold done; split <;> simp [keptF]
theorem done_all (keep : List UInt8) (L : List (Nat × Sec)) : done keep L L.length = kept keep L := by unfold done kept; simp
theorem done_succ {keep : List UInt8} {L : List (Nat × Sec)} {i : Nat} {x : Nat × Sec} (hk : keep ≠ []) (hx : L[i]? = some x) : done keep L (i + 1) = done keep L i ++ (if odd keep i then [x] else []) := by
  have hi : i < L.length := (List.getElem?_eq_some_iff.1 hx).1
  unfold done
  rw [if_neg hk, if_neg hk, List.take_add_one, hx]
  simp only [Option.toList_some]
  rw [keptF_snoc]
  simp [Nat.min_eq_left (Nat.le_of_lt hi)]
end Dsk
open Go.RowKit
attribute [local go_sem] Oper.semAt_some

theorem kept_any (p : Option Addr) (s : ByteArray) (w : World) :
    Calls Tryz.prog 84 #[.pointer p, .string s] w fun e w' => e = .returned (.func (.func 128) #[] #[.pointer (some ⟨w.heap.size + 1, 0, none⟩), .pointer (some ⟨w.heap.size, 0, none⟩)]) ∧ w' = (w.alloc (.cells #[.pointer p] 34)).alloc (.cells #[.string s] 9) := by
  go_enter Tryz.func84, Tryz.ntmps84
  go_wp2
  go_ret
  exact ⟨rfl, rfl⟩

/-- what lies where while the iterator runs, i loose writes having been gone over; B: where the boxes begin -/
structure Ist (w : World) (B p bF nf : Nat) (keep : ByteArray) (d : Dsk.St) (i : Nat) (W : World) : Prop where
  tu : Turns (fun k => k = bF) w W
  b0 : W.heap[B]? = some (.cells #[.pointer (some ⟨p, 0, none⟩)] 34 (0, 0))
  b1 : W.heap[B + 1]? = some (.cells #[.pointer (some ⟨p, 0, none⟩)] 34 (0, 0))
  b2 : W.heap[B + 2]? = some (.cells #[.string keep] 9 (0, 0))
  mp : ∃ DF, W.ownsMap Tryz.prog 3 secElem bF (nf + i) DF ∧ Dsk.Reads DF (Dsk.lay (Dsk.done keep.data.toList d.L i) d.fl)

variable {w : World} {B p bF nf : Nat} {keep : ByteArray} {d : Dsk.St} {i : Nat} {W : World}
theorem Ist.alloc (h : Ist w B p bF nf keep d i W) (o : Obj) : Ist w B p bF nf keep d i (W.alloc o) :=
  ⟨h.tu.alloc o, row_alloc h.b0 o, row_alloc h.b1 o, row_alloc h.b2 o, by obtain ⟨DF, h1, h2⟩ := h.mp; exact ⟨DF, h1.alloc o, h2⟩⟩
theorem Ist.drew (h : Ist w B p bF nf keep d i W) : Ist w B p bF nf keep d i W.drew := ⟨h.tu.drew, h.b0, h.b1, h.b2, h.mp⟩
theorem Ist.next (h : Ist w B p bF nf keep d i W) (hk : keep.data.toList ≠ []) {x : Nat × List UInt8} (hx : d.L[i]? = some x) (ho : Dsk.odd keep.data.toList i = false) : Ist w B p bF nf keep d (i + 1) W :=
  ⟨h.tu, h.b0, h.b1, h.b2, by
    obtain ⟨DF, h1, h2⟩ := h.mp
    refine ⟨DF, h1.mono (by omega), ?_⟩
    rw [Dsk.done_succ hk hx, ho]
    simpa using h2⟩
theorem Ist.stays (hbF : bF < w.heap.size) {C : Nat} (hC : w.heap.size ≤ C) : Stays C (fun W => Ist w B p bF nf keep d i W) := fun W l o o' hl ho hc hj => by
  have hne : bF ≠ l := fun e => by omega
  refine ⟨⟨hj.tu.os, hj.tu.tape, hj.tu.output, by show _ ≤ (W.putObj l o').heap.size; rw [World.putObj_size]; exact hj.tu.size, fun k hk hn => ?_⟩, Stays.row W l o o' hl ho hc hj.b0, Stays.row W l o o' hl ho hc hj.b1, Stays.row W l o o' hl ho hc hj.b2, ?_⟩
  · rw [show (W.putObj l o').heap[k]? = W.heap[k]? from World.putObj_heap_other (by omega)]
    exact hj.tu.block k hk hn
  · obtain ⟨DF, h1, h2⟩ := hj.mp
    exact ⟨DF, ownsMap_same h1 (World.putObj_heap_other (fun e => hne e)), h2⟩

/-- the write that is yielded -/
def wenc (d : Dsk.St) (i : Nat) : Array Value := #[.int .i64 ((d.L.getD i (0, [])).1 : Int), .agg (u8s (d.L.getD i (0, [])).2)]
def Iin (w : World) (B p bF nf : Nat) (keep : ByteArray) (d : Dsk.St) (i : Nat) (W : World) : Prop := (i < d.L.length ∧ keep.data.toList ≠ [] ∧ Dsk.odd keep.data.toList i = true) ∧ Ist w B p bF nf keep d i W
theorem Ist.empty (h : Ist w B p bF nf keep d 0 W) (hk : keep.data.toList = []) (n : Nat) : Ist w B p bF nf keep d n W :=
  ⟨h.tu, h.b0, h.b1, h.b2, by
    obtain ⟨DF, h1, h2⟩ := h.mp
    refine ⟨DF, h1.mono (by omega), ?_⟩
    have e : ∀ j, Dsk.done keep.data.toList d.L j = [] := fun j => by unfold Dsk.done; rw [if_pos hk]
    rw [e] at h2 ⊢
    exact h2⟩

set_option maxRecDepth 100000 in
set_option maxHeartbeats 1000000 in
theorem iter_any {S : Nat → Prop} {bM : Nat} {v : Value} {DF : DataW Unit} (h : DiskIn S p d w bF bM v nf DF) (hB : w.heap.size ≤ B) (hks : keep.size ≤ 1099511627776) (hnb : nf + d.L.length ≤ 1099511627776)
    (C : Nat) (ly : Nat) (Book : World → Prop) (W1 : World) (hBook : ∀ A A', KeepsFrom C A A' → Book A → Book A') (hb1 : Book W1) (hist : Ist w B p bF nf keep d 0 W1)
    (hY : ∀ i W, Book W → Iin w B p bF nf keep d i W → YieldAt Fence.wide 3 Tryz.prog ly (wenc d i) W fun e W' => e = .returned (.bool true) ∧ Book W' ∧ Ist w B p bF nf keep d (i + 1) W') :
    CallsIn Fence.wide 4 Tryz.prog 128 (#[.func (.yield ly) #[] #[]] ++ #[.pointer (some ⟨B + 2, 0, none⟩), .pointer (some ⟨B + 1, 0, none⟩)]) W1
      fun e W' => (∃ v, e = .returned v) ∧ Book W' ∧ Ist w B p bF nf keep d d.L.length W' := by
  have hvl := h.vlen
  refine callsIn_of_wp Tryz.func128 rfl trivial ?_ rfl
  simp only [Tryz.ntmps128, List.size_toArray, List.length_cons, List.length_nil, Nat.reduceAdd, Nat.reduceSub, Array.replicate_succ, Array.replicate_zero, List.push_toArray, List.append_toArray, List.nil_append, List.cons_append]
  have c1 := cell_of_one hist.b1
  have c2 := cell_of_one hist.b2
  have e2 : W1.heap[p]? = some (.cells (dcells d bF v bM) 93 (0, 0)) := hist.tu.same h.row h.pF
  have c3 : W1.cell? ⟨p, 2, none⟩ = some v := by rw [cell_of_row W1 p 2 _ _ _ e2]; rfl
  have HY := Lib.hid hY; clear hY
  have HB := Lib.hid hBook; clear hBook
  have Hb1 := Lib.hid hb1; clear hb1
  have Hist := Lib.hid hist; clear hist
  have H := Lib.hid h; clear h
  clear e2
  by_cases hk : keep.data.toList = []
  · have k1 : keep.toList.isEmpty = true := by rw [Lib.toList_data, hk]; rfl
    have k2 : keep.toList = [] := by rw [Lib.toList_data, hk]
    have Hk := Lib.hid hk; clear hk
    clear hvl
    gi_wp2
    refine bodyPost_ret (v := .tuple #[]) (results_none rfl _ _ _) rfl ?_
    exact ⟨⟨_, rfl⟩, Hb1.out, Hist.out.empty Hk.out _⟩
  · have k1 : keep.toList.isEmpty = false := by rw [Lib.toList_data]; cases hh : keep.data.toList with | nil => exact absurd hh hk | cons _ _ => rfl
    have k2 : ¬ keep.toList = [] := by rw [Lib.toList_data]; exact hk
    have hkz : 0 < keep.size := by rw [← ba_len]; exact List.length_pos_iff.2 hk
    have Hk := Lib.hid hk; clear hk
    rcases hvl with ⟨hl0, rfl⟩ | ⟨g, cap, rfl, hcap⟩
    · have hist := Hist.out
      rw [hl0]
      have Hist2 := Lib.hid hist; clear hist
      gi_wp2
      gi_loopw [14] (fun c wr => c = .int .i64 0 ∧ wr = W1) (fun _ _ => 0)
      case atStart => exact ⟨rfl, rfl⟩
      case round =>
        obtain ⟨rfl, rfl⟩ := hrel
        gi_wp2
        go_end0
        exact ⟨⟨_, rfl⟩, Hb1.out, Hist2.out⟩
    · generalize hn : d.L.length = n at *
      have Hn := Lib.hid hn; clear hn
      gi_wp2
      gi_loopw [14] (fun c wr => ∃ i, i ≤ n ∧ c = .int .i64 (i : Int) ∧ Book wr ∧ Ist w B p bF nf keep d i wr) (fun c _ => n - (intOf c).toNat)
      case atStart => exact ⟨0, by omega, rfl, Hb1.out, Hist.out⟩
      case round =>
        obtain ⟨i, hi, rfl, hbk, hst⟩ := hrel
        have b2 := cell_of_one hst.b2
        have Hbk := Lib.hid hbk; clear hbk
        have Hst := Lib.hid hst; clear hst
        clear c1 c2 c3 Hb1 Hist
        by_cases hlt : i < n
        · obtain ⟨x, hx⟩ : ∃ x, d.L[i]? = some x := ⟨d.L[i]'(by rw [Hn.out]; exact hlt), List.getElem?_eq_getElem _⟩
          have hxs : x.2.length = 64 := H.out.ok.sz x (List.mem_of_getElem? hx)
          have hgF : g ≠ bF := fun e => H.out.vF (by rw [e]; rfl)
          have hgl : g < w.heap.size := H.out.lt g (H.out.hv g rfl)
          have hran : wr.rangeAt g (i * 65) (wcells x) := fun j u hu => by
            rw [World.cell?_of_block (Hst.out.tu.block g hgl hgF)]
            exact H.out.rangeL rfl hx j u hu
          have hi66 : (Tryz.prog.info? 178).map (·.size) = some (wcells x).length := by rw [wcells_length hxs]; kernel_rfl
          have hld := run_loadAt_mid (P := Tryz.prog) wr g (i * 65) 178 (wcells x) _ hran Tryz.underlying178 rfl hi66
          have hz := zero_write
          have hzs := wz_size 0
          have hone : ((wcells x).toArray).all (·.oneCell') = true := by
            rw [Array.all_eq_true_iff_forall_mem]
            intro u hu
            exact wcells_one x u (by simpa using hu)
          have hws : (wcells x).toArray.size = 65 := by rw [List.size_toArray, wcells_length hxs]
          have hwx : wcells x = .int .i64 (x.1 : Int) :: (u8s x.2).toList := rfl
          generalize wcells x = cs at *
          generalize wz 0 = Z at *
          have hst := store_row (P := Tryz.prog) (wr.alloc (.cells Z 178)) wr.heap.size 178 178 _ cs.toArray (heap_alloc_new _ _) (by rw [hws]; kernel_rfl) (by rw [hzs, hws]) hone
          rw [World.setRow_alloc_new] at hst
          have Hstr := Lib.hid hst; clear hst
          have Hld := Lib.hid hld; clear hld
          have Hws := Lib.hid hws; clear hws
          have Hwx := Lib.hid hwx; clear hwx
          have Hx := Lib.hid hx; clear hx
          have Hxs := Lib.hid hxs; clear hxs
          clear hran hi66 hzs hone hgF hgl
          gi_wp2_with (first | (refine wpListIn_loaded (by rfl) 178 (.tmp 17) rfl ⟨g, i * 65, none⟩ _ rfl Hld.out ?_) | (refine wpListIn_stored (by rfl) 178 (.tmp 5) (.tmp 18) rfl ⟨wr.heap.size, 0, none⟩ _ rfl rfl Hstr.out ?_))
          obtain ⟨w2, hw2⟩ : ∃ w2, w2 = wr.alloc (.cells cs.toArray 178) := ⟨_, rfl⟩
          obtain ⟨X, hX⟩ : ∃ X, X = wr.heap.size := ⟨_, rfl⟩
          rw [← hw2, ← hX]
          have hst2 : Ist w B p bF nf keep d i w2 := by rw [hw2]; exact Hst.out.alloc _
          have hrow2 : w2.heap[X]? = some (.cells cs.toArray 178 (0, 0)) := by rw [hw2, hX]; exact heap_alloc_new wr _
          have hbk2 : Book w2 := by rw [hw2]; exact HB.out _ _ (KeepsFrom.alloc C wr _) Hbk.out
          have b3 := cell_of_one hst2.b2
          obtain ⟨q, hq⟩ : ∃ q, q = i % keep.size := ⟨_, rfl⟩
          have hqi : (i : Int) % (keep.size : Int) = (q : Int) := by rw [hq]; omega
          have hqs : q < keep.size := by rw [hq]; exact Nat.mod_lt _ hkz
          have hodd : Dsk.odd keep.data.toList i = (keep[q].toNat % 2 == 1) := by
            unfold Dsk.odd
            rw [ba_len, ← hq, List.getD_eq_getElem?_getD, List.getElem?_eq_getElem (by rw [ba_len]; exact hqs), Option.getD_some, ba_get keep q hqs]
          have q0 : (0 : Int) ≤ (q : Int) := by omega
          have q1 : (q : Int) < (keep.size : Int) := by omega
          have Hw2 := Lib.hid hw2; clear hw2
          have HX := Lib.hid hX; clear hX
          have Hst2 := Lib.hid hst2; clear hst2
          have Hrow2 := Lib.hid hrow2; clear hrow2
          have Hbk2 := Lib.hid hbk2; clear hbk2
          have Hq := Lib.hid hq; clear hq
          have Hodd := Lib.hid hodd; clear hodd
          clear b2
          refine wpIn_wide.2 ?_
          have hqt : Int.tmod (i : Int) (keep.size : Int) = (q : Int) := by rw [Int.tmod_eq_emod_of_nonneg (by omega)]; exact hqi
          have hk0 : ¬ ((keep.size : Nat) : Int) = 0 := by omega
          have hk3 : ¬ keep.size = 0 := by omega
          have hw3 : IntKind.i64.wrap (q : Int) = (q : Int) := IntWalk.i64_in _ (by omega)
          have htq : ((q : Int)).toNat = q := by omega
          clear hqi
          go_still_tail 8, (by kernel_rfl)
          change wpList _ _ _ _ _ w2.drew
          clear hqt hk0 hk3 hw3
          have hgd : d.L.getD i (0, []) = x := by rw [List.getD_eq_getElem?_getD, Hx.out]; rfl
          have hwe : wenc d i = #[.int .i64 (x.1 : Int), .agg (u8s x.2)] := by unfold wenc; rw [hgd]
          have Hwe := Lib.hid hwe; clear hwe
          clear hgd
          cases ho : Dsk.odd keep.data.toList i with
          | true =>
            have hob : (Int.tmod ((keep[q].toNat : Nat) : Int) 2 == 1) = true := by
              have h1 := Hodd.out
              rw [ho] at h1
              have h2 : keep[q].toNat % 2 = 1 := by simpa using h1.symm
              rw [Int.tmod_eq_emod_of_nonneg (by omega), beq_iff_eq]; omega
            rw [hob]
            have hin2 : Iin w B p bF nf keep d i w2.drew := ⟨⟨by rw [Hn.out]; exact hlt, Hk.out, ho⟩, Hst2.out.drew⟩
            obtain ⟨fn, tmps, assign, body, hy, hR⟩ := HY.out i w2.drew (HB.out _ _ (KeepsFrom.of_below ((Below.refl _ w2).drew)) Hbk2.out) hin2
            rw [Hwe.out] at hy
            have HR := Lib.hid hR; clear hR
            have c0 : w2.drew.cell? ⟨X, 0, none⟩ = some (.int .i64 (x.1 : Int)) := by
              rw [cell_of_row w2.drew X 0 _ _ _ Hrow2.out, Hwx.out]; rfl
            have hr1 : w2.drew.rangeAt X 1 (u8s x.2).toList := fun j u hu => by
              rw [cell_of_row w2.drew X (1 + j) _ _ _ Hrow2.out, Hwx.out]
              simpa [Nat.add_comm 1 j] using hu
            have hi63 : (Tryz.prog.info? 145).map (·.size) = some (u8s x.2).toList.length := by rw [Array.length_toList, u8s_size, Hxs.out]; kernel_rfl
            have hl2 := run_loadAt_mid (P := Tryz.prog) w2.drew X 1 145 (u8s x.2).toList _ hr1 Tryz.underlying145 rfl hi63
            rw [Array.toArray_toList] at hl2
            have Hl2 := Lib.hid hl2; clear hl2
            have Hin2 := Lib.hid hin2; clear hin2
            have Ho := Lib.hid ho; clear ho
            clear hr1 hi63 hob
            go_wp2
            gi_wp2_with (refine wpListIn_loaded (by rfl) 145 (.tmp 32) rfl ⟨X, 1, none⟩ _ rfl Hl2.out ?_)
            refine HR.out.mono ?_
            rintro e W7 ⟨rfl, hbk7, hit7⟩
            have Hbk7 := Lib.hid hbk7; clear hbk7
            have Hit7 := Lib.hid hit7; clear hit7
            gi_wp2
            go_roundw
            case rel => exact ⟨i + 1, by omega, by go_num, Hbk7.out, Hit7.out⟩
            case measure => simp [intOf]; omega
          | false =>
            have hob : (Int.tmod ((keep[q].toNat : Nat) : Int) 2 == 1) = false := by
              have h1 := Hodd.out
              rw [ho] at h1
              have h2 : ¬ keep[q].toNat % 2 = 1 := by simpa using h1.symm
              rw [Int.tmod_eq_emod_of_nonneg (by omega), beq_eq_false_iff_ne]; omega
            rw [hob]
            have hnx := (Hst2.out.drew).next Hk.out Hx.out ho
            have hbk3 := HB.out _ _ (KeepsFrom.of_below ((Below.refl _ w2).drew)) Hbk2.out
            have Hnx := Lib.hid hnx; clear hnx
            have Hbk3 := Lib.hid hbk3; clear hbk3
            have Ho := Lib.hid ho; clear ho
            clear hob
            go_wp2
            gi_wp2
            refine ⟨fun _ h => (by cases h), ?_⟩
            gi_wp2
            go_roundw
            case rel => exact ⟨i + 1, by omega, by go_num, Hbk3.out, Hnx.out⟩
            case measure => simp [intOf]; omega
        · obtain rfl : i = n := by omega
          gi_wp2
          go_end0
          exact ⟨⟨_, rfl⟩, Hbk.out, Hst.out⟩
end Go.Proofs.YtalklpnekbfehaaGreat

/-
  settle: the loose writes that are kept are laid over what was flushed; the others are forgotten.
-/
set_option linter.unusedVariables false
namespace Go.Proofs.YtalklpnekbfehaaGreat
open Go.RowKit
attribute [local go_sem] Oper.semAt_some

theorem load_sectors (p j : Nat) (v : Value) (u : World) (h : u.cell? ⟨p, j, none⟩ = some v) : (Instr.loadAt 89 (.pointer (some ⟨p, j, none⟩))).run Tryz.prog u = .ok v u := by
  go_simp
theorem load_disk (p j : Nat) (v : Value) (u : World) (h : u.cell? ⟨p, j, none⟩ = some v) : (Instr.loadAt 34 (.pointer (some ⟨p, j, none⟩))).run Tryz.prog u = .ok v u := by
  go_simp

theorem settle_done {S : Nat → Prop} {p bF bM nf : Nat} {v : Value} {DF : DataW Unit} {d : Dsk.St} {w W : World} {keep : ByteArray} {B : Nat} (h : DiskIn S p d w bF bM v nf DF) (hist : Ist w B p bF nf keep d d.L.length W) :
    Turns S w ((((W.setCell ⟨p, 2, none⟩ (.slice none 0 0)).setCell ⟨p, 3, none⟩ (.map (some W.heap.size))).alloc (.map #[] 0)).drew) ∧
    ∃ DF', DiskIn (fun j => S j ∨ j = W.heap.size) p (Dsk.settle d keep.data.toList) ((((W.setCell ⟨p, 2, none⟩ (.slice none 0 0)).setCell ⟨p, 3, none⟩ (.map (some W.heap.size))).alloc (.map #[] 0)).drew) bF W.heap.size (.slice none 0 0) (nf + d.L.length) DF' := by
  have hF := h.lt _ h.hF
  have hs := hist.tu.size
  have e2 : W.heap[p]? = some (.cells (dcells d bF v bM) 93 (0, 0)) := hist.tu.same h.row h.pF
  have tt : Turns S w ((((W.setCell ⟨p, 2, none⟩ (.slice none 0 0)).setCell ⟨p, 3, none⟩ (.map (some W.heap.size))).alloc (.map #[] 0)).drew) :=
    ((((hist.tu.mono (fun j _ e => by rw [e]; exact h.hF)).set p 2 _ (fun _ => h.hp)).set p 3 _ (fun _ => h.hp)).alloc _).drew
  obtain ⟨DF', hown, hrd⟩ := hist.mp
  refine ⟨tt, DF', ?_⟩
  have hsz : ((W.setCell ⟨p, 2, none⟩ (.slice none 0 0)).setCell ⟨p, 3, none⟩ (.map (some W.heap.size))).heap.size = W.heap.size := by simp [World.setCell]
  exact
    { hp := .inl h.hp
      hF := .inl h.hF
      hM := .inr rfl
      hv := fun k hk => by simp [Value.ownBlock] at hk
      lt := fun k hk => by
        rcases hk with hk | rfl
        · have h1 := h.lt k hk
          have h2 := tt.size
          omega
        · show W.heap.size < (World.alloc _ _).heap.size
          rw [World.size_alloc, hsz]; omega
      row := by
        show (World.alloc _ _).heap[p]? = _
        refine row_alloc ?_ _
        rw [heap_setCell_same _ p 3 _ _ _ (heap_setCell_same W p 2 _ _ _ e2)]
        rfl
      ne := by omega
      mF := by
        show (World.alloc _ _).ownsMap _ _ _ _ _ _
        refine World.ownsMap.alloc ?_ _
        refine ownsMap_same hown ?_
        rw [heap_setCell_other _ _ _ _ h.pF.symm, heap_setCell_other _ _ _ _ h.pF.symm]
      rF := by
        show Dsk.Reads DF' (Dsk.lay (Dsk.kept keep.data.toList d.L) d.fl)
        rw [← Dsk.done_all]
        exact hrd
      mM := by
        have := World.ownsMap_made (H := Unit) ((W.setCell ⟨p, 2, none⟩ (.slice none 0 0)).setCell ⟨p, 3, none⟩ (.map (some W.heap.size))) Tryz.prog 3 (plainElem Tryz.prog 3)
        rw [hsz] at this
        exact this
      rL := World.ownsRow_nil _ _ _ _
      cnt := by
        have := h.cnt
        show nf + d.L.length + 0 ≤ d.ops
        omega
      ok := Dsk.settle_ok h.ok _ }

set_option maxRecDepth 100000 in
set_option maxHeartbeats 1000000 in
theorem settle_any {S : Nat → Prop} {p : Nat} {d : Dsk.St} {w : World} (h : DiskAt S p d w) (keep : ByteArray) (hks : keep.size ≤ 1099511627776) (hops : d.ops ≤ 1099511627776) :
    Calls Tryz.prog 56 #[.pointer (some ⟨p, 0, none⟩), .string keep] w fun e w' => e = .returned (.tuple #[]) ∧ Turns S w w' ∧ ∃ S', (∀ j, S' j → S j ∨ w.heap.size ≤ j) ∧ DiskAt S' p (Dsk.settle d keep.data.toList) w' := by
  obtain ⟨bF, bM, v, nf, DF, h⟩ := h
  have hcnt := h.cnt
  refine (callsIn_wide (n := 5)).1 ?_
  refine callsIn_of_wp_marks Tryz.func56 rfl trivial ?_ rfl
  simp only [Tryz.ntmps56, List.size_toArray, List.length_cons, List.length_nil, Nat.reduceAdd, Nat.reduceSub, Array.replicate_succ, Array.replicate_zero, List.push_toArray, List.append_toArray, List.nil_append, List.cons_append]
  gi_wp2_with (refine ⟨trivial, ?_⟩; gi_at_call 84; refine (callsIn_wide.2 (kept_any _ _ _)).mono ?_; rintro e w' ⟨rfl, rfl⟩)
  obtain ⟨w3, hw3⟩ : ∃ w3, w3 = ((w.alloc (.cells #[.pointer (some ⟨p, 0, none⟩)] 34)).alloc (.cells #[.pointer (some ⟨p, 0, none⟩)] 34)).alloc (.cells #[.string keep] 9) := ⟨_, rfl⟩
  rw [← hw3]
  have hs3 : w3.heap.size = w.heap.size + 3 := by rw [hw3]; simp
  have hbel3 : Below w.heap.size w w3 := by rw [hw3]; exact (((Below.refl _ w).alloc (Nat.le_refl _) _).alloc (by simp) _).alloc (by simp; omega) _
  have hFl := h.lt _ h.hF
  have hst3 : Ist w w.heap.size p bF nf keep d 0 w3 := by
    refine ⟨Turns.of_new hbel3 _, ?_, ?_, ?_, DF, ?_, ?_⟩
    · rw [hw3]; exact row_alloc (row_alloc (heap_alloc_new _ _) _) _
    · rw [hw3]; refine row_alloc ?_ _; have := heap_alloc_new (w.alloc (.cells #[.pointer (some ⟨p, 0, none⟩)] 34)) (.cells #[.pointer (some ⟨p, 0, none⟩)] 34); simpa using this
    · rw [hw3]; have := heap_alloc_new ((w.alloc (.cells #[.pointer (some ⟨p, 0, none⟩)] 34)).alloc (.cells #[.pointer (some ⟨p, 0, none⟩)] 34)) (.cells #[.string keep] 9); simpa using this
    · exact ownsMap_same h.mF (hbel3.block _ hFl)
    · rw [Dsk.done_zero]; exact h.rF
  have Hst3 := Lib.hid hst3; clear hst3
  have H := Lib.hid h; clear h
  refine rangeFunc_from rfl (by decide) (gf := 128) (lb := #[.pointer (some ⟨w.heap.size + 2, 0, none⟩), .pointer (some ⟨w.heap.size + 1, 0, none⟩)]) rfl trivial (enters_of Tryz.func128 (by kernel_rfl) rfl)
    (fun i : Nat => wenc d i) (fun _ => rfl)
    (fun W => Ist w w.heap.size p bF nf keep d 0 W)
    (fun W => Ist w w.heap.size p bF nf keep d d.L.length W) (fun i W => Iin w w.heap.size p bF nf keep d i W) (fun i W => Ist w w.heap.size p bF nf keep d (i + 1) W)
    (fun i a₁ W => Iin w w.heap.size p bF nf keep d i W ∧ ∃ x vb, d.L[i]? = some x ∧ w3.heap.size ≤ vb ∧ W.heap[vb]? = some (.cells (u8s x.2) 145 (0, 0)) ∧ a₁ = { tmps := #[.pointer (some ⟨p, 0, none⟩), .string keep, .pointer (some ⟨w.heap.size, 0, none⟩), undef, .int .i64 (x.1 : Int), .pointer (some ⟨vb, 0, none⟩), .pointer (some ⟨p, 0, none⟩), .string keep, .func (.func 128) #[] #[.pointer (some ⟨w.heap.size + 1 + 1, 0, none⟩), .pointer (some ⟨w.heap.size + 1, 0, none⟩)], .int .i64 (x.1 : Int), .agg (u8s x.2), undef, undef, undef, undef, undef, undef, undef, undef, undef, undef, undef, undef, undef], defers := [] })
    ?sEnd ?sOut ?sMid ?h0 ?hiter ?hassign ?hbody ?hdone
  case sEnd => exact Ist.stays hFl (by omega)
  case sOut => exact fun i => Ist.stays hFl (by omega)
  case sMid => exact fun i a₁ W l o o' hl ho hc hj => ⟨⟨hj.1.1, Ist.stays hFl (by omega) W l o o' hl ho hc hj.1.2⟩, by obtain ⟨x, vb, h1, h2, h3, h4⟩ := hj.2; exact ⟨x, vb, h1, h2, Stays.row W l o o' hl ho hc h3, h4⟩⟩
  case h0 => exact fun o o' => (Hst3.out.alloc o).alloc o'
  case hiter =>
    intro ly Book W1 hBk hly hb1 hj0 hY
    exact iter_any H.out (Nat.le_refl _) hks (by omega) w3.heap.size ly Book W1 hBk hb1 hj0 hY
  case hassign =>
    intro ly i W K hly hin hK
    obtain ⟨x, hx⟩ : ∃ x, d.L[i]? = some x := ⟨d.L[i]'(hin.1.1), List.getElem?_eq_getElem _⟩
    have hgd : d.L.getD i (0, []) = x := by rw [List.getD_eq_getElem?_getD, hx]; rfl
    have hwe : wenc d i = #[.int .i64 (x.1 : Int), .agg (u8s x.2)] := by unfold wenc; rw [hgd]
    have hxs : x.2.length = 64 := H.out.ok.sz x (List.mem_of_getElem? hx)
    have hz := zero_sec
    have hi63 : (Tryz.prog.info? 145).map (·.size) = some (u8s x.2).size := by rw [u8s_size, hxs]; kernel_rfl
    have hst := store_row (P := Tryz.prog) (W.alloc (.cells (u8s Dsk.zer) 145)) W.heap.size 145 145 _ (u8s x.2) (heap_alloc_new _ _) hi63 (by rw [u8s_size, u8s_size, hxs, Dsk.zer_length]) (u8s_one _)
    rw [World.setRow_alloc_new] at hst
    rw [hwe]
    generalize u8s Dsk.zer = Z at *
    have Hst := Lib.hid hst; clear hst
    have Hin := Lib.hid hin; clear hin
    have Hx := Lib.hid hx; clear hx
    have hWs : w3.heap.size ≤ W.heap.size := by
      have h1 := row_lt Hin.out.2.b2
      omega
    clear hi63 hw3 hgd hwe
    gi_wp2_with (refine wpListIn_stored (by rfl) 145 (.tmp 5) (.tmp 10) rfl ⟨W.heap.size, 0, none⟩ _ rfl rfl Hst.out ?_)
    refine hK _ _ (KeepsFrom.alloc _ _ _) ⟨⟨Hin.out.1, Hin.out.2.alloc _⟩, x, W.heap.size, Hx.out, hWs, heap_alloc_new _ _, rfl⟩
  case hbody =>
    rintro ly i a₁ W hly ⟨⟨⟨hi, hk, ho⟩, hist⟩, x, vb, hx, hvb, hrow, rfl⟩
    have c0 := cell_of_one hist.b0
    have e2 : W.heap[p]? = some (.cells (dcells d bF v bM) 93 (0, 0)) := hist.tu.same H.out.row H.out.pF
    have c1 : W.cell? ⟨p, 1, none⟩ = some (.map (some bF)) := by rw [cell_of_row W p 1 _ _ _ e2]; rfl
    have hxs : x.2.length = 64 := H.out.ok.sz x (List.mem_of_getElem? hx)
    have hxa : x.1 < d.n := H.out.ok.at_ x (List.mem_of_getElem? hx)
    have hld := fun (u : World) (h : u.heap[vb]? = some (.cells (u8s x.2) 145 (0, 0))) => load_row (P := Tryz.prog) u vb 145 145 (u8s x.2) (0, 0) _ h Tryz.underlying145 rfl (by rw [u8s_size, hxs]; kernel_rfl)
    obtain ⟨DF', hown, hrd⟩ := hist.mp
    have Hist := Lib.hid hist; clear hist
    have Hld := Lib.hid hld; clear hld
    have Hown := Lib.hid hown; clear hown
    have Hrd := Lib.hid hrd; clear hrd
    have Hrow := Lib.hid hrow; clear hrow
    have Hx := Lib.hid hx; clear hx
    have Ho := Lib.hid ho; clear ho
    have Hk := Lib.hid hk; clear hk
    clear e2 hw3
    gi_wp2
    refine wp_region_mid_in 6 6 (by kernel_rfl) (by kernel_rfl) (by kernel_rfl) (fun u => u.cell? ⟨w.heap.size, 0, none⟩ = some (.pointer (some ⟨p, 0, none⟩)) ∧ u.cell? ⟨p, 1, none⟩ = some (.map (some bF)) ∧ u.heap[vb]? = some (.cells (u8s x.2) 145 (0, 0))) ⟨c0, c1, Hrow.out⟩ ?_
    simp only [List.take_succ_cons, List.take_zero, List.drop_succ_cons, List.drop_zero, Nat.sub_self]
    refine take_load 34 (.tmp 2) ⟨w.heap.size, 0, none⟩ (.pointer (some ⟨p, 0, none⟩)) rfl rfl rfl (fun u hu => load_disk _ _ _ _ hu.1) ?_
    simp only [Act.put, List.setIfInBounds_toArray, List.set_cons_zero, List.set_cons_succ]
    refine take_nil (.tmp 11) ⟨p, 0, none⟩ rfl rfl rfl ?_
    simp only [Act.put, List.setIfInBounds_toArray, List.set_cons_zero, List.set_cons_succ]
    refine take_one (.pointer (some ⟨p, 1, none⟩)) rfl (fun u _ => by go_simp) ?_
    simp only [Act.put, List.setIfInBounds_toArray, List.set_cons_zero, List.set_cons_succ]
    refine take_load 89 (.tmp 13) ⟨p, 1, none⟩ (.map (some bF)) rfl rfl rfl (fun u hu => load_sectors _ _ _ _ hu.2.1) ?_
    simp only [Act.put, List.setIfInBounds_toArray, List.set_cons_zero, List.set_cons_succ]
    refine take_move (.tmp 4) (.int .i64 (x.1 : Int)) rfl rfl rfl ?_
    simp only [Act.put, List.setIfInBounds_toArray, List.set_cons_zero, List.set_cons_succ]
    refine take_load 145 (.tmp 5) ⟨vb, 0, none⟩ (.agg (u8s x.2)) rfl rfl rfl (fun u hu => Hld.out u hu.2.2) ?_
    simp only [Act.put, List.setIfInBounds_toArray, List.set_cons_zero, List.set_cons_succ]
    refine take_done ?_
    refine mid_list ?_
    refine wpList_mapUpdate_own _ rfl _ _ _ 89 rfl 3 145 keyed Tryz.underlying89 secElem bF (nf + i) DF' rfl Hown.out.drew (by unfold maxLen; omega) _ (.agg (u8s x.2)) (Dsk.key x.1) rfl rfl (key_of x.1 (by have := H.out.ok.hi; omega)) (.lit (.string x.2)) [] (secElem_mk hxs) ?_
    intro w4 hown4 hg4'
    have hg4 : W.grownBy w4 (some bF) := ⟨hg4'.os, hg4'.tape, hg4'.output, hg4'.size, hg4'.block⟩
    refine ⟨KeepsFrom.of_grown hg4 (fun b e hb o _ => by cases e; omega), ⟨Hist.out.tu.trans (Turns.of_grown hg4) (fun j _ e => by cases e; rfl), grown_row Hist.out.b0 hg4 (by omega), grown_row Hist.out.b1 hg4 (by omega), grown_row Hist.out.b2 hg4 (by omega), _, hown4, ?_⟩⟩
    rw [Dsk.done_succ Hk.out Hx.out, if_pos Ho.out, Dsk.lay_snoc]
    exact Hrd.out.put x.1 x.2
  case hdone =>
    rintro D W hD hist hK2
    have c0 := cell_of_one hist.b0
    have e2 : W.heap[p]? = some (.cells (dcells d bF v bM) 93 (0, 0)) := hist.tu.same H.out.row H.out.pF
    have Hist := Lib.hid hist; clear hist
    have HK2 := Lib.hid hK2; clear hK2
    have E2 := Lib.hid e2; clear e2
    clear hw3
    gi_wp2
    refine wpIn_wide.2 ?_
    have hpl := row_lt E2.out
    have hBl := block_lt_of_cell c0
    simp only at hBl
    have c2 : W.cell? ⟨p, 2, none⟩ = some v := by rw [cell_of_row W p 2 _ _ _ E2.out]; rfl
    have c3 : W.cell? ⟨p, 3, none⟩ = some (.map (some bM)) := by rw [cell_of_row W p 3 _ _ _ E2.out]; rfl
    have f2 : W.frozen? ⟨p, 2, none⟩ = false := row_free E2.out 2
    have f3 : W.frozen? ⟨p, 3, none⟩ = false := row_free E2.out 3
    have n1 : ¬ W.heap.size = p := by omega
    have n2 : ¬ W.heap.size = w.heap.size := by omega
    have n3 : ¬ p = w.heap.size := by have := H.out.lt _ H.out.hp; omega
    have a0 : (W.drew.alloc (.map #[] 0)).cell? ⟨w.heap.size, 0, none⟩ = some (.pointer (some ⟨p, 0, none⟩)) := by rw [World.cell?_of_block (Below.heap_alloc W.drew _ w.heap.size hBl)]; exact c0
    have a2 : (W.drew.alloc (.map #[] 0)).cell? ⟨p, 2, none⟩ = some v := by rw [World.cell?_of_block (Below.heap_alloc W.drew _ p hpl)]; exact c2
    have a3 : (W.drew.alloc (.map #[] 0)).cell? ⟨p, 3, none⟩ = some (.map (some bM)) := by rw [World.cell?_of_block (Below.heap_alloc W.drew _ p hpl)]; exact c3
    have g2 : (W.drew.alloc (.map #[] 0)).frozen? ⟨p, 2, none⟩ = false := by rw [World.frozen?_of_block (Below.heap_alloc W.drew _ p hpl)]; exact f2
    have g3 : (W.drew.alloc (.map #[] 0)).frozen? ⟨p, 3, none⟩ = false := by rw [World.frozen?_of_block (Below.heap_alloc W.drew _ p hpl)]; exact f3
    have hmm := @run_makeMap Tryz.prog
    have hdn := settle_done H.out Hist.out
    have hDW := row_lt HK2.out
    have hpw := H.out.lt _ H.out.hp
    have hk5 : ((((W.setCell ⟨p, 2, none⟩ (.slice none 0 0)).setCell ⟨p, 3, none⟩ (.map (some W.heap.size))).alloc (.map #[] 0)).drew).heap[D]? = some (.deferred (some [])) := by
      show (World.alloc _ _).heap[D]? = _
      refine row_alloc ?_ _
      rw [heap_setCell_other _ _ _ _ (by simp only; omega), heap_setCell_other _ _ _ _ (by simp only; omega)]
      exact HK2.out
    have Hdn := Lib.hid hdn; clear hdn
    have Hk5 := Lib.hid hk5; clear hk5
    go_region
    clear a0 a2 a3 g2 g3 c0 c2 c3 f2 f3 hmm
    generalize hW5 : (((W.setCell ⟨p, 2, none⟩ (.slice none 0 0)).setCell ⟨p, 3, none⟩ (.map (some W.heap.size))).alloc (.map #[] 0)).drew = W5 at *
    have hd2 := Hdn.out
    have hk2 := Hk5.out
    obtain ⟨tt, DF', hin⟩ := hd2
    have Hk2 := Lib.hid hk2; clear hk2
    have Tt := Lib.hid tt; clear tt
    have Hin := Lib.hid hin; clear hin
    clear Hdn Hk5 hW5
    gi_wp2
    have hne : ∀ k, (S k ∨ k = W.heap.size) → ¬ k = D := fun k hk => by
      rcases hk with hk | rfl
      · have := H.out.lt k hk; omega
      · omega
    have htD : ∀ o', Turns (fun k => k = D) W5 (W5.putObj D o') := fun o' => ⟨rfl, rfl, rfl, by rw [World.putObj_size]; exact Nat.le_refl _, fun k _ hk => World.putObj_heap_other (fun e => hk e)⟩
    refine ⟨by simp, .inl ⟨_, _, rfl, run_takeDeferred Hk2.out, ?_⟩⟩
    refine ⟨_, results_none rfl _ _ _, rfl, Tt.out.trans (htD _) (fun j hj e => by omega), fun j => S j ∨ j = W.heap.size, fun j hj => ?_, bF, W.heap.size, .slice none 0 0, nf + d.L.length, DF', Hin.out.keeps (htD _) hne⟩
    rcases hj with h | h
    · exact .inl h
    · exact .inr (by omega)
end Go.Proofs.YtalklpnekbfehaaGreat

/-
  Flush and Crash.
-/
set_option linter.unusedVariables false
namespace Go.Proofs.YtalklpnekbfehaaGreat
namespace Dsk
/-- behind a crash -/
def crash (d : St) (keep : List UInt8) : St := { settle d keep with fuse := -1, down := false }
end Dsk
open Go.RowKit

section
variable {S : Nat → Prop} {p : Nat} {d : Dsk.St} {w : World}
theorem flush_down (h : DiskAt S p d w) (hd : d.down = true) : Calls Tryz.prog 92 #[.pointer (some ⟨p, 0, none⟩)] w fun e w' => e = .returned (.int .i64 40) ∧ w = w' := by
  obtain ⟨bF, bM, v, nf, DF, h⟩ := h
  have c5 := h.c5
  rw [hd] at c5
  clear h hd
  go_enter Tryz.func92, Tryz.ntmps92
  go_wp2
  go_ret
  exact ⟨rfl, rfl⟩
theorem flush_any (h : DiskAt S p d w) (hd : d.down = false) (hops : d.ops ≤ 1099511627776) : Calls Tryz.prog 92 #[.pointer (some ⟨p, 0, none⟩)] w fun e w' => e = .returned (.int .i64 0) ∧ Turns S w w' ∧ ∃ S', (∀ j, S' j → S j ∨ w.heap.size ≤ j) ∧ DiskAt S' p (Dsk.settle d [1]) w' := by
  have hst := settle_any h ⟨#[1]⟩ (by decide) hops
  obtain ⟨bF, bM, v, nf, DF, h⟩ := h
  have c5 := h.c5
  rw [hd] at c5
  have Hst := Lib.hid hst; clear hst
  clear h hd
  go_enter Tryz.func92, Tryz.ntmps92
  go_wp2_with fail
  refine Hst.out.mono ?_; rintro e w' ⟨rfl, ht, hS⟩
  have Ht := Lib.hid ht; clear ht
  have HS := Lib.hid hS; clear hS
  go_wp2_with fail
  go_ret
  exact ⟨rfl, Ht.out, HS.out⟩

theorem crash_any (h : DiskAt S p d w) (keep : ByteArray) (hks : keep.size ≤ 1099511627776) (hops : d.ops ≤ 1099511627776) : Calls Tryz.prog 22 #[.pointer (some ⟨p, 0, none⟩), .string keep] w fun e w' => e = .returned (.int .i64 0) ∧ Turns S w w' ∧ ∃ S', (∀ j, S' j → S j ∨ w.heap.size ≤ j) ∧ DiskAt S' p (Dsk.crash d keep.data.toList) w' := by
  have hst := settle_any h keep hks hops
  have hp := h.hp
  have Hst := Lib.hid hst; clear hst
  clear h
  go_enter Tryz.func22, Tryz.ntmps22
  go_wp2_with fail
  refine Hst.out.mono ?_; rintro e w2 ⟨rfl, ht, S', hS, bF, bM, v, nf, DF, h⟩
  have c4 := h.c4
  have c5 := h.c5
  have f4 := h.free 4
  have f5 := h.free 5
  have h5 := (h.set4 (-1) ⟨by omega, by omega⟩).set5 false
  have t5 : Turns S w ((w2.setCell ⟨p, 4, none⟩ (.int .i64 (-1))).setCell ⟨p, 5, none⟩ (.bool false)) := (ht.set p 4 _ (fun _ => hp)).set p 5 _ (fun _ => hp)
  have H5 := Lib.hid h5; clear h5
  have T5 := Lib.hid t5; clear t5
  have HS := Lib.hid hS; clear hS
  clear h ht
  go_wp2_with fail
  go_ret
  exact ⟨rfl, T5.out, S', HS.out, bF, bM, v, nf, DF, H5.out⟩
end
end Go.Proofs.YtalklpnekbfehaaGreat
