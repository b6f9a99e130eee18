/-
  Plain mathematics of a disk of sectors: what is read of it behind a row of loose writes, which of them a crash keeps; how the row of loose writes is found again by the last one of each sector.
-/
import Derived.Maps.Views
import Derived.Maps.Own
set_option linter.unusedVariables false
namespace Go.Proofs.Ytjlkppdailkanaa
namespace Dsk
open Go

theorem snocInd {α : Type} {p : List α → Prop} (h0 : p []) (h1 : ∀ l x, p l → p (l ++ [x])) (l : List α) : p l := by
  have : ∀ n (l : List α), l.length = n → p l := fun n => by
    induction n with
    | zero => intro l hl; rw [List.eq_nil_of_length_eq_zero hl]; exact h0
    | succ n ih =>
      intro l hl
      have hne : l ≠ [] := fun e => by rw [e] at hl; simp at hl
      rw [← List.dropLast_concat_getLast hne]
      exact h1 _ _ (ih _ (by simp [hl]))
  exact this _ l rfl

abbrev Sec := List UInt8
def zer : Sec := List.replicate 64 0
theorem zer_length : zer.length = 64 := List.length_replicate

def upd (f : Nat → Sec) (k : Nat) (s : Sec) : Nat → Sec := fun j => if j = k then s else f j
theorem upd_same (f : Nat → Sec) (k : Nat) (s : Sec) : upd f k s k = s := if_pos rfl
theorem upd_other {f : Nat → Sec} {k j : Nat} {s : Sec} (h : j ≠ k) : upd f k s j = f j := if_neg h
/-- the writes, one behind the other, laid over what was there -/
def lay : List (Nat × Sec) → (Nat → Sec) → (Nat → Sec)
  | [], f => f
  | x :: r, f => lay r (upd f x.1 x.2)
theorem lay_append (a b : List (Nat × Sec)) (f : Nat → Sec) : lay (a ++ b) f = lay b (lay a f) := by
  induction a generalizing f with
  | nil => rfl
  | cons x r ih => exact ih _
theorem lay_snoc (a : List (Nat × Sec)) (x : Nat × Sec) (f : Nat → Sec) : lay (a ++ [x]) f = upd (lay a f) x.1 x.2 := lay_append a [x] f

/-- which byte of what a crash is told speaks of the write with this index -/
def odd (keep : List UInt8) (i : Nat) : Bool := (keep.getD (i % keep.length) 0).toNat % 2 == 1
/-- the writes that a crash keeps, the first one's index being i -/
def keptF (keep : List UInt8) : Nat → List (Nat × Sec) → List (Nat × Sec)
  | _, [] => []
  | i, x :: r => if odd keep i then x :: keptF keep (i + 1) r else keptF keep (i + 1) r
def kept (keep : List UInt8) (L : List (Nat × Sec)) : List (Nat × Sec) := if keep = [] then [] else keptF keep 0 L
theorem keptF_append (keep : List UInt8) (i : Nat) (a b : List (Nat × Sec)) : keptF keep i (a ++ b) = keptF keep i a ++ keptF keep (i + a.length) b := by
  induction a generalizing i with
  | nil => simp [keptF]
  | cons x r ih =>
    simp only [List.cons_append, keptF, List.length_cons, ih, show i + 1 + r.length = i + (r.length + 1) by omega]
    split <;> simp
theorem keptF_snoc (keep : List UInt8) (a : List (Nat × Sec)) (x : Nat × Sec) : keptF keep 0 (a ++ [x]) = keptF keep 0 a ++ (if odd keep a.length then [x] else []) := by
  rw [keptF_append]; simp only [keptF, Nat.zero_add]
theorem keptF_mem {keep : List UInt8} {L : List (Nat × Sec)} {i : Nat} {x : Nat × Sec} (h : x ∈ keptF keep i L) : x ∈ L := by
  induction L generalizing i with
  | nil => simp [keptF] at h
  | cons y r ih =>
    simp only [keptF] at h
    split at h
    · rcases List.mem_cons.1 h with rfl | h
      · exact List.mem_cons_self
      · exact List.mem_cons_of_mem _ (ih h)
    · exact List.mem_cons_of_mem _ (ih h)
theorem keptF_le (keep : List UInt8) (L : List (Nat × Sec)) (i : Nat) : (keptF keep i L).length ≤ L.length := by
  induction L generalizing i with
  | nil => simp [keptF]
  | cons y r ih => simp only [keptF]; split <;> simp only [List.length_cons] <;> have := ih (i + 1) <;> omega
theorem odd_one (i : Nat) : odd [1] i = true := by simp [odd, Nat.mod_one]
theorem keptF_one (L : List (Nat × Sec)) (i : Nat) : keptF [1] i L = L := by
  induction L generalizing i with
  | nil => rfl
  | cons y r ih => simp [keptF, odd_one, ih]
theorem kept_one (L : List (Nat × Sec)) : kept [1] L = L := by simp [kept, keptF_one]

/-- a disk: how many sectors, what was flushed, the loose writes, the fuse (none, if negative), whether it has failed; at most how many writes there were -/
structure St where
  n : Nat
  fl : Nat → Sec
  L : List (Nat × Sec)
  fuse : Int
  down : Bool
  ops : Nat
structure St.Ok (d : St) : Prop where
  lo : 1 ≤ d.n
  hi : d.n ≤ 16384
  fl : ∀ k, (d.fl k).length = 64
  at_ : ∀ x ∈ d.L, x.1 < d.n
  sz : ∀ x ∈ d.L, x.2.length = 64
  fu : -9223372036854775808 ≤ d.fuse ∧ d.fuse ≤ 9223372036854775807
def new (n : Nat) : St := ⟨n, fun _ => zer, [], -1, false, 0⟩
theorem new_ok {n : Nat} (h : 1 ≤ n) (h2 : n ≤ 16384) : (new n).Ok := ⟨h, h2, fun _ => zer_length, fun _ h => by simp [new] at h, fun _ h => by simp [new] at h, by simp [new]⟩
/-- what is read of a sector -/
def now (d : St) : Nat → Sec := lay d.L d.fl
theorem lay_length {L : List (Nat × Sec)} {f : Nat → Sec} (hf : ∀ k, (f k).length = 64) (hL : ∀ x ∈ L, x.2.length = 64) : ∀ k, (lay L f k).length = 64 := by
  induction L generalizing f with
  | nil => exact hf
  | cons x r ih =>
    refine ih (fun k => ?_) fun y hy => hL y (List.mem_cons_of_mem _ hy)
    unfold upd
    split
    · exact hL x List.mem_cons_self
    · exact hf k
theorem now_length {d : St} (h : d.Ok) (k : Nat) : (now d k).length = 64 := lay_length h.fl h.sz k

def put (d : St) (k : Nat) (s : Sec) : St := { d with L := d.L ++ [(k, s)], ops := d.ops + 1 }
theorem put_ok {d : St} (h : d.Ok) {k : Nat} {s : Sec} (hk : k < d.n) (hs : s.length = 64) : (put d k s).Ok :=
  ⟨h.lo, h.hi, h.fl, fun x hx => by
    rcases List.mem_append.1 hx with hx | hx
    · exact h.at_ x hx
    · simp at hx; subst hx; exact hk, fun x hx => by
    rcases List.mem_append.1 hx with hx | hx
    · exact h.sz x hx
    · simp at hx; subst hx; exact hs, h.fu⟩
theorem now_put (d : St) (k : Nat) (s : Sec) : now (put d k s) = upd (now d) k s := lay_snoc _ _ _

/-- what a crash, or a flush, leaves -/
def settle (d : St) (keep : List UInt8) : St := { d with fl := lay (kept keep d.L) d.fl, L := [] }
theorem settle_ok {d : St} (h : d.Ok) (keep : List UInt8) : (settle d keep).Ok :=
  ⟨h.lo, h.hi, lay_length h.fl (fun x hx => by
    unfold kept at hx
    split at hx
    · simp at hx
    · exact h.sz x (keptF_mem hx)), fun _ hx => by simp [settle] at hx, fun _ hx => by simp [settle] at hx, h.fu⟩

/-! how the last write of a sector is found -/
def key (k : Nat) : Lit := .int .i64 (k : Int)
theorem key_ne {j k : Nat} (h : j ≠ k) : key j ≠ key k := fun e => h (by simp [key] at e; omega)
theorem key_is (k : Nat) : WideAt.IsKeyLit (key k) := by simp [key, WideAt.IsKeyLit]
def num (i : Nat) : DataW Unit := .lit (.int .i64 (i : Int))
def lastF : Nat → List (Nat × Sec) → DataW Unit → DataW Unit
  | _, [], D => D
  | i, x :: r, D => lastF (i + 1) r (D.put (key x.1) (num i))
def lastD (L : List (Nat × Sec)) : DataW Unit := lastF 0 L (.map [])
theorem lastF_append (i : Nat) (a b : List (Nat × Sec)) (D : DataW Unit) : lastF i (a ++ b) D = lastF (i + a.length) b (lastF i a D) := by
  induction a generalizing i D with
  | nil => simp [lastF]
  | cons x r ih => simp only [List.cons_append, lastF, ih, List.length_cons, show i + 1 + r.length = i + (r.length + 1) by omega]
theorem lastD_snoc (L : List (Nat × Sec)) (x : Nat × Sec) : lastD (L ++ [x]) = (lastD L).put (key x.1) (num L.length) := by
  unfold lastD; rw [lastF_append]; simp [lastF]
theorem lastD_map (L : List (Nat × Sec)) : Maps.IsMap (lastD L) := by
  induction L using snocInd with
  | h0 => exact Maps.isMap_empty
  | h1 L x ih => rw [lastD_snoc]; exact ih.put _ _
/-- either no loose write is of this sector, or one is the last of them -/
theorem last_look (L : List (Nat × Sec)) (k : Nat) :
    (Maps.has (lastD L) (key k) = false ∧ ∀ f, lay L f k = f k) ∨
    (Maps.has (lastD L) (key k) = true ∧ ∃ i s, i < L.length ∧ L[i]? = some (k, s) ∧ (∀ z, (lastD L).atKey (key k) z = num i) ∧ ∀ f, lay L f k = s) := by
  induction L using snocInd with
  | h0 => exact .inl ⟨rfl, fun f => rfl⟩
  | h1 L x ih =>
    rw [lastD_snoc]
    by_cases hk : k = x.1
    · right
      refine ⟨by rw [hk]; exact Maps.has_put_same (lastD_map L) (key_is _) _, L.length, x.2, by simp, by rw [hk]; simp, fun z => by rw [hk]; exact Maps.atKey_put_same (lastD_map L) (key_is _) _ _, fun f => ?_⟩
      rw [lay_snoc, hk, upd_same]
    · rw [Maps.has_put_other (key_ne hk)]
      rcases ih with ⟨h1, h2⟩ | ⟨h1, i, s, h2, h3, h4, h5⟩
      · exact .inl ⟨h1, fun f => by rw [lay_snoc, upd_other hk, h2]⟩
      · refine .inr ⟨h1, i, s, by simp; omega, by rw [List.getElem?_append_left h2]; exact h3, fun z => by rw [Maps.atKey_put_other (key_ne hk)]; exact h4 z, fun f => by rw [lay_snoc, upd_other hk, h5]⟩

/-- what the map of flushed sectors reads as -/
def zsec : DataW Unit := .lit (.string zer)
def Reads (D : DataW Unit) (f : Nat → Sec) : Prop := Maps.IsMap D ∧ ∀ k, D.atKey (key k) zsec = .lit (.string (f k))
theorem reads_new : Reads (.map []) (fun _ => zer) := ⟨Maps.isMap_empty, fun k => rfl⟩
theorem Reads.put {D : DataW Unit} {f : Nat → Sec} (h : Reads D f) (k : Nat) (s : Sec) : Reads (D.put (key k) (.lit (.string s))) (upd f k s) :=
  ⟨h.1.put _ _, fun j => by
    by_cases e : j = k
    · subst e; rw [Maps.atKey_put_same h.1 (key_is _), upd_same]
    · rw [Maps.atKey_put_other (key_ne e), upd_other e]; exact h.2 j⟩
end Dsk
end Go.Proofs.Ytjlkppdailkanaa
