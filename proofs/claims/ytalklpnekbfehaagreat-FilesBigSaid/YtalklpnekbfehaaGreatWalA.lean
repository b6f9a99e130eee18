/- Put together of: WalPure WalFollow WalMem WalFill GoPhase WalMark WalGroup -/
import Derived.Test.YtalklpnekbfehaaGreatOctAll
import Derived.Test.YtalklpnekbfehaaGreatCrcAll
import Derived.Test.YtalklpnekbfehaaGreatRefAll
import Derived.Test.YtalklpnekbfehaaGreatRows
import Derived.Test.YtalklpnekbfehaaGreatGoAll
import Derived.Shelf.Abstract
import Derived.Deep.Onto
import Derived.Test.YtalklpnekbfehaaGreatShelf
import Derived.Handy
import Derived.Deep.WholeRow
import Derived.OwnWalk
set_option maxRecDepth 100000
/-
  Plain mathematics of a log on a disk: its header, its groups, what an opened one has, what an append and a reset do.
-/
set_option linter.unusedVariables false
namespace Go.Proofs.YtalklpnekbfehaaGreat
namespace Wal
open Go

abbrev Txt := List UInt8
abbrev Grp := List Txt
/-- how many sectors so many bytes need -/
def whole (n : Nat) : Nat := (n + 63) / 64
/-- with bytes 0 behind, up to whole sectors -/
def fill (s : Txt) : Txt := s ++ List.replicate (whole s.length * 64 - s.length) 0
theorem whole_lo (n : Nat) : n ≤ whole n * 64 := by unfold whole; omega
theorem whole_hi (n : Nat) : whole n * 64 < n + 64 := by unfold whole; omega
theorem fill_length (s : Txt) : (fill s).length = whole s.length * 64 := by
  have := whole_lo s.length
  simp [fill]; omega
theorem fill_take (s : Txt) : (fill s).take s.length = s := by simp [fill]
/-- the header of a generation, and so many sectors -/
def mark (g u : Nat) : Txt := fill (Crc.sealT ([76, 79, 71, 49] ++ Oct.le 8 g ++ Oct.le 4 u))
theorem seal_length (s : Txt) : (Crc.sealT s).length = s.length + 4 := by simp [Crc.sealT, Crc.le4]
theorem text_length (g u : Nat) : ([76, 79, 71, 49] ++ Oct.le 8 g ++ Oct.le 4 u : Txt).length = 16 := by simp [Oct.le_length]
theorem mark_length (g u : Nat) : (mark g u).length = 64 := by
  rw [mark, fill_length, seal_length, text_length]; rfl
theorem mark_take (g u : Nat) : (mark g u).take 20 = Crc.sealT ([76, 79, 71, 49] ++ Oct.le 8 g ++ Oct.le 4 u) := by
  have h : (Crc.sealT ([76, 79, 71, 49] ++ Oct.le 8 g ++ Oct.le 4 u)).length = 20 := by rw [seal_length, text_length]
  rw [mark]
  have := fill_take (Crc.sealT ([76, 79, 71, 49] ++ Oct.le 8 g ++ Oct.le 4 u))
  rwa [h] at this
theorem mark_front (g u : Nat) : ∃ t : Txt, mark g u = [76, 79, 71, 49] ++ (Oct.le 8 g ++ (Oct.le 4 u ++ t)) := by
  refine ⟨Crc.le4 (Crc.sum ([76, 79, 71, 49] ++ Oct.le 8 g ++ Oct.le 4 u)) ++ List.replicate (whole (Crc.sealT ([76, 79, 71, 49] ++ Oct.le 8 g ++ Oct.le 4 u)).length * 64 - (Crc.sealT ([76, 79, 71, 49] ++ Oct.le 8 g ++ Oct.le 4 u)).length) 0, ?_⟩
  simp only [mark, fill, Crc.sealT, List.append_assoc]
theorem mark_gen (g u : Nat) (hg : g < 18446744073709551616) : Oct.un (((mark g u).drop 4).take 8) = g := by
  obtain ⟨t, ht⟩ := mark_front g u
  rw [ht]
  have h8 : (Oct.le 8 g).length = 8 := Oct.le_length _ _
  have h4 : ([76, 79, 71, 49] : Txt).length = 4 := rfl
  rw [List.drop_left' h4, List.take_left' h8]
  exact Oct.un_le 8 g (by omega)
theorem mark_used (g u : Nat) (hu : u < 4294967296) : Oct.un (((mark g u).drop 12).take 4) = u := by
  obtain ⟨t, ht⟩ := mark_front g u
  have h8 : (Oct.le 8 g).length = 8 := Oct.le_length _ _
  have h4 : (Oct.le 4 u).length = 4 := Oct.le_length _ _
  rw [ht, ← List.append_assoc, List.drop_left' (by simp [h8]), List.take_left' h4]
  exact Oct.un_le 4 u (by omega)
def nought (s : Txt) : Prop := s = List.replicate s.length 0
instance (s : Txt) : Decidable (nought s) := inferInstanceAs (Decidable (s = _))
theorem mark_not (g u : Nat) : ¬ nought (mark g u) := fun h => by
  unfold nought at h
  obtain ⟨t, ht⟩ := mark_front g u
  have h0 := congrArg (fun l => l[0]?) h
  rw [mark_length] at h0
  rw [ht] at h0
  simp at h0

/-- what a header says, of a log with so much room -/
def readMark (s : Txt) (room : Nat) : Option (Nat × Nat) :=
  if nought s then some (0, 0)
  else if room < Oct.un ((s.drop 12).take 4) then none
  else if mark (Oct.un ((s.drop 4).take 8)) (Oct.un ((s.drop 12).take 4)) = s then some (Oct.un ((s.drop 4).take 8), Oct.un ((s.drop 12).take 4)) else none
theorem readMark_mark (g u room : Nat) (hg : g < 18446744073709551616) (hu : u < 4294967296) (hr : u ≤ room) : readMark (mark g u) room = some (g, u) := by
  rw [readMark, if_neg (mark_not g u), mark_gen g u hg, mark_used g u hu, if_neg (by omega), if_pos rfl]
theorem readMark_le {s : Txt} {room g u : Nat} (h : readMark s room = some (g, u)) : u ≤ room ∧ g < 18446744073709551616 ∧ u < 4294967296 := by
  unfold readMark at h
  split at h
  · simp only [Option.some.injEq, Prod.mk.injEq] at h; omega
  · split at h
    · cases h
    · split at h
      · simp only [Option.some.injEq, Prod.mk.injEq] at h
        have h1 := Oct.un_lt ((s.drop 4).take 8)
        have h2 := Oct.un_lt ((s.drop 12).take 4)
        have h3 : ((s.drop 4).take 8).length ≤ 8 := by simp; omega
        have h4 : ((s.drop 12).take 4).length ≤ 4 := by simp; omega
        have h5 : (256 : Nat) ^ ((s.drop 4).take 8).length ≤ 256 ^ 8 := Nat.pow_le_pow_right (by omega) h3
        have h6 : (256 : Nat) ^ ((s.drop 12).take 4).length ≤ 256 ^ 4 := Nat.pow_le_pow_right (by omega) h4
        omega
      · cases h
theorem readMark_is {s : Txt} {room g u : Nat} (h : readMark s room = some (g, u)) : (nought s ∧ g = 0 ∧ u = 0) ∨ mark g u = s := by
  unfold readMark at h
  split at h
  · rename_i hn
    simp only [Option.some.injEq, Prod.mk.injEq] at h; exact .inl ⟨hn, h.1.symm, h.2.symm⟩
  · split at h
    · cases h
    · split at h
      · rename_i hm
        simp only [Option.some.injEq, Prod.mk.injEq] at h
        rw [h.1, h.2] at hm
        exact .inr hm
      · cases h

/-- the sectors of a group, by its row's encoding -/
def grp (r : Txt) : Txt := fill (Oct.le 4 r.length ++ r)
def secs (r : Txt) : Nat := whole (4 + r.length)
theorem grp_length (r : Txt) : (grp r).length = secs r * 64 := by rw [grp, fill_length, List.length_append, Oct.le_length]; rfl
theorem secs_pos (r : Txt) : 1 ≤ secs r := by unfold secs whole; omega
/-- a group that may be: its row has an encoding, of fewer than 2^32 bytes -/
def Fine (l : Grp) : Prop := (Oct.row l).2 = 0 ∧ (Oct.row l).1.length < 4294967296
/-- what is read of a group's sectors: the group, and how many bytes it has -/
def readGroup (s : Txt) : Option (Grp × Nat) :=
  if s.length - 4 < Oct.un (s.take 4) then none else
  match Oct.readRow ((s.drop 4).take (Oct.un (s.take 4))) with
  | none => none
  | some l => if (fill (s.take (4 + Oct.un (s.take 4)))).isPrefixOf s then some (l, (fill (s.take (4 + Oct.un (s.take 4)))).length) else none
theorem grp_front (r t : Txt) : grp r ++ t = Oct.le 4 r.length ++ (r ++ (List.replicate (whole (Oct.le 4 r.length ++ r).length * 64 - (Oct.le 4 r.length ++ r).length) 0 ++ t)) := by
  simp only [grp, fill, List.append_assoc]
theorem readGroup_grp (l : Grp) (t : Txt) (h : Fine l) : readGroup (grp (Oct.row l).1 ++ t) = some (l, (grp (Oct.row l).1).length) := by
  obtain ⟨h1, h2⟩ := h
  have hb := Oct.readRow_row l h1
  generalize (Oct.row l).1 = r at *
  have e4 : (Oct.le 4 r.length).length = 4 := Oct.le_length _ _
  have f := grp_front r t
  have eu : Oct.un ((grp r ++ t).take 4) = r.length := by
    rw [f, List.take_left' e4]; exact Oct.un_le 4 _ (by omega)
  have ed : ((grp r ++ t).drop 4).take r.length = r := by
    rw [f, List.drop_left' e4, List.take_left' rfl]
  have et : (grp r ++ t).take (4 + r.length) = Oct.le 4 r.length ++ r := by
    rw [f, ← List.append_assoc]
    exact List.take_left' (by rw [List.length_append, e4])
  have hl : 4 + r.length ≤ (grp r ++ t).length := by
    rw [f]; simp only [List.length_append, e4]; omega
  unfold readGroup
  rw [eu, ed, et, hb, if_neg (by omega)]
  have hp : (fill (Oct.le 4 r.length ++ r)).isPrefixOf (grp r ++ t) = true := by
    rw [List.isPrefixOf_iff_prefix]; exact List.prefix_append _ _
  simp only [hp, if_true]
  rfl
theorem readGroup_is {s : Txt} {l : Grp} {n : Nat} (hs : 4 ≤ s.length) (h : readGroup s = some (l, n)) : Fine l ∧ n = (grp (Oct.row l).1).length ∧ s = grp (Oct.row l).1 ++ s.drop n ∧ n ≤ s.length := by
  unfold readGroup at h
  have hz := Oct.un_lt (s.take 4)
  have hzl : (s.take 4).length = 4 := by rw [List.length_take]; omega
  rw [hzl] at hz
  have hle := Oct.le_un (s.take 4)
  rw [hzl] at hle
  generalize hz0 : Oct.un (s.take 4) = z at *
  split at h
  · cases h
  · rename_i hlt
    cases hr : Oct.readRow ((s.drop 4).take z) with
    | none => rw [hr] at h; cases h
    | some l' =>
      rw [hr] at h
      simp only [] at h
      split at h
      · rename_i hp
        simp only [Option.some.injEq, Prod.mk.injEq] at h
        obtain ⟨rfl, rfl⟩ := h
        have hrow := Oct.row_readRow _ _ hr
        have hlz : ((s.drop 4).take z).length = z := by simp; omega
        have hg : grp (Oct.row l').1 = fill (s.take (4 + z)) := by
          rw [hrow, grp]
          simp only []
          rw [hlz, hle, show s.take (4 + z) = s.take 4 ++ (s.drop 4).take z from List.take_add]
        rw [List.isPrefixOf_iff_prefix] at hp
        obtain ⟨t, ht⟩ := hp
        refine ⟨⟨by rw [hrow], by rw [hrow]; simp only []; omega⟩, by rw [hg], ?_, ?_⟩
        · rw [hg]
          clear hg
          generalize fill (s.take (4 + z)) = F at ht ⊢
          rw [← ht, List.drop_left]
        · clear hg
          generalize fill (s.take (4 + z)) = F at ht ⊢
          rw [← ht]; simp
      · cases h
/-- the sectors of groups, one behind the other -/
def cat : List Grp → Txt
  | [] => []
  | l :: r => grp (Oct.row l).1 ++ cat r
theorem cat_append (a b : List Grp) : cat (a ++ b) = cat a ++ cat b := by
  induction a with
  | nil => rfl
  | cons x r ih => simp only [List.cons_append, cat, ih, List.append_assoc]
theorem cat_le (L : List Grp) : 64 * L.length ≤ (cat L).length := by
  induction L with
  | nil => simp [cat]
  | cons x r ih =>
    have := secs_pos (Oct.row x).1
    simp only [cat, List.length_append, List.length_cons, grp_length]; omega
/-- what is read of sectors: groups -/
def readGroups : Nat → Txt → Option (List Grp)
  | 0, s => if s = [] then some [] else none
  | f + 1, s => if s = [] then some [] else match readGroup s with
    | none => none
    | some (l, n) => (readGroups f (s.drop n)).map (l :: ·)
theorem readGroups_cat (L : List Grp) (h : ∀ l ∈ L, Fine l) (f : Nat) (hf : L.length ≤ f) : readGroups f (cat L) = some L := by
  induction L generalizing f with
  | nil => cases f <;> simp [readGroups, cat]
  | cons x r ih =>
    cases f with
    | zero => simp at hf
    | succ f =>
      have hx : cat (x :: r) ≠ [] := fun e => by
        have := cat_le (x :: r); rw [e] at this; simp at this
      rw [readGroups, if_neg hx]
      show (match readGroup (grp (Oct.row x).1 ++ cat r) with | none => none | some (l, n) => (readGroups f ((cat (x :: r)).drop n)).map (l :: ·)) = _
      rw [readGroup_grp x _ (h x List.mem_cons_self)]
      show (readGroups f ((grp (Oct.row x).1 ++ cat r).drop (grp (Oct.row x).1).length)).map _ = _
      rw [List.drop_left, ih (fun l hl => h l (List.mem_cons_of_mem _ hl)) f (by simpa using hf)]
      rfl
theorem readGroups_is {f : Nat} {s : Txt} {L : List Grp} (hs : s.length % 64 = 0) (h : readGroups f s = some L) : s = cat L ∧ ∀ l ∈ L, Fine l := by
  induction f generalizing s L with
  | zero =>
    unfold readGroups at h
    split at h
    · rename_i e; simp only [Option.some.injEq] at h; subst h; exact ⟨e, fun l hl => by simp at hl⟩
    · cases h
  | succ f ih =>
    unfold readGroups at h
    split at h
    · rename_i e; simp only [Option.some.injEq] at h; subst h; exact ⟨e, fun l hl => by simp at hl⟩
    · rename_i hne
      cases hr : readGroup s with
      | none => rw [hr] at h; cases h
      | some x =>
        obtain ⟨l, n⟩ := x
        rw [hr] at h
        simp only [] at h
        obtain ⟨L2, h2, h3⟩ := Option.map_eq_some_iff.1 h
        have hpos : 0 < s.length := List.length_pos_iff.2 hne
        obtain ⟨hf, hn, hsp, hnl⟩ := readGroup_is (by omega) hr
        have hgl := grp_length (Oct.row l).1
        obtain ⟨e2, f2⟩ := ih (by rw [List.length_drop]; omega) h2
        subst h3
        refine ⟨?_, fun y hy => ?_⟩
        · rw [cat, ← e2]; exact hsp
        · rcases List.mem_cons.1 hy with rfl | hy
          · exact hf
          · exact f2 y hy

/-- a log: generation, sectors of groups, where it stands, how many sectors, groups, the error it failed with -/
structure St where
  gen : Nat
  used : Nat
  from_ : Nat
  n : Nat
  L : List Grp
  err : Int
/-- what is opened of a disk -/
def open_ (d : Dsk.St) (from_ n : Int) : Option St × Int :=
  if n < 2 ∨ ¬ (0 ≤ from_ ∧ from_ + n ≤ (d.n : Int)) then (none, 2)
  else if d.down = true then (none, 40)
  else match readMark (Dsk.rd d from_.toNat 1) (n.toNat - 1) with
    | none => (none, 50)
    | some (g, u) => match readGroups (64 * u) (Dsk.rd d (from_.toNat + 1) u) with
      | none => (none, 50)
      | some L => (some ⟨g, u, from_.toNat, n.toNat, L, 0⟩, 0)
/-- what a disk is asked -/
inductive Op
  | wr (at_ : Nat) (s : Txt)
  | fl
def one (d : Dsk.St) : Op → Dsk.St × Int
  | .wr a s => Dsk.write d a s
  | .fl => Dsk.flush d
/-- one behind the other, up to the first error -/
def steps : List Op → Dsk.St → Dsk.St × Int
  | [], d => (d, 0)
  | o :: r, d => if (one d o).2 = 0 then steps r (one d o).1 else one d o
def appendOps (s : St) (r : Txt) : List Op := [.wr (s.from_ + 1 + s.used) (grp r), .fl, .wr s.from_ (mark s.gen (s.used + secs r)), .fl]
def append (d : Dsk.St) (s : St) (l : Grp) : Dsk.St × St × Int :=
  if s.err ≠ 0 then (d, s, s.err)
  else if (Oct.row l).2 ≠ 0 then (d, s, (Oct.row l).2)
  else if s.n - 1 - s.used < secs (Oct.row l).1 then (d, s, 4)
  else
    ((steps (appendOps s (Oct.row l).1) d).1,
      if (steps (appendOps s (Oct.row l).1) d).2 = 0 then { s with used := s.used + secs (Oct.row l).1, L := s.L ++ [l] } else { s with err := (steps (appendOps s (Oct.row l).1) d).2 },
      (steps (appendOps s (Oct.row l).1) d).2)
def up (g : Nat) : Nat := (g + 1) % 18446744073709551616
def resetOps (s : St) : List Op := [.wr s.from_ (mark (up s.gen) 0), .fl]
def reset (d : Dsk.St) (s : St) : Dsk.St × St × Int :=
  if s.err ≠ 0 then (d, s, s.err)
  else
    ((steps (resetOps s) d).1,
      if (steps (resetOps s) d).2 = 0 then { s with gen := up s.gen, used := 0, L := [] } else { s with err := (steps (resetOps s) d).2 },
      (steps (resetOps s) d).2)
/-- a log that may be, on a disk with so many sectors -/
structure St.Ok (s : St) (m : Nat) : Prop where
  gen : s.gen < 18446744073709551616
  used : s.used ≤ s.n - 1
  lo : 2 ≤ s.n
  hi : s.from_ + s.n ≤ m
  m : m ≤ 16384
  len : s.L.length ≤ s.used
  fine : ∀ l ∈ s.L, Fine l
  err : s.err = 0 ∨ s.err = 2 ∨ s.err = 40
theorem one_err (d : Dsk.St) (o : Op) : (one d o).2 = 0 ∨ (one d o).2 = 2 ∨ (one d o).2 = 40 := by
  cases o with
  | wr a s =>
    simp only [one, Dsk.write]
    split
    · simp
    · split
      · simp
      · simp only []
        split <;> simp
  | fl => simp only [one, Dsk.flush]; split <;> simp
theorem steps_err (L : List Op) (d : Dsk.St) : (steps L d).2 = 0 ∨ (steps L d).2 = 2 ∨ (steps L d).2 = 40 := by
  induction L generalizing d with
  | nil => simp [steps]
  | cons o r ih =>
    unfold steps
    split
    · exact ih _
    · exact one_err d o
end Wal
end Go.Proofs.YtalklpnekbfehaaGreat

/-
  wal's follow: steps that are function values, one after another, up to the first error.
-/
set_option linter.unusedVariables false
namespace Go.Proofs.YtalklpnekbfehaaGreat
open Go.RowKit

/-- how far the steps came -/
def Went (n : Nat) (ee : Nat → Int) (I : Nat → World → Prop) (e : Ending) (w' : World) : Prop :=
  ∃ m, m ≤ n ∧ (∀ j, j < m → ee j = 0) ∧ ((m = n ∧ e = .returned (.int .i64 0) ∧ I n w') ∨ (m < n ∧ ee m ≠ 0 ∧ e = .returned (.int .i64 (ee m)) ∧ I (m + 1) w'))

set_option maxHeartbeats 400000 in
theorem follow_any (b n : Nat) (g : Nat → Nat) (lb : Nat → Array Value) (eg : ∀ i, i < n → ∀ args w, (callFunc (g i) args).run Tryz.prog w = .ok (.enter (g i) args) w)
    (ee : Nat → Int) (I : Nat → World → Prop) (hn : n ≤ 100) (w : World)
    (hcell : ∀ k W, I k W → ∀ i, i < n → W.cell? ⟨b, i, none⟩ = some (.func (.func (g i)) #[] (lb i)))
    (hstep : ∀ k W, k < n → (∀ j, j < k → ee j = 0) → I k W → Calls Tryz.prog (g k) (lb k) W fun e W' => e = .returned (.int .i64 (ee k)) ∧ I (k + 1) W')
    (h0 : I 0 w) : Calls Tryz.prog 33 #[.slice (some ⟨b, 0, none⟩) n n] w (Went n ee I) := by
  have Hcell := Lib.hid hcell; clear hcell
  have Hstep := Lib.hid hstep; clear hstep
  go_enter Tryz.func33, Tryz.ntmps33
  go_wp2
  go_loopw [8] (fun i wr => ∃ k : Nat, k ≤ n ∧ i = .int .i64 k ∧ (∀ j, j < k → ee j = 0) ∧ I k wr) (fun i _ => n - (intOf i).toNat)
  case atStart => exact ⟨0, by omega, rfl, fun j hj => by omega, h0⟩
  case round =>
    obtain ⟨k, hk, rfl, hz, hI⟩ := hrel
    by_cases hlt : k < n
    · have hc := Hcell.out k _ hI k hlt
      have hlt2 : (k : Int) < (n : Int) := by omega
      have egk := eg k hlt
      have hst := Hstep.out k _ hlt hz hI
      have Hz0 := Lib.hid hz; clear hz
      by_cases he : ee k = 0
      · have hz' : ∀ j, j < k + 1 → ee j = 0 := fun j hj => by
          by_cases hjk : j < k
          · exact Hz0.out j hjk
          · obtain rfl : j = k := by omega
            exact he
        rw [he] at hst
        have Hz1 := Lib.hid hz'; clear hz'
        have Hst := Lib.hid hst; clear hst
        generalize hgk : g k = gk at *
        go_wp2_with (go_at_fn gk; refine Hst.out.mono ?_; rintro e w' ⟨rfl, hI2⟩)
        go_roundw
        case rel => exact ⟨k + 1, by omega, by go_num, Hz1.out, hI2⟩
        case measure => simp [intOf]; omega
      · have hne : (ee k != 0) = true := by rw [bne_iff_ne]; exact he
        have Hst := Lib.hid hst; clear hst
        generalize hgk : g k = gk at *
        go_wp2_with (go_at_fn gk; refine Hst.out.mono ?_; rintro e w' ⟨rfl, hI2⟩)
        go_ret
        exact ⟨k, by omega, Hz0.out, .inr ⟨hlt, he, rfl, hI2⟩⟩
    · obtain rfl : k = n := by omega
      have Hz0 := Lib.hid hz; clear hz
      go_wp2
      go_ret
      exact ⟨k, by omega, Hz0.out, .inl ⟨rfl, rfl, hI⟩⟩
end Go.Proofs.YtalklpnekbfehaaGreat

/-
  How a log lies in memory: its own cells, the row of its groups, each group's texts.
-/
set_option linter.unusedVariables false
set_option maxRecDepth 100000
namespace Go.Proofs.YtalklpnekbfehaaGreat
open Go.RowKit

/-- lists of bytes as texts -/
def bas (l : List (List UInt8)) : List ByteArray := l.map fun b => ⟨b.toArray⟩
theorem lists_bas (l : List (List UInt8)) : lists (bas l) = l := by simp [lists, bas, Function.comp_def]
theorem bas_lists (l : List ByteArray) : bas (lists l) = l := lists_inj (lists_bas _)
theorem bas_length (l : List (List UInt8)) : (bas l).length = l.length := by simp [bas]

theorem Own.new {B : Nat} {v : Value} {l : List ByteArray} {w w' : World} (h : Own B v l w) (hb : Below w.heap.size w w') : Own B v l w' :=
  ownsRow_same h fun g hg => hb.block g (h.lt g hg).2
theorem Own.low {B C : Nat} {v : Value} {l : List ByteArray} {w : World} (h : Own B v l w) (hc : C ≤ B) : Own C v l w := World.ownsRow.mono h hc

/-- the texts of a group lie at u, in R -/
def GrpAt (R : Nat → Prop) (u : Value) (l : Wal.Grp) (w : World) : Prop := Own 0 u (bas l) w ∧ ∀ k, u.ownBlock = some k → R k
theorem GrpAt.keeps {R T : Nat → Prop} {u : Value} {l : Wal.Grp} {w w' : World} (h : GrpAt R u l w) (ht : Turns T w w') (hn : ∀ k, R k → ¬ T k) : GrpAt R u l w' :=
  ⟨ownsRow_same h.1 fun g hg => ht.block g (h.1.lt g hg).2 (hn g (h.2 g hg)), h.2⟩
theorem GrpAt.mono {R T : Nat → Prop} {u : Value} {l : Wal.Grp} {w : World} (h : GrpAt R u l w) (hn : ∀ k, R k → T k) : GrpAt T u l w := ⟨h.1, fun k hk => hn k (h.2 k hk)⟩
theorem GrpAt.strs {R : Nat → Prop} {u : Value} {l : Wal.Grp} {w : World} (h : GrpAt R u l w) : ∃ a cap, u = .slice a l.length cap ∧ Strs a l.length (bas l) w ∧ l.length ≤ cap ∧ cap ≤ maxLen := by
  rcases h.1.2 with ⟨hv, h0⟩ | ⟨g, cap, cur, hv, _, _, h1, h2, _⟩
  · obtain ⟨a, cap, hu, hs, _⟩ := h.1.strs
    rw [bas_length] at hu hs h0
    rw [hv] at hu
    injection hu with e1 e2 e3
    exact ⟨none, 0, by rw [hv, h0], by rw [h0] at hs ⊢; exact ⟨by rw [bas_length, h0], fun j hj => by omega⟩, by omega, by unfold maxLen; omega⟩
  · obtain ⟨a, cap', hu, hs, _⟩ := h.1.strs
    rw [bas_length] at hu hs h1 hv
    rw [hv] at hu
    injection hu with e1 e2 e3
    exact ⟨_, cap, hv, by rw [e1]; exact hs, h1, h2⟩

/-- the groups L lie at the values vs, in R -/
def Grps (R : Nat → Prop) (vs : List Value) (L : List Wal.Grp) (w : World) : Prop := vs.length = L.length ∧ ∀ (i : Nat) (l : Wal.Grp), L[i]? = some l → ∃ u, vs[i]? = some u ∧ GrpAt R u l w
theorem Grps.nil (R : Nat → Prop) (w : World) : Grps R [] [] w := ⟨rfl, fun i l h => by simp at h⟩
theorem Grps.keeps {R T : Nat → Prop} {vs : List Value} {L : List Wal.Grp} {w w' : World} (h : Grps R vs L w) (ht : Turns T w w') (hn : ∀ k, R k → ¬ T k) : Grps R vs L w' :=
  ⟨h.1, fun i l hl => by obtain ⟨u, h1, h2⟩ := h.2 i l hl; exact ⟨u, h1, h2.keeps ht hn⟩⟩
theorem Grps.mono {R T : Nat → Prop} {vs : List Value} {L : List Wal.Grp} {w : World} (h : Grps R vs L w) (hn : ∀ k, R k → T k) : Grps T vs L w :=
  ⟨h.1, fun i l hl => by obtain ⟨u, h1, h2⟩ := h.2 i l hl; exact ⟨u, h1, h2.mono hn⟩⟩
theorem Grps.snoc {R : Nat → Prop} {vs : List Value} {L : List Wal.Grp} {w : World} (h : Grps R vs L w) {u : Value} {l : Wal.Grp} (hu : GrpAt R u l w) : Grps R (vs ++ [u]) (L ++ [l]) w :=
  ⟨by simp [h.1], fun i x hx => by
    rcases Nat.lt_trichotomy i L.length with hi | rfl | hi
    · rw [List.getElem?_append_left hi] at hx
      obtain ⟨v, h1, h2⟩ := h.2 i x hx
      exact ⟨v, by rw [List.getElem?_append_left (by rw [h.1]; exact hi)]; exact h1, h2⟩
    · simp at hx; subst hx
      exact ⟨u, by rw [← h.1]; simp, hu⟩
    · rw [List.getElem?_eq_none (by simp; omega)] at hx; cases hx⟩

/-- a row of groups of the call's own: the row v, and its texts, lie in R -/
def GRows (R : Nat → Prop) (v : Value) (L : List Wal.Grp) (w : World) : Prop := (∀ k, R k → k < w.heap.size) ∧ ∃ vs, w.ownsRow 0 29 1 v L.length vs ∧ (∀ k, v.ownBlock = some k → R k) ∧ Grps R vs L w
theorem GRows.keeps {R T : Nat → Prop} {v : Value} {L : List Wal.Grp} {w w' : World} (h : GRows R v L w) (ht : Turns T w w') (hn : ∀ k, R k → ¬ T k) : GRows R v L w' := by
  obtain ⟨h0, vs, h1, h2, h3⟩ := h
  exact ⟨fun k hk => Nat.lt_of_lt_of_le (h0 k hk) ht.size, vs, ownsRow_same h1 fun g hg => ht.block g (h1.lt g hg).2 (hn g (h2 g hg)), h2, h3.keeps ht hn⟩
theorem GRows.new {R : Nat → Prop} {v : Value} {L : List Wal.Grp} {w w' : World} (h : GRows R v L w) (hb : Below w.heap.size w w') : GRows R v L w' :=
  h.keeps (Turns.of_new hb (fun _ => False)) (fun _ _ => id)
theorem GRows.grow {R T : Nat → Prop} {v : Value} {L : List Wal.Grp} {w : World} (h : GRows R v L w) (hT : ∀ k, R k → T k) (hl : ∀ k, T k → k < w.heap.size) : GRows T v L w := by
  obtain ⟨h0, vs, h1, h2, h3⟩ := h
  exact ⟨hl, vs, h1, fun k hk => hT k (h2 k hk), h3.mono hT⟩
theorem GRows.nil (R : Nat → Prop) (w : World) (h : ∀ k, R k → k < w.heap.size) : GRows R (.slice none 0 0) [] w :=
  ⟨h, [], World.ownsRow_nil _ _ _ _, fun k hk => by simp [Value.ownBlock] at hk, Grps.nil _ _⟩
theorem GRows.form {R : Nat → Prop} {v : Value} {L : List Wal.Grp} {w : World} (h : GRows R v L w) : ∃ a cap, v = .slice a L.length cap ∧ L.length ≤ cap ∧ cap ≤ maxLen ∧
    ∀ i l, L[i]? = some l → ∃ b u, a = some ⟨b, 0, none⟩ ∧ w.cell? ⟨b, i, none⟩ = some u ∧ GrpAt R u l w := by
  obtain ⟨h0, vs, h1, h2, h3⟩ := h
  rcases h1.2 with ⟨hv, hn⟩ | ⟨g, cap, cur, hv, _, hc, hl1, hl2, hs, ht⟩
  · exact ⟨none, 0, by rw [hv, hn], by omega, by unfold maxLen; omega, fun i l hl => by have := (List.getElem?_eq_some_iff.1 hl).1; omega⟩
  · refine ⟨some ⟨g, 0, none⟩, cap, hv, hl1, hl2, fun i l hl => ?_⟩
    obtain ⟨u, hu, hg⟩ := h3.2 i l hl
    refine ⟨g, u, rfl, ?_, hg⟩
    have := h1.cells (by rw [hv]; rfl) i u hu
    rwa [add_at] at this

def wlcells (s : Wal.St) (q : Nat) (v : Value) : Array Value := #[.int .u64 (s.gen : Int), .int .i64 (s.used : Int), .pointer (some ⟨q, 0, none⟩), .int .i64 (s.from_ : Int), .int .i64 (s.n : Int), v, .int .i64 s.err]
/-- block p, and the other blocks of R, are a log, on the disk at q -/
structure WalIn (R : Nat → Prop) (p q : Nat) (s : Wal.St) (w : World) (v : Value) : Prop where
  hp : R p
  row : w.heap[p]? = some (.cells (wlcells s q v) 131 (0, 0))
  rows : GRows R v s.L w
def WalAt (R : Nat → Prop) (p q : Nat) (s : Wal.St) (w : World) : Prop := ∃ v, WalIn R p q s w v
theorem WalIn.keeps {R T : Nat → Prop} {p q : Nat} {s : Wal.St} {w w' : World} {v : Value} (h : WalIn R p q s w v) (ht : Turns T w w') (hn : ∀ k, R k → ¬ T k) : WalIn R p q s w' v :=
  ⟨h.hp, ht.same h.row (hn _ h.hp), h.rows.keeps ht hn⟩
theorem WalAt.keeps {R T : Nat → Prop} {p q : Nat} {s : Wal.St} {w w' : World} (h : WalAt R p q s w) (ht : Turns T w w') (hn : ∀ k, R k → ¬ T k) : WalAt R p q s w' := by
  obtain ⟨v, h⟩ := h; exact ⟨v, h.keeps ht hn⟩
theorem WalAt.new {R : Nat → Prop} {p q : Nat} {s : Wal.St} {w w' : World} (h : WalAt R p q s w) (hb : Below w.heap.size w w') : WalAt R p q s w' :=
  h.keeps (Turns.of_new hb (fun _ => False)) (fun _ _ => id)
theorem WalAt.lt {R : Nat → Prop} {p q : Nat} {s : Wal.St} {w : World} (h : WalAt R p q s w) : ∀ k, R k → k < w.heap.size := by
  obtain ⟨v, h⟩ := h; exact h.rows.1
theorem WalAt.hp {R : Nat → Prop} {p q : Nat} {s : Wal.St} {w : World} (h : WalAt R p q s w) : R p := by obtain ⟨v, h⟩ := h; exact h.hp
theorem GRows.vp {R : Nat → Prop} {v : Value} {L : List Wal.Grp} {w : World} (h : GRows R v L w) {p : Nat} {cs : Array Value} {t : TypeId} (hr : w.heap[p]? = some (.cells cs t (0, 0))) (ht : t ≠ 29) : v.ownBlock ≠ some p := fun e => by
  obtain ⟨h0, vs, h1, h2, h3⟩ := h
  obtain ⟨cur, hb⟩ := ownsRow_block h1 e
  rw [hr] at hb
  simp only [Option.some.injEq, Obj.cells.injEq] at hb
  exact ht hb.2.1
theorem GrpAt.up {R : Nat → Prop} {u : Value} {l : Wal.Grp} {w : World} (h : GrpAt R u l w) {p : Nat} {cs : Array Value} {t : TypeId} (hr : w.heap[p]? = some (.cells cs t (0, 0))) (ht : t ≠ 9) : u.ownBlock ≠ some p := fun e => by
  obtain ⟨cur, hb⟩ := ownsRow_block h.1 e
  rw [hr] at hb
  simp only [Option.some.injEq, Obj.cells.injEq] at hb
  exact ht hb.2.1
/-- a block of another type has been turned -/
theorem GRows.beside {R : Nat → Prop} {v : Value} {L : List Wal.Grp} {w w' : World} (h : GRows R v L w) {p : Nat} {cs : Array Value} {t : TypeId} (hr : w.heap[p]? = some (.cells cs t (0, 0))) (ht : t ≠ 29) (ht2 : t ≠ 9) (hw : Turns (fun k => k = p) w w') : GRows R v L w' := by
  have hv := h.vp hr ht
  obtain ⟨h0, vs, h1, h2, h3⟩ := h
  refine ⟨fun k hk => Nat.lt_of_lt_of_le (h0 k hk) hw.size, vs, ownsRow_same h1 fun g hg => hw.block g (h1.lt g hg).2 (fun e => hv (by rw [hg, e])), h2, h3.1, fun i l hl => ?_⟩
  obtain ⟨u, hu, hg⟩ := h3.2 i l hl
  exact ⟨u, hu, ownsRow_same hg.1 fun g he => hw.block g (hg.1.lt g he).2 (fun e => hg.up hr ht2 (by rw [he, e])), hg.2⟩

variable {R : Nat → Prop} {p q : Nat} {s : Wal.St} {w : World} {v : Value}
theorem WalIn.c0 (h : WalIn R p q s w v) : w.cell? ⟨p, 0, none⟩ = some (.int .u64 (s.gen : Int)) := by rw [cell_of_row w p 0 _ _ _ h.row]; rfl
theorem WalIn.c1 (h : WalIn R p q s w v) : w.cell? ⟨p, 1, none⟩ = some (.int .i64 (s.used : Int)) := by rw [cell_of_row w p 1 _ _ _ h.row]; rfl
theorem WalIn.c2 (h : WalIn R p q s w v) : w.cell? ⟨p, 2, none⟩ = some (.pointer (some ⟨q, 0, none⟩)) := by rw [cell_of_row w p 2 _ _ _ h.row]; rfl
theorem WalIn.c3 (h : WalIn R p q s w v) : w.cell? ⟨p, 3, none⟩ = some (.int .i64 (s.from_ : Int)) := by rw [cell_of_row w p 3 _ _ _ h.row]; rfl
theorem WalIn.c4 (h : WalIn R p q s w v) : w.cell? ⟨p, 4, none⟩ = some (.int .i64 (s.n : Int)) := by rw [cell_of_row w p 4 _ _ _ h.row]; rfl
theorem WalIn.c5 (h : WalIn R p q s w v) : w.cell? ⟨p, 5, none⟩ = some v := by rw [cell_of_row w p 5 _ _ _ h.row]; rfl
theorem WalIn.c6 (h : WalIn R p q s w v) : w.cell? ⟨p, 6, none⟩ = some (.int .i64 s.err) := by rw [cell_of_row w p 6 _ _ _ h.row]; rfl
theorem WalIn.free (h : WalIn R p q s w v) (j : Nat) : w.frozen? ⟨p, j, none⟩ = false := row_free h.row j
end Go.Proofs.YtalklpnekbfehaaGreat

/-
  wal's texts: filled up to whole sectors, a group's sectors, a header.
-/
set_option linter.unusedVariables false
set_option maxRecDepth 100000
namespace Go.Proofs.YtalklpnekbfehaaGreat
open Go.RowKit

/-- bytes as a text -/
def ba (l : List UInt8) : ByteArray := ⟨l.toArray⟩
theorem ba_list (l : List UInt8) : (ba l).data.toList = l := by simp [ba]
theorem ba_size (l : List UInt8) : (ba l).size = l.length := by simp [ba, ByteArray.size]
theorem ba_of (s : ByteArray) : ba s.data.toList = s := ba_eta s
theorem ba_app (a b : List UInt8) : ba a ++ ba b = ba (a ++ b) := cat_list a b
theorem repeat_zero (n : Nat) : Lib.repeatL [0] n = List.replicate n 0 := by
  induction n with
  | zero => rfl
  | succ n ih => simp [Lib.repeatL, ih, List.replicate_succ]

theorem whole_any (n : Nat) (hn : n ≤ 4611686018427387904) (w : World) :
    Calls Tryz.prog 131 #[.int .i64 (n : Int)] w fun e w' => e = .returned (.int .i64 ((Wal.whole n : Nat) : Int)) ∧ w = w' := by
  have hq : ((n : Int) + 64 - 1).tdiv 64 = ((Wal.whole n : Nat) : Int) := by
    rw [Int.tdiv_eq_ediv_of_nonneg (by omega)]; unfold Wal.whole; omega
  have hq2 : ((n : Int) + 64 - 1) / 64 = ((Wal.whole n : Nat) : Int) := by
    unfold Wal.whole; omega
  go_enter Tryz.func131, Tryz.ntmps131
  go_wp2
  go_ret
  exact ⟨by simp_all, rfl⟩

theorem filled_any (s : ByteArray) (hs : s.size ≤ 70368744177664) (w : World) :
    Calls Tryz.prog 116 #[.string s] w fun e w' => e = .returned (.string (ba (Wal.fill s.data.toList))) ∧ Below w.heap.size w w' := by
  have h1 := Wal.whole_lo s.size
  have h2 := Wal.whole_hi s.size
  have hw := fun u => whole_any s.size (by omega) u
  have hz : (⟨#[0]⟩ : ByteArray).size = 1 := rfl
  have hr := fun u => Tryz.strings_Repeat ⟨#[0]⟩ (Wal.whole s.size * 64 - s.size) u (by omega) (by rw [hz]; omega)
  have he : s ++ ba (List.replicate (Wal.whole s.size * 64 - s.size) 0) = ba (Wal.fill s.data.toList) := by
    have : s ++ ba (List.replicate (Wal.whole s.size * 64 - s.size) 0) = ba s.data.toList ++ ba (List.replicate (Wal.whole s.size * 64 - s.size) 0) := by rw [ba_of]
    rw [this, ba_app, Wal.fill, ba_len]
  have hl : (⟨(Lib.repeatL [0] (Wal.whole s.size * 64 - s.size)).toArray⟩ : ByteArray) = ba (List.replicate (Wal.whole s.size * 64 - s.size) 0) := by rw [repeat_zero]; rfl
  have hzl : (ba (List.replicate (Wal.whole s.size * 64 - s.size) 0)).size = Wal.whole s.size * 64 - s.size := by rw [ba_size]; simp
  simp only [hl] at hr
  generalize hk : Wal.whole s.size = k at *
  generalize hk2 : k * 64 - s.size = j at *
  have hj : (k : Int) * 64 - (s.size : Int) = (j : Int) := by omega
  generalize ba (List.replicate j 0) = z at *
  have Hw := Lib.hid hw; clear hw
  have Hr := Lib.hid hr; clear hr
  have He := Lib.hid he; clear he
  clear hl hz
  go_enter Tryz.func116, Tryz.ntmps116
  go_wp2_with fail
  refine (Hw.out _).mono ?_; rintro e w1 ⟨rfl, rfl⟩
  go_wp2_with fail
  refine (Hr.out _).mono ?_; rintro e w2 ⟨rfl, hb⟩
  go_wp2_with fail
  go_ret
  exact ⟨by rw [He.out]; rfl, hb⟩

theorem nought_count (l : List UInt8) : Wal.nought l ↔ l.count 0 = l.length := by
  unfold Wal.nought
  rw [List.eq_replicate_iff, List.count_eq_length]
  exact ⟨fun h b hb => (h.2 b hb).symm, fun h => ⟨rfl, fun b hb => (h b hb).symm⟩⟩
theorem blank_any (s : ByteArray) (b : Bool) (hb : decide (Wal.nought s.data.toList) = b) (w : World) :
    Calls Tryz.prog 67 #[.string s] w fun e w' => e = .returned (.bool b) ∧ Below w.heap.size w w' := by
  have hc := fun u => Tryz.strings_Count_one s 0 u
  have hn : Lib.countByte s.data.toList 0 = s.data.toList.count 0 := rfl
  rw [hn] at hc
  have hx : (((s.data.toList.count 0 : Nat) : Int) == (s.size : Int)) = b := by
    rw [← hb, ← ba_len]
    by_cases h : Wal.nought s.data.toList
    · rw [decide_eq_true h, beq_iff_eq, (nought_count _).1 h]
    · rw [decide_eq_false h, beq_eq_false_iff_ne]
      intro e
      exact h ((nought_count _).2 (by exact_mod_cast e))
  generalize s.data.toList.count 0 = k at *
  have Hc := Lib.hid hc; clear hc
  clear hb hn
  go_enter Tryz.func67, Tryz.ntmps67
  go_wp2_with fail
  refine (Hc.out _).mono ?_; rintro e w1 ⟨rfl, rfl⟩
  go_wp2_with fail
  go_ret
  exact ⟨rfl, Below.refl _ _⟩

theorem groupSectors_any (s : ByteArray) (hs : s.size ≤ 70368744177664) (w : World) :
    Calls Tryz.prog 86 #[.string s] w fun e w' => e = .returned (.int .i64 ((Wal.secs s.data.toList : Nat) : Int)) ∧ w = w' := by
  have hw := fun u => whole_any (4 + s.size) (by omega) u
  have he : Wal.secs s.data.toList = Wal.whole (4 + s.size) := by rw [Wal.secs, ba_len]
  rw [he]
  have hc : ((4 + s.size : Nat) : Int) = 4 + (s.size : Int) := by omega
  rw [hc] at hw
  generalize Wal.whole (4 + s.size) = k at *
  have Hw := Lib.hid hw; clear hw
  clear he hc
  go_enter Tryz.func86, Tryz.ntmps86
  go_wp2_with fail
  refine (Hw.out _).mono ?_; rintro e w1 ⟨rfl, rfl⟩
  go_wp2_with fail
  go_ret
  exact ⟨rfl, rfl⟩

theorem groupText_any (s : ByteArray) (hs : s.size < 4294967296) (w : World) :
    Calls Tryz.prog 90 #[.string s] w fun e w' => e = .returned (.string (ba (Wal.grp s.data.toList))) ∧ Below w.heap.size w w' := by
  have hp := fun u => octPut_any s.size 4 u (by omega) (by decide) (by decide)
  have he : Oct.put s.size 4 = (Oct.le 4 s.size, 0) := by
    unfold Oct.put
    rw [if_pos ⟨by decide, by decide, by simpa using hs⟩]; rfl
  rw [he] at hp
  have h4 : (ba (Oct.le 4 s.size)).size = 4 := by rw [ba_size, Oct.le_length]
  have hp' : ∀ u, Calls Tryz.prog 115 #[.int .u64 (s.size : Int), .int .i64 4] u fun e w' => e = .returned (.tuple #[.string (ba (Oct.le 4 s.size)), .int .i64 0]) ∧ Below u.heap.size u w' := hp
  clear hp
  have hg : ba (Wal.grp s.data.toList) = ba (Wal.fill (ba (Oct.le 4 s.size) ++ s).data.toList) := by
    have : ba (Oct.le 4 s.size) ++ s = ba (Oct.le 4 s.size) ++ ba s.data.toList := by rw [ba_of]
    rw [this, ba_app, ba_list, Wal.grp, ba_len]
  have hsz : (ba (Oct.le 4 s.size) ++ s).size = 4 + s.size := by rw [ByteArray.size_append, h4]
  have hf := fun u => filled_any (ba (Oct.le 4 s.size) ++ s) (by omega) u
  rw [← hg] at hf
  generalize ba (Oct.le 4 s.size) = z at *
  generalize ba (Wal.grp s.data.toList) = r at *
  have Hf := Lib.hid hf; clear hf
  have Hp := Lib.hid hp'; clear hp'
  clear hg he hsz
  go_enter Tryz.func90, Tryz.ntmps90
  go_wp2_with fail
  refine (Hp.out _).mono ?_; rintro e w1 ⟨rfl, h1⟩
  go_wp2_with fail
  refine (Hf.out _).mono ?_; rintro e w2 ⟨rfl, h2⟩
  go_wp2_with fail
  go_ret
  exact ⟨rfl, h1.trans (h2.mono h1.size)⟩

theorem header_any (g u : Nat) (hg : g < 18446744073709551616) (hu : u < 4294967296) (w : World) :
    Calls Tryz.prog 94 #[.agg #[.int .u64 (g : Int), .int .i64 (u : Int)]] w fun e w' => e = .returned (.string (ba (Wal.mark g u))) ∧ Below w.heap.size w w' := by
  have hp1 := fun x => octPut_any g 8 x hg (by decide) (by decide)
  have he1 : Oct.put g 8 = (Oct.le 8 g, 0) := by
    unfold Oct.put
    rw [if_pos ⟨by decide, by decide, by simpa using hg⟩]; rfl
  have hp2 := fun x => octPut_any u 4 x (by omega) (by decide) (by decide)
  have he2 : Oct.put u 4 = (Oct.le 4 u, 0) := by
    unfold Oct.put
    rw [if_pos ⟨by decide, by decide, by simpa using hu⟩]; rfl
  rw [he1] at hp1
  rw [he2] at hp2
  have l8 : (ba (Oct.le 8 g)).size = 8 := by rw [ba_size, Oct.le_length]
  have l4 : (ba (Oct.le 4 u)).size = 4 := by rw [ba_size, Oct.le_length]
  have hp1' : ∀ x, Calls Tryz.prog 115 #[.int .u64 (g : Int), .int .i64 8] x fun e w' => e = .returned (.tuple #[.string (ba (Oct.le 8 g)), .int .i64 0]) ∧ Below x.heap.size x w' := hp1
  have hp2' : ∀ x, Calls Tryz.prog 115 #[.int .u64 (u : Int), .int .i64 4] x fun e w' => e = .returned (.tuple #[.string (ba (Oct.le 4 u)), .int .i64 0]) ∧ Below x.heap.size x w' := hp2
  clear hp1 hp2 he1 he2
  have hT : (⟨#[76, 79, 71, 49]⟩ : ByteArray) ++ ba (Oct.le 8 g) ++ ba (Oct.le 4 u) = ba ([76, 79, 71, 49] ++ Oct.le 8 g ++ Oct.le 4 u) := by
    have : (⟨#[76, 79, 71, 49]⟩ : ByteArray) = ba [76, 79, 71, 49] := rfl
    rw [this, ba_app, ba_app]
  have hTl : (ba ([76, 79, 71, 49] ++ Oct.le 8 g ++ Oct.le 4 u)).size = 16 := by rw [ba_size, Wal.text_length]
  have hS := fun x => seal_any (ba ([76, 79, 71, 49] ++ Oct.le 8 g ++ Oct.le 4 u)) (by omega) x
  have hSl : (sealB (ba ([76, 79, 71, 49] ++ Oct.le 8 g ++ Oct.le 4 u))).size = 20 := by rw [sealB_size, hTl]
  have hF := fun x => filled_any (sealB (ba ([76, 79, 71, 49] ++ Oct.le 8 g ++ Oct.le 4 u))) (by omega) x
  have hM : Wal.fill (sealB (ba ([76, 79, 71, 49] ++ Oct.le 8 g ++ Oct.le 4 u))).data.toList = Wal.mark g u := by
    rw [sealB_list, ba_list]; rfl
  rw [hM] at hF
  generalize sealB (ba ([76, 79, 71, 49] ++ Oct.le 8 g ++ Oct.le 4 u)) = S at *
  generalize ba (Wal.mark g u) = M at *
  generalize ba ([76, 79, 71, 49] ++ Oct.le 8 g ++ Oct.le 4 u) = T at *
  generalize ba (Oct.le 8 g) = A8 at *
  generalize ba (Oct.le 4 u) = A4 at *
  have l12 : ((⟨#[76, 79, 71, 49]⟩ : ByteArray) ++ A8).size = 12 := by rw [ByteArray.size_append, l8]; rfl
  have HT := Lib.hid hT; clear hT
  have H1 := Lib.hid hp1'; clear hp1'
  have H2 := Lib.hid hp2'; clear hp2'
  have HS := Lib.hid hS; clear hS
  have HF := Lib.hid hF; clear hF
  clear hM hTl hSl
  go_enter Tryz.func94, Tryz.ntmps94
  go_wp2_with fail
  refine (H1.out _).mono ?_; rintro e w1 ⟨rfl, h1⟩
  have hr1 : w1.heap[w.heap.size]? = some (.cells #[.int .u64 (g : Int), .int .i64 (u : Int)] 128 (0, 0)) := by
    rw [h1.block _ (by simp)]; exact heap_alloc_new _ _
  have c1 : w1.cell? ⟨w.heap.size, 1, none⟩ = some (.int .i64 (u : Int)) := by rw [cell_of_row _ _ 1 _ _ _ hr1]; rfl
  have k1 : Below w.heap.size w w1 := ((Below.refl w.heap.size w).alloc (Nat.le_refl _) _).trans (h1.mono (by simp))
  clear hr1 h1
  have K1 := Lib.hid k1; clear k1
  go_wp2_with fail
  refine (H2.out _).mono ?_; rintro e w2 ⟨rfl, h2⟩
  go_wp2_with fail
  rw [HT.out]
  refine (HS.out _).mono ?_; rintro e w3 ⟨rfl, h3⟩
  go_wp2_with fail
  refine (HF.out _).mono ?_; rintro e w4 ⟨rfl, h4⟩
  go_wp2_with fail
  go_ret
  have k2 := K1.out.trans (h2.mono K1.out.size)
  have k3 := k2.trans (h3.mono k2.size)
  exact ⟨rfl, k3.trans (h4.mono k3.size)⟩
end Go.Proofs.YtalklpnekbfehaaGreat

/-
  A region that draws its order, walked in phases: each has operations that yield under S whatever was done ahead of them (taken anywhere in the text), then ones that are forced, one behind the other; all keep S.
-/
set_option linter.unusedVariables false
namespace Go.Proofs.YtalklpnekbfehaaGreat
open Go.RowKit

section
variable {P : Program} {ops : Array Oper} {Q : Exit → Act → World → Prop} {md : Region.Mode} {S : World → Prop}

def takeC (md : Region.Mode) (ops : Array Oper) (C : Array Bool → Bool) : List Nat → Array Bool → Bool
  | [], listed => C listed
  | i :: l, listed => (Region.ready md ops listed).contains i && (Region.free md ops listed i && takeC md ops C l (listed.setIfInBounds i true))
def chainC (md : Region.Mode) (ops : Array Oper) (C : Array Bool → Bool) : List Nat → Array Bool → Bool
  | [], listed => C listed
  | k :: l, listed => decide (Region.ready md ops listed = [k]) && (decide (k < ops.size) && chainC md ops C l (listed.setIfInBounds k true))
def phasesC (md : Region.Mode) (ops : Array Oper) : List (List Nat × List Nat) → Array Bool → Bool
  | [], listed => (Region.ready md ops listed).isEmpty
  | x :: l, listed => takeC md ops (chainC md ops (phasesC md ops l) x.2) x.1 listed
def phasesN : List (List Nat × List Nat) → Nat
  | [] => 0
  | x :: l => x.1.length + (x.2.length + phasesN l)

/-- forced ones that keep S; then K -/
def wpMidK (P : Program) (ops : Array Oper) (Q : Exit → Act → World → Prop) (S : World → Prop) (K : Act → World → Prop) : List Oper → Act → World → Prop
  | [], a, w => K a w
  | o :: l, a, w => if Region.wanted o (yielded ops a.tmps) = true then o.wp P a w (fun a' w' => S w' ∧ wpMidK P ops Q S K l a' w') Q else S w ∧ wpMidK P ops Q S K l (a.put o.dst undef) w
def wpPhases (P : Program) (ops : Array Oper) (Q : Exit → Act → World → Prop) (S : World → Prop) : List (List Nat × List Nat) → Act → World → Prop
  | [], a, w => Q .normal a w
  | x :: l, a, w => wpTake P ops S (fun a' => wpMidK P ops Q S (wpPhases P ops Q S l) (pick ops x.2) a' w) (pick ops x.1) a

theorem wpV_takeC {w : World} {L : Act → Prop} {C : Array Bool → Bool} {n : Nat} (hs : Region.noSelect ops = true) (hS : S w) (hQ : ∀ o v c a w, Q (.panic c) (a.put o v) w → Q (.panic c) a w)
    (hL : ∀ listed a, C listed = true → L a → wpV P md ops Q S (fun _ => true) n listed a w) :
    ∀ (l : List Nat) (listed : Array Bool) (a : Act), takeC md ops C l listed = true → wpTake P ops S L (pick ops l) a → wpV P md ops Q S (fun _ => true) (l.length + n) listed a w
  | [], listed, a, hB, h => by
    simp only [List.length_nil, Nat.zero_add]
    exact hL listed a hB h
  | k :: l, listed, a, hB, h => by
    simp only [takeC, Bool.and_eq_true] at hB
    obtain ⟨hr, hf, hB'⟩ := hB
    have hr' : k ∈ Region.ready md ops listed := by simpa using hr
    obtain ⟨_, o, h0, _⟩ := mem_ready.1 hr'
    have hp : pick ops (k :: l) = o :: pick ops l := by unfold pick; rw [List.filterMap_cons, h0]
    rw [hp] at h
    obtain ⟨v, hy, h'⟩ := h
    have hn : (k :: l).length + n = (l.length + n) + 1 := by simp; omega
    rw [hn]
    exact wpV_first h0 (Region.noSelect_spec hs) (fun c a w => hQ _ _ c a w) (fun t ot ht => absurd ht (by simp)) rfl _ listed a w (Region.free_spec h0 hf) hr' hy hS
      (wpV_takeC hs hS hQ hL l _ _ hB' h')

theorem wpV_chainC {K : Act → World → Prop} {C : Array Bool → Bool} {n : Nat} (hL : ∀ listed a w, C listed = true → S w → K a w → wpV P md ops Q S (fun _ => true) n listed a w) :
    ∀ (l : List Nat) (listed : Array Bool) (a : Act) (w : World), chainC md ops C l listed = true → S w → wpMidK P ops Q S K (pick ops l) a w → wpV P md ops Q S (fun _ => true) (l.length + n) listed a w
  | [], listed, a, w, hB, hS, h => by
    simp only [List.length_nil, Nat.zero_add]
    exact hL listed a w hB hS h
  | k :: l, listed, a, w, hB, hS, h => by
    simp only [chainC, Bool.and_eq_true, decide_eq_true_eq] at hB
    obtain ⟨hB1, hlt, hB2⟩ := hB
    have h0 : ops[k]? = some ops[k] := Array.getElem?_eq_getElem hlt
    have hp : pick ops (k :: l) = ops[k] :: pick ops l := by unfold pick; rw [List.filterMap_cons, h0]
    rw [hp] at h
    have hn : (k :: l).length + n = (l.length + n) + 1 := by simp; omega
    rw [hn]
    refine ⟨fun e => by rw [hB1] at e; exact absurd e (List.cons_ne_nil _ _), fun i hi => ?_⟩
    rw [hB1] at hi
    obtain rfl : i = k := by simpa using hi
    have hw : wpOp P ops Q i (fun a' w' => S w' ∧ wpMidK P ops Q S K (pick ops l) a' w') a w := by
      unfold wpOp
      simp only [h0]
      unfold wpMidK at h
      split
      · rename_i hwd; rw [if_pos hwd] at h; exact .inl h
      · rename_i hwd; rw [if_neg hwd] at h; exact h
    exact wpOp_mono (fun a' w' x => ⟨fun _ => x.1, wpV_chainC hL l _ a' w' hB2 x.1 x.2⟩) hw

theorem wpV_phases (hs : Region.noSelect ops = true) (hQ : ∀ o v c a w, Q (.panic c) (a.put o v) w → Q (.panic c) a w) :
    ∀ (l : List (List Nat × List Nat)) (listed : Array Bool) (a : Act) (w : World), phasesC md ops l listed = true → S w → wpPhases P ops Q S l a w → wpV P md ops Q S (fun _ => true) (phasesN l) listed a w
  | [], listed, a, w, hB, _, h => ⟨by simpa [phasesC] using hB, h⟩
  | x :: l, listed, a, w, hB, hS, h =>
    wpV_takeC (n := x.2.length + phasesN l) hs hS hQ (fun listed a hC hL => wpV_chainC (fun listed a w hC hS hK => wpV_phases hs hQ l listed a w hC hS hK) x.2 listed a w hC hS hL) x.1 listed a hB h

def phasesB (ops : Array Oper) (l : List (List Nat × List Nat)) : Bool :=
  Region.noSelect ops && (decide (phasesN l = ops.size) && phasesC .any ops l (Array.replicate ops.size false))

theorem wp_region_phases {id : Nat} {a : Act} {w : World} (l : List (List Nat × List Nat)) (hm : P.follows .mixedOrders = true) (hB : phasesB ops l = true) (S : World → Prop) (hS : S w.drew)
    (h : wpPhases P ops (NoPanic Q) S l a w.drew) : (Code.region id ops true).wp P Q a w := by
  simp only [phasesB, Bool.and_eq_true, decide_eq_true_eq] at hB
  refine wp_region_noPanic (wp_region_any hm ?_)
  have key := wpV_phases (md := .any) (Q := NoPanic Q) hB.1 frameless_np l (Array.replicate ops.size false) a w.drew hB.2.2 hS h
  rw [hB.2.1] at key
  exact key.any

theorem midk_wp {K : Act → World → Prop} {o : Oper} {l : List Oper} {a : Act} {w : World} (hw : Region.wanted o (yielded ops a.tmps) = true) (h : o.wp P a w (fun a' w' => S w' ∧ wpMidK P ops Q S K l a' w') Q) : wpMidK P ops Q S K (o :: l) a w := by
  unfold wpMidK
  rw [if_pos hw]
  exact h
theorem midk_one {K : Act → World → Prop} {o : Oper} {l : List Oper} {a : Act} {w w' : World} (v : Value) (hw : Region.wanted o (yielded ops a.tmps) = true) (h : (execOp a.eval o).run P w = .ok (.value v) w') (hS : S w') (hK : wpMidK P ops Q S K l (a.put o.dst v) w') : wpMidK P ops Q S K (o :: l) a w :=
  midk_wp hw (run_wp h ⟨hS, hK⟩)
theorem midk_done {K : Act → World → Prop} {a : Act} {w : World} (h : K a w) : wpMidK P ops Q S K [] a w := h
theorem midk_end {a : Act} {w : World} (h : Q .normal a w) : wpMidK P ops (NoPanic Q) S (wpPhases P ops (NoPanic Q) S []) [] a w := NoPanic.normal h
end
end Go.Proofs.YtalklpnekbfehaaGreat

/-
  What readMark returns.
-/
set_option linter.unusedVariables false
set_option maxRecDepth 100000
namespace Go.Proofs.YtalklpnekbfehaaGreat
open Go.RowKit

def markV (g u : Nat) : Value := .agg #[.int .u64 (g : Int), .int .i64 (u : Int)]
def markR : Option (Nat × Nat) → Ending
  | none => .returned (.tuple #[markV 0 0, .int .i64 50])
  | some x => .returned (.tuple #[markV x.1 x.2, .int .i64 0])

theorem zeros_eq (s : ByteArray) (n : Nat) (hn : s.size = n) : (s = ba (List.replicate n 0)) ↔ Wal.nought s.data.toList := by
  unfold Wal.nought
  rw [ba_len, hn]
  constructor
  · intro h; rw [h, ba_list]
  · intro h; rw [← h, ba_of]

theorem two_set {w : World} {b : Nat} {x y : Value} {T : TypeId} (h : w.heap[b]? = some (.cells #[x, y] T (0, 0))) (x' y' : Value) :
    ((w.setCell ⟨b, 0, none⟩ x').setCell ⟨b, 1, none⟩ y').heap[b]? = some (.cells #[x', y'] T (0, 0)) := by
  have h1 : (w.setCell ⟨b, 0, none⟩ x').heap[b]? = some (.cells #[x', y] T (0, 0)) := by rw [heap_setCell_same w b 0 _ _ _ h]; rfl
  rw [heap_setCell_same _ b 1 _ _ _ h1]; rfl

theorem mark_results (tmps : Array Value) (b : Nat) (x y : Value) (e : Value) (W : World) (h4 : tmps.getD 4 undef = .pointer (some ⟨b, 0, none⟩)) (h5 : tmps.getD 5 undef = e)
    (h : W.heap[b]? = some (.cells #[x, y] 128 (0, 0))) :
    (results Tryz.f74 tmps).run Tryz.prog W = .ok (.tuple #[.agg #[x, y], e]) W := by
  have c0 : W.cell? ⟨b, 0, none⟩ = some x := by rw [cell_of_row _ _ 0 _ _ _ h]; rfl
  have c1 : W.cell? ⟨b, 1, none⟩ = some y := by rw [cell_of_row _ _ 1 _ _ _ h]; rfl
  have f0 := row_free h 0
  have f1 := row_free h 1
  have h4' : tmps[4]?.getD undef = .pointer (some ⟨b, 0, none⟩) := by simpa using h4
  have h5' : tmps[5]?.getD undef = e := by simpa using h5
  simp [results, go_sem, h4', h5', c0, c1]

theorem readMark_nought (s : ByteArray) (hs : s.size = 64) (room : Nat) (hz : Wal.nought s.data.toList) (w : World) :
    Calls Tryz.prog 74 #[.string s, .int .i64 (room : Int)] w fun e w' => e = .returned (.tuple #[markV 0 0, .int .i64 0]) ∧ Below w.heap.size w w' := by
  have hr := fun u => blank_any s true (decide_eq_true hz) u
  have Hr := Lib.hid hr; clear hr
  clear hz
  go_enter Tryz.func74, Tryz.ntmps74
  go_wp2_with fail
  refine (Hr.out _).mono ?_; rintro e w1 ⟨rfl, h1⟩
  have hr1 : w1.heap[w.heap.size]? = some (.cells #[.int .u64 0, .int .i64 0] 128 (0, 0)) := by
    rw [h1.block _ (by simp)]; exact heap_alloc_new _ _
  have k1 : Below w.heap.size w w1 := ((Below.refl w.heap.size w).alloc (Nat.le_refl _) _).trans (h1.mono (by simp))
  have c0 : w1.cell? ⟨w.heap.size, 0, none⟩ = some (.int .u64 0) := by rw [cell_of_row _ _ 0 _ _ _ hr1]; rfl
  have c1 : w1.cell? ⟨w.heap.size, 1, none⟩ = some (.int .i64 0) := by rw [cell_of_row _ _ 1 _ _ _ hr1]; rfl
  have f0 := row_free hr1 0
  have f1 := row_free hr1 1
  clear h1
  have K1 := Lib.hid k1; clear k1
  go_wp2_with fail
  (try simp only [Exit.inBlock, Exit.then])
  refine bodyPost_ret (v := .tuple #[markV 0 0, .int .i64 0]) (mark_results _ w.heap.size _ _ _ _ rfl rfl (two_set hr1 _ _)) rfl ?_
  exact ⟨rfl, (K1.out.setCell (p := ⟨w.heap.size, 0, none⟩) (Nat.le_refl _) _).setCell (p := ⟨w.heap.size, 1, none⟩) (Nat.le_refl _) _⟩

theorem ba_ne {s z : ByteArray} (h : s ≠ z) : (s.toList == z.toList) = false := beq_eq_false_iff_ne.2 (fun c => h (by rw [Lib.toList_data, Lib.toList_data] at c; exact Go.WideShapes.bytes_inj c))

set_option maxHeartbeats 800000 in
theorem readMark_any (s : ByteArray) (hs : s.size = 64) (room : Nat) (hrm : room ≤ 16384) (w : World) :
    Calls Tryz.prog 74 #[.string s, .int .i64 (room : Int)] w fun e w' => e = markR (Wal.readMark s.data.toList room) ∧ Below w.heap.size w w' := by
  unfold Wal.readMark
  by_cases hz : Wal.nought s.data.toList
  · rw [if_pos hz]; exact readMark_nought s hs room hz w
  rw [if_neg hz]
  have hr := fun u => blank_any s false (decide_eq_false hz) u
  have g1 := fun u => octGet_any (s.extract 4 12) u
  have g2 := fun u => octGet_any (s.extract 12 16) u
  have e1 : (s.extract 4 12).data.toList = (s.data.toList.drop 4).take 8 := by
    rw [ByteArray.data_extract, Array.toList_extract, List.extract_eq_take_drop]
  have e2 : (s.extract 12 16).data.toList = (s.data.toList.drop 12).take 4 := by
    rw [ByteArray.data_extract, Array.toList_extract, List.extract_eq_take_drop]
  have l1 : ((s.data.toList.drop 4).take 8).length = 8 := by rw [List.length_take, List.length_drop, ba_len]; omega
  have l2 : ((s.data.toList.drop 12).take 4).length = 4 := by rw [List.length_take, List.length_drop, ba_len]; omega
  rw [e1, show Oct.get ((s.data.toList.drop 4).take 8) = (Oct.un ((s.data.toList.drop 4).take 8), 0) from by unfold Oct.get; rw [if_pos (by omega)]] at g1
  rw [e2, show Oct.get ((s.data.toList.drop 12).take 4) = (Oct.un ((s.data.toList.drop 12).take 4), 0) from by unfold Oct.get; rw [if_pos (by omega)]] at g2
  have b1 := Oct.un_lt ((s.data.toList.drop 4).take 8)
  have b2 := Oct.un_lt ((s.data.toList.drop 12).take 4)
  rw [l1] at b1
  rw [l2] at b2
  have b1' : Oct.un ((s.data.toList.drop 4).take 8) < 18446744073709551616 := b1
  have b2' : Oct.un ((s.data.toList.drop 12).take 4) < 4294967296 := b2
  have hh := fun u => header_any (Oct.un ((s.data.toList.drop 4).take 8)) (Oct.un ((s.data.toList.drop 12).take 4)) b1' b2' u
  have hms : (ba (Wal.mark (Oct.un ((s.data.toList.drop 4).take 8)) (Oct.un ((s.data.toList.drop 12).take 4))) = s) ↔ Wal.mark (Oct.un ((s.data.toList.drop 4).take 8)) (Oct.un ((s.data.toList.drop 12).take 4)) = s.data.toList := by
    constructor
    · intro h
      have h2 := congrArg (fun x : ByteArray => x.data.toList) h
      simpa only [ba_list] using h2
    · intro h; rw [h, ba_of]
  clear e1 e2 l1 l2 b1 b2
  generalize Oct.un ((s.data.toList.drop 4).take 8) = G at *
  generalize Oct.un ((s.data.toList.drop 12).take 4) = U at *
  have Hr := Lib.hid hr; clear hr
  have G1 := Lib.hid g1; clear g1
  have G2 := Lib.hid g2; clear g2
  have HH := Lib.hid hh; clear hh
  have HM := Lib.hid hms; clear hms
  clear hz
  by_cases hlt : room < U
  · rw [if_pos hlt]
    have hx2 : decide ((room : Int) < (U : Int)) = true := decide_eq_true (by omega)
    go_enter Tryz.func74, Tryz.ntmps74
    go_wp2_with fail
    refine (Hr.out _).mono ?_; rintro e w1 ⟨rfl, h1⟩
    have hr1 : w1.heap[w.heap.size]? = some (.cells #[.int .u64 0, .int .i64 0] 128 (0, 0)) := by
      rw [h1.block _ (by simp)]; exact heap_alloc_new _ _
    have k1 : Below w.heap.size w w1 := ((Below.refl w.heap.size w).alloc (Nat.le_refl _) _).trans (h1.mono (by simp))
    have c0 : w1.cell? ⟨w.heap.size, 0, none⟩ = some (.int .u64 0) := by rw [cell_of_row _ _ 0 _ _ _ hr1]; rfl
    have c1 : w1.cell? ⟨w.heap.size, 1, none⟩ = some (.int .i64 0) := by rw [cell_of_row _ _ 1 _ _ _ hr1]; rfl
    have f0 := row_free hr1 0
    have f1 := row_free hr1 1
    clear h1
    have K1 := Lib.hid k1; clear k1
    go_wp2_with fail
    refine (G1.out _).mono ?_; rintro e w2 ⟨rfl, rfl⟩
    go_wp2_with fail
    refine (G2.out _).mono ?_; rintro e w2 ⟨rfl, rfl⟩
    go_wp2_with fail
    (try simp only [Exit.inBlock, Exit.then])
    refine bodyPost_ret (v := .tuple #[markV 0 0, .int .i64 50]) (mark_results _ w.heap.size _ _ _ _ rfl rfl (two_set hr1 _ _)) rfl ?_
    exact ⟨rfl, (K1.out.setCell (p := ⟨w.heap.size, 0, none⟩) (Nat.le_refl _) _).setCell (p := ⟨w.heap.size, 1, none⟩) (Nat.le_refl _) _⟩
  · rw [if_neg hlt]
    have hx2 : decide ((room : Int) < (U : Int)) = false := decide_eq_false (by omega)
    by_cases hm : ba (Wal.mark G U) = s
    · rw [if_pos (HM.out.1 hm)]
      rw [hm] at HH
      clear HM hm
      go_enter Tryz.func74, Tryz.ntmps74
      go_wp2_with fail
      refine (Hr.out _).mono ?_; rintro e w1 ⟨rfl, h1⟩
      have hr1 : w1.heap[w.heap.size]? = some (.cells #[.int .u64 0, .int .i64 0] 128 (0, 0)) := by
        rw [h1.block _ (by simp)]; exact heap_alloc_new _ _
      have k1 : Below w.heap.size w w1 := ((Below.refl w.heap.size w).alloc (Nat.le_refl _) _).trans (h1.mono (by simp))
      have hsz : w.heap.size < w1.heap.size := row_lt hr1
      clear h1
      have K1 := Lib.hid k1; clear k1
      go_wp2_with fail
      refine (G1.out _).mono ?_; rintro e w2 ⟨rfl, rfl⟩
      go_wp2_with fail
      refine (G2.out _).mono ?_; rintro e w2 ⟨rfl, rfl⟩
      go_wp2_with fail
      refine (HH.out _).mono ?_; rintro e w3 ⟨rfl, h3⟩
      have hs3 : (w1.alloc (.cells #[.int .u64 (G : Int), .int .i64 (U : Int)] 128)).heap.size = w1.heap.size + 1 := by simp
      have hr3 : w3.heap[w.heap.size]? = some (.cells #[.int .u64 0, .int .i64 0] 128 (0, 0)) := by
        rw [h3.block _ (by omega), Below.heap_alloc _ _ _ hsz]; exact hr1
      have hm3 : w3.heap[w1.heap.size]? = some (.cells #[.int .u64 (G : Int), .int .i64 (U : Int)] 128 (0, 0)) := by
        rw [h3.block _ (by omega)]; exact heap_alloc_new _ _
      have k3 : Below w.heap.size w w3 := (K1.out.alloc (by omega) _).trans (h3.mono (by omega))
      have c0 : w3.cell? ⟨w.heap.size, 0, none⟩ = some (.int .u64 0) := by rw [cell_of_row _ _ 0 _ _ _ hr3]; rfl
      have c1 : w3.cell? ⟨w.heap.size, 1, none⟩ = some (.int .i64 0) := by rw [cell_of_row _ _ 1 _ _ _ hr3]; rfl
      have f0 := row_free hr3 0
      have f1 := row_free hr3 1
      have d0 : w3.cell? ⟨w1.heap.size, 0, none⟩ = some (.int .u64 (G : Int)) := by rw [cell_of_row _ _ 0 _ _ _ hm3]; rfl
      have d1 : w3.cell? ⟨w1.heap.size, 1, none⟩ = some (.int .i64 (U : Int)) := by rw [cell_of_row _ _ 1 _ _ _ hm3]; rfl
      have K3 := Lib.hid k3; clear k3
      clear h3 hs3 hr1
      go_wp2_with fail
      (try simp only [Exit.inBlock, Exit.then])
      refine bodyPost_ret (v := .tuple #[markV G U, .int .i64 0]) (mark_results _ w.heap.size _ _ _ _ rfl rfl (two_set hr3 _ _)) rfl ?_
      exact ⟨rfl, (K3.out.setCell (p := ⟨w.heap.size, 0, none⟩) (Nat.le_refl _) _).setCell (p := ⟨w.heap.size, 1, none⟩) (Nat.le_refl _) _⟩
    · rw [if_neg (fun e => hm (HM.out.2 e))]
      have hnm := ba_ne hm
      generalize ba (Wal.mark G U) = M at *
      clear HM hm
      go_enter Tryz.func74, Tryz.ntmps74
      go_wp2_with fail
      refine (Hr.out _).mono ?_; rintro e w1 ⟨rfl, h1⟩
      have hr1 : w1.heap[w.heap.size]? = some (.cells #[.int .u64 0, .int .i64 0] 128 (0, 0)) := by
        rw [h1.block _ (by simp)]; exact heap_alloc_new _ _
      have k1 : Below w.heap.size w w1 := ((Below.refl w.heap.size w).alloc (Nat.le_refl _) _).trans (h1.mono (by simp))
      have hsz : w.heap.size < w1.heap.size := row_lt hr1
      clear h1
      have K1 := Lib.hid k1; clear k1
      go_wp2_with fail
      refine (G1.out _).mono ?_; rintro e w2 ⟨rfl, rfl⟩
      go_wp2_with fail
      refine (G2.out _).mono ?_; rintro e w2 ⟨rfl, rfl⟩
      go_wp2_with fail
      refine (HH.out _).mono ?_; rintro e w3 ⟨rfl, h3⟩
      have hs3 : (w1.alloc (.cells #[.int .u64 (G : Int), .int .i64 (U : Int)] 128)).heap.size = w1.heap.size + 1 := by simp
      have hr3 : w3.heap[w.heap.size]? = some (.cells #[.int .u64 0, .int .i64 0] 128 (0, 0)) := by
        rw [h3.block _ (by omega), Below.heap_alloc _ _ _ hsz]; exact hr1
      have hm3 : w3.heap[w1.heap.size]? = some (.cells #[.int .u64 (G : Int), .int .i64 (U : Int)] 128 (0, 0)) := by
        rw [h3.block _ (by omega)]; exact heap_alloc_new _ _
      have k3 : Below w.heap.size w w3 := (K1.out.alloc (by omega) _).trans (h3.mono (by omega))
      have c0 : w3.cell? ⟨w.heap.size, 0, none⟩ = some (.int .u64 0) := by rw [cell_of_row _ _ 0 _ _ _ hr3]; rfl
      have c1 : w3.cell? ⟨w.heap.size, 1, none⟩ = some (.int .i64 0) := by rw [cell_of_row _ _ 1 _ _ _ hr3]; rfl
      have f0 := row_free hr3 0
      have f1 := row_free hr3 1
      have d0 : w3.cell? ⟨w1.heap.size, 0, none⟩ = some (.int .u64 (G : Int)) := by rw [cell_of_row _ _ 0 _ _ _ hm3]; rfl
      have d1 : w3.cell? ⟨w1.heap.size, 1, none⟩ = some (.int .i64 (U : Int)) := by rw [cell_of_row _ _ 1 _ _ _ hm3]; rfl
      have K3 := Lib.hid k3; clear k3
      clear h3 hs3 hr1
      go_wp2_with fail
      (try simp only [Exit.inBlock, Exit.then])
      refine bodyPost_ret (v := .tuple #[markV 0 0, .int .i64 50]) (mark_results _ w.heap.size _ _ _ _ rfl rfl (two_set hr3 _ _)) rfl ?_
      exact ⟨rfl, (K3.out.setCell (p := ⟨w.heap.size, 0, none⟩) (Nat.le_refl _) _).setCell (p := ⟨w.heap.size, 1, none⟩) (Nat.le_refl _) _⟩
end Go.Proofs.YtalklpnekbfehaaGreat

/-
  What readGroup returns.
-/
set_option linter.unusedVariables false
set_option maxRecDepth 100000
namespace Go.Proofs.YtalklpnekbfehaaGreat
open Go.RowKit

def GroupR (r : Option (Wal.Grp × Nat)) (w : World) (e : Ending) (w' : World) : Prop :=
  Below w.heap.size w w' ∧ ((r = none ∧ e = .returned (.tuple #[.slice none 0 0, .int .i64 0, .int .i64 50])) ∨
    ∃ l n v, r = some (l, n) ∧ e = .returned (.tuple #[v, .int .i64 ((n : Nat) : Int), .int .i64 0]) ∧ Own w.heap.size v (bas l) w')

theorem hasPrefix_is (s p : List UInt8) : Lib.hasPrefix s p = p.isPrefixOf s := by
  rfl

set_option maxHeartbeats 800000 in
theorem readGroup_any (s : ByteArray) (h4 : 4 ≤ s.size) (hs : s.size ≤ 1048576) (w : World) :
    Calls Tryz.prog 120 #[.string s] w (GroupR (Wal.readGroup s.data.toList) w) := by
  unfold Wal.readGroup
  have g1 := fun u => octGet_any (s.extract 0 4) u
  have e1 : (s.extract 0 4).data.toList = s.data.toList.take 4 := by
    rw [ByteArray.data_extract, Array.toList_extract, List.extract_eq_take_drop]; simp
  have l1 : (s.data.toList.take 4).length = 4 := by rw [List.length_take, ba_len]; omega
  rw [e1, show Oct.get (s.data.toList.take 4) = (Oct.un (s.data.toList.take 4), 0) from by unfold Oct.get; rw [if_pos (by omega)]] at g1
  have b1 := Oct.un_lt (s.data.toList.take 4)
  rw [l1] at b1
  have b1' : Oct.un (s.data.toList.take 4) < 4294967296 := b1
  rw [ba_len]
  clear e1 l1 b1
  generalize Oct.un (s.data.toList.take 4) = z at *
  have G1 := Lib.hid g1; clear g1
  by_cases hlt : s.size - 4 < z
  · rw [if_pos hlt]
    have hx : decide ((s.size : Int) - 4 < (z : Int)) = true := decide_eq_true (by omega)
    go_enter Tryz.func120, Tryz.ntmps120
    go_wp2_with fail
    refine (G1.out _).mono ?_; rintro e w1 ⟨rfl, rfl⟩
    go_wp2_with fail
    go_ret3
    exact ⟨Below.refl _ _, .inl ⟨rfl, rfl⟩⟩
  · rw [if_neg hlt]
    have hx : decide ((s.size : Int) - 4 < (z : Int)) = false := decide_eq_false (by omega)
    have e2 : (s.extract 4 (4 + z)).data.toList = (s.data.toList.drop 4).take z := by
      rw [ByteArray.data_extract, Array.toList_extract, List.extract_eq_take_drop, show 4 + z - 4 = z by omega]
    have e3 : (s.extract 0 (4 + z)).data.toList = s.data.toList.take (4 + z) := by
      rw [ByteArray.data_extract, Array.toList_extract, List.extract_eq_take_drop]; simp
    have z2 : (s.extract 4 (4 + z)).size = z := by rw [ByteArray.size_extract]; omega
    have z3 : (s.extract 0 (4 + z)).size = 4 + z := by rw [ByteArray.size_extract]; omega
    have hrr := fun u => octReadRow_new (s.extract 4 (4 + z)) u (by omega)
    rw [e2] at hrr
    have hff := fun u => filled_any (s.extract 0 (4 + z)) (by omega) u
    rw [e3] at hff
    have hpl := fun u => Tryz.strings_HasPrefix s (ba (Wal.fill (s.data.toList.take (4 + z)))) u
    have hfl : (ba (Wal.fill (s.data.toList.take (4 + z)))).size = (Wal.fill (s.data.toList.take (4 + z))).length := ba_size _
    have hfb : (Wal.fill (s.data.toList.take (4 + z))).length ≤ 2097152 := by
      rw [Wal.fill_length]
      have := Wal.whole_hi (s.data.toList.take (4 + z)).length
      have h2 : (s.data.toList.take (4 + z)).length ≤ 1048576 := by rw [List.length_take, ba_len]; omega
      omega
    have hpe : Lib.hasPrefix s.data.toList (ba (Wal.fill (s.data.toList.take (4 + z)))).data.toList = (Wal.fill (s.data.toList.take (4 + z))).isPrefixOf s.data.toList := by
      rw [ba_list]; exact hasPrefix_is _ _
    rw [hpe] at hpl
    generalize hF : Wal.fill (s.data.toList.take (4 + z)) = F at *
    generalize hB : ba F = B at *
    have HR := Lib.hid hrr; clear hrr
    have HF := Lib.hid hff; clear hff
    have HP := Lib.hid hpl; clear hpl
    clear hF hB hpe e2 e3 z2 z3
    have hw1 : IntKind.i64.wrap (4 + (z : Int)) = 4 + (z : Int) := IntWalk.i64_in _ (by omega)
    have hle : (4 : Int) + (z : Int) ≤ (s.size : Int) := by omega
    have hle0 : (4 : Int) ≤ 4 + (z : Int) := by omega
    cases hcr : Oct.readRow ((s.data.toList.drop 4).take z) with
    | none =>
      rw [hcr] at HR
      go_enter Tryz.func120, Tryz.ntmps120
      go_wp2_with fail
      refine (G1.out _).mono ?_; rintro e w1 ⟨rfl, rfl⟩
      go_wp2_with fail
      refine (HR.out _).mono ?_; rintro e w2 ⟨h2, ⟨_, rfl⟩ | ⟨l, v, hl, _⟩⟩
      · go_wp2_with fail
        refine (HF.out _).mono ?_; rintro e w3 ⟨rfl, h3⟩
        go_wp2_with fail
        go_ret3
        exact ⟨h2.trans (h3.mono h2.size), .inl ⟨rfl, rfl⟩⟩
      · cases hl
    | some l0 =>
      rw [hcr] at HR
      simp only []
      cases hpre : F.isPrefixOf s.data.toList with
      | false =>
        rw [hpre] at HP
        rw [if_neg (by simp)]
        go_enter Tryz.func120, Tryz.ntmps120
        go_wp2_with fail
        refine (G1.out _).mono ?_; rintro e w1 ⟨rfl, rfl⟩
        go_wp2_with fail
        refine (HR.out _).mono ?_; rintro e w2 ⟨h2, ⟨hn, _⟩ | ⟨l, v, hl, rfl, ho⟩⟩
        · cases hn
        · have Ho := Lib.hid ho; clear ho
          go_wp2_with fail
          refine (HF.out _).mono ?_; rintro e w3 ⟨rfl, h3⟩
          go_wp2_with fail
          refine (HP.out _).mono ?_; rintro e w4 ⟨rfl, rfl⟩
          go_wp2_with fail
          go_ret3
          exact ⟨h2.trans (h3.mono h2.size), .inl ⟨rfl, rfl⟩⟩
      | true =>
        rw [hpre] at HP
        rw [if_pos rfl]
        go_enter Tryz.func120, Tryz.ntmps120
        go_wp2_with fail
        refine (G1.out _).mono ?_; rintro e w1 ⟨rfl, rfl⟩
        go_wp2_with fail
        refine (HR.out _).mono ?_; rintro e w2 ⟨h2, ⟨hn, _⟩ | ⟨l, v, hl, rfl, ho⟩⟩
        · cases hn
        · have Ho := Lib.hid ho; clear ho
          have Hl := Lib.hid hl; clear hl
          go_wp2_with fail
          refine (HF.out _).mono ?_; rintro e w3 ⟨rfl, h3⟩
          go_wp2_with fail
          refine (HP.out _).mono ?_; rintro e w4 ⟨rfl, rfl⟩
          go_wp2_with fail
          go_ret3
          refine ⟨h2.trans (h3.mono h2.size), .inr ⟨l0, _, v, rfl, by rw [← hfl]; rfl, ?_⟩⟩
          have hl := Hl.out
          cases hl
          rw [bas_lists]
          exact Ho.out.new h3
end Go.Proofs.YtalklpnekbfehaaGreat
