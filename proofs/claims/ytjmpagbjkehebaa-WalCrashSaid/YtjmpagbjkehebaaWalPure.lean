/-
  Plain mathematics of a log on a disk: its header, its groups, what an opened one has, what an append and a reset do.
-/
import Derived.Test.YtjmpagbjkehebaaOctAll
import Derived.Test.YtjmpagbjkehebaaCrcAll
import Derived.Test.YtjmpagbjkehebaaRefAll
set_option linter.unusedVariables false
namespace Go.Proofs.Ytjmpagbjkehebaa
namespace Wal
open Go

abbrev Txt := List UInt8
abbrev Grp := List Txt
/-- how many sectors so many bytes need -/
def whole (n : Nat) : Nat := (n + 63) / 64
/-- with bytes 0 behind, up to whole sectors -/
def fill (s : Txt) : Txt := s ++ List.replicate (whole s.length * 64 - s.length) 0
theorem whole_lo (n : Nat) : n ≤ whole n * 64 := by unfold whole; omega
theorem whole_hi (n : Nat) : whole n * 64 < n + 64 := by unfold whole; omega
theorem fill_length (s : Txt) : (fill s).length = whole s.length * 64 := by
  have := whole_lo s.length
  simp [fill]; omega
theorem fill_take (s : Txt) : (fill s).take s.length = s := by simp [fill]
/-- the header of a generation, and so many sectors -/
def mark (g u : Nat) : Txt := fill (Crc.sealT ([76, 79, 71, 49] ++ Oct.le 8 g ++ Oct.le 4 u))
theorem seal_length (s : Txt) : (Crc.sealT s).length = s.length + 4 := by simp [Crc.sealT, Crc.le4]
theorem text_length (g u : Nat) : ([76, 79, 71, 49] ++ Oct.le 8 g ++ Oct.le 4 u : Txt).length = 16 := by simp [Oct.le_length]
theorem mark_length (g u : Nat) : (mark g u).length = 64 := by
  rw [mark, fill_length, seal_length, text_length]; rfl
theorem mark_take (g u : Nat) : (mark g u).take 20 = Crc.sealT ([76, 79, 71, 49] ++ Oct.le 8 g ++ Oct.le 4 u) := by
  have h : (Crc.sealT ([76, 79, 71, 49] ++ Oct.le 8 g ++ Oct.le 4 u)).length = 20 := by rw [seal_length, text_length]
  rw [mark]
  have := fill_take (Crc.sealT ([76, 79, 71, 49] ++ Oct.le 8 g ++ Oct.le 4 u))
  rwa [h] at this
theorem mark_front (g u : Nat) : ∃ t : Txt, mark g u = [76, 79, 71, 49] ++ (Oct.le 8 g ++ (Oct.le 4 u ++ t)) := by
  refine ⟨Crc.le4 (Crc.sum ([76, 79, 71, 49] ++ Oct.le 8 g ++ Oct.le 4 u)) ++ List.replicate (whole (Crc.sealT ([76, 79, 71, 49] ++ Oct.le 8 g ++ Oct.le 4 u)).length * 64 - (Crc.sealT ([76, 79, 71, 49] ++ Oct.le 8 g ++ Oct.le 4 u)).length) 0, ?_⟩
  simp only [mark, fill, Crc.sealT, List.append_assoc]
theorem mark_gen (g u : Nat) (hg : g < 18446744073709551616) : Oct.un (((mark g u).drop 4).take 8) = g := by
  obtain ⟨t, ht⟩ := mark_front g u
  rw [ht]
  have h8 : (Oct.le 8 g).length = 8 := Oct.le_length _ _
  have h4 : ([76, 79, 71, 49] : Txt).length = 4 := rfl
  rw [List.drop_left' h4, List.take_left' h8]
  exact Oct.un_le 8 g (by omega)
theorem mark_used (g u : Nat) (hu : u < 4294967296) : Oct.un (((mark g u).drop 12).take 4) = u := by
  obtain ⟨t, ht⟩ := mark_front g u
  have h8 : (Oct.le 8 g).length = 8 := Oct.le_length _ _
  have h4 : (Oct.le 4 u).length = 4 := Oct.le_length _ _
  rw [ht, ← List.append_assoc, List.drop_left' (by simp [h8]), List.take_left' h4]
  exact Oct.un_le 4 u (by omega)
def nought (s : Txt) : Prop := s = List.replicate s.length 0
instance (s : Txt) : Decidable (nought s) := inferInstanceAs (Decidable (s = _))
theorem mark_not (g u : Nat) : ¬ nought (mark g u) := fun h => by
  unfold nought at h
  obtain ⟨t, ht⟩ := mark_front g u
  have h0 := congrArg (fun l => l[0]?) h
  rw [mark_length] at h0
  rw [ht] at h0
  simp at h0

/-- what a header says, of a log with so much room -/
def readMark (s : Txt) (room : Nat) : Option (Nat × Nat) :=
  if nought s then some (0, 0)
  else if room < Oct.un ((s.drop 12).take 4) then none
  else if mark (Oct.un ((s.drop 4).take 8)) (Oct.un ((s.drop 12).take 4)) = s then some (Oct.un ((s.drop 4).take 8), Oct.un ((s.drop 12).take 4)) else none
theorem readMark_mark (g u room : Nat) (hg : g < 18446744073709551616) (hu : u < 4294967296) (hr : u ≤ room) : readMark (mark g u) room = some (g, u) := by
  rw [readMark, if_neg (mark_not g u), mark_gen g u hg, mark_used g u hu, if_neg (by omega), if_pos rfl]
theorem readMark_le {s : Txt} {room g u : Nat} (h : readMark s room = some (g, u)) : u ≤ room ∧ g < 18446744073709551616 ∧ u < 4294967296 := by
  unfold readMark at h
  split at h
  · simp only [Option.some.injEq, Prod.mk.injEq] at h; omega
  · split at h
    · cases h
    · split at h
      · simp only [Option.some.injEq, Prod.mk.injEq] at h
        have h1 := Oct.un_lt ((s.drop 4).take 8)
        have h2 := Oct.un_lt ((s.drop 12).take 4)
        have h3 : ((s.drop 4).take 8).length ≤ 8 := by simp; omega
        have h4 : ((s.drop 12).take 4).length ≤ 4 := by simp; omega
        have h5 : (256 : Nat) ^ ((s.drop 4).take 8).length ≤ 256 ^ 8 := Nat.pow_le_pow_right (by omega) h3
        have h6 : (256 : Nat) ^ ((s.drop 12).take 4).length ≤ 256 ^ 4 := Nat.pow_le_pow_right (by omega) h4
        omega
      · cases h
theorem readMark_is {s : Txt} {room g u : Nat} (h : readMark s room = some (g, u)) : (nought s ∧ g = 0 ∧ u = 0) ∨ mark g u = s := by
  unfold readMark at h
  split at h
  · rename_i hn
    simp only [Option.some.injEq, Prod.mk.injEq] at h; exact .inl ⟨hn, h.1.symm, h.2.symm⟩
  · split at h
    · cases h
    · split at h
      · rename_i hm
        simp only [Option.some.injEq, Prod.mk.injEq] at h
        rw [h.1, h.2] at hm
        exact .inr hm
      · cases h

/-- the sectors of a group, by its row's encoding -/
def grp (r : Txt) : Txt := fill (Oct.le 4 r.length ++ r)
def secs (r : Txt) : Nat := whole (4 + r.length)
theorem grp_length (r : Txt) : (grp r).length = secs r * 64 := by rw [grp, fill_length, List.length_append, Oct.le_length]; rfl
theorem secs_pos (r : Txt) : 1 ≤ secs r := by unfold secs whole; omega
/-- a group that may be: its row has an encoding, of fewer than 2^32 bytes -/
def Fine (l : Grp) : Prop := (Oct.row l).2 = 0 ∧ (Oct.row l).1.length < 4294967296
/-- what is read of a group's sectors: the group, and how many bytes it has -/
def readGroup (s : Txt) : Option (Grp × Nat) :=
  if s.length - 4 < Oct.un (s.take 4) then none else
  match Oct.readRow ((s.drop 4).take (Oct.un (s.take 4))) with
  | none => none
  | some l => if (fill (s.take (4 + Oct.un (s.take 4)))).isPrefixOf s then some (l, (fill (s.take (4 + Oct.un (s.take 4)))).length) else none
theorem grp_front (r t : Txt) : grp r ++ t = Oct.le 4 r.length ++ (r ++ (List.replicate (whole (Oct.le 4 r.length ++ r).length * 64 - (Oct.le 4 r.length ++ r).length) 0 ++ t)) := by
  simp only [grp, fill, List.append_assoc]
theorem readGroup_grp (l : Grp) (t : Txt) (h : Fine l) : readGroup (grp (Oct.row l).1 ++ t) = some (l, (grp (Oct.row l).1).length) := by
  obtain ⟨h1, h2⟩ := h
  have hb := Oct.readRow_row l h1
  generalize (Oct.row l).1 = r at *
  have e4 : (Oct.le 4 r.length).length = 4 := Oct.le_length _ _
  have f := grp_front r t
  have eu : Oct.un ((grp r ++ t).take 4) = r.length := by
    rw [f, List.take_left' e4]; exact Oct.un_le 4 _ (by omega)
  have ed : ((grp r ++ t).drop 4).take r.length = r := by
    rw [f, List.drop_left' e4, List.take_left' rfl]
  have et : (grp r ++ t).take (4 + r.length) = Oct.le 4 r.length ++ r := by
    rw [f, ← List.append_assoc]
    exact List.take_left' (by rw [List.length_append, e4])
  have hl : 4 + r.length ≤ (grp r ++ t).length := by
    rw [f]; simp only [List.length_append, e4]; omega
  unfold readGroup
  rw [eu, ed, et, hb, if_neg (by omega)]
  have hp : (fill (Oct.le 4 r.length ++ r)).isPrefixOf (grp r ++ t) = true := by
    rw [List.isPrefixOf_iff_prefix]; exact List.prefix_append _ _
  simp only [hp, if_true]
  rfl
theorem readGroup_is {s : Txt} {l : Grp} {n : Nat} (hs : 4 ≤ s.length) (h : readGroup s = some (l, n)) : Fine l ∧ n = (grp (Oct.row l).1).length ∧ s = grp (Oct.row l).1 ++ s.drop n ∧ n ≤ s.length := by
  unfold readGroup at h
  have hz := Oct.un_lt (s.take 4)
  have hzl : (s.take 4).length = 4 := by rw [List.length_take]; omega
  rw [hzl] at hz
  have hle := Oct.le_un (s.take 4)
  rw [hzl] at hle
  generalize hz0 : Oct.un (s.take 4) = z at *
  split at h
  · cases h
  · rename_i hlt
    cases hr : Oct.readRow ((s.drop 4).take z) with
    | none => rw [hr] at h; cases h
    | some l' =>
      rw [hr] at h
      simp only [] at h
      split at h
      · rename_i hp
        simp only [Option.some.injEq, Prod.mk.injEq] at h
        obtain ⟨rfl, rfl⟩ := h
        have hrow := Oct.row_readRow _ _ hr
        have hlz : ((s.drop 4).take z).length = z := by simp; omega
        have hg : grp (Oct.row l').1 = fill (s.take (4 + z)) := by
          rw [hrow, grp]
          simp only []
          rw [hlz, hle, show s.take (4 + z) = s.take 4 ++ (s.drop 4).take z from List.take_add]
        rw [List.isPrefixOf_iff_prefix] at hp
        obtain ⟨t, ht⟩ := hp
        refine ⟨⟨by rw [hrow], by rw [hrow]; simp only []; omega⟩, by rw [hg], ?_, ?_⟩
        · rw [hg]
          clear hg
          generalize fill (s.take (4 + z)) = F at ht ⊢
          rw [← ht, List.drop_left]
        · clear hg
          generalize fill (s.take (4 + z)) = F at ht ⊢
          rw [← ht]; simp
      · cases h
/-- the sectors of groups, one behind the other -/
def cat : List Grp → Txt
  | [] => []
  | l :: r => grp (Oct.row l).1 ++ cat r
theorem cat_append (a b : List Grp) : cat (a ++ b) = cat a ++ cat b := by
  induction a with
  | nil => rfl
  | cons x r ih => simp only [List.cons_append, cat, ih, List.append_assoc]
theorem cat_le (L : List Grp) : 64 * L.length ≤ (cat L).length := by
  induction L with
  | nil => simp [cat]
  | cons x r ih =>
    have := secs_pos (Oct.row x).1
    simp only [cat, List.length_append, List.length_cons, grp_length]; omega
/-- what is read of sectors: groups -/
def readGroups : Nat → Txt → Option (List Grp)
  | 0, s => if s = [] then some [] else none
  | f + 1, s => if s = [] then some [] else match readGroup s with
    | none => none
    | some (l, n) => (readGroups f (s.drop n)).map (l :: ·)
theorem readGroups_cat (L : List Grp) (h : ∀ l ∈ L, Fine l) (f : Nat) (hf : L.length ≤ f) : readGroups f (cat L) = some L := by
  induction L generalizing f with
  | nil => cases f <;> simp [readGroups, cat]
  | cons x r ih =>
    cases f with
    | zero => simp at hf
    | succ f =>
      have hx : cat (x :: r) ≠ [] := fun e => by
        have := cat_le (x :: r); rw [e] at this; simp at this
      rw [readGroups, if_neg hx]
      show (match readGroup (grp (Oct.row x).1 ++ cat r) with | none => none | some (l, n) => (readGroups f ((cat (x :: r)).drop n)).map (l :: ·)) = _
      rw [readGroup_grp x _ (h x List.mem_cons_self)]
      show (readGroups f ((grp (Oct.row x).1 ++ cat r).drop (grp (Oct.row x).1).length)).map _ = _
      rw [List.drop_left, ih (fun l hl => h l (List.mem_cons_of_mem _ hl)) f (by simpa using hf)]
      rfl
theorem readGroups_is {f : Nat} {s : Txt} {L : List Grp} (hs : s.length % 64 = 0) (h : readGroups f s = some L) : s = cat L ∧ ∀ l ∈ L, Fine l := by
  induction f generalizing s L with
  | zero =>
    unfold readGroups at h
    split at h
    · rename_i e; simp only [Option.some.injEq] at h; subst h; exact ⟨e, fun l hl => by simp at hl⟩
    · cases h
  | succ f ih =>
    unfold readGroups at h
    split at h
    · rename_i e; simp only [Option.some.injEq] at h; subst h; exact ⟨e, fun l hl => by simp at hl⟩
    · rename_i hne
      cases hr : readGroup s with
      | none => rw [hr] at h; cases h
      | some x =>
        obtain ⟨l, n⟩ := x
        rw [hr] at h
        simp only [] at h
        obtain ⟨L2, h2, h3⟩ := Option.map_eq_some_iff.1 h
        have hpos : 0 < s.length := List.length_pos_iff.2 hne
        obtain ⟨hf, hn, hsp, hnl⟩ := readGroup_is (by omega) hr
        have hgl := grp_length (Oct.row l).1
        obtain ⟨e2, f2⟩ := ih (by rw [List.length_drop]; omega) h2
        subst h3
        refine ⟨?_, fun y hy => ?_⟩
        · rw [cat, ← e2]; exact hsp
        · rcases List.mem_cons.1 hy with rfl | hy
          · exact hf
          · exact f2 y hy

/-- a log: generation, sectors of groups, where it stands, how many sectors, groups, the error it failed with -/
structure St where
  gen : Nat
  used : Nat
  from_ : Nat
  n : Nat
  L : List Grp
  err : Int
/-- what is opened of a disk -/
def open_ (d : Dsk.St) (from_ n : Int) : Option St × Int :=
  if n < 2 ∨ ¬ (0 ≤ from_ ∧ from_ + n ≤ (d.n : Int)) then (none, 2)
  else if d.down = true then (none, 40)
  else match readMark (Dsk.rd d from_.toNat 1) (n.toNat - 1) with
    | none => (none, 50)
    | some (g, u) => match readGroups (64 * u) (Dsk.rd d (from_.toNat + 1) u) with
      | none => (none, 50)
      | some L => (some ⟨g, u, from_.toNat, n.toNat, L, 0⟩, 0)
/-- what a disk is asked -/
inductive Op
  | wr (at_ : Nat) (s : Txt)
  | fl
def one (d : Dsk.St) : Op → Dsk.St × Int
  | .wr a s => Dsk.write d a s
  | .fl => Dsk.flush d
/-- one behind the other, up to the first error -/
def steps : List Op → Dsk.St → Dsk.St × Int
  | [], d => (d, 0)
  | o :: r, d => if (one d o).2 = 0 then steps r (one d o).1 else one d o
def appendOps (s : St) (r : Txt) : List Op := [.wr (s.from_ + 1 + s.used) (grp r), .fl, .wr s.from_ (mark s.gen (s.used + secs r)), .fl]
def append (d : Dsk.St) (s : St) (l : Grp) : Dsk.St × St × Int :=
  if s.err ≠ 0 then (d, s, s.err)
  else if (Oct.row l).2 ≠ 0 then (d, s, (Oct.row l).2)
  else if s.n - 1 - s.used < secs (Oct.row l).1 then (d, s, 4)
  else
    ((steps (appendOps s (Oct.row l).1) d).1,
      if (steps (appendOps s (Oct.row l).1) d).2 = 0 then { s with used := s.used + secs (Oct.row l).1, L := s.L ++ [l] } else { s with err := (steps (appendOps s (Oct.row l).1) d).2 },
      (steps (appendOps s (Oct.row l).1) d).2)
def up (g : Nat) : Nat := (g + 1) % 18446744073709551616
def resetOps (s : St) : List Op := [.wr s.from_ (mark (up s.gen) 0), .fl]
def reset (d : Dsk.St) (s : St) : Dsk.St × St × Int :=
  if s.err ≠ 0 then (d, s, s.err)
  else
    ((steps (resetOps s) d).1,
      if (steps (resetOps s) d).2 = 0 then { s with gen := up s.gen, used := 0, L := [] } else { s with err := (steps (resetOps s) d).2 },
      (steps (resetOps s) d).2)
/-- a log that may be, on a disk with so many sectors -/
structure St.Ok (s : St) (m : Nat) : Prop where
  gen : s.gen < 18446744073709551616
  used : s.used ≤ s.n - 1
  lo : 2 ≤ s.n
  hi : s.from_ + s.n ≤ m
  m : m ≤ 16384
  len : s.L.length ≤ s.used
  fine : ∀ l ∈ s.L, Fine l
  err : s.err = 0 ∨ s.err = 2 ∨ s.err = 40
theorem one_err (d : Dsk.St) (o : Op) : (one d o).2 = 0 ∨ (one d o).2 = 2 ∨ (one d o).2 = 40 := by
  cases o with
  | wr a s =>
    simp only [one, Dsk.write]
    split
    · simp
    · split
      · simp
      · simp only []
        split <;> simp
  | fl => simp only [one, Dsk.flush]; split <;> simp
theorem steps_err (L : List Op) (d : Dsk.St) : (steps L d).2 = 0 ∨ (steps L d).2 = 2 ∨ (steps L d).2 = 40 := by
  induction L generalizing d with
  | nil => simp [steps]
  | cons o r ih =>
    unfold steps
    split
    · exact ih _
    · exact one_err d o
end Wal
end Go.Proofs.Ytjmpagbjkehebaa
