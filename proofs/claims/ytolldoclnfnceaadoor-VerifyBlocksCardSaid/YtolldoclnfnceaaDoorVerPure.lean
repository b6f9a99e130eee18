/-
  Programs verified, as plain mathematics: kinds, blocks, what is wrong and where.
-/
import Derived.Test.YtolldoclnfnceaaDoorCodPure
set_option linter.unusedVariables false
namespace Go.Proofs.YtolldoclnfnceaaDoor
namespace Ver

/-- the kind of a register -/
def reg (a : Nat) : List UInt8 := if a < 4 then [78] else [84]
/-- what an instruction takes (63 is any kind) -/
def takes (op a : Nat) : List UInt8 := match op with
  | 4 => [84, 84] | 5 => [84] | 6 => [84, 78, 78] | 7 => [84] | 8 => [78] | 9 => [78, 78] | 10 => [78, 78] | 11 => [78, 78] | 12 => [84, 84] | 13 => [78]
  | 14 => [63] | 15 => [63] | 16 => [63, 63] | 18 => reg a | 19 => [78] | 22 => [84] | 23 => [84, 84] | _ => []
/-- what it gives (49, 50: the first, the second that it took) -/
def gives (op a : Nat) : List UInt8 := match op with
  | 1 => [84] | 2 => [78] | 3 => [84] | 4 => [84] | 5 => [78] | 6 => [84] | 7 => [78] | 8 => [84] | 9 => [78] | 10 => [78] | 11 => [78] | 12 => [78] | 13 => [78]
  | 15 => [49, 49] | 16 => [50, 49] | 17 => reg a | _ => []
def more (op : Nat) : Nat := if op = 22 then 1 else 0
structure Blk where
  op : Nat
  opn : List UInt8
  kept : List UInt8
  did : Bool
  at_ : Nat
/-- the kinds, the open blocks (the innermost first), what was seen, where blocks end, how deep -/
structure St where
  k : List UInt8
  bl : List Blk
  seen : List (List UInt8)
  ends : List Nat
  deep : Nat
def inputs (role : Nat) : Nat := if role = 1 then 1 else 2
/-- what is wrong ahead of any value (0: nothing) -/
def ahead (nt role : Nat) (bl : List Blk) (op a : Nat) : Nat := match op with
  | 1 => if nt ≤ a then 3 else 0
  | 3 => if inputs role ≤ a then 3 else 0
  | 17 => if 8 ≤ a then 3 else 0
  | 18 => if 8 ≤ a then 3 else 0
  | 23 => if role = 1 then 0 else 133
  | 20 => match bl with
    | [] => 132
    | b :: _ => if b.op = 19 ∧ b.did = false then 0 else 132
  | 21 => match bl with
    | [] => 132
    | _ :: _ => 0
  | 19 => if 8 ≤ bl.length then 132 else 0
  | 22 => if 8 ≤ bl.length then 132 else 0
  | _ => 0
def fits (t top : List UInt8) : Bool := (t.zip top).all fun p => p.1 == 63 || p.1 == p.2
def given (g top : List UInt8) : List UInt8 := g.flatMap fun c => if c == 49 then top.take 1 else if c == 50 then top.drop 1 else [c]
/-- what lies there behind an instruction's taking and giving -/
def left_ (k : List UInt8) (op a : Nat) : List UInt8 := k.take (k.length - (takes op a).length) ++ given (gives op a) (k.drop (k.length - (takes op a).length))
/-- what is wrong with the values (0: nothing) -/
def wrong (k : List UInt8) (op a : Nat) : Nat :=
  if k.length < (takes op a).length then 130 else if fits (takes op a) (k.drop (k.length - (takes op a).length)) = false then 131 else if 16 < (left_ k op a).length + more op then 130 else 0
/-- what an instruction's block does (the kinds are those behind its values) -/
def turn (i op : Nat) (s : St) : Except Nat St := match op with
  | 19 => .ok { s with bl := ⟨19, s.k, [], false, i⟩ :: s.bl }
  | 22 => .ok { s with bl := ⟨22, s.k, [], false, i⟩ :: s.bl, k := s.k ++ [84] }
  | 20 => match s.bl with
    | [] => .error 132
    | b :: r => .ok { s with ends := s.ends.set b.at_ i, bl := { b with kept := s.k, did := true, at_ := i } :: r, k := b.opn }
  | 21 => match s.bl with
    | [] => .error 132
    | b :: r => if s.k = (if b.did then b.kept else b.opn) then .ok { s with ends := s.ends.set b.at_ i, bl := r } else .error 132
  | _ => .ok s
def step (nt role i op a : Nat) (s : St) : Except Nat St :=
  if ahead nt role s.bl op a ≠ 0 then .error (ahead nt role s.bl op a)
  else if wrong s.k op a ≠ 0 then .error (wrong s.k op a)
  else match turn i op { s with k := left_ s.k op a, seen := s.seen ++ [s.k] } with
    | .error e => .error e
    | .ok t => .ok { t with deep := max t.deep t.k.length }
def go (nt role : Nat) : List Cod.In → Nat → St → Except (Nat × Nat) St
  | [], _, s => .ok s
  | x :: r, i, s => match step nt role i x.1.toNat x.2.toNat s with
    | .error e => .error (i, e)
    | .ok t => go nt role r (i + 1) t
def St.init (n : Nat) : St := ⟨[], [], [], List.replicate n 0, 0⟩
def want (role : Nat) : Nat := if role = 1 then 0 else 1
/-- what is wrong at the end (0: nothing) -/
def over (role : Nat) (s : St) : Nat :=
  if s.bl.length > 0 then 132 else if s.k.length ≠ want role then 130 else if want role = 1 ∧ s.k ≠ [84] then 131 else 0
def all (nt role : Nat) (cs : List Cod.In) : Except (Nat × Nat) St := match go nt role cs 0 (St.init cs.length) with
  | .error e => .error e
  | .ok s => if over role s ≠ 0 then .error (cs.length, over role s) else .ok s
def Role (role : Nat) : Bool := decide (1 ≤ role) && decide (role ≤ 3)
def check (p : Cod.Pr) (role : Nat) : Except (Nat × Nat) St := if p.May ∧ Role role = true then all p.ts.length role p.cs else .error (0, 2)

-- numbers are others
def other (by_ : UInt8) (x : Cod.In) : Cod.In := if x.1 = 2 ∨ x.1 = 22 then (x.1, x.2 + by_) else x
theorem step_other (nt role i : Nat) (b : UInt8) (x : Cod.In) (s : St) : step nt role i (other b x).1.toNat (other b x).2.toNat s = step nt role i x.1.toNat x.2.toNat s := by
  unfold other
  split
  · rename_i h
    have h2 : x.1.toNat = 2 ∨ x.1.toNat = 22 := by rcases h with h | h <;> rw [h] <;> decide
    simp only
    rcases h2 with h | h <;> rw [h] <;> rfl
  · rfl
theorem go_other (nt role : Nat) (b : UInt8) : ∀ (cs : List Cod.In) (i : Nat) (s : St), go nt role (cs.map (other b)) i s = go nt role cs i s
  | [], _, _ => rfl
  | x :: r, i, s => by
    simp only [List.map_cons, go, step_other]
    split
    · rfl
    · exact go_other nt role b r _ _
theorem all_other (nt role : Nat) (b : UInt8) (cs : List Cod.In) : all nt role (cs.map (other b)) = all nt role cs := by
  unfold all
  rw [go_other, List.length_map]
theorem ins_other (b : UInt8) (x : Cod.In) : Cod.ins (other b x) = Cod.ins x := by
  unfold other
  split
  · rename_i h
    unfold Cod.ins Cod.has
    rcases h with h | h <;> simp [h]
  · rfl
/-- what is let be is let be with other numbers, and as many texts (that may be) -/
theorem check_other {p q : Cod.Pr} {b : UInt8} {role : Nat} (ht : p.ts.length = q.ts.length) (hp : ∀ t ∈ p.ts, t.length ≤ 64) (hq : ∀ t ∈ q.ts, t.length ≤ 64) (hc : q.cs = p.cs.map (other b)) : check q role = check p role := by
  have hM : q.May ↔ p.May := by
    unfold Cod.Pr.May
    rw [hc, ← ht, List.length_map]
    constructor
    · rintro ⟨h1, _, h3, h4⟩
      exact ⟨h1, hp, h3, fun x hx => by rw [← ins_other b]; exact h4 _ (List.mem_map.2 ⟨x, hx, rfl⟩)⟩
    · rintro ⟨h1, _, h3, h4⟩
      refine ⟨h1, hq, h3, fun x hx => ?_⟩
      obtain ⟨y, hy, rfl⟩ := List.mem_map.1 hx
      rw [ins_other]; exact h4 _ hy
  unfold check
  rw [hc, ← ht, all_other]
  by_cases h : p.May ∧ Role role = true
  · rw [if_pos h, if_pos ⟨hM.2 h.1, h.2⟩]
  · rw [if_neg h, if_neg (fun c => h ⟨hM.1 c.1, c.2⟩)]

-- one behind the other
structure Rel (s t : St) : Prop where
  k : s.k = t.k
  bl : s.bl.map (fun b => (b.op, b.opn, b.kept, b.did)) = t.bl.map (fun b => (b.op, b.opn, b.kept, b.did))
theorem Rel.len {s t : St} (h : Rel s t) : s.bl.length = t.bl.length := by
  have := congrArg List.length h.bl
  simpa using this
theorem ahead_rel {nt nt' role op a a' : Nat} {s t : St} (h : Rel s t) (h1 : op = 1 → a' < nt') (h2 : op ≠ 1 → a' = a) (h0 : ahead nt role s.bl op a = 0) : ahead nt' role t.bl op a' = 0 := by
  by_cases e : op = 1
  · subst e
    have := h1 rfl
    show (if nt' ≤ a' then 3 else 0) = 0
    rw [if_neg (by omega)]
  · obtain rfl := h2 e
    have hl := h.len
    have hb := h.bl
    unfold ahead at h0 ⊢
    split at h0 <;> (try (exact absurd rfl e)) <;> (try exact h0) <;> (try simp only)
    all_goals first
      | exact h0
      | (rw [← hl]; exact h0)
      | (cases hs : s.bl with
         | nil => rw [hs] at h0; simp at h0
         | cons b r =>
           cases ht : t.bl with
           | nil => rw [hs, ht] at hb; simp at hb
           | cons c q =>
             first
               | rfl
               | (rw [hs, ht] at hb
                  simp only [List.map_cons, List.cons.injEq, Prod.mk.injEq] at hb
                  revert h0
                  rw [hs]
                  intro h0
                  simp only at h0 ⊢
                  rw [← hb.1.1, ← hb.1.2.2.2]
                  exact h0))
theorem takes_text (a a' : Nat) : takes 1 a = takes 1 a' := rfl
theorem wrong_rel {op a a' : Nat} (k : List UInt8) (h2 : op ≠ 1 → a' = a) : wrong k op a' = wrong k op a ∧ left_ k op a' = left_ k op a := by
  by_cases e : op = 1
  · subst e; exact ⟨rfl, rfl⟩
  · rw [h2 e]; exact ⟨rfl, rfl⟩
theorem turn_19 (i : Nat) (s : St) : turn i 19 s = .ok { s with bl := ⟨19, s.k, [], false, i⟩ :: s.bl } := rfl
theorem turn_22 (i : Nat) (s : St) : turn i 22 s = .ok { s with bl := ⟨22, s.k, [], false, i⟩ :: s.bl, k := s.k ++ [84] } := rfl
theorem turn_20 (i : Nat) (s : St) (b : Blk) (r : List Blk) (h : s.bl = b :: r) : turn i 20 s = .ok { s with ends := s.ends.set b.at_ i, bl := { b with kept := s.k, did := true, at_ := i } :: r, k := b.opn } := by
  show (match s.bl with | [] => _ | b :: r => _) = _
  rw [h]
theorem turn_20n (i : Nat) (s : St) (h : s.bl = []) : turn i 20 s = .error 132 := by
  show (match s.bl with | [] => _ | b :: r => _) = _
  rw [h]
theorem turn_21 (i : Nat) (s : St) (b : Blk) (r : List Blk) (h : s.bl = b :: r) (hk : s.k = (if b.did then b.kept else b.opn)) : turn i 21 s = .ok { s with ends := s.ends.set b.at_ i, bl := r } := by
  show (match s.bl with | [] => _ | b :: r => _) = _
  rw [h]
  exact if_pos hk
theorem turn_21e (i : Nat) (s : St) (b : Blk) (r : List Blk) (h : s.bl = b :: r) (hk : ¬ s.k = (if b.did then b.kept else b.opn)) : turn i 21 s = .error 132 := by
  show (match s.bl with | [] => _ | b :: r => _) = _
  rw [h]
  exact if_neg hk
theorem turn_21n (i : Nat) (s : St) (h : s.bl = []) : turn i 21 s = .error 132 := by
  show (match s.bl with | [] => _ | b :: r => _) = _
  rw [h]
theorem turn_no (i op : Nat) (s : St) (h1 : op ≠ 19) (h2 : op ≠ 22) (h3 : op ≠ 20) (h4 : op ≠ 21) : turn i op s = .ok s := by
  unfold turn
  split
  · exact absurd rfl h1
  · exact absurd rfl h2
  · exact absurd rfl h3
  · exact absurd rfl h4
  · rfl
theorem turn_rel {i j op : Nat} {s t s' : St} (h : Rel s t) (h0 : turn i op s = .ok s') : ∃ t', turn j op t = .ok t' ∧ Rel s' t' := by
  have hk := h.k
  have hb := h.bl
  by_cases e1 : op = 19
  · subst e1
    rw [turn_19] at h0 ⊢
    cases h0
    exact ⟨_, rfl, hk, by simp only [List.map_cons, hk, hb]⟩
  by_cases e2 : op = 22
  · subst e2
    rw [turn_22] at h0 ⊢
    cases h0
    exact ⟨_, rfl, by simp only [hk], by simp only [List.map_cons, hk, hb]⟩
  by_cases e3 : op = 20
  · subst e3
    cases hs : s.bl with
    | nil => rw [turn_20n i s hs] at h0; cases h0
    | cons b r =>
      cases ht : t.bl with
      | nil => rw [hs, ht] at hb; simp at hb
      | cons c q =>
        rw [hs, ht] at hb
        rw [turn_20 i s b r hs] at h0
        rw [turn_20 j t c q ht]
        simp only [List.map_cons, List.cons.injEq, Prod.mk.injEq] at hb
        cases h0
        exact ⟨_, rfl, hb.1.2.1, by simp only [List.map_cons, hk, hb.1.1, hb.1.2.1, hb.2]⟩
  by_cases e4 : op = 21
  · subst e4
    cases hs : s.bl with
    | nil => rw [turn_21n i s hs] at h0; cases h0
    | cons b r =>
      cases ht : t.bl with
      | nil => rw [hs, ht] at hb; simp at hb
      | cons c q =>
        rw [hs, ht] at hb
        simp only [List.map_cons, List.cons.injEq, Prod.mk.injEq] at hb
        by_cases hc : s.k = (if b.did then b.kept else b.opn)
        · rw [turn_21 i s b r hs hc] at h0
          rw [hk, hb.1.2.1, hb.1.2.2.1, hb.1.2.2.2] at hc
          rw [turn_21 j t c q ht hc]
          cases h0
          exact ⟨_, rfl, hk, hb.2⟩
        · rw [turn_21e i s b r hs hc] at h0; cases h0
  rw [turn_no i op s e1 e2 e3 e4] at h0
  cases h0
  exact ⟨t, turn_no j op t e1 e2 e3 e4, h⟩
theorem step_rel {nt nt' role i j op a a' : Nat} {s t s' : St} (h : Rel s t) (h1 : op = 1 → a' < nt') (h2 : op ≠ 1 → a' = a) (h0 : step nt role i op a s = .ok s') : ∃ t', step nt' role j op a' t = .ok t' ∧ Rel s' t' := by
  unfold step at h0
  split at h0
  · cases h0
  · rename_i ha
    split at h0
    · cases h0
    · rename_i hw
      have ha' := ahead_rel (nt' := nt') h h1 h2 (Decidable.of_not_not ha)
      have hw' := wrong_rel (op := op) (a := a) (a' := a') s.k h2
      split at h0
      · cases h0
      · rename_i u hu
        cases h0
        have hr : Rel { s with k := left_ s.k op a, seen := s.seen ++ [s.k] } { t with k := left_ t.k op a', seen := t.seen ++ [t.k] } := ⟨by simp only; rw [← h.k, hw'.2], h.bl⟩
        obtain ⟨v, hv, hrv⟩ := turn_rel (j := j) hr hu
        refine ⟨{ v with deep := max v.deep v.k.length }, ?_, hrv.k, hrv.bl⟩
        unfold step
        rw [if_neg (by rw [ha']; decide), if_neg (by rw [← h.k, hw'.1]; exact hw), hv]
/-- texts' numbers are shifted -/
def shift (n : Nat) (x : Cod.In) : Cod.In := if x.1 = 1 then (x.1, x.2 + Cod.b8 n) else x
theorem go_rel {nt nt' role : Nat} (f : Cod.In → Cod.In) (hf : ∀ x, (f x).1 = x.1 ∧ (x.1.toNat ≠ 1 → f x = x)) : ∀ (cs : List Cod.In) (i j : Nat) (s t s' : St), Rel s t → (∀ x ∈ cs, x.1.toNat = 1 → x.2.toNat < nt → (f x).2.toNat < nt') → go nt role cs i s = .ok s' → ∃ t', go nt' role (cs.map f) j t = .ok t' ∧ Rel s' t'
  | [], i, j, s, t, s', h, _, h0 => by cases h0; exact ⟨t, rfl, h⟩
  | x :: r, i, j, s, t, s', h, hx, h0 => by
    simp only [go] at h0
    split at h0
    · cases h0
    · rename_i u hu
      have hlt : x.1.toNat = 1 → x.2.toNat < nt := fun e => by
        unfold step at hu
        split at hu
        · cases hu
        · rename_i ha
          rw [e] at ha
          have ha2 : (if nt ≤ x.2.toNat then 3 else 0) = 0 := Decidable.of_not_not ha
          by_cases c : nt ≤ x.2.toNat
          · rw [if_pos c] at ha2; cases ha2
          · omega
      obtain ⟨v, hv, hr⟩ := step_rel (nt' := nt') (j := j) (a' := (f x).2.toNat) h (fun e => hx x (List.mem_cons_self ..) e (hlt e)) (fun e => by rw [(hf x).2 e]) hu
      obtain ⟨t', ht', hr'⟩ := go_rel f hf r (i + 1) (j + 1) u v s' hr (fun y hy => hx y (List.mem_cons_of_mem _ hy)) h0
      refine ⟨t', ?_, hr'⟩
      simp only [List.map_cons, go, (hf x).1, hv]
      exact ht'
theorem go_append {nt role : Nat} : ∀ (cs ds : List Cod.In) (i : Nat) (s t : St), go nt role cs i s = .ok t → go nt role (cs ++ ds) i s = go nt role ds (i + cs.length) t
  | [], ds, i, s, t, h => by cases h; rfl
  | x :: r, ds, i, s, t, h => by
    simp only [go, List.cons_append] at h ⊢
    split at h
    · cases h
    · rename_i u hu
      rw [go_append r ds (i + 1) u t h, List.length_cons]
      congr 1; omega
theorem over_one {s : St} (h : over 1 s = 0) : s.bl = [] ∧ s.k = [] := by
  unfold over at h
  by_cases hb : s.bl.length > 0
  · rw [if_pos hb] at h; cases h
  · rw [if_neg hb] at h
    by_cases hk : s.k.length ≠ want 1
    · rw [if_pos hk] at h; cases h
    · have : s.k.length = 0 := Decidable.of_not_not hk
      exact ⟨List.eq_nil_of_length_eq_zero (by omega), List.eq_nil_of_length_eq_zero this⟩
theorem all_ok {nt role : Nat} {cs : List Cod.In} {s : St} (h : all nt role cs = .ok s) : go nt role cs 0 (St.init cs.length) = .ok s ∧ over role s = 0 := by
  unfold all at h
  split at h
  · cases h
  · rename_i u hu
    split at h
    · cases h
    · rename_i ho
      cases h
      exact ⟨hu, Decidable.of_not_not ho⟩
/-- of two programs for RoleMap that are let be, one behind the other is let be -/
theorem all_straight {n m : Nat} {cs ds : List Cod.In} {s t : St} (hp : all n 1 cs = .ok s) (hq : all m 1 ds = .ok t) (hnm : n + m ≤ 16) : ∃ u, all (n + m) 1 (cs ++ ds.map (shift n)) = .ok u := by
  obtain ⟨h1, h2⟩ := all_ok hp
  obtain ⟨h3, h4⟩ := all_ok hq
  obtain ⟨b1, k1⟩ := over_one h2
  obtain ⟨b2, k2⟩ := over_one h4
  obtain ⟨s', hs', hr⟩ := go_rel (nt' := n + m) id (fun x => ⟨rfl, fun _ => rfl⟩) cs 0 0 (St.init cs.length) (St.init (cs ++ ds.map (shift n)).length) s ⟨rfl, rfl⟩ (fun x _ _ h => by simp only [id]; omega) h1
  rw [List.map_id] at hs'
  have hb' : s'.bl = [] := List.eq_nil_of_length_eq_zero (by rw [← hr.len, b1]; rfl)
  have hk' : s'.k = [] := by rw [← hr.k, k1]
  obtain ⟨t', ht', hr2⟩ := go_rel (nt' := n + m) (shift n) (fun x => by
    unfold shift
    split
    · rename_i e
      exact ⟨rfl, fun c => (c (by rw [e]; rfl)).elim⟩
    · exact ⟨rfl, fun _ => rfl⟩) ds 0 (0 + cs.length) (St.init ds.length) s' t ⟨by rw [hk']; rfl, by rw [hb']; rfl⟩ (fun x _ e h => by
    unfold shift
    have e1 : x.1 = 1 := UInt8.toNat_inj.1 e
    rw [if_pos e1]
    simp only [UInt8.toNat_add]
    rw [Cod.b8_nat (by omega)]
    omega) h3
  refine ⟨t', ?_⟩
  have hg := go_append (nt := n + m) (role := 1) cs (ds.map (shift n)) 0 (St.init (cs ++ ds.map (shift n)).length) s' hs'
  unfold all
  rw [hg, ht']
  have ho : over 1 t' = 0 := by
    have e1 : t'.bl.length = 0 := by rw [← hr2.len, b2]; rfl
    have e2 : t'.k.length = 0 := by rw [← hr2.k, k2]; rfl
    unfold over want
    rw [e1, e2]
    rfl
  simp only [ho]
  rfl
end Ver
end Go.Proofs.YtolldoclnfnceaaDoor
