/-
  What each instruction takes and gives, as the program has it in a table; the program's blocks; plain mathematics.
-/
import Derived.Test.YtolldoclnfnceaaDoorVerPure
set_option linter.unusedVariables false
namespace Go.Proofs.YtolldoclnfnceaaDoor
namespace Ver
def kb (l : List UInt8) : ByteArray := ⟨l.toArray⟩
theorem kb_size (l : List UInt8) : (kb l).size = l.length := by simp [kb, ByteArray.size]
theorem kb_list (l : List UInt8) : (kb l).data.toList = l := rfl
theorem kb_toList (l : List UInt8) : (kb l).toList = l := by rw [ByteArray.toList_eq]; rfl
theorem kb_of (s : ByteArray) : kb s.data.toList = s := rfl
theorem kb_inj {l k : List UInt8} (h : kb l = kb k) : l = k := by have := congrArg (fun s : ByteArray => s.data.toList) h; exact this
/-- the table's two texts of an op -/
def effP (op : Nat) : List UInt8 := match op with
  | 4 => [84, 84] | 5 => [84] | 6 => [84, 78, 78] | 7 => [84] | 8 => [78] | 9 => [78, 78] | 10 => [78, 78] | 11 => [78, 78] | 12 => [84, 84] | 13 => [78]
  | 14 => [97] | 15 => [97] | 16 => [97, 98] | 18 => [82] | 19 => [78] | 22 => [84] | 23 => [84, 84] | _ => []
def effQ (op : Nat) : List UInt8 := match op with
  | 1 => [84] | 2 => [78] | 3 => [84] | 4 => [84] | 5 => [78] | 6 => [84] | 7 => [78] | 8 => [84] | 9 => [78] | 10 => [78] | 11 => [78] | 12 => [78] | 13 => [78]
  | 15 => [97, 97] | 16 => [98, 97] | 17 => [82] | 22 => [84] | _ => []
def effT : List (List UInt8 × List UInt8) := [([], []), ([], [84]), ([], [78]), ([], [84]), ([84, 84], [84]), ([84], [78]), ([84, 78, 78], [84]), ([84], [78]), ([78], [84]), ([78, 78], [78]), ([78, 78], [78]), ([78, 78], [78]), ([84, 84], [78]), ([78], [78]), ([97], []), ([97], [97, 97]), ([97, 98], [98, 97]), ([], [82]), ([82], []), ([78], []), ([], []), ([], []), ([84], [84]), ([84, 84], [])]
theorem effT_is : ∀ j, j < 24 → effT.getD j ([], []) = (effP j, effQ j) := by decide
/-- R is the kind of the register -/
def rp (k l : List UInt8) : List UInt8 := if l = [82] then k else l
def pops (op a : Nat) : List UInt8 := rp (reg a) (effP op)
def pushes (op a : Nat) : List UInt8 := rp (reg a) (effQ op)
/-- are the top kinds those of it -/
def fitsP (p top : List UInt8) : Bool := (p.zip top).all fun x => !((x.1 == 78 || x.1 == 84) && x.1 != x.2)
/-- which letters are any kind -/
def anyL (c : UInt8) : UInt8 := if c == 78 || c == 84 then c else 63
theorem effP_big {op : Nat} (h : ¬ op < 24) : effP op = [] := by unfold effP; split <;> first | omega | rfl
theorem effQ_big {op : Nat} (h : ¬ op < 24) : effQ op = [] := by unfold effQ; split <;> first | omega | rfl
theorem takes_big {op : Nat} (a : Nat) (h : ¬ op < 24) : takes op a = [] := by unfold takes; split <;> first | omega | rfl
theorem gives_big {op : Nat} (a : Nat) (h : ¬ op < 24) : gives op a = [] := by unfold gives; split <;> first | omega | rfl
theorem rp_nil (k : List UInt8) : rp k [] = [] := rfl
theorem takes_no {op : Nat} (h : op ≠ 18) (a b : Nat) : takes op a = takes op b := by
  unfold takes
  split <;> first | rfl | exact absurd rfl h | (split <;> first | rfl | exact absurd rfl h | exact absurd rfl (by assumption))
theorem gives_no {op : Nat} (h : op ≠ 17) (a b : Nat) : gives op a = gives op b := by
  unfold gives
  split <;> first | rfl | exact absurd rfl h | (split <;> first | rfl | exact absurd rfl h | exact absurd rfl (by assumption))
theorem takes_is (op a : Nat) : takes op a = (pops op a).map anyL := by
  by_cases h : op < 24
  · unfold pops reg
    have h1 : ∀ j, j < 24 → ∀ b : Bool, takes j (if b then 0 else 4) = (rp (if b then [78] else [84]) (effP j)).map anyL := by decide
    have h2 : takes op a = takes op (if decide (a < 4) then 0 else 4) := by
      by_cases e : op = 18
      · subst e
        show reg a = reg _
        unfold reg
        by_cases c : a < 4
        · rw [if_pos c, decide_eq_true c]; rfl
        · rw [if_neg c, decide_eq_false c]; rfl
      · exact takes_no e _ _
    rw [h2, h1 op h (decide (a < 4))]
    by_cases c : a < 4
    · rw [if_pos c, decide_eq_true c]; rfl
    · rw [if_neg c, decide_eq_false c]; rfl
  · rw [takes_big a h]
    unfold pops
    rw [effP_big h]; rfl
theorem takes_len (op a : Nat) : (takes op a).length = (pops op a).length := by rw [takes_is, List.length_map]
theorem fits_is (p top : List UInt8) : fits (p.map anyL) top = fitsP p top := by
  induction p generalizing top with
  | nil => rfl
  | cons c p ih =>
    cases top with
    | nil => rfl
    | cons d top =>
      have := ih top
      unfold fits fitsP at this ⊢
      rw [List.map_cons, List.zip_cons_cons, List.zip_cons_cons, List.all_cons, List.all_cons, this]
      congr 1
      unfold anyL
      by_cases h : (c == 78 || c == 84) = true
      · simp only [h, if_true, Bool.true_and]
        have h63 : (c == 63) = false := by
          rw [Bool.or_eq_true, beq_iff_eq, beq_iff_eq] at h
          rcases h with rfl | rfl <;> rfl
        rw [h63, Bool.false_or]
        cases hcd : c == d
        · rw [bne, hcd]; rfl
        · rw [bne, hcd]; rfl
      · have h' : (c == 78 || c == 84) = false := by simpa using h
        simp only [h', Bool.false_eq_true, if_false, Bool.false_and]
        rfl
/-- a letter's kind -/
def kindOf (p top : List UInt8) (c : UInt8) : UInt8 := if c = 97 ∨ c = 98 then top.getD (p.idxOf c) 0 else c
def pushedP (p q top : List UInt8) : List UInt8 := q.map (kindOf p top)
/-- what lies there in the end, as the program has it: what remains, and what it pushes (OpEach's T comes by its block) -/
theorem given_is (op a : Nat) (top : List UInt8) (ht : top.length = (pops op a).length) (h22 : op ≠ 22) : pushedP (pops op a) (pushes op a) top = given (gives op a) top := by
  have hplain : ∀ l : List UInt8, (∀ c ∈ l, ¬ (c = 97 ∨ c = 98)) → (∀ c ∈ l, c ≠ 49 ∧ c ≠ 50) → ∀ p, pushedP p l top = given l top := by
    intro l h1 h2 p
    induction l with
    | nil => rfl
    | cons c l ih =>
      have ihl := ih (fun d hd => h1 d (List.mem_cons_of_mem _ hd)) (fun d hd => h2 d (List.mem_cons_of_mem _ hd))
      unfold pushedP given at ihl ⊢
      rw [List.map_cons, List.flatMap_cons, ihl]
      have e1 := h1 c (List.mem_cons_self ..)
      have e2 := h2 c (List.mem_cons_self ..)
      unfold kindOf
      rw [if_neg e1, if_neg (by simpa using e2.1), if_neg (by simpa using e2.2)]
      rfl
  have hreg : ∀ c ∈ reg a, ¬ (c = 97 ∨ c = 98) ∧ (c ≠ 49 ∧ c ≠ 50) := by
    intro c hc
    unfold reg at hc
    split at hc <;> (simp only [List.mem_cons, List.mem_nil_iff, or_false] at hc; subst hc; decide)
  by_cases e15 : op = 15
  · subst e15
    match top, ht with
    | [x], _ => rfl
  by_cases e16 : op = 16
  · subst e16
    match top, ht with
    | [x, y], _ => rfl
  by_cases e17 : op = 17
  · subst e17
    exact hplain (reg a) (fun c hc => (hreg c hc).1) (fun c hc => (hreg c hc).2) _
  by_cases h : op < 24
  · have hg : ∀ j, j < 24 → j = 15 ∨ j = 16 ∨ j = 17 ∨ j = 22 ∨ (gives j 0 = effQ j ∧ rp [78] (effQ j) = effQ j ∧ rp [84] (effQ j) = effQ j ∧ (effQ j).all (fun c => c != 97 && (c != 98 && (c != 49 && c != 50))) = true) := by decide +kernel
    obtain ⟨g1, g2, g3, g0⟩ := (((hg op h).resolve_left e15).resolve_left e16).resolve_left e17 |>.resolve_left h22
    rw [List.all_eq_true] at g0
    have g4 : ∀ c ∈ effQ op, ¬ (c = 97 ∨ c = 98) := fun c hc => by
      have := g0 c hc
      simp only [Bool.and_eq_true, bne_iff_ne, ne_eq] at this
      exact fun d => d.elim this.1 this.2.1
    have g5 : ∀ c ∈ effQ op, c ≠ 49 ∧ c ≠ 50 := fun c hc => by
      have := g0 c hc
      simp only [Bool.and_eq_true, bne_iff_ne, ne_eq] at this
      exact this.2.2
    have e1 : gives op a = effQ op := by rw [← g1]; exact gives_no e17 _ _
    have e2 : pushes op a = effQ op := by
      unfold pushes reg
      split
      · exact g2
      · exact g3
    rw [e1, e2]
    exact hplain _ g4 g5 _
  · rw [gives_big a h]
    unfold pushes
    rw [effQ_big h]; rfl
theorem pushes_len (op a : Nat) (top : List UInt8) (ht : top.length = (pops op a).length) : (pushes op a).length = (given (gives op a) top).length + more op := by
  by_cases e : op = 22
  · subst e; rfl
  · rw [← given_is op a top ht e]
    unfold pushedP more
    rw [List.length_map, if_neg e, Nat.add_zero]
theorem given_22 (a : Nat) (top : List UInt8) : given (gives 22 a) top = [] := rfl
theorem pushed_22 (a : Nat) (top : List UInt8) : pushedP (pops 22 a) (pushes 22 a) top = [84] := rfl
theorem pops_len (op a : Nat) : (pops op a).length ≤ 3 := by
  by_cases h : op < 24
  · have : ∀ j, j < 24 → (rp [78] (effP j)).length ≤ 3 ∧ (rp [84] (effP j)).length ≤ 3 := by decide
    unfold pops reg
    split
    · exact (this op h).1
    · exact (this op h).2
  · unfold pops
    rw [effP_big h]; exact Nat.zero_le _
theorem pushes_le (op a : Nat) : (pushes op a).length ≤ 2 := by
  by_cases h : op < 24
  · have : ∀ j, j < 24 → (rp [78] (effQ j)).length ≤ 2 ∧ (rp [84] (effQ j)).length ≤ 2 := by decide
    unfold pushes reg
    split
    · exact (this op h).1
    · exact (this op h).2
  · unfold pushes
    rw [effQ_big h]; exact Nat.zero_le _

-- the program's blocks
structure PB where
  op : Nat
  at_ : Nat
  opn : List UInt8
  want : List UInt8
def Blk.pb (b : Blk) : PB := ⟨if b.did then 20 else b.op, b.at_, b.opn, if b.did then b.kept else b.opn⟩
/-- the stack of blocks: the innermost last -/
def pbs (l : List Blk) : List PB := (l.map Blk.pb).reverse
theorem pbs_length (l : List Blk) : (pbs l).length = l.length := by simp [pbs]
theorem pbs_cons (b : Blk) (l : List Blk) : pbs (b :: l) = pbs l ++ [b.pb] := by simp [pbs]

-- an instruction's step, with what is seen and how deep it is apart
def known (nt role op a : Nat) : Nat := match op with
  | 1 => if nt ≤ a then 3 else 0
  | 3 => if inputs role ≤ a then 3 else 0
  | 17 => if 8 ≤ a then 3 else 0
  | 18 => if 8 ≤ a then 3 else 0
  | 23 => if role = 1 then 0 else 133
  | _ => 0
def nests (bl : List Blk) (op : Nat) : Bool := match op with
  | 20 => match bl with
    | [] => false
    | b :: _ => b.op == 19 && !b.did
  | 21 => match bl with
    | [] => false
    | _ :: _ => true
  | 19 => decide (bl.length < 8)
  | 22 => decide (bl.length < 8)
  | _ => true
theorem ahead_is (nt role : Nat) (bl : List Blk) (op a : Nat) : ahead nt role bl op a = if known nt role op a ≠ 0 then known nt role op a else if nests bl op = true then 0 else 132 := by
  have lt : ∀ n : Nat, (if 8 ≤ n then 132 else 0) = if decide (n < 8) = true then 0 else 132 := fun n => by
    by_cases h : 8 ≤ n
    · rw [if_pos h, if_neg (by simp; omega)]
    · rw [if_neg h, if_pos (by simp; omega)]
  have nz : ∀ c : Nat, c = if c ≠ 0 then c else if true = true then 0 else 132 := fun c => by
    by_cases h : c = 0
    · subst h; rfl
    · rw [if_pos h]
  by_cases e20 : op = 20
  · subst e20
    cases bl with
    | nil => rfl
    | cons b l =>
      show (if b.op = 19 ∧ b.did = false then 0 else 132) = if (0 : Nat) ≠ 0 then 0 else if (b.op == 19 && !b.did) = true then 0 else 132
      rw [if_neg (fun c : (0 : Nat) ≠ 0 => c rfl)]
      cases hd : b.did <;> by_cases ho : b.op = 19 <;> simp [ho]
  by_cases e21 : op = 21
  · subst e21
    cases bl with
    | nil => rfl
    | cons b l => rfl
  by_cases e19 : op = 19
  · subst e19
    show (if 8 ≤ bl.length then 132 else 0) = if (0 : Nat) ≠ 0 then 0 else if decide (bl.length < 8) = true then 0 else 132
    rw [if_neg (fun c : (0 : Nat) ≠ 0 => c rfl)]
    exact lt _
  by_cases e22 : op = 22
  · subst e22
    show (if 8 ≤ bl.length then 132 else 0) = if (0 : Nat) ≠ 0 then 0 else if decide (bl.length < 8) = true then 0 else 132
    rw [if_neg (fun c : (0 : Nat) ≠ 0 => c rfl)]
    exact lt _
  have hn : nests bl op = true := by
    unfold nests
    split <;> first | omega | rfl
  have ha : ahead nt role bl op a = known nt role op a := by
    unfold ahead known
    split <;> first | omega | rfl | (split <;> first | rfl | omega | exact absurd rfl (by assumption))
  rw [hn, ha]
  exact nz _
def stp (nt role i op a : Nat) (s : St) : Except Nat St :=
  if ahead nt role s.bl op a ≠ 0 then .error (ahead nt role s.bl op a)
  else if wrong s.k op a ≠ 0 then .error (wrong s.k op a)
  else turn i op { s with k := left_ s.k op a }
theorem step_is (nt role i op a : Nat) (s : St) : step nt role i op a s = match stp nt role i op a { s with seen := s.seen ++ [s.k] } with
    | .error e => .error e
    | .ok t => .ok { t with deep := max t.deep t.k.length } := by
  unfold step stp
  simp only
  split
  · rfl
  · split <;> rfl
end Ver
end Go.Proofs.YtolldoclnfnceaaDoor
