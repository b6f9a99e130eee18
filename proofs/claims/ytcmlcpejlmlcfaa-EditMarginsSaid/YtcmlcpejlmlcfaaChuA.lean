/- Put together of: ChuPure ChuMark ChuSmall ChuFind ChuIter ChuColl ChuMarks ChuCut1 -/
import Derived.Test.YtcmlcpejlmlcfaaRabPure
import Derived.Test.YtcmlcpejlmlcfaaRabB
import Derived.Laws.ResultCell
import Derived.Test.YtcmlcpejlmlcfaaPolAll
import Derived.Test.YtcmlcpejlmlcfaaRabA
import Derived.OwnWalkIn
import Derived.TacticsInMore
import Derived.LoopNIn
import Derived.LoopIn
import Derived.Test.YtcmlcpejlmlcfaaGoAll
import Derived.Maps.AppendAt
import Derived.Maps.OwnIn
set_option maxRecDepth 100000
/-
  Plain mathematics of layer 9: into which pieces a text is cut, by its marks.
-/
set_option linter.unusedVariables false
namespace Go.Proofs.Ytcmlcpejlmlcfaa
namespace Chu
/-- the first of f places from i on that is a mark, else e -/
def scan (mk : Nat → Bool) (e : Nat) : Nat → Nat → Nat
  | 0, _ => e
  | f + 1, i => if mk i = true then i else scan mk e f (i + 1)
theorem scan_is (mk : Nat → Bool) (e : Nat) : ∀ (f i : Nat), (scan mk e f i = e ∧ ∀ j, i ≤ j → j < i + f → mk j = false) ∨ (i ≤ scan mk e f i ∧ scan mk e f i < i + f ∧ mk (scan mk e f i) = true ∧ ∀ j, i ≤ j → j < scan mk e f i → mk j = false)
  | 0, i => .inl ⟨rfl, fun j h1 h2 => by omega⟩
  | f + 1, i => by
    unfold scan
    by_cases h : mk i = true
    · rw [if_pos h]
      exact .inr ⟨by omega, by omega, h, fun j h1 h2 => by omega⟩
    · rw [if_neg h]
      have h' : mk i = false := by simpa using h
      rcases scan_is mk e f (i + 1) with ⟨h1, h2⟩ | ⟨h1, h2, h3, h4⟩
      · refine .inl ⟨h1, fun j a b => ?_⟩
        rcases Nat.lt_or_ge i j with c | c
        · exact h2 j (by omega) (by omega)
        · rw [show j = i by omega]; exact h'
      · refine .inr ⟨by omega, by omega, h3, fun j a b => ?_⟩
        rcases Nat.lt_or_ge i j with c | c
        · exact h4 j (by omega) b
        · rw [show j = i by omega]; exact h'
/-- the cut behind one -/
def nxt (mk : Nat → Bool) (mn mx len at_ : Nat) : Nat := scan mk (min (at_ + mx) len) (min (at_ + mx) len + 1 - (at_ + mn)) (at_ + mn)
section
variable {mk : Nat → Bool} {mn mx len at_ : Nat}
theorem nxt_cases (mk : Nat → Bool) (mn mx len at_ : Nat) : (nxt mk mn mx len at_ = min (at_ + mx) len ∧ ∀ j, at_ + mn ≤ j → j ≤ min (at_ + mx) len → mk j = false) ∨
    (at_ + mn ≤ nxt mk mn mx len at_ ∧ nxt mk mn mx len at_ ≤ min (at_ + mx) len ∧ mk (nxt mk mn mx len at_) = true ∧ ∀ j, at_ + mn ≤ j → j < nxt mk mn mx len at_ → mk j = false) := by
  unfold nxt
  rcases scan_is mk (min (at_ + mx) len) (min (at_ + mx) len + 1 - (at_ + mn)) (at_ + mn) with ⟨h1, h2⟩ | ⟨h1, h2, h3, h4⟩
  · exact .inl ⟨h1, fun j a b => h2 j a (by omega)⟩
  · exact .inr ⟨h1, by omega, h3, h4⟩
/-- it lies behind, and not too far -/
theorem nxt_range (h1 : 1 ≤ mn) (h2 : mn ≤ mx) (h : at_ < len) : at_ < nxt mk mn mx len at_ ∧ nxt mk mn mx len at_ ≤ at_ + mx ∧ nxt mk mn mx len at_ ≤ len := by
  rcases nxt_cases mk mn mx len at_ with ⟨e, _⟩ | ⟨a, b, _⟩
  · omega
  · omega
theorem nxt_lo (h2 : mn ≤ mx) : nxt mk mn mx len at_ = len ∨ at_ + mn ≤ nxt mk mn mx len at_ := by
  rcases nxt_cases mk mn mx len at_ with ⟨e, _⟩ | ⟨a, b, _⟩
  · omega
  · exact .inr a
theorem nxt_mark (h1 : nxt mk mn mx len at_ < at_ + mx) (h2 : nxt mk mn mx len at_ < len) : mk (nxt mk mn mx len at_) = true := by
  rcases nxt_cases mk mn mx len at_ with ⟨e, _⟩ | ⟨_, _, c, _⟩
  · omega
  · exact c
/-- what the cut behind one is, told by what it is like -/
theorem nxt_eq {r : Nat} (hr : r ≤ min (at_ + mx) len) (hm : r = min (at_ + mx) len ∨ (at_ + mn ≤ r ∧ mk r = true)) (hno : ∀ j, at_ + mn ≤ j → j < r → mk j = false) : nxt mk mn mx len at_ = r := by
  rcases nxt_cases mk mn mx len at_ with ⟨e, h⟩ | ⟨a, b, c, h⟩
  · rcases hm with hm | ⟨g1, g2⟩
    · omega
    · rw [h r g1 hr] at g2; cases g2
  · rcases Nat.lt_or_ge (nxt mk mn mx len at_) r with g | g
    · rw [hno _ a g] at c; cases c
    · rcases hm with hm | ⟨g1, g2⟩
      · omega
      · rcases Nat.lt_or_ge r (nxt mk mn mx len at_) with g3 | g3
        · rw [h r g1 g3] at g2; cases g2
        · omega
/-- marks that are the same, n places further on -/
theorem nxt_shift {mk' : Nat → Bool} {n : Nat} (hmk : ∀ j, at_ + mn ≤ j → j ≤ len → mk' (n + j) = mk j) : nxt mk' mn mx (n + len) (n + at_) = n + nxt mk mn mx len at_ := by
  rcases nxt_cases mk mn mx len at_ with ⟨e, h⟩ | ⟨a, b, c, h⟩
  · refine nxt_eq (by omega) (.inl (by omega)) (fun j g1 g2 => ?_)
    obtain ⟨i, rfl⟩ : ∃ i, j = n + i := ⟨j - n, by omega⟩
    rw [hmk i (by omega) (by omega)]
    exact h i (by omega) (by omega)
  · refine nxt_eq (by omega) (.inr ⟨by omega, by rw [hmk _ a (by omega)]; exact c⟩) (fun j g1 g2 => ?_)
    obtain ⟨i, rfl⟩ : ∃ i, j = n + i := ⟨j - n, by omega⟩
    rw [hmk i (by omega) (by omega)]
    exact h i (by omega) (by omega)
/-- texts that begin alike, up to the place p -/
theorem nxt_begin {mk' : Nat → Bool} {len' p : Nat} (hp : p ≤ len) (hp' : p ≤ len') (hmk : ∀ j, j ≤ p → mk' j = mk j) (h : nxt mk mn mx len at_ ≤ p) (hq : nxt mk mn mx len at_ ≠ len ∨ len = len') : nxt mk' mn mx len' at_ = nxt mk mn mx len at_ := by
  rcases nxt_cases mk mn mx len at_ with ⟨e, g⟩ | ⟨a, b, c, g⟩
  · refine nxt_eq (by omega) (.inl (by omega)) (fun j g1 g2 => ?_)
    rw [hmk j (by omega)]
    exact g j g1 (by omega)
  · refine nxt_eq (by omega) (.inr ⟨a, by rw [hmk _ h]; exact c⟩) (fun j g1 g2 => ?_)
    rw [hmk j (by omega)]
    exact g j g1 g2
end
/-- the places where the pieces end, from one cut on; f: as many as there may be -/
def ends (mk : Nat → Bool) (mn mx len : Nat) : Nat → Nat → List Nat
  | 0, _ => []
  | f + 1, i => if i < len then nxt mk mn mx len i :: ends mk mn mx len f (nxt mk mn mx len i) else []
theorem ends_done (mk : Nat → Bool) (mn mx len f i : Nat) (h : len ≤ i) : ends mk mn mx len f i = [] := by
  cases f with
  | zero => rfl
  | succ f => unfold ends; rw [if_neg (by omega)]
/-- more steps than bytes change nothing -/
theorem ends_fuel {mk : Nat → Bool} {mn mx len : Nat} (h1 : 1 ≤ mn) (h2 : mn ≤ mx) : ∀ (f g i : Nat), len ≤ i + f → len ≤ i + g → ends mk mn mx len f i = ends mk mn mx len g i
  | 0, g, i, hf, _ => by rw [ends_done _ _ _ _ 0 i (by omega), ends_done _ _ _ _ g i (by omega)]
  | f + 1, 0, i, _, hg => by rw [ends_done _ _ _ _ 0 i (by omega), ends_done _ _ _ _ (f + 1) i (by omega)]
  | f + 1, g + 1, i, hf, hg => by
    unfold ends
    by_cases h : i < len
    · have := nxt_range (mk := mk) h1 h2 h
      rw [if_pos h, if_pos h, ends_fuel h1 h2 f g _ (by omega) (by omega)]
    · rw [if_neg h, if_neg h]
/-- the ends rise, from behind i to len -/
theorem ends_range {mk : Nat → Bool} {mn mx len : Nat} (h1 : 1 ≤ mn) (h2 : mn ≤ mx) : ∀ (f i : Nat), ∀ x ∈ ends mk mn mx len f i, i < x ∧ x ≤ len
  | 0, _, x, hx => by simp [ends] at hx
  | f + 1, i, x, hx => by
    unfold ends at hx
    by_cases h : i < len
    · have g := nxt_range (mk := mk) h1 h2 h
      rw [if_pos h] at hx
      rcases List.mem_cons.1 hx with rfl | hx
      · omega
      · have := ends_range h1 h2 f _ x hx
        omega
    · rw [if_neg h] at hx; simp at hx
/-- cut alike from one place on, whose marks lie n places apart: the rest is alike -/
theorem ends_shift {mk mk' : Nat → Bool} {mn mx len n : Nat} (h1 : 1 ≤ mn) (h2 : mn ≤ mx) (i0 : Nat) (hmk : ∀ j, i0 + mn ≤ j → j ≤ len → mk' (n + j) = mk j) : ∀ (f i : Nat), i0 ≤ i → ends mk' mn mx (n + len) f (n + i) = (ends mk mn mx len f i).map (n + ·)
  | 0, i, _ => rfl
  | f + 1, i, hi => by
    unfold ends
    by_cases h : i < len
    · have g := nxt_range (mk := mk) h1 h2 h
      rw [if_pos h, if_pos (by omega), nxt_shift (fun j a b => hmk j (by omega) b), ends_shift h1 h2 i0 hmk f _ (by omega)]
      rfl
    · rw [if_neg h, if_neg (by omega)]
      rfl
/-- no more pieces than Most tells -/
theorem ends_most {mk : Nat → Bool} {mn mx len : Nat} (h1 : 1 ≤ mn) (h2 : mn ≤ mx) : ∀ (f i : Nat), i ≤ len → (ends mk mn mx len f i).length * mn ≤ len - i + (mn - 1)
  | 0, i, _ => by simp [ends]
  | f + 1, i, hi => by
    unfold ends
    by_cases h : i < len
    · have g := nxt_range (mk := mk) (mn := mn) (mx := mx) (len := len) (at_ := i) h1 h2 h
      rw [if_pos h, List.length_cons, Nat.add_mul, Nat.one_mul]
      rcases nxt_lo (mk := mk) (mn := mn) (mx := mx) (len := len) (at_ := i) h2 with e | e
      · rw [ends_done mk mn mx len f (nxt mk mn mx len i) (by omega)]
        simp only [List.length_nil, Nat.zero_mul]
        omega
      · have ih := ends_most (mk := mk) (len := len) h1 h2 f (nxt mk mn mx len i) (by omega)
        omega
    · rw [if_neg h]; simp
end Chu
end Go.Proofs.Ytcmlcpejlmlcfaa

/-
  Plain mathematics of layer 9: a mark is what the window ahead of it makes it.
-/
set_option linter.unusedVariables false
namespace Go.Proofs.Ytcmlcpejlmlcfaa
namespace Chu
/-- is a place of a text a mark -/
def mark (p w bits : Nat) (l : List UInt8) (i : Nat) : Bool := (Pol.fp p (Pol.last w (l.take i))) &&& (2 ^ bits - 1) == 2 ^ bits - 1
theorem mark_shift (p w bits : Nat) (a e : List UInt8) (j : Nat) (hj : w ≤ j) (hje : j ≤ e.length) : mark p w bits (a ++ e) (a.length + j) = mark p w bits e j := by
  unfold mark
  have e1 : (a ++ e).take (a.length + j) = a ++ e.take j := by rw [List.take_append, List.take_of_length_le (by omega)]; simp
  have h := Pol.last_same w a [] (e.take j) (by rw [List.length_take]; omega)
  rw [List.nil_append] at h
  rw [e1, h]
theorem mark_begin (p w bits : Nat) (a x y : List UInt8) (j : Nat) (hj : j ≤ a.length) : mark p w bits (a ++ x) j = mark p w bits (a ++ y) j := by
  unfold mark
  rw [List.take_append_of_le_length hj, List.take_append_of_le_length hj]
/-- two texts that end alike, both cut at the place j of their end: cut alike behind it -/
theorem meets {p w bits mn mx : Nat} (h0 : w ≤ mn) (h1 : 1 ≤ mn) (h2 : mn ≤ mx) (a e : List UInt8) (j f : Nat) :
    ends (mark p w bits (a ++ e)) mn mx (a.length + e.length) f (a.length + j) = (ends (mark p w bits e) mn mx e.length f j).map (a.length + ·) :=
  ends_shift h1 h2 j (fun i g1 g2 => mark_shift p w bits a e i (by omega) g2) f j (Nat.le_refl _)
/-- two texts that begin alike: the cut behind a cut is the same, if it lies within what is alike, and is no end of the one alone -/
theorem begins {p w bits mn mx : Nat} (a x y : List UInt8) (i : Nat) (h : nxt (mark p w bits (a ++ x)) mn mx (a ++ x).length i ≤ a.length) (hq : nxt (mark p w bits (a ++ x)) mn mx (a ++ x).length i ≠ (a ++ x).length ∨ (a ++ x).length = (a ++ y).length) :
    nxt (mark p w bits (a ++ y)) mn mx (a ++ y).length i = nxt (mark p w bits (a ++ x)) mn mx (a ++ x).length i :=
  nxt_begin (p := a.length) (by simp) (by simp) (fun j hj => mark_begin p w bits a y x j hj) h hq
end Chu
end Go.Proofs.Ytcmlcpejlmlcfaa

/-
  What chunk's short functions answer: which cutters may be, and how many pieces there are at most.
-/
set_option linter.unusedVariables false
set_option maxRecDepth 100000
namespace Go.Proofs.Ytcmlcpejlmlcfaa
open Go.RowKit

/-- a cutter -/
structure Ctr where
  p : Nat
  n : Int
  mn : Int
  mx : Int
  b : Int
def Ctr.v (c : Ctr) : Value := .agg #[.int .u64 c.p, .int .i64 c.n, .int .i64 c.mn, .int .i64 c.mx, .int .i64 c.b]
def Ctr.May (c : Ctr) : Prop := rabMay c.p c.n ∧ (c.n ≤ c.mn ∧ c.mn ≤ c.mx) ∧ (1 ≤ c.mx ∧ c.mx ≤ 4096) ∧ (0 ≤ c.b ∧ c.b ≤ 16)
instance (c : Ctr) : Decidable c.May := by unfold Ctr.May; infer_instance

theorem box_below (w : World) (o : Obj) : Below w.heap.size w (w.alloc o) := (Below.refl _ w).alloc (Nat.le_refl _) _

theorem rolls_any (c : Ctr) (hp : c.p < 18446744073709551616) (w : World) :
    Calls Try.prog 66 #[c.v] w fun e w' => e = .returned (.bool (decide (rabMay c.p c.n))) ∧ Below w.heap.size w w' := by
  obtain ⟨p, n, mn, mx, b⟩ := c
  unfold Ctr.v
  have hb := box_below w (.cells #[.int .u64 p, .int .i64 n, .int .i64 mn, .int .i64 mx, .int .i64 b] 38)
  have Hb := Lib.hid hb; clear hb
  by_cases h : rabMay p n
  · have cc := fun u => (check_any p n hp u).2 h
    have Cc := Lib.hid cc; clear cc
    rw [decide_eq_true h]
    clear h
    go_enter Try.func66, Try.ntmps66
    go_wp2_with fail
    refine (Cc.out _).mono ?_; rintro e w1 ⟨rfl, rfl⟩
    go_wp2_with fail
    go_ret
    exact ⟨rfl, Hb.out⟩
  · have cc := fun u => (check_any p n hp u).1 h
    have Cc := Lib.hid cc; clear cc
    rw [decide_eq_false h]
    clear h
    go_enter Try.func66, Try.ntmps66
    go_wp2_with fail
    refine (Cc.out _).mono ?_; rintro e w1 ⟨rfl, rfl⟩
    go_wp2_with fail
    go_ret
    exact ⟨rfl, Hb.out⟩

theorem hasMin_any (c : Ctr) (w : World) :
    Calls Try.prog 67 #[c.v] w fun e w' => e = .returned (.bool (decide (c.n ≤ c.mn ∧ c.mn ≤ c.mx))) ∧ Below w.heap.size w w' := by
  obtain ⟨p, n, mn, mx, b⟩ := c
  unfold Ctr.v
  have hb := box_below w (.cells #[.int .u64 p, .int .i64 n, .int .i64 mn, .int .i64 mx, .int .i64 b] 38)
  have Hb := Lib.hid hb; clear hb
  by_cases h1 : n ≤ mn
  · have g1 : decide (n ≤ mn) = true := decide_eq_true h1
    by_cases h2 : mn ≤ mx
    · have g2 : decide (mn ≤ mx) = true := decide_eq_true h2
      rw [decide_eq_true (⟨h1, h2⟩ : n ≤ mn ∧ mn ≤ mx)]
      clear h1 h2
      go_enter Try.func67, Try.ntmps67
      go_wp2_with fail
      go_ret
      exact ⟨rfl, Hb.out⟩
    · have g2 : decide (mn ≤ mx) = false := decide_eq_false h2
      rw [decide_eq_false (fun h => h2 h.2 : ¬ (n ≤ mn ∧ mn ≤ mx))]
      clear h1 h2
      go_enter Try.func67, Try.ntmps67
      go_wp2_with fail
      go_ret
      exact ⟨rfl, Hb.out⟩
  · have g1 : decide (n ≤ mn) = false := decide_eq_false h1
    rw [decide_eq_false (fun h => h1 h.1 : ¬ (n ≤ mn ∧ mn ≤ mx))]
    clear h1
    go_enter Try.func67, Try.ntmps67
    go_wp2_with fail
    go_ret
    exact ⟨rfl, Hb.out⟩

theorem hasMax_any (c : Ctr) (w : World) :
    Calls Try.prog 68 #[c.v] w fun e w' => e = .returned (.bool (decide (1 ≤ c.mx ∧ c.mx ≤ 4096))) ∧ Below w.heap.size w w' := by
  obtain ⟨p, n, mn, mx, b⟩ := c
  unfold Ctr.v
  have hb := box_below w (.cells #[.int .u64 p, .int .i64 n, .int .i64 mn, .int .i64 mx, .int .i64 b] 38)
  have Hb := Lib.hid hb; clear hb
  by_cases h1 : 1 ≤ mx
  · have g1 : decide (1 ≤ mx) = true := decide_eq_true h1
    by_cases h2 : mx ≤ 4096
    · have g2 : decide (mx ≤ 4096) = true := decide_eq_true h2
      rw [decide_eq_true (⟨h1, h2⟩ : 1 ≤ mx ∧ mx ≤ 4096)]
      clear h1 h2
      go_enter Try.func68, Try.ntmps68
      go_wp2_with fail
      go_ret
      exact ⟨rfl, Hb.out⟩
    · have g2 : decide (mx ≤ 4096) = false := decide_eq_false h2
      rw [decide_eq_false (fun h => h2 h.2 : ¬ (1 ≤ mx ∧ mx ≤ 4096))]
      clear h1 h2
      go_enter Try.func68, Try.ntmps68
      go_wp2_with fail
      go_ret
      exact ⟨rfl, Hb.out⟩
  · have g1 : decide (1 ≤ mx) = false := decide_eq_false h1
    rw [decide_eq_false (fun h => h1 h.1 : ¬ (1 ≤ mx ∧ mx ≤ 4096))]
    clear h1
    go_enter Try.func68, Try.ntmps68
    go_wp2_with fail
    go_ret
    exact ⟨rfl, Hb.out⟩

theorem hasBits_any (c : Ctr) (w : World) :
    Calls Try.prog 69 #[c.v] w fun e w' => e = .returned (.bool (decide (0 ≤ c.b ∧ c.b ≤ 16))) ∧ Below w.heap.size w w' := by
  obtain ⟨p, n, mn, mx, b⟩ := c
  unfold Ctr.v
  have hb := box_below w (.cells #[.int .u64 p, .int .i64 n, .int .i64 mn, .int .i64 mx, .int .i64 b] 38)
  have Hb := Lib.hid hb; clear hb
  by_cases h1 : 0 ≤ b
  · have g1 : decide (0 ≤ b) = true := decide_eq_true h1
    by_cases h2 : b ≤ 16
    · have g2 : decide (b ≤ 16) = true := decide_eq_true h2
      rw [decide_eq_true (⟨h1, h2⟩ : 0 ≤ b ∧ b ≤ 16)]
      clear h1 h2
      go_enter Try.func69, Try.ntmps69
      go_wp2_with fail
      go_ret
      exact ⟨rfl, Hb.out⟩
    · have g2 : decide (b ≤ 16) = false := decide_eq_false h2
      rw [decide_eq_false (fun h => h2 h.2 : ¬ (0 ≤ b ∧ b ≤ 16))]
      clear h1 h2
      go_enter Try.func69, Try.ntmps69
      go_wp2_with fail
      go_ret
      exact ⟨rfl, Hb.out⟩
  · have g1 : decide (0 ≤ b) = false := decide_eq_false h1
    rw [decide_eq_false (fun h => h1 h.1 : ¬ (0 ≤ b ∧ b ≤ 16))]
    clear h1
    go_enter Try.func69, Try.ntmps69
    go_wp2_with fail
    go_ret
    exact ⟨rfl, Hb.out⟩

/-- all four rules -/
theorem Ctr.rules (c : Ctr) (b0 b1 b2 b3 : Bool) (h0 : b0 = decide (rabMay c.p c.n)) (h1 : b1 = decide (c.n ≤ c.mn ∧ c.mn ≤ c.mx)) (h2 : b2 = decide (1 ≤ c.mx ∧ c.mx ≤ 4096)) (h3 : b3 = decide (0 ≤ c.b ∧ c.b ≤ 16)) :
    (if c.May then 0 else 2 : Int) = if b0 = true ∧ b1 = true ∧ b2 = true ∧ b3 = true then 0 else 2 := by
  subst h0 h1 h2 h3
  simp only [decide_eq_true_eq]
  rfl

set_option maxHeartbeats 1000000 in
theorem ccheck_any (c : Ctr) (hp : c.p < 18446744073709551616) (w : World) :
    Calls Try.prog 58 #[c.v] w fun e w' => e = .returned (.int .i64 (if c.May then 0 else 2)) ∧ Below w.heap.size w w' := by
  have c0 := fun u => rolls_any c hp u
  have c1 := fun u => hasMin_any c u
  have c2 := fun u => hasMax_any c u
  have c3 := fun u => hasBits_any c u
  have e := c.rules _ _ _ _ rfl rfl rfl rfl
  obtain ⟨R, hR⟩ : ∃ R, R = (if c.May then 0 else 2 : Int) := ⟨_, rfl⟩
  rw [← hR] at e ⊢
  generalize decide (rabMay c.p c.n) = b0 at *
  generalize decide (c.n ≤ c.mn ∧ c.mn ≤ c.mx) = b1 at *
  generalize decide (1 ≤ c.mx ∧ c.mx ≤ 4096) = b2 at *
  generalize decide (0 ≤ c.b ∧ c.b ≤ 16) = b3 at *
  have He := Lib.hid e; clear e hR
  obtain ⟨p, n, mn, mx, b⟩ := c
  unfold Ctr.v at *
  have C0 := Lib.hid c0; clear c0
  have C1 := Lib.hid c1; clear c1
  have C2 := Lib.hid c2; clear c2
  have C3 := Lib.hid c3; clear c3
  have hb := box_below w (.cells #[.int .u64 p, .int .i64 n, .int .i64 mn, .int .i64 mx, .int .i64 b] 38)
  have Hb := Lib.hid hb; clear hb
  have hr := heap_alloc_new w (.cells #[.int .u64 p, .int .i64 n, .int .i64 mn, .int .i64 mx, .int .i64 b] 38)
  have Hr := Lib.hid hr; clear hr
  go_enter Try.func58, Try.ntmps58
  go_wp2_with fail
  go_loopw [6] (fun i wr => ∃ k : Nat, k ≤ 4 ∧ i = .int .i64 (k : Int) ∧ (1 ≤ k → b0 = true) ∧ (2 ≤ k → b1 = true) ∧ (3 ≤ k → b2 = true) ∧ (4 ≤ k → b3 = true) ∧ Below w.heap.size w wr ∧ wr.heap[w.heap.size]? = some (.cells #[.int .u64 p, .int .i64 n, .int .i64 mn, .int .i64 mx, .int .i64 b] 38 (0, 0))) (fun i _ => 4 - (intOf i).toNat)
  case atStart => exact ⟨0, by omega, rfl, by omega, by omega, by omega, by omega, Hb.out, Hr.out⟩
  case round =>
    obtain ⟨k, hk, rfl, k0, k1, k2, k3, hbw, hrow⟩ := hrel
    have d0 : wr.cell? ⟨w.heap.size, 0, none⟩ = some (.int .u64 (p : Int)) := cell_of_row _ _ 0 _ _ _ hrow
    have d1 : wr.cell? ⟨w.heap.size, 1, none⟩ = some (.int .i64 n) := cell_of_row _ _ 1 _ _ _ hrow
    have d2 : wr.cell? ⟨w.heap.size, 2, none⟩ = some (.int .i64 mn) := cell_of_row _ _ 2 _ _ _ hrow
    have d3 : wr.cell? ⟨w.heap.size, 3, none⟩ = some (.int .i64 mx) := cell_of_row _ _ 3 _ _ _ hrow
    have d4 : wr.cell? ⟨w.heap.size, 4, none⟩ = some (.int .i64 b) := cell_of_row _ _ 4 _ _ _ hrow
    have Hrow := Lib.hid hrow; clear hrow
    have Hbw := Lib.hid hbw; clear hbw
    have K0 := Lib.hid k0; clear k0
    have K1 := Lib.hid k1; clear k1
    have K2 := Lib.hid k2; clear k2
    have K3 := Lib.hid k3; clear k3
    have x0 : ∀ u, (Instr.index 103 (.agg #[.func (.func 66) #[] #[], .func (.func 67) #[] #[], .func (.func 68) #[] #[], .func (.func 69) #[] #[]]) (.int .i64 0)).run Try.prog u = .ok (.func (.func 66) #[] #[]) u := fun u => by kernel_rfl
    have x1 : ∀ u, (Instr.index 103 (.agg #[.func (.func 66) #[] #[], .func (.func 67) #[] #[], .func (.func 68) #[] #[], .func (.func 69) #[] #[]]) (.int .i64 1)).run Try.prog u = .ok (.func (.func 67) #[] #[]) u := fun u => by kernel_rfl
    have x2 : ∀ u, (Instr.index 103 (.agg #[.func (.func 66) #[] #[], .func (.func 67) #[] #[], .func (.func 68) #[] #[], .func (.func 69) #[] #[]]) (.int .i64 2)).run Try.prog u = .ok (.func (.func 68) #[] #[]) u := fun u => by kernel_rfl
    have x3 : ∀ u, (Instr.index 103 (.agg #[.func (.func 66) #[] #[], .func (.func 67) #[] #[], .func (.func 68) #[] #[], .func (.func 69) #[] #[]]) (.int .i64 3)).run Try.prog u = .ok (.func (.func 69) #[] #[]) u := fun u => by kernel_rfl
    rcases (by omega : k = 0 ∨ k = 1 ∨ k = 2 ∨ k = 3 ∨ k = 4) with rfl | rfl | rfl | rfl | rfl
    · go_wp2_with fail
      refine (C0.out _).mono ?_; rintro e w1 ⟨rfl, h1⟩
      have hs := Hbw.out.size
      have hrow2 : w1.heap[w.heap.size]? = some (.cells #[.int .u64 p, .int .i64 n, .int .i64 mn, .int .i64 mx, .int .i64 b] 38 (0, 0)) := by rw [h1.block _ (row_lt Hrow.out)]; exact Hrow.out
      have hb2 := Hbw.out.trans (h1.mono hs)
      have Hrow2 := Lib.hid hrow2; clear hrow2
      have Hb2 := Lib.hid hb2; clear hb2 h1 hs
      cases b0 with
      | false =>
        have hre : R = 2 := by rw [He.out]; simp
        have Hre := Lib.hid hre; clear hre
        go_wp2_with fail
        go_ret
        exact ⟨by rw [Hre.out]; rfl, Hb2.out⟩
      | true =>
        go_wp2_with fail
        go_roundw
        case rel => exact ⟨1, by omega, rfl, fun _ => by trivial, by omega, by omega, by omega, Hb2.out, Hrow2.out⟩
        case measure => first | decide | (simp [intOf]; done) | (simp [intOf]; omega)
    · go_wp2_with fail
      refine (C1.out _).mono ?_; rintro e w1 ⟨rfl, h1⟩
      have hs := Hbw.out.size
      have hrow2 : w1.heap[w.heap.size]? = some (.cells #[.int .u64 p, .int .i64 n, .int .i64 mn, .int .i64 mx, .int .i64 b] 38 (0, 0)) := by rw [h1.block _ (row_lt Hrow.out)]; exact Hrow.out
      have hb2 := Hbw.out.trans (h1.mono hs)
      have Hrow2 := Lib.hid hrow2; clear hrow2
      have Hb2 := Lib.hid hb2; clear hb2 h1 hs
      cases b1 with
      | false =>
        have hre : R = 2 := by rw [He.out]; simp
        have Hre := Lib.hid hre; clear hre
        go_wp2_with fail
        go_ret
        exact ⟨by rw [Hre.out]; rfl, Hb2.out⟩
      | true =>
        go_wp2_with fail
        go_roundw
        case rel => exact ⟨2, by omega, rfl, fun _ => K0.out (by omega), fun _ => by trivial, by omega, by omega, Hb2.out, Hrow2.out⟩
        case measure => first | decide | (simp [intOf]; done) | (simp [intOf]; omega)
    · go_wp2_with fail
      refine (C2.out _).mono ?_; rintro e w1 ⟨rfl, h1⟩
      have hs := Hbw.out.size
      have hrow2 : w1.heap[w.heap.size]? = some (.cells #[.int .u64 p, .int .i64 n, .int .i64 mn, .int .i64 mx, .int .i64 b] 38 (0, 0)) := by rw [h1.block _ (row_lt Hrow.out)]; exact Hrow.out
      have hb2 := Hbw.out.trans (h1.mono hs)
      have Hrow2 := Lib.hid hrow2; clear hrow2
      have Hb2 := Lib.hid hb2; clear hb2 h1 hs
      cases b2 with
      | false =>
        have hre : R = 2 := by rw [He.out]; simp
        have Hre := Lib.hid hre; clear hre
        go_wp2_with fail
        go_ret
        exact ⟨by rw [Hre.out]; rfl, Hb2.out⟩
      | true =>
        go_wp2_with fail
        go_roundw
        case rel => exact ⟨3, by omega, rfl, fun _ => K0.out (by omega), fun _ => K1.out (by omega), fun _ => by trivial, by omega, Hb2.out, Hrow2.out⟩
        case measure => first | decide | (simp [intOf]; done) | (simp [intOf]; omega)
    · go_wp2_with fail
      refine (C3.out _).mono ?_; rintro e w1 ⟨rfl, h1⟩
      have hs := Hbw.out.size
      have hrow2 : w1.heap[w.heap.size]? = some (.cells #[.int .u64 p, .int .i64 n, .int .i64 mn, .int .i64 mx, .int .i64 b] 38 (0, 0)) := by rw [h1.block _ (row_lt Hrow.out)]; exact Hrow.out
      have hb2 := Hbw.out.trans (h1.mono hs)
      have Hrow2 := Lib.hid hrow2; clear hrow2
      have Hb2 := Lib.hid hb2; clear hb2 h1 hs
      cases b3 with
      | false =>
        have hre : R = 2 := by rw [He.out]; simp
        have Hre := Lib.hid hre; clear hre
        go_wp2_with fail
        go_ret
        exact ⟨by rw [Hre.out]; rfl, Hb2.out⟩
      | true =>
        go_wp2_with fail
        go_roundw
        case rel => exact ⟨4, by omega, rfl, fun _ => K0.out (by omega), fun _ => K1.out (by omega), fun _ => K2.out (by omega), fun _ => by trivial, Hb2.out, Hrow2.out⟩
        case measure => first | decide | (simp [intOf]; done) | (simp [intOf]; omega)
    · have hre : R = 0 := by rw [He.out, if_pos ⟨K0.out (by omega), K1.out (by omega), K2.out (by omega), K3.out (by omega)⟩]
      have Hre := Lib.hid hre; clear hre
      go_wp2_with fail
      go_ret
      exact ⟨by rw [Hre.out]; rfl, Hbw.out⟩

/-- a cutter's own box -/
def CtrAt (c : Ctr) (b : Nat) (w : World) : Prop := w.heap[b]? = some (.cells #[.int .u64 c.p, .int .i64 c.n, .int .i64 c.mn, .int .i64 c.mx, .int .i64 c.b] 38 (0, 0))
section
variable {c : Ctr} {b : Nat} {w w' : World}
theorem CtrAt.c0 (h : CtrAt c b w) : w.cell? ⟨b, 0, none⟩ = some (.int .u64 c.p) := cell_of_row _ _ 0 _ _ _ h
theorem CtrAt.c1 (h : CtrAt c b w) : w.cell? ⟨b, 1, none⟩ = some (.int .i64 c.n) := cell_of_row _ _ 1 _ _ _ h
theorem CtrAt.c2 (h : CtrAt c b w) : w.cell? ⟨b, 2, none⟩ = some (.int .i64 c.mn) := cell_of_row _ _ 2 _ _ _ h
theorem CtrAt.c3 (h : CtrAt c b w) : w.cell? ⟨b, 3, none⟩ = some (.int .i64 c.mx) := cell_of_row _ _ 3 _ _ _ h
theorem CtrAt.c4 (h : CtrAt c b w) : w.cell? ⟨b, 4, none⟩ = some (.int .i64 c.b) := cell_of_row _ _ 4 _ _ _ h
theorem CtrAt.new (h : CtrAt c b w) (hb : Below w.heap.size w w') : CtrAt c b w' := by unfold CtrAt; rw [hb.block _ (row_lt h)]; exact h
theorem CtrAt.box (c : Ctr) (w : World) : CtrAt c w.heap.size (w.alloc (.cells #[.int .u64 c.p, .int .i64 c.n, .int .i64 c.mn, .int .i64 c.mx, .int .i64 c.b] 38)) := heap_alloc_new _ _
end
/-- how many pieces there are at most -/
def Ctr.most (c : Ctr) (n : Int) : Int := n / c.mn + (if 0 < n % c.mn then 1 else 0)
end Go.Proofs.Ytcmlcpejlmlcfaa

/-
  What chunk's newFinder makes, and the iterator over marks that it hands out.
-/
set_option linter.unusedVariables false
set_option maxRecDepth 100000
namespace Go.Proofs.Ytcmlcpejlmlcfaa
open Go.RowKit

/-- a finder of the roller b, of k low bits -/
def finV (b : Nat) (k : Nat) : Value := .agg #[.pointer (some ⟨b, 0, none⟩), .int .u64 ((2 ^ k - 1 : Nat) : Int)]
def noFin : Value := .agg #[.pointer none, .int .u64 0]

theorem fin_results (tmps : Array Value) (g : Nat) (x y e : Value) (W : World) (h2 : tmps.getD 2 undef = .pointer (some ⟨g, 0, none⟩)) (h3 : tmps.getD 3 undef = e) (hg : W.heap[g]? = some (.cells #[x, y] 86 (0, 0))) :
    (results Try.f53 tmps).run Try.prog W = .ok (.tuple #[.agg #[x, y], e]) W := by
  rw [results_cell_tmp (p := 2) (u := 3) rfl, h2, h3]
  simp [asAddr, run_loadVar_row W g _ 86 #[x, y] _ _ hg Try.underlying86 rfl (by kernel_rfl)]
theorem low_bits (k : Nat) (hk : k ≤ 16) : IntKind.u64.wrap (IntKind.u64.wrap (2 ^ k) - 1) = ((2 ^ k - 1 : Nat) : Int) := by
  have h1 : 2 ^ k ≤ 2 ^ 16 := Nat.pow_le_pow_right (by omega) hk
  have h2 := Nat.two_pow_pos k
  have e : (2 : Int) ^ k = ((2 ^ k : Nat) : Int) := by simp
  rw [e]
  generalize 2 ^ k = q at *
  rw [wrap_u64_in (q : Int) (by omega) (by omega), wrap_u64_in _ (by omega) (by omega)]
  omega

set_option maxHeartbeats 1000000 in
theorem finder_any (c : Ctr) (hp : c.p < 18446744073709551616) (w : World) :
    Calls Try.prog 53 #[c.v] w fun e w' => Below w.heap.size w w' ∧ if c.May then ∃ b, w.heap.size ≤ b ∧ e = .returned (.tuple #[finV b c.b.toNat, .int .i64 0]) ∧ RolG b c.p c.n.toNat [] w' else e = .returned (.tuple #[noFin, .int .i64 2]) := by
  have cc := fun u => ccheck_any c hp u
  by_cases hm : c.May
  · simp only [if_pos hm] at cc ⊢
    have cn := fun u => newG_any c.p c.n hp u hm.1
    have hrow := CtrAt.box c w
    have hb0 := hm.2.2.2.1
    have hb1 := hm.2.2.2.2
    obtain ⟨k, hk⟩ : ∃ k : Nat, c.b = (k : Int) := ⟨c.b.toNat, by omega⟩
    rw [hk, Int.toNat_natCast]
    obtain ⟨G, hG⟩ : ∃ G, G = c.n.toNat := ⟨_, rfl⟩
    rw [← hG] at cn ⊢
    have hk16 : k ≤ 16 := by omega
    unfold Ctr.v CtrAt at *
    rw [hk] at cc hrow ⊢
    clear hb0 hb1 hm hk hG
    have Hrow := Lib.hid hrow; clear hrow
    have Cc := Lib.hid cc; clear cc
    have Cn := Lib.hid cn; clear cn
    go_enter Try.func53, Try.ntmps53
    go_wp2_with fail
    refine (Cc.out _).mono ?_; rintro e w1 ⟨rfl, h1⟩
    have hr1 : w1.heap[w.heap.size]? = some (.cells #[.int .u64 c.p, .int .i64 c.n, .int .i64 c.mn, .int .i64 c.mx, .int .i64 (k : Int)] 38 (0, 0)) := by rw [h1.block _ (by simp; omega)]; exact row_alloc Hrow.out _
    have hr2 : w1.heap[w.heap.size + 1]? = some (.cells #[.pointer none, .int .u64 0] 86 (0, 0)) := by
      rw [h1.block _ (by simp)]
      have := heap_alloc_new (w.alloc (.cells #[.int .u64 c.p, .int .i64 c.n, .int .i64 c.mn, .int .i64 c.mx, .int .i64 (k : Int)] 38)) (.cells #[.pointer none, .int .u64 0] 86)
      rw [World.size_alloc] at this
      exact this
    have d0 : w1.cell? ⟨w.heap.size, 0, none⟩ = some (.int .u64 (c.p : Int)) := cell_of_row _ _ 0 _ _ _ hr1
    have d1 : w1.cell? ⟨w.heap.size, 1, none⟩ = some (.int .i64 c.n) := cell_of_row _ _ 1 _ _ _ hr1
    have Hr1 := Lib.hid hr1; clear hr1
    have Hr2 := Lib.hid hr2; clear hr2
    have H1 := Lib.hid h1; clear h1
    go_wp2_with fail
    refine (Cn.out _).mono ?_; rintro e w2 ⟨b, hb, rfl, hg, h2⟩
    have hr1 : w2.heap[w.heap.size]? = some (.cells #[.int .u64 c.p, .int .i64 c.n, .int .i64 c.mn, .int .i64 c.mx, .int .i64 (k : Int)] 38 (0, 0)) := by rw [h2.block _ (row_lt Hr1.out)]; exact Hr1.out
    have hr2 : w2.heap[w.heap.size + 1]? = some (.cells #[.pointer none, .int .u64 0] 86 (0, 0)) := by rw [h2.block _ (row_lt Hr2.out)]; exact Hr2.out
    have d4 : w2.cell? ⟨w.heap.size, 4, none⟩ = some (.int .i64 (k : Int)) := cell_of_row _ _ 4 _ _ _ hr1
    have e0 : w2.cell? ⟨w.heap.size + 1, 0, none⟩ = some (.pointer none) := cell_of_row _ _ 0 _ _ _ hr2
    have e1 : w2.cell? ⟨w.heap.size + 1, 1, none⟩ = some (.int .u64 0) := cell_of_row _ _ 1 _ _ _ hr2
    have f0 := row_free hr2 0
    have f1 := row_free hr2 1
    have Hr2b := Lib.hid hr2; clear hr2 hr1
    have Hg := Lib.hid hg; clear hg
    have Hb := Lib.hid hb; clear hb
    have H2 := Lib.hid h2; clear h2
    go_wp2_with fail
    rw [low_bits k hk16]
    have hfin := heap_setCell_same _ (w.heap.size + 1) 1 _ _ (.int .u64 ((2 ^ k - 1 : Nat) : Int)) (heap_setCell_same _ (w.heap.size + 1) 0 _ _ (.pointer (some ⟨b, 0, none⟩)) Hr2b.out)
    refine bodyPost_ret (fin_results _ (w.heap.size + 1) _ _ _ _ rfl rfl hfin) rfl ?_
    have hs1 := H1.out.size
    simp only [World.size_alloc] at hs1
    have hbb := Hb.out
    have hbe : Below w.heap.size w w2 := ((((Below.refl _ w).alloc (Nat.le_refl _) _).alloc (by simp) _).trans (H1.out.mono (by simp; omega))).trans (H2.out.mono (by omega))
    have ht : Turns (fun j => j = w.heap.size + 1) w2 ((w2.setCell ⟨w.heap.size + 1, 0, none⟩ (.pointer (some ⟨b, 0, none⟩))).setCell ⟨w.heap.size + 1, 1, none⟩ (.int .u64 ((2 ^ k - 1 : Nat) : Int))) :=
      ((Turns.refl (fun j => j = w.heap.size + 1) w2).set _ 0 _ (fun _ => rfl)).set _ 1 _ (fun _ => rfl)
    refine ⟨(hbe.setCell (show w.heap.size ≤ w.heap.size + 1 by omega) _).setCell (show w.heap.size ≤ w.heap.size + 1 by omega) _, b, by omega, rfl, Hg.out.keeps ht (by omega)⟩
  · simp only [if_neg hm] at cc ⊢
    unfold Ctr.v at *
    have Cc := Lib.hid cc; clear cc
    clear hm
    go_enter Try.func53, Try.ntmps53
    go_wp2_with fail
    refine (Cc.out _).mono ?_; rintro e w1 ⟨rfl, h1⟩
    have hr2 : w1.heap[w.heap.size + 1]? = some (.cells #[.pointer none, .int .u64 0] 86 (0, 0)) := by
      rw [h1.block _ (by simp)]
      have := heap_alloc_new (w.alloc (.cells #[.int .u64 c.p, .int .i64 c.n, .int .i64 c.mn, .int .i64 c.mx, .int .i64 c.b] 38)) (.cells #[.pointer none, .int .u64 0] 86)
      rw [World.size_alloc] at this
      exact this
    have e0 : w1.cell? ⟨w.heap.size + 1, 0, none⟩ = some (.pointer none) := cell_of_row _ _ 0 _ _ _ hr2
    have e1 : w1.cell? ⟨w.heap.size + 1, 1, none⟩ = some (.int .u64 0) := cell_of_row _ _ 1 _ _ _ hr2
    have f0 := row_free hr2 0
    have f1 := row_free hr2 1
    have Hr2 := Lib.hid hr2; clear hr2
    have H1 := Lib.hid h1; clear h1
    go_wp2_with fail
    have hfin := heap_setCell_same _ (w.heap.size + 1) 1 _ _ (.int .u64 0) (heap_setCell_same _ (w.heap.size + 1) 0 _ _ (.pointer none) Hr2.out)
    refine bodyPost_ret (fin_results _ (w.heap.size + 1) _ _ _ _ rfl rfl hfin) rfl ?_
    have hbe : Below w.heap.size w w1 := (((Below.refl _ w).alloc (Nat.le_refl _) _).alloc (by simp) _).trans (H1.out.mono (by simp; omega))
    exact ⟨(hbe.setCell (show w.heap.size ≤ w.heap.size + 1 by omega) _).setCell (show w.heap.size ≤ w.heap.size + 1 by omega) _, rfl⟩

/-- the four boxes of an iterator over marks: the finder, the text, from, to -/
structure MkBox (b k : Nat) (s : ByteArray) (f t : Int) (B : Nat) (w : World) : Prop where
  fi : w.heap[B]? = some (.cells #[.pointer (some ⟨b, 0, none⟩), .int .u64 ((2 ^ k - 1 : Nat) : Int)] 86 (0, 0))
  st : w.heap[B + 1]? = some (.cells #[.string s] 9 (0, 0))
  lo : w.heap[B + 2]? = some (.cells #[.int .i64 f] 3 (0, 0))
  hi : w.heap[B + 3]? = some (.cells #[.int .i64 t] 3 (0, 0))
theorem MkBox.new {b k B : Nat} {s : ByteArray} {f t : Int} {w w' : World} (h : MkBox b k s f t B w) (hb : Below w.heap.size w w') : MkBox b k s f t B w' :=
  ⟨by rw [hb.block _ (row_lt h.fi)]; exact h.fi, by rw [hb.block _ (row_lt h.st)]; exact h.st, by rw [hb.block _ (row_lt h.lo)]; exact h.lo, by rw [hb.block _ (row_lt h.hi)]; exact h.hi⟩
theorem MkBox.keeps {b k B : Nat} {s : ByteArray} {f t : Int} {w w' : World} {T : Nat → Prop} (h : MkBox b k s f t B w) (ht : Turns T w w') (hT : ∀ j, B ≤ j → j ≤ B + 3 → ¬ T j) : MkBox b k s f t B w' :=
  ⟨ht.same h.fi (hT _ (by omega) (by omega)), ht.same h.st (hT _ (by omega) (by omega)), ht.same h.lo (hT _ (by omega) (by omega)), ht.same h.hi (hT _ (by omega) (by omega))⟩
theorem MkBox.stays {b k B : Nat} {s : ByteArray} {f t : Int} {D : Nat} : Stays D (MkBox b k s f t B) := fun W l o o' hl ho hc hj =>
  ⟨Stays.row W l o o' hl ho hc hj.fi, Stays.row W l o o' hl ho hc hj.st, Stays.row W l o o' hl ho hc hj.lo, Stays.row W l o o' hl ho hc hj.hi⟩
/-- the iterator's value -/
def mkF (B : Nat) : Value := .func (.func 60) #[] #[.pointer (some ⟨B + 2, 0, none⟩), .pointer (some ⟨B + 3, 0, none⟩), .pointer (some ⟨B, 0, none⟩), .pointer (some ⟨B + 1, 0, none⟩)]
theorem cmarks_any (b k : Nat) (s : ByteArray) (f t : Int) (w : World) :
    Calls Try.prog 55 #[finV b k, .string s, .int .i64 f, .int .i64 t] w fun e w' => e = .returned (mkF w.heap.size) ∧ MkBox b k s f t w.heap.size w' ∧ Below w.heap.size w w' := by
  unfold finV mkF
  obtain ⟨q, hq⟩ : ∃ q, q = 2 ^ k - 1 := ⟨_, rfl⟩
  have hbox : ∀ w4 : World, w4 = (((w.alloc (.cells #[.pointer (some ⟨b, 0, none⟩), .int .u64 ((2 ^ k - 1 : Nat) : Int)] 86)).alloc (.cells #[.string s] 9)).alloc (.cells #[.int .i64 f] 3)).alloc (.cells #[.int .i64 t] 3) → MkBox b k s f t w.heap.size w4 ∧ Below w.heap.size w w4 := by
    rintro w4 rfl
    refine ⟨⟨row_alloc (row_alloc (row_alloc (heap_alloc_new _ _) _) _) _, row_alloc (row_alloc ?_ _) _, row_alloc ?_ _, ?_⟩, ((((Below.refl _ w).alloc (Nat.le_refl _) _).alloc (by simp) _).alloc (by simp; omega) _).alloc (by simp; omega) _⟩
    · have := heap_alloc_new (w.alloc (.cells #[.pointer (some ⟨b, 0, none⟩), .int .u64 ((2 ^ k - 1 : Nat) : Int)] 86)) (.cells #[.string s] 9)
      rwa [World.size_alloc] at this
    · have := heap_alloc_new ((w.alloc (.cells #[.pointer (some ⟨b, 0, none⟩), .int .u64 ((2 ^ k - 1 : Nat) : Int)] 86)).alloc (.cells #[.string s] 9)) (.cells #[.int .i64 f] 3)
      simp only [World.size_alloc] at this; exact this
    · have := heap_alloc_new (((w.alloc (.cells #[.pointer (some ⟨b, 0, none⟩), .int .u64 ((2 ^ k - 1 : Nat) : Int)] 86)).alloc (.cells #[.string s] 9)).alloc (.cells #[.int .i64 f] 3)) (.cells #[.int .i64 t] 3)
      simp only [World.size_alloc] at this; exact this
  rw [← hq] at hbox ⊢
  clear hq
  have Hbox := Lib.hid hbox; clear hbox
  go_enter Try.func55, Try.ntmps55
  go_wp2_with fail
  go_ret
  exact ⟨rfl, Hbox.out _ rfl⟩
end Go.Proofs.Ytcmlcpejlmlcfaa

/-
  The iterator over the marks of a text, from one place to another one: whatever its caller does with each, and whether it goes on or not.
-/
set_option linter.unusedVariables false
set_option maxRecDepth 100000
namespace Go.Proofs.Ytcmlcpejlmlcfaa
open Go.RowKit
attribute [local go_sem] Oper.semAt_some

section
variable {b k B : Nat} {s : ByteArray} {f t : Int} {w w' : World}
theorem MkBox.d0 (h : MkBox b k s f t B w) : w.cell? ⟨B, 0, none⟩ = some (.pointer (some ⟨b, 0, none⟩)) := cell_of_row _ _ 0 _ _ _ h.fi
theorem MkBox.d01 (h : MkBox b k s f t B w) : w.cell? ⟨B, 1, none⟩ = some (.int .u64 ((2 ^ k - 1 : Nat) : Int)) := cell_of_row _ _ 1 _ _ _ h.fi
theorem MkBox.d1 (h : MkBox b k s f t B w) : w.cell? ⟨B + 1, 0, none⟩ = some (.string s) := cell_of_row _ _ 0 _ _ _ h.st
theorem MkBox.d2 (h : MkBox b k s f t B w) : w.cell? ⟨B + 2, 0, none⟩ = some (.int .i64 f) := cell_of_row _ _ 0 _ _ _ h.lo
theorem MkBox.d3 (h : MkBox b k s f t B w) : w.cell? ⟨B + 3, 0, none⟩ = some (.int .i64 t) := cell_of_row _ _ 0 _ _ _ h.hi
theorem Turns.drewD {T : Nat → Prop} (h : Turns T w.drew w') : Turns T w w' := ⟨h.os, h.tape, h.output, h.size, h.block⟩
theorem RolG.others {p n : Nat} {G : List UInt8} (h : RolG b p n G w) (ht : Turns (fun j => j = b) w w') : KeepsOthers w w' := by
  obtain ⟨r, hr, _⟩ := h
  refine ⟨ht.size, fun j o hj ho => ?_⟩
  refine (ht.block j (row_lt hj) (fun e => ?_)).trans hj
  subst e
  rw [show w.heap[j]? = _ from hr] at hj
  cases hj
  simp [Obj.isCells] at ho
end
theorem run_sub_hi {P : Program} {o : Oper} {a : Act} {u : World} (t : TypeId) (x h : Operand) (ho : o.op = .slice t x none (some h) none) (xv hv v : Value) (hx : a.eval x = xv) (hh : a.eval h = hv) (hr : (Instr.sliceAt t xv none (some hv) none).run P u = .ok v u) : (execOp a.eval o).run P u = .ok (.value v) u := by
  unfold execOp
  simp only [ho, Option.map_some, Option.map_none, hx, hh, Sem.run_bind, hr, Result.andThen_ok, Sem.run_pure]
theorem run_sub_both {P : Program} {o : Oper} {a : Act} {u : World} (t : TypeId) (x l h : Operand) (ho : o.op = .slice t x (some l) (some h) none) (xv lv hv v : Value) (hx : a.eval x = xv) (hl : a.eval l = lv) (hh : a.eval h = hv) (hr : (Instr.sliceAt t xv (some lv) (some hv) none).run P u = .ok v u) : (execOp a.eval o).run P u = .ok (.value v) u := by
  unfold execOp
  simp only [ho, Option.map_some, Option.map_none, hx, hl, hh, Sem.run_bind, hr, Result.andThen_ok, Sem.run_pure]
theorem text_part (s : ByteArray) (i j : Nat) (h1 : i ≤ j) (h2 : j ≤ s.size) (u : World) : (Instr.sliceAt 9 (.string s) (some (.int .i64 (i : Int))) (some (.int .i64 (j : Int))) none).run Try.prog u = .ok (.string (s.extract i j)) u := by
  have g1 : ¬ (i : Int) < 0 := by omega
  have g2 : ¬ (s.size : Int) < (j : Int) := by omega
  have g3 : ¬ (j : Int) < (i : Int) := by omega
  simp [Instr.sliceAt, Instr.slice, Instr.sliceBounds, Instr.sliceBound, asIntOf, run_underlying Try.underlying9, h1, h2]
  trace_state
theorem text_head (s : ByteArray) (j : Nat) (h2 : j ≤ s.size) (u : World) : (Instr.sliceAt 9 (.string s) none (some (.int .i64 (j : Int))) none).run Try.prog u = .ok (.string (s.extract 0 j)) u := by
  simp [Instr.sliceAt, Instr.slice, Instr.sliceBounds, Instr.sliceBound, asIntOf, run_underlying Try.underlying9]
  omega
theorem slice_begin (s : ByteArray) (m : Nat) (h1 : 1 ≤ m) (h2 : m - 1 ≤ s.size) (u : World) : (Instr.sliceAt 9 (.string s) none (some (.int .i64 ((m : Int) - 1))) none).run Try.prog u = .ok (.string (s.extract 0 (m - 1))) u := by
  rw [show (m : Int) - 1 = ((m - 1 : Nat) : Int) by omega]
  exact text_head s _ h2 u
theorem slice_byte (s : ByteArray) (m : Nat) (h1 : 1 ≤ m) (h2 : m ≤ s.size) (u : World) : (Instr.sliceAt 9 (.string s) (some (.int .i64 ((m : Int) - 1))) (some (.int .i64 (m : Int))) none).run Try.prog u = .ok (.string (s.extract (m - 1) m)) u := by
  rw [show (m : Int) - 1 = ((m - 1 : Nat) : Int) by omega]
  exact text_part s _ _ (by omega) h2 u
theorem text_take (s : ByteArray) (i : Nat) : (s.extract 0 i).data.toList = s.data.toList.take i := by
  rw [Lib.extract_eq]
  simp
theorem text_step (s : ByteArray) (i : Nat) (h1 : 1 ≤ i) (h2 : i ≤ s.size) : s.data.toList.take (i - 1) ++ (s.extract (i - 1) i).data.toList = s.data.toList.take i := by
  rw [Lib.extract_eq]
  simp only []
  have h := List.take_append_drop (i - 1) (s.data.toList.take i)
  rw [List.take_take, Nat.min_eq_left (by omega)] at h
  rw [← List.drop_take]
  exact h
theorem Chu.mark_is (p n k : Nat) (l : List UInt8) (i : Nat) : Chu.mark p n k l i = (Pol.fp p (Pol.last n (l.take i)) &&& (2 ^ k - 1) == 2 ^ k - 1) := rfl
/-- an own roller, whatever it was given, and the four boxes -/
def MkAny (b p n k : Nat) (s : ByteArray) (f t : Int) (B : Nat) (w : World) : Prop := (∃ G, RolG b p n G w) ∧ MkBox b k s f t B w
/-- .. that was given the first i bytes -/
def MkOwn (b p n k : Nat) (s : ByteArray) (f t : Int) (B i : Nat) (w : World) : Prop := RolG b p n (s.data.toList.take i) w ∧ MkBox b k s f t B w

set_option maxHeartbeats 1000000 in
theorem mkIter_any {b p n k B f t : Nat} {s : ByteArray} (hf : 1 ≤ f) (ht : t ≤ s.size) (hk : k ≤ 16) (hp : Pol.fine p) (hsz : s.size ≤ 140737488351232) (hB : b < B) {C CS : Nat → World → Prop} {W1 : World}
    (hC : ∀ i W W', C i W → Turns (fun j => j = b) W W' → C i W') (hskip : ∀ i W, f ≤ i → i ≤ t → Chu.mark p n k s.data.toList i = false → C i W → C (i + 1) W)
    (hown : MkAny b p n k s f t B W1) (h0 : C f W1)
    (ly : Nat) (Book BookS : World → Prop) (hBook : ∀ A A', KeepsOthers A A' → Book A → Book A') (hb1 : Book W1)
    (hY : ∀ i W, f ≤ i → i ≤ t → Chu.mark p n k s.data.toList i = true → Book W → MkOwn b p n k s f t B i W → C i W → YieldAt Fence.wide 3 Try.prog ly #[.int .i64 (i : Int)] W fun e W' => (e = .returned (.bool true) ∧ Book W' ∧ MkOwn b p n k s f t B i W' ∧ C (i + 1) W') ∨ (e = .returned (.bool false) ∧ BookS W' ∧ CS i W')) :
    CallsIn Fence.wide 4 Try.prog 60 (#[.func (.yield ly) #[] #[]] ++ #[.pointer (some ⟨B + 2, 0, none⟩), .pointer (some ⟨B + 3, 0, none⟩), .pointer (some ⟨B, 0, none⟩), .pointer (some ⟨B + 1, 0, none⟩)]) W1
      fun e W' => (∃ v, e = .returned v) ∧ ((Book W' ∧ MkAny b p n k s f t B W' ∧ C (max f (t + 1)) W') ∨ (∃ i, f ≤ i ∧ i ≤ t ∧ BookS W' ∧ CS i W')) := by
  obtain ⟨⟨G, hg⟩, hbx⟩ := hown
  refine callsIn_of_wp Try.func60 rfl trivial ?_ rfl
  simp only [Try.ntmps60, List.size_toArray, List.length_cons, List.length_nil, Nat.reduceAdd, Nat.reduceSub, Array.replicate_succ, Array.replicate_zero, List.push_toArray, List.append_toArray, List.nil_append, List.cons_append]
  have HY := Lib.hid hY; clear hY
  have HBk := Lib.hid hBook; clear hBook
  have HC := Lib.hid hC; clear hC
  have HS := Lib.hid hskip; clear hskip
  have HB := Lib.hid hB; clear hB
  have d0 := hbx.d0
  have d01 := hbx.d01
  have d1 := hbx.d1
  have d2 := hbx.d2
  have d3 := hbx.d3
  by_cases hft : t < f
  · have g : decide (t < f) = true := decide_eq_true hft
    have hmx : max f (t + 1) = f := by omega
    rw [hmx]
    have Hb1 := Lib.hid hb1; clear hb1
    have Hg := Lib.hid hg; clear hg
    have Hbx := Lib.hid hbx; clear hbx
    have H0 := Lib.hid h0; clear h0
    clear hf ht hk hp hsz hft hmx
    gi_wp2_with fail
    refine bodyPost_ret (v := .tuple #[]) (results_none rfl _ _ _) rfl ?_
    exact ⟨⟨_, rfl⟩, .inl ⟨Hb1.out, ⟨⟨G, Hg.out⟩, Hbx.out⟩, H0.out⟩⟩
  · have g : decide (t < f) = false := decide_eq_false hft
    have hmx : max f (t + 1) = t + 1 := by omega
    rw [hmx]
    have Hb1 := Lib.hid hb1; clear hb1
    have Hbx := Lib.hid hbx; clear hbx
    have H0 := Lib.hid h0; clear h0
    have cr := callsIn_wide (n := 3).2 (resetG_any hg)
    have Hg := Lib.hid hg; clear hg
    have Cr := Lib.hid cr; clear cr
    have hsl0 := slice_begin s f hf (by omega)
    have Hsl0 := Lib.hid hsl0; clear hsl0
    have Hp := Lib.hid hp; clear hp hmx
    gi_wp2_with fail
    refine ⟨trivial, Cr.out.mono ?_⟩; rintro e W2 ⟨rfl, hg2, t2⟩
    have hbx2 := Hbx.out.keeps t2 (fun j h1 h2 => by have := HB.out; omega)
    have hc2 := HC.out _ _ _ H0.out t2
    have hk2 := HBk.out _ _ (Hg.out.others t2) Hb1.out
    clear d0 d01 d1 d2 d3
    have d0 := hbx2.d0
    have d1 := hbx2.d1
    have d2 := hbx2.d2
    have Hg2 := Lib.hid hg2; clear hg2
    have Hbx2 := Lib.hid hbx2; clear hbx2
    have Hc2 := Lib.hid hc2; clear hc2
    have Hk2 := Lib.hid hk2; clear hk2 t2 Hg Hbx H0 Hb1 Cr
    have hw0 : IntKind.i64.wrap ((f : Int) - 1) = (f : Int) - 1 := by simp only [IntKind.wrap_i64]; omega
    have hz0 : (s.extract 0 (f - 1)).size ≤ 140737488351232 := by rw [ByteArray.size_extract]; omega
    have Hw0 := Lib.hid hw0; clear hw0
    gi_wp2_with fail
    refine wpIn_wide.2 ?_
    refine wp_region_phases [([0, 1, 2, 3, 4, 5], [6])] (by kernel_rfl) (by kernel_rfl) (fun z => z.cell? ⟨B, 0, none⟩ = some (.pointer (some ⟨b, 0, none⟩)) ∧ z.cell? ⟨B + 1, 0, none⟩ = some (.string s) ∧ z.cell? ⟨B + 2, 0, none⟩ = some (.int .i64 (f : Int))) ⟨d0, d1, d2⟩ ?_
    simp only [wpPhases, pick, List.filterMap_cons, List.filterMap_nil, List.getElem?_toArray, List.getElem?_cons_zero, List.getElem?_cons_succ]
    refine take_one (.pointer (some ⟨B, 0, none⟩)) rfl (fun u _ => by go_simp) ?_
    simp only [Act.put, List.setIfInBounds_toArray, List.set_cons_zero, List.set_cons_succ]
    refine take_load 84 (.tmp 15) ⟨B, 0, none⟩ (.pointer (some ⟨b, 0, none⟩)) rfl rfl rfl (fun u hu => load_at Try.underlying84 Try.isAgg84 hu.1) ?_
    simp only [Act.put, List.setIfInBounds_toArray, List.set_cons_zero, List.set_cons_succ]
    refine take_load 9 (.tmp 4) ⟨B + 1, 0, none⟩ (.string s) rfl rfl rfl (fun u hu => load_at Try.underlying9 Try.isAgg9 hu.2.1) ?_
    simp only [Act.put, List.setIfInBounds_toArray, List.set_cons_zero, List.set_cons_succ]
    refine take_load 3 (.tmp 1) ⟨B + 2, 0, none⟩ (.int .i64 (f : Int)) rfl rfl rfl (fun u hu => load_at Try.underlying3 Try.isAgg3 hu.2.2) ?_
    simp only [Act.put, List.setIfInBounds_toArray, List.set_cons_zero, List.set_cons_succ]
    refine take_one (.int .i64 ((f : Int) - 1)) rfl (fun u hu => by go_simp; exact Hw0.out) ?_
    simp only [Act.put, List.setIfInBounds_toArray, List.set_cons_zero, List.set_cons_succ]
    refine take_one (.string (s.extract 0 (f - 1))) rfl (fun u hu => run_sub_hi 9 (.tmp 17) (.tmp 19) rfl _ _ _ rfl rfl (Hsl0.out u)) ?_
    simp only [Act.put, List.setIfInBounds_toArray, List.set_cons_zero, List.set_cons_succ]
    refine take_done ?_
    refine midk_wp rfl (call_wp 62 [.tmp 16, .tmp 20] #[84, 9] #[.pointer (some ⟨b, 0, none⟩), .string (s.extract 0 (f - 1))] rfl rfl rfl ?_)
    refine (rollG_any (w := W2.drew) (s := s.extract 0 (f - 1)) Hg2.out hz0).mono ?_
    rintro e w3 ⟨he, hg3, t3⟩
    obtain ⟨y0, hy0⟩ : ∃ y0, Pol.fp p (Pol.last n ([] ++ (s.extract 0 (f - 1)).data.toList)) = y0 := ⟨_, rfl⟩
    rw [hy0] at he
    subst he
    clear hy0
    have hbx3 := Hbx2.out.keeps t3.drewD (fun j h1 h2 => by have := HB.out; omega)
    refine ⟨_, rfl, ⟨hbx3.d0, hbx3.d1, hbx3.d2⟩, ?_⟩
    simp only [Act.put, List.setIfInBounds_toArray, List.set_cons_zero, List.set_cons_succ]
    refine midk_end ?_
    have hc3 := HC.out _ _ _ Hc2.out t3.drewD
    have hk3 := HBk.out _ _ ((KeepsOthers.drew W2).trans (RolG.others (w := W2.drew) Hg2.out t3)) Hk2.out
    rw [List.nil_append, text_take] at hg3
    have Hg3 := Lib.hid hg3; clear hg3
    have Hbx3 := Lib.hid hbx3; clear hbx3
    have Hc3 := Lib.hid hc3; clear hc3
    have Hk3 := Lib.hid hk3; clear hk3 t3 Hk2 Hc2 Hbx2 Hg2 Hsl0 Hw0 hz0
    have e2 := Hbx3.out.d2
    clear d0 d1 d2
    gi_wp2_with fail
    gi_loopw [6] (fun c wr => ∃ i : Nat, f ≤ i ∧ i ≤ t + 1 ∧ c = .int .i64 (i : Int) ∧ Book wr ∧ RolG b p n (s.data.toList.take (i - 1)) wr ∧ MkBox b k s f t B wr ∧ C i wr) (fun c _ => t + 1 - (intOf c).toNat)
    case atStart => exact ⟨f, Nat.le_refl _, by omega, rfl, Hk3.out, Hg3.out, Hbx3.out, Hc3.out⟩
    case round =>
      clear Hg3 Hbx3 Hc3 Hk3 e2
      obtain ⟨i, hi1, hi2, rfl, hbk, hgr, hbxr, hcr⟩ := hrel
      have d0 := hbxr.d0
      have d1 := hbxr.d1
      have d3 := hbxr.d3
      have Hgr := Lib.hid hgr; clear hgr
      have Hbxr := Lib.hid hbxr; clear hbxr
      have Hcr := Lib.hid hcr; clear hcr
      have Hbk := Lib.hid hbk; clear hbk
      by_cases hit : i = t + 1
      · subst hit
        have g2 : decide (t + 1 ≤ t) = false := decide_eq_false (by omega)
        have g3 : decide (((t + 1 : Nat) : Int) ≤ (t : Int)) = false := decide_eq_false (by omega)
        gi_wp2_with fail
        refine bodyPost_end (v := .tuple #[]) (results_none rfl _ _ _) rfl ?_
        exact ⟨⟨_, rfl⟩, .inl ⟨Hbk.out, ⟨⟨_, Hgr.out⟩, Hbxr.out⟩, Hcr.out⟩⟩
      · have hle : i ≤ t := by omega
        have g2 : decide (i ≤ t) = true := decide_eq_true hle
        have hsl1 := slice_byte s i (by omega) (by omega)
        have Hsl1 := Lib.hid hsl1; clear hsl1
        have hw1 : IntKind.i64.wrap ((i : Int) - 1) = (i : Int) - 1 := by simp only [IntKind.wrap_i64]; omega
        have Hw1 := Lib.hid hw1; clear hw1
        have hz1 : (s.extract (i - 1) i).size ≤ 140737488351232 := by rw [ByteArray.size_extract]; omega
        have hG := text_step s i (by omega) (by omega)
        have HG := Lib.hid hG; clear hG
        have hym := Chu.mark_is p n k s.data.toList i
        have hy64 := fp_room Hp.out (Pol.fp_len (Pol.fine_ne Hp.out) (Pol.last n (s.data.toList.take i)))
        obtain ⟨y, hy1⟩ : ∃ y, Pol.fp p (Pol.last n (s.data.toList.take i)) = y := ⟨_, rfl⟩
        rw [hy1] at hym hy64
        have HY1 := Lib.hid hy1; clear hy1
        have Hym := Lib.hid hym; clear hym
        gi_wp2_with fail
        refine wpIn_wide.2 ?_
        refine wp_region_phases [([0, 1, 2, 3, 4, 5, 6], [7, 8]), ([9, 10], [11, 12])] (by kernel_rfl) (by kernel_rfl) (fun z => z.cell? ⟨B, 0, none⟩ = some (.pointer (some ⟨b, 0, none⟩)) ∧ z.cell? ⟨B + 1, 0, none⟩ = some (.string s)) ⟨d0, d1⟩ ?_
        simp only [wpPhases, pick, List.filterMap_cons, List.filterMap_nil, List.getElem?_toArray, List.getElem?_cons_zero, List.getElem?_cons_succ]
        refine take_one (.pointer (some ⟨B, 0, none⟩)) rfl (fun u _ => by go_simp) ?_
        simp only [Act.put, List.setIfInBounds_toArray, List.set_cons_zero, List.set_cons_succ]
        refine take_load 84 (.tmp 29) ⟨B, 0, none⟩ (.pointer (some ⟨b, 0, none⟩)) rfl rfl rfl (fun u hu => load_at Try.underlying84 Try.isAgg84 hu.1) ?_
        simp only [Act.put, List.setIfInBounds_toArray, List.set_cons_zero, List.set_cons_succ]
        refine take_load 9 (.tmp 4) ⟨B + 1, 0, none⟩ (.string s) rfl rfl rfl (fun u hu => load_at Try.underlying9 Try.isAgg9 hu.2) ?_
        simp only [Act.put, List.setIfInBounds_toArray, List.set_cons_zero, List.set_cons_succ]
        refine take_move (.tmp 6) (.int .i64 (i : Int)) rfl rfl rfl ?_
        simp only [Act.put, List.setIfInBounds_toArray, List.set_cons_zero, List.set_cons_succ]
        refine take_one (.int .i64 ((i : Int) - 1)) rfl (fun u hu => by go_simp; exact Hw1.out) ?_
        simp only [Act.put, List.setIfInBounds_toArray, List.set_cons_zero, List.set_cons_succ]
        refine take_move (.tmp 6) (.int .i64 (i : Int)) rfl rfl rfl ?_
        simp only [Act.put, List.setIfInBounds_toArray, List.set_cons_zero, List.set_cons_succ]
        refine take_one (.string (s.extract (i - 1) i)) rfl (fun u hu => run_sub_both 9 (.tmp 31) (.tmp 33) (.tmp 34) rfl _ _ _ _ rfl rfl rfl (Hsl1.out u)) ?_
        simp only [Act.put, List.setIfInBounds_toArray, List.set_cons_zero, List.set_cons_succ]
        refine take_done ?_
        refine midk_wp rfl (call_wp 62 [.tmp 30, .tmp 35] #[84, 9] #[.pointer (some ⟨b, 0, none⟩), .string (s.extract (i - 1) i)] rfl rfl rfl ?_)
        refine (rollG_any (w := wr.drew) (s := s.extract (i - 1) i) Hgr.out hz1).mono ?_
        rintro e w3 ⟨he, hg3, t3⟩
        rw [HG.out] at hg3 he
        rw [HY1.out] at he
        subst he
        have hbx3 := Hbxr.out.keeps t3.drewD (fun j h1 h2 => by have := HB.out; omega)
        refine ⟨_, rfl, ⟨hbx3.d0, hbx3.d1⟩, ?_⟩
        simp only [Act.put, List.setIfInBounds_toArray, List.set_cons_zero, List.set_cons_succ]
        refine midk_one (.tuple #[.int .u64 (y : Int), .int .i64 0]) rfl rfl ⟨hbx3.d0, hbx3.d1⟩ ?_
        simp only [Act.put, List.setIfInBounds_toArray, List.set_cons_zero, List.set_cons_succ]
        refine take_one (.int .u64 (y : Int)) rfl (fun u hu => by go_simp) ?_
        simp only [Act.put, List.setIfInBounds_toArray, List.set_cons_zero, List.set_cons_succ]
        refine take_one (.int .i64 0) rfl (fun u hu => by go_simp) ?_
        simp only [Act.put, List.setIfInBounds_toArray, List.set_cons_zero, List.set_cons_succ]
        refine take_done ?_
        refine midk_one (.int .u64 (y : Int)) rfl (by go_simp) ⟨hbx3.d0, hbx3.d1⟩ ?_
        simp only [Act.put, List.setIfInBounds_toArray, List.set_cons_zero, List.set_cons_succ]
        refine midk_one (.int .i64 0) rfl (by go_simp) ⟨hbx3.d0, hbx3.d1⟩ ?_
        simp only [Act.put, List.setIfInBounds_toArray, List.set_cons_zero, List.set_cons_succ]
        refine midk_end ?_
        have hc3 := HC.out _ _ _ Hcr.out t3.drewD
        have hk3 := HBk.out _ _ ((KeepsOthers.drew wr).trans (RolG.others (w := wr.drew) Hgr.out t3)) Hbk.out
        have e0 := hbx3.d0
        have e01 := hbx3.d01
        have hq64 : 2 ^ k ≤ 2 ^ 16 := Nat.pow_le_pow_right (by omega) hk
        obtain ⟨q, hq⟩ : ∃ q, q = 2 ^ k - 1 := ⟨_, rfl⟩
        have hand := u64_and_nat y q (by omega) (by omega)
        have hym := Hym.out
        rw [← hq] at e01 hym
        have Hg3 := Lib.hid hg3; clear hg3
        have Hbx3 := Lib.hid hbx3; clear hbx3
        have Hc3 := Lib.hid hc3; clear hc3
        have Hk3 := Lib.hid hk3; clear hk3
        clear d0 d1 d3 t3 Hym hy64 hq64 hq g2
        by_cases hm : Chu.mark p n k s.data.toList i = true
        · rw [hm] at hym
          have hyq : y &&& q = q := by simpa using hym.symm
          rw [hyq] at hand
          have hyl := HY.out i w3 hi1 hle hm Hk3.out ⟨Hg3.out, Hbx3.out⟩ Hc3.out
          obtain ⟨fn, tmps, assign, body, hy, hR⟩ := hyl
          have HR := Lib.hid hR; clear hR
          clear hm hym hyq
          gi_wp2_with fail
          refine HR.out.mono ?_
          rintro e W7 (⟨rfl, hbk7, hown7, hc7⟩ | ⟨rfl, hbk7, hc7⟩)
          · have Hbk7 := Lib.hid hbk7; clear hbk7
            have Hown7 := Lib.hid hown7; clear hown7
            have Hc7 := Lib.hid hc7; clear hc7
            clear hy hand e0 e01
            gi_wp2_with fail
            go_roundw
            case rel => exact ⟨i + 1, by omega, by omega, by go_num, Hbk7.out, Hown7.out.1, Hown7.out.2, Hc7.out⟩
            case measure => simp [intOf]; omega
          · have Hbk7 := Lib.hid hbk7; clear hbk7
            have Hc7 := Lib.hid hc7; clear hc7
            clear hy hand e0 e01
            gi_wp2_with fail
            refine bodyPost_ret (v := .tuple #[]) (results_none rfl _ _ _) rfl ?_
            exact ⟨⟨_, rfl⟩, .inr ⟨i, hi1, hle, Hbk7.out, Hc7.out⟩⟩
        · have hm' : Chu.mark p n k s.data.toList i = false := by simpa using hm
          have hc4 := HS.out i w3 hi1 hle hm' Hc3.out
          have Hc4 := Lib.hid hc4; clear hc4
          rw [hm'] at hym
          have hyq : ¬ (y &&& q) = q := by simpa using hym.symm
          generalize (y &&& q) = r at *
          have g3 : ((r : Int) == (q : Int)) = false := by simp; omega
          have g4 : decide (r = q) = false := decide_eq_false hyq
          clear hm hm' hym
          gi_wp2_with fail
          refine ⟨fun f hf => (by cases hf), ?_⟩
          gi_wp2_with fail
          go_roundw
          case rel => exact ⟨i + 1, by omega, by omega, by go_num, Hk3.out, Hg3.out, Hbx3.out, Hc4.out⟩
          case measure => simp [intOf]; omega
end Go.Proofs.Ytcmlcpejlmlcfaa

/-
  All marks of a text, collected: slices.AppendSeq, slices.Collect, chunk.Marks.
-/
set_option linter.unusedVariables false
set_option maxRecDepth 100000
namespace Go.Proofs.Ytcmlcpejlmlcfaa
open Go.RowKit
attribute [local go_sem] Oper.semAt_some

theorem int_info : (Try.prog.info? 3).map (fun i => (i.zero, i.size, i.bytes)) = some (some (.int .i64 0), 1, 8) := by kernel_rfl
def ints (l : List Nat) : List Value := l.map fun (n : Nat) => .int .i64 (n : Int)
@[simp] theorem ints_length (l : List Nat) : (ints l).length = l.length := by simp [ints]
/-- a slice of the call's own that holds these numbers -/
def IOwn (B : Nat) (v : Value) (l : List Nat) (w : World) : Prop := w.ownsRow B 3 1 v l.length (ints l)
theorem IOwn.same {B : Nat} {v : Value} {l : List Nat} {w w' : World} (h : IOwn B v l w) (hk : ∀ g, B ≤ g → g < w.heap.size → (∃ cs : Array Value, w.heap[g]? = some (.cells cs 3 (0, 0))) → w'.heap[g]? = w.heap[g]?) : IOwn B v l w' :=
  ownsRow_same h fun g hg => by
    have := World.ownsRow.lt h g hg
    exact hk g this.1 this.2 (ownsRow_block h hg)
theorem IOwn.new {B : Nat} {v : Value} {l : List Nat} {w w' : World} (h : IOwn B v l w) (hb : Below w.heap.size w w') : IOwn B v l w' := ownsRow_new h hb
theorem IOwn.keeps {B : Nat} {v : Value} {l : List Nat} {w w' : World} {T : Nat → Prop} (h : IOwn B v l w) (ht : Turns T w w') (hT : ∀ g, B ≤ g → g < w.heap.size → (∃ cs : Array Value, w.heap[g]? = some (.cells cs 3 (0, 0))) → ¬ T g) : IOwn B v l w' :=
  h.same fun g h1 h2 h3 => ht.block g h2 (hT g h1 h2 h3)
theorem IOwn.form {B : Nat} {v : Value} {l : List Nat} {w : World} (h : IOwn B v l w) : ∃ a cap, v = .slice a l.length cap := by
  rcases h.2 with ⟨rfl, h0⟩ | ⟨g, cap, _, hv, _⟩
  · exact ⟨none, 0, by rw [h0]⟩
  · exact ⟨_, cap, hv⟩
theorem IOwn.stays {B C : Nat} {v : Value} {l : List Nat} : Stays C (IOwn B v l) := fun W j o o' hl ho hc h =>
  IOwn.same h fun g _ _ ⟨cs, hcs⟩ => World.putObj_heap_other (fun e => by subst e; rw [hcs] at ho; cases ho; simp [Obj.isCells] at hc)

/-- the marks from f on, ahead of i -/
def Chu.mks (mk : Nat → Bool) (f i : Nat) : List Nat := (List.range' f (i - f)).filter mk
theorem Chu.mks_zero (mk : Nat → Bool) (f : Nat) : Chu.mks mk f f = [] := by simp [Chu.mks]
theorem Chu.mks_step (mk : Nat → Bool) (f i : Nat) (h : f ≤ i) : Chu.mks mk f (i + 1) = if mk i = true then Chu.mks mk f i ++ [i] else Chu.mks mk f i := by
  unfold Chu.mks
  rw [show i + 1 - f = (i - f) + 1 by omega, List.range'_concat, List.filter_append]
  rw [show f + 1 * (i - f) = i by omega]
  by_cases hm : mk i = true
  · simp [hm]
  · have : mk i = false := by simpa using hm
    simp [this]
theorem Chu.mks_length (mk : Nat → Bool) (f i : Nat) : (Chu.mks mk f i).length ≤ i - f := by
  unfold Chu.mks
  refine Nat.le_trans (List.length_filter_le _ _) ?_
  simp

theorem cell_new_row (w : World) (xs : List Value) (T : TypeId) (i : Nat) (u : Value) (h : xs[i]? = some u) : (w.alloc (.cells xs.toArray T)).cell? ((⟨w.heap.size, 0, none⟩ : Addr).add i) = some u := by
  have e : (Addr.add ⟨w.heap.size, 0, none⟩ i) = ⟨w.heap.size, i, none⟩ := by cases i <;> simp [Addr.add]
  rw [e, cell_of_row _ _ i _ _ _ (heap_alloc_new w _)]
  simpa using h

/-- what is collected so far -/
def ClI (b X : Nat) (mk : Nat → Bool) (f : Nat) (w : World) (i : Nat) (W : World) : Prop :=
  ∃ v, W.heap[X]? = some (.cells #[v] 32 (0, 0)) ∧ IOwn X v (Chu.mks mk f i) W ∧ Turns (fun j => j = b) w W
section
variable {b X f i C : Nat} {mk : Nat → Bool} {w W W' : World}
theorem ClI.turn (hX : b < X) (h : ClI b X mk f w i W) (ht : Turns (fun j => j = b) W W') : ClI b X mk f w i W' := by
  obtain ⟨v, h1, h2, h3⟩ := h
  exact ⟨v, ht.same h1 (by omega), h2.keeps ht (fun g hg _ _ => by omega), h3.trans ht (fun j _ e => e)⟩
theorem ClI.new (h : ClI b X mk f w i W) (hb : Below W.heap.size W W') : ClI b X mk f w i W' := by
  obtain ⟨v, h1, h2, h3⟩ := h
  exact ⟨v, by rw [hb.block _ (row_lt h1)]; exact h1, h2.new hb, h3.trans (Turns.of_new hb (fun j => j = b)) (fun j _ e => e)⟩
theorem ClI.stays (hC : w.heap.size ≤ C) : Stays C (ClI b X mk f w i) := fun W j o o' hl ho hc ⟨v, h1, h2, h3⟩ =>
  ⟨v, Stays.row W j o o' hl ho hc h1, IOwn.stays W j o o' hl ho hc h2, h3.os, h3.tape, h3.output, by rw [World.putObj_size]; exact h3.size, fun k hk hn => (World.putObj_heap_other (by omega)).trans (h3.block k hk hn)⟩
theorem ClI.skip (hf : f ≤ i) (hm : mk i = false) (h : ClI b X mk f w i W) : ClI b X mk f w (i + 1) W := by
  obtain ⟨v, h1, h2, h3⟩ := h
  exact ⟨v, h1, by rw [Chu.mks_step mk f i hf, if_neg (by simp [hm])]; exact h2, h3⟩
theorem MkAny.new {p n k B : Nat} {s : ByteArray} {f t : Int} (h : MkAny b p n k s f t B W) (hb : Below W.heap.size W W') : MkAny b p n k s f t B W' := by
  obtain ⟨⟨G, h1⟩, h2⟩ := h
  exact ⟨⟨G, h1.new hb⟩, h2.new hb⟩
theorem RolG.stays {p n D : Nat} {G : List UInt8} : Stays D (RolG b p n G) := fun W l o o' hl ho hc ⟨r, h1, h2⟩ => ⟨r, Stays.row W l o o' hl ho hc h1, h2⟩
end

theorem yield_imp {F : Fence} {m : Nat} {P : Program} {l : Nat} {args : Array Value} {W : World} {R R' : Ending → World → Prop} (h : YieldAt F m P l args W R) (hi : ∀ e w, R e w → R' e w) : YieldAt F m P l args W R' := by
  obtain ⟨fn, tmps, assign, body, h1, h2⟩ := h
  exact ⟨fn, tmps, assign, body, h1, h2.mono hi⟩

end Go.Proofs.Ytcmlcpejlmlcfaa

/-
  What chunk.Marks returns.
-/
set_option linter.unusedVariables false
set_option maxRecDepth 100000
namespace Go.Proofs.Ytcmlcpejlmlcfaa
open Go.RowKit

/-- is a place of the text a mark of c's -/
def Ctr.isMk (c : Ctr) (l : List UInt8) : Nat → Bool := Chu.mark c.p c.n.toNat c.b.toNat l
/-- all marks -/
def Ctr.marks (c : Ctr) (l : List UInt8) : List Nat := Chu.mks (c.isMk l) 1 (l.length + 1)
theorem mkAny_start {b p n k B : Nat} {s : ByteArray} {f t : Int} {G : List UInt8} {w : World} (h1 : RolG b p n G w) (h2 : MkBox b k s f t B w) : MkAny b p n k s f t B w := ⟨⟨G, h1⟩, h2⟩

end Go.Proofs.Ytcmlcpejlmlcfaa

/-
  What the closure of chunk.Cut does: it puts a piece behind the others.
-/
set_option linter.unusedVariables false
set_option maxRecDepth 100000
namespace Go.Proofs.Ytcmlcpejlmlcfaa
open Go.RowKit

theorem piece_info : (Try.prog.info? 68).map (fun i => (i.zero, i.size, i.bytes)) = some (some (.agg #[.int .i64 0, .int .i64 0]), 2, 16) := by kernel_rfl
abbrev Pc := Nat × Nat
def Pc.cells (x : Pc) : List Value := [.int .i64 (x.1 : Int), .int .i64 (x.2 : Int)]
/-- a slice of the call's own that holds these pieces -/
def POwn (B : Nat) (v : Value) (l : List Pc) (w : World) : Prop := w.ownsRow B 68 2 v l.length (l.flatMap Pc.cells)
theorem POwn.same {B : Nat} {v : Value} {l : List Pc} {w w' : World} (h : POwn B v l w) (hk : ∀ g, B ≤ g → g < w.heap.size → (∃ cs : Array Value, w.heap[g]? = some (.cells cs 68 (0, 0))) → w'.heap[g]? = w.heap[g]?) : POwn B v l w' :=
  ownsRow_same h fun g hg => by
    have := World.ownsRow.lt h g hg
    exact hk g this.1 this.2 (ownsRow_block h hg)
theorem POwn.new {B : Nat} {v : Value} {l : List Pc} {w w' : World} (h : POwn B v l w) (hb : Below w.heap.size w w') : POwn B v l w' := ownsRow_new h hb
theorem POwn.form {B : Nat} {v : Value} {l : List Pc} {w : World} (h : POwn B v l w) : ∃ a cap, v = .slice a l.length cap := by
  rcases h.2 with ⟨rfl, h0⟩ | ⟨g, cap, _, hv, _⟩
  · exact ⟨none, 0, by rw [h0]⟩
  · exact ⟨_, cap, hv⟩
theorem POwn.off {B b : Nat} {v : Value} {l : List Pc} {w : World} (h : POwn B v l w) {cs : Array Value} {T : TypeId} (hT : T ≠ 68) (hr : w.heap[b]? = some (.cells cs T (0, 0))) : v.ownBlock ≠ some b := fun e => by
  obtain ⟨cur, hcur⟩ := ownsRow_block h e
  rw [hr] at hcur
  simp only [Option.some.injEq, Obj.cells.injEq] at hcur
  exact hT hcur.2.1
theorem POwn.low {B b : Nat} {v : Value} {l : List Pc} {w : World} (h : POwn B v l w) (hb : b < B) : v.ownBlock ≠ some b := fun e => by
  have := (World.ownsRow.lt h b e).1; omega
theorem POwn.base {B B' : Nat} {v : Value} {l : List Pc} {w : World} (h : POwn B v l w) (hb : B' ≤ B) : POwn B' v l w := by
  refine ⟨h.1, ?_⟩
  rcases h.2 with hh | ⟨g, cap, cur, e1, e2, e3⟩
  · exact .inl hh
  · exact .inr ⟨g, cap, cur, e1, Nat.le_trans hb e2, e3⟩

/-- the pieces so far, and where the next one begins -/
structure CutAt (Bs : Nat) (Bl Ba : Nat) (ps : List Pc) (a : Nat) (v : Value) (w : World) : Prop where
  l : w.heap[Bl]? = some (.cells #[v] 65 (0, 0))
  o : POwn Bs v ps w
  a : w.heap[Ba]? = some (.cells #[.int .i64 (a : Int)] 3 (0, 0))

set_option maxHeartbeats 1000000 in
theorem cut1_any {Bs Bl Ba a i : Nat} {ps : List Pc} {v : Value} {w : World} (h : CutAt Bs Bl Ba ps a v w) (hlen : ps.length ≤ 1099511627776) (hBs : Bs ≤ w.heap.size) (ha : a ≤ i) (hi : i ≤ 140737488351232) :
    Calls Try.prog 54 #[.int .i64 (i : Int), .pointer (some ⟨Bl, 0, none⟩), .pointer (some ⟨Ba, 0, none⟩)] w fun e w' => e = .returned (.tuple #[]) ∧ (∃ v', CutAt Bs Bl Ba (ps ++ [(a, i - a)]) i v' w') ∧ Turns (fun j => j = Bl ∨ j = Ba ∨ v.ownBlock = some j) w w' := by
  obtain ⟨i0, hi0, hz0, hz1, hz2⟩ := info_parts piece_info
  have c1 := cell_of_one h.l
  have f1 := row_free h.l 0
  have c2 := cell_of_one h.a
  have f2 := row_free h.a 0
  have hw1 : IntKind.i64.wrap ((i : Int) - (a : Int)) = ((i - a : Nat) : Int) := by simp only [IntKind.wrap_i64]; omega
  have hoX := h.o.off (by decide) h.l
  have hoA := h.o.off (by decide) h.a
  have hne : Bl ≠ Ba := fun e => by
    have h1 := h.l
    rw [e, h.a] at h1
    simp only [Option.some.injEq, Obj.cells.injEq] at h1
    exact absurd h1.2.1 (by decide)
  obtain ⟨va, vcap, hvf⟩ := h.o.form
  have Hvf := Lib.hid hvf; clear hvf
  have hbl := row_lt h.l
  have hba := row_lt h.a
  have H := Lib.hid h; clear h
  have HoX := Lib.hid hoX; clear hoX
  have HoA := Lib.hid hoA; clear hoA
  go_enter Try.func54, Try.ntmps54
  go_wp2_with (at_builtin; go_loud (refine wpList_append_own_at _ rfl _ _ 65 rfl Bs 68 i0 (.agg #[.int .i64 0, .int .i64 0]) 2 16 Try.underlying65 hi0 hz0 hz1 hz2 rfl (by decide) _ _ _ rfl (World.ownsRow.alloc H.out.o _) ⟨w.heap.size, 0, none⟩ 1 1 [.int .i64 (a : Int), .int .i64 ((i - a : Nat) : Int)] rfl rfl (cell_new_row w [.int .i64 (a : Int), .int .i64 ((i - a : Nat) : Int)] 68) ?c2 ?c3 ?c4 ?c5 ?_))
  case c2 => intro z hz; simp at hz; rcases hz with rfl | rfl <;> rfl
  case c3 => unfold maxLen; omega
  case c4 => omega
  case c5 => simp; omega
  intro v' w5 hown5 hgrow _ hvb2
  have hbY : Below w.heap.size w (w.alloc (.cells #[.int .i64 (a : Int), .int .i64 ((i - a : Nat) : Int)] 68)) := box_below w _
  have hkp : ∀ j o, w.heap[j]? = some o → v.ownBlock ≠ some j → w5.heap[j]? = some o := fun j o ho hne => by
    rw [hgrow.block j (by have := row_lt ho; have := hbY.size; omega) (fun e => hne e.symm), hbY.block j (row_lt ho)]; exact ho
  have hl5 := hkp _ _ H.out.l HoX.out
  have ha5 := hkp _ _ H.out.a HoA.out
  have ho5 : POwn Bs v' (ps ++ [(a, i - a)]) w5 := by
    unfold POwn
    rw [List.length_append, List.flatMap_append]
    exact hown5
  have hT5 : Turns (fun j => j = Bl ∨ j = Ba ∨ v.ownBlock = some j) w w5 := (Turns.of_new hbY _).trans (Turns.of_grown hgrow) (fun j _ e => .inr (.inr e))
  have hoX5 := ho5.off (by decide) hl5
  have hoA5 := ho5.off (by decide) ha5
  obtain ⟨va5, vcap5, hv5⟩ := ho5.form
  obtain ⟨n5, hn5⟩ : ∃ n5, n5 = (ps ++ [(a, i - a)]).length := ⟨_, rfl⟩
  rw [← hn5] at hv5
  subst hv5
  have c5 := cell_of_one hl5
  have f5 := row_free hl5 0
  have ha6 : (w5.setCell ⟨Bl, 0, none⟩ (.slice va5 n5 vcap5)).heap[Ba]? = some (.cells #[.int .i64 (a : Int)] 3 (0, 0)) := by
    rw [heap_setCell_other _ _ _ _ (fun e => hne e.symm)]; exact ha5
  have c6 := cell_of_one ha6
  have f6 := row_free ha6 0
  have hl7 : ((w5.setCell ⟨Bl, 0, none⟩ (.slice va5 n5 vcap5)).setCell ⟨Ba, 0, none⟩ (.int .i64 (i : Int))).heap[Bl]? = some (.cells #[.slice va5 n5 vcap5] 65 (0, 0)) := by
    rw [heap_setCell_other _ _ _ _ hne, heap_setCell_same _ _ 0 _ _ _ hl5]; rfl
  have ha7 : ((w5.setCell ⟨Bl, 0, none⟩ (.slice va5 n5 vcap5)).setCell ⟨Ba, 0, none⟩ (.int .i64 (i : Int))).heap[Ba]? = some (.cells #[.int .i64 (i : Int)] 3 (0, 0)) := by
    rw [heap_setCell_same _ _ 0 _ _ _ ha6]; rfl
  have ho7 : POwn Bs (.slice va5 n5 vcap5) (ps ++ [(a, i - a)]) ((w5.setCell ⟨Bl, 0, none⟩ (.slice va5 n5 vcap5)).setCell ⟨Ba, 0, none⟩ (.int .i64 (i : Int))) :=
    ownsRow_same ho5 fun g hg => by
      rw [heap_setCell_other _ _ _ _ (fun e => hoA5 (by rw [hg]; exact congrArg some e)), heap_setCell_other _ _ _ _ (fun e => hoX5 (by rw [hg]; exact congrArg some e))]
  have hT7 := (hT5.set Bl 0 (.slice va5 n5 vcap5) (fun _ => .inl rfl)).set Ba 0 (.int .i64 (i : Int)) (fun _ => .inr (.inl rfl))
  have HL := Lib.hid hl7; clear hl7
  have HA := Lib.hid ha7; clear ha7
  have HO := Lib.hid ho7; clear ho7
  have HT := Lib.hid hT7; clear hT7
  clear hown5 hgrow hvb2 hbY hkp hl5 ha5 ho5 hT5 hoX5 hoA5 hn5 ha6 c1 c2 f1 f2
  go_wp2_with fail
  go_end0
  exact ⟨rfl, ⟨_, HL.out, HO.out, HA.out⟩, HT.out⟩
end Go.Proofs.Ytcmlcpejlmlcfaa
