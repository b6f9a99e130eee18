/-
  Plain mathematics of layer 11: how far two rows are alike, what an edit makes of a text, which edit two texts have.
-/
import Derived.Test.YtcmlcpejlmlcfaaLinA
set_option linter.unusedVariables false
namespace Go.Proofs.Ytcmlcpejlmlcfaa
namespace Edt
/-- the first place from n on at which p does not hold, at most f behind it -/
def upto (p : Nat → Bool) : Nat → Nat → Nat
  | 0, n => n
  | f + 1, n => if p n then upto p f (n + 1) else n
theorem upto_spec (p : Nat → Bool) : ∀ (f n : Nat), n ≤ upto p f n ∧ upto p f n ≤ n + f ∧ (∀ j, n ≤ j → j < upto p f n → p j = true) ∧ (upto p f n < n + f → p (upto p f n) = false)
  | 0, n => ⟨Nat.le_refl _, Nat.le_refl _, fun j a b => by simp only [upto] at b; omega, fun h => by simp only [upto] at h; omega⟩
  | f + 1, n => by
    unfold upto
    by_cases h : p n = true
    · rw [if_pos h]
      obtain ⟨h1, h2, h3, h4⟩ := upto_spec p f (n + 1)
      refine ⟨by omega, by omega, fun j a b => ?_, fun g => h4 (by omega)⟩
      rcases Nat.eq_or_lt_of_le a with e | e
      · rw [← e]; exact h
      · exact h3 j e b
    · rw [if_neg h]
      exact ⟨Nat.le_refl _, by omega, fun j a b => by omega, fun _ => by simpa using h⟩
/-- how many from 0 on p holds of, at most m -/
def cnt (p : Nat → Bool) (m : Nat) : Nat := upto p m 0
theorem cnt_le (p : Nat → Bool) (m : Nat) : cnt p m ≤ m := by have := (upto_spec p m 0).2.1; unfold cnt; omega
theorem cnt_all {p : Nat → Bool} {m j : Nat} (h : j < cnt p m) : p j = true := (upto_spec p m 0).2.2.1 j (Nat.zero_le _) h
theorem cnt_not {p : Nat → Bool} {m : Nat} (h : cnt p m < m) : p (cnt p m) = false := (upto_spec p m 0).2.2.2 (by unfold cnt at h; omega)
theorem cnt_is {p : Nat → Bool} {m n : Nat} (h1 : n ≤ m) (h2 : ∀ j, j < n → p j = true) (h3 : n < m → p n = false) : cnt p m = n := by
  rcases Nat.lt_trichotomy (cnt p m) n with h | h | h
  · have a := cnt_not (p := p) (m := m) (by omega)
    rw [h2 _ h] at a; cases a
  · exact h
  · have a := cnt_all h
    have b := cnt_le p m
    rw [h3 (by omega)] at a; cases a
theorem cnt_congr {p q : Nat → Bool} {m : Nat} (h : ∀ j, j < m → p j = q j) : cnt p m = cnt q m := by
  refine cnt_is (cnt_le _ _) (fun j hj => ?_) (fun hj => ?_)
  · rw [h j (by have := cnt_le q m; omega)]; exact cnt_all hj
  · rw [h _ hj]; exact cnt_not hj
section
variable {α : Type} [DecidableEq α] (d : α) (a b : List α)
/-- are both alike at the place k, told from the beginning -/
def eqL (k : Nat) : Bool := decide (a.getD k d = b.getD k d)
/-- .. from the end -/
def eqR (k : Nat) : Bool := decide (a.getD (a.length - 1 - k) d = b.getD (b.length - 1 - k) d)
/-- the longest common beginning -/
def pre : Nat := cnt (eqL d a b) (min a.length b.length)
/-- the longest common end of what is behind n -/
def suf (n : Nat) : Nat := cnt (eqR d a b) (min a.length b.length - n)
theorem pre_le : pre d a b ≤ a.length ∧ pre d a b ≤ b.length := by have := cnt_le (eqL d a b) (min a.length b.length); unfold pre; omega
theorem suf_le (n : Nat) (h : n ≤ a.length ∧ n ≤ b.length) : n + suf d a b n ≤ a.length ∧ n + suf d a b n ≤ b.length := by have := cnt_le (eqR d a b) (min a.length b.length - n); unfold suf; omega
variable {d a b}
theorem pre_at {j : Nat} (h : j < pre d a b) : a.getD j d = b.getD j d := of_decide_eq_true (cnt_all (p := eqL d a b) h)
theorem pre_stop (h : pre d a b < a.length) (h' : pre d a b < b.length) : a.getD (pre d a b) d ≠ b.getD (pre d a b) d := of_decide_eq_false (cnt_not (p := eqL d a b) (m := min a.length b.length) (by unfold pre at h h'; omega))
theorem suf_at {n j : Nat} (h : j < suf d a b n) : a.getD (a.length - 1 - j) d = b.getD (b.length - 1 - j) d := of_decide_eq_true (cnt_all (p := eqR d a b) h)
theorem suf_stop {n : Nat} (h : n + suf d a b n < a.length) (h' : n + suf d a b n < b.length) : a.getD (a.length - 1 - suf d a b n) d ≠ b.getD (b.length - 1 - suf d a b n) d := of_decide_eq_false (cnt_not (p := eqR d a b) (m := min a.length b.length - n) (by unfold suf at h h'; omega))
theorem pre_take : a.take (pre d a b) = b.take (pre d a b) := by
  obtain ⟨h1, h2⟩ := pre_le d a b
  apply List.ext_getElem
  · simp; omega
  · intro j x y
    have hj : j < pre d a b := by simp at x; omega
    have := pre_at hj
    rw [List.getD_eq_getElem?_getD, List.getD_eq_getElem?_getD, List.getElem?_eq_getElem (by omega), List.getElem?_eq_getElem (by omega)] at this
    simpa using this
theorem suf_drop {n : Nat} (h : n ≤ a.length ∧ n ≤ b.length) : a.drop (a.length - suf d a b n) = b.drop (b.length - suf d a b n) := by
  obtain ⟨h1, h2⟩ := suf_le d a b n h
  apply List.ext_getElem
  · simp; omega
  · intro j x y
    have hj : j < suf d a b n := by simp at x; omega
    have := suf_at (d := d) (a := a) (b := b) (n := n) (j := suf d a b n - 1 - j) (by omega)
    rw [List.getD_eq_getElem?_getD, List.getD_eq_getElem?_getD, List.getElem?_eq_getElem (by omega), List.getElem?_eq_getElem (by omega)] at this
    simp only [Option.getD_some] at this
    rw [List.getElem_drop, List.getElem_drop]
    have e1 : a.length - suf d a b n + j = a.length - 1 - (suf d a b n - 1 - j) := by omega
    have e2 : b.length - suf d a b n + j = b.length - 1 - (suf d a b n - 1 - j) := by omega
    simp only [e1, e2]
    exact this
end
/-- what an edit makes of a row -/
def app (l : List UInt8) (i c : Nat) (p : List UInt8) : List UInt8 := l.take i ++ p ++ l.drop (i + c)
theorem app_length {l : List UInt8} {i c : Nat} {p : List UInt8} (h : i + c ≤ l.length) : (app l i c p).length = l.length - c + p.length := by unfold app; simp; omega
theorem app_back {l : List UInt8} {i c : Nat} {p : List UInt8} (h : i + c ≤ l.length) : app (app l i c p) i p.length ((l.drop i).take c) = l := by
  unfold app
  have e1 : (l.take i).length = i := by simp; omega
  have e2 : (l.take i ++ p ++ l.drop (i + c)).take i = l.take i := by
    rw [List.append_assoc, List.take_append_of_le_length (by omega), List.take_of_length_le (by omega)]
  have e3 : (l.take i ++ p ++ l.drop (i + c)).drop (i + p.length) = l.drop (i + c) := by
    rw [List.drop_append]
    simp [e1]
  rw [e2, e3, ← List.drop_drop, List.append_assoc, List.take_append_drop, List.take_append_drop]
/-- the edit of two rows, done to the first one -/
theorem app_of (a b : List UInt8) : app a (pre 0 a b) (a.length - suf 0 a b (pre 0 a b) - pre 0 a b) ((b.drop (pre 0 a b)).take (b.length - suf 0 a b (pre 0 a b) - pre 0 a b)) = b := by
  have hp := pre_le (0 : UInt8) a b
  have hs := suf_le (0 : UInt8) a b _ hp
  unfold app
  have e : pre 0 a b + (a.length - suf 0 a b (pre 0 a b) - pre 0 a b) = a.length - suf 0 a b (pre 0 a b) := by omega
  rw [e, pre_take, suf_drop hp]
  have e2 : b.length - suf 0 a b (pre 0 a b) = pre 0 a b + (b.length - suf 0 a b (pre 0 a b) - pre 0 a b) := by omega
  generalize b.length - suf 0 a b (pre 0 a b) - pre 0 a b = c at *
  rw [e2, ← List.drop_drop, List.append_assoc, List.take_append_drop, List.take_append_drop]
end Edt
/-- an edit -/
structure Ed where
  a : Int
  c : Int
  p : ByteArray
def Ed.v (e : Ed) : Value := .agg #[.int .i64 e.a, .int .i64 e.c, .string e.p]
def Ed.Wf (e : Ed) : Prop := (-9223372036854775808 ≤ e.a ∧ e.a ≤ 9223372036854775807) ∧ (-9223372036854775808 ≤ e.c ∧ e.c ≤ 9223372036854775807)
/-- may it be done to a text of n bytes -/
def Ed.May (e : Ed) (n : Nat) : Prop := 0 ≤ e.a ∧ 0 ≤ e.c ∧ e.a + e.c ≤ (n : Int)
instance (e : Ed) (n : Nat) : Decidable (e.May n) := inferInstanceAs (Decidable (_ ∧ _ ∧ _))
def Ed.on (e : Ed) (s : ByteArray) : ByteArray := ⟨(Edt.app s.data.toList e.a.toNat e.c.toNat e.p.data.toList).toArray⟩
theorem Ed.on_size {e : Ed} {s : ByteArray} (h : e.May s.size) : (e.on s).size = s.size - e.c.toNat + e.p.size := by
  obtain ⟨h1, h2, h3⟩ := h
  have := Edt.app_length (l := s.data.toList) (i := e.a.toNat) (c := e.c.toNat) (p := e.p.data.toList) (by rw [ba_len]; omega)
  rw [ba_len, ba_len] at this
  rw [← this]
  show (Edt.app _ _ _ _).toArray.size = _
  simp
def Ed.back (e : Ed) (s : ByteArray) : Ed := ⟨e.a, e.p.size, s.extract e.a.toNat (e.a.toNat + e.c.toNat)⟩
theorem ba_part (s : ByteArray) (i j : Nat) : (s.extract i j).data.toList = (s.data.toList.drop i).take (j - i) := by
  rw [Lib.extract_eq]
theorem ba_ext {a b : ByteArray} (h : a.data.toList = b.data.toList) : a = b := by rw [← ba_eta a, h, ba_eta b]
theorem Ed.back_may {e : Ed} {s : ByteArray} (h : e.May s.size) : (e.back s).May (e.on s).size := by
  have hz := Ed.on_size h
  obtain ⟨h1, h2, h3⟩ := h
  unfold Ed.back Ed.May
  simp only
  omega
theorem Ed.back_on {e : Ed} {s : ByteArray} (h : e.May s.size) : (e.back s).on (e.on s) = s := by
  obtain ⟨h1, h2, h3⟩ := h
  have hb := Edt.app_back (l := s.data.toList) (i := e.a.toNat) (c := e.c.toNat) (p := e.p.data.toList) (by rw [ba_len]; omega)
  rw [ba_len] at hb
  refine ba_ext ?_
  unfold Ed.back Ed.on
  simp only [Int.toNat_natCast]
  rw [ba_part, show e.a.toNat + e.c.toNat - e.a.toNat = e.c.toNat by omega]
  exact hb
/-- the edit of two texts -/
def ofB (a b : ByteArray) : Ed :=
  ⟨(Edt.pre 0 a.data.toList b.data.toList : Nat), ((a.size - Edt.suf 0 a.data.toList b.data.toList (Edt.pre 0 a.data.toList b.data.toList) - Edt.pre 0 a.data.toList b.data.toList : Nat) : Int),
   b.extract (Edt.pre 0 a.data.toList b.data.toList) (b.size - Edt.suf 0 a.data.toList b.data.toList (Edt.pre 0 a.data.toList b.data.toList))⟩
theorem ofB_may (a b : ByteArray) : (ofB a b).May a.size := by
  have hp := Edt.pre_le (0 : UInt8) a.data.toList b.data.toList
  have hs := Edt.suf_le (0 : UInt8) a.data.toList b.data.toList _ hp
  rw [ba_len, ba_len] at *
  unfold ofB Ed.May
  simp only
  omega
theorem ofB_on (a b : ByteArray) : (ofB a b).on a = b := by
  have h := Edt.app_of a.data.toList b.data.toList
  refine ba_ext ?_
  unfold ofB Ed.on
  simp only [Int.toNat_natCast]
  rw [ba_len, ba_len] at h
  rw [ba_part]
  exact h
theorem ofB_wf (a b : ByteArray) (ha : a.size ≤ 1099511627776) : (ofB a b).Wf := by
  obtain ⟨h1, h2, h3⟩ := ofB_may a b
  unfold Ed.Wf
  omega
/-- is a text in a row -/
def hasT (old : List ByteArray) (y : ByteArray) : Bool := old.any fun x => decide (x = y)
theorem hasT_iff (old : List ByteArray) (y : ByteArray) : hasT old y = true ↔ y ∈ old := by
  unfold hasT
  rw [List.any_eq_true]
  constructor
  · rintro ⟨x, h, e⟩
    rw [← of_decide_eq_true e]; exact h
  · intro h
    exact ⟨y, h, decide_eq_true rfl⟩
/-- which ones of a row are fresh against another one -/
def freshL (old now : List ByteArray) (k : Nat) : List Nat := (List.range k).filter fun i => !hasT old (now.getD i .empty)
theorem freshL_succ (old now : List ByteArray) (k : Nat) : freshL old now (k + 1) = if hasT old (now.getD k .empty) = true then freshL old now k else freshL old now k ++ [k] := by
  unfold freshL
  rw [List.range_succ, List.filter_append]
  generalize hy : hasT old (now.getD k .empty) = y
  cases y
  · rw [if_neg (by simp)]
    congr 1
    rw [List.filter_cons, hy]
    rfl
  · rw [if_pos rfl, List.filter_cons, hy]
    simp
theorem freshL_length (old now : List ByteArray) (k : Nat) : (freshL old now k).length ≤ k := by
  have := List.length_filter_le (fun i => !hasT old (now.getD i .empty)) (List.range k)
  rw [List.length_range] at this
  exact this
end Go.Proofs.Ytcmlcpejlmlcfaa
