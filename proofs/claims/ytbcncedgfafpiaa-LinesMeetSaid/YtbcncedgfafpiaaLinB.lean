/- Put together of: LinRef LinRef2 LinAlive LinLawP -/
import Derived.Test.YtbcncedgfafpiaaLinA
import Derived.BigQuiet
import Derived.Test.YtbcncedgfafpiaaChuC
import Derived.Test.YtbcncedgfafpiaaRabA
set_option maxRecDepth 100000
/-
  What the document's Same, Align, Records and Longest of layer 10 return.
-/
set_option linter.unusedVariables false
set_option maxRecDepth 100000
namespace Go.Proofs.Ytbcncedgfafpiaa
open Go.RowKit

set_option maxHeartbeats 1000000 in
theorem tsame_any (v1 v2 : Value) (l : List ByteArray) (w : World) (h1 : SRd v1 l w) (h2 : SRd v2 l w) (hl : l.length ≤ 1099511627776) :
    Calls Try.prog 8 #[v1, v2] w fun e w' => e = .returned (.bool true) ∧ Below w.heap.size w w' := by
  obtain ⟨a1, c1, rfl, hc1, hf1⟩ := h1
  obtain ⟨a2, c2, rfl, hc2, hf2⟩ := h2
  obtain ⟨n, hn⟩ : ∃ n, n = l.length := ⟨_, rfl⟩
  rw [← hn] at hl hc1 hc2 hf1 hf2 ⊢
  have Hf1 := Lib.hid hf1; clear hf1
  have Hf2 := Lib.hid hf2; clear hf2
  clear hn
  go_enter Try.func8, Try.ntmps8
  go_wp2_with fail
  go_loopw [5] (fun i wr => ∃ k : Nat, k ≤ n ∧ i = .int .i64 (k : Int) ∧ Below w.heap.size w wr) (fun i _ => n - (intOf i).toNat)
  case atStart => exact ⟨0, Nat.zero_le _, rfl, Below.refl _ _⟩
  case round =>
    obtain ⟨k, hk, rfl, hb⟩ := hrel
    by_cases hlt : k < n
    · have g1 : decide (k < n) = true := decide_eq_true hlt
      have g2 : (k : Int) < (n : Int) := by omega
      obtain ⟨b1, rfl, e1⟩ := Hf1.out k hlt
      obtain ⟨b2, rfl, e2⟩ := Hf2.out k hlt
      have d1 : wr.cell? ⟨b1, k, none⟩ = some (.string (l.getD k .empty)) := by rw [hb.cell (p := ⟨b1, k, none⟩) (cell_lt e1)]; exact e1
      have d2 : wr.cell? ⟨b2, k, none⟩ = some (.string (l.getD k .empty)) := by rw [hb.cell (p := ⟨b2, k, none⟩) (cell_lt e2)]; exact e2
      generalize l.getD k .empty = x at *
      have hxx : (x.toList == x.toList) = true := by simp
      have Hb := Lib.hid hb; clear hb
      clear e1 e2
      go_wp2_with fail
      go_quiet (fail)
      go_wp2_with fail
      go_roundw
      case rel => exact ⟨k + 1, by omega, by go_num, drewN_below Hb.out _⟩
      case measure => simp [intOf]; omega
    · have g1 : decide (k < n) = false := decide_eq_false hlt
      have Hb := Lib.hid hb; clear hb
      go_wp2_with fail
      go_ret
      exact ⟨rfl, Hb.out⟩

theorem text_index (s : ByteArray) (i : Nat) (h : i < s.size) (u : World) : (Instr.index 9 (.string s) (.int .i64 (i : Int))).run Try.prog u = .ok (.int .u8 ((s.data.toList.getD i 0).toNat : Int)) u := by
  have e : s.data.toList.getD i 0 = s[i] := by
    rw [List.getD_eq_getElem?_getD, List.getElem?_eq_getElem (by rw [ba_len]; exact h)]
    exact ba_get s i h (by rw [ba_len]; exact h)
  rw [e]
  simp [Instr.index, go_sem, run_underlying Try.underlying9, h]
theorem isE_step (s : ByteArray) (i : Nat) (h1 : 1 ≤ i) (h2 : i < s.size) : Lin.isE s.data.toList i = ((s.data.toList.getD (i - 1) 0).toNat == 10) := by
  unfold Lin.isE
  have : (i == s.data.toList.length) = false := by simp; omega
  rw [this, Bool.false_or]
  generalize s.data.toList.getD (i - 1) 0 = x
  rw [Bool.eq_iff_iff]
  simp only [beq_iff_eq]
  constructor
  · rintro rfl; rfl
  · intro e; exact UInt8.toNat_inj.1 e

set_option maxHeartbeats 1000000 in
theorem refAlign_any (s : ByteArray) (hsz : s.size ≤ 1099511627776) (a : Int) (ha : -9223372036854775808 ≤ a ∧ a ≤ 9223372036854775807) (w : World) :
    Calls Try.prog 12 #[.string s, .int .i64 a] w fun e w' => e = .returned (.int .i64 (alI s a : Nat)) ∧ w = w' := by
  obtain ⟨m, hm⟩ : ∃ m : Nat, (m : Int) = max a 1 := ⟨(max a 1).toNat, by omega⟩
  have hmm : max a.toNat 1 = m := by omega
  have hal : alI s a = Lin.al s.data.toList m := by unfold alI; rw [← hmm, Lin.al_one]
  rw [hal]
  have hm1 : 1 ≤ m := by omega
  have hmx : max a 1 = (m : Int) := hm.symm
  clear hal hmm hm
  have hbig := fun h => Lin.al_big (l := s.data.toList) (a := m) h
  have heq := fun r h1 h2 h3 h4 => Lin.al_eq (l := s.data.toList) (a := m) (r := r) h1 h2 h3 h4
  obtain ⟨R, hR⟩ : ∃ R, Lin.al s.data.toList m = R := ⟨_, rfl⟩
  rw [hR] at hbig heq ⊢
  rw [ba_len] at hbig heq
  have hsl := Lin.isE_len s.data.toList
  rw [ba_len] at hsl
  have Hbig := Lib.hid hbig; clear hbig
  have Heq := Lib.hid heq; clear heq hR
  have Hsl := Lib.hid hsl; clear hsl
  go_enter Try.func12, Try.ntmps12
  go_wp2_with fail
  go_loopw [5] (fun x wr => ∃ j : Nat, m ≤ j ∧ (j ≤ s.size ∨ (j = m ∧ s.size < m)) ∧ x = .int .i64 (j : Int) ∧ (∀ i, m ≤ i → i < j → Lin.isE s.data.toList i = false) ∧ wr = w) (fun x _ => s.size + 1 - (intOf x).toNat)
  case atStart => exact ⟨m, Nat.le_refl _, by omega, rfl, fun i x y => by omega, rfl⟩
  case round =>
    obtain ⟨j, hj1, hj2, rfl, hno, rfl⟩ := hrel
    by_cases hle : j ≤ s.size
    · have g1 : decide (j ≤ s.size) = true := decide_eq_true hle
      by_cases he : j = s.size
      · have hRR := Heq.out j (by omega) hle (by rw [he]; exact Hsl.out) (fun i x y => hno i (by omega) y)
        have g2 : decide (j = s.size) = true := decide_eq_true he
        have g3 : ((j : Int) == (s.size : Int)) = true := by rw [he]; simp
        have HRR := Lib.hid hRR; clear hRR hno hj2 he
        go_wp2_with fail
        go_ret
        exact ⟨by rw [HRR.out]; rfl, rfl⟩
      · have g2 : decide (j = s.size) = false := decide_eq_false he
        have g3 : ((j : Int) == (s.size : Int)) = false := by simp; omega
        have hix := fun u => text_index s (j - 1) (by omega) u
        have hjc : ((j - 1 : Nat) : Int) = (j : Int) - 1 := by omega
        rw [hjc] at hix
        have hw1 : IntKind.i64.wrap ((j : Int) - 1) = (j : Int) - 1 := by simp only [IntKind.wrap_i64]; omega
        have hst := isE_step s j (by omega) (by omega)
        have hjs : j < s.size := by omega
        generalize s.data.toList.getD (j - 1) 0 = x at *
        obtain ⟨y, hy⟩ : ∃ y, y = x.toNat := ⟨_, rfl⟩
        rw [← hy] at hst hix
        by_cases hxe : y = 10
        · have hRR := Heq.out j (by omega) hle (by rw [hst]; simpa using hxe) (fun i x y => hno i (by omega) y)
          have HRR := Lib.hid hRR; clear hRR hno hj2 he hst hy hjc
          subst hxe
          go_wp2_with fail
          go_ret
          exact ⟨by rw [HRR.out]; rfl, rfl⟩
        · have q1 : ((y : Int) == 10) = false := by simp; omega
          have q2 : decide (y = 10) = false := decide_eq_false hxe
          have hno2 : ∀ i, m ≤ i → i < j + 1 → Lin.isE s.data.toList i = false := fun i h1 h2 => by
            rcases Nat.lt_or_ge i j with q | q
            · exact hno i h1 q
            · rw [show i = j by omega, hst]; simpa using hxe
          have Hno2 := Lib.hid hno2; clear hno2 hno hj2 he hst hy hjc
          go_wp2_with fail
          go_roundw
          case rel => exact ⟨j + 1, by omega, by omega, by go_num, Hno2.out, by first | exact rfl | trivial⟩
          case measure => simp [intOf]; omega
    · have g1 : decide (j ≤ s.size) = false := decide_eq_false hle
      have hRR := Hbig.out (by omega)
      have HRR := Lib.hid hRR; clear hRR hno hj2
      go_wp2_with fail
      go_ret
      exact ⟨by rw [HRR.out]; rfl, rfl⟩
set_option maxHeartbeats 1000000 in
theorem refRecords_any (s : ByteArray) (hsz : s.size ≤ 1099511627776) (w : World) :
    Calls Try.prog 10 #[.string s] w fun e w' => ∃ v, e = .returned v ∧ TOwn w.heap.size v (recs s) w' ∧ Below w.heap.size w w' := by
  obtain ⟨i0, hi0, hz0, hz1, hz2⟩ := info_parts tstr_info
  have hnx := fun f r (h0 : f < r) (h1 : r ≤ s.size) (h2 : Lin.isE s.data.toList r = true) (h3 : ∀ j, f < j → j < r → Lin.isE s.data.toList j = false) => (by
    have e := Lin.al_eq (l := s.data.toList) (a := f + 1) (r := r) (by omega) (by rw [ba_len]; exact h1) h2 (fun j x y => h3 j (by omega) y)
    rw [recsF_next (by omega), e] : recsF s f = s.extract f r :: recsF s r)
  have Hnx := Lib.hid hnx; clear hnx
  have hnil := recsF_nil (s := s) (i := s.size) (Nat.le_refl _)
  obtain ⟨Z, hZ⟩ : ∃ Z, Z = recs s := ⟨_, rfl⟩
  have hZ0 : Z = [] ++ recsF s 0 := by rw [hZ]; rfl
  rw [← hZ]
  have HZ0 := Lib.hid hZ0; clear hZ0 hZ
  have Hnil := Lib.hid hnil; clear hnil
  have hsl := Lin.isE_len s.data.toList
  rw [ba_len] at hsl
  have Hsl := Lib.hid hsl; clear hsl
  go_enter Try.func10, Try.ntmps10
  go_wp2_with fail
  go_loopw [3, 4, 5] (fun v x y wr => ∃ (i f : Nat) (ts : List ByteArray), f ≤ i ∧ i ≤ s.size ∧ x = .int .i64 (f : Int) ∧ y = .int .i64 (i : Int) ∧ Z = ts ++ recsF s f ∧ ts.length ≤ i ∧ (i = s.size → f = i) ∧ (∀ j, f < j → j ≤ i → Lin.isE s.data.toList j = false) ∧ TOwn w.heap.size v ts wr ∧ Below w.heap.size w wr) (fun _ _ y _ => s.size - (intOf y).toNat)
  case atStart => exact ⟨0, 0, [], Nat.le_refl _, Nat.zero_le _, rfl, rfl, HZ0.out, Nat.le_refl _, fun h => rfl, fun j a b => by omega, World.ownsRow_nil _ _ 9 1, Below.refl _ _⟩
  case round =>
    clear HZ0
    obtain ⟨i, f, ts, hfi, his, rfl, rfl, hz, htl, hend, hno, hv, hb⟩ := hrel
    by_cases hlt : i < s.size
    · have g1 : decide (i < s.size) = true := decide_eq_true hlt
      have g1' : (i : Int) < (s.size : Int) := by omega
      have hix := fun u => text_index s i hlt u
      have hw1 : IntKind.i64.wrap ((i : Int) + 1) = (i : Int) + 1 := by simp only [IntKind.wrap_i64]; omega
      have hw2 : IntKind.i64.wrap ((s.size : Int) - 1) = (s.size : Int) - 1 := by simp only [IntKind.wrap_i64]; omega
      have key : Lin.isE s.data.toList (i + 1) = (decide ((s.data.toList.getD i 0).toNat = 10) || decide (i + 1 = s.size)) := by
        by_cases he : i + 1 = s.size
        · rw [he, Hsl.out]; simp
        · rw [isE_step s (i + 1) (by omega) (by omega), Nat.add_sub_cancel, decide_eq_false he, Bool.or_false]
          generalize (s.data.toList.getD i 0).toNat = z
          rw [Bool.eq_iff_iff]; simp
      generalize s.data.toList.getD i 0 = x at *
      obtain ⟨y, hy⟩ : ∃ y, y = x.toNat := ⟨_, rfl⟩
      rw [← hy] at key hix
      have hsp := fun u => text_part s f (i + 1) (by omega) (by omega) u
      have hic : ((i + 1 : Nat) : Int) = (i : Int) + 1 := by omega
      rw [hic] at hsp
      have Hsp := Lib.hid hsp; clear hsp
      have Hv := Lib.hid hv; clear hv
      have Hb := Lib.hid hb; clear hb
      have hE : Lin.isE s.data.toList (i + 1) = true → Z = (ts ++ [s.extract f (i + 1)]) ++ recsF s (i + 1) := fun h => by
        rw [hz, Hnx.out f (i + 1) (by omega) (by omega) h (fun j a b => hno j a (by omega))]; simp
      have hN : Lin.isE s.data.toList (i + 1) = false → ∀ j, f < j → j ≤ i + 1 → Lin.isE s.data.toList j = false := fun h j a b => by
        rcases Nat.lt_or_ge i j with q | q
        · rw [show j = i + 1 by omega]; exact h
        · exact hno j a q
      have HE := Lib.hid hE; clear hE
      have HN := Lib.hid hN; clear hN hno
      have Hz := Lib.hid hz; clear hz
      have Hkey := Lib.hid key; clear key hy hend hic
      have hbs := Hb.out.size
      by_cases hyt : y = 10
      · subst hyt
        have Hzz := Lib.hid (HE.out (by rw [Hkey.out]; simp)); clear HE HN Hkey
        have q0 : ((10 : Int) == 10) = true := rfl
        have hsp := Hsp.out
        go_wp2_with (at_builtin; go_loud (refine wpList_append_own_at _ rfl _ _ 27 rfl w.heap.size 9 i0 (.string ⟨#[]⟩) 1 16 Try.underlying27 hi0 hz0 hz1 hz2 rfl (by decide) _ _ _ rfl (World.ownsRow.alloc Hv.out _) ⟨wr.heap.size, 0, none⟩ 1 1 [.string (s.extract f (i + 1))] rfl rfl (cell_new_row wr [.string (s.extract f (i + 1))] 9) ?c2 ?c3 ?c4 ?c5 ?_))
        case c2 => intro z hz; simp at hz; subst hz; rfl
        case c3 => unfold maxLen; omega
        case c4 => omega
        case c5 => simp; omega
        intro v' w5 hown5 hgrow _ hvb
        have hbY := box_below wr (.cells #[.string (s.extract f (i + 1))] 9)
        have hb5 : Below w.heap.size w w5 := ((Hb.out).trans (hbY.mono hbs)).grown hgrow (by have := hbY.size; omega) (fun b' h => (World.ownsRow.lt Hv.out b' h).1)
        have hv5 : TOwn w.heap.size v' (ts ++ [s.extract f (i + 1)]) w5 := by
          unfold TOwn
          rw [List.length_append, List.map_append]
          exact hown5
        have hl5 : (ts ++ [s.extract f (i + 1)]).length ≤ i + 1 := by rw [List.length_append]; simp; exact htl
        have Hb5 := Lib.hid hb5; clear hb5
        have Hv5 := Lib.hid hv5; clear hv5
        have Hl5 := Lib.hid hl5; clear hl5
        clear hown5 hgrow hvb hbY hbs hsp hix htl
        go_wp2_with fail
        go_roundw
        case rel => exact ⟨i + 1, i + 1, _, Nat.le_refl _, by omega, by go_num, by go_num, Hzz.out, Hl5.out, fun _ => rfl, fun j a b => by omega, Hv5.out, Hb5.out⟩
        case measure => simp [intOf]; omega
      · have q1 : ((y : Int) == 10) = false := by simp; omega
        have q2 : decide (y = 10) = false := decide_eq_false hyt
        by_cases he : i + 1 = s.size
        · have Hzz := Lib.hid (HE.out (by rw [Hkey.out, decide_eq_true he]; simp)); clear HE HN Hkey
          have q3 : ((i : Int) == (s.size : Int) - 1) = true := by simp; omega
          have q4 : decide ((i : Int) = (s.size : Int) - 1) = true := decide_eq_true (by omega)
          clear he
          have hsp := Hsp.out
          go_wp2_with (at_builtin; go_loud (refine wpList_append_own_at _ rfl _ _ 27 rfl w.heap.size 9 i0 (.string ⟨#[]⟩) 1 16 Try.underlying27 hi0 hz0 hz1 hz2 rfl (by decide) _ _ _ rfl (World.ownsRow.alloc Hv.out _) ⟨wr.heap.size, 0, none⟩ 1 1 [.string (s.extract f (i + 1))] rfl rfl (cell_new_row wr [.string (s.extract f (i + 1))] 9) ?c2 ?c3 ?c4 ?c5 ?_))
          case c2 => intro z hz; simp at hz; subst hz; rfl
          case c3 => unfold maxLen; omega
          case c4 => omega
          case c5 => simp; omega
          intro v' w5 hown5 hgrow _ hvb
          have hbY := box_below wr (.cells #[.string (s.extract f (i + 1))] 9)
          have hb5 : Below w.heap.size w w5 := ((Hb.out).trans (hbY.mono hbs)).grown hgrow (by have := hbY.size; omega) (fun b' h => (World.ownsRow.lt Hv.out b' h).1)
          have hv5 : TOwn w.heap.size v' (ts ++ [s.extract f (i + 1)]) w5 := by
            unfold TOwn
            rw [List.length_append, List.map_append]
            exact hown5
          have hl5 : (ts ++ [s.extract f (i + 1)]).length ≤ i + 1 := by rw [List.length_append]; simp; exact htl
          have Hb5 := Lib.hid hb5; clear hb5
          have Hv5 := Lib.hid hv5; clear hv5
          have Hl5 := Lib.hid hl5; clear hl5
          clear hown5 hgrow hvb hbY hbs hsp hix htl
          go_wp2_with fail
          go_roundw
          case rel => exact ⟨i + 1, i + 1, _, Nat.le_refl _, by omega, by go_num, by go_num, Hzz.out, Hl5.out, fun _ => rfl, fun j a b => by omega, Hv5.out, Hb5.out⟩
          case measure => simp [intOf]; omega
        · have hn2 := HN.out (by rw [Hkey.out, decide_eq_false he, decide_eq_false hyt]; rfl)
          have q3 : ((i : Int) == (s.size : Int) - 1) = false := by simp; omega
          have q4 : decide ((i : Int) = (s.size : Int) - 1) = false := decide_eq_false (by omega)
          have Hn2 := Lib.hid hn2; clear hn2 HE HN Hkey
          have hne : i + 1 = s.size → f = i + 1 := fun h => absurd h he
          have Hne := Lib.hid hne; clear hne he
          go_wp2_with fail
          go_roundw
          case rel => exact ⟨i + 1, f, ts, by omega, by omega, rfl, by go_num, Hz.out, by omega, Hne.out, Hn2.out, Hv.out, Hb.out⟩
          case measure => simp [intOf]; omega
    · have g1 : decide (i < s.size) = false := decide_eq_false hlt
      have hi : i = s.size := by omega
      have hZt : Z = ts := by rw [hz, hend hi, hi, Hnil.out, List.append_nil]
      have HZt := Lib.hid hZt; clear hZt hz hno
      have Hv := Lib.hid hv; clear hv
      have Hb := Lib.hid hb; clear hb
      clear hi hend
      go_wp2_with fail
      go_ret
      exact ⟨_, rfl, by rw [HZt.out]; exact Hv.out, Hb.out⟩
end Go.Proofs.Ytbcncedgfafpiaa

/-
  What the document's Longest and Cut of layer 10, and the law's ends, return.
-/
set_option linter.unusedVariables false
set_option maxRecDepth 100000
namespace Go.Proofs.Ytbcncedgfafpiaa
open Go.RowKit

theorem lg_append : ∀ (a b : List ByteArray), lg (a ++ b) = max (lg a) (lg b)
  | [], b => by simp [lg]
  | x :: a, b => by rw [List.cons_append, lg, lg, lg_append a b]; omega
theorem lg_take (L : List ByteArray) (k : Nat) (h : k < L.length) : lg (L.take (k + 1)) = max (lg (L.take k)) (L.getD k .empty).size := by
  rw [List.take_add_one, List.getElem?_eq_getElem h, lg_append, List.getD_eq_getElem?_getD, List.getElem?_eq_getElem h]
  simp [lg]
theorem lg_take_le (L : List ByteArray) (k : Nat) : lg (L.take k) ≤ lg L := by
  have := lg_append (L.take k) (L.drop k)
  rw [List.take_append_drop] at this
  omega

set_option maxHeartbeats 1000000 in
theorem refLongest_any (s : ByteArray) (hsz : s.size ≤ 1099511627776) (w : World) :
    Calls Try.prog 14 #[.string s] w fun e w' => e = .returned (.int .i64 (lg (recs s) : Nat)) ∧ Below w.heap.size w w' := by
  have cr := fun u => refRecords_any s hsz u
  have hlg := lg_le s s.size 0 (by omega)
  have hlen := recsF_len s 0
  rw [show recsF s 0 = recs s from rfl] at hlg hlen
  generalize recs s = L at *
  have htk := fun k (h : k < L.length) => lg_take L k h
  have htl := fun k => lg_take_le L k
  have htn := List.take_length (l := L)
  obtain ⟨n, hn⟩ : ∃ n, n = L.length := ⟨_, rfl⟩
  obtain ⟨G, hG⟩ : ∃ G, G = lg L := ⟨_, rfl⟩
  rw [← hG] at hlg ⊢
  rw [← hn] at hlen htk htn
  have hGn : lg (L.take n) = G := by rw [htn, hG]
  rw [← hG] at htl
  have h0 : lg (L.take 0) = 0 := rfl
  have Cr := Lib.hid cr; clear cr
  have Htk := Lib.hid htk; clear htk
  have Htl := Lib.hid htl; clear htl
  have HGn := Lib.hid hGn; clear hGn hG htn
  have H0 := Lib.hid h0; clear h0
  have Hn := Lib.hid hn; clear hn
  go_enter Try.func14, Try.ntmps14
  go_wp2_with fail
  refine (Cr.out _).mono ?_; rintro e w1 ⟨v, rfl, hv, h1⟩
  obtain ⟨a, cap, rfl, hcap, hf⟩ := hv.reads
  rw [← Hn.out] at hcap hf ⊢
  have Hf := Lib.hid hf; clear hf hv
  have H1 := Lib.hid h1; clear h1
  go_wp2_with fail
  go_loopw [4, 5] (fun x y wr => ∃ k : Nat, k ≤ n ∧ y = .int .i64 (k : Int) ∧ x = .int .i64 (lg (L.take k) : Nat) ∧ wr = w1) (fun x y _ => n - (intOf y).toNat)
  case atStart => exact ⟨0, Nat.zero_le _, rfl, by rw [H0.out]; rfl, rfl⟩
  case round =>
    obtain ⟨k, hk, rfl, rfl, rfl⟩ := hrel
    by_cases hlt : k < n
    · have g1 : decide (k < n) = true := decide_eq_true hlt
      have g2 : (k : Int) < (n : Int) := by omega
      obtain ⟨b, rfl, d⟩ := Hf.out k hlt
      have ht := Htk.out k hlt
      have hq1 := Htl.out k
      have hq2 := Htl.out (k + 1)
      generalize hx : L.getD k .empty = x at *
      have hmx : max ((lg (L.take k) : Nat) : Int) (x.size : Int) = (lg (L.take (k + 1)) : Nat) := by rw [ht]; omega
      obtain ⟨y2, hy2⟩ : ∃ y2, y2 = lg (L.take (k + 1)) := ⟨_, rfl⟩
      rw [← hy2] at hmx hq2
      have Hy2 := Lib.hid hy2; clear hy2 ht hx
      generalize lg (L.take k) = y1 at *
      go_wp2_with fail
      go_roundw
      case rel => exact ⟨k + 1, by omega, by go_num, by rw [Hy2.out], by first | exact rfl | trivial⟩
      case measure => simp [intOf]; omega
    · have g1 : decide (k < n) = false := decide_eq_false hlt
      have hkn : k = n := by omega
      have e : lg (L.take k) = G := by rw [hkn]; exact HGn.out
      rw [e]
      clear hkn
      go_wp2_with fail
      go_ret
      exact ⟨rfl, H1.out⟩

set_option maxHeartbeats 1000000 in
theorem refLCut_any (c : Ctr) (hm : c.May) (s : ByteArray) (hsz : s.size ≤ 1099511627776) (w : World) :
    Calls Try.prog 18 #[c.v, .string s] w fun e w' => ∃ v, e = .returned v ∧ POwn w.heap.size v (c.acut s.data.toList) w' ∧ Below w.heap.size w w' := by
  obtain ⟨i0, hi0, hz0, hz1, hz2⟩ := info_parts piece_info
  have cf := fun u => refCut_any c hm s hsz u
  have hlen := Ctr.cut_len hm s.data.toList
  have hsum := Ctr.cut_sum hm s.data.toList
  rw [ba_len] at hlen hsum
  obtain ⟨F, hF⟩ : ∃ F, F = c.ends s.data.toList := ⟨_, rfl⟩
  obtain ⟨A, hA⟩ : ∃ A, A = c.acut s.data.toList := ⟨_, rfl⟩
  have hA0 : A = [] ++ Chu.pcs 0 (Lin.acut s.data.toList 0 (F.drop 0)) := by rw [hA, List.drop_zero, hF]; rfl
  have hFL : F.length = (c.cut s.data.toList).length := by rw [hF]; unfold Ctr.cut; rw [Chu.pcs_length]
  rw [← hA]
  rw [← hF] at hsum
  obtain ⟨L, hL⟩ : ∃ L, L = c.cut s.data.toList := ⟨_, rfl⟩
  rw [← hL] at hlen hsum cf hFL
  obtain ⟨n, hn⟩ : ∃ n, n = L.length := ⟨_, rfl⟩
  rw [← hn] at hlen hFL
  rw [hFL] at hsum
  unfold Ctr.v at *
  have Cf := Lib.hid cf; clear cf
  have hbw := box_below w (.cells #[.int .u64 c.p, .int .i64 c.n, .int .i64 c.mn, .int .i64 c.mx, .int .i64 c.b] 24)
  have hrow := CtrAt.box c w
  have e0 := hrow.c0
  have e1 := hrow.c1
  have e2 := hrow.c2
  have e3 := hrow.c3
  have e4 := hrow.c4
  have Hbw := Lib.hid hbw; clear hbw
  have Hsum := Lib.hid hsum; clear hsum
  have HA0 := Lib.hid hA0; clear hA0 hA
  have Hn := Lib.hid hn; clear hn
  have HFL := Lib.hid hFL; clear hFL
  clear hm hL hF hrow
  go_enter Try.func18, Try.ntmps18
  go_wp2_with fail
  refine (Cf.out _).mono ?_; rintro e w1 ⟨v, rfl, hv, h1⟩
  obtain ⟨va, vcap, hvf⟩ := hv.form
  rw [← Hn.out] at hvf
  subst hvf
  have Hv := Lib.hid hv.reads; clear hv
  have H1 := Lib.hid h1; clear h1
  have hs1 := H1.out.size
  simp only [World.size_alloc] at hs1
  clear e0 e1 e2 e3 e4
  go_wp2_with fail
  go_loopw [6, 7, 8] (fun u x y wr => ∃ (k a : Nat) (ps : List Pc), k ≤ n ∧ y = .int .i64 (k : Int) ∧ x = .int .i64 (a : Int) ∧ A = ps ++ Chu.pcs a (Lin.acut s.data.toList a (F.drop k)) ∧ ps.length ≤ k ∧ a ≤ s.size ∧ (a = 0 ∨ Lin.isE s.data.toList a = true) ∧ POwn w1.heap.size u ps wr ∧ Below w1.heap.size w1 wr) (fun _ _ y _ => n - (intOf y).toNat)
  case atStart => exact ⟨0, 0, [], Nat.zero_le _, rfl, rfl, HA0.out, Nat.le_refl _, Nat.zero_le _, .inl rfl, World.ownsRow_nil _ _ 41 2, Below.refl _ _⟩
  case round =>
    clear HA0
    obtain ⟨k, a, ps, hk, rfl, rfl, hA, hps, ha, hae, ho, hb⟩ := hrel
    by_cases hlt : k < n
    · have g1 : decide (k < n) = true := decide_eq_true hlt
      have hge2 : (k : Int) < (n : Int) := by omega
      obtain ⟨va', cap', hve, hcap, hcells⟩ := Hv.out
      injection hve with e1 e2 e3
      subst e1
      subst e3
      obtain ⟨g, rfl, d1, d2⟩ := hcells k (by rw [← Hn.out]; exact hlt)
      have hcl : wr.cell? ⟨g, k * 2, none⟩ = some (.int .i64 ((L.getD k (0, 0)).1 : Int)) := by rw [hb.cell (p := ⟨g, k * 2, none⟩) (cell_lt d1)]; exact d1
      have hcm : wr.cell? ⟨g, k * 2 + 1, none⟩ = some (.int .i64 ((L.getD k (0, 0)).2 : Int)) := by rw [hb.cell (p := ⟨g, k * 2 + 1, none⟩) (cell_lt d2)]; exact d2
      obtain ⟨hsm, hs1', hs2⟩ := Hsum.out k hlt
      have hdr : F.drop k = F.getD k 0 :: F.drop (k + 1) := by
        rw [List.drop_eq_getElem_cons (by rw [HFL.out]; exact hlt), List.getD_eq_getElem?_getD, List.getElem?_eq_getElem (by rw [HFL.out]; exact hlt)]; rfl
      rw [hdr] at hA
      clear d1 d2 hcells hdr
      generalize F.getD k 0 = q at *
      generalize (L.getD k (0, 0)).1 = P at *
      generalize (L.getD k (0, 0)).2 = M at *
      have hkc : k < vcap := by have := Hn.out; omega
      have hcw : IntKind.i64.wrap ((P : Int) + (M : Int)) = (q : Int) := by simp only [IntKind.wrap_i64]; omega
      have hal := Lin.al_range (l := s.data.toList) (a := q) (by rw [ba_len]; omega)
      have hal2 : Lin.al s.data.toList q ≤ s.size := by have := hal.2.1; rw [ba_len] at this; exact this
      have haq : Lin.al s.data.toList q ≤ a → ¬ a < q := fun h => by omega
      have haq2 : ¬ a < q → Lin.al s.data.toList q ≤ a := fun h => by
        rcases hae with e | e
        · omega
        · rcases Nat.lt_or_ge a (Lin.al s.data.toList q) with g | g
          · rw [hal.2.2.2 a (by omega) g] at e; cases e
          · exact g
      have hpos : a < q → A = (ps ++ [(a, Lin.al s.data.toList q - a)]) ++ Chu.pcs (Lin.al s.data.toList q) (Lin.acut s.data.toList (Lin.al s.data.toList q) (F.drop (k + 1))) := fun h => by
        rw [hA, Lin.acut, if_pos h, Chu.pcs]; simp
      have hneg : ¬ a < q → A = ps ++ Chu.pcs a (Lin.acut s.data.toList a (F.drop (k + 1))) := fun h => by
        rw [hA, Lin.acut, if_neg h]
      have hre := hal.2.2.1
      have cal := fun u => refAlign_any s hsz (q : Int) (by omega) u
      unfold alI at cal
      simp only [Int.toNat_natCast] at cal
      clear hal hA
      generalize Lin.al s.data.toList q = r at *
      have Cal := Lib.hid cal; clear cal
      have Hpos := Lib.hid hpos; clear hpos
      have Hneg := Lib.hid hneg; clear hneg
      have Hre := Lib.hid hre; clear hre
      have Hae := Lib.hid hae; clear hae
      have Ho := Lib.hid ho; clear ho
      have Hb := Lib.hid hb; clear hb
      have Hcw := Lib.hid hcw; clear hcw
      have Haq := Lib.hid haq; clear haq
      have Haq2 := Lib.hid haq2; clear haq2
      have Hsm := Lib.hid hsm; clear hsm e2 hcap
      go_wp2_with fail
      refine wp_region_phases [([0, 1, 2, 3, 4, 5, 6, 7, 8, 9, 10, 11], [12, 13])] (by kernel_rfl) (by kernel_rfl) (fun z => z.cell? ⟨g, k * 2, none⟩ = some (.int .i64 (P : Int)) ∧ z.cell? ⟨g, k * 2 + 1, none⟩ = some (.int .i64 (M : Int))) ⟨hcl, hcm⟩ ?_
      simp only [wpPhases, pick, List.filterMap_cons, List.filterMap_nil, List.getElem?_toArray, List.getElem?_cons_zero, List.getElem?_cons_succ]
      refine take_move (.tmp 1) (.string s) rfl rfl rfl ?_
      simp only [Act.put, List.setIfInBounds_toArray, List.set_cons_zero, List.set_cons_succ]
      refine take_move (.tmp 5) (.slice (some ⟨g, 0, none⟩) n vcap) rfl rfl rfl ?_
      simp only [Act.put, List.setIfInBounds_toArray, List.set_cons_zero, List.set_cons_succ]
      refine take_move (.tmp 8) (.int .i64 (k : Int)) rfl rfl rfl ?_
      simp only [Act.put, List.setIfInBounds_toArray, List.set_cons_zero, List.set_cons_succ]
      refine take_one (.pointer (some ⟨g, k * 2, none⟩)) rfl (fun u hu => by go_simp) ?_
      simp only [Act.put, List.setIfInBounds_toArray, List.set_cons_zero, List.set_cons_succ]
      refine take_one (.pointer (some ⟨g, k * 2, none⟩)) rfl (fun u hu => by go_simp) ?_
      simp only [Act.put, List.setIfInBounds_toArray, List.set_cons_zero, List.set_cons_succ]
      refine take_load 3 (.tmp 23) ⟨g, k * 2, none⟩ (.int .i64 (P : Int)) rfl rfl rfl (fun u hu => load_at Try.underlying3 Try.isAgg3 hu.1) ?_
      simp only [Act.put, List.setIfInBounds_toArray, List.set_cons_zero, List.set_cons_succ]
      refine take_move (.tmp 5) (.slice (some ⟨g, 0, none⟩) n vcap) rfl rfl rfl ?_
      simp only [Act.put, List.setIfInBounds_toArray, List.set_cons_zero, List.set_cons_succ]
      refine take_move (.tmp 8) (.int .i64 (k : Int)) rfl rfl rfl ?_
      simp only [Act.put, List.setIfInBounds_toArray, List.set_cons_zero, List.set_cons_succ]
      refine take_one (.pointer (some ⟨g, k * 2, none⟩)) rfl (fun u hu => by go_simp) ?_
      simp only [Act.put, List.setIfInBounds_toArray, List.set_cons_zero, List.set_cons_succ]
      refine take_one (.pointer (some ⟨g, k * 2 + 1, none⟩)) rfl (fun u hu => by go_simp) ?_
      simp only [Act.put, List.setIfInBounds_toArray, List.set_cons_zero, List.set_cons_succ]
      refine take_load 3 (.tmp 28) ⟨g, k * 2 + 1, none⟩ (.int .i64 (M : Int)) rfl rfl rfl (fun u hu => load_at Try.underlying3 Try.isAgg3 hu.2) ?_
      simp only [Act.put, List.setIfInBounds_toArray, List.set_cons_zero, List.set_cons_succ]
      refine take_one (.int .i64 (q : Int)) rfl (fun u hu => by go_simp; rw [Hcw.out]) ?_
      simp only [Act.put, List.setIfInBounds_toArray, List.set_cons_zero, List.set_cons_succ]
      refine take_done ?_
      refine midk_wp rfl (call_wp 12 [.tmp 19, .tmp 30] #[9, 3] #[.string s, .int .i64 (q : Int)] rfl rfl rfl ?_)
      refine (Cal.out _).mono ?_
      rintro e w3 ⟨rfl, hw3⟩
      have hw3' := hw3.symm
      subst hw3'
      refine ⟨_, rfl, ⟨hcl, hcm⟩, ?_⟩
      simp only [Act.put, List.setIfInBounds_toArray, List.set_cons_zero, List.set_cons_succ]
      refine midk_one (.int .i64 (r : Int)) rfl rfl ⟨hcl, hcm⟩ ?_
      simp only [Act.put, List.setIfInBounds_toArray, List.set_cons_zero, List.set_cons_succ]
      refine midk_end ?_
      have hcl : True := trivial
      clear hcm
      have hsD : Below w1.heap.size w1 wr.drew := Hb.out.drew
      have hoD : POwn w1.heap.size u6 ps wr.drew := World.ownsRow.drew Ho.out
      have HsD := Lib.hid hsD; clear hsD
      have HoD := Lib.hid hoD; clear hoD
      by_cases hra : a < r
      · have q1 : decide (a < r) = true := decide_eq_true hra
        have hq : a < q := by
          rcases Nat.lt_or_ge a q with g | g
          · exact g
          · have := Haq2.out (by omega); omega
        have hA2 := Hpos.out hq
        have hwr : IntKind.i64.wrap ((r : Int) - (a : Int)) = ((r - a : Nat) : Int) := by simp only [IntKind.wrap_i64]; omega
        have HA2 := Lib.hid hA2; clear hA2 hq
        have hbs := HsD.out.size
        go_wp2_with (at_builtin; go_loud (refine wpList_append_own_at _ rfl _ _ 31 rfl w1.heap.size 41 i0 (.agg #[.int .i64 0, .int .i64 0]) 2 16 Try.underlying31 hi0 hz0 hz1 hz2 rfl (by decide) _ _ _ rfl (World.ownsRow.alloc HoD.out _) ⟨wr.drew.heap.size, 0, none⟩ 1 1 [.int .i64 (a : Int), .int .i64 ((r - a : Nat) : Int)] rfl rfl (cell_new_row wr.drew [.int .i64 (a : Int), .int .i64 ((r - a : Nat) : Int)] 41) ?c2 ?c3 ?c4 ?c5 ?_))
        case c2 => first | (intro z hz; simp at hz; rcases hz with rfl | rfl <;> rfl) | exact ⟨rfl, rfl⟩
        case c3 => unfold maxLen; omega
        case c4 => omega
        case c5 => have hz := hbs; simp only [World.size_drew] at hz; omega
        intro v' w5 hown5 hgrow _ hvb
        have hbY := box_below wr.drew (.cells #[.int .i64 (a : Int), .int .i64 ((r - a : Nat) : Int)] 41)
        have hb5 : Below w1.heap.size w1 w5 := ((HsD.out).trans (hbY.mono hbs)).grown hgrow (by have := hbY.size; omega) (fun b' h => (World.ownsRow.lt HoD.out b' h).1)
        have hv5 : POwn w1.heap.size v' (ps ++ [(a, r - a)]) w5 := by
          unfold POwn
          rw [List.length_append, List.flatMap_append]
          exact hown5
        have hl5 : (ps ++ [(a, r - a)]).length ≤ k + 1 := by rw [List.length_append]; simp; exact hps
        have Hb5 := Lib.hid hb5; clear hb5
        have Hv5 := Lib.hid hv5; clear hv5
        have Hl5 := Lib.hid hl5; clear hl5
        clear hown5 hgrow hvb hbY hbs
        go_wp2_with fail
        go_roundw
        case rel => exact ⟨k + 1, r, _, by omega, by go_num, rfl, HA2.out, Hl5.out, hal2, .inr Hre.out, Hv5.out, Hb5.out⟩
        case measure => simp [intOf]; omega
      · have q1 : decide (a < r) = false := decide_eq_false hra
        have hA2 := Hneg.out (Haq.out (by omega))
        have HA2 := Lib.hid hA2; clear hA2
        go_wp2_with fail
        go_roundw
        case rel => exact ⟨k + 1, a, ps, by omega, by go_num, rfl, HA2.out, by omega, ha, Hae.out, HoD.out, HsD.out⟩
        case measure => simp [intOf]; omega
    · have g1 : decide (k < n) = false := decide_eq_false hlt
      have hkn : k = n := by omega
      have hAp : A = ps := by rw [hA, List.drop_of_length_le (by rw [HFL.out]; omega)]; simp [Lin.acut, Chu.pcs]
      have ho2 := ho.base (B' := w.heap.size) (by omega)
      have hbe : Below w.heap.size w wr := (Hbw.out.trans (H1.out.mono (by simp))).trans (hb.mono (by omega))
      have Ho := Lib.hid ho2; clear ho2 ho
      have Hbe := Lib.hid hbe; clear hbe hb
      have HAp := Lib.hid hAp; clear hAp hA hkn
      go_wp2_with fail
      go_ret
      exact ⟨_, rfl, by rw [HAp.out]; exact Ho.out, Hbe.out⟩
end Go.Proofs.Ytbcncedgfafpiaa

/-
  The places where texts of a row end, from a place on; the chapter's example.
-/
set_option linter.unusedVariables false
set_option maxRecDepth 100000
namespace Go.Proofs.Ytbcncedgfafpiaa
open Go.RowKit

/-- where the first k texts end, from f on, told from there -/
def endsF (L : List ByteArray) (f k : Nat) : List Nat := ((endsT L k).filter fun x => decide (f ≤ x)).map (· - f)
theorem endsF_succ (L : List ByteArray) (f k : Nat) : endsF L f (k + 1) = if f ≤ tot L (k + 1) then endsF L f k ++ [tot L (k + 1) - f] else endsF L f k := by
  unfold endsF
  rw [endsT_succ, List.filter_append, List.map_append]
  by_cases h : f ≤ tot L (k + 1)
  · simp [h]
  · simp [h]
theorem endsF_len (L : List ByteArray) (f k : Nat) : (endsF L f k).length ≤ k := by
  unfold endsF
  rw [List.length_map]
  refine Nat.le_trans (List.length_filter_le _ _) ?_
  simp [endsT]

set_option maxHeartbeats 1000000 in
theorem lends_any (v : Value) (L : List ByteArray) (f : Nat) (w : World) (h : SRd v L w) (hf : f ≤ 1099511627776) (hL : L.length ≤ 1099511627776) (ht : ∀ k, k ≤ L.length → tot L k ≤ 1099511627776) :
    Calls Try.prog 21 #[v, .int .i64 (f : Int)] w fun e w' => ∃ v', e = .returned v' ∧ IOwn w.heap.size v' (endsF L f L.length) w' ∧ Below w.heap.size w w' := by
  obtain ⟨i0, hi0, hz0, hz1, hz2⟩ := info_parts int_info
  obtain ⟨a, cap, rfl, hcap, hg⟩ := h
  obtain ⟨n, hn⟩ : ∃ n, n = L.length := ⟨_, rfl⟩
  rw [← hn] at hL ht hcap hg ⊢
  have hts := fun k (hk : k < n) => tot_succ L k (by rw [← hn]; exact hk)
  have Hg := Lib.hid hg; clear hg
  have Hts := Lib.hid hts; clear hts
  have Ht := Lib.hid ht; clear ht
  clear hn
  go_enter Try.func21, Try.ntmps21
  go_wp2_with fail
  go_loopw [5, 6, 7] (fun v x i wr => ∃ k : Nat, k ≤ n ∧ i = .int .i64 (k : Int) ∧ x = .int .i64 (tot L k : Nat) ∧ IOwn w.heap.size v (endsF L f k) wr ∧ Below w.heap.size w wr) (fun v x i _ => n - (intOf i).toNat)
  case atStart => exact ⟨0, Nat.zero_le _, rfl, rfl, World.ownsRow_nil _ _ 3 1, Below.refl _ _⟩
  case round =>
    obtain ⟨k, hk, rfl, rfl, hv, hb⟩ := hrel
    by_cases hlt : k < n
    · have g1 : decide (k < n) = true := decide_eq_true hlt
      have g2 : (k : Int) < (n : Int) := by omega
      obtain ⟨b, rfl, d⟩ := Hg.out k hlt
      have cg : wr.cell? ⟨b, k, none⟩ = some (.string (L.getD k .empty)) := by rw [hb.cell (p := ⟨b, k, none⟩) (cell_lt d)]; exact d
      have h1 := Hts.out k hlt
      have h2 := Ht.out (k + 1) (by omega)
      have h3 := endsF_succ L f k
      have hel := endsF_len L f k
      rw [h1] at h2 h3
      have h4 := Ht.out k (by omega)
      generalize L.getD k .empty = z at *
      have hs1 : ((tot L (k + 1) : Nat) : Int) = (tot L k : Nat) + (z.size : Int) := by rw [h1]; omega
      generalize tot L k = q at *
      obtain ⟨y, hy⟩ : ∃ y, y = q + z.size := ⟨_, rfl⟩
      rw [← hy] at h2 h3
      have hys : IntKind.i64.wrap ((q : Int) + (z.size : Int)) = (y : Int) := by simp only [IntKind.wrap_i64]; omega
      have hs2 : ((tot L (k + 1) : Nat) : Int) = (y : Int) := by omega
      have Hs2 := Lib.hid hs2; clear hs2 hs1 h1 d
      have Hv := Lib.hid hv; clear hv
      have Hb := Lib.hid hb; clear hb
      by_cases hfy : f ≤ y
      · have q1 : decide (f ≤ y) = true := decide_eq_true hfy
        have q2 : decide ((f : Int) ≤ (q : Int) + (z.size : Int)) = true := decide_eq_true (by omega)
        rw [if_pos hfy] at h3
        have H3 := Lib.hid h3; clear h3
        have Hy := Lib.hid hy; clear hy
        have hwy : IntKind.i64.wrap ((y : Int) - (f : Int)) = ((y - f : Nat) : Int) := by simp only [IntKind.wrap_i64]; omega
        go_wp2_with (at_builtin; go_loud (refine wpList_append_own_at _ rfl _ _ 44 rfl w.heap.size 3 i0 (.int .i64 0) 1 8 Try.underlying44 hi0 hz0 hz1 hz2 rfl (by decide) _ _ _ rfl (World.ownsRow.alloc Hv.out _) ⟨wr.heap.size, 0, none⟩ 1 1 [.int .i64 ((y - f : Nat) : Int)] rfl rfl (cell_new_row wr [.int .i64 ((y - f : Nat) : Int)] 3) ?c2 ?c3 ?c4 ?c5 ?_))
        case c2 => intro z hz; simp at hz; subst hz; rfl
        case c3 => unfold maxLen; omega
        case c4 => omega
        case c5 => have := Hb.out.size; simp; omega
        intro v' w5 hown5 hgrow _ hvb
        have hs := Hb.out.size
        have hbY := box_below wr (.cells #[.int .i64 ((y - f : Nat) : Int)] 3)
        have hb5 : Below w.heap.size w w5 := ((Hb.out).trans (hbY.mono hs)).grown hgrow (by have := hbY.size; omega) (fun b' h => (World.ownsRow.lt Hv.out b' h).1)
        have hv5 : IOwn w.heap.size v' (endsF L f (k + 1)) w5 := by
          unfold IOwn ints
          rw [H3.out, List.length_append, List.map_append]
          exact hown5
        have Hb5 := Lib.hid hb5; clear hb5
        have Hv5 := Lib.hid hv5; clear hv5
        clear hown5 hgrow hvb hbY hs
        go_wp2_with fail
        go_roundw
        case rel => exact ⟨k + 1, by omega, by go_num, by rw [Hs2.out], Hv5.out, Hb5.out⟩
        case measure => simp [intOf]; omega
      · have q1 : decide (f ≤ y) = false := decide_eq_false hfy
        have q2 : decide ((f : Int) ≤ (q : Int) + (z.size : Int)) = false := decide_eq_false (by omega)
        rw [if_neg hfy] at h3
        have H3 := Lib.hid h3; clear h3
        have Hy := Lib.hid hy; clear hy
        go_wp2_with fail
        go_roundw
        case rel => exact ⟨k + 1, by omega, by go_num, by rw [Hs2.out], by rw [H3.out]; exact Hv.out, Hb.out⟩
        case measure => simp [intOf]; omega
    · have g1 : decide (k < n) = false := decide_eq_false hlt
      have hkn : k = n := by omega
      have Hkn := Lib.hid hkn; clear hkn
      have Hv := Lib.hid hv; clear hv
      have Hb := Lib.hid hb; clear hb
      go_wp2_with fail
      go_ret
      exact ⟨_, rfl, by rw [← Hkn.out]; exact Hv.out, Hb.out⟩

def lcut0 : Ctr := ⟨0, 0, 0, 0, 0⟩
def lcutA : Ctr := ⟨283, 1, 1, 1, 0⟩
def ltxA : ByteArray := ⟨#[97, 98, 10, 99, 10, 100]⟩
def lrows : List ByteArray := [⟨#[97, 98, 10]⟩, ⟨#[99, 10]⟩, ⟨#[100]⟩]
theorem lcut0_not : ¬ lcut0.May := fun h => absurd h.1.1.1 (by decide +kernel)
theorem lcutA_may : lcutA.May := by decide +kernel
theorem lcutA_cut : lcutA.acut ltxA.data.toList = [(0, 3), (3, 2), (5, 1)] := by decide +kernel
theorem lcutA_texts : lcutA.atexts ltxA = lrows := by
  unfold Ctr.atexts
  rw [lcutA_cut]
  rfl
theorem lrecs_is : recs ltxA = lrows := by
  unfold recs recsF
  rw [show Chu.pcs 0 (Lin.ee ltxA.data.toList 0) = [(0, 3), (3, 2), (5, 1)] by decide +kernel]
  rfl
theorem llg_is : lg (recs ltxA) = 3 := by rw [lrecs_is]; rfl
theorem lal_is : alI ltxA 4 = 5 := by decide +kernel
theorem lrows_at (w : World) : SRd (.slice (some ⟨w.heap.size, 0, none⟩) 3 3) lrows (w.alloc (.cells #[.string ⟨#[97, 98, 10]⟩, .string ⟨#[99, 10]⟩, .string ⟨#[100]⟩] 9)) := by
  have := SRd.made (L := lrows) (heap_alloc_new w (.cells #[.string ⟨#[97, 98, 10]⟩, .string ⟨#[99, 10]⟩, .string ⟨#[100]⟩] 9))
  exact this

set_option maxHeartbeats 1000000 in
theorem linAlive_any (w : World) :
    Calls Try.prog 7 #[] w fun e w' => e = .returned (.bool true) ∧ Below w.heap.size w w' := by
  have c1 := fun u => ltexts_any lcutA (by decide) ltxA (by decide) u
  simp only [if_pos lcutA_may, lcutA_texts] at c1
  have c2 := fun u => lcut_any lcut0 (by decide) ltxA (by decide) u
  simp only [if_neg lcut0_not] at c2
  have c3 := fun u => records_any ltxA (by decide) u
  rw [lrecs_is] at c3
  have c4 := fun u => align_any ltxA (by decide) 4 (by decide) u
  rw [lal_is] at c4
  have c5 := fun u => longest_any ltxA (by decide) u
  rw [llg_is] at c5
  have cs := fun v1 v2 u h1 h2 => tsame_any v1 v2 lrows u h1 h2 (by decide)
  unfold Ctr.v lcutA ltxA TxR at c1
  unfold Ctr.v lcut0 ltxA at c2
  unfold ltxA at c3 c4 c5
  have hll : lrows.length = 3 := rfl
  simp only [hll] at c1
  have C1 := Lib.hid c1; clear c1
  have C2 := Lib.hid c2; clear c2
  have C3 := Lib.hid c3; clear c3
  have C4 := Lib.hid c4; clear c4
  have C5 := Lib.hid c5; clear c5
  have Cs := Lib.hid cs; clear cs
  have Hll := Lib.hid hll; clear hll
  go_enter Try.func7, Try.ntmps7
  go_wp2_with fail
  refine (C1.out _).mono ?_; rintro e w1 ⟨h1, g, hg, rfl, hrow⟩
  have hr1 := SRd.made hrow
  rw [Hll.out] at hr1
  have Hr1 := Lib.hid hr1; clear hr1 hrow
  have H1 := Lib.hid h1; clear h1
  clear hg
  go_wp2_with fail
  refine (C2.out _).mono ?_; rintro e w2 ⟨h2, rfl⟩
  have Hr2 := Lib.hid (Hr1.out.new h2); clear Hr1
  have H2 := Lib.hid (H1.out.trans (h2.mono H1.out.size)); clear h2 H1
  go_wp2_with fail
  refine (C3.out _).mono ?_; rintro e w3 ⟨v, rfl, hv, h3⟩
  have Hr3 := Lib.hid (Hr2.out.new h3); clear Hr2
  have H3 := Lib.hid (H2.out.trans (h3.mono H2.out.size)); clear h3 H2
  obtain ⟨va, vc, hvf⟩ := hv.form
  rw [Hll.out] at hvf
  subst hvf
  have Hv := Lib.hid hv.reads; clear hv
  have hb4 := box_below w3 (.cells #[.string ⟨#[97, 98, 10]⟩, .string ⟨#[99, 10]⟩, .string ⟨#[100]⟩] 9)
  have c6 := Cs.out _ _ _ (Hv.out.new hb4) (lrows_at w3)
  have Hr4 := Lib.hid (Hr3.out.new hb4); clear Hr3
  have H4 := Lib.hid (H3.out.trans (hb4.mono H3.out.size)); clear hb4 H3
  have C6 := Lib.hid c6; clear c6 Hv
  go_wp2_with fail
  refine C6.out.mono ?_; rintro e w5 ⟨rfl, h5⟩
  have Hr5 := Lib.hid (Hr4.out.new h5); clear Hr4
  have H5 := Lib.hid (H4.out.trans (h5.mono H4.out.size)); clear h5 H4 C6
  have hb6 := box_below w5 (.cells #[.string ⟨#[97, 98, 10]⟩, .string ⟨#[99, 10]⟩, .string ⟨#[100]⟩] 9)
  have c7 := Cs.out _ _ _ (Hr5.out.new hb6) (lrows_at w5)
  have H6 := Lib.hid (H5.out.trans (hb6.mono H5.out.size)); clear hb6 H5 Hr5
  have C7 := Lib.hid c7; clear c7
  go_wp2_with fail
  refine C7.out.mono ?_; rintro e w7 ⟨rfl, h7⟩
  have H7 := Lib.hid (H6.out.trans (h7.mono H6.out.size)); clear h7 H6 C7
  go_wp2_with fail
  refine (C4.out _).mono ?_; rintro e w8 ⟨rfl, rfl⟩
  go_wp2_with fail
  refine (C5.out _).mono ?_; rintro e w9 ⟨rfl, h9⟩
  have H9 := Lib.hid (H7.out.trans (h9.mono H7.out.size)); clear h9 H7
  go_wp2_with fail
  go_ret
  exact ⟨rfl, H9.out⟩
end Go.Proofs.Ytbcncedgfafpiaa

/-
  Plain mathematics of layer 10's laws: where records and aligned pieces end, one behind the other.
-/
set_option linter.unusedVariables false
namespace Go.Proofs.Ytbcncedgfafpiaa
open Go.RowKit

theorem endsT_pcs (s : ByteArray) (E : List Nat) (h1 : ∀ x ∈ E, x ≤ s.size) (h2 : (0 :: E).Pairwise (· ≤ ·)) : endsT (pcTexts s (Chu.pcs 0 E)) E.length = E := by
  apply List.ext_getElem
  · simp [endsT]
  · intro j h3 h4
    have ht := tot_pcs s 0 E j h1 h2 h4
    simp only [endsT, List.getElem_map, List.getElem_range]
    rw [List.getD_eq_getElem?_getD, List.getElem?_eq_getElem h4] at ht
    simpa using ht
theorem pw_le {l : List Nat} (h : l.Pairwise (· < ·)) : l.Pairwise (· ≤ ·) := h.imp (fun h => Nat.le_of_lt h)
namespace Lin
theorem ee_pw (l : List UInt8) (i : Nat) : (i :: ee l i).Pairwise (· < ·) := List.pairwise_cons.2 ⟨fun x hx => ((ee_mem l i x).1 hx).1, Chu.mks_pw _ _ _⟩
theorem ee_last {l : List UInt8} {n : Nat} (h : (ee l 0).length = n) : (n = 0 ∧ l.length = 0) ∨ (1 ≤ n ∧ (ee l 0).getD (n - 1) 0 = l.length) := by
  rcases Nat.eq_zero_or_pos l.length with h0 | h0
  · exact .inl ⟨by rw [← h, ee_nil (by omega)]; rfl, h0⟩
  · refine .inr ?_
    have hm := (ee_mem l 0 l.length).2 ⟨h0, Nat.le_refl _, isE_len l⟩
    obtain ⟨j, hj, e⟩ := List.getElem_of_mem hm
    have hj1 : j = n - 1 := by
      rcases Nat.lt_or_ge (j + 1) n with g | g
      · have h1 := List.pairwise_iff_getElem.1 (List.pairwise_cons.1 (ee_pw l 0)).2 j (j + 1) hj (by omega) (by omega)
        have h2 := ((ee_mem l 0 _).1 (List.getElem_mem (by omega : j + 1 < (ee l 0).length))).2.1
        omega
      · omega
    refine ⟨by omega, ?_⟩
    rw [← hj1, List.getD_eq_getElem?_getD, List.getElem?_eq_getElem hj]
    exact e
end Lin
theorem recs_len (s : ByteArray) : (recs s).length = (Lin.ee s.data.toList 0).length := by
  unfold recs recsF
  rw [pcTexts_length, Chu.pcs_length]
theorem recs_endsT (s : ByteArray) : endsT (recs s) (recs s).length = Lin.ee s.data.toList 0 := by
  rw [recs_len]
  exact endsT_pcs s _ (fun x hx => by rw [← ba_len]; exact ((Lin.ee_mem _ _ _).1 hx).2.1) (pw_le (Lin.ee_pw _ _))
theorem recs_tot {s : ByteArray} {k : Nat} (h : k < (recs s).length) : tot (recs s) (k + 1) ∈ Lin.ee s.data.toList 0 := by
  rw [← recs_endsT]
  exact List.mem_map.2 ⟨k, List.mem_range.2 h, rfl⟩
theorem recs_all (s : ByteArray) : tot (recs s) (recs s).length = s.size := by
  have hl := recs_len s
  rcases Lin.ee_last (l := s.data.toList) rfl with ⟨h1, h2⟩ | ⟨h1, h2⟩
  · rw [hl, h1, tot_zero]; rw [ba_len] at h2; exact h2.symm
  · obtain ⟨m, hm⟩ : ∃ m, (recs s).length = m + 1 := ⟨(recs s).length - 1, by omega⟩
    rw [hm]
    have : (endsT (recs s) (recs s).length).getD m 0 = tot (recs s) (m + 1) := by
      rw [hm]; simp [endsT, List.getD_eq_getElem?_getD]
    rw [← this, recs_endsT, show m = (Lin.ee s.data.toList 0).length - 1 by omega, h2, ba_len]
/-- what LinesAlign asks of a place that is aligned -/
structure AlF (s : ByteArray) (a : Int) (x : Nat) : Prop where
  le : x ≤ s.size
  ge : a ≤ (s.size : Int) → a ≤ (x : Int)
  again : alI s (x : Int) = x
  isx : s.size = 0 ∨ x ∈ Lin.ee s.data.toList 0
  least : ∀ e ∈ Lin.ee s.data.toList 0, e < x → (e : Int) < a
theorem alF (s : ByteArray) (a : Int) : AlF s a (alI s a) := by
  have hl := ba_len s
  unfold alI
  rcases Nat.lt_or_ge s.data.toList.length (max a.toNat 1) with h | h
  · have e := Lin.al_big h
    have hx : Lin.al s.data.toList a.toNat = s.size := by rw [e, hl]
    refine ⟨by omega, fun g => by omega, ?_, ?_, fun z hz g => ?_⟩
    · unfold alI
      rw [hx, Int.toNat_natCast]
      rcases Nat.eq_zero_or_pos s.size with q | q
      · rw [Lin.al_big (by omega), hl]
      · exact Lin.al_eq (by omega) (by omega) (by rw [← hl]; exact Lin.isE_len _) (fun j x y => by omega)
    · rcases Nat.eq_zero_or_pos s.size with q | q
      · exact .inl q
      · exact .inr ((Lin.ee_mem _ _ _).2 ⟨by omega, by omega, by rw [hx, ← hl]; exact Lin.isE_len _⟩)
    · rw [hx] at g; omega
  · obtain ⟨h1, h2, h3, h4⟩ := Lin.al_range h
    refine ⟨by omega, fun g => by omega, ?_, .inr ((Lin.ee_mem _ _ _).2 ⟨by omega, by omega, h3⟩), fun z hz g => ?_⟩
    · unfold alI
      rw [Int.toNat_natCast]
      exact Lin.al_eq (by omega) h2 h3 (fun j x y => by omega)
    · obtain ⟨z1, z2, z3⟩ := (Lin.ee_mem _ _ _).1 hz
      rcases Nat.lt_or_ge z (max a.toNat 1) with q | q
      · omega
      · rw [h4 z q g] at z3; cases z3
theorem al_mono (s : ByteArray) {a b : Int} (h : a ≤ b) : alI s a ≤ alI s b := by
  have hl := ba_len s
  unfold alI
  rcases Nat.lt_or_ge s.data.toList.length (max b.toNat 1) with hb | hb
  · rw [Lin.al_big hb]; exact Lin.al_le _ _
  · obtain ⟨h1, h2, h3, h4⟩ := Lin.al_range hb
    obtain ⟨g1, g2, g3, g4⟩ := Lin.al_range (l := s.data.toList) (a := a.toNat) (by omega)
    rcases Nat.lt_or_ge (Lin.al s.data.toList b.toNat) (Lin.al s.data.toList a.toNat) with q | q
    · rw [g4 _ (by omega) q] at h3; cases h3
    · exact q
/-- has one of the first k ends been x -/
def seen (z : Bool) (T : Nat → Nat) (x : Nat) : Nat → Bool
  | 0 => z
  | k + 1 => seen z T x k || T (k + 1) == x
theorem seen_at (z : Bool) (T : Nat → Nat) (x : Nat) : ∀ (n k : Nat), k < n → T (k + 1) = x → seen z T x n = true
  | 0, k, h, _ => by omega
  | n + 1, k, h, e => by
    unfold seen
    rcases Nat.lt_or_ge k n with g | g
    · rw [seen_at z T x n k g e]; rfl
    · rw [show n = k by omega, e]; simp
theorem seen_zero (z : Bool) (T : Nat → Nat) (x : Nat) (h : z = true) : ∀ n, seen z T x n = true
  | 0 => h
  | n + 1 => by unfold seen; rw [seen_zero z T x h n]; rfl
theorem seen_all (s : ByteArray) (a : Int) : seen (decide (s.size = 0)) (tot (recs s)) (alI s a) (recs s).length = true := by
  rcases (alF s a).isx with h | h
  · exact seen_zero _ _ _ (decide_eq_true h) _
  · rw [← recs_endsT] at h
    obtain ⟨k, hk, e⟩ := List.mem_map.1 h
    exact seen_at _ _ _ _ k (List.mem_range.1 hk) e
end Go.Proofs.Ytbcncedgfafpiaa
