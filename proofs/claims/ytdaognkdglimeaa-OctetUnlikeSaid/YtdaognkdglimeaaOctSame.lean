/-
  What Same and Long return.
-/
import Derived.Test.YtdaognkdglimeaaGoStrs
import Derived.Test.YtdaognkdglimeaaRows
import Derived.Deep.QuietTactic
import Derived.BigQuiet
import Derived.Lib.Strings
set_option linter.unusedVariables false
namespace Go.Proofs.Ytdaognkdglimeaa
open Go.RowKit

/-- the first k texts are the same -/
def Alike (a b : List ByteArray) (k : Nat) : Prop := ∀ j, j < k → a.getD j .empty = b.getD j .empty

theorem Alike.all {a b : List ByteArray} (h : Alike a b a.length) (hl : a.length = b.length) : a = b := by
  apply List.ext_getElem hl
  intro i h1 h2
  have := h i h1
  simpa [List.getD_eq_getElem?_getD, h1, h2] using this

theorem Alike.next {a b : List ByteArray} {k : Nat} (h : Alike a b k) (hk : a.getD k .empty = b.getD k .empty) : Alike a b (k + 1) := by
  intro j hj
  by_cases e : j = k
  · subst e; exact hk
  · exact h j (by omega)

def sameB (a b : List ByteArray) : Bool := decide (a = b)

theorem Below.draws {B : Nat} {w w' : World} (h : Below B w w') (n : Nat) : Below B w (w'.drewN n) := ⟨h.os, h.tape, h.output, h.size, h.block⟩

set_option maxHeartbeats 400000 in
theorem same_any (a1 a2 : Option Addr) (n1 n2 c1 c2 : Nat) (l1 l2 : List ByteArray) (w : World) (h1 : Strs a1 n1 l1 w) (h2 : Strs a2 n2 l2 w) (hm : n1 ≤ 8796093022208) (hm2 : n2 ≤ 8796093022208) :
    Calls Try.prog 25 #[.slice a1 n1 c1, .slice a2 n2 c2] w fun e w' => e = .returned (.bool (sameB l1 l2)) ∧ Below w.heap.size w w' := by
  by_cases hn : n1 = n2
  · subst hn
    have H1 := Lib.hid h1; clear h1
    have H2 := Lib.hid h2; clear h2
    go_enter Try.func25, Try.ntmps25
    go_wp2
    go_loopw [5] (fun i wr => ∃ k : Nat, k ≤ n1 ∧ i = .int .i64 k ∧ Alike l1 l2 k ∧ Below w.heap.size w wr) (fun i _ => n1 - (intOf i).toNat)
    case atStart => exact ⟨0, by omega, rfl, fun j hj => by omega, Below.refl _ _⟩
    case round =>
      obtain ⟨k, hk, rfl, hal, hb⟩ := hrel
      by_cases hlt : k < n1
      · obtain ⟨b1, o1, rfl, hc1⟩ := (H1.out.keep hb).2 k hlt
        obtain ⟨b2, o2, rfl, hc2⟩ := (H2.out.keep hb).2 k hlt
        by_cases he : l1.getD k .empty = l2.getD k .empty
        · have hn := hal.next he
          rw [← he] at hc2
          generalize l1.getD k .empty = x at *
          have Hn := Lib.hid hn; clear hn
          have Ha := Lib.hid hal; clear hal
          have He := Lib.hid he; clear he
          have hlt2 : (k : Int) < (n1 : Int) := by omega
          go_wp2
          go_quiet (fail)
          go_wp2
          go_roundw
          case rel => exact ⟨k + 1, by omega, by go_num, Hn.out, Below.draws hb _⟩
          case measure => simp [intOf]; omega
        · have hne : sameB l1 l2 = false := decide_eq_false (fun c => he (by rw [c]))
          have hx : ((l1.getD k .empty).toList == (l2.getD k .empty).toList) = false := by
            rw [beq_eq_false_iff_ne]
            intro c
            rw [Lib.toList_data, Lib.toList_data] at c
            exact he (by rw [← ba_eta (l1.getD k .empty), c, ba_eta])
          generalize l1.getD k .empty = x at *
          generalize l2.getD k .empty = y at *
          have Hne := Lib.hid hne; clear hne
          have Ha := Lib.hid hal; clear hal
          have He := Lib.hid he; clear he
          have hlt2 : (k : Int) < (n1 : Int) := by omega
          go_wp2
          go_quiet (fail)
          go_wp2
          go_ret
          exact ⟨by rw [Hne.out]; rfl, Below.draws hb _⟩
      · obtain rfl : k = n1 := by omega
        have hs : sameB l1 l2 = true := decide_eq_true (by
          refine Alike.all ?_ (by rw [H1.out.1, H2.out.1])
          rw [H1.out.1]; exact hal)
        have Hs := Lib.hid hs; clear hs
        have Ha := Lib.hid hal; clear hal
        go_wp2
        go_ret
        exact ⟨by rw [Hs.out]; rfl, hb⟩
  · have hs : sameB l1 l2 = false := decide_eq_false (fun c => hn (by rw [← h1.1, ← h2.1, c]))
    have hne : ((n1 : Int) != (n2 : Int)) = true := by rw [bne_iff_ne]; omega
    have Hs := Lib.hid hs; clear hs
    have Hn := Lib.hid hn; clear hn
    have H1 := Lib.hid h1; clear h1
    have H2 := Lib.hid h2; clear h2
    go_enter Try.func25, Try.ntmps25
    go_wp2
    go_ret
    exact ⟨by rw [Hs.out]; rfl, Below.refl _ _⟩

/-- Long, as it should be -/
def longB (l : List ByteArray) : Bool := decide (300 < l.length) || decide (262144 < tot l (min l.length 400))

set_option maxHeartbeats 400000 in
theorem long_any (a : Option Addr) (n c : Nat) (l : List ByteArray) (w : World) (h : Strs a n l w) (hm : n ≤ 8796093022208) (hz : ∀ x ∈ l, x.size ≤ 140737488351232) :
    Calls Try.prog 16 #[.slice a n c] w fun e w' => e = .returned (.bool (longB l)) ∧ w = w' := by
  have htl := fun k => tot_le l k _ hz
  have hts := fun k => tot_succ l k
  have hgl := fun k => getD_size_le l _ hz k
  have hl : l.length = n := h.1
  have H := Lib.hid h; clear h
  have Htl := Lib.hid htl; clear htl
  have Hts := Lib.hid hts; clear hts
  have Hgl := Lib.hid hgl; clear hgl
  have Hl := Lib.hid hl; clear hl
  have Hz := Lib.hid hz; clear hz
  go_enter Try.func16, Try.ntmps16
  go_wp2
  go_loop [3, 4] (fun s i => ∃ k : Nat, k ≤ n ∧ k ≤ 400 ∧ i = .int .i64 k ∧ s = .int .i64 (tot l k)) (fun _ i => n - (intOf i).toNat)
  case atStart => exact ⟨0, by omega, by omega, rfl, by rw [tot_zero]; rfl⟩
  case round =>
    obtain ⟨k, hk, hk4, rfl, rfl⟩ := hrel
    by_cases hlt : k < n ∧ k < 400
    · obtain ⟨b, o, rfl, hc⟩ := H.out.2 k hlt.1
      have h1 := Htl.out k
      have h2 := Hgl.out k
      have h3 := Hts.out k (by rw [Hl.out]; exact hlt.1)
      have h4 : tot l k ≤ 400 * 140737488351232 := Nat.le_trans h1 (Nat.mul_le_mul_right _ (by omega))
      generalize l.getD k .empty = x at *
      generalize htk : tot l k = q at *
      have Htk := Lib.hid htk; clear htk
      have H3 := Lib.hid h3; clear h3
      clear h1
      obtain ⟨hlt1, hlt4⟩ := hlt
      have hd : decide ((k : Int) < 400) = true := decide_eq_true (by omega)
      go_wp2
      go_round
      case rel => exact ⟨k + 1, by omega, by omega, by go_num, by rw [H3.out]; go_num⟩
      case measure => simp [intOf]; omega
    · have hmin : k = min l.length 400 := by rw [Hl.out]; omega
      have hlb : longB l = (decide (300 < n) || decide (262144 < tot l k)) := by unfold longB; rw [← hmin, Hl.out]
      have hkn : (k < n ∧ decide ((k : Int) < 400) = false) ∨ ¬ k < n := by
        by_cases h : k < n
        · exact .inl ⟨h, decide_eq_false (by omega)⟩
        · exact .inr h
      clear hmin hlt
      generalize tot l k = q at *
      by_cases h3 : 300 < n
      · have hlb2 : longB l = true := by rw [hlb]; simp [h3]
        have hd3 : decide ((300 : Int) < (n : Int)) = true := decide_eq_true (by omega)
        have Hlb := Lib.hid hlb2; clear hlb hlb2 h3
        rcases hkn with ⟨h1, h2⟩ | h1
        all_goals
          go_wp2
          go_ret
          exact ⟨by rw [Hlb.out]; rfl, rfl⟩
      · have hd3 : decide ((300 : Int) < (n : Int)) = false := decide_eq_false (by omega)
        by_cases h26 : 262144 < q
        · have hlb2 : longB l = true := by rw [hlb]; simp [h26]
          have hd2 : decide ((262144 : Int) < (q : Int)) = true := decide_eq_true (by omega)
          have Hlb := Lib.hid hlb2; clear hlb hlb2 h3 h26
          rcases hkn with ⟨h1, h2⟩ | h1
          all_goals
            go_wp2
            go_ret
            exact ⟨by rw [Hlb.out]; rfl, rfl⟩
        · have hlb2 : longB l = false := by rw [hlb]; simp [h3, h26]
          have hd2 : decide ((262144 : Int) < (q : Int)) = false := decide_eq_false (by omega)
          have Hlb := Lib.hid hlb2; clear hlb hlb2 h3 h26
          rcases hkn with ⟨h1, h2⟩ | h1
          all_goals
            go_wp2
            go_ret
            exact ⟨by rw [Hlb.out]; rfl, rfl⟩

end Go.Proofs.Ytdaognkdglimeaa
