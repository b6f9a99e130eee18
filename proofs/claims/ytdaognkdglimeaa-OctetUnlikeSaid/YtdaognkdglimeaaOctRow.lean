/-
  What Row and the document's answer for it return.
-/
import Derived.Test.YtdaognkdglimeaaOctText
import Derived.Test.YtdaognkdglimeaaOctPure5
import Derived.Test.YtdaognkdglimeaaGoStrs
import Derived.Test.YtdaognkdglimeaaGoBuilder
set_option linter.unusedVariables false
namespace Go.Proofs.Ytdaognkdglimeaa
open Go.RowKit

theorem row_long (l : List (List UInt8)) (h : ¬ l.length ≤ 65535) : Oct.row l = ([], 5) := if_neg (fun c => h c.1)
theorem row_over (l : List (List UInt8)) (k : Nat) (hk : k < l.length) (h : ¬ l[k].length ≤ 65535) : Oct.row l = ([], 5) := if_neg (fun c => h (c.2 _ (List.getElem_mem hk)))
theorem row_fits (l : List (List UInt8)) (h : l.length ≤ 65535) (h2 : ∀ j (hj : j < l.length), l[j].length ≤ 65535) : Oct.row l = (Oct.le 2 l.length ++ Oct.body l, 0) :=
  if_pos ⟨h, fun t ht => by obtain ⟨j, hj, rfl⟩ := List.getElem_of_mem ht; exact h2 j hj⟩

/-- the first k texts fit -/
def Fit (L : List (List UInt8)) (k : Nat) : Prop := ∀ j (h : j < L.length), j < k → L[j].length ≤ 65535

theorem Fit.next {L : List (List UInt8)} {k : Nat} (h : Fit L k) (hk : k < L.length) (hc : L[k].length ≤ 65535) : Fit L (k + 1) := by
  intro j hj hjk
  by_cases e : j = k
  · subst e; exact hc
  · exact h j hj (by omega)

theorem Fit.body {L : List (List UInt8)} {k : Nat} (h : Fit L k) (hk : k ≤ 65535) : (Oct.body (L.take k)).length ≤ 4295032832 := by
  have h1 := Oct.body_length (L.take k) (fun t ht => by
    obtain ⟨j, hj, rfl⟩ := List.getElem_of_mem ht
    rw [List.getElem_take]
    have : j < min k L.length := by simpa using hj
    exact h j (by omega) (by omega))
  have h2 : (L.take k).length ≤ k := List.length_take_le _ _
  omega

set_option maxHeartbeats 400000 in
theorem refRow_any (a : Option Addr) (len cap : Nat) (l : List ByteArray) (w : World) (hs : Strs a len l w) (hm : len ≤ 140737488355328) (hz : ∀ j, (l.getD j .empty).size ≤ 9223372036854700000) :
    Calls Try.prog 18 #[.slice a len cap] w fun e w' => e = .returned (.tuple #[.string ⟨(Oct.row (lists l)).1.toArray⟩, .int .i64 (Oct.row (lists l)).2]) ∧ Below w.heap.size w w' := by
  have hll : (lists l).length = len := by rw [lists_length]; exact hs.1
  by_cases hlen : len ≤ 65535
  · have hle : (Oct.le 2 len).length ≤ 2 := Nat.le_of_eq (Oct.le_length _ _)
    have hl0 : (lists l).length ≤ len := Nat.le_of_eq hll
    have hl1 : len ≤ (lists l).length := Nat.le_of_eq hll.symm
    have Hll := Lib.hid hll; clear hll
    have Hs := Lib.hid hs; clear hs
    have Hz := Lib.hid hz; clear hz
    go_enter Try.func18, Try.ntmps18
    go_wp2_with (go_at_call 26; refine (refNum_any len 2 _ (by omega) (by omega)).mono ?_; rintro e w1 ⟨rfl, hb1⟩)
    go_loopw [4, 5] (fun s i wr => ∃ k : Nat, k ≤ len ∧ i = .int .i64 k ∧ s = .string ⟨(Oct.le 2 len ++ Oct.body ((lists l).take k)).toArray⟩ ∧ Fit (lists l) k ∧ Below w.heap.size w wr) (fun _ i _ => len - (intOf i).toNat)
    case atStart => exact ⟨0, by omega, rfl, by simp [Oct.body], fun j h hj => by omega, hb1⟩
    case round =>
      obtain ⟨k, hk, rfl, rfl, hf, hb⟩ := hrel
      by_cases hlt : k < len
      · obtain ⟨b, off, rfl, hc⟩ := (Hs.out.keep hb).2 k hlt
        have hg := lists_get l k (by rw [← lists_length]; omega) (by omega)
        have hzk := Hz.out k
        have htx := fun u => refText_any (l.getD k .empty) u hzk
        have hbs := Oct.body_take_succ (lists l) k (by omega)
        have hfb := hf.body (by omega)
        have hA : (Oct.le 2 len ++ Oct.body ((lists l).take k)).length ≤ 4295032840 := by rw [List.length_append]; omega
        rw [hg] at hbs
        have hover := row_over (lists l) k (by omega)
        have hnext := hf.next (show k < (lists l).length by omega)
        rw [hg, ba_len] at hover hnext
        rw [ba_len] at hbs
        generalize l.getD k .empty = x at *
        by_cases h6 : x.size ≤ 65535
        · have hT : Oct.text x.data.toList = (Oct.le 2 x.size ++ x.data.toList, 0) := by unfold Oct.text; rw [ba_len, if_pos h6]
          have hTl : (Oct.le 2 x.size ++ x.data.toList).length ≤ 65537 := by rw [List.length_append, Oct.le_length, ba_len]; omega
          have hn := hnext h6
          rw [hT] at htx
          have hrel2 : Oct.le 2 len ++ Oct.body ((lists l).take (k + 1)) = (Oct.le 2 len ++ Oct.body ((lists l).take k)) ++ (Oct.le 2 x.size ++ x.data.toList) := by rw [hbs]; simp
          generalize Oct.le 2 x.size ++ x.data.toList = T at *
          have Hrel2 := Lib.hid hrel2; clear hrel2
          generalize Oct.le 2 len ++ Oct.body ((lists l).take k) = A at *
          have Htx := Lib.hid htx; clear htx
          have Hf := Lib.hid hf; clear hf
          have Hn := Lib.hid hn; clear hn
          have Hg := Lib.hid hg; clear hg
          have Ht := Lib.hid hT; clear hT
          clear hbs hover hnext
          go_wp2_with (go_at_call 24; refine (Htx.out _).mono ?_; rintro e w2 ⟨rfl, hb2⟩)
          go_roundw
          case rel => exact ⟨k + 1, by omega, by go_num, by rw [cat_list, Hrel2.out], Hn.out, hb.trans (hb2.mono (Below.size hb))⟩
          case measure => simp [intOf]; omega
        · have hT : Oct.text x.data.toList = ([], 5) := by unfold Oct.text; rw [ba_len, if_neg h6]
          have hr := hover h6
          rw [hT] at htx
          have Htx := Lib.hid htx; clear htx
          have Hf := Lib.hid hf; clear hf
          have Hr := Lib.hid hr; clear hr
          have Hg := Lib.hid hg; clear hg
          have Ht := Lib.hid hT; clear hT
          clear hbs hover hnext hA hfb
          go_wp2_with (go_at_call 24; refine (Htx.out _).mono ?_; rintro e w2 ⟨rfl, hb2⟩)
          go_ret2
          exact ⟨by rw [Hr.out]; rfl, hb.trans (hb2.mono (Below.size hb))⟩
      · obtain rfl : k = len := by omega
        have hr := row_fits (lists l) (by omega) (fun j hj => hf j hj (by omega))
        have he : (lists l).take k = lists l := List.take_of_length_le hl0
        rw [he]
        rw [Hll.out] at hr
        have Hr := Lib.hid hr; clear hr
        have He := Lib.hid he; clear he
        have Hf := Lib.hid hf; clear hf
        go_wp2
        go_ret2
        exact ⟨by rw [Hr.out]; rfl, hb⟩
  · have hr := row_long (lists l) (by omega)
    have Hr := Lib.hid hr; clear hr
    have Hll := Lib.hid hll; clear hll
    have Hs := Lib.hid hs; clear hs
    have Hz := Lib.hid hz; clear hz
    go_enter Try.func18, Try.ntmps18
    go_wp2
    go_ret2
    exact ⟨by rw [Hr.out]; rfl, Below.refl _ _⟩

end Go.Proofs.Ytdaognkdglimeaa
