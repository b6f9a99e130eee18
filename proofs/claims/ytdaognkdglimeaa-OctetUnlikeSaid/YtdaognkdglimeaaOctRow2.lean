/-
  What Row returns.
-/
import Derived.Test.YtdaognkdglimeaaOctRow
set_option linter.unusedVariables false
namespace Go.Proofs.Ytdaognkdglimeaa
open Go.RowKit

/-- the builder in block B holds these bytes -/
def Holds (B : Nat) (bs : List UInt8) (w : World) : Prop := Lib.IsBuilder 53 5 B B (Lib.byteCells bs) w

theorem grown_of_below {w w' : World} (h : Below w.heap.size w w') : w.grownBy w' none := ⟨h.os, h.tape, h.output, h.size, fun k hk _ => h.block k hk⟩

theorem builderAt_keep {T e : TypeId} {B b : Nat} {p : Value} {bs : List Value} {w w' : World} (h : Lib.BuilderAt T e B b p bs w) (hb : Below w.heap.size w w') : Lib.BuilderAt T e B b p bs w' := by
  have hlt := h.lt
  obtain ⟨h1, v, h2, h3, h4⟩ := h
  refine ⟨h1, v, by rw [hb.block b hlt]; exact h2, h3.kept (grown_of_below hb) ?_, h4⟩
  by_cases e : v.ownBlock = none
  · exact .inl e
  · exact .inr e

theorem Holds.keep {B : Nat} {bs : List UInt8} {w w' : World} (h : Holds B bs w) (hb : Below w.heap.size w w') : Holds B bs w' := by
  rcases h with h | h
  · exact .inl (builderAt_keep h hb)
  · exact .inr (builderAt_keep h hb)

theorem write_any (B : Nat) (bs : List UInt8) (s : ByteArray) (w : World) (h : Holds B bs w) (hlen : bs.length + s.size ≤ 140737488355328) (hB : B ≤ w.heap.size) :
    Calls Try.prog 29 #[.pointer (some ⟨B, 0, none⟩), .string s] w fun e w' => e = .returned (.tuple #[.int .i64 s.size, .nilIface]) ∧ Holds B (bs ++ s.data.toList) w' ∧ Below B w w' := by
  refine (Try.writeString B B (Lib.byteCells bs) s w h (by rw [Lib.byteCells_length]; exact hlen) hB).mono ?_
  rintro e w' ⟨he, h1, h2⟩
  refine ⟨he, .inr ?_, h2⟩
  rw [Lib.byteCells_append, ← Lib.strCells_eq]
  exact h1

theorem grow_any (B n : Nat) (w : World) (hbk : w.heap[B]? = some (.cells #[.pointer none, .slice none 0 0] 53 (0, 0))) (hBw : B ≤ w.heap.size) (hn : n ≤ 281474976710656) :
    Calls Try.prog 28 #[.pointer (some ⟨B, 0, none⟩), .int .i64 n] w fun e w' => e = .returned (.tuple #[]) ∧ Holds B [] w' ∧ Below B w w' := by
  refine (Try.Builder_Grow_fresh B B n w (Nat.le_refl _) hbk hBw hn).mono ?_
  rintro e w' ⟨he, h1, h2⟩
  exact ⟨he, .inr h1, h2⟩

theorem string_any (B : Nat) (bs : List UInt8) (w : World) (h : Holds B bs w) (hB : B ≤ w.heap.size) :
    Calls Try.prog 31 #[.pointer (some ⟨B, 0, none⟩)] w fun e w' => e = .returned (.string ⟨bs.toArray⟩) ∧ Below B w w' :=
  Try.Builder_String_any B B bs w h hB

set_option maxHeartbeats 400000 in
theorem octRow_any (a : Option Addr) (len cap : Nat) (l : List ByteArray) (w : World) (hs : Strs a len l w) (hm : len ≤ 140737488355328) (hz : ∀ j, (l.getD j .empty).size ≤ 9223372036854700000) :
    Calls Try.prog 17 #[.slice a len cap] w fun e w' => e = .returned (.tuple #[.string ⟨(Oct.row (lists l)).1.toArray⟩, .int .i64 (Oct.row (lists l)).2]) ∧ Below w.heap.size w w' := by
  have hll : (lists l).length = len := by rw [lists_length]; exact hs.1
  by_cases hlen : len ≤ 65535
  · have hle : (Oct.le 2 len).length ≤ 2 := Nat.le_of_eq (Oct.le_length _ _)
    have hl0 : (lists l).length ≤ len := Nat.le_of_eq hll
    have hl1 : len ≤ (lists l).length := Nat.le_of_eq hll.symm
    have Hll := Lib.hid hll; clear hll
    have Hs := Lib.hid hs; clear hs
    have Hz := Lib.hid hz; clear hz
    go_enter Try.func17, Try.ntmps17
    go_wp2
    go_loop [4, 15] (fun s i => ∃ k : Nat, k ≤ len ∧ i = .int .i64 k ∧ s = .int .i64 ((2 + (Oct.body ((lists l).take k)).length : Nat) : Int) ∧ Fit (lists l) k) (fun _ i => len - (intOf i).toNat)
    case atStart => exact ⟨0, by omega, rfl, by simp [Oct.body], fun j h hj => by omega⟩
    case round =>
      obtain ⟨k, hk, rfl, rfl, hf⟩ := hrel
      have hfb := hf.body (by omega)
      by_cases hlt : k < len
      · obtain ⟨b, off, rfl, hc⟩ := Hs.out.2 k hlt
        have hg := lists_get l k (by rw [← lists_length]; omega) (by omega)
        have hbs := Oct.body_take_succ (lists l) k (by omega)
        have hover := row_over (lists l) k (by omega)
        have hnext := hf.next (show k < (lists l).length by omega)
        rw [hg, ba_len] at hover hnext
        rw [hg, ba_len] at hbs
        have hzk := Hz.out k
        generalize l.getD k .empty = x at *
        by_cases h6 : x.size ≤ 65535
        · have hn := hnext h6
          have hl2 : (Oct.body ((lists l).take (k + 1))).length = (Oct.body ((lists l).take k)).length + (2 + x.size) := by
            rw [hbs, List.length_append, List.length_append, Oct.le_length, ba_len]
          generalize (Oct.body ((lists l).take k)).length = q at *
          have Hl2 := Lib.hid hl2; clear hl2
          have Hf := Lib.hid hf; clear hf
          have Hn := Lib.hid hn; clear hn
          have Hg := Lib.hid hg; clear hg
          clear hbs hover hnext
          go_wp2
          go_round
          case rel => exact ⟨k + 1, by omega, by go_num, by rw [Hl2.out]; go_num, Hn.out⟩
          case measure => simp [intOf]; omega
        · have hr := hover h6
          have Hf := Lib.hid hf; clear hf
          have Hr := Lib.hid hr; clear hr
          have Hg := Lib.hid hg; clear hg
          clear hbs hover hnext
          go_wp2
          go_ret2
          exact ⟨by rw [Hr.out]; rfl, Below.refl _ _⟩
      · obtain rfl : k = len := by omega
        have hr := row_fits (lists l) (by omega) (fun j hj => hf j hj (by omega))
        have he : (lists l).take k = lists l := List.take_of_length_le hl0
        have hszb : 2 + (Oct.body ((lists l).take k)).length ≤ 281474976710656 := by omega
        generalize hq : (Oct.body ((lists l).take k)).length = q at *
        rw [Hll.out] at hr
        have Hr := Lib.hid hr; clear hr
        have He := Lib.hid he; clear he
        have Hf := Lib.hid hf; clear hf
        have Hq := Lib.hid hq; clear hq
        have hbk : (w.alloc (.cells #[.pointer none, .slice none 0 0] 53)).heap[w.heap.size]? = some (.cells #[.pointer none, .slice none 0 0] 53 (0, 0)) := by
          show (w.heap.push _)[w.heap.size]? = _
          simp
        have Hbk := Lib.hid hbk; clear hbk
        have hB0 : Below w.heap.size w (w.alloc (.cells #[.pointer none, .slice none 0 0] 53)) := (Below.refl _ _).alloc (Nat.le_refl _) _
        have HB0 := Lib.hid hB0; clear hB0
        have hgw : ∀ u, u = w.alloc (.cells #[.pointer none, .slice none 0 0] 53) → Calls Try.prog 28 #[.pointer (some ⟨w.heap.size, 0, none⟩), .int .i64 (2 + (q : Int))] u fun e w' => e = .returned (.tuple #[]) ∧ Holds w.heap.size [] w' ∧ Below w.heap.size u w' := by
          rintro u rfl
          have := grow_any w.heap.size (2 + q) _ Hbk.out (Below.size HB0.out) hszb
          rwa [show ((2 + q : Nat) : Int) = 2 + (q : Int) by omega] at this
        have Hgw := Lib.hid hgw; clear hgw
        go_wp2_with fail
        refine (Hgw.out _ rfl).mono ?_
        rintro e w1 ⟨rfl, h1, hb1⟩
        have hb1' := HB0.out.trans hb1
        have H1 := Lib.hid h1; clear h1
        go_wp2_with (go_at_call 30; refine (head_any k _ (by omega)).mono ?_; rintro e w2 ⟨rfl, hb2⟩)
        have h2 := H1.out.keep hb2
        have hb2' := hb1'.trans (hb2.mono (Below.size hb1'))
        have H2 := Lib.hid h2; clear h2 H1
        have hsz : (⟨(Oct.le 2 k).toArray⟩ : ByteArray).size ≤ 2 := by rw [Lib.size_eq]; simpa using hle
        go_wp2_with fail
        refine (write_any w.heap.size [] ⟨(Oct.le 2 k).toArray⟩ _ H2.out (by simp only [List.length_nil]; omega) (Below.size hb2')).mono ?_
        rintro e w3 ⟨rfl, h3, hb3⟩
        have hb3' := hb2'.trans hb3
        rw [List.nil_append] at h3
        have H3 := Lib.hid h3; clear h3 H2
        clear hb1 hb2 hb3 hb1' hb2' HB0 Hbk Hgw
        go_wp2_with fail
        go_loopw [36] (fun i wr => ∃ m : Nat, m ≤ k ∧ i = .int .i64 m ∧ Holds w.heap.size (Oct.le 2 k ++ Oct.body ((lists l).take m)) wr ∧ Below w.heap.size w wr) (fun i _ => k - (intOf i).toNat)
        case atStart => exact ⟨0, by omega, rfl, by simpa [Oct.body] using H3.out, hb3'⟩
        case round =>
          obtain ⟨m, hmk, rfl, hh, hb⟩ := hrel
          clear hb3' H3
          by_cases hmlt : m < k
          · obtain ⟨b, off, rfl, hc⟩ := (Hs.out.keep hb).2 m hmlt
            have hg := lists_get l m (by rw [← lists_length]; omega) (by omega)
            have hbs := Oct.body_take_succ (lists l) m (by omega)
            have h6 := Hf.out m (by omega) (by omega)
            rw [hg, ba_len] at hbs h6
            have hfm : Fit (lists l) m := fun j hj hjm => Hf.out j hj (by omega)
            have hfb2 := hfm.body (by omega)
            generalize l.getD m .empty = x at *
            have hA : (Oct.le 2 k ++ Oct.body ((lists l).take m)).length ≤ 4295032840 := by rw [List.length_append]; omega
            have hrel2 : Oct.le 2 k ++ Oct.body ((lists l).take (m + 1)) = (Oct.le 2 k ++ Oct.body ((lists l).take m)) ++ Oct.le 2 x.size ++ x.data.toList := by rw [hbs]; simp
            generalize Oct.le 2 k ++ Oct.body ((lists l).take m) = A at *
            have hxl : (Oct.le 2 x.size).length ≤ 2 := Nat.le_of_eq (Oct.le_length _ _)
            have hxs : (⟨(Oct.le 2 x.size).toArray⟩ : ByteArray).size ≤ 2 := by rw [Lib.size_eq]; simpa using hxl
            have Hrel2 := Lib.hid hrel2; clear hrel2
            have Hh := Lib.hid hh; clear hh
            have Hg := Lib.hid hg; clear hg
            clear hbs hfm hfb2
            go_wp2_with (go_at_call 30; refine (head_any x.size _ h6).mono ?_; rintro e w4 ⟨rfl, hb4⟩)
            have h4 := Hh.out.keep hb4
            have hb4' := hb.trans (hb4.mono (Below.size hb))
            have H4 := Lib.hid h4; clear h4 Hh
            go_wp2_with fail
            refine (write_any w.heap.size A ⟨(Oct.le 2 x.size).toArray⟩ _ H4.out (by omega) (Below.size hb4')).mono ?_
            rintro e w5 ⟨rfl, h5, hb5⟩
            have hb5' := hb4'.trans hb5
            have H5 := Lib.hid h5; clear h5 H4
            go_wp2_with fail
            refine (write_any w.heap.size (A ++ Oct.le 2 x.size) x _ H5.out (by rw [List.length_append]; omega) (Below.size hb5')).mono ?_
            rintro e w6 ⟨rfl, h7, hb6⟩
            have hb6' := hb5'.trans hb6
            have H7 := Lib.hid h7; clear h7 H5
            clear hb4 hb5 hb6 hb4' hb5'
            go_wp2_with fail
            go_roundw
            case rel => exact ⟨m + 1, by omega, by go_num, by rw [Hrel2.out]; exact H7.out, hb6'⟩
            case measure => simp [intOf]; omega
          · obtain rfl : m = k := by omega
            have hh2 := hh
            rw [He.out] at hh2
            have Hh := Lib.hid hh; clear hh
            have Hh2 := Lib.hid hh2; clear hh2
            go_wp2_with fail
            refine (string_any w.heap.size _ _ Hh2.out (Below.size hb)).mono ?_
            rintro e w7 ⟨rfl, hb7⟩
            go_wp2_with fail
            go_ret2
            exact ⟨by rw [Hr.out]; rfl, hb.trans hb7⟩
  · have hr := row_long (lists l) (by omega)
    have Hr := Lib.hid hr; clear hr
    have Hll := Lib.hid hll; clear hll
    have Hs := Lib.hid hs; clear hs
    have Hz := Lib.hid hz; clear hz
    go_enter Try.func17, Try.ntmps17
    go_wp2
    go_ret2
    exact ⟨by rw [Hr.out]; rfl, Below.refl _ _⟩

end Go.Proofs.Ytdaognkdglimeaa
