/-
  What ReadRow returns.
-/
import Derived.Test.YtdaognkdglimeaaOctReadRow
import Derived.Deep.RegionWith
import Derived.Deep.DeepCutAuto
import Derived.OneCell
set_option linter.unusedVariables false
namespace Go.Proofs.Ytdaognkdglimeaa
open Go.RowKit

/-- block b is one variable that holds the text r -/
def Var (b : Nat) (r : List UInt8) (w : World) : Prop := w.heap[b]? = some (.cells #[.string ⟨r.toArray⟩] 9 (0, 0))

theorem Var.cell {b : Nat} {r : List UInt8} {w : World} (h : Var b r w) : w.cell? ⟨b, 0, none⟩ = some (.string ⟨r.toArray⟩) := by rw [Lib.cell_of_heap h]; rfl
theorem Var.free {b : Nat} {r : List UInt8} {w : World} (h : Var b r w) : w.frozen? ⟨b, 0, none⟩ = false := Lib.frozen_of_heap h 0
theorem Var.lt {b : Nat} {r : List UInt8} {w : World} (h : Var b r w) : b < w.heap.size := cell_lt h.cell
theorem Var.set {b : Nat} {r : List UInt8} {w : World} (h : Var b r w) (q : List UInt8) : Var b q (w.setCell ⟨b, 0, none⟩ (.string ⟨q.toArray⟩)) := by
  unfold Var at *
  simp [World.setCell, Array.getElem?_modify, h]
theorem Var.keep {b : Nat} {r : List UInt8} {w w' : World} (h : Var b r w) (hb : Below w.heap.size w w') : Var b r w' := by
  unfold Var at *
  rw [hb.block b (Var.lt h)]
  exact h

set_option maxHeartbeats 400000 in
theorem next_any (b : Nat) (rest : List UInt8) (w : World) (hv : Var b rest w) (hrl : rest.length ≤ 281474976710656) :
    Calls Try.prog 33 #[.pointer (some ⟨b, 0, none⟩)] w fun e w' => e = .returned (.tuple #[.string ⟨(Oct.read rest).1.toArray⟩, .int .i64 (Oct.read rest).2.2]) ∧
      ∃ w1, Below w.heap.size w w1 ∧ w' = w1.setCell ⟨b, 0, none⟩ (.string ⟨(rest.drop (Oct.read rest).2.1).toArray⟩) := by
  have crd := fun u => octRead_any ⟨rest.toArray⟩ u (by rw [Lib.size_eq]; exact hrl)
  simp only [] at crd
  have hle := read_le rest
  have hsd : ∀ u : World, (Instr.slice 9 (.string ⟨rest.toArray⟩) (some (.int .i64 (Oct.read rest).2.1)) none none).run Try.prog u = .ok (.string ⟨(rest.drop (Oct.read rest).2.1).toArray⟩) u := fun u => by
    rw [run_slice_string_from_if (P := Try.prog) u 9 _ .i64 _ Try.underlying9, if_pos ⟨by omega, by rw [Lib.size_eq]; simp only []; omega⟩, Lib.extract_eq]
    rw [Int.toNat_natCast, Lib.size_eq]
    simp only []
    rw [List.take_of_length_le (by rw [List.length_drop]; omega)]
  generalize (Oct.read rest).1 = t at *
  generalize (Oct.read rest).2.2 = er at *
  generalize (Oct.read rest).2.1 = m at *
  generalize rest.drop m = rest2 at *
  have Crd := Lib.hid crd; clear crd
  have h1 := hv.cell
  have Hv := Lib.hid hv; clear hv
  go_enter Try.func33, Try.ntmps33
  go_wp2_with fail
  refine (Crd.out _).mono ?_; rintro e w1 ⟨rfl, hb⟩
  have hv1 := Hv.out.keep hb
  have h2 := hv1.cell
  have h3 := hv1.free
  have Hv1 := Lib.hid hv1; clear hv1
  go_wp2_with fail
  go_ret2
  exact ⟨rfl, w1, hb, rfl⟩

theorem below_new {w : World} (u : World) (o : Obj) (v : Value) (n m : Nat) (hu : u = ((w.drewN n).alloc o).drewN m) : Below w.heap.size w (u.setCell ⟨w.heap.size, 0, none⟩ v) := by
  subst hu
  have h0 : Below w.heap.size w (w.drewN n) := ⟨rfl, rfl, rfl, Nat.le_refl _, fun _ _ => rfl⟩
  have h1 := h0.alloc (Nat.le_refl _) o
  have h2 : Below w.heap.size w (((w.drewN n).alloc o).drewN m) := ⟨h1.os, h1.tape, h1.output, h1.size, h1.block⟩
  exact h2.setCell (p := ⟨w.heap.size, 0, none⟩) (Nat.le_refl _) v

set_option maxHeartbeats 1000000 in
theorem octReadRow_any (s : ByteArray) (w : World) (hm : s.size ≤ 281474976710656) :
    Calls Try.prog 19 #[.string s] w (Got (Oct.readRow s.data.toList) w) := by
  obtain ⟨i0, hi, hz0, hz1, hz2⟩ := info_parts infoStr
  by_cases h2 : 2 ≤ s.size
  · have hh := Oct.hd_lt s.data.toList
    have hrow : Oct.readRow s.data.toList = Oct.readN (Oct.hd s.data.toList) (s.data.toList.drop 2) := by unfold Oct.readRow; rw [ba_len, if_pos h2]
    have hrh := fun u => readHead_any s u h2
    have hs2 : ∀ u : World, (Instr.slice 9 (.string s) (some (.int .i64 2)) none none).run Try.prog u = .ok (.string ⟨(s.data.toList.drop 2).toArray⟩) u := fun u => by
      rw [run_slice_string_from_if (P := Try.prog) u 9 s .i64 2 Try.underlying9, if_pos ⟨by omega, by omega⟩, Lib.extract_eq]
      have : (s.data.toList.drop 2).take (s.size - 2) = s.data.toList.drop 2 := List.take_of_length_le (by rw [List.length_drop, ba_len]; omega)
      rw [show (2 : Int).toNat = 2 from rfl, this]
    have hr0 : (s.data.toList.drop 2).length ≤ 281474976710656 := by rw [List.length_drop, ba_len]; omega
    generalize Oct.hd s.data.toList = cnt at *
    generalize s.data.toList.drop 2 = r0 at *
    rw [hrow]
    have Hrow := Lib.hid hrow; clear hrow
    have Hrh := Lib.hid hrh; clear hrh
    go_enter Try.func19, Try.ntmps19
    go_upto_region 3 with fail
    go_cut [4, 5] (fun c p wx => c = .int .i64 cnt ∧ ∃ b, p = .pointer (some ⟨b, 0, none⟩) ∧ w.heap.size ≤ b ∧ Var b r0 wx ∧ Below w.heap.size w wx)
    case first =>
      have hc1 : ∀ q, ((w.drew.drewN q).alloc (.cells #[.string ⟨#[]⟩] 9)).cell? ⟨w.heap.size, 0, none⟩ = some (.string ⟨#[]⟩) := fun q => World.cell?_alloc_new (w.drew.drewN q) _ _ 0
      have hc2 : ∀ q, ((w.drew.drewN q).alloc (.cells #[.string ⟨#[]⟩] 9)).frozen? ⟨w.heap.size, 0, none⟩ = false := fun q => World.frozen?_alloc_new (w.drew.drewN q) _ _ 0
      have hc3 : ∀ q, ((w.drewN q).alloc (.cells #[.string ⟨#[]⟩] 9)).cell? ⟨w.heap.size, 0, none⟩ = some (.string ⟨#[]⟩) := fun q => World.cell?_alloc_new (w.drewN q) _ _ 0
      have hc4 : ∀ q, ((w.drewN q).alloc (.cells #[.string ⟨#[]⟩] 9)).frozen? ⟨w.heap.size, 0, none⟩ = false := fun q => World.frozen?_alloc_new (w.drewN q) _ _ 0
      go_region_with (go_at_call 32; refine (Hrh.out _).mono ?_; rintro e w' ⟨rfl, q, rfl⟩)
      all_goals
        go_wp2_with fail
        go_meet
        refine ⟨rfl, w.heap.size, rfl, Nat.le_refl _, ?_, ?_⟩
        · first
            | exact Var.set (b := w.heap.size) (r := []) (by show (w.heap.push _)[w.heap.size]? = _; simp) r0
            | (show (w.heap.push _)[w.heap.size]? = _; simp)
        · exact below_new _ _ _ _ 0 rfl
    case rest =>
      obtain ⟨rfl, b, rfl, hwb, hv, hb⟩ := hcut
      have hc1 := hv.cell
      have Hv := Lib.hid hv; clear hv
      clear hs2
      have hbw : b < wc.heap.size := Hv.out.lt
      go_wp2_with (at_make; refine wpList_make_own _ rfl _ _ 33 rfl wc.heap.size 9 i0 (.string ⟨#[]⟩) 1 Try.underlying33 hi hz0 hz1 .i64 .i64 _ (min cnt (r0.length / 2)) rfl rfl ?m1 ?m2 ?m3 (Nat.le_refl _) ?_)
      case m1 => omega
      case m2 => rw [hz2]; omega
      case m3 => unfold maxLen; omega
      intro w0 hown0 hgrow0
      have hw0 : Below wc.heap.size wc w0 := (Below.refl _ wc).grown hgrow0 (Nat.le_refl _) (fun k hk => by simp at hk)
      have hv0 := Hv.out.keep hw0
      have hb0 : Below w.heap.size w w0 := hb.trans (hw0.mono hb.size)
      have hown1 : Own wc.heap.size (.slice (some ⟨wc.heap.size, 0, none⟩) 0 (min cnt (r0.length / 2))) [] w0 := hown0
      have hs0 := hw0.size
      have Hv0 := Lib.hid hv0; clear hv0
      have Hown1 := Lib.hid hown1; clear hown1 hown0 hgrow0 hw0 hc1
      generalize wc.heap.size = B at *
      generalize (Value.slice (some ⟨B, 0, none⟩) 0 (min cnt (r0.length / 2))) = v0 at *
      go_wp2_with fail
      go_loopw [7, 25] (fun v i wr => ∃ (k : Nat) (acc : List ByteArray) (rest : List UInt8), acc.length = k ∧ k ≤ cnt ∧ i = .int .i64 k ∧ rest.length ≤ 281474976710656 ∧ Own B v acc wr ∧ Var b rest wr ∧ RowAt cnt r0 k (lists acc) rest ∧ Below w.heap.size w wr ∧ B ≤ wr.heap.size) (fun _ i _ => cnt - (intOf i).toNat)
      case atStart => exact ⟨0, [], r0, rfl, by omega, rfl, hr0, Hown1.out, Hv0.out, RowAt.start _ _, hb0, hs0⟩
      case round =>
        clear hb0 hs0 Hv0 Hown1 Hv
        obtain ⟨k, acc, rest, hacc, hk, rfl, hrl, hown, hvr, hat, hbr, hBr⟩ := hrel
        by_cases hlt : k < cnt
        · have cn := next_any b rest wr hvr hrl
          have hld : (rest.drop (Oct.read rest).2.1).length ≤ 281474976710656 := by rw [List.length_drop]; omega
          rcases read_cases rest with e0 | e6
          · have hn := hat.next hlt e0
            rw [e0] at cn
            generalize (Oct.read rest).1 = t at *
            generalize rest.drop (Oct.read rest).2.1 = rest2 at *
            have E0 := Lib.hid e0; clear e0
            have Cn := Lib.hid cn; clear cn
            have Hn := Lib.hid hn; clear hn
            have Hat := Lib.hid hat; clear hat
            have Hacc := Lib.hid hacc; clear hacc
            have Hown := Lib.hid hown; clear hown
            have Hvr := Lib.hid hvr; clear hvr
            go_wp2_with fail
            refine Cn.out.mono ?_; rintro e w2 ⟨rfl, w1, hb1, rfl⟩
            have hv2 := (Hvr.out.keep hb1).set rest2
            have hown2 : Own B u7 acc (w1.setCell ⟨b, 0, none⟩ (.string ⟨rest2.toArray⟩)) := by
              refine ownsRow_setCell_below (Hown.out.kept (grown_of_below hb1) ?_) hbw _
              by_cases e : u7.ownBlock = none
              · exact .inl e
              · exact .inr e
            have hb2 : Below w.heap.size w (w1.setCell ⟨b, 0, none⟩ (.string ⟨rest2.toArray⟩)) := (hbr.trans (hb1.mono hbr.size)).setCell (p := ⟨b, 0, none⟩) hwb _
            have hB2 : B ≤ (w1.setCell ⟨b, 0, none⟩ (.string ⟨rest2.toArray⟩)).heap.size := by have := hb1.size; simp [World.setCell]; omega
            generalize w1.setCell ⟨b, 0, none⟩ (.string ⟨rest2.toArray⟩) = w3 at *
            have Hv2 := Lib.hid hv2; clear hv2
            have Hown2 := Lib.hid hown2
            have hown3 : w3.ownsRow B 9 1 u7 acc.length (acc.map Value.string) := hown2
            clear hown2 Hown Hvr hb1
            go_wp2_with (at_builtin; refine wpList_append_own _ rfl _ _ 33 rfl B 9 i0 (.string ⟨#[]⟩) 1 16 Try.underlying33 hi hz0 hz1 hz2 rfl (by decide) _ _ _ rfl (hown3.alloc _) ⟨w3.heap.size, 0, none⟩ 1 1 [.string ⟨t.toArray⟩] rfl rfl ?c1 ?c2 ?c3 ?c4 ?c5 ?_)
            case c1 => exact cell_one_new _ _ _
            case c2 => intro u hu; simp at hu; subst hu; rfl
            case c3 => have := Hacc.out; unfold maxLen; omega
            case c4 => have := Hacc.out; omega
            case c5 => simp; omega
            intro v' w4 hown4 hgrow _
            have hown5 : Own B v' (acc ++ [⟨t.toArray⟩]) w4 := by
              unfold Own
              rw [List.length_append, List.map_append]
              exact hown4
            have hb4 : Below w.heap.size w w4 := (hb2.alloc hb2.size _).grown hgrow (by have := hb2.size; simp; omega) (fun b' h => by have := (hown3.lt b' h).1; have := hb.size; omega)
            have hv4 : Var b rest2 w4 := by
              have h1 : Below B w3 w4 := ((Below.refl B w3).alloc hB2 _).grown hgrow (by simp; omega) (fun b' h => (hown3.lt b' h).1)
              unfold Var
              rw [h1.block b hbw]
              exact Hv2.out
            have hB4 : B ≤ w4.heap.size := by have := hgrow.size; simp at this; omega
            have Hv4 := Lib.hid hv4; clear hv4
            have Hown5 := Lib.hid hown5; clear hown5
            clear hown4 hgrow hown3
            go_wp2_with fail
            go_roundw
            case rel => exact ⟨k + 1, acc ++ [⟨t.toArray⟩], rest2, by rw [List.length_append, Hacc.out]; rfl, by omega, by go_num, hld, Hown5.out, Hv4.out, by rw [show lists (acc ++ [(⟨t.toArray⟩ : ByteArray)]) = lists acc ++ [t] by simp [lists]]; exact Hn.out, hb4, hB4⟩
            case measure => simp [intOf]; omega
          · have hf := hat.fail hlt (by omega)
            rw [e6] at cn
            have E6 := Lib.hid e6; clear e6
            have Cn := Lib.hid cn; clear cn
            have Hf := Lib.hid hf; clear hf
            have Hat := Lib.hid hat; clear hat
            have Hacc := Lib.hid hacc; clear hacc
            have Hown := Lib.hid hown; clear hown
            have Hvr := Lib.hid hvr; clear hvr
            go_wp2_with fail
            refine Cn.out.mono ?_; rintro e w2 ⟨rfl, w1, hb1, rfl⟩
            have hb2 := (hbr.trans (hb1.mono hbr.size)).setCell (p := ⟨b, 0, none⟩) hwb (.string ⟨(rest.drop (Oct.read rest).2.1).toArray⟩)
            generalize w1.setCell ⟨b, 0, none⟩ (.string ⟨(rest.drop (Oct.read rest).2.1).toArray⟩) = w3 at *
            go_wp2_with fail
            go_ret2
            exact ⟨hb2, .inl ⟨Hf.out, rfl⟩⟩
        · obtain rfl : k = cnt := by omega
          have hc2 := hvr.cell
          have Hvr := Lib.hid hvr; clear hvr
          have Hown := Lib.hid hown; clear hown
          by_cases hr : rest = []
          · subst hr
            have hd := hat.done
            have Hd := Lib.hid hd; clear hd
            have Hat := Lib.hid hat; clear hat
            have Hacc := Lib.hid hacc; clear hacc
            go_wp2_with fail
            go_ret2
            obtain ⟨a, cap, hv, hst, _⟩ := Hown.out.strs
            exact ⟨hbr, .inr ⟨acc, a, cap, Hd.out, by rw [← hv]; rfl, hst⟩⟩
          · have hd := hat.more hr
            have hne : rest.isEmpty = false := by simpa using hr
            have Hd := Lib.hid hd; clear hd
            have Hat := Lib.hid hat; clear hat
            have Hacc := Lib.hid hacc; clear hacc
            go_wp2_with fail
            go_ret2
            exact ⟨hbr, .inl ⟨Hd.out, rfl⟩⟩
  · have hn : Oct.readRow s.data.toList = none := by unfold Oct.readRow; rw [ba_len, if_neg h2]
    rw [hn]
    have Hn := Lib.hid hn; clear hn
    go_enter Try.func19, Try.ntmps19
    go_wp2
    go_ret2
    exact ⟨Below.refl _ _, .inl ⟨rfl, rfl⟩⟩

end Go.Proofs.Ytdaognkdglimeaa
