/-
  The document's disk: Crash.
-/
import Derived.Test.YtjlkppdailkanaaRefRead
import Derived.Test.YtjlkppdailkanaaDskIter
set_option linter.unusedVariables false
namespace Go.Proofs.Ytjlkppdailkanaa
open Go.RowKit

theorem crash_eq (d : Dsk.St) (keep : List UInt8) : Dsk.crash d keep = { ({ d with fl := Dsk.lay (Dsk.kept keep d.L) d.fl, L := [] } : Dsk.St) with fuse := -1, down := false } := rfl

section
variable {S : Nat → Prop} {q : Nat} {d : Dsk.St} {w : World}
/-- behind the loop -/
theorem RefIn.crashed {w2 : World} {vB vL : Value} {g cap : Nat} (h : RefIn S q d w vB vL) (keep : List UInt8) (hb : Below w.heap.size w w2) (hown : w2.ownsRow w.heap.size 9 1 (.slice (some ⟨g, 0, none⟩) d.n cap) d.n (secs (Dsk.lay (Dsk.kept keep d.L) d.fl) d.n)) :
    Turns S w ((((w2.setCell ⟨q, 0, none⟩ (.slice (some ⟨g, 0, none⟩) d.n cap)).setCell ⟨q, 1, none⟩ (.slice none 0 0)).setCell ⟨q, 2, none⟩ (.int .i64 (-1))).setCell ⟨q, 3, none⟩ (.bool false)) ∧
    ∃ S', (∀ j, S' j → S j ∨ w.heap.size ≤ j) ∧ RefAt S' q (Dsk.crash d keep) ((((w2.setCell ⟨q, 0, none⟩ (.slice (some ⟨g, 0, none⟩) d.n cap)).setCell ⟨q, 1, none⟩ (.slice none 0 0)).setCell ⟨q, 2, none⟩ (.int .i64 (-1))).setCell ⟨q, 3, none⟩ (.bool false)) := by
  have hr := h.new hb
  have row1 := heap_setCell_same w2 q 0 _ _ (.slice (some ⟨g, 0, none⟩) d.n cap) hr.row
  have row2 := heap_setCell_same _ q 1 _ _ (.slice none 0 0) row1
  have row3 := heap_setCell_same _ q 2 _ _ (.int .i64 (-1)) row2
  have row4 := heap_setCell_same _ q 3 _ _ (.bool false) row3
  have ht : Turns (fun k => k = q) w2 ((w2.setCell ⟨q, 0, none⟩ (.slice (some ⟨g, 0, none⟩) d.n cap)).setCell ⟨q, 1, none⟩ (.slice none 0 0)) := ((Turns.refl (fun k => k = q) w2).set q 0 _ (fun _ => rfl)).set q 1 _ (fun _ => rfl)
  have ht2 : Turns (fun k => k = q) ((w2.setCell ⟨q, 0, none⟩ (.slice (some ⟨g, 0, none⟩) d.n cap)).setCell ⟨q, 1, none⟩ (.slice none 0 0)) ((((w2.setCell ⟨q, 0, none⟩ (.slice (some ⟨g, 0, none⟩) d.n cap)).setCell ⟨q, 1, none⟩ (.slice none 0 0)).setCell ⟨q, 2, none⟩ (.int .i64 (-1))).setCell ⟨q, 3, none⟩ (.bool false)) := ((Turns.refl (fun k => k = q) _).set q 2 _ (fun _ => rfl)).set q 3 _ (fun _ => rfl)
  have hok := h.ok
  have hs := h.settled (Dsk.lay (Dsk.kept keep d.L) d.fl) (fun k => by
    have := (Dsk.settle_ok hok keep).fl k
    exact this) hb hown ht row2
  have hfin := hs.turn ht2 (-1) false ⟨by omega, by omega⟩ (by rw [row4]; simp [rcells])
  refine ⟨((Turns.of_new hb S).trans ht (fun j _ e => by rw [e]; exact h.hq)).trans ht2 (fun j _ e => by rw [e]; exact h.hq), _, fun j hj => ?_, _, _, hfin⟩
  rcases hj with rfl | hj
  · exact .inl h.hq
  · exact .inr hj.1

set_option maxHeartbeats 2000000 in
theorem refCrash_any (h : RefAt S q d w) (keep : ByteArray) (hks : keep.size ≤ 1099511627776) (hops : d.ops ≤ 1099511627776) :
    Calls Try.prog 21 #[.pointer (some ⟨q, 0, none⟩), .string keep] w fun e w' => e = .returned (.tuple #[]) ∧ Turns S w w' ∧ ∃ S', (∀ j, S' j → S j ∨ w.heap.size ≤ j) ∧ RefAt S' q (Dsk.crash d keep.data.toList) w' := by
  obtain ⟨vB, vL, h⟩ := h
  obtain ⟨g, cap, rfl⟩ := h.formB
  have c0 := h.c0
  have hn1 := h.ok.lo
  have hn2 := h.ok.hi
  have hcnt := h.cnt
  have hown0 : w.ownsRow w.heap.size 9 1 (.slice none 0 0) 0 [] := World.ownsRow_nil _ _ _ _
  obtain ⟨i0, hi, hi0, hi1, hi2⟩ := info_parts str_info
  have hnews : ∀ j u, (secs d.fl d.n)[j]? = some u → w.cell? ((⟨g, 0, none⟩ : Addr).add j) = some u := World.ownsRow.cells h.rB rfl
  have hl : (secs d.fl d.n).length = d.n * 1 := by rw [secs_length, Nat.mul_one]
  have hone := secs_one d.fl d.n
  have Hnews := Lib.hid hnews; clear hnews
  have Hown0 := Lib.hid hown0; clear hown0
  have Hi := Lib.hid hi; clear hi
  have Hi0 := Lib.hid hi0; clear hi0
  have Hi1 := Lib.hid hi1; clear hi1
  have Hi2 := Lib.hid hi2; clear hi2
  have Hl := Lib.hid hl; clear hl
  have Hone := Lib.hid hone; clear hone
  have H := Lib.hid h; clear h
  go_enter Try.func21, Try.ntmps21
  go_wp2_with (at_builtin; refine wpList_append_at _ rfl (.const (.slice none 0 0)) (.tmp 9) 45 rfl w.heap.size 9 i0 _ 1 16 Try.underlying45 Hi.out Hi0.out Hi1.out Hi2.out rfl (by decide) (.slice none 0 0) 0 [] rfl Hown0.out ⟨g, 0, none⟩ d.n cap (secs d.fl d.n) rfl Hl.out Hnews.out Hone.out (by unfold maxLen; omega) (by omega) (Nat.le_refl _) ?_)
  intro v2 w2 hown2 hg2 hat
  have hb : Below w.heap.size w w2 := below_of_grown hg2 (fun k hk => by cases hk)
  obtain ⟨g2, cap2, hv2⟩ : ∃ g2 cap2, v2 = .slice (some ⟨g2, 0, none⟩) d.n cap2 := by
    obtain ⟨_, h2⟩ := hown2
    rcases h2 with ⟨rfl, h0⟩ | ⟨g2, cap2, cur, rfl, _⟩
    · omega
    · exact ⟨_, _, rfl⟩
  subst hv2
  have Hb := Lib.hid hb; clear hb
  have Hown2 := Lib.hid hown2; clear hown2
  clear hg2 hat c0
  go_wp2
  go_loopw [5] (fun i wr => ∃ k : Nat, k ≤ d.L.length ∧ (keep.size = 0 → k = 0) ∧ i = .int .i64 (k : Int) ∧ wr.ownsRow w.heap.size 9 1 (.slice (some ⟨g2, 0, none⟩) d.n cap2) d.n (secs (Dsk.lay (Dsk.done keep.data.toList d.L k) d.fl) d.n) ∧ Below w.heap.size w wr) (fun i _ => d.L.length - (intOf i).toNat)
  case atStart => exact ⟨0, by omega, fun _ => rfl, rfl, by rw [Dsk.done_zero]; exact Hown2.out, Hb.out⟩
  case round =>
    obtain ⟨k, hk, hkz, rfl, hown, hbel⟩ := hrel
    have hr := H.out.new hbel
    have c1 := hr.c1
    -- what the end leaves
    have hend : Dsk.done keep.data.toList d.L k = Dsk.kept keep.data.toList d.L → Turns S w ((((wr.setCell ⟨q, 0, none⟩ (.slice (some ⟨g2, 0, none⟩) d.n cap2)).setCell ⟨q, 1, none⟩ (.slice none 0 0)).setCell ⟨q, 2, none⟩ (.int .i64 (-1))).setCell ⟨q, 3, none⟩ (.bool false)) ∧
        ∃ S', (∀ j, S' j → S j ∨ w.heap.size ≤ j) ∧ RefAt S' q (Dsk.crash d keep.data.toList) ((((wr.setCell ⟨q, 0, none⟩ (.slice (some ⟨g2, 0, none⟩) d.n cap2)).setCell ⟨q, 1, none⟩ (.slice none 0 0)).setCell ⟨q, 2, none⟩ (.int .i64 (-1))).setCell ⟨q, 3, none⟩ (.bool false)) := fun e => by
      rw [e] at hown
      exact H.out.crashed keep.data.toList hbel hown
    have row0 := hr.row
    have c0 := hr.c0
    have f0 := hr.free 0
    have row1 := heap_setCell_same wr q 0 _ _ (.slice (some ⟨g2, 0, none⟩) d.n cap2) row0
    have d1 : (wr.setCell ⟨q, 0, none⟩ (.slice (some ⟨g2, 0, none⟩) d.n cap2)).cell? ⟨q, 1, none⟩ = some vL := by rw [cell_of_row _ q 1 _ _ _ row1]; rfl
    have f1 := row_free row1 1
    have row2 := heap_setCell_same _ q 1 _ _ (.slice none 0 0) row1
    have d2 : ((wr.setCell ⟨q, 0, none⟩ (.slice (some ⟨g2, 0, none⟩) d.n cap2)).setCell ⟨q, 1, none⟩ (.slice none 0 0)).cell? ⟨q, 2, none⟩ = some (.int .i64 (max d.fuse (-1))) := by rw [cell_of_row _ q 2 _ _ _ row2]; rfl
    have f2 := row_free row2 2
    have row3 := heap_setCell_same _ q 2 _ _ (.int .i64 (-1)) row2
    have d3 : (((wr.setCell ⟨q, 0, none⟩ (.slice (some ⟨g2, 0, none⟩) d.n cap2)).setCell ⟨q, 1, none⟩ (.slice none 0 0)).setCell ⟨q, 2, none⟩ (.int .i64 (-1))).cell? ⟨q, 3, none⟩ = some (.bool d.down) := by rw [cell_of_row _ q 3 _ _ _ row3]; rfl
    have f3 := row_free row3 3
    have Hend := Lib.hid hend; clear hend
    have Hown := Lib.hid hown; clear hown
    have Hbel := Lib.hid hbel; clear hbel
    have Hr := Lib.hid hr; clear hr
    have Hkz := Lib.hid hkz; clear hkz
    clear row0 row1 row2 row3
    rcases H.out.formL with ⟨hL0, rfl⟩ | ⟨gl, capl, rfl, hcl⟩
    · have hk0 : k = 0 := by rw [hL0] at hk; simpa using hk
      subst hk0
      have he := Hend.out (by rw [hL0]; unfold Dsk.done Dsk.kept; simp)
      have He := Lib.hid he; clear he
      clear hL0
      go_wp2
      go_end0
      exact ⟨rfl, He.out⟩
    · by_cases hks0 : keep.size = 0
      · have hk0 := Hkz.out hks0
        subst hk0
        have hkl : keep.data.toList = [] := List.eq_nil_of_length_eq_zero (by rw [ba_len]; exact hks0)
        have he := Hend.out (by rw [hkl]; rfl)
        have He := Lib.hid he; clear he
        clear hkl
        by_cases hl0 : 0 < d.L.length
        · go_wp2
          go_end0
          exact ⟨rfl, He.out⟩
        · have hl0 : d.L.length = 0 := by omega
          go_wp2
          go_end0
          exact ⟨rfl, He.out⟩
      · have hkp : 0 < keep.size := by omega
        have hkne : keep.data.toList ≠ [] := fun e => hks0 (by rw [← ba_len, e]; rfl)
        by_cases hlt : k < d.L.length
        · obtain ⟨x, hx⟩ : ∃ x, d.L[k]? = some x := ⟨d.L[k], List.getElem?_eq_getElem hlt⟩
          have hsucc := Dsk.done_succ hkne hx
          obtain ⟨r, hrq⟩ : ∃ r, r = k % keep.size := ⟨_, rfl⟩
          have hqs : r < keep.size := by rw [hrq]; exact Nat.mod_lt _ hkp
          have hodd : Dsk.odd keep.data.toList k = (keep[r].toNat % 2 == 1) := by
            unfold Dsk.odd
            rw [ba_len, ← hrq, List.getD_eq_getElem?_getD, List.getElem?_eq_getElem (by rw [ba_len]; exact hqs), Option.getD_some, ba_get keep r hqs]
          have hqt : Int.tmod (k : Int) (keep.size : Int) = (r : Int) := by rw [Int.tmod_eq_emod_of_nonneg (by omega), hrq]; omega
          have hk0 : ¬ ((keep.size : Nat) : Int) = 0 := by omega
          have hk3 : ¬ keep.size = 0 := by omega
          have hw3 : IntKind.i64.wrap (r : Int) = (r : Int) := IntWalk.i64_in _ (by omega)
          have htq : ((r : Int)).toNat = r := by omega
          have q0 : (0 : Int) ≤ (r : Int) := by omega
          have q1 : (r : Int) < (keep.size : Int) := by omega
          have Hrq := Lib.hid hrq; clear hrq
          have Hodd := Lib.hid hodd; clear hodd
          have Hsucc := Lib.hid hsucc; clear hsucc
          have Hkne := Lib.hid hkne; clear hkne
          have hxn : x.1 < d.n := Hr.out.ok.at_ x (List.mem_of_getElem? hx)
          obtain ⟨p0, p1⟩ := puts_get hx
          have a0 := ownsRow_cell Hr.out.rL p0
          have a1 := ownsRow_cell Hr.out.rL p1
          rw [Nat.mul_comm 2 k] at a0 a1
          cases ho : Dsk.odd keep.data.toList k with
          | true =>
            have hob : (((keep[r].toNat : Nat) : Int) % 2 == 1) = true := by
              have h1 := Hodd.out
              rw [ho] at h1
              have h2 : keep[r].toNat % 2 = 1 := by simpa using h1.symm
              rw [beq_iff_eq]; omega
            have hset := World.ownsRow.stored Hown.out x.1 (secv x.2)
            have hs := Hsucc.out
            rw [ho, if_pos rfl] at hs
            rw [secs_set, ← Dsk.lay_snoc, show (Dsk.done keep.data.toList d.L k ++ [(x.1, x.2)]) = Dsk.done keep.data.toList d.L (k + 1) from hs.symm] at hset
            obtain ⟨hs1, _⟩ := hset
            have b0 : wr.drew.cell? ⟨g2, x.1, none⟩ = some (secv (Dsk.lay (Dsk.done keep.data.toList d.L k) d.fl x.1)) := by
              show wr.cell? _ = _
              rw [World.ownsRow.cellAt Hown.out x.1 (by omega), secs_get _ hxn]
            have b1 : wr.drew.frozen? ⟨g2, x.1, none⟩ = false := World.ownsRow.frozenAt Hown.out x.1
            have hg2b := (World.ownsRow.lt Hown.out g2 rfl).1
            obtain ⟨y, hy⟩ : ∃ y, secv x.2 = .string y := ⟨_, rfl⟩
            rw [hy] at a1 hs1
            obtain ⟨j, hj⟩ : ∃ j, j = x.1 := ⟨_, rfl⟩
            rw [← hj] at a0 hxn hs1 b0 b1
            have hs1d : (wr.drew.setCell ⟨g2, j, none⟩ (.string y)).ownsRow w.heap.size 9 1 (.slice (some ⟨g2, 0, none⟩) d.n cap2) d.n (secs (Dsk.lay (Dsk.done keep.data.toList d.L (k + 1)) d.fl) d.n) := hs1
            have hs2d : Below w.heap.size w (wr.drew.setCell ⟨g2, j, none⟩ (.string y)) := (Hbel.out.drew).setCell (p := ⟨g2, j, none⟩) hg2b _
            have Hs1 := Lib.hid hs1d; clear hs1d
            have Hs2 := Lib.hid hs2d; clear hs2d
            have Hx := Lib.hid hx; clear hx
            have Ho := Lib.hid ho; clear ho
            clear hs1 hs p0 p1 hy hj d1 d2 d3 f1 f2 f3 f0 c0
            go_wp2
            clear hqt hk0 hk3 hw3 hob
            go_still_tail 18, (by kernel_rfl)
            go_wp2
            go_roundw
            case rel => exact ⟨k + 1, by omega, fun e => absurd e hks0, by go_num, Hs1.out, Hs2.out⟩
            case measure => simp [intOf]; omega
          | false =>
            have hob : (((keep[r].toNat : Nat) : Int) % 2 == 1) = false := by
              have h1 := Hodd.out
              rw [ho] at h1
              have h2 : ¬ keep[r].toNat % 2 = 1 := by simpa using h1.symm
              rw [beq_eq_false_iff_ne]; omega
            have hs := Hsucc.out
            rw [ho] at hs
            simp only [Bool.false_eq_true, if_false, List.append_nil] at hs
            have hs1 := Hown.out
            rw [← hs] at hs1
            have Hs1 := Lib.hid hs1; clear hs1
            have Hx := Lib.hid hx; clear hx
            have Ho := Lib.hid ho; clear ho
            clear hs p0 p1 d1 d2 d3 f1 f2 f3 f0 c0 a0 a1
            go_wp2
            go_roundw
            case rel => exact ⟨k + 1, by omega, fun e => absurd e hks0, by go_num, Hs1.out, Hbel.out⟩
            case measure => simp [intOf]; omega
        · obtain rfl : k = d.L.length := by omega
          have he := Hend.out (Dsk.done_all _ _)
          have He := Lib.hid he; clear he
          go_wp2
          go_end0
          exact ⟨rfl, He.out⟩
end
end Go.Proofs.Ytjlkppdailkanaa
