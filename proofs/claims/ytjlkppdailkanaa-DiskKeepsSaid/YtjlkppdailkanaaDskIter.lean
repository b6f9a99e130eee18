/-
  kept: it goes over the loose writes that a crash keeps.
-/
import Derived.Test.YtjlkppdailkanaaDskPut
import Derived.Test.YtjlkppdailkanaaGoRangeFrom
import Derived.Test.YtjlkppdailkanaaGoLoad
import Derived.Deep.MidRow
import Derived.Deep.RegionHeld3
import Derived.OwnWalkIn
import Derived.TacticsInMore
import Derived.LoopNIn
import Derived.LoopIn
import Derived.Shelf.Abstract
import Derived.Shelf.RegionOpen
set_option linter.unusedVariables false
namespace Go.Proofs.Ytjlkppdailkanaa
namespace Dsk
/-- of the first i loose writes, those that a crash keeps -/
def done (keep : List UInt8) (L : List (Nat × Sec)) (i : Nat) : List (Nat × Sec) := if keep = [] then [] else keptF keep 0 (L.take i)
theorem done_zero (keep : List UInt8) (L : List (Nat × Sec)) : done keep L 0 = [] := by unfold done; split <;> simp [keptF]
theorem done_all (keep : List UInt8) (L : List (Nat × Sec)) : done keep L L.length = kept keep L := by unfold done kept; simp
theorem done_succ {keep : List UInt8} {L : List (Nat × Sec)} {i : Nat} {x : Nat × Sec} (hk : keep ≠ []) (hx : L[i]? = some x) : done keep L (i + 1) = done keep L i ++ (if odd keep i then [x] else []) := by
  have hi : i < L.length := (List.getElem?_eq_some_iff.1 hx).1
  unfold done
  rw [if_neg hk, if_neg hk, List.take_add_one, hx]
  simp only [Option.toList_some]
  rw [keptF_snoc]
  simp [Nat.min_eq_left (Nat.le_of_lt hi)]
end Dsk
open Go.RowKit
attribute [local go_sem] Oper.semAt_some

theorem kept_any (p : Option Addr) (s : ByteArray) (w : World) :
    Calls Try.prog 43 #[.pointer p, .string s] w fun e w' => e = .returned (.func (.func 48) #[] #[.pointer (some ⟨w.heap.size + 1, 0, none⟩), .pointer (some ⟨w.heap.size, 0, none⟩)]) ∧ w' = (w.alloc (.cells #[.pointer p] 25)).alloc (.cells #[.string s] 9) := by
  go_enter Try.func43, Try.ntmps43
  go_wp2
  go_ret
  exact ⟨rfl, rfl⟩

/-- what lies where while the iterator runs, i loose writes having been gone over; B: where the boxes begin -/
structure Ist (w : World) (B p bF nf : Nat) (keep : ByteArray) (d : Dsk.St) (i : Nat) (W : World) : Prop where
  tu : Turns (fun k => k = bF) w W
  b0 : W.heap[B]? = some (.cells #[.pointer (some ⟨p, 0, none⟩)] 25 (0, 0))
  b1 : W.heap[B + 1]? = some (.cells #[.pointer (some ⟨p, 0, none⟩)] 25 (0, 0))
  b2 : W.heap[B + 2]? = some (.cells #[.string keep] 9 (0, 0))
  mp : ∃ DF, W.ownsMap Try.prog 3 secElem bF (nf + i) DF ∧ Dsk.Reads DF (Dsk.lay (Dsk.done keep.data.toList d.L i) d.fl)

variable {w : World} {B p bF nf : Nat} {keep : ByteArray} {d : Dsk.St} {i : Nat} {W : World}
theorem Ist.alloc (h : Ist w B p bF nf keep d i W) (o : Obj) : Ist w B p bF nf keep d i (W.alloc o) :=
  ⟨h.tu.alloc o, row_alloc h.b0 o, row_alloc h.b1 o, row_alloc h.b2 o, by obtain ⟨DF, h1, h2⟩ := h.mp; exact ⟨DF, h1.alloc o, h2⟩⟩
theorem Ist.drew (h : Ist w B p bF nf keep d i W) : Ist w B p bF nf keep d i W.drew := ⟨h.tu.drew, h.b0, h.b1, h.b2, h.mp⟩
theorem Ist.next (h : Ist w B p bF nf keep d i W) (hk : keep.data.toList ≠ []) {x : Nat × List UInt8} (hx : d.L[i]? = some x) (ho : Dsk.odd keep.data.toList i = false) : Ist w B p bF nf keep d (i + 1) W :=
  ⟨h.tu, h.b0, h.b1, h.b2, by
    obtain ⟨DF, h1, h2⟩ := h.mp
    refine ⟨DF, h1.mono (by omega), ?_⟩
    rw [Dsk.done_succ hk hx, ho]
    simpa using h2⟩
theorem Ist.stays (hbF : bF < w.heap.size) {C : Nat} (hC : w.heap.size ≤ C) : Stays C (fun W => Ist w B p bF nf keep d i W) := fun W l o o' hl ho hc hj => by
  have hne : bF ≠ l := fun e => by omega
  refine ⟨⟨hj.tu.os, hj.tu.tape, hj.tu.output, by show _ ≤ (W.putObj l o').heap.size; rw [World.putObj_size]; exact hj.tu.size, fun k hk hn => ?_⟩, Stays.row W l o o' hl ho hc hj.b0, Stays.row W l o o' hl ho hc hj.b1, Stays.row W l o o' hl ho hc hj.b2, ?_⟩
  · rw [show (W.putObj l o').heap[k]? = W.heap[k]? from World.putObj_heap_other (by omega)]
    exact hj.tu.block k hk hn
  · obtain ⟨DF, h1, h2⟩ := hj.mp
    exact ⟨DF, ownsMap_same h1 (World.putObj_heap_other (fun e => hne e)), h2⟩

/-- the write that is yielded -/
def wenc (d : Dsk.St) (i : Nat) : Array Value := #[.int .i64 ((d.L.getD i (0, [])).1 : Int), .agg (u8s (d.L.getD i (0, [])).2)]
def Iin (w : World) (B p bF nf : Nat) (keep : ByteArray) (d : Dsk.St) (i : Nat) (W : World) : Prop := (i < d.L.length ∧ keep.data.toList ≠ [] ∧ Dsk.odd keep.data.toList i = true) ∧ Ist w B p bF nf keep d i W
theorem Ist.empty (h : Ist w B p bF nf keep d 0 W) (hk : keep.data.toList = []) (n : Nat) : Ist w B p bF nf keep d n W :=
  ⟨h.tu, h.b0, h.b1, h.b2, by
    obtain ⟨DF, h1, h2⟩ := h.mp
    refine ⟨DF, h1.mono (by omega), ?_⟩
    have e : ∀ j, Dsk.done keep.data.toList d.L j = [] := fun j => by unfold Dsk.done; rw [if_pos hk]
    rw [e] at h2 ⊢
    exact h2⟩

set_option maxRecDepth 100000 in
set_option maxHeartbeats 1000000 in
theorem iter_any {S : Nat → Prop} {bM : Nat} {v : Value} {DF : DataW Unit} (h : DiskIn S p d w bF bM v nf DF) (hB : w.heap.size ≤ B) (hks : keep.size ≤ 1099511627776) (hnb : nf + d.L.length ≤ 1099511627776)
    (C : Nat) (ly : Nat) (Book : World → Prop) (W1 : World) (hBook : ∀ A A', KeepsFrom C A A' → Book A → Book A') (hb1 : Book W1) (hist : Ist w B p bF nf keep d 0 W1)
    (hY : ∀ i W, Book W → Iin w B p bF nf keep d i W → YieldAt Fence.wide 3 Try.prog ly (wenc d i) W fun e W' => e = .returned (.bool true) ∧ Book W' ∧ Ist w B p bF nf keep d (i + 1) W') :
    CallsIn Fence.wide 4 Try.prog 48 (#[.func (.yield ly) #[] #[]] ++ #[.pointer (some ⟨B + 2, 0, none⟩), .pointer (some ⟨B + 1, 0, none⟩)]) W1
      fun e W' => (∃ v, e = .returned v) ∧ Book W' ∧ Ist w B p bF nf keep d d.L.length W' := by
  have hvl := h.vlen
  refine callsIn_of_wp Try.func48 rfl trivial ?_ rfl
  simp only [Try.ntmps48, List.size_toArray, List.length_cons, List.length_nil, Nat.reduceAdd, Nat.reduceSub, Array.replicate_succ, Array.replicate_zero, List.push_toArray, List.append_toArray, List.nil_append, List.cons_append]
  have c1 := cell_of_one hist.b1
  have c2 := cell_of_one hist.b2
  have e2 : W1.heap[p]? = some (.cells (dcells d bF v bM) 56 (0, 0)) := hist.tu.same h.row h.pF
  have c3 : W1.cell? ⟨p, 2, none⟩ = some v := by rw [cell_of_row W1 p 2 _ _ _ e2]; rfl
  have HY := Lib.hid hY; clear hY
  have HB := Lib.hid hBook; clear hBook
  have Hb1 := Lib.hid hb1; clear hb1
  have Hist := Lib.hid hist; clear hist
  have H := Lib.hid h; clear h
  clear e2
  by_cases hk : keep.data.toList = []
  · have k1 : keep.toList.isEmpty = true := by rw [Lib.toList_data, hk]; rfl
    have k2 : keep.toList = [] := by rw [Lib.toList_data, hk]
    have Hk := Lib.hid hk; clear hk
    clear hvl
    gi_wp2
    refine bodyPost_ret (v := .tuple #[]) (results_none rfl _ _ _) rfl ?_
    exact ⟨⟨_, rfl⟩, Hb1.out, Hist.out.empty Hk.out _⟩
  · have k1 : keep.toList.isEmpty = false := by rw [Lib.toList_data]; cases hh : keep.data.toList with | nil => exact absurd hh hk | cons _ _ => rfl
    have k2 : ¬ keep.toList = [] := by rw [Lib.toList_data]; exact hk
    have hkz : 0 < keep.size := by rw [← ba_len]; exact List.length_pos_iff.2 hk
    have Hk := Lib.hid hk; clear hk
    rcases hvl with ⟨hl0, rfl⟩ | ⟨g, cap, rfl, hcap⟩
    · have hist := Hist.out
      rw [hl0]
      have Hist2 := Lib.hid hist; clear hist
      gi_wp2
      gi_loopw [14] (fun c wr => c = .int .i64 0 ∧ wr = W1) (fun _ _ => 0)
      case atStart => exact ⟨rfl, rfl⟩
      case round =>
        obtain ⟨rfl, rfl⟩ := hrel
        gi_wp2
        go_end0
        exact ⟨⟨_, rfl⟩, Hb1.out, Hist2.out⟩
    · generalize hn : d.L.length = n at *
      have Hn := Lib.hid hn; clear hn
      gi_wp2
      gi_loopw [14] (fun c wr => ∃ i, i ≤ n ∧ c = .int .i64 (i : Int) ∧ Book wr ∧ Ist w B p bF nf keep d i wr) (fun c _ => n - (intOf c).toNat)
      case atStart => exact ⟨0, by omega, rfl, Hb1.out, Hist.out⟩
      case round =>
        obtain ⟨i, hi, rfl, hbk, hst⟩ := hrel
        have b2 := cell_of_one hst.b2
        have Hbk := Lib.hid hbk; clear hbk
        have Hst := Lib.hid hst; clear hst
        clear c1 c2 c3 Hb1 Hist
        by_cases hlt : i < n
        · obtain ⟨x, hx⟩ : ∃ x, d.L[i]? = some x := ⟨d.L[i]'(by rw [Hn.out]; exact hlt), List.getElem?_eq_getElem _⟩
          have hxs : x.2.length = 64 := H.out.ok.sz x (List.mem_of_getElem? hx)
          have hgF : g ≠ bF := fun e => H.out.vF (by rw [e]; rfl)
          have hgl : g < w.heap.size := H.out.lt g (H.out.hv g rfl)
          have hran : wr.rangeAt g (i * 65) (wcells x) := fun j u hu => by
            rw [World.cell?_of_block (Hst.out.tu.block g hgl hgF)]
            exact H.out.rangeL rfl hx j u hu
          have hi66 : (Try.prog.info? 66).map (·.size) = some (wcells x).length := by rw [wcells_length hxs]; kernel_rfl
          have hld := run_loadAt_mid (P := Try.prog) wr g (i * 65) 66 (wcells x) _ hran Try.underlying66 rfl hi66
          have hz := zero_write
          have hzs := wz_size 0
          have hone : ((wcells x).toArray).all (·.oneCell') = true := by
            rw [Array.all_eq_true_iff_forall_mem]
            intro u hu
            exact wcells_one x u (by simpa using hu)
          have hws : (wcells x).toArray.size = 65 := by rw [List.size_toArray, wcells_length hxs]
          have hwx : wcells x = .int .i64 (x.1 : Int) :: (u8s x.2).toList := rfl
          generalize wcells x = cs at *
          generalize wz 0 = Z at *
          have hst := store_row (P := Try.prog) (wr.alloc (.cells Z 66)) wr.heap.size 66 66 _ cs.toArray (heap_alloc_new _ _) (by rw [hws]; kernel_rfl) (by rw [hzs, hws]) hone
          rw [World.setRow_alloc_new] at hst
          have Hstr := Lib.hid hst; clear hst
          have Hld := Lib.hid hld; clear hld
          have Hws := Lib.hid hws; clear hws
          have Hwx := Lib.hid hwx; clear hwx
          have Hx := Lib.hid hx; clear hx
          have Hxs := Lib.hid hxs; clear hxs
          clear hran hi66 hzs hone hgF hgl
          gi_wp2_with (first | (refine wpListIn_loaded (by rfl) 66 (.tmp 17) rfl ⟨g, i * 65, none⟩ _ rfl Hld.out ?_) | (refine wpListIn_stored (by rfl) 66 (.tmp 5) (.tmp 18) rfl ⟨wr.heap.size, 0, none⟩ _ rfl rfl Hstr.out ?_))
          obtain ⟨w2, hw2⟩ : ∃ w2, w2 = wr.alloc (.cells cs.toArray 66) := ⟨_, rfl⟩
          obtain ⟨X, hX⟩ : ∃ X, X = wr.heap.size := ⟨_, rfl⟩
          rw [← hw2, ← hX]
          have hst2 : Ist w B p bF nf keep d i w2 := by rw [hw2]; exact Hst.out.alloc _
          have hrow2 : w2.heap[X]? = some (.cells cs.toArray 66 (0, 0)) := by rw [hw2, hX]; exact heap_alloc_new wr _
          have hbk2 : Book w2 := by rw [hw2]; exact HB.out _ _ (KeepsFrom.alloc C wr _) Hbk.out
          have b3 := cell_of_one hst2.b2
          obtain ⟨q, hq⟩ : ∃ q, q = i % keep.size := ⟨_, rfl⟩
          have hqi : (i : Int) % (keep.size : Int) = (q : Int) := by rw [hq]; omega
          have hqs : q < keep.size := by rw [hq]; exact Nat.mod_lt _ hkz
          have hodd : Dsk.odd keep.data.toList i = (keep[q].toNat % 2 == 1) := by
            unfold Dsk.odd
            rw [ba_len, ← hq, List.getD_eq_getElem?_getD, List.getElem?_eq_getElem (by rw [ba_len]; exact hqs), Option.getD_some, ba_get keep q hqs]
          have q0 : (0 : Int) ≤ (q : Int) := by omega
          have q1 : (q : Int) < (keep.size : Int) := by omega
          have Hw2 := Lib.hid hw2; clear hw2
          have HX := Lib.hid hX; clear hX
          have Hst2 := Lib.hid hst2; clear hst2
          have Hrow2 := Lib.hid hrow2; clear hrow2
          have Hbk2 := Lib.hid hbk2; clear hbk2
          have Hq := Lib.hid hq; clear hq
          have Hodd := Lib.hid hodd; clear hodd
          clear b2
          refine wpIn_wide.2 ?_
          have hqt : Int.tmod (i : Int) (keep.size : Int) = (q : Int) := by rw [Int.tmod_eq_emod_of_nonneg (by omega)]; exact hqi
          have hk0 : ¬ ((keep.size : Nat) : Int) = 0 := by omega
          have hk3 : ¬ keep.size = 0 := by omega
          have hw3 : IntKind.i64.wrap (q : Int) = (q : Int) := IntWalk.i64_in _ (by omega)
          have htq : ((q : Int)).toNat = q := by omega
          clear hqi
          go_still_tail 8, (by kernel_rfl)
          change wpList _ _ _ _ _ w2.drew
          clear hqt hk0 hk3 hw3
          have hgd : d.L.getD i (0, []) = x := by rw [List.getD_eq_getElem?_getD, Hx.out]; rfl
          have hwe : wenc d i = #[.int .i64 (x.1 : Int), .agg (u8s x.2)] := by unfold wenc; rw [hgd]
          have Hwe := Lib.hid hwe; clear hwe
          clear hgd
          cases ho : Dsk.odd keep.data.toList i with
          | true =>
            have hob : (Int.tmod ((keep[q].toNat : Nat) : Int) 2 == 1) = true := by
              have h1 := Hodd.out
              rw [ho] at h1
              have h2 : keep[q].toNat % 2 = 1 := by simpa using h1.symm
              rw [Int.tmod_eq_emod_of_nonneg (by omega), beq_iff_eq]; omega
            rw [hob]
            have hin2 : Iin w B p bF nf keep d i w2.drew := ⟨⟨by rw [Hn.out]; exact hlt, Hk.out, ho⟩, Hst2.out.drew⟩
            obtain ⟨fn, tmps, assign, body, hy, hR⟩ := HY.out i w2.drew (HB.out _ _ (KeepsFrom.of_below ((Below.refl _ w2).drew)) Hbk2.out) hin2
            rw [Hwe.out] at hy
            have HR := Lib.hid hR; clear hR
            have c0 : w2.drew.cell? ⟨X, 0, none⟩ = some (.int .i64 (x.1 : Int)) := by
              rw [cell_of_row w2.drew X 0 _ _ _ Hrow2.out, Hwx.out]; rfl
            have hr1 : w2.drew.rangeAt X 1 (u8s x.2).toList := fun j u hu => by
              rw [cell_of_row w2.drew X (1 + j) _ _ _ Hrow2.out, Hwx.out]
              simpa [Nat.add_comm 1 j] using hu
            have hi63 : (Try.prog.info? 63).map (·.size) = some (u8s x.2).toList.length := by rw [Array.length_toList, u8s_size, Hxs.out]; kernel_rfl
            have hl2 := run_loadAt_mid (P := Try.prog) w2.drew X 1 63 (u8s x.2).toList _ hr1 Try.underlying63 rfl hi63
            rw [Array.toArray_toList] at hl2
            have Hl2 := Lib.hid hl2; clear hl2
            have Hin2 := Lib.hid hin2; clear hin2
            have Ho := Lib.hid ho; clear ho
            clear hr1 hi63 hob
            go_wp2
            gi_wp2_with (refine wpListIn_loaded (by rfl) 63 (.tmp 32) rfl ⟨X, 1, none⟩ _ rfl Hl2.out ?_)
            refine HR.out.mono ?_
            rintro e W7 ⟨rfl, hbk7, hit7⟩
            have Hbk7 := Lib.hid hbk7; clear hbk7
            have Hit7 := Lib.hid hit7; clear hit7
            gi_wp2
            go_roundw
            case rel => exact ⟨i + 1, by omega, by go_num, Hbk7.out, Hit7.out⟩
            case measure => simp [intOf]; omega
          | false =>
            have hob : (Int.tmod ((keep[q].toNat : Nat) : Int) 2 == 1) = false := by
              have h1 := Hodd.out
              rw [ho] at h1
              have h2 : ¬ keep[q].toNat % 2 = 1 := by simpa using h1.symm
              rw [Int.tmod_eq_emod_of_nonneg (by omega), beq_eq_false_iff_ne]; omega
            rw [hob]
            have hnx := (Hst2.out.drew).next Hk.out Hx.out ho
            have hbk3 := HB.out _ _ (KeepsFrom.of_below ((Below.refl _ w2).drew)) Hbk2.out
            have Hnx := Lib.hid hnx; clear hnx
            have Hbk3 := Lib.hid hbk3; clear hbk3
            have Ho := Lib.hid ho; clear ho
            clear hob
            go_wp2
            gi_wp2
            refine ⟨fun _ h => (by cases h), ?_⟩
            gi_wp2
            go_roundw
            case rel => exact ⟨i + 1, by omega, by go_num, Hbk3.out, Hnx.out⟩
            case measure => simp [intOf]; omega
        · obtain rfl : i = n := by omega
          gi_wp2
          go_end0
          exact ⟨⟨_, rfl⟩, Hbk.out, Hst.out⟩
end Go.Proofs.Ytjlkppdailkanaa
