/-
  What the iterator over the blocks that a text fills does, and what Write does.
-/
import Derived.Test.YtdlcdbpigcmnbaaDoorShaText
import Derived.Test.YtdlcdbpigcmnbaaDoorShaPure3
import Derived.Test.YtdlcdbpigcmnbaaDoorGoRange
import Derived.Test.YtdlcdbpigcmnbaaDoorGoCopy
import Derived.Test.YtdlcdbpigcmnbaaDoorGoLoad
import Derived.Deep.MidRow
import Derived.Deep.RegionHeld3
import Derived.OwnWalkIn
import Derived.TacticsInMore
import Derived.LoopNIn
import Derived.LoopIn
import Derived.Shelf.Abstract
import Derived.Shelf.RegionOpen
set_option linter.unusedVariables false
namespace Go.Proofs.YtdlcdbpigcmnbaaDoor
open Go.RowKit Go.Shelf
attribute [local go_sem] Oper.semAt_some

theorem blocks_any (p : Option Addr) (s : ByteArray) (w : World) :
    Calls Tryd.prog 28 #[.pointer p, .string s] w fun e w' => e = .returned (.func (.func 36) #[] #[.pointer (some ⟨w.heap.size + 1, 0, none⟩), .pointer (some ⟨w.heap.size, 0, none⟩)]) ∧ w' = (w.alloc (.cells #[.pointer p] 30)).alloc (.cells #[.string s] 9) := by
  go_enter Tryd.func28, Tryd.ntmps28
  go_wp2
  go_ret
  exact ⟨rfl, rfl⟩

theorem hcells_list (st : Sha.St) (rs : List UInt8) (n : Nat) : (hcells st rs n).toList = (u32s st.list).toList ++ ((u8s rs).toList ++ [.int .u64 (n : Int)]) := by simp [hcells]
theorem hcells_last (st : Sha.St) (rs : List UInt8) (n : Nat) (h : rs.length = 64) : (hcells st rs n)[72]? = some (.int .u64 (n : Int)) := by
  have h8 : (u32s st.list).size = 8 := by simp [Sha.St.list]
  have h64 : (u8s rs).size = 64 := by rw [u8s_size, h]
  rw [hcells, Array.getElem?_append_right (by omega), Array.getElem?_append_right (by omega), h8, h64]
  rfl
theorem hcells_put (st : Sha.St) (rs : List UInt8) (n n' : Nat) (h : rs.length = 64) : (hcells st rs n).setIfInBounds 72 (.int .u64 (n' : Int)) = hcells st rs n' := by
  have h8 : (u32s st.list).toList.length = 8 := by simp [Sha.St.list]
  have h64 : (u8s rs).toList.length = 64 := by simp [h]
  apply Array.ext'
  rw [Array.toList_setIfInBounds, hcells_list, hcells_list, List.set_append_right _ _ (by omega), List.set_append_right _ _ (by omega), h8, h64]
  rfl
theorem hcells_splice (st : Sha.St) (rs t : List UInt8) (n k : Nat) (h : rs.length = 64) (hk : k + t.length ≤ 64) :
    ((hcells st rs n).toList.take (8 + k) ++ (u8s t).toList ++ (hcells st rs n).toList.drop (8 + k + t.length)).toArray = hcells st (Sha.feed rs k t) n := by
  have h8 : (u32s st.list).toList.length = 8 := by simp [Sha.St.list]
  have h64 : (u8s rs).toList.length = 64 := by simp [h]
  apply Array.ext'
  rw [hcells_list, hcells_list]
  generalize (u32s st.list).toList = A at *
  rw [show 8 + k = A.length + k by omega, show A.length + k + t.length = A.length + (k + t.length) by omega, List.take_length_add_append, List.drop_length_add_append,
    List.take_append_of_le_length (by omega), List.drop_append_of_le_length (by omega)]
  simp [Sha.feed, u8s, List.map_take, List.map_drop]
theorem hcells_range {w : World} {b : Nat} {st : Sha.St} {rs : List UInt8} {n : Nat} {T : TypeId} (h : w.heap[b]? = some (.cells (hcells st rs n) T (0, 0))) (hr : rs.length = 64) : w.rangeAt b 8 (u8s rs).toList := by
  intro j v hj
  have h8 : (u32s st.list).size = 8 := by simp [Sha.St.list]
  have hjl : j < 64 := by
    have := (List.getElem?_eq_some_iff.1 hj).1
    simpa [hr] using this
  rw [cell_of_row w b _ _ T _ h, hcells, Array.getElem?_append_right (by omega), h8, show 8 + j - 8 = j by omega, Array.getElem?_append_left (by rw [u8s_size]; omega)]
  simpa using hj

/-- what lies where while the iterator runs, p bytes having been taken -/
structure It (w : World) (b : Nat) (S : List UInt8) (p : Nat) (W : World) : Prop where
  h0 : W.heap[w.heap.size]? = some (.cells #[.pointer (some ⟨b, 0, none⟩)] 30 (0, 0))
  h1 : W.heap[w.heap.size + 1]? = some (.cells #[.pointer (some ⟨b, 0, none⟩)] 30 (0, 0))
  sb : ∃ r : ByteArray, r.data.toList = S.drop p ∧ W.heap[w.heap.size + 2]? = some (.cells #[.string r] 9 (0, 0))
  gr : w.grownBy W (some b)

def strLeft (b : Nat) (W : World) : Nat := match W.cell? ⟨b, 0, none⟩ with | some (.string r) => r.size | _ => 0

theorem It.left {w : World} {b : Nat} {S : List UInt8} {p : Nat} {W : World} (h : It w b S p W) : strLeft (w.heap.size + 2) W = S.length - p := by
  obtain ⟨r, hr, hs⟩ := h.sb
  unfold strLeft
  rw [cell_of_one hs]
  simp only []
  rw [← ba_len, hr, List.length_drop]

structure Item where
  p : Nat
  bytes : List UInt8
  st : Sha.St

def Jin (w : World) (b : Nat) (n : Nat) (S : List UInt8) (x : Item) (W : World) : Prop :=
  It w b S x.p W ∧ (x.bytes.length = 64 ∧ x.st.Ok) ∧ W.heap[b]? = some (.cells (hcells x.st x.bytes (n + x.p)) 57 (0, 0))
def Jout (w : World) (b : Nat) (n : Nat) (S : List UInt8) (x : Item) (W : World) : Prop :=
  It w b S x.p W ∧ W.heap[b]? = some (.cells (hcells (Sha.block Sha.K0 x.st x.bytes) x.bytes (n + x.p)) 57 (0, 0))
def Jend (w : World) (b : Nat) (l S : List UInt8) (W : World) : Prop :=
  It w b S S.length W ∧ ∃ rest, W.heap[b]? = some (.cells (hcells (Sha.full (l ++ S)) rest (l ++ S).length) 57 (0, 0)) ∧ Sha.Left rest (l ++ S)

set_option maxRecDepth 100000 in
set_option maxHeartbeats 1000000 in
theorem iter_any (w : World) (b : Nat) (l S : List UInt8) (rest : List UInt8) (hbw : b < w.heap.size) (hsum : l.length + S.length ≤ 9223372036854775807) (hleft : Sha.Left rest l)
    (ly : Nat) (Book : World → Prop) (W1 : World) (hBook : ∀ A B, KeepsOthers A B → Book A → Book B) (hb1 : Book W1) (hit : It w b S 0 W1)
    (hrow : W1.heap[b]? = some (.cells (hcells (Sha.full l) rest l.length) 57 (0, 0)))
    (hY : ∀ x W, Book W → Jin w b l.length S x W → YieldAt Fence.wide 3 Tryd.prog ly #[.agg (u8s x.bytes)] W fun e W' => e = .returned (.bool true) ∧ Book W' ∧ Jout w b l.length S x W') :
    CallsIn Fence.wide 4 Tryd.prog 36 (#[.func (.yield ly) #[] #[]] ++ #[.pointer (some ⟨w.heap.size + 2, 0, none⟩), .pointer (some ⟨w.heap.size + 1, 0, none⟩)]) W1
      fun e W' => (∃ v, e = .returned v) ∧ Book W' ∧ Jend w b l S W' := by
  refine callsIn_of_wp Tryd.func36 rfl trivial ?_ rfl
  simp only [Tryd.ntmps36, List.size_toArray, List.length_cons, List.length_nil, Nat.reduceAdd, Nat.reduceSub, Array.replicate_succ, Array.replicate_zero, List.push_toArray, List.append_toArray, List.nil_append, List.cons_append]
  have HY := Lib.hid hY; clear hY
  have HB := Lib.hid hBook; clear hBook
  have Hb1 := Lib.hid hb1; clear hb1
  have Hit := Lib.hid hit; clear hit
  have Hrow := Lib.hid hrow; clear hrow
  have Hleft := Lib.hid hleft; clear hleft
  gi_wp2
  gi_loopw [4] (fun _ wr => ∃ p rest, p ≤ S.length ∧ It w b S p wr ∧ Book wr ∧ wr.heap[b]? = some (.cells (hcells (Sha.full (l ++ S.take p)) rest (l.length + p)) 57 (0, 0)) ∧ Sha.Left rest (l ++ S.take p)) (fun _ wr => strLeft (w.heap.size + 2) wr)
  case atStart =>
    exact ⟨0, rest, by omega, Hit.out, Hb1.out, by simpa using Hrow.out, by simpa using Hleft.out⟩
  case round =>
    obtain ⟨p, rs, hp, hit, hbk, hrw, hlf⟩ := hrel
    obtain ⟨g0, g1, ⟨r, hr, g2⟩, gg⟩ := hit
    have hrs : r.size = S.length - p := by rw [← ba_len, hr, List.length_drop]
    have c1 := cell_of_one g1
    have c2 := cell_of_one g2
    have f2 := free_of_one g2
    have Hr := Lib.hid hr; clear hr
    have G0 := Lib.hid g0; clear g0
    have G1 := Lib.hid g1; clear g1
    have G2 := Lib.hid g2; clear g2
    have GG := Lib.hid gg; clear gg
    have Hrs := Lib.hid hrs; clear hrs
    have Hbk := Lib.hid hbk; clear hbk
    have Hrw := Lib.hid hrw; clear hrw
    have Hlf := Lib.hid hlf; clear hlf
    by_cases hend : p = S.length
    · have e1 : r.toList.isEmpty = true := by
        have := Hrs.out
        rw [List.isEmpty_iff_length_eq_zero]
        have h2 : r.toList.length = r.size := by rw [Lib.toList_data, ba_len]
        omega
      have e2 : (!r.toList.isEmpty) = false := by rw [e1]; rfl
      gi_wp2
      go_end0
      have ht : S.take p = S := List.take_of_length_le (by omega)
      have h1 := Hrw.out
      have h2 := Hlf.out
      rw [ht] at h1 h2
      rw [hend, ← List.length_append] at h1
      exact ⟨⟨_, rfl⟩, Hbk.out, ⟨G0.out, G1.out, ⟨r, by rw [← hend]; exact Hr.out, G2.out⟩, GG.out⟩, rs, h1, h2⟩
    · have e1 : r.toList.isEmpty = false := by
        have := Hrs.out
        rw [Bool.eq_false_iff, Ne, List.isEmpty_iff_length_eq_zero]
        have h2 : r.toList.length = r.size := by rw [Lib.toList_data, ba_len]
        omega
      have e2 : (!r.toList.isEmpty) = true := by rw [e1]; rfl
      have hrl := Hlf.out.len
      have c3 : wr.cell? ⟨b, 72, none⟩ = some (.int .u64 ((l.length + p : Nat) : Int)) := by rw [cell_of_row wr b _ _ _ _ Hrw.out, hcells_last _ _ _ hrl]
      obtain ⟨n, hn⟩ : ∃ n, n = l.length + p := ⟨_, rfl⟩
      have hnb : n ≤ 9223372036854775807 := by omega
      obtain ⟨k, hk⟩ : ∃ k, k = n % 64 := ⟨_, rfl⟩
      have hk64 : k < 64 := by omega
      have hkz : (n : Int) % 64 = (k : Int) := by omega
      rw [← hn] at c3
      have Hn := Lib.hid hn; clear hn
      have Hk := Lib.hid hk; clear hk
      have Hrl := Lib.hid hrl; clear hrl
      have hsl := fun u => slice_arr_l (P := Tryd.prog) 54 64 (by kernel_rfl) (by kernel_rfl) (fun _ => by kernel_rfl) b 8 (k : Int) k rfl hk64 u
      obtain ⟨m, hm⟩ : ∃ m, m = min r.size (64 - k) := ⟨_, rfl⟩
      have hmp : 0 < m := by have := Hrs.out; omega
      have hmk : k + m ≤ 64 := by omega
      have hmr : m ≤ r.size := by omega
      have hfit : 8 + k + m ≤ (hcells (Sha.full (l ++ S.take p)) rs (l.length + p)).size := by rw [hcells_size _ _ _ Hrl.out]; omega
      have hinfo : (Tryd.prog.info? 5).map (·.size) = some 1 := by kernel_rfl
      have htl : (r.data.toList.take m).length = m := by rw [List.length_take, ba_len]; omega
      have hspl := hcells_splice (Sha.full (l ++ S.take p)) rs (r.data.toList.take m) (l.length + p) k Hrl.out (by omega)
      rw [htl] at hspl
      obtain ⟨cs2, hcs2⟩ : ∃ cs2, cs2 = hcells (Sha.full (l ++ S.take p)) (Sha.feed rs k (r.data.toList.take m)) (l.length + p) := ⟨_, rfl⟩
      rw [← hcs2] at hspl
      have hbn : ∀ j, b ≠ w.heap.size + j := fun j => by omega
      have kc : ∀ j x (cs : Array Value), wr.cell? ⟨w.heap.size + j, 0, none⟩ = some x → (wr.setRow b cs).drew.cell? ⟨w.heap.size + j, 0, none⟩ = some x := fun j x cs h => by
        show (wr.setRow b cs).cell? _ = _
        rw [cell_setRow_other _ _ _ _ (by simp; omega)]; exact h
      have Kc := Lib.hid kc; clear kc
      have Hm := Lib.hid hm; clear hm
      have Hfit := Lib.hid hfit; clear hfit
      have Hinfo := Lib.hid hinfo; clear hinfo
      have Htl := Lib.hid htl; clear htl
      have Hspl := Lib.hid hspl; clear hspl
      have Hcs2 := Lib.hid hcs2; clear hcs2
      have Hbn := Lib.hid hbn; clear hbn
      gi_wp2
      refine wpIn_wide.2 ?_
      go_region_held3 (fun w' => w'.cell? ⟨w.heap.size + 1, 0, none⟩ = some (.pointer (some ⟨b, 0, none⟩)) ∧ w'.cell? ⟨w.heap.size + 2, 0, none⟩ = some (.string r)) (first | exact ⟨Kc.out 1 _ _ c1, Kc.out 2 _ _ c2⟩ | exact ⟨c1, c2⟩ | go_keep) ((refine step_copy_str (by rfl) (.tmp 18) (.tmp 19) 40 9 (by rfl) 5 Tryd.underlying40 Hinfo.out b (8 + k) (64 - k) (64 - k) (by rfl) r (by rfl) m Hm.out _ _ Hrw.out Hfit.out ?_))
      rw [Hspl.out]
      obtain ⟨w2, hw2⟩ : ∃ w2, w2 = wr.drew.setRow b cs2 := ⟨_, rfl⟩
      rw [← hw2]
      have hrow2 : w2.heap[b]? = some (.cells (hcells (Sha.full (l ++ S.take p)) (Sha.feed rs k (r.data.toList.take m)) (l.length + p)) 57 (0, 0)) := by
        rw [hw2, Hcs2.out]; exact setRow_heap wr.drew b _ _ _ _ Hrw.out
      have hoth : ∀ j (o : Obj), wr.heap[w.heap.size + j]? = some o → w2.heap[w.heap.size + j]? = some o := fun j o h => by
        rw [hw2, setRow_other _ _ _ _ (fun e => Hbn.out j e.symm)]; exact h
      have hflen : (Sha.feed rs k (r.data.toList.take m)).length = 64 := Sha.feed_length _ _ _ Hrl.out (by rw [Htl.out]; omega)
      have hg2 : w.grownBy w2 (some b) := by
        rw [hw2]
        exact grown_trans GG.out ⟨rfl, rfl, rfl, by simp, fun j hj hne => setRow_other _ _ _ _ (fun e => hne (by rw [e]))⟩
      have hko : KeepsOthers wr w2 := by
        rw [hw2]
        exact KeepsOthers.of_grownBy (row := some b) ⟨rfl, rfl, rfl, by simp, fun j hj hne => setRow_other _ _ _ _ (fun e => hne (by rw [e]))⟩ (fun j o e h => by cases e; rw [Hrw.out] at h; cases h; rfl)
      have x0 := hoth 0 _ G0.out
      have x1 := hoth 1 _ G1.out
      have x2 := hoth 2 _ G2.out
      have d1 := cell_of_one x1
      have d2 := cell_of_one x2
      have d4 := free_of_one x2
      have d3 : w2.cell? ⟨b, 72, none⟩ = some (.int .u64 (n : Int)) := by rw [cell_of_row w2 b _ _ _ _ hrow2, hcells_last _ _ _ hflen, Hn.out]
      have d5 := row_free hrow2 72
      have Hw2 := Lib.hid hw2; clear hw2
      have Hrow2 := Lib.hid hrow2; clear hrow2
      have Hflen := Lib.hid hflen; clear hflen
      have Hg2 := Lib.hid hg2; clear hg2
      have Hko := Lib.hid hko; clear hko
      have X0 := Lib.hid x0; clear x0
      have X1 := Lib.hid x1; clear x1
      have X2 := Lib.hid x2; clear x2
      clear hoth c1 c2 c3 f2 hsl hkz
      have n1 : ¬ w.heap.size + 1 = b := by omega
      have n2 : ¬ w.heap.size + 2 = b := by omega
      have n3 : ¬ b = w.heap.size + 1 := by omega
      have n4 : ¬ b = w.heap.size + 2 := by omega
      have hms : m ≤ r.size := hmr
      have hmi : ((m : Int)) ≤ (r.size : Int) := by omega
      obtain ⟨w5, hw5⟩ : ∃ w5, w5 = (w2.setCell ⟨b, 72, none⟩ (.int .u64 ((n : Int) + (m : Int)))).setCell ⟨w.heap.size + 2, 0, none⟩ (.string (r.extract m r.size)) := ⟨_, rfl⟩
      have q0 : w5.heap[w.heap.size + 0]? = some (.cells #[.pointer (some ⟨b, 0, none⟩)] 30 (0, 0)) := by
        rw [hw5, heap_setCell_other _ _ _ _ (by simp), heap_setCell_other _ _ _ _ (by simp; omega)]; exact X0.out
      have q1 : w5.heap[w.heap.size + 1]? = some (.cells #[.pointer (some ⟨b, 0, none⟩)] 30 (0, 0)) := by
        rw [hw5, heap_setCell_other _ _ _ _ (by simp), heap_setCell_other _ _ _ _ (by simp; omega)]; exact X1.out
      have q2 : w5.heap[w.heap.size + 2]? = some (.cells #[.string (r.extract m r.size)] 9 (0, 0)) := by
        rw [hw5]; exact one_setCell (by rw [heap_setCell_other _ _ _ _ (by simp; omega)]; exact X2.out)
      have qb : w5.heap[b]? = some (.cells (hcells (Sha.full (l ++ S.take p)) (Sha.feed rs k (r.data.toList.take m)) (n + m)) 57 (0, 0)) := by
        rw [hw5, heap_setCell_other _ _ _ _ (by simp; omega), heap_setCell_same w2 b 72 _ _ _ Hrow2.out]
        rw [show ((n : Int) + (m : Int)) = ((n + m : Nat) : Int) by simp, hcells_put _ _ _ _ Hflen.out]
      have qg : w.grownBy w5 (some b) := by
        rw [hw5]
        have h1 := grown_trans Hg2.out (grown_set w2 b 72 (.int .u64 ((n : Int) + (m : Int))))
        exact ⟨h1.os, h1.tape, h1.output, by show w.heap.size ≤ (World.setCell _ _ _).heap.size; simp only [World.setCell, Array.size_modify]; have := Hg2.out.size; exact this,
          fun j hj hne => by rw [heap_setCell_other _ _ _ _ (by simp; omega)]; exact h1.block j hj hne⟩
      have qo : KeepsOthers wr w5 := by
        rw [hw5]; exact (Hko.out.trans (KeepsOthers.setCell _ _ _)).trans (KeepsOthers.setCell _ _ _)
      have hrt : (r.extract m r.size).data.toList = S.drop (p + m) := by
        rw [← Lib.toList_data, Lib.extract_toList, Hr.out, List.drop_drop, List.take_of_length_le]
        have := Hrs.out
        rw [List.length_drop]; omega
      have hit5 : It w b S (p + m) w5 := ⟨q0, q1, ⟨_, hrt, q2⟩, qg⟩
      have hpm : p + m ≤ S.length := by have := Hrs.out; omega
      have hcat : l ++ S.take (p + m) = (l ++ S.take p) ++ r.data.toList.take m := by rw [Hr.out, List.append_assoc, ← List.take_add]
      have hln : (l ++ S.take p).length = n := by rw [List.length_append, List.length_take, Hn.out]; omega
      have hslr : strLeft (w.heap.size + 2) wr = S.length - p := It.left ⟨G0.out, G1.out, ⟨r, Hr.out, G2.out⟩, GG.out⟩
      have Q5 := Lib.hid hit5; clear hit5 q0 q1 q2 qg
      have Qb := Lib.hid qb; clear qb
      have Qo := Lib.hid qo; clear qo
      have Hpm := Lib.hid hpm; clear hpm
      have Hcat := Lib.hid hcat; clear hcat
      have Hln := Lib.hid hln; clear hln
      have Hslr := Lib.hid hslr; clear hslr
      have Hrt := Lib.hid hrt; clear hrt
      have Hw5 := Lib.hid hw5; clear hw5
      by_cases hfull : k + m = 64
      · have hq : ((k : Int) + (m : Int) == 64) = true := by rw [beq_iff_eq]; omega
        have hi54 : (Tryd.prog.info? 54).map (·.size) = some (u8s (Sha.feed rs k (r.data.toList.take m))).toList.length := by rw [Array.length_toList, u8s_size, Hflen.out]; kernel_rfl
        have hld := run_loadAt_mid (P := Tryd.prog) w5 b 8 54 (u8s (Sha.feed rs k (r.data.toList.take m))).toList _ (hcells_range Qb.out Hflen.out) Tryd.underlying54 rfl hi54
        obtain ⟨lb1, lb2⟩ := Sha.left_block Hlf.out (r.data.toList.take m) (by rw [Hln.out, ← Hk.out, Htl.out]; exact hfull)
        rw [Hln.out, ← Hk.out] at lb1 lb2
        obtain ⟨fn, tmps, assign, body, hy, hR⟩ := HY.out ⟨p + m, Sha.feed rs k (r.data.toList.take m), Sha.full (l ++ S.take p)⟩ w5 (HB.out _ _ Qo.out Hbk.out) ⟨Q5.out, ⟨Hflen.out, Sha.full_ok _⟩, by
          have := Qb.out
          rw [Hn.out, Nat.add_assoc] at this
          exact this⟩
        dsimp only at hy
        rw [Array.toArray_toList] at hld
        have Hld := Lib.hid hld; clear hld
        have HR := Lib.hid hR; clear hR
        have Lb1 := Lib.hid lb1; clear lb1
        have Lb2 := Lib.hid lb2; clear lb2
        clear hi54
        rw [Hw5.out] at hy Hld
        gi_wp2_with (refine wpListIn_loaded (by rfl) 54 (.tmp 41) rfl ⟨b, 8, none⟩ _ rfl Hld.out ?_)
        rw [← Hw5.out]
        refine HR.out.mono ?_
        rintro e W7 ⟨rfl, hbk7, hit7, hrow7⟩
        have hit7l := hit7.left
        have Hbk7 := Lib.hid hbk7; clear hbk7
        have Hit7 := Lib.hid hit7; clear hit7
        have Hrow7 := Lib.hid hrow7; clear hrow7
        have Hit7l := Lib.hid hit7l; clear hit7l
        gi_wp2
        go_roundw
        case rel =>
          refine ⟨p + m, Sha.feed rs k (r.data.toList.take m), Hpm.out, Hit7.out, Hbk7.out, ?_, ?_⟩
          · rw [Hcat.out, Lb2.out]; exact Hrow7.out
          · rw [Hcat.out]; exact Lb1.out
        case measure =>
          have h1 := Hpm.out
          have h2 := Hit7l.out
          rw [Hslr.out, h2]
          omega
      · have hq : ((k : Int) + (m : Int) == 64) = false := by rw [beq_eq_false_iff_ne]; omega
        obtain ⟨lb1, lb2⟩ := Sha.left_more Hlf.out (r.data.toList.take m) (by rw [Hln.out, ← Hk.out, Htl.out]; omega)
        rw [Hln.out, ← Hk.out] at lb1
        have Lb1 := Lib.hid lb1; clear lb1
        have Lb2 := Lib.hid lb2; clear lb2
        have h5l := Q5.out.left
        have H5l := Lib.hid h5l; clear h5l
        have hbk5 := HB.out _ _ Qo.out Hbk.out
        have Hbk5 := Lib.hid hbk5; clear hbk5
        gi_wp2
        refine ⟨fun _ h => (by cases h), ?_⟩
        gi_wp2
        rw [← Hw5.out]
        go_roundw
        case rel =>
          refine ⟨p + m, Sha.feed rs k (r.data.toList.take m), Hpm.out, Q5.out, Hbk5.out, ?_, ?_⟩
          · rw [Hcat.out, Lb2.out, ← Nat.add_assoc, ← Hn.out]; exact Qb.out
          · rw [Hcat.out]; exact Lb1.out
        case measure =>
          have h1 := Hpm.out
          have h2 := H5l.out
          rw [Hslr.out, h2]
          omega

set_option maxRecDepth 100000 in
set_option maxHeartbeats 1000000 in
theorem write_any (b : Nat) (l rest : List UInt8) (s : ByteArray) (w : World) (hK : Kw w) (hb0 : b ≠ 0) (hb : w.heap[b]? = some (.cells (hcells (Sha.full l) rest l.length) 57 (0, 0))) (hleft : Sha.Left rest l) (hlen : l.length + s.size ≤ 9223372036854775807) :
    Calls Tryd.prog 17 #[.pointer (some ⟨b, 0, none⟩), .string s] w fun e w' => e = .returned (.int .i64 0) ∧ w.grownBy w' (some b) ∧ ∃ rest', w'.heap[b]? = some (.cells (hcells (Sha.full (l ++ s.data.toList)) rest' (l ++ s.data.toList).length) 57 (0, 0)) ∧ Sha.Left rest' (l ++ s.data.toList) := by
  refine (callsIn_wide (n := 5)).1 ?_
  refine callsIn_of_wp_marks Tryd.func17 rfl trivial ?_ rfl
  simp only [Tryd.ntmps17, List.size_toArray, List.length_cons, List.length_nil, Nat.reduceAdd, Nat.reduceSub, Array.replicate_succ, Array.replicate_zero, List.push_toArray, List.append_toArray, List.nil_append, List.cons_append]
  gi_wp2_with (refine ⟨trivial, ?_⟩; gi_at_call 28; refine (callsIn_wide.2 (blocks_any _ _ _)).mono ?_; rintro e w' ⟨rfl, rfl⟩)
  have hbw := row_lt hb
  have hbN : ∀ j, b ≠ w.heap.size + j := fun j => by omega
  obtain ⟨w3, hw3⟩ : ∃ w3, w3 = ((w.alloc (.cells #[.pointer (some ⟨b, 0, none⟩)] 30)).alloc (.cells #[.pointer (some ⟨b, 0, none⟩)] 30)).alloc (.cells #[.string s] 9) := ⟨_, rfl⟩
  rw [← hw3]
  have hs3 : w3.heap.size = w.heap.size + 3 := by rw [hw3]; simp
  have hbel3 : Below w.heap.size w w3 := by rw [hw3]; exact (((Below.refl _ w).alloc (Nat.le_refl _) _).alloc (by simp) _).alloc (by simp; omega) _
  have hit3 : It w b s.data.toList 0 w3 := by
    refine ⟨?_, ?_, ⟨s, by simp, ?_⟩, grown_of_below hbel3 _⟩
    · rw [hw3]; exact row_alloc (row_alloc (heap_alloc_new _ _) _) _
    · rw [hw3]; refine row_alloc ?_ _; have := heap_alloc_new (w.alloc (.cells #[.pointer (some ⟨b, 0, none⟩)] 30)) (.cells #[.pointer (some ⟨b, 0, none⟩)] 30); simpa using this
    · rw [hw3]; have := heap_alloc_new ((w.alloc (.cells #[.pointer (some ⟨b, 0, none⟩)] 30)).alloc (.cells #[.pointer (some ⟨b, 0, none⟩)] 30)) (.cells #[.string s] 9); simpa using this
  have hrow3 := row_below hb hbel3 hbw
  have hKg : ∀ W, w.grownBy W (some b) → Kw W := fun W hg j hj => by
    have hlt := block_lt_of_cell (hK j hj)
    rw [World.cell?_of_block (w := w) (hg.block 0 hlt (fun e => hb0 (by cases e; rfl)))]
    exact hK j hj
  have sIt : ∀ p, Stays w3.heap.size (fun W => It w b s.data.toList p W) := fun p W l o o' hl ho hc hj => by
    obtain ⟨i0, i1, ⟨r, hr, i2⟩, ig⟩ := hj
    exact ⟨Stays.row W l o o' hl ho hc i0, Stays.row W l o o' hl ho hc i1, ⟨r, hr, Stays.row W l o o' hl ho hc i2⟩, Stays.grown (B := w3.heap.size) (by omega) W l o o' hl ho hc ig⟩
  have HKg := Lib.hid hKg; clear hKg
  have Hit3 := Lib.hid hit3; clear hit3
  have Hrow3 := Lib.hid hrow3; clear hrow3
  have HbN := Lib.hid hbN; clear hbN
  have hsl : s.data.toList.length = s.size := ba_len s
  refine rangeFunc_through rfl (by decide) (gf := 36) (lb := #[.pointer (some ⟨w.heap.size + 2, 0, none⟩), .pointer (some ⟨w.heap.size + 1, 0, none⟩)]) rfl trivial (enters_of Tryd.func36 (by kernel_rfl) rfl)
    (fun x : Item => #[.agg (u8s x.bytes)]) (fun _ => rfl)
    (fun W => It w b s.data.toList 0 W ∧ W.heap[b]? = some (.cells (hcells (Sha.full l) rest l.length) 57 (0, 0)))
    (Jend w b l s.data.toList) (Jin w b l.length s.data.toList) (Jout w b l.length s.data.toList)
    (fun x a₁ W => Jin w b l.length s.data.toList x W ∧ ∃ v, W.heap[v]? = some (.cells (u8s x.bytes) 54 (0, 0)) ∧ a₁ = { tmps := #[.pointer (some ⟨b, 0, none⟩), .string s, .pointer (some ⟨w.heap.size, 0, none⟩), undef, .int .i64 0, .pointer (some ⟨v, 0, none⟩), .pointer (some ⟨b, 0, none⟩), .bool false, .pointer (some ⟨b, 0, none⟩), .string s, .func (.func 36) #[] #[.pointer (some ⟨w.heap.size + 1 + 1, 0, none⟩), .pointer (some ⟨w.heap.size + 1, 0, none⟩)], .agg (u8s x.bytes), undef, undef, undef, undef], defers := [] })
    ?sEnd ?sOut ?sMid ?h0 ?hiter ?hassign ?hbody ?hdone
  case sEnd => exact fun W l o o' hl ho hc hj => ⟨sIt _ W l o o' hl ho hc hj.1, by obtain ⟨r, h1, h2⟩ := hj.2; exact ⟨r, Stays.row W l o o' hl ho hc h1, h2⟩⟩
  case sOut => exact fun x W l o o' hl ho hc hj => ⟨sIt _ W l o o' hl ho hc hj.1, Stays.row W l o o' hl ho hc hj.2⟩
  case sMid => exact fun x a₁ W l o o' hl ho hc hj => ⟨⟨sIt _ W l o o' hl ho hc hj.1.1, hj.1.2.1, Stays.row W l o o' hl ho hc hj.1.2.2⟩, by obtain ⟨v, h1, h2⟩ := hj.2; exact ⟨v, Stays.row W l o o' hl ho hc h1, h2⟩⟩
  case h0 =>
    intro o o'
    obtain ⟨i0, i1, ⟨r, hr, i2⟩, ig⟩ := Hit3.out
    refine ⟨⟨row_alloc (row_alloc i0 _) _, row_alloc (row_alloc i1 _) _, ⟨r, hr, row_alloc (row_alloc i2 _) _⟩, ?_⟩, row_alloc (row_alloc Hrow3.out _) _⟩
    exact grown_of_below ((hbel3.alloc (by omega) _).alloc (by simp; omega) _) _
  case hiter =>
    intro ly Book W1 hBk hly hb1 hj0 hY
    exact iter_any w b l s.data.toList rest hbw (by rw [hsl]; exact hlen) hleft ly Book W1 hBk hb1 hj0.1 hj0.2 hY
  case hassign =>
    intro ly x W K hly hin hK
    have hx := hin.2.1.1
    have hz : ∀ w, (zeroValue 54).run Tryd.prog w = .ok (.agg (u8s (nils8 64))) w := fun _ => by kernel_rfl
    have hi54 : (Tryd.prog.info? 54).map (·.size) = some (u8s x.bytes).size := by rw [u8s_size, hx]; kernel_rfl
    have hst := store_row (P := Tryd.prog) (W.alloc (.cells (u8s (nils8 64)) 54)) W.heap.size 54 54 _ (u8s x.bytes) (heap_alloc_new _ _) hi54 (by rw [u8s_size, u8s_size, hx, nils8_length]) (u8s_one _)
    rw [World.setRow_alloc_new] at hst
    have Hst := Lib.hid hst; clear hst
    have Hin := Lib.hid hin; clear hin
    have Hx := Lib.hid hx; clear hx
    clear hi54 hw3
    gi_wp2_with (refine wpListIn_stored (by rfl) 54 (.tmp 5) (.tmp 11) rfl ⟨W.heap.size, 0, none⟩ _ rfl rfl Hst.out ?_)
    refine hK _ _ (KeepsOthers.alloc _ _) ⟨?_, W.heap.size, heap_alloc_new _ _, rfl⟩
    obtain ⟨⟨i0, i1, ⟨r, hr, i2⟩, ig⟩, h2, h3⟩ := Hin.out
    exact ⟨⟨row_alloc i0 _, row_alloc i1 _, ⟨r, hr, row_alloc i2 _⟩, grown_trans ig (World.grownBy_alloc _ _ _)⟩, h2, row_alloc h3 _⟩
  case hbody =>
    rintro ly x a₁ W hly ⟨⟨⟨i0, i1, ⟨r, hr, i2⟩, ig⟩, ⟨h2, h3⟩, h4⟩, v, hv, rfl⟩
    have c0 := cell_of_one i0
    have ha := add_any b v 57 54 (0, 0) x.st h3 (u8s x.bytes ++ #[.int .u64 ((l.length + x.p : Nat) : Int)]) x.bytes W (HKg.out W ig) h4 hv h2
    have Ha := Lib.hid ha; clear ha
    have I0 := Lib.hid i0; clear i0
    have I1 := Lib.hid i1; clear i1
    have I2 := Lib.hid i2; clear i2
    have IG := Lib.hid ig; clear ig
    have H4 := Lib.hid h4; clear h4
    have Hv := Lib.hid hv; clear hv
    have Hr := Lib.hid hr; clear hr
    clear hw3 h2 hsl
    gi_wp2_with (refine ⟨trivial, ?_⟩; gi_at_call 29; refine (CallsIn.inRound ly (callsIn_wide.2 Ha.out)).mono ?_; rintro e W2 ⟨⟨v2, rfl⟩, hg, hrw⟩)
    refine ⟨KeepsOthers.of_grownBy hg (fun j o e h => by cases e; rw [H4.out] at h; cases h; rfl), ⟨?_, ?_, ⟨r, Hr.out, ?_⟩, grown_trans IG.out hg⟩, hrw⟩
    · exact grown_row I0.out hg (fun e => HbN.out 0 (by omega))
    · exact grown_row I1.out hg (fun e => HbN.out 1 (by omega))
    · exact grown_row I2.out hg (fun e => HbN.out 2 (by omega))
  case hdone =>
    rintro D W hD ⟨⟨i0, i1, ⟨r, hr, i2⟩, ig⟩, rs, h1, h2⟩ hK2
    have IG := Lib.hid ig; clear ig
    have H1 := Lib.hid h1; clear h1
    have HK2 := Lib.hid hK2; clear hK2
    clear hw3 i0 i1 i2 hr hsl
    gi_wp2
    refine ⟨by simp, .inl ⟨_, _, rfl, run_takeDeferred HK2.out, ?_⟩⟩
    exact ⟨_, results_tmp rfl _ _ _, rfl, Stays.grown (B := w3.heap.size) (by omega) W D _ _ hD HK2.out rfl IG.out, rs, Stays.row W D _ _ hD HK2.out rfl H1.out, h2⟩
end Go.Proofs.YtdlcdbpigcmnbaaDoor
