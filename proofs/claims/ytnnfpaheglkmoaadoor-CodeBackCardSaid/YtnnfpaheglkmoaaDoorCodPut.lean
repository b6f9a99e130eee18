/-
  The bytes of a program: code.Put.
-/
import Derived.Test.YtnnfpaheglkmoaaDoorCodMay
import Derived.Test.YtnnfpaheglkmoaaDoorGoBldF
set_option linter.unusedVariables false
set_option maxRecDepth 100000
namespace Cod
/-- the first k texts' bytes, and the first k instructions' -/
def tB (ts : List (List UInt8)) (k : Nat) : List UInt8 := (ts.take k).flatMap putT
def cB (cs : List In) (k : Nat) : List UInt8 := (cs.take k).flatMap putC
theorem tB_zero (ts : List (List UInt8)) : tB ts 0 = [] := rfl
theorem cB_zero (cs : List In) : cB cs 0 = [] := rfl
theorem tB_all (ts : List (List UInt8)) : tB ts ts.length = ts.flatMap putT := by unfold tB; rw [List.take_length]
theorem cB_all (cs : List In) : cB cs cs.length = cs.flatMap putC := by unfold cB; rw [List.take_length]
theorem tB_succ (ts : List (List UInt8)) (k : Nat) (h : k < ts.length) : tB ts (k + 1) = tB ts k ++ [b8 ts[k].length] ++ ts[k] := by
  unfold tB
  rw [List.take_succ_eq_append_getElem h, List.flatMap_append]
  simp [putT]
theorem cB_succ (cs : List In) (k : Nat) (h : k < cs.length) : cB cs (k + 1) = cB cs k ++ [(cs.getD k (0, 0)).1] ++ [(cs.getD k (0, 0)).2] := by
  unfold cB
  rw [List.take_succ_eq_append_getElem h, List.flatMap_append, List.getD_eq_getElem?_getD, List.getElem?_eq_getElem h]
  simp [putC]
theorem cB_length (cs : List In) (k : Nat) (h : k ≤ cs.length) : (cB cs k).length = 2 * k := by
  unfold cB
  rw [putC_length, List.length_take]
  omega
theorem tB_length (ts : List (List UInt8)) (h : ∀ t ∈ ts, t.length ≤ 64) : ∀ k, (tB ts k).length ≤ 65 * k := by
  intro k
  unfold tB
  have : ∀ l : List (List UInt8), (∀ t ∈ l, t.length ≤ 64) → (l.flatMap putT).length ≤ 65 * l.length := by
    intro l
    induction l with
    | nil => intro _; simp
    | cons t r ih =>
      intro hl
      have h1 := hl t (by simp)
      have h2 := ih (fun u hu => hl u (by simp [hu]))
      rw [List.flatMap_cons, List.length_append, List.length_cons]
      simp only [putT, List.length_cons]
      omega
  have h1 := this (ts.take k) (fun t ht => h t (List.mem_of_mem_take ht))
  have h2 := List.length_take (i := k) (l := ts)
  omega
end Cod
namespace Go.Proofs.YtnnfpaheglkmoaaDoor
open Go.RowKit

theorem tB_next (ts : List ByteArray) (k : Nat) (h : k < ts.length) : Cod.tB (lists ts) (k + 1) = Cod.tB (lists ts) k ++ [Cod.b8 (ts.getD k .empty).size] ++ (ts.getD k .empty).data.toList := by
  have h' : k < (lists ts).length := by rw [lists_length]; exact h
  rw [Cod.tB_succ (lists ts) k h', lists_get ts k h h', ba_len]
theorem BoxAt.keepB {B C : Nat} {x : Pv} {w w' : World} (h : BoxAt B x w) (hb : Below C w w') (hC : B < C) : BoxAt B x w' := by
  have e : w'.heap[B]? = w.heap[B]? := hb.block B hC
  exact ⟨by rw [World.cell?_of_block e]; exact h.c0, by rw [World.cell?_of_block e]; exact h.c1⟩
/-- what Put answers -/
def putS (ts : List ByteArray) (cs : List Cod.In) : ByteArray := if (prog ts cs).May then ⟨(Cod.put (prog ts cs)).toArray⟩ else ⟨#[]⟩
theorem putS_yes {ts : List ByteArray} {cs : List Cod.In} (h : (prog ts cs).May) : putS ts cs = ⟨(Cod.put (prog ts cs)).toArray⟩ := if_pos h
theorem putS_no {ts : List ByteArray} {cs : List Cod.In} (h : ¬ (prog ts cs).May) : putS ts cs = ⟨#[]⟩ := if_neg h

set_option maxHeartbeats 4000000 in
theorem put_any {x : Pv} {ts : List ByteArray} {cs : List Cod.In} {w : World} (h : PrAt x ts cs w) (hn : x.n ≤ 140737488355328) (hm : x.m ≤ 140737488355328) :
    Calls Tryd.prog 11 #[x.v] w fun e w' => e = .returned (.tuple #[.string (putS ts cs), .int .i64 (chk ts cs)]) ∧ Below w.heap.size w w' := by
  have hck := fun u (h : PrAt x ts cs u) => check_any h hn hm
  have hpk := fun u (hb : Below w.heap.size w u) => h.keep hb
  have hN := h.n
  have hM := h.m
  clear h
  obtain ⟨xa, xn, xc, xb, xm, xd⟩ := x
  simp only at hn hm hN hM
  unfold Pv.v at hck ⊢
  simp only at hck ⊢
  have hb := obj_below w (.cells #[.slice xa xn xc, .slice xb xm xd] 25)
  have hbx := BoxAt.new w ⟨xa, xn, xc, xb, xm, xd⟩ 25
  have Hb := Lib.hid hb; clear hb
  have HB0 := Lib.hid hbx; clear hbx
  have Hck := Lib.hid hck; clear hck
  have Hpk := Lib.hid hpk; clear hpk
  obtain ⟨W1, hW1⟩ : ∃ W1, W1 = w.alloc (.cells #[.slice xa xn xc, .slice xb xm xd] 25) := ⟨_, rfl⟩
  by_cases hMay : (prog ts cs).May
  · rw [putS_yes hMay, chk_yes hMay]
    have hck2 := chk_yes hMay
    have hmi := (may_iff ts cs).1 hMay
    rw [hN, hM] at hmi
    obtain ⟨m1, m2, m3, -⟩ := hmi
    have hts : ∀ t ∈ lists ts, t.length ≤ 64 := hMay.2.1
    have Hmay := Lib.hid hMay; clear hMay
    have hTl := Cod.tB_length (lists ts) hts
    have Hts := Lib.hid hts; clear hts
    obtain ⟨R, hR⟩ : ∃ R, R = Cod.put (prog ts cs) := ⟨_, rfl⟩
    rw [← hR]
    unfold Cod.put prog at hR
    simp only [lists_length, hN, hM] at hR
    have HR := Lib.hid hR; clear hR
    have HTl := Lib.hid hTl; clear hTl
    have Hm3 := Lib.hid m3; clear m3
    have Hck2 := Lib.hid hck2; clear hck2
    have HN := Lib.hid hN; clear hN
    have HM := Lib.hid hM; clear hM
    have hu1 : IntKind.u8.wrap (xn : Int) = (xn : Int) := by simp only [IntKind.wrap_u8]; omega
    have hu2 : IntKind.u8.wrap (xm : Int) = ((xm % 256 : Nat) : Int) := by simp only [IntKind.wrap_u8]; omega
    clear hn hm hW1
    go_enter Tryd.func11, Tryd.ntmps11
    go_wp2_with fail
    refine (Hck.out _ (Hpk.out _ Hb.out)).mono ?_; rintro e w1 ⟨rfl, h1⟩
    rw [Hck2.out]
    have Hb1 := Lib.hid (Hb.out.trans (h1.mono Hb.out.size))
    have HB1 := Lib.hid (HB0.out.keep h1); clear h1
    have hbn := obj_below w1 (.cells #[.pointer none, .slice none 0 0] 52)
    have hlt1 : w.heap.size < w1.heap.size := cell_lt HB1.out.c0
    have HH2 := Lib.hid (BldF.fresh w1)
    have HB2 := Lib.hid (HB1.out.keep hbn)
    have Hb2 := Lib.hid (Hb1.out.trans (hbn.mono Hb1.out.size)); clear hbn
    have c0 := HB2.out.c0
    have c1 := HB2.out.c1
    simp only at c0 c1
    have Hlt1 := Lib.hid hlt1; clear hlt1
    have hsz2 : w1.heap.size ≤ (w1.alloc (.cells #[.pointer none, .slice none 0 0] 52)).heap.size := (obj_below w1 _).size
    have Hsz2 := Lib.hid hsz2; clear hsz2
    obtain ⟨B, hB⟩ : ∃ B, B = w1.heap.size := ⟨_, rfl⟩
    rw [← hB] at HH2 Hlt1 Hsz2
    have HBe := Lib.hid hB; clear hB
    go_wp2_with fail
    rw [← HBe.out]
    refine (BldF.byte_any B [] (Cod.b8 xn) _ (by rw [Cod.b8_nat (by omega)]) _ HH2.out (by simp)).mono ?_; rintro e w2 ⟨rfl, hh3, h3, oh3⟩
    have HB3 := Lib.hid (HB2.out.keepB h3 Hlt1.out)
    have Hb3 := Lib.hid (Hb2.out.trans (h3.mono (Nat.le_of_lt Hlt1.out)))
    have Hh3 := Lib.hid hh3; clear hh3
    have Hs3 := Lib.hid (Nat.le_trans Hsz2.out h3.size); clear h3 oh3
    clear c0 c1
    have c0 := HB3.out.c0
    have c1 := HB3.out.c1
    simp only at c0 c1
    go_wp2_with fail
    go_loopw [24] (fun i wr => ∃ k : Nat, k ≤ xn ∧ i = .int .i64 (k : Int) ∧ BldF.Holds B ([Cod.b8 xn] ++ Cod.tB (lists ts) k) wr ∧ Below w.heap.size w wr ∧ BoxAt w.heap.size ⟨xa, xn, xc, xb, xm, xd⟩ wr ∧ B ≤ wr.heap.size) (fun i _ => xn - (intOf i).toNat)
    case atStart => exact ⟨0, Nat.zero_le _, rfl, by rw [Cod.tB_zero]; exact Hh3.out, Hb3.out, HB3.out, Hs3.out⟩
    case round =>
      clear HB3 Hb3 Hh3 Hs3 c0 c1 HB2 Hb2 HH2 Hsz2
      obtain ⟨k, hk, rfl, hh, hbw, hbx, hsz⟩ := hrel
      have Hh := Lib.hid hh; clear hh
      have Hbw := Lib.hid hbw; clear hbw
      have HB := Lib.hid hbx; clear hbx
      have Hsz := Lib.hid hsz; clear hsz
      have hTk := HTl.out k
      by_cases hlt : k < xn
      · have hlt2 : (k : Int) < (xn : Int) := by omega
        obtain ⟨b, off, rfl, cy⟩ := (Hpk.out _ Hbw.out).t.2 k hlt
        have hnx := tB_next ts k (by rw [HN.out]; exact hlt)
        have hy64 := Hm3.out k hlt
        obtain ⟨y, hy⟩ : ∃ y, y = ts.getD k .empty := ⟨_, rfl⟩
        rw [← hy] at cy hnx hy64
        have Hnx := Lib.hid hnx; clear hnx hy
        have hu : IntKind.u8.wrap (y.size : Int) = (y.size : Int) := by simp only [IntKind.wrap_u8]; omega
        have HTk := Lib.hid hTk; clear hTk
        have Hy64 := Lib.hid hy64; clear hy64
        have Hk := Lib.hid hk; clear hk
        go_wp2_with fail
        refine (BldF.byte_any B _ (Cod.b8 y.size) _ (by rw [Cod.b8_nat (by have := Hy64.out; omega)]) _ Hh.out (by have := HTk.out; have := Hk.out; rw [List.length_append, List.length_singleton]; omega)).mono ?_; rintro e w3 ⟨rfl, hh3, h3, oh3⟩
        have HB3 := Lib.hid (HB.out.keepB h3 Hlt1.out)
        have Hb3 := Lib.hid (Hbw.out.trans (h3.mono (Nat.le_of_lt Hlt1.out)))
        have Hh3 := Lib.hid hh3; clear hh3
        have Hs3 := Lib.hid (Nat.le_trans Hsz.out h3.size); clear h3 oh3
        go_wp2_with fail
        refine (BldF.write_any B _ y _ Hh3.out (by have := HTk.out; have := Hk.out; have := Hy64.out; simp only [List.length_append, List.length_singleton]; omega)).mono ?_; rintro e w4 ⟨rfl, hh4, h4, oh4⟩
        have HB4 := Lib.hid (HB3.out.keepB h4 Hlt1.out)
        have Hb4 := Lib.hid (Hb3.out.trans (h4.mono (Nat.le_of_lt Hlt1.out)))
        have Hh4 := Lib.hid hh4; clear hh4
        have Hs4 := Lib.hid (Nat.le_trans Hs3.out h4.size); clear h4 oh4
        go_wp2_with fail
        go_roundw
        case rel => exact ⟨k + 1, by omega, by go_num, by rw [Hnx.out, ← List.append_assoc, ← List.append_assoc]; exact Hh4.out, Hb4.out, HB4.out, Hs4.out⟩
        case measure => simp [intOf]; omega
      · obtain rfl : k = xn := by omega
        have hlt2 : ¬ (k : Int) < (k : Int) := by omega
        have c0 := HB.out.c0
        have c1 := HB.out.c1
        simp only at c0 c1
        have HTk := Lib.hid hTk; clear hTk
        have Hk := Lib.hid hk; clear hk hlt
        go_wp2_with fail
        refine (BldF.byte_any B _ (Cod.b8 (xm % 256)) _ (by rw [Cod.b8_nat (by omega)]; omega) _ Hh.out (by have := HTk.out; have := Hk.out; rw [List.length_append, List.length_singleton]; omega)).mono ?_; rintro e w3 ⟨rfl, hh3, h3, oh3⟩
        have HB3 := Lib.hid (HB.out.keepB h3 Hlt1.out)
        have Hb3 := Lib.hid (Hbw.out.trans (h3.mono (Nat.le_of_lt Hlt1.out)))
        have Hh3 := Lib.hid hh3; clear hh3
        have Hs3 := Lib.hid (Nat.le_trans Hsz.out h3.size); clear h3 oh3
        clear c0 c1 HB Hbw Hh Hsz
        have hu3 : IntKind.u8.wrap ((xm : Int) / 256) = ((xm / 256 : Nat) : Int) := by simp only [IntKind.wrap_u8]; omega
        go_wp2_with fail
        refine (BldF.byte_any B _ (Cod.b8 (xm / 256)) _ (by rw [Cod.b8_nat (by omega)]; omega) _ Hh3.out (by have := HTk.out; have := Hk.out; simp only [List.length_append, List.length_singleton]; omega)).mono ?_; rintro e w4 ⟨rfl, hh4, h4, oh4⟩
        have HB4 := Lib.hid (HB3.out.keepB h4 Hlt1.out)
        have Hb4 := Lib.hid (Hb3.out.trans (h4.mono (Nat.le_of_lt Hlt1.out)))
        have hh4' : BldF.Holds B ([Cod.b8 k] ++ Cod.tB (lists ts) k ++ Cod.putN xm) w4 := by
          unfold Cod.putN
          rw [show [Cod.b8 (xm % 256), Cod.b8 (xm / 256)] = [Cod.b8 (xm % 256)] ++ [Cod.b8 (xm / 256)] from rfl, ← List.append_assoc]
          exact hh4
        have Hs4 := Lib.hid (Nat.le_trans Hs3.out h4.size); clear h4 hh4 oh4
        obtain ⟨pre, hpre⟩ : ∃ pre, pre = [Cod.b8 k] ++ Cod.tB (lists ts) k ++ Cod.putN xm := ⟨_, rfl⟩
        have hprl : pre.length ≤ 2048 := by rw [hpre]; have := HTk.out; unfold Cod.putN; simp only [List.length_append, List.length_cons, List.length_nil]; omega
        rw [← hpre] at hh4'
        have Hpre := Lib.hid hpre; clear hpre
        have Hh4 := Lib.hid hh4'; clear hh4'
        have Hprl := Lib.hid hprl; clear hprl
        clear HB3 Hb3 Hh3 Hs3
        have c0 := HB4.out.c0
        have c1 := HB4.out.c1
        simp only at c0 c1
        go_wp2_with fail
        clear c0 c1
        go_loopw [48] (fun i wr => ∃ j : Nat, j ≤ xm ∧ i = .int .i64 (j : Int) ∧ BldF.Holds B (pre ++ Cod.cB cs j) wr ∧ Below w.heap.size w wr ∧ B ≤ wr.heap.size) (fun i _ => xm - (intOf i).toNat)
        case atStart => exact ⟨0, Nat.zero_le _, rfl, by rw [Cod.cB_zero, List.append_nil]; exact Hh4.out, Hb4.out, Hs4.out⟩
        case round =>
          clear HB4 Hb4 Hh4 Hs4
          obtain ⟨j, hj, rfl, hh, hbw, hsz⟩ := hrel
          have Hh := Lib.hid hh; clear hh
          have Hbw := Lib.hid hbw; clear hbw
          have Hsz := Lib.hid hsz; clear hsz
          have hcl := Cod.cB_length cs j (by rw [HM.out]; exact hj)
          have Hcl := Lib.hid hcl; clear hcl
          by_cases hlj : j < xm
          · have hlj2 : (j : Int) < (xm : Int) := by omega
            obtain ⟨b, off, rfl, cy1, cy2⟩ := (Hpk.out _ Hbw.out).i.2 j hlj
            have hnx := Cod.cB_succ cs j (by rw [HM.out]; exact hlj)
            obtain ⟨y, hy⟩ : ∃ y, y = cs.getD j (0, 0) := ⟨_, rfl⟩
            rw [← hy] at cy1 cy2 hnx
            have Hnx := Lib.hid hnx; clear hnx hy
            obtain ⟨y1, y2⟩ := y
            simp only at cy1 cy2 Hnx
            have hbx := obj_below wr (.cells #[.int .u8 (y1.toNat : Int), .int .u8 (y2.toNat : Int)] 39)
            have Hb5 := Lib.hid (Hbw.out.trans (hbx.mono Hbw.out.size))
            have Hh5 := Lib.hid (show BldF.Holds B _ _ from Hh.out.keep hbx)
            have Hs5 := Lib.hid (Nat.le_trans Hsz.out hbx.size)
            have d0 : (wr.alloc (.cells #[.int .u8 (y1.toNat : Int), .int .u8 (y2.toNat : Int)] 39)).heap[wr.heap.size]? = some (.cells #[.int .u8 (y1.toNat : Int), .int .u8 (y2.toNat : Int)] 39 (0, 0)) := heap_alloc_new _ _
            have D0 := Lib.hid d0; clear d0
            clear hbx
            have Hj := Lib.hid hj; clear hj
            go_wp2_with fail
            refine (BldF.byte_any B _ y1 _ rfl _ Hh5.out (by have := Hcl.out; have := Hj.out; have := Hprl.out; rw [List.length_append]; omega)).mono ?_; rintro e w5 ⟨rfl, hh5, h5, oh5⟩
            have d5 : w5.heap[wr.heap.size]? = some (.cells #[.int .u8 (y1.toNat : Int), .int .u8 (y2.toNat : Int)] 39 (0, 0)) := oh5 _ _ D0.out (fun e => by have := Hh.out.lt; cases e; omega) (fun c fz e => by cases e)
            have cz : w5.cell? ⟨wr.heap.size, 1, none⟩ = some (.int .u8 (y2.toNat : Int)) := by rw [cell_of_row _ _ 1 _ _ _ d5]; rfl
            have Hb6 := Lib.hid (Hb5.out.trans (h5.mono (Nat.le_of_lt Hlt1.out)))
            have Hh6 := Lib.hid hh5; clear hh5
            have Hs6 := Lib.hid (Nat.le_trans Hs5.out h5.size); clear h5 oh5 d5
            go_wp2_with fail
            refine (BldF.byte_any B _ y2 _ rfl _ Hh6.out (by have := Hcl.out; have := Hj.out; have := Hprl.out; simp only [List.length_append, List.length_singleton]; omega)).mono ?_; rintro e w6 ⟨rfl, hh6, h6, oh6⟩
            have Hb7 := Lib.hid (Hb6.out.trans (h6.mono (Nat.le_of_lt Hlt1.out)))
            have Hh7 := Lib.hid hh6; clear hh6
            have Hs7 := Lib.hid (Nat.le_trans Hs6.out h6.size); clear h6 oh6 cz
            go_wp2_with fail
            go_roundw
            case rel => exact ⟨j + 1, by omega, by go_num, by rw [Hnx.out, ← List.append_assoc, ← List.append_assoc]; exact Hh7.out, Hb7.out, Hs7.out⟩
            case measure => simp [intOf]; omega
          · obtain rfl : j = xm := by omega
            have hlj2 : ¬ (j : Int) < (j : Int) := by omega
            go_wp2_with fail
            refine (BldF.string_any B _ _ Hh.out).mono ?_; rintro e w5 ⟨rfl, h5, -⟩
            go_wp2_with fail
            go_ret2
            refine ⟨?_, Hbw.out.trans (h5.mono (Nat.le_of_lt Hlt1.out))⟩
            have e1 : Cod.tB (lists ts) k = (lists ts).flatMap Cod.putT := by rw [← Cod.tB_all, lists_length, HN.out]
            have e2 : Cod.cB cs j = cs.flatMap Cod.putC := by rw [← Cod.cB_all, HM.out]
            have e3 : R = pre ++ Cod.cB cs j := by
              rw [HR.out, Hpre.out, e1, e2]
              simp only [List.append_assoc, List.singleton_append]
              rfl
            rw [e3]
            rfl
  · rw [putS_no hMay, chk_no hMay]
    have hck2 := chk_no hMay
    have Hck2 := Lib.hid hck2; clear hck2 hMay hN hM
    go_enter Tryd.func11, Tryd.ntmps11
    go_wp2_with fail
    refine (Hck.out _ (Hpk.out _ Hb.out)).mono ?_; rintro e w1 ⟨rfl, h1⟩
    rw [Hck2.out]
    have Hb1 := Lib.hid (Hb.out.trans (h1.mono Hb.out.size)); clear h1
    go_wp2_with fail
    go_ret2
    exact ⟨rfl, Hb1.out⟩
end Go.Proofs.YtnnfpaheglkmoaaDoor
