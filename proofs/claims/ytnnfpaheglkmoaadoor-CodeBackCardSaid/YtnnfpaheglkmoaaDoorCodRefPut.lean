/-
  The bytes of a program, by the document.
-/
import Derived.Test.YtnnfpaheglkmoaaDoorCodPut
import Derived.Test.YtnnfpaheglkmoaaDoorGoOwn
import Derived.Test.YtnnfpaheglkmoaaDoorCodRow
import Derived.Test.YtnnfpaheglkmoaaDoorGoPh2
import Derived.Lib.AppendStr
set_option linter.unusedVariables false
set_option maxRecDepth 100000
namespace Go.Proofs.YtnnfpaheglkmoaaDoor
open Go.RowKit

theorem u8_info : (Tryd.prog.info? 5).map (fun i => (i.zero, i.size, i.bytes)) = some (some (.int .u8 0), 1, 1) := by kernel_rfl
def bv (l : List UInt8) : List Value := l.map fun y => .int .u8 (y.toNat : Int)
theorem bv_u8s (l : List UInt8) : (u8s l).toList = bv l := by simp [u8s, bv]
theorem bv_length (l : List UInt8) : (bv l).length = l.length := by simp [bv]
theorem bv_append (a b : List UInt8) : bv (a ++ b) = bv a ++ bv b := by simp [bv]
theorem bv_str (s : ByteArray) : Lib.strCells s = bv s.data.toList := by simp [Lib.strCells, bv]
theorem slice_u8two (y1 y2 : UInt8) (w : World) : (Instr.buildSlice 50 2 #[(0, .int .u8 (y1.toNat : Int)), (1, .int .u8 (y2.toNat : Int))]).run Tryd.prog w = .ok (.slice (some ⟨w.heap.size, 0, none⟩) 2 2) (w.alloc (.cells #[.int .u8 (y1.toNat : Int), .int .u8 (y2.toNat : Int)] 5)) := by
  obtain ⟨i, hi, h0, h1, h2⟩ := info_parts u8_info
  have hf := Great.fill_whole (s := 1) (by omega) [.int .u8 (y1.toNat : Int), .int .u8 (y2.toNat : Int)] ((Array.range (2 * 1)).map ((Value.int .u8 0).cells[· % (Value.int .u8 0).cells.size]!)) (fun v hv => by simp at hv; rcases hv with rfl | rfl <;> rfl) (by simp)
  refine run_buildSlice w 50 5 2 _ #[.int .u8 (y1.toNat : Int), .int .u8 (y2.toNat : Int)] i _ Tryd.underlying50 hi h0 (by rw [h1]; decide) (by rw [h1]; decide) ?_
  rw [h1]
  have e : ([Value.int .u8 (y1.toNat : Int), .int .u8 (y2.toNat : Int)].flatMap fun v => v.cells.toList).toArray = #[.int .u8 (y1.toNat : Int), .int .u8 (y2.toNat : Int)] := by simp [Value.cells]
  rw [e] at hf
  exact hf
/-- the document's bytes while they are put together -/
structure RpI (w : World) (x : Pv) (l : List UInt8) (v : Value) (W : World) : Prop where
  b : Below w.heap.size w W
  box : W.heap[w.heap.size]? = some (.cells #[.slice x.a x.n x.c, .slice x.b x.m x.d] 25 (0, 0))
  o : W.ownsRow (w.heap.size + 1) 5 1 v l.length (bv l)
  sz : w.heap.size + 1 ≤ W.heap.size
section
variable {w : World} {x : Pv} {l : List UInt8} {v : Value} {W W' : World}
theorem RpI.new (h : RpI w x l v W) (hb : Below W.heap.size W W') : RpI w x l v W' :=
  ⟨h.b.trans (hb.mono h.b.size), row_below h.box hb (row_lt h.box), ownsRow_new h.o hb, Nat.le_trans h.sz hb.size⟩
theorem RpI.c0 (h : RpI w x l v W) : W.cell? ⟨w.heap.size, 0, none⟩ = some (.slice x.a x.n x.c) := by rw [cell_of_row _ _ 0 _ _ _ h.box]; rfl
theorem RpI.c1 (h : RpI w x l v W) : W.cell? ⟨w.heap.size, 1, none⟩ = some (.slice x.b x.m x.d) := by rw [cell_of_row _ _ 1 _ _ _ h.box]; rfl
theorem RpI.grown {m : List UInt8} {v' : Value} {n : Nat} (h : RpI w x l v W) (ho : W'.ownsRow (w.heap.size + 1) 5 1 v' (l.length + n) (bv l ++ bv m)) (hn : n = m.length) (hg : W.grownBy W' v.ownBlock) : RpI w x (l ++ m) v' W' := by
  have hlt := fun k hk => World.ownsRow.lt h.o k hk
  refine ⟨h.b.grown hg h.b.size (fun k hk => by have := (hlt k hk).1; omega), ?_, ?_, Nat.le_trans h.sz hg.size⟩
  · rw [hg.block _ (row_lt h.box) (fun e => by have := (hlt _ e.symm).1; omega)]; exact h.box
  · rw [List.length_append, bv_append, ← hn]; exact ho
theorem RpI.conv (h : RpI w x l v W) : (convert 50 9 v).run Tryd.prog W = .ok (.string ⟨l.toArray⟩) W := by
  have ho : Owns (w.heap.size + 1) 5 v (u8s l).toList W := by
    unfold Owns
    rw [bv_u8s, bv_length]
    exact h.o
  exact ho.conv (P := Tryd.prog) 50 9 Tryd.underlying50 Tryd.underlying5 Tryd.underlying9
end
theorem RpI.start (w : World) (x : Pv) (y : UInt8) : RpI w x [y] (.slice (some ⟨w.heap.size + 1, 0, none⟩) 1 1) ((w.alloc (.cells #[.slice x.a x.n x.c, .slice x.b x.m x.d] 25)).alloc (.cells #[.int .u8 (y.toNat : Int)] 5)) := by
  have h1 := obj_below w (.cells #[.slice x.a x.n x.c, .slice x.b x.m x.d] 25)
  have r1 := heap_alloc_new w (.cells #[.slice x.a x.n x.c, .slice x.b x.m x.d] 25)
  have s1 : (w.alloc (.cells #[.slice x.a x.n x.c, .slice x.b x.m x.d] 25)).heap.size = w.heap.size + 1 := by simp
  have h2 := obj_below (w.alloc (.cells #[.slice x.a x.n x.c, .slice x.b x.m x.d] 25)) (.cells #[.int .u8 (y.toNat : Int)] 5)
  have r2 := heap_alloc_new (w.alloc (.cells #[.slice x.a x.n x.c, .slice x.b x.m x.d] 25)) (.cells #[.int .u8 (y.toNat : Int)] 5)
  rw [s1] at r2
  exact ⟨h1.trans (h2.mono h1.size), row_alloc r1 _, ⟨rfl, .inr ⟨w.heap.size + 1, 1, _, rfl, Nat.le_refl _, r2, Nat.le_refl _, by unfold maxLen; omega, rfl, rfl⟩⟩, by simp⟩

set_option maxHeartbeats 4000000 in
theorem refPut12_any {x : Pv} {ts : List ByteArray} {cs : List Cod.In} {w : World} (h : PrAt x ts cs w) (hM : (prog ts cs).May) :
    Calls Tryd.prog 16 #[x.v] w fun e w' => e = .returned (.string ⟨(Cod.put (prog ts cs)).toArray⟩) ∧ Below w.heap.size w w' := by
  obtain ⟨i0, hi0, hz0, hz1, hz2⟩ := info_parts u8_info
  have hpk := fun u (hb : Below w.heap.size w u) => h.keep hb
  have hN := h.n
  have hM' := h.m
  clear h
  obtain ⟨xa, xn, xc, xb, xm, xd⟩ := x
  simp only at hN hM'
  unfold Pv.v
  have hmi := (may_iff ts cs).1 hM
  rw [hN, hM'] at hmi
  obtain ⟨m1, m2, m3, -⟩ := hmi
  have hTl := Cod.tB_length (lists ts) hM.2.1
  clear hM
  obtain ⟨R, hR⟩ : ∃ R, R = Cod.put (prog ts cs) := ⟨_, rfl⟩
  rw [← hR]
  unfold Cod.put prog at hR
  simp only [lists_length, hN, hM'] at hR
  have HR := Lib.hid hR; clear hR
  have HTl := Lib.hid hTl; clear hTl
  have Hm3 := Lib.hid m3; clear m3
  have HN := Lib.hid hN; clear hN
  have HM := Lib.hid hM'; clear hM'
  have Hpk := Lib.hid hpk; clear hpk
  have hst := RpI.start w ⟨xa, xn, xc, xb, xm, xd⟩ (Cod.b8 xn)
  simp only at hst
  have Hst := Lib.hid hst; clear hst
  have hu1 : IntKind.u8.wrap (xn : Int) = ((Cod.b8 xn).toNat : Int) := by rw [Cod.b8_nat (by omega)]; simp only [IntKind.wrap_u8]; omega
  obtain ⟨B0, hB0⟩ : ∃ B0, B0 = Cod.b8 xn := ⟨_, rfl⟩
  rw [← hB0] at hu1 Hst HR
  clear hB0
  go_enter Tryd.func16, Tryd.ntmps16
  go_wp2_with fail
  go_loopw [3, 4] (fun vv i wr => ∃ (k : Nat) (v : Value), v = vv ∧ k ≤ xn ∧ i = .int .i64 (k : Int) ∧ RpI w ⟨xa, xn, xc, xb, xm, xd⟩ ([B0] ++ Cod.tB (lists ts) k) v wr) (fun _ i _ => xn - (intOf i).toNat)
  case atStart => exact ⟨0, _, rfl, Nat.zero_le _, rfl, by rw [Cod.tB_zero, List.append_nil]; exact Hst.out⟩
  case round =>
    clear Hst
    obtain ⟨k, v, rfl, hk, rfl, hI⟩ := hrel
    have c0 := hI.c0
    have c1 := hI.c1
    simp only at c0 c1
    have HI := Lib.hid hI; clear hI
    have hTk := HTl.out k
    by_cases hlt : k < xn
    · have hlt2 : (k : Int) < (xn : Int) := by omega
      obtain ⟨b, off, rfl, cy⟩ := (Hpk.out _ HI.out.b).t.2 k hlt
      have hnx := tB_next ts k (by rw [HN.out]; exact hlt)
      have hy64 := Hm3.out k hlt
      obtain ⟨y, hy⟩ : ∃ y, y = ts.getD k .empty := ⟨_, rfl⟩
      rw [← hy] at cy hnx hy64
      have hu : IntKind.u8.wrap (y.size : Int) = ((Cod.b8 y.size).toNat : Int) := by rw [Cod.b8_nat (by omega)]; simp only [IntKind.wrap_u8]; omega
      obtain ⟨B1, hB1⟩ : ∃ B1, B1 = Cod.b8 y.size := ⟨_, rfl⟩
      rw [← hB1] at hu hnx
      have Hnx := Lib.hid hnx; clear hnx hB1
      have Hy := Lib.hid hy; clear hy
      have HTk := Lib.hid hTk; clear hTk
      have Hy64 := Lib.hid hy64; clear hy64
      have Hk := Lib.hid hk; clear hk
      have h7 := HI.out.new (obj_below wr (.cells #[.int .u8 (B1.toNat : Int)] 5))
      have H7 := Lib.hid h7; clear h7
      have hLl : ([B0] ++ Cod.tB (lists ts) k).length ≤ 2048 := by have := HTk.out; have := Hk.out; rw [List.length_append, List.length_singleton]; omega
      have HLl := Lib.hid hLl; clear hLl
      obtain ⟨L, hL⟩ : ∃ L, L = [B0] ++ Cod.tB (lists ts) k := ⟨_, rfl⟩
      rw [← hL] at H7 HLl
      have HL := Lib.hid hL; clear hL
      go_wp2_with (at_builtin; go_loud (refine wpList_append_own_at _ rfl _ _ 50 rfl (w.heap.size + 1) 5 i0 (.int .u8 0) 1 1 Tryd.underlying50 hi0 hz0 hz1 hz2 rfl (by decide) _ _ _ rfl H7.out.o ⟨wr.heap.size, 0, none⟩ 1 1 [.int .u8 (B1.toNat : Int)] rfl rfl (cell_new_row wr [.int .u8 (B1.toNat : Int)] 5) ?c2 ?c3 ?c4 ?c5 ?_))
      case c2 => intro z hz; simp at hz; subst hz; rfl
      case c3 => have := HLl.out; unfold maxLen; omega
      case c4 => have := HLl.out; omega
      case c5 => exact H7.out.sz
      intro v8 w8 ho8 hg8 _ _
      have h8 := H7.out.grown (m := [B1]) (n := 1) ho8 rfl hg8
      obtain ⟨b', off', hbo, cy8⟩ := (Hpk.out _ h8.b).t.2 k hlt
      simp only [Option.some.injEq, Addr.mk.injEq] at hbo
      obtain ⟨rfl, rfl, -⟩ := hbo
      rw [← Hy.out] at cy8
      have d0 := h8.c0
      simp only at d0
      have H8 := Lib.hid h8
      clear h8 ho8 hg8 c0 c1 cy hu
      go_wp2_with (at_builtin; go_loud (refine Lib.wpList_append_own_string _ rfl _ _ 50 9 rfl (w.heap.size + 1) 5 i0 Tryd.underlying50 Tryd.underlying9 hi0 hz0 hz1 hz2 _ _ _ rfl H8.out.o y rfl ?c3 ?c4 ?c5 ?_))
      case c3 => have := HLl.out; have := Hy64.out; rw [List.length_append, List.length_singleton]; unfold maxLen; omega
      case c4 => have := HLl.out; have := Hy64.out; rw [List.length_append, List.length_singleton]; omega
      case c5 => exact H8.out.sz
      intro v9 w9 ho9 hg9 _
      rw [bv_str] at ho9
      have h9 := H8.out.grown (m := y.data.toList) (n := y.size) (by rw [show (L ++ [B1]).length = L.length + 1 from by simp]; exact ho9) (ba_len y).symm hg9
      have H9 := Lib.hid h9
      clear h9 ho9 hg9 d0 cy8 H8 H7
      have hwk : IntKind.i64.wrap ((k : Int) + 1) = ((k + 1 : Nat) : Int) := by have := Hk.out; simp only [IntKind.wrap_i64]; omega
      go_wp2_with fail
      go_roundw
      case rel => exact ⟨k + 1, _, rfl, by omega, by go_num, by rw [Hnx.out, ← List.append_assoc, ← List.append_assoc, ← HL.out]; exact H9.out⟩
      case measure => simp [intOf]; omega
    · obtain rfl : k = xn := by omega
      have hlt2 : ¬ (k : Int) < (k : Int) := by omega
      have hu2 : IntKind.u8.wrap ((xm : Int) % 256) = (xm : Int) % 256 := by simp only [IntKind.wrap_u8]; omega
      have hu3 : IntKind.u8.wrap ((xm : Int) / 256) = (xm : Int) / 256 := by simp only [IntKind.wrap_u8]; omega
      have hbv : bv (Cod.putN xm) = [.int .u8 ((xm : Int) % 256), .int .u8 ((xm : Int) / 256)] := by
        unfold bv Cod.putN
        simp only [List.map_cons, List.map_nil]
        rw [Cod.b8_nat (by omega), Cod.b8_nat (by omega)]
        rfl
      have Hbv := Lib.hid hbv; clear hbv
      have hLl : ([B0] ++ Cod.tB (lists ts) k).length ≤ 2048 := by rw [List.length_append, List.length_singleton]; omega
      have HLl := Lib.hid hLl; clear hLl hTk
      obtain ⟨L, hL⟩ : ∃ L, L = [B0] ++ Cod.tB (lists ts) k := ⟨_, rfl⟩
      rw [← hL] at HI HLl
      have HL := Lib.hid hL; clear hL
      have h7 := HI.out.new (obj_below wr (.cells #[.int .u8 ((xm : Int) % 256), .int .u8 ((xm : Int) / 256)] 5))
      have H7 := Lib.hid h7; clear h7
      clear hlt hk
      go_wp2_with (at_builtin; go_loud (refine wpList_append_own_at _ rfl _ _ 50 rfl (w.heap.size + 1) 5 i0 (.int .u8 0) 1 1 Tryd.underlying50 hi0 hz0 hz1 hz2 rfl (by decide) _ _ _ rfl H7.out.o ⟨wr.heap.size, 0, none⟩ 2 2 [.int .u8 ((xm : Int) % 256), .int .u8 ((xm : Int) / 256)] rfl rfl (cell_new_row wr [.int .u8 ((xm : Int) % 256), .int .u8 ((xm : Int) / 256)] 5) ?c2 ?c3 ?c4 ?c5 ?_))
      case c2 => exact ⟨rfl, rfl⟩
      case c3 => have := HLl.out; unfold maxLen; omega
      case c4 => have := HLl.out; omega
      case c5 => exact HI.out.b.size
      intro v8 w8 ho8 hg8 _ _
      have h8 := H7.out.grown (m := Cod.putN xm) (n := 2) (by rw [Hbv.out]; exact ho8) rfl hg8
      obtain ⟨pre, hpre⟩ : ∃ pre, pre = L ++ Cod.putN xm := ⟨_, rfl⟩
      have hprl : pre.length ≤ 2050 := by rw [hpre, List.length_append]; have := HLl.out; have e : (Cod.putN xm).length = 2 := rfl; omega
      rw [← hpre] at h8
      have H8 := Lib.hid h8
      have Hpre := Lib.hid hpre
      have Hprl := Lib.hid hprl
      clear h8 hpre hprl ho8 hg8 c0 c1 hu2 hu3
      go_wp2_with fail
      go_loopw [3, 5] (fun vv i wr => ∃ (j : Nat) (v : Value), v = vv ∧ j ≤ xm ∧ i = .int .i64 (j : Int) ∧ RpI w ⟨xa, k, xc, xb, xm, xd⟩ (pre ++ Cod.cB cs j) v wr) (fun _ i _ => xm - (intOf i).toNat)
      case atStart => exact ⟨0, _, rfl, Nat.zero_le _, rfl, by rw [Cod.cB_zero, List.append_nil]; exact H8.out⟩
      case round =>
        clear H8 H7 HI
        obtain ⟨j, v, rfl, hj, rfl, hI⟩ := hrel
        have c1 := hI.c1
        simp only at c1
        have HI := Lib.hid hI; clear hI
        have hcl := Cod.cB_length cs j (by rw [HM.out]; exact hj)
        have Hcl := Lib.hid hcl; clear hcl
        by_cases hlj : j < xm
        · have hlj2 : (j : Int) < (xm : Int) := by omega
          obtain ⟨b, off, rfl, cy1, cy2⟩ := (Hpk.out _ HI.out.b).i.2 j hlj
          have hnx := Cod.cB_succ cs j (by rw [HM.out]; exact hlj)
          obtain ⟨y, hy⟩ : ∃ y, y = cs.getD j (0, 0) := ⟨_, rfl⟩
          rw [← hy] at cy1 cy2 hnx
          obtain ⟨y1, y2⟩ := y
          simp only at cy1 cy2 hnx
          have Hnx := Lib.hid hnx; clear hnx
          have Hy := Lib.hid hy; clear hy
          have hLl : (pre ++ Cod.cB cs j).length ≤ 4096 := by rw [List.length_append]; have := Hcl.out; have := Hprl.out; omega
          obtain ⟨L2, hL2⟩ : ∃ L2, L2 = pre ++ Cod.cB cs j := ⟨_, rfl⟩
          rw [← hL2] at HI hLl
          have HL2 := Lib.hid hL2; clear hL2
          have Hj := Lib.hid hj; clear hj
          go_wp2_with fail
          have hId := HI.out.new ((Below.refl _ _).drew)
          have g1 : wr.drew.cell? ⟨b, off + j * 2, none⟩ = some (.int .u8 (y1.toNat : Int)) := cy1
          have g2 : wr.drew.cell? ⟨b, off + j * 2 + 1, none⟩ = some (.int .u8 (y2.toNat : Int)) := cy2
          have hbp := (Hpk.out _ HI.out.b).i.2 j hlj
          refine wp_region_phases [([0, 1, 2, 3, 4, 5, 6, 7, 8, 9, 10, 11, 12], [13, 14, 15])] (by kernel_rfl) (by kernel_rfl) (fun z => z.cell? ⟨w.heap.size, 1, none⟩ = some (.slice (some ⟨b, off, none⟩) xm xd) ∧ z.cell? ⟨b, off + j * 2, none⟩ = some (.int .u8 (y1.toNat : Int)) ∧ z.cell? ⟨b, off + j * 2 + 1, none⟩ = some (.int .u8 (y2.toNat : Int))) ⟨hId.c1, g1, g2⟩ ?_
          simp only [wpPhases, pick, List.filterMap_cons, List.filterMap_nil, List.getElem?_toArray, List.getElem?_cons_zero, List.getElem?_cons_succ]
          refine take_move (.tmp 3) v rfl rfl rfl ?_
          simp only [Act.put, List.setIfInBounds_toArray, List.set_cons_zero, List.set_cons_succ]
          refine take_one (.pointer (some ⟨w.heap.size, 1, none⟩)) rfl (fun u _ => by go_simp) ?_
          simp only [Act.put, List.setIfInBounds_toArray, List.set_cons_zero, List.set_cons_succ]
          refine take_load 23 (.tmp 56) ⟨w.heap.size, 1, none⟩ (.slice (some ⟨b, off, none⟩) xm xd) rfl rfl rfl (fun u hu => load_at Tryd.underlying23 Tryd.isAgg23 hu.1) ?_
          simp only [Act.put, List.setIfInBounds_toArray, List.set_cons_zero, List.set_cons_succ]
          refine take_move (.tmp 5) (.int .i64 (j : Int)) rfl rfl rfl ?_
          simp only [Act.put, List.setIfInBounds_toArray, List.set_cons_zero, List.set_cons_succ]
          refine take_one (.pointer (some ⟨b, off + j * 2, none⟩)) rfl (fun u hu => by go_simp) ?_
          simp only [Act.put, List.setIfInBounds_toArray, List.set_cons_zero, List.set_cons_succ]
          refine take_one (.pointer (some ⟨b, off + j * 2, none⟩)) rfl (fun u _ => by go_simp) ?_
          simp only [Act.put, List.setIfInBounds_toArray, List.set_cons_zero, List.set_cons_succ]
          refine take_load 5 (.tmp 60) ⟨b, off + j * 2, none⟩ (.int .u8 (y1.toNat : Int)) rfl rfl rfl (fun u hu => load_at Tryd.underlying5 Tryd.isAgg5 hu.2.1) ?_
          simp only [Act.put, List.setIfInBounds_toArray, List.set_cons_zero, List.set_cons_succ]
          refine take_one (.pointer (some ⟨w.heap.size, 1, none⟩)) rfl (fun u _ => by go_simp) ?_
          simp only [Act.put, List.setIfInBounds_toArray, List.set_cons_zero, List.set_cons_succ]
          refine take_load 23 (.tmp 62) ⟨w.heap.size, 1, none⟩ (.slice (some ⟨b, off, none⟩) xm xd) rfl rfl rfl (fun u hu => load_at Tryd.underlying23 Tryd.isAgg23 hu.1) ?_
          simp only [Act.put, List.setIfInBounds_toArray, List.set_cons_zero, List.set_cons_succ]
          refine take_move (.tmp 5) (.int .i64 (j : Int)) rfl rfl rfl ?_
          simp only [Act.put, List.setIfInBounds_toArray, List.set_cons_zero, List.set_cons_succ]
          refine take_one (.pointer (some ⟨b, off + j * 2, none⟩)) rfl (fun u hu => by go_simp) ?_
          simp only [Act.put, List.setIfInBounds_toArray, List.set_cons_zero, List.set_cons_succ]
          refine take_one (.pointer (some ⟨b, off + j * 2 + 1, none⟩)) rfl (fun u _ => by go_simp) ?_
          simp only [Act.put, List.setIfInBounds_toArray, List.set_cons_zero, List.set_cons_succ]
          refine take_load 5 (.tmp 66) ⟨b, off + j * 2 + 1, none⟩ (.int .u8 (y2.toNat : Int)) rfl rfl rfl (fun u hu => load_at Tryd.underlying5 Tryd.isAgg5 hu.2.2) ?_
          simp only [Act.put, List.setIfInBounds_toArray, List.set_cons_zero, List.set_cons_succ]
          refine take_done ?_
          have h7 := hId.new (obj_below wr.drew (.cells #[.int .u8 (y1.toNat : Int), .int .u8 (y2.toNat : Int)] 5))
          obtain ⟨b', off', hbo, k1, k2⟩ := (Hpk.out _ h7.b).i.2 j hlj
          simp only [Option.some.injEq, Addr.mk.injEq] at hbo
          obtain ⟨rfl, rfl, -⟩ := hbo
          rw [← Hy.out] at k1 k2
          refine midk_one (w' := wr.drew.alloc (.cells #[.int .u8 (y1.toNat : Int), .int .u8 (y2.toNat : Int)] 5)) (.slice (some ⟨wr.drew.heap.size, 0, none⟩) 2 2) rfl (run_slice_op 50 2 [(0, .tmp 61), (1, .tmp 67)] rfl (slice_u8two y1 y2 wr.drew)) ⟨h7.c1, k1, k2⟩ ?_
          simp only [Act.put, List.setIfInBounds_toArray, List.set_cons_zero, List.set_cons_succ]
          refine midk_wp rfl (Edt.append_at (.tmp 55) (.tmp 68) 50 rfl (w.heap.size + 1) 5 i0 _ 1 1 Tryd.underlying50 hi0 hz0 hz1 hz2 rfl (by decide) v L2.length (bv L2) rfl h7.o ⟨wr.drew.heap.size, 0, none⟩ 2 2 [.int .u8 (y1.toNat : Int), .int .u8 (y2.toNat : Int)] rfl rfl (cell_new_row wr.drew [.int .u8 (y1.toNat : Int), .int .u8 (y2.toNat : Int)] 5) (by intro u hu; simp at hu; rcases hu with rfl | rfl <;> rfl) (by unfold maxLen; omega) (by omega) h7.sz ?_)
          intro v8 w8 ho8 hg8
          have h8 := h7.grown (m := [y1, y2]) (n := 2) ho8 rfl hg8
          obtain ⟨b', off', hbo, q1, q2⟩ := (Hpk.out _ h8.b).i.2 j hlj
          simp only [Option.some.injEq, Addr.mk.injEq] at hbo
          obtain ⟨rfl, rfl, -⟩ := hbo
          rw [← Hy.out] at q1 q2
          refine ⟨⟨h8.c1, q1, q2⟩, ?_⟩
          simp only [Act.put, List.setIfInBounds_toArray, List.set_cons_zero, List.set_cons_succ]
          refine midk_one v8 rfl rfl ⟨h8.c1, q1, q2⟩ ?_
          simp only [Act.put, List.setIfInBounds_toArray, List.set_cons_zero, List.set_cons_succ]
          refine midk_end ?_
          have H8 := Lib.hid h8
          clear h8 h7 q1 q2 k1 k2 ho8 hg8 hId g1 g2 hbp cy1 cy2 c1
          go_wp2_with fail
          go_roundw
          case rel => exact ⟨j + 1, _, rfl, by omega, by go_num, by rw [Hnx.out, ← List.append_assoc, ← List.append_assoc, ← HL2.out, List.append_assoc]; exact H8.out⟩
          case measure => simp [intOf]; omega
        · obtain rfl : j = xm := by omega
          have hlj2 : ¬ (j : Int) < (j : Int) := by omega
          have hcv := HI.out.conv
          have e3 : R = pre ++ Cod.cB cs j := by
            rw [HR.out, Hpre.out, HL.out]
            have e1 : Cod.tB (lists ts) k = (lists ts).flatMap Cod.putT := by rw [← Cod.tB_all, lists_length, HN.out]
            have e2 : Cod.cB cs j = cs.flatMap Cod.putC := by rw [← Cod.cB_all, HM.out]
            rw [e1, e2]
            simp only [List.append_assoc, List.singleton_append]
            rfl
          rw [← e3] at hcv
          go_wp2_with fail
          go_ret
          exact ⟨rfl, HI.out.b⟩
end Go.Proofs.YtnnfpaheglkmoaaDoor
