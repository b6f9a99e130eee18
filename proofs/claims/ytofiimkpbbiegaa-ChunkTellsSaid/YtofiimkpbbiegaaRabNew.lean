/-
  What New returns.
-/
import Derived.Test.YtofiimkpbbiegaaRabRoll
import Derived.Test.YtofiimkpbbiegaaPolUp
import Derived.Great.FillDense
set_option linter.unusedVariables false
set_option maxRecDepth 100000
namespace Go.Proofs.Ytofiimkpbbiegaa
open Go.RowKit

/-- cells are laid into a row -/
theorem fold_into (off : Nat) : ∀ (l : List Value) (s : Nat) (cs : Array Value) (A B C : List Value), cs.toList = A ++ (B ++ C) → A.length = off + s → B.length = l.length →
    ((l.zipIdx s).foldl (fun cs (x : Value × Nat) => cs.setIfInBounds (off + x.2) x.1) cs).toList = A ++ (l ++ C)
  | [], s, cs, A, B, C, h, hA, hB => by
    obtain rfl := List.eq_nil_of_length_eq_zero hB
    exact h
  | c :: l, s, cs, A, [], C, h, hA, hB => by simp at hB
  | c :: l, s, cs, A, b :: B, C, h, hA, hB => by
    simp only [List.zipIdx_cons, List.foldl_cons]
    rw [fold_into off l (s + 1) (cs.setIfInBounds (off + s) c) (A ++ [c]) B C (by
      rw [Array.toList_setIfInBounds, h, List.set_append_right _ _ (by omega), hA, Nat.sub_self]
      simp) (by simp; omega) (by simpa using hB)]
    simp
theorem fill_step {place : Nat → Option (Nat × Nat)} {cs : Array Value} {i off size : Nat} {v : Value} {rest : List (Nat × Value)} (hp : place i = some (off, size)) (A B C : List Value) (hc : cs.toList = A ++ (B ++ C)) (hA : A.length = off) (hB : B.length = size) (hv : v.cells.size = size) :
    Instr.fill place cs ((i, v) :: rest) = Instr.fill place (A ++ (v.cells.toList ++ C)).toArray rest := by
  have hsz : cs.size = A.length + (B.length + C.length) := by rw [← Array.length_toList, hc]; simp
  rw [Instr.fill, hp]
  simp only []
  rw [if_neg (by simp [hv]; omega)]
  congr 1
  apply Array.ext'
  have := fold_into off v.cells.toList 0 cs A B C hc (by omega) (by rw [hB, Array.length_toList, hv])
  rw [← this]
  congr 1
  rw [← Array.foldl_toList, Array.toList_zipIdx]

def u64s (l : List Nat) : Array Value := (u64l l).toArray
@[simp] theorem u64s_size (l : List Nat) : (u64s l).size = l.length := by simp [u64s, u64l]
theorem u64s_one (l : List Nat) : (u64s l).all (·.oneCell') = true := by
  rw [Array.all_eq_true_iff_forall_mem]
  intro v hv
  simp [u64s, u64l] at hv
  obtain ⟨n, _, rfl⟩ := hv
  rfl
theorem u64s_set (l : List Nat) (j x : Nat) : (u64s l).setIfInBounds j (.int .u64 (x : Int)) = u64s (l.set j x) := by
  apply Array.ext'
  simp [u64s, u64l, List.map_set]
theorem u64s_get (l : List Nat) (j : Nat) (h : j < l.length) : (u64s l)[j]? = some (.int .u64 (l.getD j 0 : Nat)) := by
  simp [u64s, u64l, List.getD_eq_getElem?_getD, h]

def ringV (n : Nat) : Array Value := ((u8s (nils8 64)).toList ++ [Value.int .i64 (n : Int), Value.int .i64 0]).toArray
theorem build_ring (n : Nat) (w : World) : (Instr.build 83 #[(1, .int .i64 (n : Int))]).run Try.prog w = .ok (.agg (ringV n)) w := run_build w _ _ _ (by kernel_rfl)
theorem built_rol (parts : List (Nat × Value)) : Try.prog.built 85 parts = Instr.fill (#[(0, 66), (66, 1), (67, 256), (323, 1)][·]?) rolZero parts := by kernel_rfl
theorem rolZero_list : rolZero.toList = (u8s (nils8 64)).toList ++ (.int .i64 0 :: .int .i64 0 :: .int .u64 0 :: (u64l (nils 256) ++ [.int .u64 0])) := by simp [rolZero, Rol.cells, Rol.list, nils8, nils]
def Rol.fresh (p n : Nat) (g : List Nat) : Rol := ⟨List.replicate 64 0, n, 0, p, g, 0⟩
theorem build_rol (n p : Nat) (g : List Nat) (hg : g.length = 256) (w : World) : (Instr.build 85 #[(0, .agg (ringV n)), (1, .int .u64 (p : Int)), (2, .agg (u64s g))]).run Try.prog w = .ok (.agg (Rol.fresh p n g).cells) w := by
  refine run_build w _ _ _ ?_
  have h64 : (u8s (nils8 64)).toList.length = 64 := by simp
  rw [built_rol]
  simp only []
  rw [fill_step (off := 0) (size := 66) rfl [] ((u8s (nils8 64)).toList ++ [.int .i64 0, .int .i64 0]) (.int .u64 0 :: (u64l (nils 256) ++ [.int .u64 0])) (by rw [rolZero_list]; simp) rfl (by simp) (by simp [Value.cells, ringV])]
  rw [fill_step (off := 66) (size := 1) rfl (Value.agg (ringV n)).cells.toList [.int .u64 0] (u64l (nils 256) ++ [.int .u64 0]) (by simp) (by simp [Value.cells, ringV]) rfl rfl]
  rw [fill_step (off := 67) (size := 256) rfl ((Value.agg (ringV n)).cells.toList ++ [.int .u64 (p : Int)]) (u64l (nils 256)) [.int .u64 0] (by simp [Value.cells]) (by simp [Value.cells, ringV]) (by simp [u64l]) (by simp [Value.cells, hg])]
  simp only [Instr.fill, Option.some.injEq]
  apply Array.ext'
  simp [Value.cells, ringV, Rol.fresh, Rol.cells, Rol.list, u64s, nils8]

/-- what each byte still counts: of the first k bytes, and noughts behind them -/
def tabTo (p n k : Nat) : List Nat := (List.range k).map (Pol.gone p n) ++ nils (256 - k)
theorem tabTo_length (p n k : Nat) (h : k ≤ 256) : (tabTo p n k).length = 256 := by simp [tabTo]; omega
theorem tabTo_zero (p n : Nat) : tabTo p n 0 = nils 256 := by simp [tabTo]
theorem tabTo_set (p n k : Nat) (h : k < 256) : (tabTo p n k).set k (Pol.gone p n k) = tabTo p n (k + 1) := by
  unfold tabTo nils
  rw [List.set_append_right _ _ (by simp), List.length_map, List.length_range, Nat.sub_self]
  obtain ⟨m, hm⟩ : ∃ m, 256 - k = m + 1 := ⟨255 - k, by omega⟩
  rw [hm, List.replicate_succ, List.set_cons_zero, List.range_succ, show 256 - (k + 1) = m by omega]
  simp
theorem tabTo_get (p n v : Nat) (h : v < 256) : (tabTo p n 256).getD v 0 = Pol.gone p n v := by
  unfold tabTo nils
  rw [List.getD_eq_getElem?_getD, List.getElem?_append_left (by simp; exact h)]
  simp [h]
theorem zero_tab (w : World) : (zeroValue 78).run Try.prog w = .ok (.agg (u64s (nils 256))) w := by kernel_rfl

theorem Num.below {B v : Nat} {w w' : World} {N : Nat} (h : Num B v w) (hb : Below N w w') (hN : B < N) : Num B v w' := h.of_block (hb.block B hN)

set_option maxHeartbeats 1000000 in
theorem table_any (q n p B C : Nat) (hp : Pol.fine p) (hq : q = Pol.rem (2 ^ (8 * n)) p) (w : World) (hB : Num B q w) (hC : Num C p w) (hBl : B < w.heap.size) (hCl : C < w.heap.size) :
    Calls Try.prog 43 #[.pointer (some ⟨B, 0, none⟩), .pointer (some ⟨C, 0, none⟩)] w fun e w' => e = .returned (.agg (u64s (tabTo p n 256))) ∧ Below w.heap.size w w' := by
  have hz := zero_tab
  rw [← tabTo_zero p n] at hz
  have cm := fun v (hv : v < 256) u => (mul_any q v p (by rw [hq]; exact rem_u64 hp _) (by omega) (Pol.fine_lt hp) u).2 ⟨by have := hp.1; omega, hp.2⟩
  have hg : ∀ v, Pol.rem (Pol.mul q v) p = Pol.gone p n v := fun v => by rw [hq]; rfl
  simp only [hg] at cm
  have Cm := Lib.hid cm; clear cm
  have hset := fun k => tabTo_set p n k
  have hlen := fun k => tabTo_length p n k
  generalize tabTo p n = T at *
  generalize Pol.gone p n = gn at *
  have Hset := Lib.hid hset; clear hset
  have Hlen := Lib.hid hlen; clear hlen
  have HB := Lib.hid hB; clear hB
  have HC := Lib.hid hC; clear hC
  clear hg hq hp
  go_enter Try.func43, Try.ntmps43
  go_wp2_with fail
  clear hz
  go_loopw [4] (fun i wr => ∃ k : Nat, k ≤ 256 ∧ i = .int .i64 (k : Int) ∧ wr.heap[w.heap.size]? = some (.cells (u64s (T k)) 78 (0, 0)) ∧ Below w.heap.size w wr) (fun i _ => 256 - (intOf i).toNat)
  case atStart => exact ⟨0, by omega, rfl, heap_alloc_new _ _, (Below.refl _ w).alloc (Nat.le_refl _) _⟩
  case round =>
    obtain ⟨k, hk, rfl, hr, hb⟩ := hrel
    have hl := Hlen.out k hk
    by_cases hlt : k < 256
    · have hge : decide ((k : Int) < 256) = true := decide_eq_true (by omega)
      have i0 : (0 : Int) ≤ (k : Int) := by omega
      have i1 : (k : Int) < 256 := by omega
      have nB := HB.out.below hb hBl
      have nC := HC.out.below hb hCl
      obtain ⟨c1, f1⟩ := nB
      obtain ⟨c2, f2⟩ := nC
      have c3 : wr.cell? ⟨w.heap.size, k, none⟩ = some (.int .u64 ((T k).getD k 0 : Nat)) := by rw [cell_of_row wr _ k _ _ _ hr, u64s_get _ _ (by omega)]
      have f3 := row_free hr k
      have hr2 : (wr.setCell ⟨w.heap.size, k, none⟩ (.int .u64 (gn k : Nat))).heap[w.heap.size]? = some (.cells (u64s (T (k + 1))) 78 (0, 0)) := by
        rw [heap_setCell_same wr _ k _ _ _ hr, u64s_set, Hset.out k hlt]
      have hb2 : Below w.heap.size w (wr.setCell ⟨w.heap.size, k, none⟩ (.int .u64 (gn k : Nat))) := hb.setCell (p := ⟨w.heap.size, k, none⟩) (Nat.le_refl _) _
      generalize (T k).getD k 0 = old at *
      have cm := fun u => Cm.out k hlt u
      have CM := Lib.hid cm; clear cm
      have wk := wrap_u64_in (k : Int) (by omega) (by omega)
      have Hr2 := Lib.hid hr2; clear hr2
      have Hb2 := Lib.hid hb2; clear hb2
      clear hr hb hl
      go_wp2_with fail
      refine (CM.out _).mono ?_; rintro e w1 ⟨rfl, rfl⟩
      go_wp2_with fail
      go_roundw
      case rel => exact ⟨k + 1, by omega, by go_num, Hr2.out, Hb2.out⟩
      case measure => simp [intOf]; omega
    · obtain rfl : k = 256 := by omega
      rw [show ((256 : Nat) : Int) = 256 from rfl]
      have hi : (Try.prog.info? 78).map (·.size) = some (u64s (T 256)).size := by rw [u64s_size, hl]; kernel_rfl
      have Hr := Lib.hid hr; clear hr
      have Hb := Lib.hid hb; clear hb
      have Hi := Lib.hid hi; clear hi
      clear hl
      generalize hTT : T 256 = TT at *
      have HTT := Lib.hid hTT; clear hTT
      go_wp2_with (first | (with_reducible refine wpList_load_row rfl 78 (.tmp 2) rfl w.heap.size rfl _ (u64s TT) _ _ Hr.out Try.underlying78 rfl Hi.out ?_) | (with_reducible refine wpList_store_whole rfl 78 (.tmp 2) (.tmp 18) rfl w.heap.size (u64s TT) rfl rfl _ (u64s TT) Hr.out Hi.out rfl (u64s_one TT) ?_))
      refine bodyPost_ret (v := .agg (u64s TT)) (results_cell_row (P := Try.prog) rfl _ _ w.heap.size _ (u64s TT) (0, 0) _ rfl (setRow_heap _ _ (u64s TT) _ _ _ Hr.out) Try.underlying78 rfl Hi.out) rfl ?_
      exact ⟨by rw [HTT.out], below_setRow Hb.out (Nat.le_refl _) _⟩
end Go.Proofs.Ytofiimkpbbiegaa
