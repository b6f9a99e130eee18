/-
  put: a sector is written.
-/
import Derived.Test.YtjlkppdailkanaaDskGet
import Derived.Test.YtjlkppdailkanaaGoCopy
import Derived.Great.BuildSlice
import Derived.Deep.AppendLies
import Derived.Deep.RegionLaw
import Derived.Test.YtjlkppdailkanaaGoMid
import Derived.OwnWalk
set_option linter.unusedVariables false
namespace Go.Proofs.Ytjlkppdailkanaa
open Go.RowKit

/-- the cells of a loose write whose data are yet to come -/
def wz (k : Nat) : Array Value := (wcells (k, Dsk.zer)).toArray
def wfull (k : Nat) (s : List UInt8) : Array Value := (wcells (k, s)).toArray
theorem wz_size (k : Nat) : (wz k).size = 65 := by simp [wz, wcells_length (x := (k, Dsk.zer)) Dsk.zer_length]
theorem wfull_size (k : Nat) (s : List UInt8) (h : s.length = 64) : (wfull k s).size = 65 := by simp [wfull, wcells_length (x := (k, s)) h]
theorem wcells_one (x : Nat × List UInt8) : ∀ u ∈ wcells x, u.oneCell' = true := by
  intro u hu
  simp only [wcells, List.mem_cons] at hu
  rcases hu with rfl | hu
  · rfl
  · have := u8s_one x.2
    rw [Array.all_eq_true_iff_forall_mem] at this
    exact this u (by simpa using hu)
theorem wz_one (k : Nat) : (wz k).all (·.oneCell') = true := by
  rw [Array.all_eq_true_iff_forall_mem]
  intro u hu
  exact wcells_one _ u (by simpa [wz] using hu)
theorem zero_write (w : World) : (zeroValue 66).run Try.prog w = .ok (.agg (wz 0)) w := by kernel_rfl
theorem built_write (k : Nat) : Try.prog.built 66 [(0, .int .i64 (k : Int))] = some (wz k) := by kernel_rfl
theorem build_write (k : Nat) (w : World) : (Instr.build 66 #[(0, .int .i64 (k : Int))]).run Try.prog w = .ok (.agg (wz k)) w := run_build w _ _ _ (built_write k)
theorem wz_full (k : Nat) (s : List UInt8) (h : s.length = 64) : ((wz k).toList.take 1 ++ (u8s (s.take 64)).toList ++ (wz k).toList.drop (1 + 64)).toArray = wfull k s := by
  have h1 : (wz k).toList = .int .i64 (k : Int) :: (u8s Dsk.zer).toList := by simp [wz, wcells]
  have h2 : (u8s Dsk.zer).toList.length = 64 := by simp [Dsk.zer]
  rw [h1, List.take_of_length_le (l := s) (by omega)]
  simp only [List.take_succ_cons, List.take_zero, wfull, wcells]
  rw [List.drop_of_length_le (by simp only [List.length_cons, h2]; omega)]
  simp
theorem wz_set (k : Nat) : (wz 0).setIfInBounds 0 (.int .i64 (k : Int)) = wz k := by
  apply Array.ext'
  simp [wz, wcells]
theorem wz_ne : ¬ wz 0 = #[] := fun e => by have := congrArg Array.size e; rw [wz_size] at this; simp at this
theorem write_info : (Try.prog.info? 66).map (fun i => (i.zero, i.size, i.bytes)) = some (some (.agg (wz 0)), 65, 72) := by kernel_rfl
theorem slice_write (cs : Array Value) (hc : cs.size = 65) (w : World) : (Instr.buildSlice 54 1 #[(0, .agg cs)]).run Try.prog w = .ok (.slice (some ⟨w.heap.size, 0, none⟩) 1 1) (w.alloc (.cells cs 66)) := by
  obtain ⟨i, hi, h0, h1, h2⟩ := info_parts write_info
  have hf := Great.fill_whole (s := 65) (by omega) [.agg cs] ((Array.range (1 * 65)).map ((Value.agg (wz 0)).cells[· % (Value.agg (wz 0)).cells.size]!)) (fun v hv => by simp at hv; subst hv; exact hc) (by simp)
  refine run_buildSlice w 54 66 1 _ cs i _ Try.underlying54 hi h0 (by rw [h1]; decide) (by rw [h1]; decide) ?_
  rw [h1]
  have e : ([Value.agg cs].flatMap fun v => v.cells.toList).toArray = cs := by simp [Value.cells]
  rw [e] at hf
  exact hf

theorem put_done {S : Nat → Prop} {p : Nat} {d : Dsk.St} {w w2 w3 w3' w4 : World} {bF bM : Nat} {v : Value} {nf : Nat} {DF : DataW Unit} (h2 : DiskIn S p d w2 bF bM v nf DF) (hlt : ∀ j, S j → j < w.heap.size) (t2 : Turns S w w2) (k : Nat) (s : List UInt8) (hk : k < d.n) (hs : s.length = 64)
    (hown3 : w3.ownsMap Try.prog 3 (plainElem Try.prog 3) bM (d.L.length + 1) ((Dsk.lastD d.L).put (Dsk.key k) (Dsk.num d.L.length))) (hg3 : w2.grownBy w3 (some bM)) (hb3 : Below w3.heap.size w3 w3')
    (g cap : Nat) (hown4 : w4.ownsRow 0 66 65 (.slice (some ⟨g, 0, none⟩) (d.L.length + 1) cap) (d.L.length + 1) (lcells d.L ++ wcells (k, s))) (hg4 : w3'.grownBy w4 v.ownBlock) (hat : v.ownBlock = some g ∨ w.heap.size ≤ g) (hgl : g < w4.heap.size) :
    Turns S w (w4.setCell ⟨p, 2, none⟩ (.slice (some ⟨g, 0, none⟩) (d.L.length + 1) cap)) ∧ ∃ S', (∀ j, S' j → S j ∨ w.heap.size ≤ j) ∧ DiskAt S' p (Dsk.put d k s) (w4.setCell ⟨p, 2, none⟩ (.slice (some ⟨g, 0, none⟩) (d.L.length + 1) cap)) := by
  have hp2 := h2.lt _ h2.hp
  have hF2 := h2.lt _ h2.hF
  have hM2 := h2.lt _ h2.hM
  have s3 := hg3.size
  have s3' := hb3.size
  have s4 := hg4.size
  have ep : w4.heap[p]? = w2.heap[p]? := by rw [hg4.block p (by omega) (fun e => h2.vp e.symm), hb3.block p (by omega), hg3.block p hp2 (fun e => h2.pM (by simpa using e))]
  have eF : w4.heap[bF]? = w2.heap[bF]? := by rw [hg4.block bF (by omega) (fun e => h2.vF e.symm), hb3.block bF (by omega), hg3.block bF hF2 (fun e => h2.ne (by simpa using e))]
  have eM : w4.heap[bM]? = w3.heap[bM]? := by rw [hg4.block bM (by omega) (fun e => h2.vM e.symm), hb3.block bM (by omega)]
  have rp : w4.heap[p]? = some (.cells (dcells d bF v bM) 56 (0, 0)) := by rw [ep]; exact h2.row
  obtain ⟨cur, hcur⟩ := ownsRow_block hown4 (g := g) rfl
  have hgp : g ≠ p := fun e => by rw [e, rp] at hcur; cases hcur
  have tt : Turns S w (w4.setCell ⟨p, 2, none⟩ (.slice (some ⟨g, 0, none⟩) (d.L.length + 1) cap)) := by
    refine Turns.set ?_ p 2 _ (fun _ => h2.hp)
    have a1 : Turns S w w3 := t2.trans (Turns.of_grown hg3) (fun j _ e => by cases e; exact h2.hM)
    have a2 : Turns S w w3' := a1.trans (Turns.of_new hb3 (fun _ => False)) (fun _ _ e => e.elim)
    exact a2.trans (Turns.of_grown hg4) (fun j _ e => h2.hv j e)
  refine ⟨tt, fun j => S j ∨ j = g, fun j hj => ?_, bF, bM, .slice (some ⟨g, 0, none⟩) (d.L.length + 1) cap, nf, DF, ?_⟩
  · rcases hj with hj | rfl
    · exact .inl hj
    · rcases hat with h | h
      · exact .inl (h2.hv _ h)
      · exact .inr h
  · exact
      { hp := .inl h2.hp
        hF := .inl h2.hF
        hM := .inl h2.hM
        hv := fun j hj => .inr (by simpa [Value.ownBlock] using hj.symm)
        lt := fun j hj => by
          rcases hj with hj | rfl
          · have h1 := hlt j hj
            have h2 := tt.size
            omega
          · simpa [World.setCell] using hgl
        row := by
          rw [heap_setCell_same w4 p 2 _ _ _ rp]
          have e : (dcells d bF v bM).setIfInBounds 2 (.slice (some ⟨g, 0, none⟩) (d.L.length + 1) cap) = dcells (Dsk.put d k s) bF (.slice (some ⟨g, 0, none⟩) (d.L.length + 1) cap) bM := rfl
          rw [e]
        ne := h2.ne
        mF := ownsMap_same h2.mF (by rw [heap_setCell_other _ _ _ _ h2.pF.symm, eF])
        rF := h2.rF
        mM := by
          have e : Dsk.lastD (Dsk.put d k s).L = (Dsk.lastD d.L).put (Dsk.key k) (Dsk.num d.L.length) := Dsk.lastD_snoc _ _
          rw [e]
          have e2 : (Dsk.put d k s).L.length = d.L.length + 1 := by simp [Dsk.put]
          rw [e2]
          exact ownsMap_same hown3 (by rw [heap_setCell_other _ _ _ _ h2.pM.symm, eM])
        rL := by
          have e : lcells (Dsk.put d k s).L = lcells d.L ++ wcells (k, s) := lcells_snoc _ _
          rw [e]
          have e2 : (Dsk.put d k s).L.length = d.L.length + 1 := by simp [Dsk.put]
          rw [e2]
          exact ownsRow_same hown4 (fun j hj => by
            have : j = g := by simpa [Value.ownBlock] using hj.symm
            subst this
            exact heap_setCell_other _ _ _ _ hgp)
        cnt := by have := h2.cnt; simp [Dsk.put]; omega
        ok := Dsk.put_ok h2.ok hk hs }

theorem put_mid {S : Nat → Prop} {p : Nat} {d : Dsk.St} {w2 w3 : World} {bF bM : Nat} {v : Value} {nf : Nat} {DF : DataW Unit} (h2 : DiskIn S p d w2 bF bM v nf DF) (hg3 : w2.grownBy w3 (some bM)) {B : Nat} {Z : Array Value}
    (r2 : w2.heap[B]? = some (.cells Z 66 (0, 0))) (hBS : ¬ S B) :
    w3.cell? ⟨p, 2, none⟩ = some v ∧ w3.frozen? ⟨p, 2, none⟩ = false ∧ w3.heap[B]? = some (.cells Z 66 (0, 0)) ∧ w3.ownsRow 0 66 65 v d.L.length (lcells d.L) := by
  have e : w3.heap[p]? = w2.heap[p]? := hg3.block p (h2.lt _ h2.hp) (fun e => h2.pM (by simpa using e))
  refine ⟨?_, ?_, ?_, ownsRow_same h2.rL (fun j hj => hg3.block j (h2.lt _ (h2.hv j hj)) (fun e => h2.vM (by rw [hj]; exact e)))⟩
  · rw [World.cell?_of_block e]; exact h2.c2
  · rw [World.frozen?_of_block e]; exact h2.free 2
  · rw [hg3.block B (row_lt r2) (fun e => by
      have : B = bM := by simpa using e
      subst this
      exact hBS h2.hM)]
    exact r2

theorem load_loose (p j : Nat) (v : Value) (u : World) (h : u.cell? ⟨p, j, none⟩ = some v) : (Instr.loadAt 54 (.pointer (some ⟨p, j, none⟩))).run Try.prog u = .ok v u := by
  go_simp
theorem load_last (p j : Nat) (v : Value) (u : World) (h : u.cell? ⟨p, j, none⟩ = some v) : (Instr.loadAt 53 (.pointer (some ⟨p, j, none⟩))).run Try.prog u = .ok v u := by
  go_simp
theorem DiskIn.len_run {S : Nat → Prop} {p : Nat} {d : Dsk.St} {w : World} {bF bM : Nat} {v : Value} {nf : Nat} {DF : DataW Unit} (h : DiskIn S p d w bF bM v nf DF) (u : World) : (Builtin.len_ #[54] 3 #[v]).run Try.prog u = .ok (.int .i64 (d.L.length : Int)) u := by
  rcases h.vlen with ⟨h1, rfl⟩ | ⟨g, cap, rfl, h2⟩
  · rw [h1]
    simp [Builtin.len_, run_underlying Try.underlying54, goInt, Result.andThen]
  · simp [Builtin.len_, run_underlying Try.underlying54, goInt, Result.andThen]

set_option maxRecDepth 20000 in
set_option maxHeartbeats 400000 in
theorem put_any {S : Nat → Prop} {p : Nat} {d : Dsk.St} {w : World} (h : DiskAt S p d w) (k : Nat) (hk : k < d.n) (s : ByteArray) (hs : s.size = 64) (hops : d.ops ≤ 1099511627776) :
    Calls Try.prog 32 #[.pointer (some ⟨p, 0, none⟩), .int .i64 (k : Int), .string s] w fun e w' => e = .returned (.tuple #[]) ∧ Turns S w w' ∧ ∃ S', (∀ j, S' j → S j ∨ w.heap.size ≤ j) ∧ DiskAt S' p (Dsk.put d k s.data.toList) w' := by
  obtain ⟨bF, bM, v, nf, DF, h⟩ := h
  have hb := fun u => build_write k u
  have hz := zero_write
  have hzs := wz_size 0
  have hks := wz_size k
  have hko := wz_one k
  have hi : (Try.prog.info? 66).map (·.size) = some 65 := by kernel_rfl
  have hi1 : (Try.prog.info? 5).map (·.size) = some 1 := by kernel_rfl
  have hsl : s.data.toList.length = 64 := by rw [ba_len]; exact hs
  have hful := wz_full k s.data.toList hsl
  have hfs := wfull_size k s.data.toList hsl
  have hcp := run_copy_str (P := Try.prog) (w.alloc (.cells (wz k) 66)) 70 9 3 5 w.heap.size 1 64 64 s 64 (by rw [hs]; rfl) (wz k) 66 Try.underlying70 hi1 (heap_alloc_new _ _) (by rw [hks]; decide)
  rw [World.setRow_alloc_new, hful] at hcp
  have hne := wz_ne
  have hset := wz_set k
  rw [← hset] at hcp hko hks
  clear hset hb
  generalize wz 0 = Z0 at *
  have hz2d : wfull k s.data.toList = wfull k s.data.toList := rfl
  have hz2 : ∀ u ∈ (wfull k s.data.toList).toList, u.oneCell' = true := fun u hu => wcells_one _ u (by simpa [wfull] using hu)
  generalize hZ2 : wfull k s.data.toList = Z2 at *
  clear hz2d
  have hz2d : Z2 = wfull k s.data.toList := hZ2.symm
  clear hZ2
  have Hz2d := Lib.hid hz2d; clear hz2d
  have Hz2 := Lib.hid hz2; clear hz2
  have hsz : (Try.prog.info? 66).map (·.size) = some (Z0.setIfInBounds 0 (.int .i64 (k : Int))).size := by rw [hks]; exact hi
  have hss : Z0.size = (Z0.setIfInBounds 0 (.int .i64 (k : Int))).size := by rw [hzs, hks]
  have Hsz := Lib.hid hsz; clear hsz
  have Hss := Lib.hid hss; clear hss
  have Hko := Lib.hid hko; clear hko
  have Hcp := Lib.hid hcp; clear hcp
  have H := Lib.hid h; clear h
  have Hfs := Lib.hid hfs; clear hfs
  have Hs := Lib.hid hs; clear hs
  have Hsl := Lib.hid hsl; clear hsl
  clear hi hi1 hks hful
  go_enter Try.func32, Try.ntmps32
  go_wp2_with (first | (rw [Hcp.out]; simp only [Result.andThen]; rw [Oper.upon_value]) | (refine wpList_store_whole rfl 66 (.tmp 6) (.tmp 8) rfl w.heap.size (Z0.setIfInBounds 0 (.int .i64 (k : Int))) rfl rfl _ Z0 (heap_alloc_new _ _) Hsz.out Hss.out Hko.out ?_; rw [World.setRow_alloc_new]))
  obtain ⟨w2, hw2⟩ : ∃ w2, w2 = w.alloc (.cells Z2 66) := ⟨_, rfl⟩
  obtain ⟨B, hB⟩ : ∃ B, B = w.heap.size := ⟨_, rfl⟩
  have t2 : Turns S w w2 := by rw [hw2]; exact (Turns.refl S w).alloc _
  have h2 : DiskIn S p d w2 bF bM v nf DF := H.out.keeps (T := fun _ => False) (by rw [hw2]; exact (Turns.refl _ w).alloc _) (fun _ _ => id)
  have r2 : w2.heap[B]? = some (.cells Z2 66 (0, 0)) := by rw [hw2, hB]; exact heap_alloc_new w _
  have hBS : ¬ S B := fun e => by have := H.out.lt B e; omega
  rw [← hw2, ← hB]
  clear Hcp Hko Hss Hsz hne hzs hz
  have c2 := h2.c2
  have c3 := h2.c3
  have mM := h2.mM
  have HB := Lib.hid hB; clear hB
  have Hw2 := Lib.hid hw2; clear hw2
  have T2 := Lib.hid t2; clear t2
  have R2 := Lib.hid r2; clear r2
  have HBS := Lib.hid hBS; clear hBS
  have HM := Lib.hid mM; clear mM
  have H2 := Lib.hid h2; clear h2
  obtain ⟨n, hn⟩ : ∃ n, n = d.L.length := ⟨_, rfl⟩
  have hcnt := H2.out.cnt
  have hlen := fun u => H2.out.len_run u
  rw [← hn] at HM hlen
  have hnb : n ≤ 1099511627776 := by omega
  have Hn := Lib.hid hn; clear hn
  have Hlen := Lib.hid hlen; clear hlen
  clear hcnt
  refine wp_region_mid_np 10 10 (by kernel_rfl) (by kernel_rfl) (fun u => u.cell? ⟨p, 2, none⟩ = some v ∧ u.cell? ⟨p, 3, none⟩ = some (.map (some bM))) ⟨c2, c3⟩ ?_
  simp only [List.take_succ_cons, List.take_zero, List.drop_succ_cons, List.drop_zero, Nat.sub_self]
  refine take_move (.tmp 0) (.pointer (some ⟨p, 0, none⟩)) rfl rfl rfl ?_
  simp only [Act.put, List.setIfInBounds_toArray, List.set_cons_zero, List.set_cons_succ]
  refine take_nil (.tmp 13) ⟨p, 0, none⟩ rfl rfl rfl ?_
  simp only [Act.put, List.setIfInBounds_toArray, List.set_cons_zero, List.set_cons_succ]
  refine take_one (.pointer (some ⟨p, 3, none⟩)) rfl (fun u _ => by go_simp) ?_
  simp only [Act.put, List.setIfInBounds_toArray, List.set_cons_zero, List.set_cons_succ]
  refine take_load 53 (.tmp 15) ⟨p, 3, none⟩ (.map (some bM)) rfl rfl rfl (fun u hu => load_last _ _ _ _ hu.2) ?_
  simp only [Act.put, List.setIfInBounds_toArray, List.set_cons_zero, List.set_cons_succ]
  refine take_move (.tmp 1) (.int .i64 (k : Int)) rfl rfl rfl ?_
  simp only [Act.put, List.setIfInBounds_toArray, List.set_cons_zero, List.set_cons_succ]
  refine take_move (.tmp 0) (.pointer (some ⟨p, 0, none⟩)) rfl rfl rfl ?_
  simp only [Act.put, List.setIfInBounds_toArray, List.set_cons_zero, List.set_cons_succ]
  refine take_nil (.tmp 18) ⟨p, 0, none⟩ rfl rfl rfl ?_
  simp only [Act.put, List.setIfInBounds_toArray, List.set_cons_zero, List.set_cons_succ]
  refine take_one (.pointer (some ⟨p, 2, none⟩)) rfl (fun u _ => by go_simp) ?_
  simp only [Act.put, List.setIfInBounds_toArray, List.set_cons_zero, List.set_cons_succ]
  refine take_load 54 (.tmp 20) ⟨p, 2, none⟩ v rfl rfl rfl (fun u hu => load_loose _ _ _ _ hu.1) ?_
  simp only [Act.put, List.setIfInBounds_toArray, List.set_cons_zero, List.set_cons_succ]
  refine take_one (.int .i64 (n : Int)) rfl (fun u _ => run_len_op (.tmp 21) rfl rfl (Hlen.out u)) ?_
  simp only [Act.put, List.setIfInBounds_toArray, List.set_cons_zero, List.set_cons_succ]
  refine take_done ?_
  refine mid_list ?_
  refine wpList_mapUpdate_own _ rfl _ _ _ 53 rfl 3 3 keyed Try.underlying53 (plainElem Try.prog 3) bM n (Dsk.lastD d.L) rfl HM.out.drew (by unfold maxLen; omega) _ (.int .i64 ((n : Nat) : Int)) (Dsk.key k) rfl rfl (key_of k (by have := H.out.ok.hi; omega)) (Dsk.num n) [] (plainElem_int Try.underlying3 (key_wf n (by omega))) ?_
  intro w3 hown3 hg3'
  have hg3 : w2.grownBy w3 (some bM) := ⟨hg3'.os, hg3'.tape, hg3'.output, hg3'.size, hg3'.block⟩
  clear hg3'
  obtain ⟨q2, f2, r3, l3⟩ := put_mid H2.out hg3 R2.out HBS.out
  rw [← Hn.out] at l3
  have hsl3 := fun u => slice_write Z2 Hfs.out u
  obtain ⟨i0, hi, hi0, hi1, hi2⟩ := info_parts write_info
  have hld := fun (u : World) (h : u.heap[B]? = some (.cells Z2 66 (0, 0))) => load_row (P := Try.prog) u B 66 66 Z2 (0, 0) _ h Try.underlying66 rfl (by rw [Hfs.out, hi]; simp [hi1])
  clear c2 c3
  have Hl3 := Lib.hid l3; clear l3
  have Hr3 := Lib.hid r3; clear r3
  have Hsl3 := Lib.hid hsl3; clear hsl3
  have Hi := Lib.hid hi; clear hi
  have Hi0 := Lib.hid hi0; clear hi0
  have Hi1 := Lib.hid hi1; clear hi1
  have Hi2 := Lib.hid hi2; clear hi2
  have Hld := Lib.hid hld; clear hld
  have Hown3 := Lib.hid hown3; clear hown3
  have Hg3 := Lib.hid hg3; clear hg3
  have Hq2 := Lib.hid q2; clear q2
  have Hf2 := Lib.hid f2; clear f2
  apply NoPanic.normal
  go_wp2
  refine wp_region_mid_np 6 8 (by kernel_rfl) (by kernel_rfl) (fun u => u.cell? ⟨p, 2, none⟩ = some v ∧ u.heap[B]? = some (.cells Z2 66 (0, 0))) ⟨Hq2.out, Hr3.out⟩ ?_
  simp only [List.take_succ_cons, List.take_zero, List.drop_succ_cons, List.drop_zero, Nat.reduceSub]
  refine take_move (.tmp 0) (.pointer (some ⟨p, 0, none⟩)) rfl rfl rfl ?_
  simp only [Act.put, List.setIfInBounds_toArray, List.set_cons_zero, List.set_cons_succ]
  refine take_move (.tmp 0) (.pointer (some ⟨p, 0, none⟩)) rfl rfl rfl ?_
  simp only [Act.put, List.setIfInBounds_toArray, List.set_cons_zero, List.set_cons_succ]
  refine take_nil (.tmp 24) ⟨p, 0, none⟩ rfl rfl rfl ?_
  simp only [Act.put, List.setIfInBounds_toArray, List.set_cons_zero, List.set_cons_succ]
  refine take_one (.pointer (some ⟨p, 2, none⟩)) rfl (fun u _ => by go_simp) ?_
  simp only [Act.put, List.setIfInBounds_toArray, List.set_cons_zero, List.set_cons_succ]
  refine take_load 54 (.tmp 26) ⟨p, 2, none⟩ v rfl rfl rfl (fun u hu => load_loose _ _ _ _ hu.1) ?_
  simp only [Act.put, List.setIfInBounds_toArray, List.set_cons_zero, List.set_cons_succ]
  refine take_load 66 (.tmp 6) ⟨B, 0, none⟩ (.agg Z2) rfl rfl rfl (fun u hu => Hld.out u hu.2) ?_
  simp only [Act.put, List.setIfInBounds_toArray, List.set_cons_zero, List.set_cons_succ]
  refine take_done ?_
  have hBp : w3.heap.size ≠ p := fun e => by have := H2.out.lt _ H2.out.hp; have := Hg3.out.size; omega
  have hBB : w3.heap.size ≠ B := fun e => by have := row_lt Hr3.out; omega
  have hld2 : w3.drew.heap.size = w3.heap.size := rfl
  refine mid_one (w' := w3.drew.alloc (.cells Z2 66)) (.slice (some ⟨w3.heap.size, 0, none⟩) 1 1) rfl ?_ ?_ ?_
  · exact run_slice_op 54 1 [(0, .tmp 28)] rfl (Hsl3.out w3.drew)
  · refine ⟨?_, ?_⟩
    · have e := Below.heap_alloc w3.drew (.cells Z2 66) p (by have := H2.out.lt _ H2.out.hp; have := Hg3.out.size; exact Nat.lt_of_lt_of_le ‹_› ‹_›)
      rw [World.cell?_of_block e]; exact Hq2.out
    · exact row_alloc (w := w3.drew) Hr3.out _
  refine mid_wp rfl (wp_append_lies _ (.tmp 27) (.tmp 29) 54 rfl 0 66 i0 _ 65 72 Try.underlying54 Hi.out Hi0.out Hi1.out Hi2.out (by rfl) (by decide) v n (lcells d.L) rfl (Hl3.out.drew.alloc _) ⟨w3.heap.size, 0, none⟩ 1 1 Z2.toList rfl (by rw [Array.length_toList, Hfs.out]) (World.news_of_block (heap_alloc_new w3.drew _)) Hz2.out (by decide) (by unfold maxLen; omega) (by omega) (Nat.zero_le _) (w3.heap.size + 1) (by simp) ?_)
  intro g cap w4 hown4 hg4 hat hgl
  have hp3 : p < w3.heap.size := by have := H2.out.lt _ H2.out.hp; have := Hg3.out.size; omega
  have e4 : w4.heap[p]? = w3.heap[p]? := by
    rw [hg4.block p (by simp; omega) (fun e => H2.out.vp e.symm)]
    exact Below.heap_alloc w3.drew (.cells Z2 66) p hp3
  have q4 : w4.cell? ⟨p, 2, none⟩ = some v := by rw [World.cell?_of_block e4]; exact Hq2.out
  have f4 : w4.frozen? ⟨p, 2, none⟩ = false := by rw [World.frozen?_of_block e4]; exact Hf2.out
  have r4 : w4.heap[B]? = some (.cells Z2 66 (0, 0)) := by
    rw [hg4.block B (by have := row_lt Hr3.out; simp; omega) (fun e => HBS.out (H2.out.hv B e.symm))]
    exact row_alloc (w := w3.drew) Hr3.out _
  refine ⟨⟨q4, r4⟩, mid_list ?_⟩
  have hb3 : Below w3.heap.size w3 (w3.drew.alloc (.cells Z2 66)) := ((Below.refl _ w3).drew).alloc (Nat.le_refl _) _
  have hfin : Turns S w (w4.setCell ⟨p, 2, none⟩ (.slice (some ⟨g, 0, none⟩) (n + 1) cap)) ∧ ∃ S', (∀ j, S' j → S j ∨ w.heap.size ≤ j) ∧ DiskAt S' p (Dsk.put d k s.data.toList) (w4.setCell ⟨p, 2, none⟩ (.slice (some ⟨g, 0, none⟩) (n + 1) cap)) := by
    have h3 := Hown3.out
    rw [Hz2d.out, wfull, List.toList_toArray] at hown4
    rw [Hn.out] at h3 hown4 ⊢
    exact put_done H2.out H.out.lt T2.out k s.data.toList hk Hsl.out h3 Hg3.out hb3 g cap hown4 hg4 (by
      rcases hat with h | h
      · exact .inl h
      · refine .inr ?_
        have h1 := Hg3.out.size
        have h2 := T2.out.size
        omega) hgl
  have Hfin := Lib.hid hfin; clear hfin
  clear e4 hb3 hown4 hg4 hat hgl r4 hp3 hBp hBB hld2
  go_wp2
  apply NoPanic.normal
  go_wp2
  go_end0
  exact ⟨rfl, Hfin.out⟩
end Go.Proofs.Ytjlkppdailkanaa
