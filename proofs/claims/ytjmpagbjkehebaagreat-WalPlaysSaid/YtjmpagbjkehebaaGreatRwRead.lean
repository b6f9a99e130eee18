/-
  The document's log: the group that sectors begin with.
-/
import Derived.Test.YtjmpagbjkehebaaGreatRwGroup
import Derived.Test.YtjmpagbjkehebaaGreatWalMem
import Derived.Test.YtjmpagbjkehebaaGreatOctAll
import Derived.Test.YtjmpagbjkehebaaGreatGoPhase
set_option linter.unusedVariables false
set_option maxRecDepth 100000
namespace Go.Proofs.YtjmpagbjkehebaaGreat
open Go.RowKit

def RGroupR (r : Option (Wal.Grp × Nat)) (w : World) (e : Ending) (w' : World) : Prop :=
  Below w.heap.size w w' ∧ ((r = none ∧ ∃ v k, e = .returned (.tuple #[v, .int .i64 k, .bool false])) ∨
    ∃ l k v, r = some (l, k * 64) ∧ e = .returned (.tuple #[v, .int .i64 ((k : Nat) : Int), .bool true]) ∧ Own w.heap.size v (bas l) w')

theorem row_texts {l : List ByteArray} {x : List UInt8} (h : Oct.row (lists l) = (x, 0)) : l.length ≤ 65535 ∧ ∀ j, (l.getD j .empty).size ≤ 65535 := by
  refine ⟨?_, fun j => getD_size_le l 65535 (fun b hb => ?_) j⟩
  · apply Classical.byContradiction; intro c
    have := row_long (lists l) (by rw [lists_length]; exact c)
    rw [h] at this; simp at this
  · apply Classical.byContradiction; intro c
    obtain ⟨i, hi, rfl⟩ := List.getElem_of_mem hb
    have := row_over (lists l) i (by rw [lists_length]; exact hi) (by simp only [lists, List.getElem_map]; rw [ba_len]; exact c)
    rw [h] at this; simp at this
/-- what a group's sectors begin with, when its row was read -/
theorem fill_grp (s : Wal.Txt) (h4 : 4 ≤ s.length) : Wal.fill (s.take (4 + Oct.un (s.take 4))) = Wal.fill (s.take 4 ++ (s.drop 4).take (Oct.un (s.take 4))) := by
  rw [List.take_add]
theorem un_take4 (s : Wal.Txt) (h4 : 4 ≤ s.length) : Oct.le 4 (Oct.un (s.take 4)) = s.take 4 := by
  have h : (s.take 4).length = 4 := by rw [List.length_take]; omega
  have := Oct.le_un (s.take 4)
  rw [h] at this
  exact this

set_option maxHeartbeats 1000000 in
theorem refgroup_any (s : ByteArray) (h64 : 64 ≤ s.size) (hm : s.size % 64 = 0) (hs : s.size ≤ 1048576) (w : World) :
    Calls Tryz.prog 93 #[.string s] w (RGroupR (Wal.readGroup s.data.toList) w) := by
  have hL : s.data.toList.length = s.size := ba_len s
  have hfg := fill_grp s.data.toList (by omega)
  have hu4 := un_take4 s.data.toList (by omega)
  unfold Wal.readGroup
  have g1 := fun u => refValue_any (s.extract 0 4) u (by rw [ByteArray.size_extract]; omega)
  have e1 : (s.extract 0 4).data.toList = s.data.toList.take 4 := by
    rw [ByteArray.data_extract, Array.toList_extract, List.extract_eq_take_drop]; simp
  have l1 : (s.data.toList.take 4).length = 4 := by rw [List.length_take]; omega
  rw [e1] at g1
  have b1 := Oct.un_lt (s.data.toList.take 4)
  rw [l1] at b1
  have b1' : Oct.un (s.data.toList.take 4) < 4294967296 := b1
  rw [hL]
  clear e1 l1 b1
  generalize Oct.un (s.data.toList.take 4) = z at *
  have G1 := Lib.hid g1; clear g1
  have hwz : IntKind.i64.wrap (z : Int) = (z : Int) := IntWalk.i64_in _ (by omega)
  have hd64 : decide ((s.size : Int) < 64) = false := decide_eq_false (by omega)
  by_cases hlt : s.size - 4 < z
  · rw [if_pos hlt]
    have hx : decide ((s.size : Int) - 4 < (z : Int)) = true := decide_eq_true (by omega)
    clear hfg hu4
    go_enter Tryz.func93, Tryz.ntmps93
    go_wp2_with fail
    refine (G1.out _).mono ?_; rintro e w1 ⟨rfl, rfl⟩
    go_wp2_with fail
    go_ret3
    exact ⟨Below.refl _ _, .inl ⟨rfl, _, _, rfl⟩⟩
  · rw [if_neg hlt]
    have hx : decide ((s.size : Int) - 4 < (z : Int)) = false := decide_eq_false (by omega)
    have e2 : (s.extract 4 (4 + z)).data.toList = (s.data.toList.drop 4).take z := by
      rw [ByteArray.data_extract, Array.toList_extract, List.extract_eq_take_drop, show 4 + z - 4 = z by omega]
    have z2 : (s.extract 4 (4 + z)).size = z := by rw [ByteArray.size_extract]; omega
    have hrr := fun u => refReadRow_new (s.extract 4 (4 + z)) u (by omega)
    rw [e2] at hrr
    have lz : ((s.data.toList.drop 4).take z).length = z := by rw [List.length_take, List.length_drop]; omega
    have hFl : (Wal.fill (s.data.toList.take (4 + z))).length = Wal.whole (4 + z) * 64 := by
      rw [Wal.fill_length, List.length_take, hL, show min (4 + z) s.size = 4 + z by omega]
    have hwl := Wal.whole_hi (4 + z)
    have hgg : Wal.grp ((s.data.toList.drop 4).take z) = Wal.fill (s.data.toList.take (4 + z)) := by
      rw [hfg, Wal.grp, lz, hu4]
    have hpb : (Wal.fill (s.data.toList.take (4 + z))).isPrefixOf s.data.toList = ((ba (Wal.fill (s.data.toList.take (4 + z)))).toList == (s.extract 0 (ba (Wal.fill (s.data.toList.take (4 + z)))).size).toList) := by
      rw [ba_size, Lib.toList_data, Lib.toList_data, ba_list, ByteArray.data_extract, Array.toList_extract, List.extract_eq_take_drop]
      simp only [List.drop_zero, Nat.sub_zero]
      generalize Wal.fill (s.data.toList.take (4 + z)) = F
      rw [Bool.eq_iff_iff, List.isPrefixOf_iff_prefix, beq_iff_eq, List.prefix_iff_eq_take]
    have hgb : ∀ l : List ByteArray, Oct.row (lists l) = ((s.data.toList.drop 4).take z, 0) → grpB (lists l) = ba (Wal.fill (s.data.toList.take (4 + z))) := fun l h => by
      unfold grpB; rw [h, if_pos rfl, hgg]
    have hBz : (ba (Wal.fill (s.data.toList.take (4 + z)))).size = Wal.whole (4 + z) * 64 := by rw [ba_size, hFl]
    rw [hpb, hFl]
    clear hpb hFl hgg hfg hu4
    generalize ba (Wal.fill (s.data.toList.take (4 + z))) = B at *
    generalize Wal.whole (4 + z) = k at *
    have hBs : (B.size : Int) ≤ (s.size : Int) := by omega
    have hd : (B.size : Int) / 64 = (k : Int) := by omega
    have hdt : (B.size : Int).tdiv 64 = (k : Int) := by rw [Int.tdiv_eq_ediv_of_nonneg (by omega)]; exact hd
    have HR := Lib.hid hrr; clear hrr
    have HB := Lib.hid hgb; clear hgb
    have LZ := Lib.hid lz; clear lz
    clear e2 z2 hwl
    have hw1 : IntKind.i64.wrap (4 + (z : Int)) = 4 + (z : Int) := IntWalk.i64_in _ (by omega)
    have hle : (4 : Int) + (z : Int) ≤ (s.size : Int) := by omega
    have hle0 : (4 : Int) ≤ 4 + (z : Int) := by omega
    cases hcr : Oct.readRow ((s.data.toList.drop 4).take z) with
    | none =>
      rw [hcr] at HR
      go_enter Tryz.func93, Tryz.ntmps93
      go_wp2_with fail
      refine (G1.out _).mono ?_; rintro e w1 ⟨rfl, rfl⟩
      go_wp2_with fail
      refine (HR.out _).mono ?_; rintro e w2 ⟨h2, ⟨_, rfl⟩ | ⟨l, v, hl, _⟩⟩
      · go_wp2_with fail
        go_ret3
        exact ⟨h2, .inl ⟨rfl, _, _, rfl⟩⟩
      · cases hl
    | some l0 =>
      have hrow0 := Lib.hid (Oct.row_readRow _ _ hcr)
      rw [hcr] at HR
      clear hcr
      simp only []
      have hwk : IntKind.i64.wrap (k : Int) = (k : Int) := IntWalk.i64_in _ (by omega)
      clear hBz
      have x1 : ∀ u : World, (Instr.slice 9 (.string s) none (some (.int .i64 (B.size : Int))) none).run Tryz.prog u = .ok (.string (s.extract 0 B.size)) u := fun u => by
        rw [run_slice_string_to_if (P := Tryz.prog) u 9 s .i64 _ Tryz.underlying9, if_pos ⟨by omega, by omega⟩, Int.toNat_natCast]
      cases hcmp : (B.toList == (s.extract 0 B.size).toList) with
      | true =>
        rw [if_pos rfl]
        go_enter Tryz.func93, Tryz.ntmps93
        go_wp2_with fail
        refine (G1.out _).mono ?_; rintro e w1 ⟨rfl, rfl⟩
        go_wp2_with fail
        refine (HR.out _).mono ?_; rintro e w2 ⟨h2, ⟨hn, _⟩ | ⟨l, v, hl, rfl, ho⟩⟩
        · cases hn
        · obtain rfl := Option.some.inj hl
          obtain ⟨a, cap, rfl, hst, _⟩ := ho.strs
          obtain ⟨t1, t2⟩ := row_texts hrow0.out
          have hG := refGroup_any a l.length cap l w2 hst (by omega) (fun j => by have := t2 j; omega) (by rw [hrow0.out]; show ((s.data.toList.drop 4).take z).length ≤ _; rw [LZ.out]; omega)
          rw [HB.out l hrow0.out, hrow0.out] at hG
          have HG := Lib.hid hG; clear hG
          have Ho := Lib.hid ho; clear ho
          clear hst hl
          go_wp2_with fail
          refine HG.out.mono ?_; rintro e w3 ⟨rfl, h3⟩
          go_wp2_with fail
          refine wp_region_phases [([0, 1, 2, 3, 4, 5, 6, 7, 8, 9], [10, 11, 12])] (by kernel_rfl) (by kernel_rfl) (fun _ => True) trivial ?_
          simp only [wpPhases, pick, List.filterMap_cons, List.filterMap_nil, List.getElem?_toArray, List.getElem?_cons_zero, List.getElem?_cons_succ]
          refine take_move (.tmp 6) (.slice a l.length cap) rfl rfl rfl ?_
          simp only [Act.put, List.setIfInBounds_toArray, List.set_cons_zero, List.set_cons_succ]
          refine take_move (.tmp 8) (.string B) rfl rfl rfl ?_
          simp only [Act.put, List.setIfInBounds_toArray, List.set_cons_zero, List.set_cons_succ]
          refine take_one (.int .i64 (B.size : Int)) rfl (fun u _ => by go_simp) ?_
          simp only [Act.put, List.setIfInBounds_toArray, List.set_cons_zero, List.set_cons_succ]
          refine take_one (.int .i64 (k : Int)) rfl (fun u _ => by go_simp) ?_
          simp only [Act.put, List.setIfInBounds_toArray, List.set_cons_zero, List.set_cons_succ]
          refine take_move (.tmp 8) (.string B) rfl rfl rfl ?_
          simp only [Act.put, List.setIfInBounds_toArray, List.set_cons_zero, List.set_cons_succ]
          refine take_move (.tmp 0) (.string s) rfl rfl rfl ?_
          simp only [Act.put, List.setIfInBounds_toArray, List.set_cons_zero, List.set_cons_succ]
          refine take_move (.tmp 8) (.string B) rfl rfl rfl ?_
          simp only [Act.put, List.setIfInBounds_toArray, List.set_cons_zero, List.set_cons_succ]
          refine take_one (.int .i64 (B.size : Int)) rfl (fun u _ => by go_simp) ?_
          simp only [Act.put, List.setIfInBounds_toArray, List.set_cons_zero, List.set_cons_succ]
          refine take_one (.string (s.extract 0 B.size)) rfl (fun u _ => by go_simp) ?_
          simp only [Act.put, List.setIfInBounds_toArray, List.set_cons_zero, List.set_cons_succ]
          refine take_one (.bool true) rfl (fun u _ => by go_simp) ?_
          simp only [Act.put, List.setIfInBounds_toArray, List.set_cons_zero, List.set_cons_succ]
          refine take_done ?_
          refine midk_one (.slice a l.length cap) rfl rfl trivial ?_
          simp only [Act.put, List.setIfInBounds_toArray, List.set_cons_zero, List.set_cons_succ]
          refine midk_one (.int .i64 (k : Int)) rfl rfl trivial ?_
          simp only [Act.put, List.setIfInBounds_toArray, List.set_cons_zero, List.set_cons_succ]
          refine midk_one (.bool true) rfl rfl trivial ?_
          simp only [Act.put, List.setIfInBounds_toArray, List.set_cons_zero, List.set_cons_succ]
          refine midk_end ?_
          go_wp2_with fail
          go_ret3
          exact ⟨h2.trans (h3.drew.mono h2.size), .inr ⟨_, k, _, rfl, rfl, by rw [bas_lists]; exact Ho.out.new h3.drew⟩⟩
      | false =>
        rw [if_neg (by simp)]
        go_enter Tryz.func93, Tryz.ntmps93
        go_wp2_with fail
        refine (G1.out _).mono ?_; rintro e w1 ⟨rfl, rfl⟩
        go_wp2_with fail
        refine (HR.out _).mono ?_; rintro e w2 ⟨h2, ⟨hn, _⟩ | ⟨l, v, hl, rfl, ho⟩⟩
        · cases hn
        · obtain rfl := Option.some.inj hl
          obtain ⟨a, cap, rfl, hst, _⟩ := ho.strs
          obtain ⟨t1, t2⟩ := row_texts hrow0.out
          have hG := refGroup_any a l.length cap l w2 hst (by omega) (fun j => by have := t2 j; omega) (by rw [hrow0.out]; show ((s.data.toList.drop 4).take z).length ≤ _; rw [LZ.out]; omega)
          rw [HB.out l hrow0.out, hrow0.out] at hG
          have HG := Lib.hid hG; clear hG
          have Ho := Lib.hid ho; clear ho
          clear hst hl
          go_wp2_with fail
          refine HG.out.mono ?_; rintro e w3 ⟨rfl, h3⟩
          go_wp2_with fail
          refine wp_region_phases [([0, 1, 2, 3, 4, 5, 6, 7, 8, 9], [10, 11, 12])] (by kernel_rfl) (by kernel_rfl) (fun _ => True) trivial ?_
          simp only [wpPhases, pick, List.filterMap_cons, List.filterMap_nil, List.getElem?_toArray, List.getElem?_cons_zero, List.getElem?_cons_succ]
          refine take_move (.tmp 6) (.slice a l.length cap) rfl rfl rfl ?_
          simp only [Act.put, List.setIfInBounds_toArray, List.set_cons_zero, List.set_cons_succ]
          refine take_move (.tmp 8) (.string B) rfl rfl rfl ?_
          simp only [Act.put, List.setIfInBounds_toArray, List.set_cons_zero, List.set_cons_succ]
          refine take_one (.int .i64 (B.size : Int)) rfl (fun u _ => by go_simp) ?_
          simp only [Act.put, List.setIfInBounds_toArray, List.set_cons_zero, List.set_cons_succ]
          refine take_one (.int .i64 (k : Int)) rfl (fun u _ => by go_simp) ?_
          simp only [Act.put, List.setIfInBounds_toArray, List.set_cons_zero, List.set_cons_succ]
          refine take_move (.tmp 8) (.string B) rfl rfl rfl ?_
          simp only [Act.put, List.setIfInBounds_toArray, List.set_cons_zero, List.set_cons_succ]
          refine take_move (.tmp 0) (.string s) rfl rfl rfl ?_
          simp only [Act.put, List.setIfInBounds_toArray, List.set_cons_zero, List.set_cons_succ]
          refine take_move (.tmp 8) (.string B) rfl rfl rfl ?_
          simp only [Act.put, List.setIfInBounds_toArray, List.set_cons_zero, List.set_cons_succ]
          refine take_one (.int .i64 (B.size : Int)) rfl (fun u _ => by go_simp) ?_
          simp only [Act.put, List.setIfInBounds_toArray, List.set_cons_zero, List.set_cons_succ]
          refine take_one (.string (s.extract 0 B.size)) rfl (fun u _ => by go_simp) ?_
          simp only [Act.put, List.setIfInBounds_toArray, List.set_cons_zero, List.set_cons_succ]
          refine take_one (.bool false) rfl (fun u _ => by go_simp) ?_
          simp only [Act.put, List.setIfInBounds_toArray, List.set_cons_zero, List.set_cons_succ]
          refine take_done ?_
          refine midk_one (.slice a l.length cap) rfl rfl trivial ?_
          simp only [Act.put, List.setIfInBounds_toArray, List.set_cons_zero, List.set_cons_succ]
          refine midk_one (.int .i64 (k : Int)) rfl rfl trivial ?_
          simp only [Act.put, List.setIfInBounds_toArray, List.set_cons_zero, List.set_cons_succ]
          refine midk_one (.bool false) rfl rfl trivial ?_
          simp only [Act.put, List.setIfInBounds_toArray, List.set_cons_zero, List.set_cons_succ]
          refine midk_end ?_
          go_wp2_with fail
          go_ret3
          exact ⟨h2.trans (h3.drew.mono h2.size), .inl ⟨rfl, _, _, rfl⟩⟩
end Go.Proofs.YtjmpagbjkehebaaGreat
