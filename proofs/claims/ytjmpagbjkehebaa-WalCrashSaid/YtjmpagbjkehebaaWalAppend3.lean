/-
  What Append does.
-/
import Derived.Test.YtjmpagbjkehebaaWalAppend2
import Derived.Deep.DeepCutAuto
set_option linter.unusedVariables false
set_option maxRecDepth 100000
namespace Go.Proofs.Ytjmpagbjkehebaa
open Go.RowKit

section
variable {w : World} {S0 R0 : Nat → Prop} {p q : Nat} {d : Dsk.St} {s : Wal.St}
set_option maxHeartbeats 1600000 in
theorem append_go {m : Nat} (hd : DiskAt S0 q d w) (hw : WalAt R0 p q s w) (ha : ∀ j, S0 j → ¬ R0 j) (hs : s.Ok m) (hops : d.ops ≤ 1099511400000) (a : Option Addr) (len cap : Nat) (l : Wal.Grp) (hst : Strs a len (bas l) w) (hap : ∀ b off, 0 < len → a = some ⟨b, off, none⟩ → ¬ (S0 b ∨ R0 b))
    (hlen : len ≤ 140737488355328) (hz : ∀ j, ((bas l).getD j .empty).size ≤ 9223372036854700000) (he : s.err = 0) (h0 : (Oct.row l).2 = 0) (hfit : Wal.secs (Oct.row l).1 ≤ s.n - 1 - s.used) :
    Calls Try.prog 9 #[.pointer (some ⟨p, 0, none⟩), .slice a len cap] w (AppR w S0 R0 p q
      ((Wal.steps (Wal.appendOps s (Oct.row l).1) d).1, (if (Wal.steps (Wal.appendOps s (Oct.row l).1) d).2 = 0 then { s with used := s.used + Wal.secs (Oct.row l).1, L := s.L ++ [l] } else { s with err := (Wal.steps (Wal.appendOps s (Oct.row l).1) d).2 }), (Wal.steps (Wal.appendOps s (Oct.row l).1) d).2)) := by
  have hsl := Wal.slim_of_row h0
  obtain ⟨SF, hSF⟩ : ∃ SF : Wal.St, SF = (if (Wal.steps (Wal.appendOps s (Oct.row l).1) d).2 = 0 then { s with used := s.used + Wal.secs (Oct.row l).1, L := s.L ++ [l] } else { s with err := (Wal.steps (Wal.appendOps s (Oct.row l).1) d).2 }) := ⟨_, rfl⟩
  rw [← hSF]
  have HSF := Lib.hid hSF; clear hSF
  have h1 := (Apn.start hd hw ha).box (.cells #[.pointer (some ⟨p, 0, none⟩)] 29) w.heap.size rfl
  have h2 := h1.box (.cells #[.slice a len cap] 34) (w.heap.size + 1) (by simp)
  obtain ⟨v2, hv2⟩ := h2.wal
  have c6 := hv2.c6
  rw [he] at c6
  have hst2 : Strs a len (bas l) ((w.alloc (.cells #[.pointer (some ⟨p, 0, none⟩)] 29)).alloc (.cells #[.slice a len cap] 34)) := hst.keep (((Below.refl _ w).alloc (Nat.le_refl _) _).alloc (by simp) _)
  have hrow := octRow_any a len cap (bas l) _ hst2 hlen hz
  rw [lists_bas, h0] at hrow
  have hrs := Wal.row_short (l := l)
  have hgs := fun x => groupSectors_any (ba (Oct.row l).1) (by rw [ba_size]; omega) x
  rw [ba_list] at hgs
  have hrow2 : Calls Try.prog 28 #[.slice a len cap] ((w.alloc (.cells #[.pointer (some ⟨p, 0, none⟩)] 29)).alloc (.cells #[.slice a len cap] 34)) fun e w' => e = .returned (.tuple #[.string (ba (Oct.row l).1), .int .i64 0]) ∧ Below ((w.alloc (.cells #[.pointer (some ⟨p, 0, none⟩)] 29)).alloc (.cells #[.slice a len cap] 34)).heap.size ((w.alloc (.cells #[.pointer (some ⟨p, 0, none⟩)] 29)).alloc (.cells #[.slice a len cap] 34)) w' := hrow
  clear hrow
  have hrl : (ba (Oct.row l).1).data.toList = (Oct.row l).1 := ba_list _
  have hst4 := Wal.steps4 d s (Oct.row l).1
  have u1 := hs.used
  have u2 := hs.lo
  have u3 := hs.hi
  have u4 := hs.m
  have u5 := hs.gen
  have Hfit := Lib.hid hfit
  have hkb : Wal.secs (Oct.row l).1 ≤ 16384 := by omega
  have hx : decide (((s.n - 1 - s.used : Nat) : Int) < ((Wal.secs (Oct.row l).1 : Nat) : Int)) = false := decide_eq_false (by omega)
  generalize hrow0 : ba (Oct.row l).1 = row at *
  obtain ⟨k, hk⟩ : ∃ k, Wal.secs (Oct.row l).1 = k := ⟨_, rfl⟩
  rw [hk] at hx hgs hkb hfit
  have Hk := Lib.hid hk; clear hk
  have Hrow := Lib.hid hrow2; clear hrow2
  have Hgs := Lib.hid hgs; clear hgs
  have H2 := Lib.hid h2; clear h2
  have Hs := Lib.hid hs; clear hs
  have Hst4 := Lib.hid hst4; clear hst4
  have Hst := Lib.hid hst; clear hst
  have Hap := Lib.hid hap; clear hap
  have Hrl := Lib.hid hrl; clear hrl
  have Hsl := Lib.hid hsl; clear hsl
  have He := Lib.hid he; clear he
  clear hv2 h1 hd hw hst2 hrs hz h0 hrow0
  go_enter Try.func9, Try.ntmps9
  go_wp2_with fail
  refine Hrow.out.mono ?_; rintro e w3 ⟨rfl, h3⟩
  have h3' := H2.out.new h3
  have h4 := h3'.box (.cells #[.string row] 9) w3.heap.size rfl
  have cb := h4.cB (B := w.heap.size) (by simp [boxW])
  have hsz3 := h3.size
  have H4 := Lib.hid h4; clear h4
  clear h3' h3
  go_wp2_with fail
  refine (Hgs.out _).mono ?_; rintro e w4 ⟨rfl, rfl⟩
  go_wp2_with fail
  refine (room_any H4.out.wal Hs.out).mono ?_; rintro e w5 ⟨rfl, j, rfl⟩
  have h5 := H4.out.new (drewN_below (Below.refl _ _) j)
  have hkl : ∀ y ∈ [(w3.heap.size, Obj.cells #[.string row] 9 (0, 0)), (w.heap.size + 1, .cells #[.slice a len cap] 34 (0, 0)), (w.heap.size, .cells #[.pointer (some ⟨p, 0, none⟩)] 29 (0, 0))], y.1 < (World.drewN (w3.alloc (.cells #[.string row] 9)) j).heap.size := fun y hy => row_lt (h5.rows y hy).1
  generalize World.drewN _ j = W5 at *
  have H5 := Lib.hid h5; clear h5
  have Hkl := Lib.hid hkl; clear hkl
  clear cb H4 H2
  have cb := H5.out.cB (B := w.heap.size) (by simp [boxW])
  go_upto_region 11 with fail
  go_cut [8, 9] from 37 to 60 (fun s8 s9 wx => ∃ ta na, s8 = .pointer (some ⟨ta, 0, none⟩) ∧ s9 = .pointer (some ⟨na, 0, none⟩) ∧ Apn w S0 R0 ((na, boxM s.gen (s.used + k)) :: (ta, boxI ((s.from_ + 1 + s.used : Nat) : Int)) ::
     [(w3.heap.size, .cells #[.string row] 9), (w.heap.size + 1, .cells #[.slice a len cap] 34), (w.heap.size, .cells #[.pointer (some ⟨p, 0, none⟩)] 29)]) S0 R0 p q d s wx)
  case first =>
    have h6 := H5.out.new ((Below.refl _ W5).drew)
    obtain ⟨v6, hv6⟩ := h6.wal
    refine wp_region_two [0, 1, 2, 3, 4, 5, 6, 7, 8, 9, 10, 11, 12, 13, 14, 15, 16, 17, 18, 19, 20, 21, 22, 23] 24 25 [26, 27] [] (by kernel_rfl) (by kernel_rfl) (fun z => z.cell? ⟨w.heap.size, 0, none⟩ = some (.pointer (some ⟨p, 0, none⟩)) ∧ z.cell? ⟨p, 3, none⟩ = some (.int .i64 (s.from_ : Int)) ∧ z.cell? ⟨p, 1, none⟩ = some (.int .i64 (s.used : Int)) ∧ z.cell? ⟨p, 0, none⟩ = some (.int .u64 (s.gen : Int))) ⟨h6.cB (by simp [boxW]), hv6.c3, hv6.c1, hv6.c0⟩ ?_
    simp only [pick, List.filterMap_cons, List.filterMap_nil, List.getElem?_toArray, List.getElem?_cons_zero, List.getElem?_cons_succ]
    refine take_load 29 (.tmp 2) ⟨w.heap.size, 0, none⟩ (.pointer (some ⟨p, 0, none⟩)) rfl rfl rfl (fun u hu => load_any Try.underlying29 Try.isAgg29 hu.1) ?_
    simp only [Act.put, List.setIfInBounds_toArray, List.set_cons_zero, List.set_cons_succ]
    refine take_nil (.tmp 37) ⟨p, 0, none⟩ rfl rfl rfl ?_
    simp only [Act.put, List.setIfInBounds_toArray, List.set_cons_zero, List.set_cons_succ]
    refine take_one (.pointer (some ⟨p, 3, none⟩)) rfl (fun u _ => by go_simp) ?_
    simp only [Act.put, List.setIfInBounds_toArray, List.set_cons_zero, List.set_cons_succ]
    refine take_load 3 (.tmp 39) ⟨p, 3, none⟩ (.int .i64 (s.from_ : Int)) rfl rfl rfl (fun u hu => load_any Try.underlying3 Try.isAgg3 hu.2.1) ?_
    simp only [Act.put, List.setIfInBounds_toArray, List.set_cons_zero, List.set_cons_succ]
    refine take_one (.int .i64 ((s.from_ : Int) + 1)) rfl (fun u _ => by go_simp; exact IntWalk.i64_in _ (by omega)) ?_
    simp only [Act.put, List.setIfInBounds_toArray, List.set_cons_zero, List.set_cons_succ]
    refine take_load 29 (.tmp 2) ⟨w.heap.size, 0, none⟩ (.pointer (some ⟨p, 0, none⟩)) rfl rfl rfl (fun u hu => load_any Try.underlying29 Try.isAgg29 hu.1) ?_
    simp only [Act.put, List.setIfInBounds_toArray, List.set_cons_zero, List.set_cons_succ]
    refine take_nil (.tmp 42) ⟨p, 0, none⟩ rfl rfl rfl ?_
    simp only [Act.put, List.setIfInBounds_toArray, List.set_cons_zero, List.set_cons_succ]
    refine take_one (.pointer (some ⟨p, 0, none⟩)) rfl (fun u _ => by go_simp) ?_
    simp only [Act.put, List.setIfInBounds_toArray, List.set_cons_zero, List.set_cons_succ]
    refine take_one (.pointer (some ⟨p, 1, none⟩)) rfl (fun u _ => by go_simp) ?_
    simp only [Act.put, List.setIfInBounds_toArray, List.set_cons_zero, List.set_cons_succ]
    refine take_load 3 (.tmp 45) ⟨p, 1, none⟩ (.int .i64 (s.used : Int)) rfl rfl rfl (fun u hu => load_any Try.underlying3 Try.isAgg3 hu.2.2.1) ?_
    simp only [Act.put, List.setIfInBounds_toArray, List.set_cons_zero, List.set_cons_succ]
    refine take_one (.int .i64 ((s.from_ : Int) + 1 + (s.used : Int))) rfl (fun u _ => by go_simp; exact IntWalk.i64_in _ (by omega)) ?_
    simp only [Act.put, List.setIfInBounds_toArray, List.set_cons_zero, List.set_cons_succ]
    refine take_load 29 (.tmp 2) ⟨w.heap.size, 0, none⟩ (.pointer (some ⟨p, 0, none⟩)) rfl rfl rfl (fun u hu => load_any Try.underlying29 Try.isAgg29 hu.1) ?_
    simp only [Act.put, List.setIfInBounds_toArray, List.set_cons_zero, List.set_cons_succ]
    refine take_nil (.tmp 48) ⟨p, 0, none⟩ rfl rfl rfl ?_
    simp only [Act.put, List.setIfInBounds_toArray, List.set_cons_zero, List.set_cons_succ]
    refine take_one (.pointer (some ⟨p, 0, none⟩)) rfl (fun u _ => by go_simp) ?_
    simp only [Act.put, List.setIfInBounds_toArray, List.set_cons_zero, List.set_cons_succ]
    refine take_one (.pointer (some ⟨p, 0, none⟩)) rfl (fun u _ => by go_simp) ?_
    simp only [Act.put, List.setIfInBounds_toArray, List.set_cons_zero, List.set_cons_succ]
    refine take_load 33 (.tmp 51) ⟨p, 0, none⟩ (.int .u64 (s.gen : Int)) rfl rfl rfl (fun u hu => load_any Try.underlying33 Try.isAgg33 hu.2.2.2) ?_
    simp only [Act.put, List.setIfInBounds_toArray, List.set_cons_zero, List.set_cons_succ]
    refine take_load 29 (.tmp 2) ⟨w.heap.size, 0, none⟩ (.pointer (some ⟨p, 0, none⟩)) rfl rfl rfl (fun u hu => load_any Try.underlying29 Try.isAgg29 hu.1) ?_
    simp only [Act.put, List.setIfInBounds_toArray, List.set_cons_zero, List.set_cons_succ]
    refine take_nil (.tmp 53) ⟨p, 0, none⟩ rfl rfl rfl ?_
    simp only [Act.put, List.setIfInBounds_toArray, List.set_cons_zero, List.set_cons_succ]
    refine take_one (.pointer (some ⟨p, 0, none⟩)) rfl (fun u _ => by go_simp) ?_
    simp only [Act.put, List.setIfInBounds_toArray, List.set_cons_zero, List.set_cons_succ]
    refine take_one (.pointer (some ⟨p, 1, none⟩)) rfl (fun u _ => by go_simp) ?_
    simp only [Act.put, List.setIfInBounds_toArray, List.set_cons_zero, List.set_cons_succ]
    refine take_load 3 (.tmp 56) ⟨p, 1, none⟩ (.int .i64 (s.used : Int)) rfl rfl rfl (fun u hu => load_any Try.underlying3 Try.isAgg3 hu.2.2.1) ?_
    simp only [Act.put, List.setIfInBounds_toArray, List.set_cons_zero, List.set_cons_succ]
    refine take_move (.tmp 7) (.int .i64 (k : Int)) rfl rfl rfl ?_
    simp only [Act.put, List.setIfInBounds_toArray, List.set_cons_zero, List.set_cons_succ]
    refine take_one (.int .i64 ((s.used : Int) + (k : Int))) rfl (fun u _ => by go_simp; exact IntWalk.i64_in _ (by omega)) ?_
    simp only [Act.put, List.setIfInBounds_toArray, List.set_cons_zero, List.set_cons_succ]
    refine take_one (.agg #[.int .u64 (s.gen : Int), .int .i64 ((s.used : Int) + (k : Int))]) rfl (fun u _ => by go_simp) ?_
    simp only [Act.put, List.setIfInBounds_toArray, List.set_cons_zero, List.set_cons_succ]
    refine take_done ?_
    have hat : ((s.from_ + 1 + s.used : Nat) : Int) = (s.from_ : Int) + 1 + (s.used : Int) := by omega
    have huk : ((s.used + k : Nat) : Int) = (s.used : Int) + (k : Int) := by omega
    have hkl6 : ∀ y ∈ [(w3.heap.size, Obj.cells #[.string row] 9 (0, 0)), (w.heap.size + 1, .cells #[.slice a len cap] 34 (0, 0)), (w.heap.size, .cells #[.pointer (some ⟨p, 0, none⟩)] 29 (0, 0))], y.1 < W5.drew.heap.size := Hkl.out
    have hwb : w.heap.size < W5.drew.heap.size := row_lt (h6.row (b := w.heap.size) (o := boxW p) (by simp [boxW]))
    have hpb : p < W5.drew.heap.size := hv6.lt p hv6.hp
    generalize W5.drew = W6 at *
    have hS : ∀ z, Below W6.heap.size W6 z → (z.cell? ⟨w.heap.size, 0, none⟩ = some (.pointer (some ⟨p, 0, none⟩)) ∧ z.cell? ⟨p, 3, none⟩ = some (.int .i64 (s.from_ : Int)) ∧ z.cell? ⟨p, 1, none⟩ = some (.int .i64 (s.used : Int)) ∧ z.cell? ⟨p, 0, none⟩ = some (.int .u64 (s.gen : Int))) := fun z hb => by
      have h9 := h6.new hb
      have hv9 : WalIn R0 p q s z v6 := hv6.keeps (Turns.of_new hb (fun _ => False)) (fun _ _ => id)
      exact ⟨h9.cB (by simp [boxW]), hv9.c3, hv9.c1, hv9.c0⟩
    constructor
    · have b1 : Below W6.heap.size W6 (W6.alloc (.cells #[.int .i64 0] 3)) := (Below.refl _ W6).alloc (Nat.le_refl _) _
      have b2 : Below W6.heap.size W6 ((W6.alloc (.cells #[.int .i64 0] 3)).alloc (.cells #[.int .u64 0, .int .i64 0] 55)) := b1.alloc (by simp) _
      refine mid_wp rfl (run_wp (v := .pointer (some ⟨W6.heap.size, 0, none⟩)) (w' := W6.alloc (.cells #[.int .i64 0] 3)) (by go_simp) ⟨hS _ b1, ?_⟩)
      simp only [Act.put, List.setIfInBounds_toArray, List.set_cons_zero, List.set_cons_succ]
      refine mid_wp rfl (run_wp (v := .pointer (some ⟨W6.heap.size + 1, 0, none⟩)) (w' := (W6.alloc (.cells #[.int .i64 0] 3)).alloc (.cells #[.int .u64 0, .int .i64 0] 55)) (by go_simp) ⟨hS _ b2, ?_⟩)
      simp only [Act.put, List.setIfInBounds_toArray, List.set_cons_zero, List.set_cons_succ]
      have r1 : ((W6.alloc (.cells #[.int .i64 0] 3)).alloc (.cells #[.int .u64 0, .int .i64 0] 55)).heap[W6.heap.size]? = some (.cells #[.int .i64 0] 3) := row_alloc (heap_alloc_new W6 _) _
      have r2 : ((W6.alloc (.cells #[.int .i64 0] 3)).alloc (.cells #[.int .u64 0, .int .i64 0] 55)).heap[W6.heap.size + 1]? = some (.cells #[.int .u64 0, .int .i64 0] 55) := alloc_at _ _ _ (by simp)
      generalize (W6.alloc (.cells #[.int .i64 0] 3)).alloc (.cells #[.int .u64 0, .int .i64 0] 55) = W7 at *
      have hfin := two_vars h6 hkl6 ((s.from_ + 1 + s.used : Nat) : Int) s.gen (s.used + k) (W6.heap.size) (W6.heap.size + 1) W7 b2 (by omega) (by omega) (by omega) r1 r2
      have b3 : Below W6.heap.size W6 (W7.setCell ⟨W6.heap.size, 0, none⟩ (.int .i64 ((s.from_ : Int) + 1 + (s.used : Int)))) := b2.setCell (p := ⟨W6.heap.size, 0, none⟩) (by show W6.heap.size ≤ W6.heap.size; omega) _
      refine mid_wp rfl (store_wp 3 (.tmp 8) (.tmp 47) (.pointer (some ⟨W6.heap.size, 0, none⟩)) (.int .i64 ((s.from_ : Int) + 1 + (s.used : Int))) rfl rfl rfl (store_int (by rw [cell_of_row _ _ 0 _ _ _ r1]; rfl) (row_free r1 0)) ⟨hS _ b3, ?_⟩)
      simp only [Act.put]
      have r3 : (W7.setCell ⟨W6.heap.size, 0, none⟩ (.int .i64 ((s.from_ : Int) + 1 + (s.used : Int)))).heap[W6.heap.size + 1]? = some (.cells #[.int .u64 0, .int .i64 0] 55) := other_row r2 (by omega)
      have b4 := (b3.setCell (p := ⟨W6.heap.size + 1, 0, none⟩) (by show W6.heap.size ≤ W6.heap.size + 1; omega) (.int .u64 (s.gen : Int))).setCell (p := ⟨W6.heap.size + 1, 1, none⟩) (by show W6.heap.size ≤ W6.heap.size + 1; omega) (.int .i64 ((s.used : Int) + (k : Int)))
      refine mid_wp rfl (store_wp 55 (.tmp 9) (.tmp 60) (.pointer (some ⟨W6.heap.size + 1, 0, none⟩)) (.agg #[.int .u64 (s.gen : Int), .int .i64 ((s.used : Int) + (k : Int))]) rfl rfl rfl (store_mark (s.gen : Int) ((s.used : Int) + (k : Int)) (by rw [cell_of_row _ _ 0 _ _ _ r3]; rfl) (by rw [cell_of_row _ _ 1 _ _ _ r3]; rfl) (row_free r3 0) (row_free r3 1)) ⟨hS _ b4, ?_⟩)
      simp only [Act.put]
      refine mid_list ?_
      rw [hat, huk] at hfin
      have Hfin := Lib.hid hfin; clear hfin
      clear b1 b2 b3 b4 r1 r2 r3 hS h6 hv6
      go_wp2_with fail
      apply NoPanic.normal
      go_wp2_with fail
      go_meet
      case rel => exact ⟨_, _, rfl, rfl, by rw [hat]; unfold boxM; rw [huk]; exact Hfin.out⟩
    · have b1 : Below W6.heap.size W6 (W6.alloc (.cells #[.int .u64 0, .int .i64 0] 55)) := (Below.refl _ W6).alloc (Nat.le_refl _) _
      have b2 : Below W6.heap.size W6 ((W6.alloc (.cells #[.int .u64 0, .int .i64 0] 55)).alloc (.cells #[.int .i64 0] 3)) := b1.alloc (by simp) _
      refine mid_wp rfl (run_wp (v := .pointer (some ⟨W6.heap.size, 0, none⟩)) (w' := W6.alloc (.cells #[.int .u64 0, .int .i64 0] 55)) (by go_simp) ⟨hS _ b1, ?_⟩)
      simp only [Act.put, List.setIfInBounds_toArray, List.set_cons_zero, List.set_cons_succ]
      refine mid_wp rfl (run_wp (v := .pointer (some ⟨W6.heap.size + 1, 0, none⟩)) (w' := (W6.alloc (.cells #[.int .u64 0, .int .i64 0] 55)).alloc (.cells #[.int .i64 0] 3)) (by go_simp) ⟨hS _ b2, ?_⟩)
      simp only [Act.put, List.setIfInBounds_toArray, List.set_cons_zero, List.set_cons_succ]
      have r1 : ((W6.alloc (.cells #[.int .u64 0, .int .i64 0] 55)).alloc (.cells #[.int .i64 0] 3)).heap[W6.heap.size]? = some (.cells #[.int .u64 0, .int .i64 0] 55) := row_alloc (heap_alloc_new W6 _) _
      have r2 : ((W6.alloc (.cells #[.int .u64 0, .int .i64 0] 55)).alloc (.cells #[.int .i64 0] 3)).heap[W6.heap.size + 1]? = some (.cells #[.int .i64 0] 3) := alloc_at _ _ _ (by simp)
      generalize (W6.alloc (.cells #[.int .u64 0, .int .i64 0] 55)).alloc (.cells #[.int .i64 0] 3) = W7 at *
      have hfin := two_vars h6 hkl6 ((s.from_ + 1 + s.used : Nat) : Int) s.gen (s.used + k) (W6.heap.size + 1) (W6.heap.size) W7 b2 (by omega) (by omega) (by omega) r2 r1
      have b3 : Below W6.heap.size W6 (W7.setCell ⟨W6.heap.size + 1, 0, none⟩ (.int .i64 ((s.from_ : Int) + 1 + (s.used : Int)))) := b2.setCell (p := ⟨W6.heap.size + 1, 0, none⟩) (by show W6.heap.size ≤ W6.heap.size + 1; omega) _
      refine mid_wp rfl (store_wp 3 (.tmp 8) (.tmp 47) (.pointer (some ⟨W6.heap.size + 1, 0, none⟩)) (.int .i64 ((s.from_ : Int) + 1 + (s.used : Int))) rfl rfl rfl (store_int (by rw [cell_of_row _ _ 0 _ _ _ r2]; rfl) (row_free r2 0)) ⟨hS _ b3, ?_⟩)
      simp only [Act.put]
      have r3 : (W7.setCell ⟨W6.heap.size + 1, 0, none⟩ (.int .i64 ((s.from_ : Int) + 1 + (s.used : Int)))).heap[W6.heap.size]? = some (.cells #[.int .u64 0, .int .i64 0] 55) := other_row r1 (by omega)
      have b4 := (b3.setCell (p := ⟨W6.heap.size, 0, none⟩) (by show W6.heap.size ≤ W6.heap.size; omega) (.int .u64 (s.gen : Int))).setCell (p := ⟨W6.heap.size, 1, none⟩) (by show W6.heap.size ≤ W6.heap.size; omega) (.int .i64 ((s.used : Int) + (k : Int)))
      refine mid_wp rfl (store_wp 55 (.tmp 9) (.tmp 60) (.pointer (some ⟨W6.heap.size, 0, none⟩)) (.agg #[.int .u64 (s.gen : Int), .int .i64 ((s.used : Int) + (k : Int))]) rfl rfl rfl (store_mark (s.gen : Int) ((s.used : Int) + (k : Int)) (by rw [cell_of_row _ _ 0 _ _ _ r3]; rfl) (by rw [cell_of_row _ _ 1 _ _ _ r3]; rfl) (row_free r3 0) (row_free r3 1)) ⟨hS _ b4, ?_⟩)
      simp only [Act.put]
      refine mid_list ?_
      rw [hat, huk] at hfin
      have Hfin := Lib.hid hfin; clear hfin
      clear b1 b2 b3 b4 r1 r2 r3 hS h6 hv6
      go_wp2_with fail
      apply NoPanic.normal
      go_wp2_with fail
      go_meet
      case rel => exact ⟨_, _, rfl, rfl, by rw [hat]; unfold boxM; rw [huk]; exact Hfin.out⟩
  case rest =>
    obtain ⟨ta, na, rfl, rfl, h7⟩ := hcut
    have hwk : k = Wal.secs (Oct.row l).1 := Hk.out.symm
    rw [hwk] at h7
    have H7 := Lib.hid h7; clear h7
    have cb := H7.out.cB (B := w.heap.size) (by simp [boxW, boxM, boxI])
    go_upto_region 12 with fail
    have h8 := H7.out.new ((Below.refl _ wc).drew)
    refine wp_region_phases [([0, 1, 2, 3, 4, 5], [6, 7, 8, 9, 10])] (by kernel_rfl) (by kernel_rfl) (fun z => z.cell? ⟨w.heap.size, 0, none⟩ = some (.pointer (some ⟨p, 0, none⟩))) (h8.cB (by simp [boxW, boxM, boxI])) ?_
    simp only [wpPhases, pick, List.filterMap_cons, List.filterMap_nil, List.getElem?_toArray, List.getElem?_cons_zero, List.getElem?_cons_succ]
    refine take_load 29 (.tmp 2) ⟨w.heap.size, 0, none⟩ (.pointer (some ⟨p, 0, none⟩)) rfl rfl rfl (fun u hu => load_any Try.underlying29 Try.isAgg29 hu) ?_
    simp only [Act.put, List.setIfInBounds_toArray, List.set_cons_zero, List.set_cons_succ]
    refine take_one (fnv (apG 0, apL w.heap.size (w.heap.size + 1) w3.heap.size ta na 0)) rfl (fun u _ => by simp only [fnv, apG, apL]; go_simp) ?_
    simp only [Act.put, List.setIfInBounds_toArray, List.set_cons_zero, List.set_cons_succ]
    refine take_one (fnv (apG 1, apL w.heap.size (w.heap.size + 1) w3.heap.size ta na 1)) rfl (fun u _ => by simp only [fnv, apG, apL]; go_simp) ?_
    simp only [Act.put, List.setIfInBounds_toArray, List.set_cons_zero, List.set_cons_succ]
    refine take_one (fnv (apG 2, apL w.heap.size (w.heap.size + 1) w3.heap.size ta na 2)) rfl (fun u _ => by simp only [fnv, apG, apL]; go_simp) ?_
    simp only [Act.put, List.setIfInBounds_toArray, List.set_cons_zero, List.set_cons_succ]
    refine take_one (fnv (apG 3, apL w.heap.size (w.heap.size + 1) w3.heap.size ta na 3)) rfl (fun u _ => by simp only [fnv, apG, apL]; go_simp) ?_
    simp only [Act.put, List.setIfInBounds_toArray, List.set_cons_zero, List.set_cons_succ]
    refine take_one (fnv (apG 4, apL w.heap.size (w.heap.size + 1) w3.heap.size ta na 4)) rfl (fun u _ => by simp only [fnv, apG, apL]; go_simp) ?_
    simp only [Act.put, List.setIfInBounds_toArray, List.set_cons_zero, List.set_cons_succ]
    refine take_done ?_
    generalize wc.drew = Wd at h8 ⊢
    have h9 := h8.box (apObj w.heap.size (w.heap.size + 1) w3.heap.size ta na) Wd.heap.size rfl
    refine midk_one (w' := Wd.alloc (apObj w.heap.size (w.heap.size + 1) w3.heap.size ta na)) (.slice (some ⟨Wd.heap.size, 0, none⟩) 5 5) rfl (run_slice_op 76 5 [(0, .tmp 62), (1, .tmp 63), (2, .tmp 64), (3, .tmp 65), (4, .tmp 66)] rfl (slice_fn5 _ _ _ _ _ Wd)) (h9.cB (by simp [boxW, boxM, boxI])) ?_
    simp only [Act.put, List.setIfInBounds_toArray, List.set_cons_zero, List.set_cons_succ]
    have hfo := ap_follow (B := w.heap.size) (C := w.heap.size + 1) (rb := w3.heap.size) (ta := ta) (na := na) (fb := Wd.heap.size) (a := a) (len := len) (cap := cap) (l := l) (row := row) h9 Hs.out hops Hrl.out Hfit.out Hsl.out Hst.out Hap.out (by simp [boxW]) (by simp [boxL]) (by simp [boxS]) (by simp) (by simp) (by simp)
    refine midk_wp rfl (call_wp 20 [.tmp 67] #[76] #[.slice (some ⟨Wd.heap.size, 0, none⟩) 5 5] rfl rfl rfl ?_)
    refine hfo.mono ?_
    rintro e w5 ⟨kk, hkk, hz, hcase⟩
    obtain ⟨q1, q2, q3, q4, q5⟩ := Hst4.out
    have key : ∃ (E : Int) (S5 R5 : Nat → Prop) (D5 : Dsk.St) (s5 : Wal.St) (kept : List (Nat × Obj)), e = .returned (.int .i64 E) ∧ Apn w S0 R0 kept S5 R5 p q D5 s5 w5 ∧ (w.heap.size, boxW p) ∈ kept ∧
        Wal.steps (Wal.appendOps s (Oct.row l).1) d = (D5, E) ∧ { s5 with err := E } = (if E = 0 then { s with used := s.used + Wal.secs (Oct.row l).1, L := s.L ++ [l] } else { s with err := E }) := by
      rcases hcase with ⟨rfl, rfl, S5, R5, h5⟩ | ⟨hlt, hne, rfl, S5, R5, h5⟩
      · refine ⟨0, S5, R5, _, _, _, rfl, h5, by simp [boxW], q5 (hz 0 (by omega)) (hz 1 (by omega)) (hz 2 (by omega)) (hz 3 (by omega)), ?_⟩
        rw [if_pos rfl]
        show ({ s with used := s.used + Wal.secs (Oct.row l).1, L := s.L ++ [l], err := 0 } : Wal.St) = { s with used := s.used + Wal.secs (Oct.row l).1, L := s.L ++ [l] }
        rw [← He.out]
      · match kk, hlt, hz, hne, h5 with
        | 0, _, _, hne, h5 => exact ⟨_, S5, R5, _, _, _, rfl, h5, by simp [boxW], by rw [q1 hne]; rfl, by rw [if_neg hne]; rfl⟩
        | 1, _, hz, hne, h5 => exact ⟨_, S5, R5, _, _, _, rfl, h5, by simp [boxW], by rw [q2 (hz 0 (by omega)) hne]; rfl, by rw [if_neg hne]; rfl⟩
        | 2, _, hz, hne, h5 => exact ⟨_, S5, R5, _, _, _, rfl, h5, by simp [boxW], by rw [q3 (hz 0 (by omega)) (hz 1 (by omega)) hne]; rfl, by rw [if_neg hne]; rfl⟩
        | 3, _, hz, hne, h5 => exact ⟨_, S5, R5, _, _, _, rfl, h5, by simp [boxW], by rw [q4 (hz 0 (by omega)) (hz 1 (by omega)) (hz 2 (by omega)) hne]; rfl, by rw [if_neg hne]; rfl⟩
        | 4, _, _, hne, _ => exact absurd rfl hne
        | (j + 5), h, _, _, _ => exact absurd h (by omega)
    obtain ⟨E, S5, R5, D5, s5, kept, rfl, h5, hmb, hst5, hse⟩ := key
    refine ⟨_, rfl, h5.cB hmb, ?_⟩
    simp only [Act.put, List.setIfInBounds_toArray, List.set_cons_zero, List.set_cons_succ]
    refine midk_one (.pointer (some ⟨p, 0, none⟩)) rfl rfl (h5.cB hmb) ?_
    simp only [Act.put, List.setIfInBounds_toArray, List.set_cons_zero, List.set_cons_succ]
    refine midk_one (.pointer (some ⟨p, 6, none⟩)) rfl (by go_simp) (h5.cB hmb) ?_
    simp only [Act.put, List.setIfInBounds_toArray, List.set_cons_zero, List.set_cons_succ]
    have h6 := h5.faulted E
    obtain ⟨v5, hv5⟩ := h5.wal
    refine midk_store 26 (.tmp 70) (.tmp 68) _ _ rfl rfl rfl rfl (store_err hv5.c6 (hv5.free 6)) (h6.cB hmb) ?_
    simp only [Act.put]
    refine midk_end ?_
    have hfin : Apn w S0 R0 [] S5 R5 p q D5 (if E = 0 then { s with used := s.used + Wal.secs (Oct.row l).1, L := s.L ++ [l] } else { s with err := E }) (w5.setCell ⟨p, 6, none⟩ (.int .i64 E)) := by
      rw [← hse]
      exact h6.bare
    have cb := h6.cB (B := w.heap.size) hmb
    obtain ⟨v6, hv6⟩ := h6.wal
    have c66 := hv6.c6
    have hgoal : Ending.returned (.int .i64 E) = .returned (.int .i64 (Wal.steps (Wal.appendOps s (Oct.row l).1) d).2) ∧ ∃ S R, Apn w S0 R0 [] S R p q (Wal.steps (Wal.appendOps s (Oct.row l).1) d).1 SF (w5.setCell ⟨p, 6, none⟩ (.int .i64 E)) := by
      have hq := HSF.out
      rw [hst5] at hq
      exact ⟨by rw [hst5], S5, R5, by rw [hst5, hq]; exact hfin⟩
    have Hgoal := Lib.hid hgoal; clear hgoal
    clear hfin h6 hv6 h5 hv5 hse hst5 hfo h9 h8 q1 q2 q3 q4 q5 hz hcase c6
    go_wp2_with fail
    go_ret
    obtain ⟨g1, S9, R9, g2⟩ := Hgoal.out
    exact ⟨g1, S9, R9, g2⟩
end
end Go.Proofs.Ytjmpagbjkehebaa
