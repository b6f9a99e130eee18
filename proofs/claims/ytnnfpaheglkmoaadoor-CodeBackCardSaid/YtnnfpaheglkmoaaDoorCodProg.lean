/-
  What the reader's prog reads.
-/
import Derived.Test.YtnnfpaheglkmoaaDoorCodPg
set_option linter.unusedVariables false
set_option maxRecDepth 100000
namespace Go.Proofs.YtnnfpaheglkmoaaDoor
open Go.RowKit

theorem prog_pan {R : Nat} {w : World} {z : Option (Cod.Pr × List UInt8)} {Q : Exit → Act → World → Prop} (hQ : ∀ a w', a.defers = [] → RdR z R (.panicked rdPanic) w' ∧ Below R w w' → Q (.panic rdPanic) a w') :
    ∀ c a w', a.defers = [] → (c = rdPanic ∧ z = none ∧ Below R w w') → Q (.panic c) a w' := fun c a w' h0 h => by
  obtain ⟨rfl, h2, h3⟩ := h
  exact hQ a w' h0 ⟨.inl ⟨h2, rfl⟩, h3⟩
theorem codAt_append (ts : List ByteArray) (l : List UInt8) : lists (ts ++ [⟨l.toArray⟩]) = lists ts ++ [l] := by simp [lists]

set_option maxHeartbeats 8000000 in
theorem prog_any {R : Nat} {l : List UInt8} {w : World} (h : RdAt R l w) (hl : l.length ≤ 1099511627776) :
    Calls Tryd.prog 27 #[.pointer (some ⟨R, 0, none⟩)] w fun e w' => RdR (Cod.rd l) R e w' ∧ Below R w w' := by
  obtain ⟨i0, hi0, hz0, hz1, hz2⟩ := info_parts tstr_info
  obtain ⟨j0, hj0, hy0, hy1, hy2⟩ := info_parts ins_info
  have hlt := row_lt h
  obtain ⟨z, hz⟩ : ∃ z, z = Cod.rd l := ⟨_, rfl⟩
  rw [← hz]
  have HZ := Lib.hid hz; clear hz
  have hb1 := obj_below w (.cells #[.slice none 0 0, .slice none 0 0] 25)
  have hbb := hb1.trans ((obj_below (w.alloc (.cells #[.slice none 0 0, .slice none 0 0] 25)) (.cells #[.slice none 0 0, .slice none 0 0] 25)).mono hb1.size)
  have hI : PgI w R l (.slice none 0 0) [] (.slice none 0 0) [] ((w.alloc (.cells #[.slice none 0 0, .slice none 0 0] 25)).alloc (.cells #[.slice none 0 0, .slice none 0 0] 25)) := by
    have e1 := heap_alloc_new w (.cells #[.slice none 0 0, .slice none 0 0] 25)
    have e2 := heap_alloc_new (w.alloc (.cells #[.slice none 0 0, .slice none 0 0] 25)) (.cells #[.slice none 0 0, .slice none 0 0] 25)
    have es : (w.alloc (.cells #[.slice none 0 0, .slice none 0 0] 25)).heap.size = w.heap.size + 1 := by simp
    rw [es] at e2
    exact ⟨hlt, h.new hbb, hbb.mono (Nat.le_of_lt hlt), row_alloc e1 _, e2, World.ownsRow_nil _ _ _ _, World.ownsRow_nil _ _ _ _, by simp⟩
  have HI := Lib.hid hI; clear hI hbb hb1 h
  have Hl := Lib.hid hl; clear hl
  clear hlt
  go_enter Tryd.func27, Tryd.ntmps27
  go_wp2_with fail
  cases l with
  | nil =>
    have hzn : z = none := HZ.out
    refine (take_bad (k := 1) HI.out.rd (by simp) (by simp)).mono ?_; rintro e w1 ⟨rfl, rfl⟩
    go_wp2_with fail
    exact ⟨rfl, .inl ⟨hzn, rfl⟩, HI.out.b⟩
  | cons n0 l1 =>
    refine (take_one1 HI.out.rd Hl.out).mono ?_; rintro e w1 ⟨rfl, hw1⟩
    have hI1 := HI.out.take l1
    rw [← hw1] at hI1
    have HI1 := Lib.hid hI1; clear hI1 hw1 HI
    have hix := one_ix n0
    obtain ⟨n, hn⟩ : ∃ n, n = n0.toNat := ⟨_, rfl⟩
    have hn256 : n < 256 := by rw [hn]; exact n0.toNat_lt
    rw [← hn] at hix
    have hzz : z = match Cod.getT n l1 with | none => none | some x => Cod.rdR x.1 x.2 := by rw [hn]; exact HZ.out
    have Hzz := Lib.hid hzz; clear hzz HZ
    have Hl1 : l1.length ≤ 1099511627776 := by have := Hl.out; simp only [List.length_cons] at this; omega
    have Hl2 := Lib.hid Hl1; clear Hl1 Hl
    clear hn
    obtain ⟨o, ho⟩ : ∃ o, o = one n0 := ⟨_, rfl⟩
    rw [← ho] at hix ⊢
    clear ho
    go_wp2_with fail
    clear hix
    go_loopw [10] (fun i wr => ∃ (k : Nat) (rest : List UInt8) (v : Value) (ts : List ByteArray), k ≤ n ∧ i = .int .u8 (k : Int) ∧ ts.length = k ∧ rest.length ≤ 1099511627776 ∧ Cod.getT n l1 = (Cod.getT (n - k) rest).map (fun x => (lists ts ++ x.1, x.2)) ∧ PgI w R rest v ts (.slice none 0 0) [] wr) (fun i _ => n - (intOf i).toNat)
    case atStart => exact ⟨0, l1, _, [], Nat.zero_le _, rfl, rfl, Hl2.out, by rw [Nat.sub_zero]; cases Cod.getT n l1 <;> simp [lists], HI1.out⟩
    case round =>
      clear HI1
      obtain ⟨k, rest, v, ts, hk, rfl, htk, hrl, hg, hI⟩ := hrel
      have HI := Lib.hid hI; clear hI
      have Hg := Lib.hid hg; clear hg
      have Htk := Lib.hid htk; clear htk
      have Hrl := Lib.hid hrl; clear hrl
      by_cases hlt : k < n
      · have hlt2 : (k : Int) < (n : Int) := by omega
        cases rest with
        | nil =>
          have hzn : z = none := by rw [Hzz.out, Hg.out, show n - k = (n - (k + 1)) + 1 by omega, Cod.getT_nil]; rfl
          go_wp2_with fail
          refine (take_bad (k := 1) HI.out.rd (by simp) (by simp)).mono ?_; rintro e w1 ⟨rfl, rfl⟩
          go_wp2_with fail
          exact ⟨rfl, .inl ⟨hzn, rfl⟩, HI.out.b⟩
        | cons b m =>
        go_wp2_with fail
        refine (take_one1 HI.out.rd Hrl.out).mono ?_; rintro e w1 ⟨rfl, hw1⟩
        have hI1 := HI.out.take m
        rw [← hw1] at hI1
        have HI1 := Lib.hid hI1; clear hI1 hw1 HI
        have hix := one_ix b
        obtain ⟨q, hq⟩ : ∃ q, q = b.toNat := ⟨_, rfl⟩
        have hq256 : q < 256 := by rw [hq]; exact b.toNat_lt
        rw [← hq] at hix
        have Hq := Lib.hid hq; clear hq
        have Hml : m.length ≤ 1099511627776 := by have := Hrl.out; simp only [List.length_cons] at this; omega
        have hwq : IntKind.i64.wrap (q : Int) = (q : Int) := by simp only [IntKind.wrap_i64]; omega
        have Hwq := Lib.hid hwq; clear hwq
        obtain ⟨o2, ho2⟩ : ∃ o, o = one b := ⟨_, rfl⟩
        rw [← ho2] at hix ⊢
        clear ho2
        go_wp2_with fail
        clear hix
        have hId := HI1.out.drew
        refine wp_region_text_mp [0, 1, 2, 3, 4] [5, 6, 7, 8] [9, 10] (by kernel_rfl) (by kernel_rfl) (fun hu => hu.cell? ⟨w.heap.size + 1, 0, none⟩ = some v) hId.c0 (fun c W => c = rdPanic ∧ z = none ∧ Below R w W) (prog_pan fun a w' h0 hr => ⟨h0, hr⟩) ?_
        simp only [pick, List.filterMap_cons, List.filterMap_nil, List.getElem?_toArray, List.getElem?_cons_zero, List.getElem?_cons_succ]
        refine take_one (.pointer (some ⟨(w.heap.size + 1), 0, none⟩)) rfl (fun u _ => by go_simp) ?_
        simp only [Act.put, List.setIfInBounds_toArray, List.set_cons_zero, List.set_cons_succ]
        refine take_load 22 (.tmp 15) ⟨(w.heap.size + 1), 0, none⟩ v rfl rfl rfl (fun u hu => load_at Tryd.underlying22 Tryd.isAgg22 hu) ?_
        simp only [Act.put, List.setIfInBounds_toArray, List.set_cons_zero, List.set_cons_succ]
        refine take_move (.tmp 0) (.pointer (some ⟨R, 0, none⟩)) rfl rfl rfl ?_
        simp only [Act.put, List.setIfInBounds_toArray, List.set_cons_zero, List.set_cons_succ]
        refine take_move (.tmp 4) (.int .u8 (q : Int)) rfl rfl rfl ?_
        simp only [Act.put, List.setIfInBounds_toArray, List.set_cons_zero, List.set_cons_succ]
        refine take_one (.int .i64 (q : Int)) rfl (fun u hu => by go_simp; exact Hwq.out) ?_
        simp only [Act.put, List.setIfInBounds_toArray, List.set_cons_zero, List.set_cons_succ]
        refine take_done ?_
        refine mid_wp rfl (call_wp_mp 36 [.tmp 17, .tmp 19] #[74, 3] #[.pointer (some ⟨R, 0, none⟩), .int .i64 (q : Int)] rfl rfl rfl ?_)
        by_cases hs : m.length < q
        · have hzn : z = none := by rw [Hzz.out, Hg.out, show n - k = (n - (k + 1)) + 1 by omega, Cod.getT_short (by rw [← Hq.out]; exact hs)]; rfl
          refine (take_bad hId.rd hs Hml).mono ?_; rintro e w2 ⟨rfl, rfl⟩
          exact .inr ⟨_, rfl, rfl, rfl, hzn, hId.b⟩
        refine (take_ok hId.rd (Nat.le_of_not_lt hs) Hml).mono ?_; rintro e w2 ⟨rfl, hw2⟩
        have h4 := hId.take (m.drop q)
        rw [← hw2] at h4
        refine .inl ⟨_, rfl, h4.c0, ?_⟩
        simp only [Act.put, List.setIfInBounds_toArray, List.set_cons_zero, List.set_cons_succ]
        refine mid_wp rfl (call_wp_mp 37 [.tmp 20] #[9] #[.string ⟨(m.take q).toArray⟩] rfl rfl rfl ?_)
        refine (clone_any _ _ (by rw [list_size, List.length_take]; omega)).mono ?_; rintro e w5 ⟨rfl, h5⟩
        have h6 := h4.new h5
        refine .inl ⟨_, rfl, h6.c0, ?_⟩
        simp only [Act.put, List.setIfInBounds_toArray, List.set_cons_zero, List.set_cons_succ]
        obtain ⟨Y, hY⟩ : ∃ Y : ByteArray, Y = ⟨(m.take q).toArray⟩ := ⟨_, rfl⟩
        rw [← hY]
        have h7 := h6.new (obj_below w5 (.cells #[.string Y] 9))
        refine mid_one (w' := w5.alloc (.cells #[.string Y] 9)) (.slice (some ⟨w5.heap.size, 0, none⟩) 1 1) rfl (run_slice_op 22 1 [(0, .tmp 21)] rfl (slice_str1 _ w5)) h7.c0 ?_
        simp only [Act.put, List.setIfInBounds_toArray, List.set_cons_zero, List.set_cons_succ]
        refine mid_wp rfl (Edt.append_at (.tmp 16) (.tmp 22) 22 rfl (w.heap.size + 2) 9 i0 _ 1 16 Tryd.underlying22 hi0 hz0 hz1 hz2 rfl (by decide) v ts.length (ts.map Value.string) rfl h7.t ⟨w5.heap.size, 0, none⟩ 1 1 [.string Y] rfl rfl (cell_new_row w5 [.string Y] 9) (by intro u hu; simp at hu; subst hu; rfl) (by have := Htk.out; unfold maxLen; omega) (by have := Htk.out; omega) h7.sz ?_)
        intro v8 w8 ho8 hg8
        obtain ⟨hp8, h9⟩ := h7.appT ho8 hg8
        have c8 : w8.cell? ⟨w.heap.size + 1, 0, none⟩ = some v := by rw [cell_of_row _ _ 0 _ _ _ hp8]; rfl
        refine ⟨c8, ?_⟩
        simp only [Act.put, List.setIfInBounds_toArray, List.set_cons_zero, List.set_cons_succ]
        refine mid_list ?_
        have f8 := row_free hp8 0
        obtain ⟨a8, d8, hv8⟩ := h9.t.form
        rw [show (ts ++ [Y]).length = k + 1 by rw [List.length_append, Htk.out]; rfl] at hv8
        subst hv8
        have hst := Cod.getT_step (b := b) (l := m) (T := lists ts) hlt (by rw [← Hq.out]; exact hs) Hg.out
        have H9 := Lib.hid h9
        have Hst := Lib.hid hst
        have HY := Lib.hid hY
        clear h9 hst hY hp8 ho8 hg8 h7 h6 h5 h4 hw2 hId hs
        go_wp2_with fail
        refine MayPan.normal ?_
        have hk1 : IntKind.u8.wrap ((k : Int) + 1) = ((k + 1 : Nat) : Int) := by simp only [IntKind.wrap_u8]; omega
        go_wp2_with fail
        go_roundw
        case rel => exact ⟨k + 1, m.drop q, _, ts ++ [Y], by omega, by go_num, by rw [List.length_append, Htk.out]; rfl, by rw [List.length_drop]; omega, by rw [Hst.out, HY.out, codAt_append, ← Hq.out], H9.out⟩
        case measure => simp [intOf]; omega
      · obtain rfl : k = n := by omega
        have hlt2 : ¬ (k : Int) < (k : Int) := by omega
        have hgt : Cod.getT k l1 = some (lists ts, rest) := by
          rw [Hg.out, Nat.sub_self]
          simp [Cod.getT]
        have hz2 : z = Cod.rdR (lists ts) rest := by rw [Hzz.out, hgt]
        have Hz2 := Lib.hid hz2; clear hz2 hgt
        clear Hg Hzz hlt hk hn256
        go_wp2_with fail
        by_cases hsh : rest.length < 2
        · have hzn : z = none := by
            rw [Hz2.out]
            match rest, hsh with
            | [], _ => rfl
            | [a], _ => rfl
          refine (take_bad (k := 2) HI.out.rd hsh (by omega)).mono ?_; rintro e w1 ⟨rfl, rfl⟩
          go_wp2_with fail
          exact ⟨rfl, .inl ⟨hzn, rfl⟩, HI.out.b⟩
        obtain ⟨a, b, r0, rfl⟩ : ∃ a b r0, rest = a :: b :: r0 := by
          match rest, hsh with
          | [], h => simp at h
          | [a], h => simp at h
          | a :: b :: r, _ => exact ⟨a, b, r, rfl⟩
        clear hsh
        refine (take_two HI.out.rd Hrl.out).mono ?_; rintro e w1 ⟨rfl, hw1⟩
        have hI1 := HI.out.take r0
        rw [← hw1] at hI1
        have hId := hI1.drew
        have HI1 := Lib.hid hId; clear hId hI1 hw1 HI
        have x0 := two_ix0 a b
        have x1 := two_ix1 a b
        have hrl0 : r0.length ≤ 1099511627776 := by have := Hrl.out; simp only [List.length_cons] at this; omega
        have Hr0 := Lib.hid hrl0; clear hrl0 Hrl
        obtain ⟨A, hA⟩ : ∃ A, A = a.toNat := ⟨_, rfl⟩
        obtain ⟨B, hB⟩ : ∃ B, B = b.toNat := ⟨_, rfl⟩
        have hA256 : A < 256 := by rw [hA]; exact a.toNat_lt
        have hB256 : B < 256 := by rw [hB]; exact b.toNat_lt
        have hz3 : z = (Cod.rdC (A + 256 * B) r0).map fun y => (⟨lists ts, y.1⟩, y.2) := by rw [hA, hB]; exact Hz2.out
        have Hz3 := Lib.hid hz3; clear hz3 Hz2
        rw [← hA] at x0
        rw [← hB] at x1
        clear hA hB
        obtain ⟨o3, ho3⟩ : ∃ o, o = two a b := ⟨_, rfl⟩
        rw [← ho3] at x0 x1 ⊢
        clear ho3
        have hor := two_bytes A B hA256 hB256
        obtain ⟨c, hc⟩ : ∃ c, c = A + 256 * B := ⟨_, rfl⟩
        have hcm : c ≤ 65535 := by omega
        rw [← hc] at hor Hz3
        clear hc
        have hwa : IntKind.i64.wrap (A : Int) = (A : Int) := by simp only [IntKind.wrap_i64]; omega
        have hwb : IntKind.i64.wrap (B : Int) = (B : Int) := by simp only [IntKind.wrap_i64]; omega
        have hwc : IntKind.i64.wrap ((B : Int) * 256) = (B : Int) * 256 := by simp only [IntKind.wrap_i64]; omega
        go_wp2_with fail
        go_region
        clear hor hwa hwb hwc x0 x1 hA256 hB256
        go_wp2_with fail
        go_loopw [36] (fun i wr => ∃ (j : Nat) (rest : List UInt8) (u : Value) (cs : List Cod.In), j ≤ c ∧ i = .int .i64 (j : Int) ∧ cs.length = j ∧ rest.length ≤ 1099511627776 ∧ Cod.rdC c r0 = (Cod.rdC (c - j) rest).map (fun x => (cs ++ x.1, x.2)) ∧ PgI w R rest v ts u cs wr) (fun i _ => c - (intOf i).toNat)
        case atStart => exact ⟨0, r0, _, [], Nat.zero_le _, rfl, rfl, Hr0.out, by rw [Nat.sub_zero]; cases Cod.rdC c r0 <;> simp, HI1.out⟩
        case round =>
          clear HI1
          obtain ⟨j, rest, u, cs, hj, rfl, hcj, hrl, hg, hI⟩ := hrel
          have HI := Lib.hid hI; clear hI
          have Hg := Lib.hid hg; clear hg
          have Hcj := Lib.hid hcj; clear hcj
          have Hrl := Lib.hid hrl; clear hrl
          by_cases hlj : j < c
          · have hlj2 : (j : Int) < (c : Int) := by omega
            go_wp2_with fail
            by_cases hsh : rest.length < 2
            · have hzn : z = none := by
                rw [Hz3.out, Hg.out, show c - j = (c - (j + 1)) + 1 by omega, Cod.rdC_short hsh]; rfl
              refine (take_bad (k := 2) HI.out.rd hsh (by omega)).mono ?_; rintro e w1 ⟨rfl, rfl⟩
              go_wp2_with fail
              exact ⟨rfl, .inl ⟨hzn, rfl⟩, HI.out.b⟩
            obtain ⟨a, b, m, rfl⟩ : ∃ a b r0, rest = a :: b :: r0 := by
              match rest, hsh with
              | [], h => simp at h
              | [a], h => simp at h
              | a :: b :: r, _ => exact ⟨a, b, r, rfl⟩
            clear hsh
            refine (take_two HI.out.rd Hrl.out).mono ?_; rintro e w1 ⟨rfl, hw1⟩
            have hI1 := HI.out.take m
            rw [← hw1] at hI1
            have hId := hI1.drew
            clear hw1 HI hI1
            have hml : m.length ≤ 1099511627776 := by have := Hrl.out; simp only [List.length_cons] at this; omega
            have Hml := Lib.hid hml; clear hml Hrl
            have HId := Lib.hid hId; clear hId
            go_wp2_with fail
            have hId := HId.out
            refine wp_region_text [0, 1, 2, 3, 4, 5, 6] [7, 8] [9, 10] (by kernel_rfl) (by kernel_rfl) (fun hu => hu.cell? ⟨w.heap.size + 1, 1, none⟩ = some u) hId.c1 ?_
            simp only [pick, List.filterMap_cons, List.filterMap_nil, List.getElem?_toArray, List.getElem?_cons_zero, List.getElem?_cons_succ]
            refine take_one (.pointer (some ⟨(w.heap.size + 1), 1, none⟩)) rfl (fun u _ => by go_simp) ?_
            simp only [Act.put, List.setIfInBounds_toArray, List.set_cons_zero, List.set_cons_succ]
            refine take_load 23 (.tmp 40) ⟨(w.heap.size + 1), 1, none⟩ u rfl rfl rfl (fun u hu => load_at Tryd.underlying23 Tryd.isAgg23 hu) ?_
            simp only [Act.put, List.setIfInBounds_toArray, List.set_cons_zero, List.set_cons_succ]
            refine take_move (.tmp 6) (.string (two a b)) rfl rfl rfl ?_
            simp only [Act.put, List.setIfInBounds_toArray, List.set_cons_zero, List.set_cons_succ]
            refine take_one (.int .u8 (a.toNat : Int)) rfl (fun u hu => by exact run_index_at 9 (.tmp 42) (.const (.int .i64 0)) rfl _ _ _ rfl rfl (two_ix0 a b _)) ?_
            simp only [Act.put, List.setIfInBounds_toArray, List.set_cons_zero, List.set_cons_succ]
            refine take_move (.tmp 6) (.string (two a b)) rfl rfl rfl ?_
            simp only [Act.put, List.setIfInBounds_toArray, List.set_cons_zero, List.set_cons_succ]
            refine take_one (.int .u8 (b.toNat : Int)) rfl (fun u hu => by exact run_index_at 9 (.tmp 44) (.const (.int .i64 1)) rfl _ _ _ rfl rfl (two_ix1 a b _)) ?_
            simp only [Act.put, List.setIfInBounds_toArray, List.set_cons_zero, List.set_cons_succ]
            refine take_one (insV (a, b)) rfl (fun u hu => by exact run_build_at 39 [(0, .tmp 43), (1, .tmp 45)] rfl (build_ins (a, b) _)) ?_
            simp only [Act.put, List.setIfInBounds_toArray, List.set_cons_zero, List.set_cons_succ]
            refine take_done ?_
            have h7 := hId.new (obj_below w1.drew (.cells #[.int .u8 (a.toNat : Int), .int .u8 (b.toNat : Int)] 39))
            refine mid_one (w' := w1.drew.alloc (.cells #[.int .u8 (a.toNat : Int), .int .u8 (b.toNat : Int)] 39)) (.slice (some ⟨w1.drew.heap.size, 0, none⟩) 1 1) rfl (run_slice_op 23 1 [(0, .tmp 46)] rfl (slice_ins1 (a, b) w1.drew)) h7.c1 ?_
            simp only [Act.put, List.setIfInBounds_toArray, List.set_cons_zero, List.set_cons_succ]
            refine mid_wp rfl (Edt.append_at (.tmp 41) (.tmp 47) 23 rfl (w.heap.size + 2) 39 j0 _ 2 2 Tryd.underlying23 hj0 hy0 hy1 hy2 rfl (by decide) u cs.length (cs.flatMap insCells) rfl h7.c ⟨w1.drew.heap.size, 0, none⟩ 1 1 [.int .u8 (a.toNat : Int), .int .u8 (b.toNat : Int)] rfl rfl (cell_new_row w1.drew [.int .u8 (a.toNat : Int), .int .u8 (b.toNat : Int)] 39) (by intro u hu; simp at hu; rcases hu with rfl | rfl <;> rfl) (by have := Hcj.out; unfold maxLen; omega) (by have := Hcj.out; omega) h7.sz ?_)
            intro u8 w8 ho8 hg8
            obtain ⟨hp8, h9⟩ := h7.appC (y := (a, b)) ho8 hg8
            have c8 : w8.cell? ⟨w.heap.size + 1, 1, none⟩ = some u := by rw [cell_of_row _ _ 1 _ _ _ hp8]; rfl
            refine ⟨c8, ?_⟩
            simp only [Act.put, List.setIfInBounds_toArray, List.set_cons_zero, List.set_cons_succ]
            refine mid_list ?_
            have f8 := row_free hp8 1
            obtain ⟨a8, d8, hv8⟩ := h9.c.form
            rw [show (cs ++ [(a, b)]).length = j + 1 by rw [List.length_append, Hcj.out]; rfl] at hv8
            subst hv8
            have hst := Cod.rdC_step (a := a) (b := b) (l := m) (T := cs) hlj Hg.out
            have H9 := Lib.hid h9
            have Hst := Lib.hid hst
            clear h9 hst hp8 ho8 hg8 h7 hId
            go_wp2_with fail
            refine NoPanic.normal ?_
            go_wp2_with fail
            go_roundw
            case rel => exact ⟨j + 1, m, _, cs ++ [(a, b)], by omega, by go_num, by rw [List.length_append, Hcj.out]; rfl, Hml.out, Hst.out, H9.out⟩
            case measure => simp [intOf]; omega
          · obtain rfl : j = c := by omega
            have hlj2 : ¬ (j : Int) < (j : Int) := by omega
            have hz4 : z = some (⟨lists ts, cs⟩, rest) := by
              rw [Hz3.out, Hg.out, Nat.sub_self]
              simp [Cod.rdC]
            obtain ⟨av, dv, hv, hvs, hvz⟩ := HI.out.t.strs
            obtain ⟨au, du, hu, hus, huz⟩ := HI.out.c.reads
            have c0 := HI.out.c0
            have c1 := HI.out.c1
            rw [hv] at c0
            rw [hu] at c1
            rw [Htk.out] at c0
            rw [Hcj.out] at c1
            have hra := HI.out.a
            have e0 : wr.cell? ⟨w.heap.size, 0, none⟩ = some (.slice none 0 0) := by rw [cell_of_row _ _ 0 _ _ _ hra]; rfl
            have e1 : wr.cell? ⟨w.heap.size, 1, none⟩ = some (.slice none 0 0) := by rw [cell_of_row _ _ 1 _ _ _ hra]; rfl
            have f0 := row_free hra 0
            have f1 := row_free hra 1
            have Hra := Lib.hid hra; clear hra
            have Hv := Lib.hid hv
            have Hu := Lib.hid hu
            clear hv hu hvs hus hvz huz
            have Hz4 := Lib.hid hz4; clear hz4
            go_wp2_with fail
            obtain ⟨q1, q2, q3, q4, q5⟩ := HI.out.res (.slice av k dv) (.slice au j du)
            obtain ⟨av2, dv2, hv2, hvs2, hvz2⟩ := q3.strs
            obtain ⟨au2, du2, hu2, hus2, huz2⟩ := q4.reads
            rw [Hv.out] at hv2
            rw [Hu.out] at hu2
            simp only [Value.slice.injEq] at hv2 hu2
            obtain ⟨rfl, -, rfl⟩ := hv2
            obtain ⟨rfl, -, rfl⟩ := hu2
            rw [Htk.out] at hvs2
            rw [Hcj.out] at hus2
            refine bodyPost_ret (results_cell_row (p := 2) (ty := 25) rfl _ _ w.heap.size _ _ _ _ rfl q1 Tryd.underlying25 rfl (by kernel_rfl)) rfl ?_
            exact ⟨.inr ⟨_, rest, _, ts, cs, Hz4.out, rfl, ⟨⟨av, k, dv, au, j, du⟩, rfl, hvs2, hus2, hvz2, huz2⟩, rfl, q2⟩, q5⟩
end Go.Proofs.YtnnfpaheglkmoaaDoor
