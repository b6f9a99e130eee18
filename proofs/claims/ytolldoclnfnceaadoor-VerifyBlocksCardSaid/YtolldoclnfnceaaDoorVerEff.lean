/-
  What an instruction pops and pushes, by the program's table: effectOf.
-/
import Derived.Test.YtolldoclnfnceaaDoorVerKn
import Derived.Test.YtolldoclnfnceaaDoorCodSmall
import Derived.Test.YtolldoclnfnceaaDoorGoPh2
import Derived.Test.YtolldoclnfnceaaDoorGoNew
import Derived.Test.YtolldoclnfnceaaDoorShelf
set_option linter.unusedVariables false
set_option maxRecDepth 100000
namespace Go.Proofs.YtolldoclnfnceaaDoor
open Go.RowKit

namespace Ver
theorem repl_is : ∀ j, j < 24 → ∀ b : Bool, Lib.replaceAll (effP j) [82] (if b then [78] else [84]) = rp (if b then [78] else [84]) (effP j) ∧ Lib.replaceAll (effQ j) [82] (if b then [78] else [84]) = rp (if b then [78] else [84]) (effQ j) := by decide +kernel
theorem repl_room : ∀ j, j < 24 → (effP j).length ≤ 3 ∧ (effQ j).length ≤ 2 ∧ Lib.count (effP j) [82] ≤ 3 ∧ Lib.count (effQ j) [82] ≤ 3 := by decide +kernel
end Ver
theorem repl_any (l k : List UInt8) (r : List UInt8) (hr : Lib.replaceAll l [82] k = r) (hl : l.length ≤ 3) (hc : Lib.count l [82] ≤ 3) (hk : k.length ≤ 3) (w : World) (h : Kn w) :
    Calls Tryd.prog 46 #[.string (Ver.kb l), .string ⟨#[82]⟩, .string (Ver.kb k)] w fun e w' => e = .returned (.string (Ver.kb r)) ∧ Below w.heap.size w w' := by
  obtain ⟨m, hm⟩ := h.len
  subst hr
  refine (Tryd.strings_ReplaceAll (Ver.kb l) ⟨#[82]⟩ (Ver.kb k) m w (by rw [Ver.kb_size]; omega) hm (by decide) ?_).mono fun e w' h => h
  have e1 : Lib.countB (Ver.kb l) ⟨#[82]⟩ = Lib.count l [82] := rfl
  rw [e1, Ver.kb_size, Ver.kb_size]
  have := Nat.mul_le_mul hc hk
  omega

theorem build_eff (a b : ByteArray) (w : World) : (Instr.build 74 #[(0, .string a), (1, .string b)]).run Tryd.prog w = .ok (.agg #[.string a, .string b]) w := run_build w _ _ _ (by kernel_rfl)

set_option maxHeartbeats 2000000 in
theorem effectOf_any (op a : Nat) (hop : op < 24) (ha : a < 256) (w : World) (h : Kn w) : Calls Tryd.prog 36 #[.agg #[.int .u8 (op : Int), .int .u8 (a : Int)]] w fun e w' =>
    e = .returned (.agg #[.string (Ver.kb (Ver.pops op a)), .string (Ver.kb (Ver.pushes op a))]) ∧ Below w.heap.size w w' := by
  obtain ⟨P, hP⟩ : ∃ P, P = Ver.effP op := ⟨_, rfl⟩
  obtain ⟨Q, hQ⟩ : ∃ Q, Q = Ver.effQ op := ⟨_, rfl⟩
  have hb : ∃ b : Bool, Ver.reg a = (if b then [78] else [84]) ∧ decide ((a : Int) < 4) = b := by
    unfold Ver.reg
    by_cases c : a < 4
    · exact ⟨true, by rw [if_pos c]; rfl, decide_eq_true (by omega)⟩
    · exact ⟨false, by rw [if_neg c]; rfl, decide_eq_false (by omega)⟩
  obtain ⟨b, hb1, hb2⟩ := hb
  have hR1 : Lib.replaceAll P [82] (Ver.reg a) = Ver.pops op a := by unfold Ver.pops; rw [hP, hb1]; exact (Ver.repl_is op hop b).1
  have hR2 : Lib.replaceAll Q [82] (Ver.reg a) = Ver.pushes op a := by unfold Ver.pushes; rw [hQ, hb1]; exact (Ver.repl_is op hop b).2
  have hroom := Ver.repl_room op hop
  rw [← hP, ← hQ] at hroom
  have hkl : (Ver.reg a).length ≤ 3 := by rw [hb1]; cases b <;> decide
  have C1 := fun u (k : Kn u) => repl_any P (Ver.reg a) _ hR1 hroom.1 hroom.2.2.1 hkl u k
  have C2 := fun u (k : Kn u) => repl_any Q (Ver.reg a) _ hR2 (by omega) hroom.2.2.2 hkl u k
  have hE := fun u (k : Kn u) => k.eff op hop
  rw [← hP, ← hQ] at hE
  rw [hb1] at C1 C2
  clear hR1 hR2 hroom hkl hP hQ hb1
  generalize Ver.kb (Ver.pops op a) = P' at *
  generalize Ver.kb (Ver.pushes op a) = Q' at *
  generalize Ver.kb P = P at *
  generalize Ver.kb Q = Q at *
  have H1 := Lib.hid C1; clear C1
  have H2 := Lib.hid C2; clear C2
  have HE := Lib.hid hE; clear hE
  have Hk := Lib.hid h; clear h
  have hopi : (op : Int) < 24 := by omega
  have hb1 := obj_below w (.cells #[.int .u8 (op : Int), .int .u8 (a : Int)] 48)
  have hk1 := Hk.out.keep hb1
  have hb2 := obj_below (w.alloc (.cells #[.int .u8 (op : Int), .int .u8 (a : Int)] 48)) (.cells #[.string ⟨#[]⟩, .string ⟨#[]⟩] 74)
  have hk2 := hk1.keep hb2
  obtain ⟨c0, c1⟩ := HE.out _ Hk.out
  obtain ⟨c2, c3⟩ := HE.out _ hk1
  obtain ⟨c4, c5⟩ := HE.out _ hk2
  have Hb2 := Lib.hid (hb1.trans (hb2.mono hb1.size)); clear hk2 hk1 hb1 hb2
  cases b with
  | false =>
    simp only [Bool.false_eq_true, if_false] at H1 H2
    go_enter Tryd.func36, Tryd.ntmps36
    go_wp2_with fail
    obtain ⟨W, hW⟩ : ∃ W : World, W = (((w.alloc (.cells #[.int .u8 (op : Int), .int .u8 (a : Int)] 48)).alloc (.cells #[.string ⟨#[]⟩, .string ⟨#[]⟩] 74)).alloc (.cells #[.string P, .string Q] 74)) := ⟨_, rfl⟩
    have s1 : (w.alloc (.cells #[.int .u8 (op : Int), .int .u8 (a : Int)] 48)).heap.size = w.heap.size + 1 := alloc_size _ _
    have s2 : ((w.alloc (.cells #[.int .u8 (op : Int), .int .u8 (a : Int)] 48)).alloc (.cells #[.string ⟨#[]⟩, .string ⟨#[]⟩] 74)).heap.size = w.heap.size + 1 + 1 := by rw [alloc_size, s1]
    have hb3 : Below w.heap.size w W := by rw [hW]; exact below_new Hb2.out (by omega) _
    have hr1 : W.heap[w.heap.size + 1]? = some (.cells #[.string ⟨#[]⟩, .string ⟨#[]⟩] 74 (0, 0)) := by rw [hW]; exact row_alloc (alloc_at s1.symm) _
    have hr2 : W.heap[w.heap.size + 1 + 1]? = some (.cells #[.string P, .string Q] 74 (0, 0)) := by rw [hW]; exact alloc_at s2.symm
    clear s1 s2
    have hkW : Kn W := Hk.out.past2 hb3
    rw [← hW]
    clear hW c0 c1 c2 c3 c4 c5
    have e0 : ∀ z : World, z.heap[w.heap.size + 1 + 1]? = some (.cells #[.string P, .string Q] 74 (0, 0)) → z.cell? ⟨w.heap.size + 1 + 1, 0, none⟩ = some (.string P) ∧ z.cell? ⟨w.heap.size + 1 + 1, 1, none⟩ = some (.string Q) := fun z hz => ⟨by rw [cell_of_row _ _ 0 _ _ _ hz]; rfl, by rw [cell_of_row _ _ 1 _ _ _ hz]; rfl⟩
    refine wp_region_text [0, 1, 2, 4, 5, 6] [3, 7, 8] [9] (by kernel_rfl) (by kernel_rfl) (fun z => z.cell? ⟨w.heap.size + 1 + 1, 0, none⟩ = some (.string P) ∧ z.cell? ⟨w.heap.size + 1 + 1, 1, none⟩ = some (.string Q)) (e0 W.drew hr2) ?_
    simp only [pick, List.filterMap_cons, List.filterMap_nil, List.getElem?_toArray, List.getElem?_cons_zero, List.getElem?_cons_succ]
    refine take_one (.pointer (some ⟨w.heap.size + 1 + 1, 0, none⟩)) rfl (fun u _ => by go_simp) ?_
    simp only [Act.put, List.setIfInBounds_toArray, List.set_cons_zero, List.set_cons_succ]
    refine take_load 9 (.tmp 12) ⟨w.heap.size + 1 + 1, 0, none⟩ (.string P) rfl rfl rfl (fun u hu => load_at Tryd.underlying9 Tryd.isAgg9 hu.1) ?_
    simp only [Act.put, List.setIfInBounds_toArray, List.set_cons_zero, List.set_cons_succ]
    refine take_move (.tmp 3) (.string (Ver.kb [84])) rfl rfl rfl ?_
    simp only [Act.put, List.setIfInBounds_toArray, List.set_cons_zero, List.set_cons_succ]
    refine take_one (.pointer (some ⟨w.heap.size + 1 + 1, 1, none⟩)) rfl (fun u _ => by go_simp) ?_
    simp only [Act.put, List.setIfInBounds_toArray, List.set_cons_zero, List.set_cons_succ]
    refine take_load 9 (.tmp 16) ⟨w.heap.size + 1 + 1, 1, none⟩ (.string Q) rfl rfl rfl (fun u hu => load_at Tryd.underlying9 Tryd.isAgg9 hu.2) ?_
    simp only [Act.put, List.setIfInBounds_toArray, List.set_cons_zero, List.set_cons_succ]
    refine take_move (.tmp 3) (.string (Ver.kb [84])) rfl rfl rfl ?_
    simp only [Act.put, List.setIfInBounds_toArray, List.set_cons_zero, List.set_cons_succ]
    refine take_done ?_
    have hkd : Kn W.drew := hkW.drew
    have hrd : W.drew.heap[w.heap.size + 1 + 1]? = some (.cells #[.string P, .string Q] 74 (0, 0)) := hr2
    have hr1d : W.drew.heap[w.heap.size + 1]? = some (.cells #[.string ⟨#[]⟩, .string ⟨#[]⟩] 74 (0, 0)) := hr1
    have hbd : Below w.heap.size w W.drew := hb3.drew
    refine mid_wp rfl (call_wp 46 [.tmp 13, .const (.string ⟨#[82]⟩), .tmp 14] #[9, 9, 9] #[.string P, .string ⟨#[82]⟩, .string (Ver.kb [84])] rfl rfl rfl ?_)
    refine (H1.out _ hkd).mono ?_; rintro e w1 ⟨rfl, h1⟩
    have hk1 := hkd.keep h1
    have hrw1 := row_below hrd h1 (row_lt hrd)
    have hr11 := row_below hr1d h1 (row_lt hr1d)
    have hb1 := hbd.trans (h1.mono hbd.size)
    refine ⟨_, rfl, e0 _ hrw1, ?_⟩
    simp only [Act.put, List.setIfInBounds_toArray, List.set_cons_zero, List.set_cons_succ]
    refine mid_wp rfl (call_wp 46 [.tmp 17, .const (.string ⟨#[82]⟩), .tmp 18] #[9, 9, 9] #[.string Q, .string ⟨#[82]⟩, .string (Ver.kb [84])] rfl rfl rfl ?_)
    refine (H2.out _ hk1).mono ?_; rintro e w2 ⟨rfl, h2⟩
    have hrw2 := row_below hrw1 h2 (row_lt hrw1)
    have hr12 := row_below hr11 h2 (row_lt hr11)
    have hb2 := hb1.trans (h2.mono hb1.size)
    refine ⟨_, rfl, e0 _ hrw2, ?_⟩
    simp only [Act.put, List.setIfInBounds_toArray, List.set_cons_zero, List.set_cons_succ]
    refine mid_one (.agg #[.string P', .string Q']) rfl (run_build_at 74 [(0, .tmp 15), (1, .tmp 19)] rfl (build_eff P' Q' w2)) (e0 _ hrw2) ?_
    simp only [Act.put, List.setIfInBounds_toArray, List.set_cons_zero, List.set_cons_succ]
    refine mid_list ?_
    have d0 : w2.cell? ⟨w.heap.size + 1, 0, none⟩ = some (.string ⟨#[]⟩) := by rw [cell_of_row _ _ 0 _ _ _ hr12]; rfl
    have d1 : w2.cell? ⟨w.heap.size + 1, 1, none⟩ = some (.string ⟨#[]⟩) := by rw [cell_of_row _ _ 1 _ _ _ hr12]; rfl
    have f0 := row_free hr12 0
    have f1 := row_free hr12 1
    have Hb := Lib.hid hb2; clear hb2 hb1 hbd hb3 h1 h2
    have Hr := Lib.hid hr12; clear hr12 hr11 hr1d hr1 hrw2 hrw1 hrd hr2 hk1 hkd hkW
    go_wp2_with fail
    refine NoPanic.normal ?_
    go_wp2_with fail
    refine bodyPost_ret (results_cell_row (p := 2) (ty := 74) rfl _ _ (w.heap.size + 1) _ _ _ _ rfl (set_two Hr.out) Tryd.underlying74 rfl (by kernel_rfl)) rfl ?_
    exact ⟨rfl, (Hb.out.setCell (show w.heap.size ≤ w.heap.size + 1 by omega) _).setCell (show w.heap.size ≤ w.heap.size + 1 by omega) _⟩
  | true =>
    simp only [if_true] at H1 H2
    go_enter Tryd.func36, Tryd.ntmps36
    go_wp2_with fail
    obtain ⟨W, hW⟩ : ∃ W : World, W = (((w.alloc (.cells #[.int .u8 (op : Int), .int .u8 (a : Int)] 48)).alloc (.cells #[.string ⟨#[]⟩, .string ⟨#[]⟩] 74)).alloc (.cells #[.string P, .string Q] 74)) := ⟨_, rfl⟩
    have s1 : (w.alloc (.cells #[.int .u8 (op : Int), .int .u8 (a : Int)] 48)).heap.size = w.heap.size + 1 := alloc_size _ _
    have s2 : ((w.alloc (.cells #[.int .u8 (op : Int), .int .u8 (a : Int)] 48)).alloc (.cells #[.string ⟨#[]⟩, .string ⟨#[]⟩] 74)).heap.size = w.heap.size + 1 + 1 := by rw [alloc_size, s1]
    have hb3 : Below w.heap.size w W := by rw [hW]; exact below_new Hb2.out (by omega) _
    have hr1 : W.heap[w.heap.size + 1]? = some (.cells #[.string ⟨#[]⟩, .string ⟨#[]⟩] 74 (0, 0)) := by rw [hW]; exact row_alloc (alloc_at s1.symm) _
    have hr2 : W.heap[w.heap.size + 1 + 1]? = some (.cells #[.string P, .string Q] 74 (0, 0)) := by rw [hW]; exact alloc_at s2.symm
    clear s1 s2
    have hkW : Kn W := Hk.out.past2 hb3
    rw [← hW]
    clear hW c0 c1 c2 c3 c4 c5
    have e0 : ∀ z : World, z.heap[w.heap.size + 1 + 1]? = some (.cells #[.string P, .string Q] 74 (0, 0)) → z.cell? ⟨w.heap.size + 1 + 1, 0, none⟩ = some (.string P) ∧ z.cell? ⟨w.heap.size + 1 + 1, 1, none⟩ = some (.string Q) := fun z hz => ⟨by rw [cell_of_row _ _ 0 _ _ _ hz]; rfl, by rw [cell_of_row _ _ 1 _ _ _ hz]; rfl⟩
    refine wp_region_text [0, 1, 2, 4, 5, 6] [3, 7, 8] [9] (by kernel_rfl) (by kernel_rfl) (fun z => z.cell? ⟨w.heap.size + 1 + 1, 0, none⟩ = some (.string P) ∧ z.cell? ⟨w.heap.size + 1 + 1, 1, none⟩ = some (.string Q)) (e0 W.drew hr2) ?_
    simp only [pick, List.filterMap_cons, List.filterMap_nil, List.getElem?_toArray, List.getElem?_cons_zero, List.getElem?_cons_succ]
    refine take_one (.pointer (some ⟨w.heap.size + 1 + 1, 0, none⟩)) rfl (fun u _ => by go_simp) ?_
    simp only [Act.put, List.setIfInBounds_toArray, List.set_cons_zero, List.set_cons_succ]
    refine take_load 9 (.tmp 12) ⟨w.heap.size + 1 + 1, 0, none⟩ (.string P) rfl rfl rfl (fun u hu => load_at Tryd.underlying9 Tryd.isAgg9 hu.1) ?_
    simp only [Act.put, List.setIfInBounds_toArray, List.set_cons_zero, List.set_cons_succ]
    refine take_move (.tmp 3) (.string (Ver.kb [78])) rfl rfl rfl ?_
    simp only [Act.put, List.setIfInBounds_toArray, List.set_cons_zero, List.set_cons_succ]
    refine take_one (.pointer (some ⟨w.heap.size + 1 + 1, 1, none⟩)) rfl (fun u _ => by go_simp) ?_
    simp only [Act.put, List.setIfInBounds_toArray, List.set_cons_zero, List.set_cons_succ]
    refine take_load 9 (.tmp 16) ⟨w.heap.size + 1 + 1, 1, none⟩ (.string Q) rfl rfl rfl (fun u hu => load_at Tryd.underlying9 Tryd.isAgg9 hu.2) ?_
    simp only [Act.put, List.setIfInBounds_toArray, List.set_cons_zero, List.set_cons_succ]
    refine take_move (.tmp 3) (.string (Ver.kb [78])) rfl rfl rfl ?_
    simp only [Act.put, List.setIfInBounds_toArray, List.set_cons_zero, List.set_cons_succ]
    refine take_done ?_
    have hkd : Kn W.drew := hkW.drew
    have hrd : W.drew.heap[w.heap.size + 1 + 1]? = some (.cells #[.string P, .string Q] 74 (0, 0)) := hr2
    have hr1d : W.drew.heap[w.heap.size + 1]? = some (.cells #[.string ⟨#[]⟩, .string ⟨#[]⟩] 74 (0, 0)) := hr1
    have hbd : Below w.heap.size w W.drew := hb3.drew
    refine mid_wp rfl (call_wp 46 [.tmp 13, .const (.string ⟨#[82]⟩), .tmp 14] #[9, 9, 9] #[.string P, .string ⟨#[82]⟩, .string (Ver.kb [78])] rfl rfl rfl ?_)
    refine (H1.out _ hkd).mono ?_; rintro e w1 ⟨rfl, h1⟩
    have hk1 := hkd.keep h1
    have hrw1 := row_below hrd h1 (row_lt hrd)
    have hr11 := row_below hr1d h1 (row_lt hr1d)
    have hb1 := hbd.trans (h1.mono hbd.size)
    refine ⟨_, rfl, e0 _ hrw1, ?_⟩
    simp only [Act.put, List.setIfInBounds_toArray, List.set_cons_zero, List.set_cons_succ]
    refine mid_wp rfl (call_wp 46 [.tmp 17, .const (.string ⟨#[82]⟩), .tmp 18] #[9, 9, 9] #[.string Q, .string ⟨#[82]⟩, .string (Ver.kb [78])] rfl rfl rfl ?_)
    refine (H2.out _ hk1).mono ?_; rintro e w2 ⟨rfl, h2⟩
    have hrw2 := row_below hrw1 h2 (row_lt hrw1)
    have hr12 := row_below hr11 h2 (row_lt hr11)
    have hb2 := hb1.trans (h2.mono hb1.size)
    refine ⟨_, rfl, e0 _ hrw2, ?_⟩
    simp only [Act.put, List.setIfInBounds_toArray, List.set_cons_zero, List.set_cons_succ]
    refine mid_one (.agg #[.string P', .string Q']) rfl (run_build_at 74 [(0, .tmp 15), (1, .tmp 19)] rfl (build_eff P' Q' w2)) (e0 _ hrw2) ?_
    simp only [Act.put, List.setIfInBounds_toArray, List.set_cons_zero, List.set_cons_succ]
    refine mid_list ?_
    have d0 : w2.cell? ⟨w.heap.size + 1, 0, none⟩ = some (.string ⟨#[]⟩) := by rw [cell_of_row _ _ 0 _ _ _ hr12]; rfl
    have d1 : w2.cell? ⟨w.heap.size + 1, 1, none⟩ = some (.string ⟨#[]⟩) := by rw [cell_of_row _ _ 1 _ _ _ hr12]; rfl
    have f0 := row_free hr12 0
    have f1 := row_free hr12 1
    have Hb := Lib.hid hb2; clear hb2 hb1 hbd hb3 h1 h2
    have Hr := Lib.hid hr12; clear hr12 hr11 hr1d hr1 hrw2 hrw1 hrd hr2 hk1 hkd hkW
    go_wp2_with fail
    refine NoPanic.normal ?_
    go_wp2_with fail
    refine bodyPost_ret (results_cell_row (p := 2) (ty := 74) rfl _ _ (w.heap.size + 1) _ _ _ _ rfl (set_two Hr.out) Tryd.underlying74 rfl (by kernel_rfl)) rfl ?_
    exact ⟨rfl, (Hb.out.setCell (show w.heap.size ≤ w.heap.size + 1 by omega) _).setCell (show w.heap.size ≤ w.heap.size + 1 by omega) _⟩
end Go.Proofs.YtolldoclnfnceaaDoor
