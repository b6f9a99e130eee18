/-
  What an instruction may name; whether it may stand among the open blocks; what is wrong at the end.
-/
import Derived.Test.YtolldoclnfnceaaDoorVerSmall
set_option linter.unusedVariables false
set_option maxRecDepth 100000
namespace Go.Proofs.YtolldoclnfnceaaDoor
open Go.RowKit

namespace Ver
theorem known_not {nt role op a : Nat} (h1 : op ≠ 1) (h3 : op ≠ 3) (h17 : op ≠ 17) (h18 : op ≠ 18) (h23 : op ≠ 23) : known nt role op a = 0 := by
  unfold known
  split <;> first | rfl | exact absurd rfl (by assumption)
theorem nests_not {bl : List Blk} {op : Nat} (h1 : op ≠ 19) (h3 : op ≠ 20) (h17 : op ≠ 21) (h18 : op ≠ 22) : nests bl op = true := by
  unfold nests
  split <;> first | rfl | exact absurd rfl (by assumption)
end Ver
set_option maxHeartbeats 2000000 in
theorem known_any {B q g n nt role : Nat} {bv kv : Value} {S : Ver.St} {w : World} (h : VAt B q g n nt role bv kv S w) (op a : Nat) (ha : a < 256) :
    Calls Tryd.prog 34 #[.pointer (some ⟨q, 0, none⟩), .agg #[.int .u8 (op : Int), .int .u8 (a : Int)]] w fun e w' => e = .returned (.int .i64 (Ver.known nt role op a : Nat)) ∧ Below w.heap.size w w' := by
  have hb := obj_below w (.cells #[.int .u8 (op : Int), .int .u8 (a : Int)] 48)
  have c3 : w.cell? ⟨q, 3, none⟩ = some (.int .u8 (role : Int)) := h.c 3
  have c4 : w.cell? ⟨q, 4, none⟩ = some (.int .i64 (nt : Int)) := h.c 4
  have hC := fun u (hu : Below w.heap.size w u) => h.new hu
  have HC := Lib.hid hC; clear hC
  have hwa : wrap64 (a : Int) = (a : Int) := by unfold wrap64; omega
  have Hb := Lib.hid hb; clear hb h
  by_cases h1 : op = 1
  · subst h1
    show Calls _ _ _ _ fun e w' => e = .returned (.int .i64 ((if nt ≤ a then 3 else 0 : Nat) : Int)) ∧ _
    by_cases hc : nt ≤ a
    · have d1 : decide ((a : Int) < (nt : Int)) = false := decide_eq_false (by omega)
      have d2 : ¬ (a : Int) < (nt : Int) := by omega
      have d3 : decide (a < nt) = false := decide_eq_false (by omega)
      rw [if_pos hc]
      have c3' : (w.alloc (.cells #[.int .u8 1, .int .u8 (a : Int)] 48)).cell? ⟨q, 3, none⟩ = some (.int .u8 (role : Int)) := (HC.out _ (obj_below w _)).c 3
      have c4' : (w.alloc (.cells #[.int .u8 1, .int .u8 (a : Int)] 48)).cell? ⟨q, 4, none⟩ = some (.int .i64 (nt : Int)) := (HC.out _ (obj_below w _)).c 4
      go_enter Tryd.func34, Tryd.ntmps34
      go_wp2_with fail
      go_ret
      exact ⟨rfl, Hb.out⟩
    · have d1 : decide ((a : Int) < (nt : Int)) = true := decide_eq_true (by omega)
      have d2 : (a : Int) < (nt : Int) := by omega
      have d3 : decide (a < nt) = true := decide_eq_true (by omega)
      rw [if_neg hc]
      have c3' : (w.alloc (.cells #[.int .u8 1, .int .u8 (a : Int)] 48)).cell? ⟨q, 3, none⟩ = some (.int .u8 (role : Int)) := (HC.out _ (obj_below w _)).c 3
      have c4' : (w.alloc (.cells #[.int .u8 1, .int .u8 (a : Int)] 48)).cell? ⟨q, 4, none⟩ = some (.int .i64 (nt : Int)) := (HC.out _ (obj_below w _)).c 4
      go_enter Tryd.func34, Tryd.ntmps34
      go_wp2_with fail
      go_ret
      exact ⟨rfl, Hb.out⟩
  by_cases h3 : op = 3
  · subst h3
    have hin := fun u => inputs_any role u
    show Calls _ _ _ _ fun e w' => e = .returned (.int .i64 ((if Ver.inputs role ≤ a then 3 else 0 : Nat) : Int)) ∧ _
    generalize Ver.inputs role = N at *
    by_cases hc : N ≤ a
    · have d1 : decide ((a : Int) < (N : Int)) = false := decide_eq_false (by omega)
      have d2 : ¬ (a : Int) < (N : Int) := by omega
      have d3 : decide (a < N) = false := decide_eq_false (by omega)
      rw [if_pos hc]
      have c3' : (w.alloc (.cells #[.int .u8 3, .int .u8 (a : Int)] 48)).cell? ⟨q, 3, none⟩ = some (.int .u8 (role : Int)) := (HC.out _ (obj_below w _)).c 3
      have c4' : (w.alloc (.cells #[.int .u8 3, .int .u8 (a : Int)] 48)).cell? ⟨q, 4, none⟩ = some (.int .i64 (nt : Int)) := (HC.out _ (obj_below w _)).c 4
      go_enter Tryd.func34, Tryd.ntmps34
      go_wp2_with fail
      refine (hin _).mono ?_; rintro e w1 ⟨rfl, rfl⟩
      go_wp2_with fail
      go_ret
      exact ⟨rfl, Hb.out⟩
    · have d1 : decide ((a : Int) < (N : Int)) = true := decide_eq_true (by omega)
      have d2 : (a : Int) < (N : Int) := by omega
      have d3 : decide (a < N) = true := decide_eq_true (by omega)
      rw [if_neg hc]
      have c3' : (w.alloc (.cells #[.int .u8 3, .int .u8 (a : Int)] 48)).cell? ⟨q, 3, none⟩ = some (.int .u8 (role : Int)) := (HC.out _ (obj_below w _)).c 3
      have c4' : (w.alloc (.cells #[.int .u8 3, .int .u8 (a : Int)] 48)).cell? ⟨q, 4, none⟩ = some (.int .i64 (nt : Int)) := (HC.out _ (obj_below w _)).c 4
      go_enter Tryd.func34, Tryd.ntmps34
      go_wp2_with fail
      refine (hin _).mono ?_; rintro e w1 ⟨rfl, rfl⟩
      go_wp2_with fail
      go_ret
      exact ⟨rfl, Hb.out⟩
  by_cases h17 : op = 17
  · subst h17
    show Calls _ _ _ _ fun e w' => e = .returned (.int .i64 ((if 8 ≤ a then 3 else 0 : Nat) : Int)) ∧ _
    by_cases hc : 8 ≤ a
    · have d1 : decide ((a : Int) < 8) = false := decide_eq_false (by omega)
      have d2 : ¬ (a : Int) < 8 := by omega
      have d3 : decide (a < 8) = false := decide_eq_false (by omega)
      rw [if_pos hc]
      have c3' : (w.alloc (.cells #[.int .u8 17, .int .u8 (a : Int)] 48)).cell? ⟨q, 3, none⟩ = some (.int .u8 (role : Int)) := (HC.out _ (obj_below w _)).c 3
      have c4' : (w.alloc (.cells #[.int .u8 17, .int .u8 (a : Int)] 48)).cell? ⟨q, 4, none⟩ = some (.int .i64 (nt : Int)) := (HC.out _ (obj_below w _)).c 4
      go_enter Tryd.func34, Tryd.ntmps34
      go_wp2_with fail
      go_ret
      exact ⟨rfl, Hb.out⟩
    · have d1 : decide ((a : Int) < 8) = true := decide_eq_true (by omega)
      have d2 : (a : Int) < 8 := by omega
      have d3 : decide (a < 8) = true := decide_eq_true (by omega)
      rw [if_neg hc]
      have c3' : (w.alloc (.cells #[.int .u8 17, .int .u8 (a : Int)] 48)).cell? ⟨q, 3, none⟩ = some (.int .u8 (role : Int)) := (HC.out _ (obj_below w _)).c 3
      have c4' : (w.alloc (.cells #[.int .u8 17, .int .u8 (a : Int)] 48)).cell? ⟨q, 4, none⟩ = some (.int .i64 (nt : Int)) := (HC.out _ (obj_below w _)).c 4
      go_enter Tryd.func34, Tryd.ntmps34
      go_wp2_with fail
      go_ret
      exact ⟨rfl, Hb.out⟩
  by_cases h18 : op = 18
  · subst h18
    show Calls _ _ _ _ fun e w' => e = .returned (.int .i64 ((if 8 ≤ a then 3 else 0 : Nat) : Int)) ∧ _
    by_cases hc : 8 ≤ a
    · have d1 : decide ((a : Int) < 8) = false := decide_eq_false (by omega)
      have d2 : ¬ (a : Int) < 8 := by omega
      have d3 : decide (a < 8) = false := decide_eq_false (by omega)
      rw [if_pos hc]
      have c3' : (w.alloc (.cells #[.int .u8 18, .int .u8 (a : Int)] 48)).cell? ⟨q, 3, none⟩ = some (.int .u8 (role : Int)) := (HC.out _ (obj_below w _)).c 3
      have c4' : (w.alloc (.cells #[.int .u8 18, .int .u8 (a : Int)] 48)).cell? ⟨q, 4, none⟩ = some (.int .i64 (nt : Int)) := (HC.out _ (obj_below w _)).c 4
      go_enter Tryd.func34, Tryd.ntmps34
      go_wp2_with fail
      go_ret
      exact ⟨rfl, Hb.out⟩
    · have d1 : decide ((a : Int) < 8) = true := decide_eq_true (by omega)
      have d2 : (a : Int) < 8 := by omega
      have d3 : decide (a < 8) = true := decide_eq_true (by omega)
      rw [if_neg hc]
      have c3' : (w.alloc (.cells #[.int .u8 18, .int .u8 (a : Int)] 48)).cell? ⟨q, 3, none⟩ = some (.int .u8 (role : Int)) := (HC.out _ (obj_below w _)).c 3
      have c4' : (w.alloc (.cells #[.int .u8 18, .int .u8 (a : Int)] 48)).cell? ⟨q, 4, none⟩ = some (.int .i64 (nt : Int)) := (HC.out _ (obj_below w _)).c 4
      go_enter Tryd.func34, Tryd.ntmps34
      go_wp2_with fail
      go_ret
      exact ⟨rfl, Hb.out⟩
  by_cases h23 : op = 23
  · subst h23
    show Calls _ _ _ _ fun e w' => e = .returned (.int .i64 ((if role = 1 then 0 else 133 : Nat) : Int)) ∧ _
    by_cases hc : role = 1
    · subst hc
      rw [if_pos rfl]
      have c3' : (w.alloc (.cells #[.int .u8 23, .int .u8 (a : Int)] 48)).cell? ⟨q, 3, none⟩ = some (.int .u8 1) := (HC.out _ (obj_below w _)).c 3
      have c4' : (w.alloc (.cells #[.int .u8 23, .int .u8 (a : Int)] 48)).cell? ⟨q, 4, none⟩ = some (.int .i64 (nt : Int)) := (HC.out _ (obj_below w _)).c 4
      go_enter Tryd.func34, Tryd.ntmps34
      go_wp2_with fail
      go_ret
      exact ⟨rfl, Hb.out⟩
    · have d1 : ((role : Int) != 1) = true := bne_iff_ne.2 (by omega)
      have d2 : ((role : Int) == 1) = false := beq_eq_false_iff_ne.2 (by omega)
      rw [if_neg hc]
      have c3' : (w.alloc (.cells #[.int .u8 23, .int .u8 (a : Int)] 48)).cell? ⟨q, 3, none⟩ = some (.int .u8 (role : Int)) := (HC.out _ (obj_below w _)).c 3
      have c4' : (w.alloc (.cells #[.int .u8 23, .int .u8 (a : Int)] 48)).cell? ⟨q, 4, none⟩ = some (.int .i64 (nt : Int)) := (HC.out _ (obj_below w _)).c 4
      go_enter Tryd.func34, Tryd.ntmps34
      go_wp2_with fail
      go_ret
      exact ⟨rfl, Hb.out⟩
  rw [Ver.known_not h1 h3 h17 h18 h23]
  have d1 : ((op : Int) == 1) = false := beq_eq_false_iff_ne.2 (by omega)
  have d3 : ((op : Int) == 3) = false := beq_eq_false_iff_ne.2 (by omega)
  have d17 : ((op : Int) == 17) = false := beq_eq_false_iff_ne.2 (by omega)
  have d18 : ((op : Int) == 18) = false := beq_eq_false_iff_ne.2 (by omega)
  have d23 : ((op : Int) == 23) = false := beq_eq_false_iff_ne.2 (by omega)
  have c3' : (w.alloc (.cells #[.int .u8 (op : Int), .int .u8 (a : Int)] 48)).cell? ⟨q, 3, none⟩ = some (.int .u8 (role : Int)) := (HC.out _ (obj_below w _)).c 3
  have c4' : (w.alloc (.cells #[.int .u8 (op : Int), .int .u8 (a : Int)] 48)).cell? ⟨q, 4, none⟩ = some (.int .i64 (nt : Int)) := (HC.out _ (obj_below w _)).c 4
  go_enter Tryd.func34, Tryd.ntmps34
  go_wp2_with fail
  go_ret
  exact ⟨rfl, Hb.out⟩

set_option maxHeartbeats 2000000 in
theorem nests_any {B q g n nt role : Nat} {bv kv : Value} {S : Ver.St} {w : World} (h : VAt B q g n nt role bv kv S w) (op : Nat) :
    Calls Tryd.prog 35 #[.pointer (some ⟨q, 0, none⟩), .int .u8 (op : Int)] w fun e w' => e = .returned (.bool (Ver.nests S.bl op)) ∧ Below w.heap.size w w' := by
  have c6 : w.cell? ⟨q, 6, none⟩ = some kv := h.c 6
  obtain ⟨a, cap, rfl⟩ := h.blk.form
  have hl := Ver.pbs_length S.bl
  rw [hl] at c6
  have hn := h.ok.nb
  have H := Lib.hid h; clear h hl
  obtain ⟨L, hL⟩ : ∃ L, L = S.bl.length := ⟨_, rfl⟩
  rw [← hL] at c6 hn
  by_cases h19 : op = 19
  · subst h19
    show Calls _ _ _ _ fun e w' => e = .returned (.bool (decide (S.bl.length < 8))) ∧ _
    rw [← hL]
    have HL := Lib.hid hL; clear hL
    by_cases hc : L < 8
    · have d1 : decide ((L : Int) < 8) = true := decide_eq_true (by omega)
      have d2 : (L : Int) < 8 := by omega
      rw [decide_eq_true hc]
      go_enter Tryd.func35, Tryd.ntmps35
      go_wp2_with fail
      go_ret
      exact ⟨rfl, Below.refl _ _⟩
    · have d1 : decide ((L : Int) < 8) = false := decide_eq_false (by omega)
      have d2 : ¬ (L : Int) < 8 := by omega
      rw [decide_eq_false hc]
      go_enter Tryd.func35, Tryd.ntmps35
      go_wp2_with fail
      go_ret
      exact ⟨rfl, Below.refl _ _⟩
  by_cases h22 : op = 22
  · subst h22
    show Calls _ _ _ _ fun e w' => e = .returned (.bool (decide (S.bl.length < 8))) ∧ _
    rw [← hL]
    have HL := Lib.hid hL; clear hL
    by_cases hc : L < 8
    · have d1 : decide ((L : Int) < 8) = true := decide_eq_true (by omega)
      have d2 : (L : Int) < 8 := by omega
      rw [decide_eq_true hc]
      go_enter Tryd.func35, Tryd.ntmps35
      go_wp2_with fail
      go_ret
      exact ⟨rfl, Below.refl _ _⟩
    · have d1 : decide ((L : Int) < 8) = false := decide_eq_false (by omega)
      have d2 : ¬ (L : Int) < 8 := by omega
      rw [decide_eq_false hc]
      go_enter Tryd.func35, Tryd.ntmps35
      go_wp2_with fail
      go_ret
      exact ⟨rfl, Below.refl _ _⟩
  by_cases h20 : op = 20
  · subst h20
    cases hbl : S.bl with
    | nil =>
      rw [hbl] at hL
      obtain rfl : L = 0 := hL
      show Calls _ _ _ _ fun e w' => e = .returned (.bool false) ∧ _
      go_enter Tryd.func35, Tryd.ntmps35
      go_wp2_with fail
      go_ret
      exact ⟨rfl, Below.refl _ _⟩
    | cons b l =>
      rw [hbl] at hL
      obtain rfl : L = l.length + 1 := hL
      obtain ⟨bb, cap', e1, _, _, hcl⟩ := H.out.inner hbl
      have ct := (hcl 0 _ rfl).1
      rw [Nat.add_zero] at ct
      simp only [Value.slice.injEq] at e1
      obtain ⟨rfl, _, rfl⟩ := e1
      clear hcl
      have hop : b.pb.op = if b.did then 20 else b.op := rfl
      rw [hop] at ct
      show Calls _ _ _ _ fun e w' => e = .returned (.bool (b.op == 19 && !b.did)) ∧ _
      obtain ⟨t, ht⟩ : ∃ t, t = l.length := ⟨_, rfl⟩
      rw [← ht] at ct c6 hn
      have HT := Lib.hid ht
      clear ht hop
      have ho := H.out.ok.op_ b (by rw [hbl]; exact List.mem_cons_self ..)
      obtain ⟨o, hoe⟩ : ∃ o, o = if b.did then 20 else b.op := ⟨_, rfl⟩
      rw [← hoe] at ct
      have hR : (b.op == 19 && !b.did) = decide (o = 19) := by
        rw [hoe]
        cases b.did
        · simp only [Bool.not_false, Bool.and_true, Bool.false_eq_true, if_false]
          rw [Bool.eq_iff_iff, beq_iff_eq, decide_eq_true_iff]
        · simp
      rw [hR]
      clear hR hoe hbl
      have T1 := fun u => top_any bb t cap (by omega) u
      have HT1 := Lib.hid T1; clear T1
      have d1 : (0 : Int) < ((t + 1 : Nat) : Int) := by omega
      have d2 : decide ((0 : Int) < ((t + 1 : Nat) : Int)) = true := decide_eq_true d1
      by_cases hc : o = 19
      · subst hc
        go_enter Tryd.func35, Tryd.ntmps35
        go_wp2_with fail
        refine (HT1.out _).mono ?_; rintro e w1 ⟨rfl, rfl⟩
        go_wp2_with fail
        go_ret
        exact ⟨rfl, Below.refl _ _⟩
      · have d3 : ((o : Int) == 19) = false := beq_eq_false_iff_ne.2 (by omega)
        rw [decide_eq_false hc]
        go_enter Tryd.func35, Tryd.ntmps35
        go_wp2_with fail
        refine (HT1.out _).mono ?_; rintro e w1 ⟨rfl, rfl⟩
        go_wp2_with fail
        go_ret
        exact ⟨rfl, Below.refl _ _⟩
  by_cases h21 : op = 21
  · subst h21
    cases hbl : S.bl with
    | nil =>
      rw [hbl] at hL
      obtain rfl : L = 0 := hL
      show Calls _ _ _ _ fun e w' => e = .returned (.bool false) ∧ _
      go_enter Tryd.func35, Tryd.ntmps35
      go_wp2_with fail
      go_ret
      exact ⟨rfl, Below.refl _ _⟩
    | cons b l =>
      rw [hbl] at hL
      obtain rfl : L = l.length + 1 := hL
      show Calls _ _ _ _ fun e w' => e = .returned (.bool true) ∧ _
      obtain ⟨t, ht⟩ : ∃ t, t = l.length := ⟨_, rfl⟩
      rw [← ht] at *
      clear ht
      have d1 : (0 : Int) < ((t + 1 : Nat) : Int) := by omega
      have d2 : decide ((0 : Int) < ((t + 1 : Nat) : Int)) = true := decide_eq_true d1
      go_enter Tryd.func35, Tryd.ntmps35
      go_wp2_with fail
      go_ret
      exact ⟨rfl, Below.refl _ _⟩
  rw [Ver.nests_not h19 h20 h21 h22]
  have d19 : ((op : Int) == 19) = false := beq_eq_false_iff_ne.2 (by omega)
  have d20 : ((op : Int) == 20) = false := beq_eq_false_iff_ne.2 (by omega)
  have d21 : ((op : Int) == 21) = false := beq_eq_false_iff_ne.2 (by omega)
  have d22 : ((op : Int) == 22) = false := beq_eq_false_iff_ne.2 (by omega)
  have HL := Lib.hid hL; clear hL
  go_enter Tryd.func35, Tryd.ntmps35
  go_wp2_with fail
  go_ret
  exact ⟨rfl, Below.refl _ _⟩

set_option maxHeartbeats 2000000 in
theorem finish_any {B q g n nt role : Nat} {bv kv : Value} {S : Ver.St} {w : World} (h : VAt B q g n nt role bv kv S w) :
    Calls Tryd.prog 27 #[.pointer (some ⟨q, 0, none⟩)] w fun e w' => e = .returned (.int .i64 (Ver.over role S : Nat)) ∧ Below w.heap.size w w' := by
  have c3 : w.cell? ⟨q, 3, none⟩ = some (.int .u8 (role : Int)) := h.c 3
  have c5 : w.cell? ⟨q, 5, none⟩ = some (.string (Ver.kb S.k)) := h.c 5
  have c6 : w.cell? ⟨q, 6, none⟩ = some kv := h.c 6
  obtain ⟨a, cap, rfl⟩ := h.blk.form
  rw [Ver.pbs_length S.bl] at c6
  have hn := h.ok.nb
  have hk := h.ok.nk
  have HLE := fun u => left_any role u
  have zk : (Ver.kb S.k).size = S.k.length := Ver.kb_size _
  have zl : (Ver.kb (leftK role)).size = Ver.want role := by
    rw [Ver.kb_size]
    unfold leftK Ver.want
    split <;> rfl
  have hov : Ver.over role S = if S.bl.length > 0 then 132 else if S.k.length ≠ Ver.want role then 130 else if S.k = leftK role then 0 else 131 := by
    unfold Ver.over
    by_cases e1 : S.bl.length > 0
    · rw [if_pos e1, if_pos e1]
    · rw [if_neg e1, if_neg e1]
      by_cases e2 : S.k.length ≠ Ver.want role
      · rw [if_pos e2, if_pos e2]
      · rw [if_neg e2, if_neg e2]
        have e3 : S.k.length = Ver.want role := Decidable.of_not_not e2
        unfold leftK Ver.want
        unfold Ver.want at e3
        by_cases r : role = 1
        · rw [if_pos r] at e3
          rw [if_pos r, if_pos r, if_neg (fun c => by cases c.1), if_pos (List.eq_nil_of_length_eq_zero e3)]
        · rw [if_neg r, if_neg r]
          by_cases e4 : S.k = [84]
          · rw [if_neg (fun c => c.2 e4), if_pos e4]
          · rw [if_pos ⟨rfl, e4⟩, if_neg e4]
  have hkk : (Ver.kb S.k).toList = S.k := Ver.kb_toList _
  have hll : (Ver.kb (leftK role)).toList = leftK role := Ver.kb_toList _
  rw [hov]
  clear hov h
  generalize S.bl.length = L at *
  generalize Ver.want role = V at *
  generalize S.k.length = M at *
  generalize S.k = k at *
  generalize leftK role = l at *
  generalize Ver.kb k = K at *
  generalize Ver.kb l = LE at *
  have H1 := Lib.hid HLE; clear HLE
  have HK := Lib.hid hkk; clear hkk
  have HL2 := Lib.hid hll; clear hll
  by_cases e1 : L > 0
  · have d1 : (0 : Int) < (L : Int) := by omega
    have d2 : decide ((0 : Int) < (L : Int)) = true := decide_eq_true d1
    rw [if_pos e1]
    go_enter Tryd.func27, Tryd.ntmps27
    go_wp2_with fail
    refine (H1.out _).mono ?_; rintro e w1 ⟨rfl, rfl⟩
    go_wp2_with fail
    go_ret
    exact ⟨rfl, Below.refl _ _⟩
  · obtain rfl : L = 0 := by omega
    rw [if_neg e1]
    by_cases e2 : M ≠ V
    · have d1 : ((M : Int) != (V : Int)) = true := bne_iff_ne.2 (by omega)
      have d2 : ((M : Int) == (V : Int)) = false := beq_eq_false_iff_ne.2 (by omega)
      rw [if_pos e2]
      go_enter Tryd.func27, Tryd.ntmps27
      go_wp2_with fail
      refine (H1.out _).mono ?_; rintro e w1 ⟨rfl, rfl⟩
      go_wp2_with fail
      go_ret
      exact ⟨rfl, Below.refl _ _⟩
    · obtain rfl : M = V := Decidable.of_not_not e2
      rw [if_neg e2]
      by_cases e3 : k = l
      · have d1 : (K.toList == LE.toList) = true := by rw [HK.out, HL2.out, beq_iff_eq]; exact e3
        rw [if_pos e3]
        go_enter Tryd.func27, Tryd.ntmps27
        go_wp2_with fail
        refine (H1.out _).mono ?_; rintro e w1 ⟨rfl, rfl⟩
        go_wp2_with fail
        go_ret
        exact ⟨rfl, Below.refl _ _⟩
      · have d1 : (K.toList == LE.toList) = false := by rw [HK.out, HL2.out, beq_eq_false_iff_ne]; exact e3
        rw [if_neg e3]
        go_enter Tryd.func27, Tryd.ntmps27
        go_wp2_with fail
        refine (H1.out _).mono ?_; rintro e w1 ⟨rfl, rfl⟩
        go_wp2_with fail
        go_ret
        exact ⟨rfl, Below.refl _ _⟩
end Go.Proofs.YtolldoclnfnceaaDoor
