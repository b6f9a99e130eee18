/-
  One instruction is processed: step.
-/
import Derived.Test.YtolldoclnfnceaaDoorVerTurn
set_option linter.unusedVariables false
set_option maxRecDepth 100000
namespace Go.Proofs.YtolldoclnfnceaaDoor
open Go.RowKit

namespace Ver
theorem ahead_ok {nt role op a : Nat} {bl : List Blk} (h : known nt role op a = 0) (h2 : nests bl op = true) : ahead nt role bl op a = 0 := by
  rw [ahead_is, if_neg (fun c => c h), if_pos h2]
theorem stp_known {nt role i op a : Nat} {s : St} (h : known nt role op a ≠ 0) : stp nt role i op a s = .error (known nt role op a) := by
  have h0 : ahead nt role s.bl op a = known nt role op a := by rw [ahead_is, if_pos h]
  unfold stp
  rw [h0, if_pos h]
theorem stp_nests {nt role i op a : Nat} {s : St} (h : known nt role op a = 0) (h2 : nests s.bl op = false) : stp nt role i op a s = .error 132 := by
  have h0 : ahead nt role s.bl op a = 132 := by rw [ahead_is, if_neg (fun c => c h), if_neg (by rw [h2]; decide)]
  unfold stp
  rw [h0, if_pos (by decide)]
theorem stp_few {nt role i op a : Nat} {s : St} (h : known nt role op a = 0) (h2 : nests s.bl op = true) (h3 : s.k.length < (pops op a).length) : stp nt role i op a s = .error 130 := by
  unfold stp
  rw [ahead_ok h h2, if_neg (fun c => c rfl)]
  have : wrong s.k op a = 130 := by unfold wrong; rw [takes_len, if_pos h3]
  rw [this, if_pos (by decide)]
theorem stp_kind {nt role i op a : Nat} {s : St} (h : known nt role op a = 0) (h2 : nests s.bl op = true) (h3 : ¬ s.k.length < (pops op a).length) (h4 : fitsP (pops op a) (s.k.drop (s.k.length - (pops op a).length)) = false) : stp nt role i op a s = .error 131 := by
  unfold stp
  rw [ahead_ok h h2, if_neg (fun c => c rfl)]
  have : wrong s.k op a = 131 := by unfold wrong; rw [takes_len, if_neg h3, takes_is, fits_is, if_pos h4]
  rw [this, if_pos (by decide)]
theorem left_len (k : List UInt8) (op a : Nat) (h3 : ¬ k.length < (pops op a).length) : (left_ k op a).length + more op = k.length - (pops op a).length + (pushes op a).length := by
  unfold left_
  have hd : (k.drop (k.length - (pops op a).length)).length = (pops op a).length := by rw [List.length_drop]; omega
  rw [takes_len, List.length_append, List.length_take, pushes_len op a _ hd]
  omega
theorem stp_many {nt role i op a : Nat} {s : St} (h : known nt role op a = 0) (h2 : nests s.bl op = true) (h3 : ¬ s.k.length < (pops op a).length) (h4 : fitsP (pops op a) (s.k.drop (s.k.length - (pops op a).length)) = true)
    (h5 : 16 < s.k.length - (pops op a).length + (pushes op a).length) : stp nt role i op a s = .error 130 := by
  unfold stp
  rw [ahead_ok h h2, if_neg (fun c => c rfl)]
  have : wrong s.k op a = 130 := by unfold wrong; rw [left_len _ _ _ h3, takes_len, if_neg h3, takes_is, fits_is, if_neg (by rw [h4]; decide), if_pos h5]
  rw [this, if_pos (by decide)]
/-- behind the tests: the block's turn, and what is pushed -/
theorem stp_go {nt role i op a : Nat} {s : St} (h : known nt role op a = 0) (h2 : nests s.bl op = true) (h3 : ¬ s.k.length < (pops op a).length) (h4 : fitsP (pops op a) (s.k.drop (s.k.length - (pops op a).length)) = true)
    (h5 : ¬ 16 < s.k.length - (pops op a).length + (pushes op a).length) : stp nt role i op a s = match tP i op { s with k := s.k.take (s.k.length - (pops op a).length) } with
      | .error c => .error c
      | .ok t => .ok { t with k := t.k ++ pushedP (pops op a) (pushes op a) (s.k.drop (s.k.length - (pops op a).length)) } := by
  unfold stp
  rw [ahead_ok h h2, if_neg (fun c => c rfl)]
  have hw : wrong s.k op a = 0 := by unfold wrong; rw [left_len _ _ _ h3, takes_len, if_neg h3, takes_is, fits_is, if_neg (by rw [h4]; decide), if_neg h5]
  rw [hw, if_neg (fun c => c rfl)]
  have hd : (s.k.drop (s.k.length - (pops op a).length)).length = (pops op a).length := by rw [List.length_drop]; omega
  by_cases e22 : op = 22
  · subst e22
    rw [tP_22]
    simp only
    rw [pushed_22, turn_22]
    have : left_ s.k 22 a = s.k.take (s.k.length - (pops 22 a).length) := by unfold left_; rw [takes_len, given_22, List.append_nil]
    rw [this]
  · have hl : left_ s.k op a = s.k.take (s.k.length - (pops op a).length) ++ pushedP (pops op a) (pushes op a) (s.k.drop (s.k.length - (pops op a).length)) := by
      unfold left_; rw [takes_len, given_is op a _ hd e22]
    unfold tP
    rw [if_neg e22]
    by_cases e19 : op = 19
    · subst e19
      have hp : pushedP (pops 19 a) (pushes 19 a) (s.k.drop (s.k.length - (pops 19 a).length)) = [] := rfl
      rw [hl, hp, List.append_nil, turn_19]
      simp
    by_cases e20 : op = 20
    · subst e20
      have hp : pushedP (pops 20 a) (pushes 20 a) (s.k.drop (s.k.length - (pops 20 a).length)) = [] := rfl
      rw [hl, hp, List.append_nil]
      cases hb : s.bl with
      | nil => rw [turn_20n i _ rfl]
      | cons b l => rw [turn_20 i _ b l rfl]; simp
    by_cases e21 : op = 21
    · subst e21
      have hp : pushedP (pops 21 a) (pushes 21 a) (s.k.drop (s.k.length - (pops 21 a).length)) = [] := rfl
      rw [hl, hp, List.append_nil]
      cases ht : turn i 21 { s with k := s.k.take (s.k.length - (pops 21 a).length) } with
      | error c => rfl
      | ok t => simp
    · rw [turn_no _ _ _ e19 e22 e20 e21, turn_no _ _ _ e19 e22 e20 e21, hl]
theorem tP_k {i op : Nat} {s t : St} (h : tP i op s = .ok t) : op = 20 ∨ t.k = s.k := by
  by_cases e22 : op = 22
  · subst e22; rw [tP_22] at h; cases h; exact .inr rfl
  unfold tP at h
  rw [if_neg e22] at h
  by_cases e20 : op = 20
  · exact .inl e20
  by_cases e19 : op = 19
  · subst e19; rw [turn_19] at h; cases h; exact .inr rfl
  by_cases e21 : op = 21
  · subst e21
    cases hb : s.bl with
    | nil => rw [turn_21n i s hb] at h; cases h
    | cons b l =>
      by_cases hk : s.k = (if b.did then b.kept else b.opn)
      · rw [turn_21 i s b l hb hk] at h; cases h; exact .inr rfl
      · rw [turn_21e i s b l hb hk] at h; cases h
  rw [turn_no i op s e19 e22 e20 e21] at h
  cases h; exact .inr rfl
theorem tP_err {i op c : Nat} {s : St} (h : tP i op s = .error c) : c = 132 := by
  by_cases e22 : op = 22
  · subst e22; rw [tP_22] at h; cases h
  unfold tP at h
  rw [if_neg e22] at h
  by_cases e20 : op = 20
  · subst e20
    cases hb : s.bl with
    | nil => rw [turn_20n i s hb] at h; cases h; rfl
    | cons b l => rw [turn_20 i s b l hb] at h; cases h
  by_cases e19 : op = 19
  · subst e19; rw [turn_19] at h; cases h
  by_cases e21 : op = 21
  · subst e21
    cases hb : s.bl with
    | nil => rw [turn_21n i s hb] at h; cases h; rfl
    | cons b l =>
      by_cases hk : s.k = (if b.did then b.kept else b.opn)
      · rw [turn_21 i s b l hb hk] at h; cases h
      · rw [turn_21e i s b l hb hk] at h; cases h; rfl
  rw [turn_no i op s e19 e22 e20 e21] at h
  cases h
theorem kb_drop (k : List UInt8) (r : Nat) (h : r ≤ k.length) : (kb k).extract r (kb k).size = kb (k.drop r) := by
  rw [kb_size]
  apply ByteArray.ext
  simp only [kb, ByteArray.data_extract]
  apply Array.ext'
  simp
  exact List.take_of_length_le (by simp)
theorem kb_take (k : List UInt8) (r : Nat) : (kb k).extract 0 r = kb (k.take r) := by
  apply ByteArray.ext
  simp [kb, ByteArray.data_extract]
theorem kb_app (k l : List UInt8) : kb k ++ kb l = kb (k ++ l) := cat_list k l
end Ver
section
variable {B q g n nt role : Nat} {bv kv : Value} {S : Ver.St} {w : World}
theorem load_eff {w : World} {b : Nat} {x y : ByteArray} (h : w.heap[b]? = some (.cells #[.string x, .string y] 74 (0, 0))) : (Instr.loadAt 74 (.pointer (some ⟨b, 0, none⟩))).run Tryd.prog w = .ok (.agg #[.string x, .string y]) w :=
  load_row w b 74 74 _ (0, 0) _ h Tryd.underlying74 rfl (by kernel_rfl)

set_option maxHeartbeats 4000000 in
theorem step_any (h : VAt B q g n nt role bv kv S w) (hk : Kn w) (i op a : Nat) (hi : i < n) (hn : n ≤ 256) (hop : op < 24) (ha : a < 256) :
    Calls Tryd.prog 26 #[.pointer (some ⟨q, 0, none⟩), .int .i64 (i : Int), .agg #[.int .u8 (op : Int), .int .u8 (a : Int)]] w (TurnR B q g n nt role bv kv w (Ver.stp nt role i op a S)) := by
  obtain ⟨E, hE⟩ : ∃ E, E = Ver.stp nt role i op a S := ⟨_, rfl⟩
  rw [← hE]
  have CK := fun u (k : VAt B q g n nt role bv kv S u) => known_any k op a ha
  have CN := fun u (k : VAt B q g n nt role bv kv S u) => nests_any k op
  have CE := fun u (k : Kn u) => effectOf_any op a hop ha u k
  have hb1 := obj_below w (.cells #[.int .u8 (op : Int), .int .u8 (a : Int)] 48)
  have hr1 : (w.alloc (.cells #[.int .u8 (op : Int), .int .u8 (a : Int)] 48)).heap[w.heap.size]? = some (.cells #[.int .u8 (op : Int), .int .u8 (a : Int)] 48 (0, 0)) := alloc_at rfl
  have h1 := h.new hb1
  have k1 := hk.keep hb1
  obtain ⟨W, hW⟩ : ∃ W, W = w.alloc (.cells #[.int .u8 (op : Int), .int .u8 (a : Int)] 48) := ⟨_, rfl⟩
  rw [← hW] at hb1 hr1 h1 k1
  have HW := Lib.hid hW
  have HE := Lib.hid hE; clear hE
  have HCK := Lib.hid CK; clear CK
  have HCN := Lib.hid CN; clear CN
  have HCE := Lib.hid CE; clear CE
  have H := Lib.hid h; clear h
  have x0 : W.cell? ⟨w.heap.size, 0, none⟩ = some (.int .u8 (op : Int)) := by rw [cell_at hr1]; rfl
  have x1 : W.cell? ⟨w.heap.size, 1, none⟩ = some (.int .u8 (a : Int)) := by rw [cell_at hr1]; rfl
  have Hb1 := Lib.hid hb1; clear hb1
  have Hr1 := Lib.hid hr1; clear hr1
  have H1 := Lib.hid h1; clear h1
  have K1 := Lib.hid k1; clear k1 hk
  obtain ⟨A, hA⟩ : ∃ A, A = Ver.known nt role op a := ⟨_, rfl⟩
  obtain ⟨N, hN⟩ : ∃ N, N = Ver.nests S.bl op := ⟨_, rfl⟩
  rw [← hA] at HCK
  rw [← hN] at HCN
  have HA := Lib.hid hA; clear hA
  have HN := Lib.hid hN; clear hN
  go_enter Tryd.func26, Tryd.ntmps26
  go_wp2_with fail
  rw [← hW]
  clear hW
  refine (HCK.out _ H1.out).mono ?_; rintro e w2 ⟨rfl, b2⟩
  have T2 := Turns.of_new (S := VT q g kv) (Hb1.out.trans (b2.mono Hb1.out.size))
  have hr2 := row_below Hr1.out b2 (row_lt Hr1.out)
  have h2 := H1.out.new b2
  have k2 := K1.out.keep b2
  have B2 := Lib.hid (Hb1.out.trans (b2.mono Hb1.out.size)); clear b2
  have y0 : w2.cell? ⟨w.heap.size, 0, none⟩ = some (.int .u8 (op : Int)) := by rw [cell_at hr2]; rfl
  have y1 : w2.cell? ⟨w.heap.size, 1, none⟩ = some (.int .u8 (a : Int)) := by rw [cell_at hr2]; rfl
  have Hr2 := Lib.hid hr2; clear hr2
  have H2 := Lib.hid h2; clear h2
  have K2 := Lib.hid k2; clear k2
  by_cases e1 : A = 0
  rotate_left
  · have d1 : ((A : Int) != 0) = true := bne_iff_ne.2 (by omega)
    have hr : E = .error A := by rw [HE.out, Ver.stp_known (by rw [← HA.out]; exact e1), HA.out]
    subst hr
    go_wp2_with fail
    go_ret
    exact TurnR.bad rfl T2
  subst e1
  clear T2
  go_wp2_with fail
  refine (HCN.out _ H2.out).mono ?_; rintro e w3 ⟨rfl, b3⟩
  have hr3 := row_below Hr2.out b3 (row_lt Hr2.out)
  have h3 := H2.out.new b3
  have k3 := K2.out.keep b3
  have B3 := Lib.hid (B2.out.trans (b3.mono B2.out.size)); clear b3
  have z0 : w3.cell? ⟨w.heap.size, 0, none⟩ = some (.int .u8 (op : Int)) := by rw [cell_at hr3]; rfl
  have z1 : w3.cell? ⟨w.heap.size, 1, none⟩ = some (.int .u8 (a : Int)) := by rw [cell_at hr3]; rfl
  have Hr3 := Lib.hid hr3; clear hr3
  have H3 := Lib.hid h3; clear h3
  have K3 := Lib.hid k3; clear k3
  clear H2 K2 H1 K1 Hr2 Hr1 x0 x1 y0 y1
  cases N with
  | false =>
    have hr : E = .error 132 := by rw [HE.out, Ver.stp_nests HA.out.symm HN.out.symm]
    subst hr
    go_wp2_with fail
    go_ret
    exact TurnR.bad rfl (Turns.of_new B3.out _)
  | true =>
    go_wp2_with fail
    refine (HCE.out _ K3.out).mono ?_; rintro e w4 ⟨rfl, b4⟩
    have hr4 := row_below Hr3.out b4 (row_lt Hr3.out)
    have h4 := H3.out.new b4
    have B4 := Lib.hid (B3.out.trans (b4.mono B3.out.size)); clear b4
    have H4 := Lib.hid h4; clear h4
    have Hr4 := Lib.hid hr4; clear hr4
    clear H3 K3 Hr3 z0 z1
    go_wp2_with fail
    obtain ⟨P, hP⟩ : ∃ P, P = Ver.pops op a := ⟨_, rfl⟩
    obtain ⟨Q, hQ⟩ : ∃ Q, Q = Ver.pushes op a := ⟨_, rfl⟩
    have hPl := Ver.pops_len op a
    have hQl := Ver.pushes_le op a
    rw [← hP, ← hQ]
    rw [← hP] at hPl
    rw [← hQ] at hQl
    have h5 := H4.out.new (obj_below w4 (.cells #[.string (Ver.kb P), .string (Ver.kb Q)] 74))
    have hf5 : (w4.alloc (.cells #[.string (Ver.kb P), .string (Ver.kb Q)] 74)).heap[w4.heap.size]? = some (.cells #[.string (Ver.kb P), .string (Ver.kb Q)] 74 (0, 0)) := alloc_at rfl
    have hx5 := row_alloc Hr4.out (.cells #[.string (Ver.kb P), .string (Ver.kb Q)] 74)
    have b5 := B4.out.alloc (B4.out.size) (.cells #[.string (Ver.kb P), .string (Ver.kb Q)] 74)
    obtain ⟨W5, hW5⟩ : ∃ W5, W5 = (w4.alloc (.cells #[.string (Ver.kb P), .string (Ver.kb Q)] 74)) := ⟨_, rfl⟩
    rw [← hW5] at h5 hf5 hx5 b5 ⊢
    obtain ⟨fb, hfb⟩ : ∃ fb, fb = w4.heap.size := ⟨_, rfl⟩
    have hfbw : w.heap.size ≤ fb := by rw [hfb]; exact B4.out.size
    rw [← hfb] at hf5 ⊢
    clear hW5 hfb
    have H5 := Lib.hid h5; clear h5
    have HF5 := Lib.hid hf5; clear hf5
    have HX5 := Lib.hid hx5; clear hx5
    have B5 := Lib.hid b5; clear b5
    clear H4 Hr4 B4 B3 HCK HCN HCE
    obtain ⟨KL, hKL⟩ : ∃ KL, KL = S.k.length := ⟨_, rfl⟩
    obtain ⟨K, hK⟩ : ∃ K, K = Ver.kb S.k := ⟨_, rfl⟩
    have zK : K.size = KL := by rw [hK, hKL]; exact Ver.kb_size _
    have hK16 : KL ≤ 16 := by rw [hKL]; exact H5.out.ok.nk
    have HKL := Lib.hid hKL; clear hKL
    have HK := Lib.hid hK; clear hK
    have HP := Lib.hid hP; clear hP
    have HQ := Lib.hid hQ; clear hQ
    obtain ⟨pl, hpl⟩ : ∃ pl, pl = P.length := ⟨_, rfl⟩
    obtain ⟨ql, hql⟩ : ∃ ql, ql = Q.length := ⟨_, rfl⟩
    rw [← hpl] at hPl
    rw [← hql] at hQl
    have zP : (Ver.kb P).size = pl := by rw [hpl]; exact Ver.kb_size _
    have zQ : (Ver.kb Q).size = ql := by rw [hql]; exact Ver.kb_size _
    have Hpl := Lib.hid hpl; clear hpl
    have Hql := Lib.hid hql; clear hql
    obtain ⟨P', hP'⟩ : ∃ P', P' = Ver.kb P := ⟨_, rfl⟩
    obtain ⟨Q', hQ'⟩ : ∃ Q', Q' = Ver.kb Q := ⟨_, rfl⟩
    rw [← hP'] at zP HF5
    rw [← hQ'] at zQ HF5
    rw [← hP', ← hQ']
    have HP' := Lib.hid hP'; clear hP'
    have HQ' := Lib.hid hQ'; clear hQ'
    have c5 : W5.drew.cell? ⟨q, 5, none⟩ = some (.string K) := by rw [HK.out]; exact H5.out.drew.c 5
    have g0 : W5.drew.cell? ⟨fb, 0, none⟩ = some (.string P') := by rw [cell_at (show W5.drew.heap[fb]? = _ from HF5.out)]; rfl
    by_cases e2 : KL < pl

    · have hr : E = .error 130 := by rw [HE.out, Ver.stp_few HA.out.symm HN.out.symm (by rw [← HP.out, ← HKL.out, ← Hpl.out]; exact e2)]
      subst hr
      have d1 : decide ((KL : Int) - (pl : Int) < 0) = true := decide_eq_true (by omega)
      have d2 : (KL : Int) - (pl : Int) < 0 := by omega
      refine wp_region_phases [([0, 1, 2, 3, 4, 5, 6, 7, 8], [9])] (by kernel_rfl) (by kernel_rfl) (fun z => z.cell? ⟨q, 5, none⟩ = some (.string K) ∧ z.cell? ⟨fb, 0, none⟩ = some (.string P')) ⟨c5, g0⟩ ?_
      simp only [wpPhases, pick, List.filterMap_cons, List.filterMap_nil, List.getElem?_toArray, List.getElem?_cons_zero, List.getElem?_cons_succ]
      refine take_move (.tmp 0) (.pointer (some ⟨q, 0, none⟩)) rfl rfl rfl ?_
      simp only [Act.put, List.setIfInBounds_toArray, List.set_cons_zero, List.set_cons_succ]
      refine take_nil (.tmp 25) ⟨q, 0, none⟩ rfl rfl rfl ?_
      simp only [Act.put, List.setIfInBounds_toArray, List.set_cons_zero, List.set_cons_succ]
      refine take_one (.pointer (some ⟨q, 5, none⟩)) rfl (fun u _ => by go_simp) ?_
      simp only [Act.put, List.setIfInBounds_toArray, List.set_cons_zero, List.set_cons_succ]
      refine take_load 9 (.tmp 27) ⟨q, 5, none⟩ (.string K) rfl rfl rfl (fun u hu => load_at Tryd.underlying9 Tryd.isAgg9 hu.1) ?_
      simp only [Act.put, List.setIfInBounds_toArray, List.set_cons_zero, List.set_cons_succ]
      refine take_one (.int .i64 (KL : Int)) rfl (fun u hu => by go_simp) ?_
      simp only [Act.put, List.setIfInBounds_toArray, List.set_cons_zero, List.set_cons_succ]
      refine take_one (.pointer (some ⟨fb, 0, none⟩)) rfl (fun u _ => by go_simp) ?_
      simp only [Act.put, List.setIfInBounds_toArray, List.set_cons_zero, List.set_cons_succ]
      refine take_load 9 (.tmp 30) ⟨fb, 0, none⟩ (.string P') rfl rfl rfl (fun u hu => load_at Tryd.underlying9 Tryd.isAgg9 hu.2) ?_
      simp only [Act.put, List.setIfInBounds_toArray, List.set_cons_zero, List.set_cons_succ]
      refine take_one (.int .i64 (pl : Int)) rfl (fun u hu => by go_simp) ?_
      simp only [Act.put, List.setIfInBounds_toArray, List.set_cons_zero, List.set_cons_succ]
      refine take_one (.int .i64 ((KL : Int) - (pl : Int))) rfl (fun u hu => by go_simp; simp only [IntKind.wrap_i64]; omega) ?_
      simp only [Act.put, List.setIfInBounds_toArray, List.set_cons_zero, List.set_cons_succ]
      refine take_done ?_
      refine midk_one (.int .i64 ((KL : Int) - (pl : Int))) rfl rfl ⟨c5, g0⟩ ?_
      simp only [wpMidK]
      refine NoPanic.normal ?_
      go_wp2_with fail
      go_ret
      exact TurnR.bad rfl (Turns.of_new B5.out.drew _)
    · obtain ⟨r, hr⟩ : ∃ r, KL = r + pl := ⟨KL - pl, by omega⟩
      have dr0 : ¬ (r : Int) < 0 := by omega
      have dr1 : decide ((r : Int) < 0) = false := decide_eq_false dr0
      refine wp_region_phases [([0, 1, 2, 3, 4, 5, 6, 7, 8], [9])] (by kernel_rfl) (by kernel_rfl) (fun z => z.cell? ⟨q, 5, none⟩ = some (.string K) ∧ z.cell? ⟨fb, 0, none⟩ = some (.string P')) ⟨c5, g0⟩ ?_
      simp only [wpPhases, pick, List.filterMap_cons, List.filterMap_nil, List.getElem?_toArray, List.getElem?_cons_zero, List.getElem?_cons_succ]
      refine take_move (.tmp 0) (.pointer (some ⟨q, 0, none⟩)) rfl rfl rfl ?_
      simp only [Act.put, List.setIfInBounds_toArray, List.set_cons_zero, List.set_cons_succ]
      refine take_nil (.tmp 25) ⟨q, 0, none⟩ rfl rfl rfl ?_
      simp only [Act.put, List.setIfInBounds_toArray, List.set_cons_zero, List.set_cons_succ]
      refine take_one (.pointer (some ⟨q, 5, none⟩)) rfl (fun u _ => by go_simp) ?_
      simp only [Act.put, List.setIfInBounds_toArray, List.set_cons_zero, List.set_cons_succ]
      refine take_load 9 (.tmp 27) ⟨q, 5, none⟩ (.string K) rfl rfl rfl (fun u hu => load_at Tryd.underlying9 Tryd.isAgg9 hu.1) ?_
      simp only [Act.put, List.setIfInBounds_toArray, List.set_cons_zero, List.set_cons_succ]
      refine take_one (.int .i64 (KL : Int)) rfl (fun u hu => by go_simp) ?_
      simp only [Act.put, List.setIfInBounds_toArray, List.set_cons_zero, List.set_cons_succ]
      refine take_one (.pointer (some ⟨fb, 0, none⟩)) rfl (fun u _ => by go_simp) ?_
      simp only [Act.put, List.setIfInBounds_toArray, List.set_cons_zero, List.set_cons_succ]
      refine take_load 9 (.tmp 30) ⟨fb, 0, none⟩ (.string P') rfl rfl rfl (fun u hu => load_at Tryd.underlying9 Tryd.isAgg9 hu.2) ?_
      simp only [Act.put, List.setIfInBounds_toArray, List.set_cons_zero, List.set_cons_succ]
      refine take_one (.int .i64 (pl : Int)) rfl (fun u hu => by go_simp) ?_
      simp only [Act.put, List.setIfInBounds_toArray, List.set_cons_zero, List.set_cons_succ]
      refine take_one (.int .i64 (r : Int)) rfl (fun u hu => by go_simp; simp only [IntKind.wrap_i64]; omega) ?_
      simp only [Act.put, List.setIfInBounds_toArray, List.set_cons_zero, List.set_cons_succ]
      refine take_done ?_
      refine midk_one (.int .i64 (r : Int)) rfl rfl ⟨c5, g0⟩ ?_
      simp only [wpMidK]
      refine NoPanic.normal ?_
      go_wp2_with fail
      obtain ⟨W6, hW6⟩ : ∃ W6, W6 = W5.drew := ⟨_, rfl⟩
      have h6 := H5.out.drew
      have hf6 : W5.drew.heap[fb]? = _ := HF5.out
      have hx6 : W5.drew.heap[w.heap.size]? = _ := HX5.out
      have b6 := B5.out.drew
      rw [← hW6] at h6 hf6 hx6 b6 ⊢
      clear hW6 c5 g0
      have H6 := Lib.hid h6; clear h6
      have HF6 := Lib.hid hf6; clear hf6
      have HX6 := Lib.hid hx6; clear hx6
      have B6 := Lib.hid b6; clear b6
      clear H5 HF5 HX5 B5
      have hr' : S.k.length = r + pl := by rw [← HKL.out]; exact hr
      obtain ⟨top, htop⟩ : ∃ top, top = S.k.drop r := ⟨_, rfl⟩
      have htl : top.length = P.length := by rw [htop, List.length_drop, hr', Hpl.out]; omega
      obtain ⟨T, hT⟩ : ∃ T, T = Ver.kb top := ⟨_, rfl⟩
      have hcut : ∀ u, (Instr.sliceAt 9 (.string K) (some (.int .i64 (r : Int))) none none).run Tryd.prog u = .ok (.string T) u := fun u => by
        rw [text_tail K r (by omega) u, HK.out, Ver.kb_drop _ _ (by omega), hT, htop]
      obtain ⟨FB, hFB⟩ : ∃ FB, FB = Ver.fitsP P top := ⟨_, rfl⟩
      have hfi : ∀ u, Calls Tryd.prog 37 #[.agg #[.string P', .string Q'], .string T] u fun e w' => e = .returned (.bool FB) ∧ Below u.heap.size u w' := fun u => by
        rw [HP'.out, HQ'.out, hT, hFB]
        exact fits_any P Q top htl (by rw [← Hpl.out]; exact hPl) u
      have hpu : ∀ u, Calls Tryd.prog 38 #[.agg #[.string P', .string Q'], .string T] u fun e w' => e = .returned (.string (Ver.kb (Ver.pushedP P Q top))) ∧ Below u.heap.size u w' := fun u => by
        rw [HP'.out, HQ'.out, hT]
        exact pushed_any P Q top htl (by rw [← Hpl.out]; exact hPl) (by rw [← Hql.out]; exact hQl) (by rw [HP.out, HQ.out]; exact Ver.named_op op a hop) u
      have hpk : S.k.length - (Ver.pops op a).length = r := by rw [← HP.out, ← Hpl.out, hr']; omega
      have hge : ¬ S.k.length < (Ver.pops op a).length := by rw [← HP.out, ← Hpl.out, hr']; omega
      have HCUT := Lib.hid hcut; clear hcut
      have HFI := Lib.hid hfi; clear hfi
      have HPU := Lib.hid hpu; clear hpu
      have HFB := Lib.hid hFB; clear hFB
      have Htop := Lib.hid htop; clear htop
      have Hpk := Lib.hid hpk; clear hpk
      have Hge := Lib.hid hge; clear hge
      have Hr := Lib.hid hr; clear hr
      have Hr' := Lib.hid hr'; clear hr'
      clear hT htl e2
      have hSd : (fun z : World => z.cell? ⟨q, 5, none⟩ = some (.string K) ∧ z.heap[fb]? = some (.cells #[.string P', .string Q'] 74 (0, 0))) W6.drew := ⟨by rw [HK.out]; exact H6.out.drew.c 5, HF6.out⟩
      refine wp_region_phases [([0, 1, 2, 3, 4, 5, 6], [7, 8, 9])] (by kernel_rfl) (by kernel_rfl) (fun z => z.cell? ⟨q, 5, none⟩ = some (.string K) ∧ z.heap[fb]? = some (.cells #[.string P', .string Q'] 74 (0, 0))) hSd ?_
      simp only [wpPhases, pick, List.filterMap_cons, List.filterMap_nil, List.getElem?_toArray, List.getElem?_cons_zero, List.getElem?_cons_succ]
      refine take_load 74 (.tmp 8) ⟨fb, 0, none⟩ (.agg #[.string P', .string Q']) rfl rfl rfl (fun u hu => load_eff hu.2) ?_
      simp only [Act.put, List.setIfInBounds_toArray, List.set_cons_zero, List.set_cons_succ]
      refine take_move (.tmp 0) (.pointer (some ⟨q, 0, none⟩)) rfl rfl rfl ?_
      simp only [Act.put, List.setIfInBounds_toArray, List.set_cons_zero, List.set_cons_succ]
      refine take_nil (.tmp 39) ⟨q, 0, none⟩ rfl rfl rfl ?_
      simp only [Act.put, List.setIfInBounds_toArray, List.set_cons_zero, List.set_cons_succ]
      refine take_one (.pointer (some ⟨q, 5, none⟩)) rfl (fun u _ => by go_simp) ?_
      simp only [Act.put, List.setIfInBounds_toArray, List.set_cons_zero, List.set_cons_succ]
      refine take_load 9 (.tmp 41) ⟨q, 5, none⟩ (.string K) rfl rfl rfl (fun u hu => load_txt hu.1) ?_
      simp only [Act.put, List.setIfInBounds_toArray, List.set_cons_zero, List.set_cons_succ]
      refine take_move (.tmp 9) (.int .i64 (r : Int)) rfl rfl rfl ?_
      simp only [Act.put, List.setIfInBounds_toArray, List.set_cons_zero, List.set_cons_succ]
      refine take_one (.string T) rfl (fun u hu => run_sub_lo 9 (.tmp 42) (.tmp 43) rfl _ _ _ rfl rfl (HCUT.out u)) ?_
      simp only [Act.put, List.setIfInBounds_toArray, List.set_cons_zero, List.set_cons_succ]
      refine take_done ?_
      refine midk_wp rfl (call_wp 37 [.tmp 38, .tmp 44] #[74, 9] #[.agg #[.string P', .string Q'], .string T] rfl rfl rfl ?_)
      refine (HFI.out _).mono ?_
      rintro e W7 ⟨rfl, b7⟩
      have h7 := H6.out.drew.new b7
      have hf7 := row_below (show W6.drew.heap[fb]? = _ from HF6.out) b7 (row_lt (show W6.drew.heap[fb]? = _ from HF6.out))
      have hx7 := row_below (show W6.drew.heap[w.heap.size]? = _ from HX6.out) b7 (row_lt (show W6.drew.heap[w.heap.size]? = _ from HX6.out))
      have b7' := B6.out.drew.trans (b7.mono B6.out.size)
      have hS7 : (fun z : World => z.cell? ⟨q, 5, none⟩ = some (.string K) ∧ z.heap[fb]? = some (.cells #[.string P', .string Q'] 74 (0, 0))) W7 := ⟨by rw [HK.out]; exact h7.c 5, hf7⟩
      refine ⟨_, rfl, hS7, ?_⟩
      simp only [Act.put, List.setIfInBounds_toArray, List.set_cons_zero, List.set_cons_succ]
      refine midk_one (.bool !FB) rfl (by go_simp) hS7 ?_
      simp only [Act.put, List.setIfInBounds_toArray, List.set_cons_zero, List.set_cons_succ]
      refine midk_one (.bool !FB) rfl rfl hS7 ?_
      simp only [wpMidK]
      refine NoPanic.normal ?_
      have H7 := Lib.hid h7; clear h7
      have HF7 := Lib.hid hf7; clear hf7
      have HX7 := Lib.hid hx7; clear hx7
      have B7 := Lib.hid b7'; clear b7' b7 hS7 hSd
      clear H6 HF6 HX6 B6
      cases FB with
      | false =>
        have hE : E = .error 131 := by rw [HE.out, Ver.stp_kind HA.out.symm HN.out.symm Hge.out (by rw [Hpk.out, ← Htop.out, ← HP.out]; exact HFB.out.symm)]
        subst hE
        go_wp2_with fail
        go_ret
        exact TurnR.bad rfl (Turns.of_new B7.out _)
      | true =>
        have g1 : W7.cell? ⟨fb, 1, none⟩ = some (.string Q') := by rw [cell_at HF7.out]; rfl
        have hfit : Ver.fitsP (Ver.pops op a) (S.k.drop (S.k.length - (Ver.pops op a).length)) = true := by rw [Hpk.out, ← Htop.out, ← HP.out]; exact HFB.out.symm
        have Hfit := Lib.hid hfit; clear hfit
        have hr13 : r ≤ 16 := by have := Hr.out; omega
        by_cases e3 : 16 < r + ql
        · have hE : E = .error 130 := by rw [HE.out, Ver.stp_many HA.out.symm HN.out.symm Hge.out Hfit.out (by rw [Hpk.out, ← HQ.out, ← Hql.out]; exact e3)]
          subst hE
          have d1 : decide ((16 : Int) < (r : Int) + (ql : Int)) = true := decide_eq_true (by omega)
          have d2 : (16 : Int) < (r : Int) + (ql : Int) := by omega
          go_wp2_with fail
          go_ret
          exact TurnR.bad rfl (Turns.of_new B7.out _)
        · have d1 : decide ((16 : Int) < (r : Int) + (ql : Int)) = false := decide_eq_false (by omega)
          have d2 : ¬ (16 : Int) < (r : Int) + (ql : Int) := by omega
          go_wp2_with fail
          have hS7 : (fun z : World => z.cell? ⟨q, 5, none⟩ = some (.string K) ∧ z.heap[fb]? = some (.cells #[.string P', .string Q'] 74 (0, 0))) W7.drew := ⟨by rw [HK.out]; exact H7.out.drew.c 5, HF7.out⟩
          refine wp_region_phases [([0, 1, 2, 3, 4, 5, 6], [7, 8])] (by kernel_rfl) (by kernel_rfl) (fun z => z.cell? ⟨q, 5, none⟩ = some (.string K) ∧ z.heap[fb]? = some (.cells #[.string P', .string Q'] 74 (0, 0))) hS7 ?_
          simp only [wpPhases, pick, List.filterMap_cons, List.filterMap_nil, List.getElem?_toArray, List.getElem?_cons_zero, List.getElem?_cons_succ]
          refine take_load 74 (.tmp 8) ⟨fb, 0, none⟩ (.agg #[.string P', .string Q']) rfl rfl rfl (fun u hu => load_eff hu.2) ?_
          simp only [Act.put, List.setIfInBounds_toArray, List.set_cons_zero, List.set_cons_succ]
          refine take_move (.tmp 0) (.pointer (some ⟨q, 0, none⟩)) rfl rfl rfl ?_
          simp only [Act.put, List.setIfInBounds_toArray, List.set_cons_zero, List.set_cons_succ]
          refine take_nil (.tmp 55) ⟨q, 0, none⟩ rfl rfl rfl ?_
          simp only [Act.put, List.setIfInBounds_toArray, List.set_cons_zero, List.set_cons_succ]
          refine take_one (.pointer (some ⟨q, 5, none⟩)) rfl (fun u _ => by go_simp) ?_
          simp only [Act.put, List.setIfInBounds_toArray, List.set_cons_zero, List.set_cons_succ]
          refine take_load 9 (.tmp 57) ⟨q, 5, none⟩ (.string K) rfl rfl rfl (fun u hu => load_txt hu.1) ?_
          simp only [Act.put, List.setIfInBounds_toArray, List.set_cons_zero, List.set_cons_succ]
          refine take_move (.tmp 9) (.int .i64 (r : Int)) rfl rfl rfl ?_
          simp only [Act.put, List.setIfInBounds_toArray, List.set_cons_zero, List.set_cons_succ]
          refine take_one (.string T) rfl (fun u hu => run_sub_lo 9 (.tmp 58) (.tmp 59) rfl _ _ _ rfl rfl (HCUT.out u)) ?_
          simp only [Act.put, List.setIfInBounds_toArray, List.set_cons_zero, List.set_cons_succ]
          refine take_done ?_
          refine midk_wp rfl (call_wp 38 [.tmp 54, .tmp 60] #[74, 9] #[.agg #[.string P', .string Q'], .string T] rfl rfl rfl ?_)
          refine (HPU.out _).mono ?_
          rintro e W8 ⟨rfl, b8⟩
          have h8 := H7.out.drew.new b8
          have hf8 := row_below (show W7.drew.heap[fb]? = _ from HF7.out) b8 (row_lt (show W7.drew.heap[fb]? = _ from HF7.out))
          have hx8 := row_below (show W7.drew.heap[w.heap.size]? = _ from HX7.out) b8 (row_lt (show W7.drew.heap[w.heap.size]? = _ from HX7.out))
          have b8' := B7.out.drew.trans (b8.mono B7.out.size)
          have hS8 : (fun z : World => z.cell? ⟨q, 5, none⟩ = some (.string K) ∧ z.heap[fb]? = some (.cells #[.string P', .string Q'] 74 (0, 0))) W8 := ⟨by rw [HK.out]; exact h8.c 5, hf8⟩
          refine ⟨_, rfl, hS8, ?_⟩
          simp only [Act.put, List.setIfInBounds_toArray, List.set_cons_zero, List.set_cons_succ]
          refine midk_one (.string (Ver.kb (Ver.pushedP P Q top))) rfl rfl hS8 ?_
          simp only [wpMidK]
          refine NoPanic.normal ?_
          have c5 : W8.cell? ⟨q, 5, none⟩ = some (.string K) := hS8.1
          have f5 : W8.frozen? ⟨q, 5, none⟩ = false := h8.f 5
          have hxc : W8.cell? ⟨w.heap.size, 0, none⟩ = some (.int .u8 (op : Int)) := by rw [cell_at hx8]; rfl
          have hne : q ≠ w.heap.size := fun e => by
            have := row_lt H.out.box
            omega
          have H8 := Lib.hid h8; clear h8
          have B8 := Lib.hid b8'; clear b8' b8 hS8 hf8 hS7
          have HX8 := Lib.hid hx8; clear hx8
          clear H7 HF7 HX7 B7 g1
          have hrK : r ≤ K.size := by have := Hr.out; omega
          have hrK2 : (r : Int) ≤ (K.size : Int) := by omega
          have hext : K.extract 0 r = Ver.kb (S.k.take r) := by rw [HK.out]; exact Ver.kb_take _ _
          have hVP : VP n { S with k := S.k.take r } := ⟨H.out.ok.at_, by simp only [List.length_take]; omega, H.out.ok.nb, H.out.ok.op_, H.out.ok.bk⟩
          have h9 := H8.out.setK (S.k.take r) hVP
          rw [← hext] at h9
          have hx9 := set_other (o := 5) (v := Value.string (K.extract 0 r)) HX8.out (Ne.symm hne)
          have hxc9 : (W8.setCell ⟨q, 5, none⟩ (.string (K.extract 0 r))).cell? ⟨w.heap.size, 0, none⟩ = some (.int .u8 (op : Int)) := by rw [cell_at hx9]; rfl
          have H9 := Lib.hid h9; clear h9
          have Hext := Lib.hid hext; clear hext
          clear hVP hx9
          have hTA := turn_any H9.out i op hi hn HN.out.symm
          have hTE : E = match Ver.tP i op { S with k := S.k.take r } with
              | .error c => .error c
              | .ok t => .ok { t with k := t.k ++ Ver.pushedP P Q top } := by
            rw [HE.out, Ver.stp_go HA.out.symm HN.out.symm Hge.out Hfit.out (by rw [Hpk.out, ← HQ.out, ← Hql.out]; exact e3), Hpk.out, ← Htop.out, ← HP.out, ← HQ.out]
          have ht9 : Turns (VT q g kv) w (W8.setCell ⟨q, 5, none⟩ (.string (K.extract 0 r))) := (Turns.of_new B8.out _).set q 5 _ (fun _ => .inl rfl)
          have hsz9 : w.heap.size ≤ (W8.setCell ⟨q, 5, none⟩ (.string (K.extract 0 r))).heap.size := ht9.size
          have hr16 : (S.k.take r).length ≤ r := by simp only [List.length_take]; omega
          have hpl2 : (Ver.pushedP P Q top).length = ql := by unfold Ver.pushedP; rw [List.length_map, Hql.out]
          have h20 : op = 20 → Ver.pushedP P Q top = [] := fun e => by rw [HQ.out, e]; rfl
          obtain ⟨PU, hPU⟩ : ∃ PU, PU = Ver.pushedP P Q top := ⟨_, rfl⟩
          rw [← hPU] at hTE hpl2 h20 ⊢
          clear hPU
          obtain ⟨TP, hTP⟩ : ∃ TP, TP = Ver.tP i op { S with k := S.k.take r } := ⟨_, rfl⟩
          rw [← hTP] at hTA hTE
          have HTP := Lib.hid hTP; clear hTP
          have HTA := Lib.hid hTA; clear hTA
          have HT9 := Lib.hid ht9; clear ht9
          have Hsz9 := Lib.hid hsz9; clear hsz9
          have H20 := Lib.hid h20; clear h20
          have zPU : (Ver.kb PU).size = ql := by rw [Ver.kb_size]; exact hpl2
          cases TP with
          | error c =>
            simp only at hTE
            subst hTE
            have hc0 := Ver.tP_err HTP.out.symm
            subst hc0
            go_wp2_with fail
            refine HTA.out.mono ?_
            rintro e W10 ⟨hbad, _⟩
            obtain ⟨rfl, t10⟩ := hbad _ rfl
            have HT10 := Lib.hid (HT9.out.trans t10 (fun _ _ e => e)); clear t10 hbad
            go_wp2_with fail
            go_ret
            exact TurnR.bad rfl HT10.out
          | ok S' =>
            simp only at hTE
            have HTE := Lib.hid hTE; clear hTE
            go_wp2_with fail
            refine HTA.out.mono ?_
            rintro e W10 ⟨_, hgood⟩
            obtain ⟨rfl, kv', h10, t10, n10⟩ := hgood _ rfl
            have hk' := Ver.tP_k HTP.out.symm
            have hl' : (S'.k ++ PU).length ≤ 16 := by
              rcases hk' with e | e
              · rw [H20.out e, List.append_nil]; exact h10.ok.nk
              · rw [List.length_append, e, hpl2]; simp only; omega
            have hVP : VP n { S' with k := S'.k ++ PU } := ⟨h10.ok.at_, hl', h10.ok.nb, h10.ok.op_, h10.ok.bk⟩
            have hfin := h10.setK (S'.k ++ PU) hVP
            rw [← Ver.kb_app] at hfin
            have hres : TurnR B q g n nt role bv kv w E (.returned (.int .i64 0)) (W10.setCell ⟨q, 5, none⟩ (.string (Ver.kb S'.k ++ Ver.kb PU))) := by
              rw [HTE.out]
              refine TurnR.good hfin ((HT9.out.trans t10 (fun _ _ e => e)).set q 5 _ (fun _ => .inl rfl)) (fun j hj => ?_)
              rcases n10 j hj with e | e
              · exact .inl e
              · have := Hsz9.out; exact .inr (by omega)
            have c10 : W10.cell? ⟨q, 5, none⟩ = some (.string (Ver.kb S'.k)) := h10.c 5
            have f10 : W10.frozen? ⟨q, 5, none⟩ = false := h10.f 5
            have zK' : (Ver.kb S'.k).size ≤ 16 := by rw [Ver.kb_size]; exact h10.ok.nk
            have HRES := Lib.hid hres; clear hres hfin hVP hl' hk' t10 n10 hgood
            have H10 := Lib.hid h10; clear h10
            generalize Ver.kb S'.k = K2 at *
            generalize Ver.kb PU = PP at *
            go_wp2_with fail
            go_ret
            exact HRES.out

end
end Go.Proofs.YtolldoclnfnceaaDoor
