/-
  A program is processed: process.
-/
import Derived.Test.YtolldoclnfnceaaDoorVerStep
import Derived.Test.YtolldoclnfnceaaDoorCodCheck
import Derived.Laws.ResultCell
set_option linter.unusedVariables false
set_option maxRecDepth 100000
namespace Go.Proofs.YtolldoclnfnceaaDoor
open Go.RowKit

theorem results_c3 {fn : Func} {p u v : Tmp} {ty : TypeId} (h : fn.results = #[.cell p ty, .tmp u, .tmp v]) (tmps : Array Value) (P : Program) (w : World) :
    (results fn tmps).run P w = ((asAddr (tmps.getD p undef)).run P w).andThen fun a w₁ => ((loadVar ty a).run P w₁).andThen fun x w₂ => .ok (.tuple #[x, tmps.getD u undef, tmps.getD v undef]) w₂ := by
  simp only [results, h]
  simp [Sem.run_bind, Result.andThen]
theorem proc_results (tmps : Array Value) (g : Nat) (x y z a b : Value) (W : World) (h2 : tmps.getD 4 undef = .pointer (some ⟨g, 0, none⟩)) (h3 : tmps.getD 5 undef = a) (h4 : tmps.getD 6 undef = b) (hg : W.heap[g]? = some (.cells #[x, y, z] 51 (0, 0))) :
    (results Tryd.f18 tmps).run Tryd.prog W = .ok (.tuple #[.agg #[x, y, z], a, b]) W := by
  rw [results_c3 (p := 4) (u := 5) (v := 6) rfl, h2, h3, h4]
  simp [asAddr, run_loadVar_row W g _ 51 #[x, y, z] _ _ hg Tryd.underlying51 rfl (by kernel_rfl)]
/-- what process answers -/
structure ProcR (w : World) (n : Nat) (r : Except (Nat × Nat) Ver.St) (e : Ending) (w' : World) : Prop where
  b : Below w.heap.size w w'
  bad : ∀ i c, r = .error (i, c) → e = .returned (.tuple #[.agg #[.slice none 0 0, .slice none 0 0, .int .i64 0], .int .i64 (i : Int), .int .i64 (c : Int)])
  good : ∀ S, r = .ok S → ∃ bv g, e = .returned (.tuple #[.agg #[bv, .slice (some ⟨g, 0, none⟩) n n, .int .i64 (S.deep : Int)], .int .i64 0, .int .i64 0]) ∧ TOwn w.heap.size bv (S.seen.map Ver.kb) w' ∧
    w'.heap[g]? = some (.cells (vints S.ends) 3 (0, 0)) ∧ S.ends.length = n ∧ w.heap.size ≤ g
theorem ProcR.err {w w' : World} {n i c : Nat} (hb : Below w.heap.size w w') : ProcR w n (.error (i, c)) (.returned (.tuple #[.agg #[.slice none 0 0, .slice none 0 0, .int .i64 0], .int .i64 (i : Int), .int .i64 (c : Int)])) w' :=
  ⟨hb, fun i' c' h => by cases h; rfl, fun S h => (nomatch h)⟩
/-- what process has beside the state: the program's box, the result's -/
structure PBox (w : World) (x : Pv) (W : World) : Prop where
  b : Below w.heap.size w W
  p : W.heap[w.heap.size]? = some (.cells #[.slice x.a x.n x.c, .slice x.b x.m x.d] 25 (0, 0))
  r : W.heap[w.heap.size + 1]? = some (.cells #[.slice none 0 0, .slice none 0 0, .int .i64 0] 51 (0, 0))
theorem PBox.new {w W W' : World} {x : Pv} (h : PBox w x W) (hb : Below W.heap.size W W') : PBox w x W' :=
  ⟨h.b.trans (hb.mono h.b.size), row_below h.p hb (row_lt h.p), row_below h.r hb (row_lt h.r)⟩
theorem zero_three {w : World} {b : Nat} {x y z x' y' z' : Value} {T : TypeId} (h : w.heap[b]? = some (.cells #[x, y, z] T (0, 0))) : (((w.setCell ⟨b, 0, none⟩ x').setCell ⟨b, 1, none⟩ y').setCell ⟨b, 2, none⟩ z').heap[b]? = some (.cells #[x', y', z'] T (0, 0)) := by
  rw [heap_setCell_same _ b 2 _ _ z' (heap_setCell_same _ b 1 _ _ y' (heap_setCell_same w b 0 _ _ x' h))]
  rfl

theorem made_int (n : Nat) : madeCells (Value.int .i64 0).cells n = vints (List.replicate n 0) := by
  apply Array.ext
  · simp [madeCells, vints]
  · intro i h1 h2
    simp [madeCells, Value.cells, Nat.mod_one, vints]
theorem make_ints (m : Nat) (hm : m ≤ 65535) (u : World) : (Instr.makeSlice 34 (.int .i64 (m : Int)) (.int .i64 (m : Int))).run Tryd.prog u = .ok (.slice (some ⟨u.heap.size, 0, none⟩) m m) (u.alloc (.cells (vints (List.replicate m 0)) 3)) := by
  obtain ⟨i, hi, h0, h1, h2⟩ := info_parts (show (Tryd.prog.info? 3).map (fun i => (i.zero, i.size, i.bytes)) = some (some (.int .i64 0), 1, 8) by kernel_rfl)
  have := run_make (P := Tryd.prog) u 34 3 i (.int .i64 0) Tryd.underlying34 hi h0 .i64 .i64 (m : Int) (m : Int) (by omega) (by omega) (by rw [h2]; omega) (by omega)
  rw [this, h1, Int.toNat_natCast, Nat.mul_one, made_int]

namespace Ver
theorem go_add {nt role : Nat} {cs : List Cod.In} {k : Nat} {s S T : St} (hk : k < cs.length) (h : go nt role (cs.take k) 0 s = .ok S) (hs : step nt role k (cs.getD k (0, 0)).1.toNat (cs.getD k (0, 0)).2.toNat S = .ok T) : go nt role (cs.take (k + 1)) 0 s = .ok T := by
  have e : cs.getD k (0, 0) = cs[k] := by rw [List.getD_eq_getElem?_getD, List.getElem?_eq_getElem hk]; rfl
  rw [e] at hs
  rw [List.take_succ_eq_append_getElem hk, go_append _ _ _ _ _ h, List.length_take, show 0 + min k cs.length = k by omega]
  simp only [go, hs]
theorem go_bad {nt role : Nat} {cs : List Cod.In} {k c : Nat} {s S : St} (hk : k < cs.length) (h : go nt role (cs.take k) 0 s = .ok S) (hs : step nt role k (cs.getD k (0, 0)).1.toNat (cs.getD k (0, 0)).2.toNat S = .error c) : go nt role cs 0 s = .error (k, c) := by
  have e : cs.getD k (0, 0) = cs[k] := by rw [List.getD_eq_getElem?_getD, List.getElem?_eq_getElem hk]; rfl
  rw [e] at hs
  have hd : cs = cs.take k ++ cs.drop k := (List.take_append_drop k cs).symm
  have hd2 : go nt role (cs.take k ++ cs.drop k) 0 s = .error (k, c) := by
    rw [go_append _ _ _ _ _ h, List.length_take, show 0 + min k cs.length = k by omega, List.drop_eq_getElem_cons hk]
    simp only [go, hs]
  rwa [← hd] at hd2
theorem all_bad {nt role : Nat} {cs : List Cod.In} {x : Nat × Nat} (h : go nt role cs 0 (St.init cs.length) = .error x) : all nt role cs = .error x := by
  unfold all
  rw [h]
theorem all_over {nt role : Nat} {cs : List Cod.In} {S : St} (h : go nt role cs 0 (St.init cs.length) = .ok S) (h0 : over role S ≠ 0) : all nt role cs = .error (cs.length, over role S) := by
  unfold all
  rw [h]
  exact if_pos h0
theorem all_good {nt role : Nat} {cs : List Cod.In} {S : St} (h : go nt role cs 0 (St.init cs.length) = .ok S) (h0 : over role S = 0) : all nt role cs = .ok S := by
  unfold all
  rw [h]
  exact if_neg (fun c => c h0)
theorem turn_seen {i op : Nat} {s t : St} (h : turn i op s = .ok t) : t.seen = s.seen := by
  by_cases e19 : op = 19
  · subst e19; rw [turn_19] at h; cases h; rfl
  by_cases e22 : op = 22
  · subst e22; rw [turn_22] at h; cases h; rfl
  by_cases e20 : op = 20
  · subst e20
    cases hb : s.bl with
    | nil => rw [turn_20n i s hb] at h; cases h
    | cons b l => rw [turn_20 i s b l hb] at h; cases h; rfl
  by_cases e21 : op = 21
  · subst e21
    cases hb : s.bl with
    | nil => rw [turn_21n i s hb] at h; cases h
    | cons b l =>
      by_cases hk : s.k = (if b.did then b.kept else b.opn)
      · rw [turn_21 i s b l hb hk] at h; cases h; rfl
      · rw [turn_21e i s b l hb hk] at h; cases h
  rw [turn_no i op s e19 e22 e20 e21] at h
  cases h; rfl
theorem stp_seen {nt role i op a : Nat} {s t : St} (h : stp nt role i op a s = .ok t) : t.seen = s.seen := by
  unfold stp at h
  split at h
  · cases h
  · split at h
    · cases h
    · have h' := turn_seen h
      exact h'
theorem stp_pos {nt role i op a c : Nat} {s : St} (h : stp nt role i op a s = .error c) : c ≠ 0 := by
  unfold stp at h
  split at h
  · rename_i h1; cases h; exact h1
  · split at h
    · rename_i h1; cases h; exact h1
    · have : turn i op { s with k := left_ s.k op a } = .error c := h
      by_cases e22 : op = 22
      · subst e22; rw [turn_22] at this; cases this
      · have ht : tP i op { s with k := left_ s.k op a } = .error c := by unfold tP; rw [if_neg e22]; exact this
        rw [tP_err ht]; decide
end Ver
/-- a text is appended to a row of texts of the call's own -/
theorem TOwn.app1 {B : Nat} {v : Value} {l : List ByteArray} {w : World} (h : TOwn B v l w) (s : ByteArray) (hl : l.length ≤ 1000000) (hB : B ≤ w.heap.size) :
    ∃ v' w', (Builtin.append_ #[22, 22] 22 #[v, .slice (some ⟨w.heap.size, 0, none⟩) 1 1]).run Tryd.prog (w.alloc (.cells #[.string s] 9)) = .ok v' w' ∧ TOwn B v' (l ++ [s]) w' ∧ (w.alloc (.cells #[.string s] 9)).grownBy w' v.ownBlock := by
  obtain ⟨i0, hi, hz0, hz1, hz2⟩ := info_parts tstr_info
  obtain ⟨v', w', hr, h2, h3, _, _⟩ := run_append_own_at (P := Tryd.prog) (w := w.alloc (.cells #[.string s] 9)) B 22 22 9 i0 (.string ⟨#[]⟩) 1 16 Tryd.underlying22 hi hz0 hz1 hz2 rfl (by decide) v l.length (l.map Value.string) (h.new (obj_below w _)) ⟨w.heap.size, 0, none⟩ 1 1 [.string s] rfl (fun j u hu => cell_new_row w [.string s] _ j u hu) (fun u hu => by
    simp only [List.mem_cons, List.mem_nil_iff, or_false] at hu
    rw [hu]; rfl) (by unfold maxLen; omega) (by omega) (by rw [alloc_size]; omega)
  refine ⟨v', w', hr, ?_, h3⟩
  unfold TOwn
  rw [List.length_append, List.length_singleton, List.map_append]
  exact h2
/-- what was seen grows -/
theorem VAt.appSee {B q g n nt role : Nat} {bv bv' kv : Value} {S : Ver.St} {w w' : World} (h : VAt B q g n nt role bv kv S w) {l : List (List UInt8)} (hg : w.grownBy w' bv.ownBlock) (hb : TOwn B bv' (l.map Ver.kb) w') :
    VAt B q g n nt role bv' kv { S with seen := l } (w'.setCell ⟨q, 0, none⟩ bv') := by
  have hbox : w'.heap[q]? = some (.cells (stCells bv g n S role nt kv) 61 (0, 0)) := by rw [hg.block q (row_lt h.box) (Ne.symm h.vq)]; exact h.box
  have hrow : w'.heap[g]? = some (.cells (vints S.ends) 3 (0, 0)) := by rw [hg.block g (row_lt h.row) (Ne.symm h.vg)]; exact h.row
  have hblk : BOwn B kv (Ver.pbs S.bl) w' := h.blk.same (fun b hh => hg.block b (World.ownsRow.lt h.blk b hh).2 (fun e => h.vk hh e.symm))
  exact ⟨by rw [heap_setCell_same w' q 0 _ _ _ hbox]; rfl, hb.turned (grown_set w' q 0 _) (hb.off (by decide) hbox), set_other hrow (Ne.symm h.ne), h.len,
    hblk.same (fun b hh => Below.heap_setCell _ _ _ _ (fun e => hblk.off (by decide) hbox (by rw [hh]; simpa using e))), h.bq, h.bg, ⟨h.ok.at_, h.ok.nk, h.ok.nb, h.ok.op_, h.ok.bk⟩⟩
/-- how deep -/
theorem VAt.setD {B q g n nt role : Nat} {bv kv : Value} {S : Ver.St} {w : World} (h : VAt B q g n nt role bv kv S w) (d : Nat) : VAt B q g n nt role bv kv { S with deep := d } (w.setCell ⟨q, 2, none⟩ (.int .i64 (d : Int))) :=
  ⟨by rw [heap_setCell_same w q 2 _ _ _ h.box]; rfl, h.see.turned (grown_set w q 2 _) h.vq, set_other h.row (Ne.symm h.ne), h.len,
    h.blk.same (fun b hb => Below.heap_setCell _ _ _ _ (fun e => h.kq (by rw [hb]; simpa using e))), h.bq, h.bg, ⟨h.ok.at_, h.ok.nk, h.ok.nb, h.ok.op_, h.ok.bk⟩⟩
theorem PBox.turns {w W W' : World} {x : Pv} {S : Nat → Prop} (h : PBox w x W) (ht : Turns S W W') (h0 : ∀ j, S j → w.heap.size + 1 < j) : PBox w x W' :=
  ⟨h.b.trans (ht.below h.b.size (fun k _ hk => by have := h0 k hk; omega)), by rw [ht.block _ (row_lt h.p) (fun e => by have := h0 _ e; omega)]; exact h.p, by rw [ht.block _ (row_lt h.r) (fun e => by have := h0 _ e; omega)]; exact h.r⟩

theorem PBox.vt {w W W' : World} {x : Pv} {q g n nt role : Nat} {bv kv : Value} {S : Ver.St} (h : PBox w x W) (hv : VAt w.heap.size q g n nt role bv kv S W) (ht : Turns (VT q g kv) W W') (hq : w.heap.size + 1 < q) (hg : w.heap.size + 1 < g) : PBox w x W' :=
  h.turns ht fun j hj => by
    rcases hj with rfl | rfl | hj
    · exact hq
    · exact hg
    · have h1 := (World.ownsRow.lt hv.blk j hj).1
      have h2 : j ≠ w.heap.size := fun e => hv.blk.off (by decide) h.p (by rw [hj, e])
      have h3 : j ≠ w.heap.size + 1 := fun e => hv.blk.off (by decide) h.r (by rw [hj, e])
      omega
theorem PBox.see {w W W' : World} {x : Pv} {q g n nt role : Nat} {bv kv : Value} {S : Ver.St} (h : PBox w x W) (hv : VAt w.heap.size q g n nt role bv kv S W) (hg : W.grownBy W' bv.ownBlock) : PBox w x W' :=
  h.turns (Turns.of_grown hg) fun j hj => by
    have h1 := (World.ownsRow.lt hv.see j hj).1
    have h2 : j ≠ w.heap.size := fun e => hv.see.off (by decide) h.p (by rw [hj, e])
    have h3 : j ≠ w.heap.size + 1 := fun e => hv.see.off (by decide) h.r (by rw [hj, e])
    omega
theorem PBox.set {w W : World} {x : Pv} (h : PBox w x W) {q : Nat} (hq : w.heap.size + 1 < q) (i : Nat) (v : Value) : PBox w x (W.setCell ⟨q, i, none⟩ v) :=
  h.turns (Turns.set (Turns.refl (fun j => j = q) W) q i v (fun _ => rfl)) (fun j hj => by rw [hj]; exact hq)

set_option maxHeartbeats 4000000 in
theorem process_any {x : Pv} {ts : List ByteArray} {cs : List Cod.In} {w : World} (h : PrAt x ts cs w) (hk : Kn w) (role : Nat) (hn : x.n ≤ 140737488355328) (hm : x.m ≤ 140737488355328) :
    Calls Tryd.prog 18 #[x.v, .int .u8 (role : Int)] w (ProcR w cs.length (Ver.check (prog ts cs) role)) := by
  obtain ⟨E, hE⟩ : ∃ E, E = Ver.check (prog ts cs) role := ⟨_, rfl⟩
  rw [← hE]
  have hch := fun u (hu : Below w.heap.size w u) => check_any (h.keep hu) hn hm
  have hb1 := obj_below w (.cells #[.slice x.a x.n x.c, .slice x.b x.m x.d] 25)
  have hs1 := alloc_size w (.cells #[.slice x.a x.n x.c, .slice x.b x.m x.d] 25)
  have hp1 : (w.alloc (.cells #[.slice x.a x.n x.c, .slice x.b x.m x.d] 25)).heap[w.heap.size]? = some (.cells #[.slice x.a x.n x.c, .slice x.b x.m x.d] 25 (0, 0)) := alloc_at rfl
  have hb2 := obj_below (w.alloc (.cells #[.slice x.a x.n x.c, .slice x.b x.m x.d] 25)) (.cells #[.slice none 0 0, .slice none 0 0, .int .i64 0] 51)
  have hr2 : ((w.alloc (.cells #[.slice x.a x.n x.c, .slice x.b x.m x.d] 25)).alloc (.cells #[.slice none 0 0, .slice none 0 0, .int .i64 0] 51)).heap[w.heap.size + 1]? = some (.cells #[.slice none 0 0, .slice none 0 0, .int .i64 0] 51 (0, 0)) := alloc_at hs1.symm
  have hbox : PBox w x ((w.alloc (.cells #[.slice x.a x.n x.c, .slice x.b x.m x.d] 25)).alloc (.cells #[.slice none 0 0, .slice none 0 0, .int .i64 0] 51)) := ⟨hb1.trans (hb2.mono hb1.size), row_alloc hp1 _, hr2⟩
  clear hb1 hs1 hp1 hb2 hr2
  have HB := Lib.hid hbox; clear hbox
  have HE := Lib.hid hE; clear hE
  have HC := Lib.hid hch; clear hch
  have H := Lib.hid h; clear h
  have HK := Lib.hid hk; clear hk
  obtain ⟨xa, xn, xc, xb, xm, xd⟩ := x
  simp only at HB HC H hn hm
  unfold Pv.v at HC ⊢
  go_enter Tryd.func18, Tryd.ntmps18
  go_wp2_with fail
  refine (HC.out _ HB.out.b).mono ?_; rintro e w1 ⟨rfl, b1⟩
  have hB1 := HB.out.new b1
  obtain ⟨CH, hCH⟩ : ∃ CH, CH = chk ts cs := ⟨_, rfl⟩
  rw [← hCH]
  have HCH := Lib.hid hCH; clear hCH
  have HB1 := Lib.hid hB1; clear hB1 b1 HB HC
  have r0 : w1.cell? ⟨w.heap.size + 1, 0, none⟩ = some (.slice none 0 0) := by rw [cell_at HB1.out.r]; rfl
  have r1 : w1.cell? ⟨w.heap.size + 1, 1, none⟩ = some (.slice none 0 0) := by rw [cell_at HB1.out.r]; rfl
  have r2 : w1.cell? ⟨w.heap.size + 1, 2, none⟩ = some (.int .i64 0) := by rw [cell_at HB1.out.r]; rfl
  have f0 : w1.frozen? ⟨w.heap.size + 1, 0, none⟩ = false := row_free HB1.out.r 0
  have f1 : w1.frozen? ⟨w.heap.size + 1, 1, none⟩ = false := row_free HB1.out.r 1
  have f2 : w1.frozen? ⟨w.heap.size + 1, 2, none⟩ = false := row_free HB1.out.r 2
  have hbad : ∀ c : Nat, ProcR w cs.length (.error (0, c)) (.returned (.tuple #[.agg #[.slice none 0 0, .slice none 0 0, .int .i64 0], .int .i64 0, .int .i64 (c : Int)])) (((w1.setCell ⟨w.heap.size + 1, 0, none⟩ (.slice none 0 0)).setCell ⟨w.heap.size + 1, 1, none⟩ (.slice none 0 0)).setCell ⟨w.heap.size + 1, 2, none⟩ (.int .i64 0)) := fun c =>
    ProcR.err (((HB1.out.b.setCell (show w.heap.size ≤ w.heap.size + 1 by omega) _).setCell (show w.heap.size ≤ w.heap.size + 1 by omega) _).setCell (show w.heap.size ≤ w.heap.size + 1 by omega) _)
  have HBAD := Lib.hid hbad; clear hbad
  by_cases hmay : (prog ts cs).May
  rotate_left
  · have hc : CH = 2 := by rw [HCH.out]; exact chk_no hmay
    subst hc
    have hr : E = .error (0, 2) := by rw [HE.out]; unfold Ver.check; rw [if_neg (fun c => hmay c.1)]
    subst hr
    go_wp2_with fail
    refine bodyPost_ret (proc_results _ (w.heap.size + 1) _ _ _ _ _ _ rfl rfl rfl (zero_three HB1.out.r)) rfl ?_
    exact HBAD.out 2
  have hc : CH = 0 := by rw [HCH.out]; exact chk_yes hmay
  subst hc
  have HR := fun u => isRole_any role u
  obtain ⟨RO, hRO⟩ : ∃ RO, RO = Ver.Role role := ⟨_, rfl⟩
  rw [← hRO] at HR
  have Hmay := Lib.hid hmay; clear hmay
  have HRR := Lib.hid HR; clear HR
  have HRO := Lib.hid hRO; clear hRO
  cases RO with
  | false =>
    have hr : E = .error (0, 2) := by rw [HE.out]; unfold Ver.check; rw [if_neg (fun c => by rw [← HRO.out] at c; exact absurd c.2 (by decide))]
    subst hr
    go_wp2_with fail
    refine (HRR.out _).mono ?_; rintro e w2 ⟨rfl, rfl⟩
    go_wp2_with fail
    refine bodyPost_ret (proc_results _ (w.heap.size + 1) _ _ _ _ _ _ rfl rfl rfl (zero_three HB1.out.r)) rfl ?_
    exact HBAD.out 2
  | true =>
    have hall : E = Ver.all ts.length role cs := by
      rw [HE.out]
      unfold Ver.check
      rw [if_pos ⟨Hmay.out, HRO.out.symm⟩]
      show Ver.all (lists ts).length role cs = _
      rw [lists_length]
    have HAll := Lib.hid hall; clear hall
    have p0 : w1.cell? ⟨w.heap.size, 0, none⟩ = some (.slice xa xn xc) := by rw [cell_at HB1.out.p]; rfl
    have p1 : w1.cell? ⟨w.heap.size, 1, none⟩ = some (.slice xb xm xd) := by rw [cell_at HB1.out.p]; rfl
    have hbuild : ∀ u, (Instr.build 61 #[(1, .int .u8 (role : Int)), (2, .int .i64 (xn : Int))]).run Tryd.prog u = .ok (.agg #[.slice none 0 0, .slice none 0 0, .int .i64 0, .int .u8 (role : Int), .int .i64 (xn : Int), .string ⟨#[]⟩, .slice none 0 0]) u := fun u => run_build u _ _ _ (by kernel_rfl)
    have hmm := (may_iff ts cs).1 Hmay.out
    have hm256 : xm ≤ 256 := by have := hmm.2.1; have := H.out.m; simp only at this; omega
    have hn16 : xn ≤ 16 := by have := hmm.1; have := H.out.n; simp only at this; omega
    have hmake : ∀ u b, u.heap.size = b → (Instr.makeSlice 34 (.int .i64 (xm : Int)) (.int .i64 (xm : Int))).run Tryd.prog u = .ok (.slice (some ⟨b, 0, none⟩) xm xm) (u.alloc (.cells (vints (List.replicate xm 0)) 3)) := fun u b e => by rw [← e]; exact make_ints xm (by omega) u
    have hne1 : w1.heap.size ≠ w.heap.size := fun e => by have := row_lt HB1.out.p; omega
    have hA := HB1.out.new (obj_below w1 (.cells #[.slice none 0 0, .slice none 0 0, .int .i64 0, .int .u8 (role : Int), .int .i64 (xn : Int), .string ⟨#[]⟩, .slice none 0 0] 61))
    have pa : (w1.alloc (.cells #[.slice none 0 0, .slice none 0 0, .int .i64 0, .int .u8 (role : Int), .int .i64 (xn : Int), .string ⟨#[]⟩, .slice none 0 0] 61)).cell? ⟨w.heap.size, 1, none⟩ = some (.slice xb xm xd) := by rw [cell_at hA.p]; rfl
    have hsA := alloc_size w1 (.cells #[.slice none 0 0, .slice none 0 0, .int .i64 0, .int .u8 (role : Int), .int .i64 (xn : Int), .string ⟨#[]⟩, .slice none 0 0] 61)
    obtain ⟨q, hq⟩ : ∃ q, q = w1.heap.size := ⟨_, rfl⟩
    have hqw : w.heap.size + 1 < q := by rw [hq]; exact row_lt HB1.out.r
    have hZ : PBox w ⟨xa, xn, xc, xb, xm, xd⟩ ((w1.alloc (.cells #[.slice none 0 0, .slice (some ⟨w1.heap.size + 1, 0, none⟩) xm xm, .int .i64 0, .int .u8 (role : Int), .int .i64 (xn : Int), .string ⟨#[]⟩, .slice none 0 0] 61)).alloc (.cells (vints (List.replicate xm 0)) 3)) :=
      (HB1.out.new (obj_below w1 _)).new (obj_below _ _)
    have hV : VAt w.heap.size q (q + 1) xm xn role (.slice none 0 0) (.slice none 0 0) (Ver.St.init xm) ((w1.alloc (.cells #[.slice none 0 0, .slice (some ⟨w1.heap.size + 1, 0, none⟩) xm xm, .int .i64 0, .int .u8 (role : Int), .int .i64 (xn : Int), .string ⟨#[]⟩, .slice none 0 0] 61)).alloc (.cells (vints (List.replicate xm 0)) 3)) := by
      rw [hq]
      exact ⟨row_alloc (alloc_at rfl) _, World.ownsRow_nil _ _ _ _, alloc_at (by rw [alloc_size]), List.length_replicate, BOwn.nil _ _, by omega, by omega, ⟨fun b hb => (nomatch hb), Nat.zero_le _, Nat.zero_le _, fun b hb => (nomatch hb), fun b hb => (nomatch hb)⟩⟩
    have pz : ((w1.alloc (.cells #[.slice none 0 0, .slice (some ⟨w1.heap.size + 1, 0, none⟩) xm xm, .int .i64 0, .int .u8 (role : Int), .int .i64 (xn : Int), .string ⟨#[]⟩, .slice none 0 0] 61)).alloc (.cells (vints (List.replicate xm 0)) 3)).cell? ⟨w.heap.size, 1, none⟩ = some (.slice xb xm xd) := by rw [cell_at hZ.p]; rfl
    have HZ := Lib.hid hZ; clear hZ
    have HV := Lib.hid hV; clear hV
    have Hq := Lib.hid hq; clear hq
    clear hmm r0 r1 r2 f0 f1 f2 HBAD hA
    go_wp2_with fail
    refine (HRR.out _).mono ?_; rintro e w2 ⟨rfl, rfl⟩
    go_wp2_with fail
    obtain ⟨WZ, hWZ⟩ : ∃ WZ, WZ = ((w2.alloc (.cells #[.slice none 0 0, .slice (some ⟨w2.heap.size + 1, 0, none⟩) xm xm, .int .i64 0, .int .u8 (role : Int), .int .i64 (xn : Int), .string ⟨#[]⟩, .slice none 0 0] 61)).alloc (.cells (vints (List.replicate xm 0)) 3)) := ⟨_, rfl⟩
    have hZ := HZ.out
    have hV := HV.out
    have hqq := Hq.out
    rw [← hWZ] at hZ hV ⊢
    rw [← hqq]
    clear hWZ hqq pa pz p0 p1 hsA hne1 hmake hbuild HRR HB1 HZ HV Hq
    have HZ := Lib.hid hZ; clear hZ
    have HV := Lib.hid hV; clear hV
    have hlen : cs.length = xm := H.out.m
    go_loopw [35] (fun i wr => ∃ (k : Nat) (S : Ver.St) (bv kv : Value), k ≤ xm ∧ i = .int .i64 (k : Int) ∧ PBox w ⟨xa, xn, xc, xb, xm, xd⟩ wr ∧ VAt w.heap.size q (q + 1) xm xn role bv kv S wr ∧ Ver.go xn role (cs.take k) 0 (Ver.St.init cs.length) = .ok S ∧ S.seen.length = k) (fun i _ => xm - (intOf i).toNat)
    case atStart => exact ⟨0, Ver.St.init xm, .slice none 0 0, .slice none 0 0, Nat.zero_le _, rfl, HZ.out, HV.out, by rw [hlen]; rfl, rfl⟩
    case round =>
      clear HZ HV
      obtain ⟨k, S, bv, kv, hkm, rfl, hZ, hV, hgo, hsl⟩ := hrel
      have HZ := Lib.hid hZ; clear hZ
      have HV := Lib.hid hV; clear hV
      have HGo := Lib.hid hgo; clear hgo
      have Hsl := Lib.hid hsl; clear hsl
      have Hlen := Lib.hid hlen; clear hlen
      have hnt : ts.length = xn := H.out.n
      have Hnt := Lib.hid hnt; clear hnt
      by_cases hlt : k < xm
      · have hlt2 : (k : Int) < (xm : Int) := by omega
        obtain ⟨cb, off, rfl, ca, cb2⟩ := (H.out.keep HZ.out.b).i.2 k hlt
        have hinsk := ((may_iff ts cs).1 Hmay.out).2.2.2 k (by rw [Hlen.out]; exact hlt)
        obtain ⟨X, hX⟩ : ∃ X, X = cs.getD k (0, 0) := ⟨_, rfl⟩
        rw [← hX] at ca cb2 hinsk
        have hop := (Cod.ins_op hinsk).2
        have ha := X.2.toNat_lt
        have HX := Lib.hid hX; clear hX
        obtain ⟨o, ho⟩ : ∃ o, o = X.1.toNat := ⟨_, rfl⟩
        obtain ⟨a, haa⟩ : ∃ a, a = X.2.toNat := ⟨_, rfl⟩
        rw [← ho] at ca hop
        rw [← haa] at cb2 ha
        have Ho := Lib.hid ho; clear ho
        have Ha := Lib.hid haa; clear haa
        clear hinsk
        -- the instruction's own variable
        have hb1 := obj_below wr (.cells #[.int .u8 (o : Int), .int .u8 (a : Int)] 48)
        have hZ1 := HZ.out.new hb1
        have hV1 := HV.out.new hb1
        have hx1 : (wr.alloc (.cells #[.int .u8 (o : Int), .int .u8 (a : Int)] 48)).heap[wr.heap.size]? = some (.cells #[.int .u8 (o : Int), .int .u8 (a : Int)] 48 (0, 0)) := alloc_at rfl
        have hs1 := alloc_size wr (.cells #[.int .u8 (o : Int), .int .u8 (a : Int)] 48)
        have hqr : q < wr.heap.size := row_lt HV.out.box
        obtain ⟨bv', W2, hrun, hown, hgr⟩ := hV1.see.app1 (Ver.kb S.k) (by rw [List.length_map, Hsl.out]; omega) (by have := HZ.out.b.size; omega)
        rw [hs1] at hrun
        have hb2 := obj_below (wr.alloc (.cells #[.int .u8 (o : Int), .int .u8 (a : Int)] 48)) (.cells #[.string (Ver.kb S.k)] 9)
        have hV2 := hV1.new hb2
        have hZ2 := hZ1.new hb2
        have hx2 := row_alloc hx1 (.cells #[.string (Ver.kb S.k)] 9)
        have hown' : TOwn w.heap.size bv' ((S.seen ++ [S.k]).map Ver.kb) W2 := by rw [List.map_append]; exact hown
        have hV3 := hV2.appSee hgr hown'
        have hZ3 := (hZ2.see hV2 hgr).set hqw 0 bv'
        have hx2' : W2.heap[wr.heap.size]? = some (.cells #[.int .u8 (o : Int), .int .u8 (a : Int)] 48 (0, 0)) := by
          rw [hgr.block _ (row_lt hx2) (fun e => hV2.see.off (by decide) hx2 e.symm)]; exact hx2
        have hx3 : (W2.setCell ⟨q, 0, none⟩ bv').heap[wr.heap.size]? = some (.cells #[.int .u8 (o : Int), .int .u8 (a : Int)] 48 (0, 0)) := set_other hx2' (by omega)
        have q0 : (wr.alloc (.cells #[.int .u8 (o : Int), .int .u8 (a : Int)] 48)).cell? ⟨q, 0, none⟩ = some bv := hV1.c 0
        have q5 : (wr.alloc (.cells #[.int .u8 (o : Int), .int .u8 (a : Int)] 48)).cell? ⟨q, 5, none⟩ = some (.string (Ver.kb S.k)) := hV1.c 5
        have hq2 : W2.heap[q]? = some (.cells (stCells bv (q + 1) xm S role xn kv) 61 (0, 0)) := by rw [hgr.block q (row_lt hV2.box) (Ne.symm hV2.vq)]; exact hV2.box
        have q0' : W2.cell? ⟨q, 0, none⟩ = some bv := cell_at hq2 0
        have f0' : W2.frozen? ⟨q, 0, none⟩ = false := row_free hq2 0
        obtain ⟨LL, a', cap', hbv'⟩ : ∃ LL a' cap', bv' = .slice a' LL cap' := by
          obtain ⟨a', cap', e⟩ := hown.form
          exact ⟨_, a', cap', e⟩
        have x0 : (W2.setCell ⟨q, 0, none⟩ bv').cell? ⟨wr.heap.size, 0, none⟩ = some (.int .u8 (o : Int)) := by rw [cell_at hx3]; rfl
        have x1 : (W2.setCell ⟨q, 0, none⟩ bv').cell? ⟨wr.heap.size, 1, none⟩ = some (.int .u8 (a : Int)) := by rw [cell_at hx3]; rfl
        have hk3 := HK.out.keep hZ3.b
        have HZ3 := Lib.hid hZ3; clear hZ3 hZ2 hZ1
        have HV3 := Lib.hid hV3; clear hV3 hV2 hV1
        have HK3 := Lib.hid hk3; clear hk3
        have Hrun := Lib.hid hrun; clear hrun
        have Hbv := Lib.hid hbv'
        clear hown hown' hgr hx1 hx2 hx2' hx3 hq2 hb1 hb2 hs1
        obtain ⟨K, hK⟩ : ∃ K, K = Ver.kb S.k := ⟨_, rfl⟩
        rw [← hK] at q5 Hrun
        clear hK
        subst hbv'
        go_wp2_with (at_builtin; refine Edt.append_hap rfl (.tmp 42) (.tmp 45) 22 rfl bv (.slice (some ⟨wr.heap.size + 1, 0, none⟩) 1 1) _ W2 rfl rfl Hrun.out ?_)
        refine (step_any HV3.out HK3.out k o a hlt hm256 hop (by omega)).mono ?_
        rintro e W4 ⟨hbad, hgood⟩
        obtain ⟨SP, hSP⟩ : ∃ SP, SP = Ver.stp xn role k o a { S with seen := S.seen ++ [S.k] } := ⟨_, rfl⟩
        rw [← hSP] at hbad hgood
        have hstep := Ver.step_is xn role k o a S
        rw [← hSP] at hstep
        have hVR := HV3.out
        have hZR := HZ3.out
        cases SP with
        | error c =>
          obtain ⟨rfl, ht⟩ := hbad c rfl
          have hc := Ver.stp_pos hSP.symm
          have hZ4 := hZR.vt hVR ht hqw (by omega)
          simp only at hstep
          have hE : E = .error (k, c) := by
            rw [HAll.out, Hnt.out]
            exact Ver.all_bad (Ver.go_bad (by rw [Hlen.out]; exact hlt) HGo.out (by rw [← HX.out, ← Ho.out, ← Ha.out]; exact hstep))
          subst hE
          have r0 : W4.cell? ⟨w.heap.size + 1, 0, none⟩ = some (.slice none 0 0) := by rw [cell_at hZ4.r]; rfl
          have r1 : W4.cell? ⟨w.heap.size + 1, 1, none⟩ = some (.slice none 0 0) := by rw [cell_at hZ4.r]; rfl
          have r2 : W4.cell? ⟨w.heap.size + 1, 2, none⟩ = some (.int .i64 0) := by rw [cell_at hZ4.r]; rfl
          have g0 : W4.frozen? ⟨w.heap.size + 1, 0, none⟩ = false := row_free hZ4.r 0
          have g1 : W4.frozen? ⟨w.heap.size + 1, 1, none⟩ = false := row_free hZ4.r 1
          have g2 : W4.frozen? ⟨w.heap.size + 1, 2, none⟩ = false := row_free hZ4.r 2
          have hcz : ((c : Int) != 0) = true := bne_iff_ne.2 (by omega)
          have hres : ProcR w cs.length (.error (k, c)) (.returned (.tuple #[.agg #[.slice none 0 0, .slice none 0 0, .int .i64 0], .int .i64 (k : Int), .int .i64 (c : Int)])) (((W4.setCell ⟨w.heap.size + 1, 0, none⟩ (.slice none 0 0)).setCell ⟨w.heap.size + 1, 1, none⟩ (.slice none 0 0)).setCell ⟨w.heap.size + 1, 2, none⟩ (.int .i64 0)) :=
            ProcR.err (((hZ4.b.setCell (show w.heap.size ≤ w.heap.size + 1 by omega) _).setCell (show w.heap.size ≤ w.heap.size + 1 by omega) _).setCell (show w.heap.size ≤ w.heap.size + 1 by omega) _)
          have HRES := Lib.hid hres; clear hres
          have HZ4 := Lib.hid hZ4; clear hZ4
          clear hVR hZR hSP hstep hgood hbad ht q0 q0' q5 f0' x0 x1 ca cb2
          go_wp2_with fail
          refine bodyPost_ret (proc_results _ (w.heap.size + 1) _ _ _ _ _ _ rfl rfl rfl (zero_three HZ4.out.r)) rfl ?_
          exact HRES.out
        | ok T =>
          obtain ⟨rfl, kv', hV4, ht, hn4⟩ := hgood T rfl
          have hZ4 := hZR.vt hVR ht hqw (by omega)
          simp only at hstep
          have hgo' : Ver.go xn role (cs.take (k + 1)) 0 (Ver.St.init cs.length) = .ok { T with deep := max T.deep T.k.length } :=
            Ver.go_add (by rw [Hlen.out]; exact hlt) HGo.out (by rw [← HX.out, ← Ho.out, ← Ha.out]; exact hstep)
          have hV5 := hV4.setD (max T.deep T.k.length)
          have hZ5 := hZ4.set hqw 2 (.int .i64 ((max T.deep T.k.length : Nat) : Int))
          have hT16 : T.k.length ≤ 16 := hV4.ok.nk
          have hseen : T.seen = S.seen ++ [S.k] := Ver.stp_seen hSP.symm
          have hsl' : T.seen.length = k + 1 := by rw [hseen, List.length_append, Hsl.out]; rfl
          have q2 : W4.cell? ⟨q, 2, none⟩ = some (.int .i64 (T.deep : Int)) := hV4.c 2
          have q5 : W4.cell? ⟨q, 5, none⟩ = some (.string (Ver.kb T.k)) := hV4.c 5
          have g2 : W4.frozen? ⟨q, 2, none⟩ = false := hV4.f 2
          have zk : (Ver.kb T.k).size = T.k.length := Ver.kb_size _
          have HV5 := Lib.hid hV5; clear hV5 hV4
          have HZ5 := Lib.hid hZ5; clear hZ5 hZ4
          have Hgo' := Lib.hid hgo'; clear hgo'
          have Hsl' := Lib.hid hsl'; clear hsl'
          clear hVR hZR hSP hstep hgood hbad ht q0 q0' f0' x0 x1 ca cb2 hseen hn4
          generalize Ver.kb T.k = TK at *
          obtain ⟨D, hD⟩ : ∃ D, D = T.deep := ⟨_, rfl⟩
          obtain ⟨L, hL⟩ : ∃ L, L = T.k.length := ⟨_, rfl⟩
          rw [← hD] at q2
          rw [← hL] at zk hT16
          have HD := Lib.hid hD; clear hD
          have HL := Lib.hid hL; clear hL
          go_wp2_with fail
          go_roundw
          case rel =>
            have hmax : max (D : Int) (L : Int) = ((max T.deep T.k.length : Nat) : Int) := by rw [HD.out, HL.out]; omega
            rw [hmax]
            exact ⟨k + 1, { T with deep := max T.deep T.k.length }, _, kv', by omega, by go_num, HZ5.out, HV5.out, Hgo'.out, Hsl'.out⟩
          case measure => simp [intOf]; omega
      · obtain rfl : k = xm := by omega
        have hnl : ¬ (k : Int) < (k : Int) := by omega
        have hgo := HGo.out
        rw [List.take_of_length_le (by rw [Hlen.out]; exact Nat.le_refl _)] at hgo
        have HGo2 := Lib.hid hgo; clear hgo
        have HF := fun u (kk : VAt w.heap.size q (q + 1) k xn role bv kv S u) => finish_any kk
        obtain ⟨OV, hOV⟩ : ∃ OV, OV = Ver.over role S := ⟨_, rfl⟩
        rw [← hOV] at HF
        have HFi := Lib.hid HF; clear HF
        have HOV := Lib.hid hOV; clear hOV
        go_wp2_with fail
        refine (HFi.out _ HV.out).mono ?_; rintro e W4 ⟨rfl, b4⟩
        have hV4 := HV.out.new b4
        have hZ4 := HZ.out.new b4
        have r0 : W4.drew.cell? ⟨w.heap.size + 1, 0, none⟩ = some (.slice none 0 0) := by rw [show W4.drew.cell? _ = W4.cell? _ from rfl, cell_at hZ4.r]; rfl
        have r1 : W4.drew.cell? ⟨w.heap.size + 1, 1, none⟩ = some (.slice none 0 0) := by rw [show W4.drew.cell? _ = W4.cell? _ from rfl, cell_at hZ4.r]; rfl
        have r2 : W4.drew.cell? ⟨w.heap.size + 1, 2, none⟩ = some (.int .i64 0) := by rw [show W4.drew.cell? _ = W4.cell? _ from rfl, cell_at hZ4.r]; rfl
        have s0 : W4.cell? ⟨w.heap.size + 1, 0, none⟩ = some (.slice none 0 0) := r0
        have s1 : W4.cell? ⟨w.heap.size + 1, 1, none⟩ = some (.slice none 0 0) := r1
        have s2 : W4.cell? ⟨w.heap.size + 1, 2, none⟩ = some (.int .i64 0) := r2
        have g0 : W4.frozen? ⟨w.heap.size + 1, 0, none⟩ = false := row_free hZ4.r 0
        have g1 : W4.frozen? ⟨w.heap.size + 1, 1, none⟩ = false := row_free hZ4.r 1
        have g2 : W4.frozen? ⟨w.heap.size + 1, 2, none⟩ = false := row_free hZ4.r 2
        have g0' : W4.drew.frozen? ⟨w.heap.size + 1, 0, none⟩ = false := g0
        have g1' : W4.drew.frozen? ⟨w.heap.size + 1, 1, none⟩ = false := g1
        have g2' : W4.drew.frozen? ⟨w.heap.size + 1, 2, none⟩ = false := g2
        by_cases hov : OV = 0
        · subst hov
          have hE : E = .ok S := by rw [HAll.out, Hnt.out]; exact Ver.all_good HGo2.out HOV.out.symm
          subst hE
          obtain ⟨a', cap', hbv⟩ := hV4.see.form
          have q0 : W4.cell? ⟨q, 0, none⟩ = some bv := hV4.c 0
          have q1 : W4.cell? ⟨q, 1, none⟩ = some (.slice (some ⟨q + 1, 0, none⟩) k k) := hV4.c 1
          have q2 : W4.cell? ⟨q, 2, none⟩ = some (.int .i64 (S.deep : Int)) := hV4.c 2
          have hset : ∀ (u : World), u = (((W4.setCell ⟨w.heap.size + 1, 0, none⟩ bv).setCell ⟨w.heap.size + 1, 1, none⟩ (.slice (some ⟨q + 1, 0, none⟩) k k)).setCell ⟨w.heap.size + 1, 2, none⟩ (.int .i64 (S.deep : Int))) →
              ProcR w cs.length (.ok S) (.returned (.tuple #[.agg #[bv, .slice (some ⟨q + 1, 0, none⟩) k k, .int .i64 (S.deep : Int)], .int .i64 0, .int .i64 0])) u := by
            rintro u rfl
            have hg : W4.grownBy (((W4.setCell ⟨w.heap.size + 1, 0, none⟩ bv).setCell ⟨w.heap.size + 1, 1, none⟩ (.slice (some ⟨q + 1, 0, none⟩) k k)).setCell ⟨w.heap.size + 1, 2, none⟩ (.int .i64 (S.deep : Int))) (some (w.heap.size + 1)) := grown_trans (grown_trans (grown_set _ _ _ _) (grown_set _ _ _ _)) (grown_set _ _ _ _)
            refine ⟨((hZ4.b.setCell (show w.heap.size ≤ w.heap.size + 1 by omega) _).setCell (show w.heap.size ≤ w.heap.size + 1 by omega) _).setCell (show w.heap.size ≤ w.heap.size + 1 by omega) _, fun i c h => (nomatch h), fun S' h => ?_⟩
            cases h
            refine ⟨bv, q + 1, by rw [Hlen.out], hV4.see.turned hg (hV4.see.off (by decide) hZ4.r), grown_row hV4.row hg (by omega), by rw [Hlen.out]; exact hV4.len, by omega⟩
          have HS := Lib.hid hset; clear hset
          have HZ4 := Lib.hid hZ4; clear hZ4
          have HV4 := Lib.hid hV4; clear hV4
          clear r0 r1 r2 g0' g1' g2'
          subst hbv
          obtain ⟨D, hD⟩ : ∃ D, D = S.deep := ⟨_, rfl⟩
          rw [← hD] at q2 HS
          have HD := Lib.hid hD; clear hD
          generalize (S.seen.map Ver.kb).length = LL at *
          go_wp2_with fail
          refine bodyPost_ret (proc_results _ (w.heap.size + 1) _ _ _ _ _ _ rfl rfl rfl (zero_three HZ4.out.r)) rfl ?_
          exact HS.out _ rfl
        · have hE : E = .error (cs.length, OV) := by rw [HAll.out, Hnt.out, HOV.out]; exact Ver.all_over HGo2.out (by rw [← HOV.out]; exact hov)
          subst hE
          have hoz : ((OV : Int) != 0) = true := bne_iff_ne.2 (by omega)
          have pz : W4.drew.cell? ⟨w.heap.size, 1, none⟩ = some (.slice xb k xd) := by rw [show W4.drew.cell? _ = W4.cell? _ from rfl, cell_at hZ4.p]; rfl
          have pz' : W4.cell? ⟨w.heap.size, 1, none⟩ = some (.slice xb k xd) := pz
          have hres : ∀ u : World, u = (((W4.setCell ⟨w.heap.size + 1, 0, none⟩ (.slice none 0 0)).setCell ⟨w.heap.size + 1, 1, none⟩ (.slice none 0 0)).setCell ⟨w.heap.size + 1, 2, none⟩ (.int .i64 0)).drew → ProcR w cs.length (.error (cs.length, OV)) (.returned (.tuple #[.agg #[.slice none 0 0, .slice none 0 0, .int .i64 0], .int .i64 (k : Int), .int .i64 (OV : Int)])) u := by
            rintro u rfl
            rw [← Hlen.out]
            exact ProcR.err (((hZ4.b.setCell (show w.heap.size ≤ w.heap.size + 1 by omega) _).setCell (show w.heap.size ≤ w.heap.size + 1 by omega) _).setCell (show w.heap.size ≤ w.heap.size + 1 by omega) _).drew
          have HRES := Lib.hid hres; clear hres
          have HZ4 := Lib.hid hZ4; clear hZ4
          have HV4 := Lib.hid hV4; clear hV4
          go_wp2_with fail
          go_region
          go_wp2_with fail
          refine bodyPost_ret (proc_results _ (w.heap.size + 1) _ _ _ _ _ _ rfl rfl rfl (show _ = _ from zero_three HZ4.out.r)) rfl ?_
          exact HRES.out _ rfl
end Go.Proofs.YtolldoclnfnceaaDoor
