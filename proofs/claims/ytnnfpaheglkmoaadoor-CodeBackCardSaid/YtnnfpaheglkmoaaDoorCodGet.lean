/-
  What code.Get returns: the reader's panic is recovered.
-/
import Derived.Test.YtnnfpaheglkmoaaDoorCodProg
import Derived.Defers
import Derived.Recover
import Derived.Laws.Pointers
set_option linter.unusedVariables false
set_option maxRecDepth 100000
namespace Go.Proofs.YtnnfpaheglkmoaaDoor
open Go.RowKit

/-- what Get answers -/
def GetR (z : Option Cod.Pr) (e : Ending) (w' : World) : Prop :=
  (z = none ∧ e = .returned (.tuple #[Pv.nil.v, .int .i64 7])) ∨ ∃ p x ts cs, z = some p ∧ e = .returned (.tuple #[x, .int .i64 0]) ∧ (∃ y : Pv, x = y.v ∧ PrAt y ts cs w') ∧ prog ts cs = p

theorem catch_panicking (P E : Nat) (x y z : Value) (u : TypeId) (pv : Value) (older : List PanicEntry) (w : World) (h0 : w.heap[P]? = some (.cells #[x, y] 25 (0, 0))) (h1 : w.heap[E]? = some (.cells #[z] 29 (0, 0))) (hne : P ≠ E) :
    CallsD Tryd.prog 26 #[.pointer (some ⟨P, 0, none⟩), .pointer (some ⟨E, 0, none⟩)] (.panicking ({ v := .iface u pv, recovered := false } :: older)) w fun e u' w' =>
      e = .returned (.tuple #[]) ∧ u' = .panicking ({ v := .iface u pv, recovered := true } :: older) ∧ w' = ((w.setCell ⟨P, 0, none⟩ (.slice none 0 0)).setCell ⟨P, 1, none⟩ (.slice none 0 0)).setCell ⟨E, 0, none⟩ (.int .i64 7) := by
  have c0 : w.cell? ⟨P, 0, none⟩ = some x := by rw [cell_of_row _ _ 0 _ _ _ h0]; rfl
  have c1 : w.cell? ⟨P, 1, none⟩ = some y := by rw [cell_of_row _ _ 1 _ _ _ h0]; rfl
  have c2 : w.cell? ⟨E, 0, none⟩ = some z := by rw [cell_of_row _ _ 0 _ _ _ h1]; rfl
  have f0 := row_free h0 0
  have f1 := row_free h0 1
  have f2 := row_free h1 0
  have hne2 : ¬ E = P := fun e => hne e.symm
  refine callsD_of_wpS Tryd.func26 rfl fun c₀ cs hu => ?_
  apply wpS_seq
  apply wpS_region
  simp [wpOpsS, go_sem, recoverD, hu, Tryd.ntmps26, Exit.thenS]
  refine wpS_cond (t := true) (by simp [Act.eval, Array.replicate]) ?_
  simp only [if_true]
  refine wpS_of_wp ?_
  go_wp2_with fail
  simp [bodyPostS, results, Tryd.results26]

theorem catch_idle (P E : Nat) (w : World) :
    CallsD Tryd.prog 26 #[.pointer (some ⟨P, 0, none⟩), .pointer (some ⟨E, 0, none⟩)] .returning w fun e u' w' => e = .returned (.tuple #[]) ∧ u' = .returning ∧ w' = w := by
  refine callsD_of_wpS Tryd.func26 rfl fun c₀ cs hu => ?_
  apply wpS_seq
  apply wpS_region
  simp [wpOpsS, go_sem, recoverD, hu, Tryd.ntmps26, Exit.thenS]
  refine wpS_cond (t := false) (by simp [Act.eval, Array.replicate]) ?_
  simp only [Bool.false_eq_true, if_false]
  refine wpS_of_wp (wp_skip ?_)
  cases c₀
  simp_all [bodyPostS, results, Tryd.results26]
theorem get_results (tmps : Array Value) (P E : Nat) (x y e : Value) (W : World) (h2 : tmps.getD 2 undef = .pointer (some ⟨P, 0, none⟩)) (h3 : tmps.getD 3 undef = .pointer (some ⟨E, 0, none⟩)) (hp : W.heap[P]? = some (.cells #[x, y] 25 (0, 0))) (he : W.heap[E]? = some (.cells #[e] 29 (0, 0))) :
    (results Tryd.f12 tmps).run Tryd.prog W = .ok (.tuple #[.agg #[x, y], e]) W := by
  have h2' : tmps[2]?.getD undef = .pointer (some ⟨P, 0, none⟩) := by simpa using h2
  have h3' : tmps[3]?.getD undef = .pointer (some ⟨E, 0, none⟩) := by simpa using h3
  have d0 : W.cell? ⟨P, 0, none⟩ = some x := by rw [cell_of_row _ _ 0 _ _ _ hp]; rfl
  have d1 : W.cell? ⟨P, 1, none⟩ = some y := by rw [cell_of_row _ _ 1 _ _ _ hp]; rfl
  have c0 : W.cell? ⟨E, 0, none⟩ = some e := by rw [cell_of_row _ _ 0 _ _ _ he]; rfl
  simp [results, Tryd.results12, h2', h3', asAddr, go_sem, c0, d0, d1]

set_option maxHeartbeats 4000000 in
theorem get_any (s : ByteArray) (hs : s.size ≤ 1099511627776) (w : World) :
    Calls Tryd.prog 12 #[.string s] w fun e w' => GetR (Cod.get s.data.toList) e w' ∧ Below w.heap.size w w' := by
  have hmf : ∀ (fn : Fn) (first cap : Array Value) (w : World), (Instr.makeFunc fn first cap).run Tryd.prog w = .ok (.func fn first cap) w := fun _ _ _ _ => rfl
  obtain ⟨z, hz⟩ : ∃ z, z = Cod.get s.data.toList := ⟨_, rfl⟩
  rw [← hz]
  rw [Cod.get_rd] at hz
  have HZ := Lib.hid hz; clear hz
  have h1 := obj_below w (.cells #[.slice none 0 0, .slice none 0 0] 25)
  have r1 := heap_alloc_new w (.cells #[.slice none 0 0, .slice none 0 0] 25)
  have s1 : (w.alloc (.cells #[.slice none 0 0, .slice none 0 0] 25)).heap.size = w.heap.size + 1 := by simp
  have h2 := obj_below (w.alloc (.cells #[.slice none 0 0, .slice none 0 0] 25)) (.cells #[.int .i64 0] 29)
  have r2 := heap_alloc_new (w.alloc (.cells #[.slice none 0 0, .slice none 0 0] 25)) (.cells #[.int .i64 0] 29)
  have s2 : ((w.alloc (.cells #[.slice none 0 0, .slice none 0 0] 25)).alloc (.cells #[.int .i64 0] 29)).heap.size = w.heap.size + 1 + 1 := by simp
  have h3 := obj_below ((w.alloc (.cells #[.slice none 0 0, .slice none 0 0] 25)).alloc (.cells #[.int .i64 0] 29)) (.cells #[.string s] 61)
  have r3 := heap_alloc_new ((w.alloc (.cells #[.slice none 0 0, .slice none 0 0] 25)).alloc (.cells #[.int .i64 0] 29)) (.cells #[.string s] 61)
  have s3 : (((w.alloc (.cells #[.slice none 0 0, .slice none 0 0] 25)).alloc (.cells #[.int .i64 0] 29)).alloc (.cells #[.string s] 61)).heap.size = w.heap.size + 1 + 1 + 1 := by simp
  obtain ⟨W, hW⟩ : ∃ W, W = ((w.alloc (.cells #[.slice none 0 0, .slice none 0 0] 25)).alloc (.cells #[.int .i64 0] 29)).alloc (.cells #[.string s] 61) := ⟨_, rfl⟩
  have hbW : Below w.heap.size w W := by rw [hW]; exact h1.trans ((h2.mono h1.size).trans (h3.mono (Nat.le_trans h1.size h2.size)))
  have hP : W.heap[w.heap.size]? = some (.cells #[.slice none 0 0, .slice none 0 0] 25 (0, 0)) := by rw [hW]; exact row_alloc (row_alloc r1 _) _
  have hE : W.heap[w.heap.size + 1]? = some (.cells #[.int .i64 0] 29 (0, 0)) := by rw [hW, ← s1]; exact row_alloc r2 _
  have hR : RdAt (w.heap.size + 1 + 1) s.data.toList W := by
    unfold RdAt
    rw [ba_eta, hW, ← s2]
    exact r3
  have hsW : W.heap.size = w.heap.size + 3 := by rw [hW, s3]
  have HbW := Lib.hid hbW; clear hbW
  have HP := Lib.hid hP; clear hP
  have HE := Lib.hid hE; clear hE
  have HR := Lib.hid hR; clear hR
  have HsW := Lib.hid hsW; clear hsW
  have HW := Lib.hid hW.symm; clear hW
  clear h1 r1 s1 h2 r2 s2 h3 r3 s3
  go_enter_defers Tryd.func12, Tryd.ntmps12
  go_wp2_with fail
  rw [HW.out]
  refine (prog_any HR.out (by rw [ba_len]; exact hs)).mono ?_; rintro e w4 ⟨hr, hb⟩
  have hP4 := row_below HP.out hb (by omega)
  have hE4 := row_below HE.out hb (by omega)
  have hb4 : Below w.heap.size w w4 := HbW.out.trans (hb.mono (by omega))
  rcases hr with ⟨hz, rfl⟩ | ⟨p, rest, x, ts, cs, hz, rfl, ⟨y, rfl, hpr⟩, hpp, hrd⟩
  · have hzn : z = none := by rw [HZ.out, hz]; rfl
    go_wp2_with fail
    refine leaves_cons (f := 26) (args := #[.pointer (some ⟨w.heap.size, 0, none⟩), .pointer (some ⟨w.heap.size + 1, 0, none⟩)]) (by simp) (by simp [go_sem]) ?_
    refine (catch_panicking w.heap.size (w.heap.size + 1) _ _ _ _ _ [] _ hP4 hE4 (by omega)).mono ?_
    rintro e u' w'' ⟨rfl, rfl, rfl⟩
    have hP5 := set_two (x' := .slice none 0 0) (y' := .slice none 0 0) hP4
    have hE5 : ((w4.setCell ⟨w.heap.size, 0, none⟩ (.slice none 0 0)).setCell ⟨w.heap.size, 1, none⟩ (.slice none 0 0)).heap[w.heap.size + 1]? = some (.cells #[.int .i64 0] 29 (0, 0)) := set_other (set_other hE4 (by omega)) (by omega)
    refine ⟨_, get_results _ w.heap.size (w.heap.size + 1) _ _ _ _ rfl rfl (set_other hP5 (by omega)) (set_self hE5), .inl ⟨hzn, rfl⟩, ((hb4.setCell (Nat.le_refl _) _).setCell (Nat.le_refl _) _).setCell (by simp) _⟩
  · have hps := hpr
    obtain ⟨ya, yn, yc, yb, ym, yd⟩ := y
    unfold Pv.v
    simp only
    have f0 := row_free hP4 0
    have f1 := row_free hP4 1
    have c0 : w4.cell? ⟨w.heap.size, 0, none⟩ = some (.slice none 0 0) := by rw [cell_of_row _ _ 0 _ _ _ hP4]; rfl
    have c1 : w4.cell? ⟨w.heap.size, 1, none⟩ = some (.slice none 0 0) := by rw [cell_of_row _ _ 1 _ _ _ hP4]; rfl
    have fE := row_free hE4 0
    have cE : w4.cell? ⟨w.heap.size + 1, 0, none⟩ = some (.int .i64 0) := by rw [cell_of_row _ _ 0 _ _ _ hE4]; rfl
    have hP5 := set_two (x' := .slice ya yn yc) (y' := .slice yb ym yd) hP4
    obtain ⟨w5, hw5⟩ : ∃ w5, w5 = (w4.setCell ⟨w.heap.size, 0, none⟩ (.slice ya yn yc)).setCell ⟨w.heap.size, 1, none⟩ (.slice yb ym yd) := ⟨_, rfl⟩
    have hE5 : w5.heap[w.heap.size + 1]? = some (.cells #[.int .i64 0] 29 (0, 0)) := by rw [hw5]; exact set_other (set_other hE4 (by omega)) (by omega)
    have hR5 : RdAt (w.heap.size + 1 + 1) rest w5 := by rw [hw5]; exact set_other (set_other hrd (by omega)) (by omega)
    have hb5 : Below w.heap.size w w5 := by rw [hw5]; exact (hb4.setCell (Nat.le_refl _) _).setCell (Nat.le_refl _) _
    rw [← hw5] at hP5
    have hpr5 : PrAt ⟨ya, yn, yc, yb, ym, yd⟩ ts cs w5 := by
      refine hpr.past (fun b => b = w.heap.size) (fun b hlt hn => ?_) (fun b hb o => by subst hb; exact slices_only hP4 ⟨_, _, _, rfl⟩ ⟨_, _, _, rfl⟩ o)
      rw [hw5]
      exact (grown_trans (grown_set w4 w.heap.size 0 _) (grown_set _ w.heap.size 1 _)).block b hlt (fun e => hn (by simpa using e))
    have cR : ((w4.setCell ⟨w.heap.size, 0, none⟩ (.slice ya yn yc)).setCell ⟨w.heap.size, 1, none⟩ (.slice yb ym yd)).cell? ⟨w.heap.size + 1 + 1, 0, none⟩ = some (.string ⟨rest.toArray⟩) := by rw [← hw5]; exact hR5.cell
    have g0 : ((w4.setCell ⟨w.heap.size, 0, none⟩ (.slice ya yn yc)).setCell ⟨w.heap.size, 1, none⟩ (.slice yb ym yd)).cell? ⟨w.heap.size, 0, none⟩ = some (.slice ya yn yc) := by rw [← hw5, cell_of_row _ _ 0 _ _ _ hP5]; rfl
    have g1 : ((w4.setCell ⟨w.heap.size, 0, none⟩ (.slice ya yn yc)).setCell ⟨w.heap.size, 1, none⟩ (.slice yb ym yd)).cell? ⟨w.heap.size, 1, none⟩ = some (.slice yb ym yd) := by rw [← hw5, cell_of_row _ _ 1 _ _ _ hP5]; rfl
    have hsm := Cod.rd_small hz
    rw [← hpp] at hsm
    unfold prog at hsm
    simp only [lists_length] at hsm
    rw [hpr.n, hpr.m] at hsm
    simp only at hsm
    have hyn : yn ≤ 140737488355328 := by omega
    have hym : ym ≤ 140737488355328 := by omega
    have hck := check_any hpr5 hyn hym
    have hpf : z = Cod.fin (some (p, rest)) := by rw [HZ.out, hz]
    have Hpf := Lib.hid hpf; clear hpf hz
    have Hpr5 := Lib.hid hpr5; clear hpr5
    have HP5 := Lib.hid hP5; clear hP5
    have HE5 := Lib.hid hE5; clear hE5
    have Hb5 := Lib.hid hb5; clear hb5
    have Hck := Lib.hid hck; clear hck
    have Hw5 := Lib.hid hw5.symm; clear hw5
    have Hpp := Lib.hid hpp; clear hpp
    clear hpr hps hP4 hE4 hb4 hR5 hrd hb
    clear hsm hyn hym
    cases rest with
    | nil =>
      go_wp2_with fail
      rw [Hw5.out]
      unfold Pv.v at Hck
      simp only at Hck
      refine Hck.out.mono ?_; rintro e w6 ⟨rfl, h6⟩
      have hP6 := row_below HP5.out h6 (row_lt HP5.out)
      have hE6 := row_below HE5.out h6 (row_lt HE5.out)
      have hb6 := Hb5.out.trans (h6.mono Hb5.out.size)
      have hpr6 := Hpr5.out.keep h6
      have k0 : w6.cell? ⟨w.heap.size, 0, none⟩ = some (.slice ya yn yc) := by rw [cell_of_row _ _ 0 _ _ _ hP6]; rfl
      have k1 : w6.cell? ⟨w.heap.size, 1, none⟩ = some (.slice yb ym yd) := by rw [cell_of_row _ _ 1 _ _ _ hP6]; rfl
      have kE : w6.cell? ⟨w.heap.size + 1, 0, none⟩ = some (.int .i64 0) := by rw [cell_of_row _ _ 0 _ _ _ hE6]; rfl
      have q0 := row_free hP6 0
      have q1 := row_free hP6 1
      have qE := row_free hE6 0
      have HP6 := Lib.hid hP6; clear hP6
      have HE6 := Lib.hid hE6; clear hE6
      have Hb6 := Lib.hid hb6; clear hb6 h6
      have Hpr6 := Lib.hid hpr6; clear hpr6
      clear c0 c1 f0 f1 fE cE cR g0 g1
      by_cases hm : (prog ts cs).May
      · rw [chk_yes hm]
        have hzs : z = some p := by rw [Hpf.out, ← Hpp.out]; exact if_pos ⟨rfl, hm⟩
        have Hzs := Lib.hid hzs; clear hzs hm
        go_wp2_with fail
        refine leaves_cons (f := 26) (args := #[.pointer (some ⟨w.heap.size, 0, none⟩), .pointer (some ⟨w.heap.size + 1, 0, none⟩)]) (by simp) (by simp [go_sem]) ?_
        refine (catch_idle w.heap.size (w.heap.size + 1) _).mono ?_
        rintro e u' w'' ⟨rfl, rfl, rfl⟩
        have hE7 : ((w6.setCell ⟨w.heap.size, 0, none⟩ (.slice ya yn yc)).setCell ⟨w.heap.size, 1, none⟩ (.slice yb ym yd)).heap[w.heap.size + 1]? = some (.cells #[.int .i64 0] 29 (0, 0)) := set_other (set_other HE6.out (by omega)) (by omega)
        refine ⟨_, get_results _ w.heap.size (w.heap.size + 1) _ _ _ _ rfl rfl (set_other (set_two HP6.out) (by omega)) (set_self hE7), .inr ⟨p, _, ts, cs, Hzs.out, rfl, ⟨⟨ya, yn, yc, yb, ym, yd⟩, rfl, ?_⟩, Hpp.out⟩, ((Hb6.out.setCell (Nat.le_refl _) _).setCell (Nat.le_refl _) _).setCell (by simp) _⟩
        refine Hpr6.out.past (fun b => b = w.heap.size ∨ b = w.heap.size + 1) (fun b hlt hn => ?_) (fun b hb o => ?_)
        · have n1 : b ≠ w.heap.size := fun e => hn (.inl e)
          have n2 : b ≠ w.heap.size + 1 := fun e => hn (.inr e)
          rw [(grown_set _ (w.heap.size + 1) 0 _).block b (by simpa [World.setCell] using hlt) (fun e => n2 (by simpa using e))]
          exact (grown_trans (grown_set w6 w.heap.size 0 _) (grown_set _ w.heap.size 1 _)).block b hlt (fun e => n1 (by simpa using e))
        · rcases hb with rfl | rfl
          · exact slices_only HP6.out ⟨_, _, _, rfl⟩ ⟨_, _, _, rfl⟩ o
          · exact errno_only HE6.out o
      · rw [chk_no hm]
        have hzs : z = none := by rw [Hpf.out, ← Hpp.out]; exact if_neg (fun c => hm c.2)
        have Hzs := Lib.hid hzs; clear hzs hm
        go_wp2_with fail
        refine leaves_cons (f := 26) (args := #[.pointer (some ⟨w.heap.size, 0, none⟩), .pointer (some ⟨w.heap.size + 1, 0, none⟩)]) (by simp) (by simp [go_sem]) ?_
        refine (catch_idle w.heap.size (w.heap.size + 1) _).mono ?_
        rintro e u' w'' ⟨rfl, rfl, rfl⟩
        have hE7 : ((w6.setCell ⟨w.heap.size, 0, none⟩ (.slice none 0 0)).setCell ⟨w.heap.size, 1, none⟩ (.slice none 0 0)).heap[w.heap.size + 1]? = some (.cells #[.int .i64 0] 29 (0, 0)) := set_other (set_other HE6.out (by omega)) (by omega)
        exact ⟨_, get_results _ w.heap.size (w.heap.size + 1) _ _ _ _ rfl rfl (set_other (set_two HP6.out) (by omega)) (set_self hE7), .inl ⟨Hzs.out, rfl⟩, ((Hb6.out.setCell (Nat.le_refl _) _).setCell (Nat.le_refl _) _).setCell (by simp) _⟩
    | cons b m =>
      have hzs : z = none := by rw [Hpf.out, Cod.fin_more]
      have Hzs := Lib.hid hzs; clear hzs
      go_wp2_with fail
      refine leaves_cons (f := 26) (args := #[.pointer (some ⟨w.heap.size, 0, none⟩), .pointer (some ⟨w.heap.size + 1, 0, none⟩)]) (by simp) (by simp [go_sem]) ?_
      refine (catch_idle w.heap.size (w.heap.size + 1) _).mono ?_
      rintro e u' w'' ⟨rfl, rfl, rfl⟩
      rw [Hw5.out]
      have hE7 : ((w5.setCell ⟨w.heap.size, 0, none⟩ (.slice none 0 0)).setCell ⟨w.heap.size, 1, none⟩ (.slice none 0 0)).heap[w.heap.size + 1]? = some (.cells #[.int .i64 0] 29 (0, 0)) := set_other (set_other HE5.out (by omega)) (by omega)
      exact ⟨_, get_results _ w.heap.size (w.heap.size + 1) _ _ _ _ rfl rfl (set_other (set_two HP5.out) (by omega)) (set_self hE7), .inl ⟨Hzs.out, rfl⟩, ((Hb5.out.setCell (Nat.le_refl _) _).setCell (Nat.le_refl _) _).setCell (by simp) _⟩
end Go.Proofs.YtnnfpaheglkmoaaDoor
