/-
  What Check, Kinds, Deep and Ends answer.
-/
import Derived.Test.YtolldoclnfnceaaDoorVerProc
set_option linter.unusedVariables false
set_option maxRecDepth 100000
namespace Go.Proofs.YtolldoclnfnceaaDoor
open Go.RowKit

/-- a slice that reads as these numbers -/
def NRd (v : Value) (l : List Nat) (w : World) : Prop := ∃ a cap, v = .slice a l.length cap ∧ l.length ≤ cap ∧ ∀ j, j < l.length → ∃ b, a = some ⟨b, 0, none⟩ ∧ w.cell? ⟨b, j, none⟩ = some (.int .i64 ((l.getD j 0 : Nat) : Int))
theorem NRd.new {v : Value} {l : List Nat} {w w' : World} (h : NRd v l w) (hb : Below w.heap.size w w') : NRd v l w' := by
  obtain ⟨a, cap, rfl, hc, hf⟩ := h
  refine ⟨a, cap, rfl, hc, fun j hj => ?_⟩
  obtain ⟨b, rfl, e⟩ := hf j hj
  exact ⟨b, rfl, by rw [hb.cell (p := ⟨b, j, none⟩) (cell_lt e)]; exact e⟩
theorem NRd.nil (w : World) : NRd (.slice none 0 0) [] w := ⟨none, 0, rfl, Nat.le_refl _, fun j hj => by cases hj⟩
theorem SRd.nil (w : World) : SRd (.slice none 0 0) [] w := ⟨none, 0, rfl, Nat.le_refl _, fun j hj => by cases hj⟩
theorem NRd.row {g : Nat} {l : List Nat} {w : World} (h : w.heap[g]? = some (.cells (vints l) 3 (0, 0))) : NRd (.slice (some ⟨g, 0, none⟩) l.length l.length) l w :=
  ⟨_, _, rfl, Nat.le_refl _, fun j hj => ⟨g, rfl, by rw [cell_at h, vints_get l j hj]⟩⟩
theorem NRd.form {v : Value} {l : List Nat} {w : World} (h : NRd v l w) : ∃ a cap, v = .slice a l.length cap := by
  obtain ⟨a, cap, e, _⟩ := h
  exact ⟨a, cap, e⟩
theorem SRd.form {v : Value} {l : List ByteArray} {w : World} (h : SRd v l w) : ∃ a cap, v = .slice a l.length cap := by
  obtain ⟨a, cap, e, _⟩ := h
  exact ⟨a, cap, e⟩

abbrev VerE := Except (Nat × Nat) Ver.St
def vAt : VerE → Nat | .error x => x.1 | .ok _ => 0
def vErr : VerE → Nat | .error x => x.2 | .ok _ => 0
def vKinds : VerE → List ByteArray | .error _ => [] | .ok s => s.seen.map Ver.kb
def vDeep : VerE → Nat | .error _ => 0 | .ok s => s.deep
def vEnds : VerE → List Nat | .error _ => [] | .ok s => s.ends
/-- what process answers, in one form -/
structure ProcS (w : World) (r : VerE) (e : Ending) (w' : World) : Prop where
  ex : ∃ v1 v2, e = .returned (.tuple #[.agg #[v1, v2, .int .i64 (vDeep r : Int)], .int .i64 (vAt r : Int), .int .i64 (vErr r : Int)]) ∧ SRd v1 (vKinds r) w' ∧ NRd v2 (vEnds r) w'
  b : Below w.heap.size w w'
theorem process_same {x : Pv} {ts : List ByteArray} {cs : List Cod.In} {w : World} (h : PrAt x ts cs w) (hk : Kn w) (role : Nat) (hn : x.n ≤ 140737488355328) (hm : x.m ≤ 140737488355328) :
    Calls Tryd.prog 18 #[x.v, .int .u8 (role : Int)] w (ProcS w (Ver.check (prog ts cs) role)) := by
  refine (process_any h hk role hn hm).mono fun e w' hp => ⟨?_, hp.b⟩
  cases hc : Ver.check (prog ts cs) role with
  | error x =>
    obtain ⟨i, c⟩ := x
    exact ⟨_, _, hp.bad i c hc, SRd.nil _, NRd.nil _⟩
  | ok S =>
    obtain ⟨bv, g, he, h1, h2, h3, _⟩ := hp.good S hc
    refine ⟨bv, _, he, h1.reads, ?_⟩
    rw [← h3]
    exact NRd.row h2

set_option maxHeartbeats 1000000 in
theorem vcheck_any {x : Pv} {ts : List ByteArray} {cs : List Cod.In} {w : World} (h : PrAt x ts cs w) (hk : Kn w) (role : Nat) (hn : x.n ≤ 140737488355328) (hm : x.m ≤ 140737488355328) :
    Calls Tryd.prog 10 #[x.v, .int .u8 (role : Int)] w fun e w' => e = .returned (.tuple #[.int .i64 (vAt (Ver.check (prog ts cs) role) : Int), .int .i64 (vErr (Ver.check (prog ts cs) role) : Int)]) ∧ Below w.heap.size w w' := by
  obtain ⟨E, hE⟩ : ∃ E, E = Ver.check (prog ts cs) role := ⟨_, rfl⟩
  have C := fun u (k : PrAt x ts cs u) (kk : Kn u) => process_same k kk role hn hm
  rw [← hE] at C ⊢
  clear hE
  have hb1 := obj_below w (.cells #[.slice x.a x.n x.c, .slice x.b x.m x.d] 25)
  have h1 := h.keep hb1
  have k1 := hk.keep hb1
  have Hb1 := Lib.hid hb1; clear hb1
  have H1 := Lib.hid h1; clear h1 h
  have K1 := Lib.hid k1; clear k1 hk
  have HC := Lib.hid C; clear C
  obtain ⟨xa, xn, xc, xb, xm, xd⟩ := x
  simp only at Hb1 hn hm
  unfold Pv.v at HC ⊢
  go_enter Tryd.func10, Tryd.ntmps10
  go_wp2_with fail
  refine (HC.out _ H1.out K1.out).mono ?_; rintro e w1 ⟨⟨v1, v2, rfl, r1, r2⟩, b1⟩
  have hb := Hb1.out.trans (b1.mono Hb1.out.size)
  clear r1 r2 b1
  have HB := Lib.hid hb; clear hb
  go_wp2_with fail
  go_ret2
  exact ⟨rfl, HB.out⟩

set_option maxHeartbeats 1000000 in
theorem vkinds_any {x : Pv} {ts : List ByteArray} {cs : List Cod.In} {w : World} (h : PrAt x ts cs w) (hk : Kn w) (role : Nat) (hn : x.n ≤ 140737488355328) (hm : x.m ≤ 140737488355328) :
    Calls Tryd.prog 11 #[x.v, .int .u8 (role : Int)] w fun e w' => ∃ v, e = .returned (.tuple #[v, .int .i64 (vErr (Ver.check (prog ts cs) role) : Int)]) ∧ SRd v (vKinds (Ver.check (prog ts cs) role)) w' ∧ Below w.heap.size w w' := by
  obtain ⟨E, hE⟩ : ∃ E, E = Ver.check (prog ts cs) role := ⟨_, rfl⟩
  have C := fun u (k : PrAt x ts cs u) (kk : Kn u) => process_same k kk role hn hm
  rw [← hE] at C ⊢
  clear hE
  have hb1 := obj_below w (.cells #[.slice x.a x.n x.c, .slice x.b x.m x.d] 25)
  have h1 := h.keep hb1
  have k1 := hk.keep hb1
  have Hb1 := Lib.hid hb1; clear hb1
  have H1 := Lib.hid h1; clear h1 h
  have K1 := Lib.hid k1; clear k1 hk
  have HC := Lib.hid C; clear C
  obtain ⟨xa, xn, xc, xb, xm, xd⟩ := x
  simp only at Hb1 hn hm
  unfold Pv.v at HC ⊢
  go_enter Tryd.func11, Tryd.ntmps11
  go_wp2_with fail
  refine (HC.out _ H1.out K1.out).mono ?_; rintro e w1 ⟨⟨v1, v2, rfl, r1, r2⟩, b1⟩
  have hb := Hb1.out.trans (b1.mono Hb1.out.size)
  obtain ⟨a1, c1, e1⟩ := r1.form
  obtain ⟨a2, c2, e2⟩ := r2.form
  have hb2 := obj_below w1 (.cells #[v1, v2, .int .i64 (vDeep E : Int)] 51)
  have q1 := r1.new hb2
  have q2 := r2.new hb2
  have hb3 := hb.trans (hb2.mono hb.size)
  rw [e1, e2] at hb3
  rw [e1, e2] at q1 q2
  have Q1 := Lib.hid q1; clear q1 r1
  have Q2 := Lib.hid q2; clear q2 r2
  have HB := Lib.hid hb3; clear hb3 hb b1 hb2
  subst e1
  subst e2
  go_wp2_with fail
  go_ret2
  exact ⟨_, rfl, Q1.out, HB.out⟩

set_option maxHeartbeats 1000000 in
theorem vdeep_any {x : Pv} {ts : List ByteArray} {cs : List Cod.In} {w : World} (h : PrAt x ts cs w) (hk : Kn w) (role : Nat) (hn : x.n ≤ 140737488355328) (hm : x.m ≤ 140737488355328) :
    Calls Tryd.prog 12 #[x.v, .int .u8 (role : Int)] w fun e w' => e = .returned (.tuple #[.int .i64 (vDeep (Ver.check (prog ts cs) role) : Int), .int .i64 (vErr (Ver.check (prog ts cs) role) : Int)]) ∧ Below w.heap.size w w' := by
  obtain ⟨E, hE⟩ : ∃ E, E = Ver.check (prog ts cs) role := ⟨_, rfl⟩
  have C := fun u (k : PrAt x ts cs u) (kk : Kn u) => process_same k kk role hn hm
  rw [← hE] at C ⊢
  clear hE
  have hb1 := obj_below w (.cells #[.slice x.a x.n x.c, .slice x.b x.m x.d] 25)
  have h1 := h.keep hb1
  have k1 := hk.keep hb1
  have Hb1 := Lib.hid hb1; clear hb1
  have H1 := Lib.hid h1; clear h1 h
  have K1 := Lib.hid k1; clear k1 hk
  have HC := Lib.hid C; clear C
  obtain ⟨xa, xn, xc, xb, xm, xd⟩ := x
  simp only at Hb1 hn hm
  unfold Pv.v at HC ⊢
  go_enter Tryd.func12, Tryd.ntmps12
  go_wp2_with fail
  refine (HC.out _ H1.out K1.out).mono ?_; rintro e w1 ⟨⟨v1, v2, rfl, r1, r2⟩, b1⟩
  have hb := Hb1.out.trans (b1.mono Hb1.out.size)
  obtain ⟨a1, c1, e1⟩ := r1.form
  obtain ⟨a2, c2, e2⟩ := r2.form
  have hb2 := obj_below w1 (.cells #[v1, v2, .int .i64 (vDeep E : Int)] 51)
  have q1 := r1.new hb2
  have q2 := r2.new hb2
  have hb3 := hb.trans (hb2.mono hb.size)
  rw [e1, e2] at hb3
  rw [e1, e2] at q1 q2
  have Q1 := Lib.hid q1; clear q1 r1
  have Q2 := Lib.hid q2; clear q2 r2
  have HB := Lib.hid hb3; clear hb3 hb b1 hb2
  subst e1
  subst e2
  go_wp2_with fail
  go_ret2
  exact ⟨rfl, HB.out⟩

set_option maxHeartbeats 1000000 in
theorem vends_any {x : Pv} {ts : List ByteArray} {cs : List Cod.In} {w : World} (h : PrAt x ts cs w) (hk : Kn w) (role : Nat) (hn : x.n ≤ 140737488355328) (hm : x.m ≤ 140737488355328) :
    Calls Tryd.prog 13 #[x.v, .int .u8 (role : Int)] w fun e w' => ∃ v, e = .returned (.tuple #[v, .int .i64 (vErr (Ver.check (prog ts cs) role) : Int)]) ∧ NRd v (vEnds (Ver.check (prog ts cs) role)) w' ∧ Below w.heap.size w w' := by
  obtain ⟨E, hE⟩ : ∃ E, E = Ver.check (prog ts cs) role := ⟨_, rfl⟩
  have C := fun u (k : PrAt x ts cs u) (kk : Kn u) => process_same k kk role hn hm
  rw [← hE] at C ⊢
  clear hE
  have hb1 := obj_below w (.cells #[.slice x.a x.n x.c, .slice x.b x.m x.d] 25)
  have h1 := h.keep hb1
  have k1 := hk.keep hb1
  have Hb1 := Lib.hid hb1; clear hb1
  have H1 := Lib.hid h1; clear h1 h
  have K1 := Lib.hid k1; clear k1 hk
  have HC := Lib.hid C; clear C
  obtain ⟨xa, xn, xc, xb, xm, xd⟩ := x
  simp only at Hb1 hn hm
  unfold Pv.v at HC ⊢
  go_enter Tryd.func13, Tryd.ntmps13
  go_wp2_with fail
  refine (HC.out _ H1.out K1.out).mono ?_; rintro e w1 ⟨⟨v1, v2, rfl, r1, r2⟩, b1⟩
  have hb := Hb1.out.trans (b1.mono Hb1.out.size)
  obtain ⟨a1, c1, e1⟩ := r1.form
  obtain ⟨a2, c2, e2⟩ := r2.form
  have hb2 := obj_below w1 (.cells #[v1, v2, .int .i64 (vDeep E : Int)] 51)
  have q1 := r1.new hb2
  have q2 := r2.new hb2
  have hb3 := hb.trans (hb2.mono hb.size)
  rw [e1, e2] at hb3
  rw [e1, e2] at q1 q2
  have Q1 := Lib.hid q1; clear q1 r1
  have Q2 := Lib.hid q2; clear q2 r2
  have HB := Lib.hid hb3; clear hb3 hb b1 hb2
  subst e1
  subst e2
  go_wp2_with fail
  go_ret2
  exact ⟨_, rfl, Q2.out, HB.out⟩

end Go.Proofs.YtolldoclnfnceaaDoor
