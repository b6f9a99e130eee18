/-
  What chunk's short functions answer: which cutters may be, and how many pieces there are at most.
-/
import Derived.Test.YtofiimkpbbiegaaRabNew2
import Derived.Test.YtofiimkpbbiegaaRabRoll
set_option linter.unusedVariables false
set_option maxRecDepth 100000
namespace Go.Proofs.Ytofiimkpbbiegaa
open Go.RowKit

/-- a cutter -/
structure Ctr where
  p : Nat
  n : Int
  mn : Int
  mx : Int
  b : Int
def Ctr.v (c : Ctr) : Value := .agg #[.int .u64 c.p, .int .i64 c.n, .int .i64 c.mn, .int .i64 c.mx, .int .i64 c.b]
def Ctr.May (c : Ctr) : Prop := rabMay c.p c.n ∧ (c.n ≤ c.mn ∧ c.mn ≤ c.mx) ∧ (1 ≤ c.mx ∧ c.mx ≤ 4096) ∧ (0 ≤ c.b ∧ c.b ≤ 16)
instance (c : Ctr) : Decidable c.May := by unfold Ctr.May; infer_instance

theorem box_below (w : World) (o : Obj) : Below w.heap.size w (w.alloc o) := (Below.refl _ w).alloc (Nat.le_refl _) _

theorem rolls_any (c : Ctr) (hp : c.p < 18446744073709551616) (w : World) :
    Calls Try.prog 19 #[c.v] w fun e w' => e = .returned (.bool (decide (rabMay c.p c.n))) ∧ Below w.heap.size w w' := by
  obtain ⟨p, n, mn, mx, b⟩ := c
  unfold Ctr.v
  have hb := box_below w (.cells #[.int .u64 p, .int .i64 n, .int .i64 mn, .int .i64 mx, .int .i64 b] 24)
  have Hb := Lib.hid hb; clear hb
  by_cases h : rabMay p n
  · have cc := fun u => (check_any p n hp u).2 h
    have Cc := Lib.hid cc; clear cc
    rw [decide_eq_true h]
    clear h
    go_enter Try.func19, Try.ntmps19
    go_wp2_with fail
    refine (Cc.out _).mono ?_; rintro e w1 ⟨rfl, rfl⟩
    go_wp2_with fail
    go_ret
    exact ⟨rfl, Hb.out⟩
  · have cc := fun u => (check_any p n hp u).1 h
    have Cc := Lib.hid cc; clear cc
    rw [decide_eq_false h]
    clear h
    go_enter Try.func19, Try.ntmps19
    go_wp2_with fail
    refine (Cc.out _).mono ?_; rintro e w1 ⟨rfl, rfl⟩
    go_wp2_with fail
    go_ret
    exact ⟨rfl, Hb.out⟩

theorem hasMin_any (c : Ctr) (w : World) :
    Calls Try.prog 20 #[c.v] w fun e w' => e = .returned (.bool (decide (c.n ≤ c.mn ∧ c.mn ≤ c.mx))) ∧ Below w.heap.size w w' := by
  obtain ⟨p, n, mn, mx, b⟩ := c
  unfold Ctr.v
  have hb := box_below w (.cells #[.int .u64 p, .int .i64 n, .int .i64 mn, .int .i64 mx, .int .i64 b] 24)
  have Hb := Lib.hid hb; clear hb
  by_cases h1 : n ≤ mn
  · have g1 : decide (n ≤ mn) = true := decide_eq_true h1
    by_cases h2 : mn ≤ mx
    · have g2 : decide (mn ≤ mx) = true := decide_eq_true h2
      rw [decide_eq_true (⟨h1, h2⟩ : n ≤ mn ∧ mn ≤ mx)]
      clear h1 h2
      go_enter Try.func20, Try.ntmps20
      go_wp2_with fail
      go_ret
      exact ⟨rfl, Hb.out⟩
    · have g2 : decide (mn ≤ mx) = false := decide_eq_false h2
      rw [decide_eq_false (fun h => h2 h.2 : ¬ (n ≤ mn ∧ mn ≤ mx))]
      clear h1 h2
      go_enter Try.func20, Try.ntmps20
      go_wp2_with fail
      go_ret
      exact ⟨rfl, Hb.out⟩
  · have g1 : decide (n ≤ mn) = false := decide_eq_false h1
    rw [decide_eq_false (fun h => h1 h.1 : ¬ (n ≤ mn ∧ mn ≤ mx))]
    clear h1
    go_enter Try.func20, Try.ntmps20
    go_wp2_with fail
    go_ret
    exact ⟨rfl, Hb.out⟩

theorem hasMax_any (c : Ctr) (w : World) :
    Calls Try.prog 21 #[c.v] w fun e w' => e = .returned (.bool (decide (1 ≤ c.mx ∧ c.mx ≤ 4096))) ∧ Below w.heap.size w w' := by
  obtain ⟨p, n, mn, mx, b⟩ := c
  unfold Ctr.v
  have hb := box_below w (.cells #[.int .u64 p, .int .i64 n, .int .i64 mn, .int .i64 mx, .int .i64 b] 24)
  have Hb := Lib.hid hb; clear hb
  by_cases h1 : 1 ≤ mx
  · have g1 : decide (1 ≤ mx) = true := decide_eq_true h1
    by_cases h2 : mx ≤ 4096
    · have g2 : decide (mx ≤ 4096) = true := decide_eq_true h2
      rw [decide_eq_true (⟨h1, h2⟩ : 1 ≤ mx ∧ mx ≤ 4096)]
      clear h1 h2
      go_enter Try.func21, Try.ntmps21
      go_wp2_with fail
      go_ret
      exact ⟨rfl, Hb.out⟩
    · have g2 : decide (mx ≤ 4096) = false := decide_eq_false h2
      rw [decide_eq_false (fun h => h2 h.2 : ¬ (1 ≤ mx ∧ mx ≤ 4096))]
      clear h1 h2
      go_enter Try.func21, Try.ntmps21
      go_wp2_with fail
      go_ret
      exact ⟨rfl, Hb.out⟩
  · have g1 : decide (1 ≤ mx) = false := decide_eq_false h1
    rw [decide_eq_false (fun h => h1 h.1 : ¬ (1 ≤ mx ∧ mx ≤ 4096))]
    clear h1
    go_enter Try.func21, Try.ntmps21
    go_wp2_with fail
    go_ret
    exact ⟨rfl, Hb.out⟩

theorem hasBits_any (c : Ctr) (w : World) :
    Calls Try.prog 22 #[c.v] w fun e w' => e = .returned (.bool (decide (0 ≤ c.b ∧ c.b ≤ 16))) ∧ Below w.heap.size w w' := by
  obtain ⟨p, n, mn, mx, b⟩ := c
  unfold Ctr.v
  have hb := box_below w (.cells #[.int .u64 p, .int .i64 n, .int .i64 mn, .int .i64 mx, .int .i64 b] 24)
  have Hb := Lib.hid hb; clear hb
  by_cases h1 : 0 ≤ b
  · have g1 : decide (0 ≤ b) = true := decide_eq_true h1
    by_cases h2 : b ≤ 16
    · have g2 : decide (b ≤ 16) = true := decide_eq_true h2
      rw [decide_eq_true (⟨h1, h2⟩ : 0 ≤ b ∧ b ≤ 16)]
      clear h1 h2
      go_enter Try.func22, Try.ntmps22
      go_wp2_with fail
      go_ret
      exact ⟨rfl, Hb.out⟩
    · have g2 : decide (b ≤ 16) = false := decide_eq_false h2
      rw [decide_eq_false (fun h => h2 h.2 : ¬ (0 ≤ b ∧ b ≤ 16))]
      clear h1 h2
      go_enter Try.func22, Try.ntmps22
      go_wp2_with fail
      go_ret
      exact ⟨rfl, Hb.out⟩
  · have g1 : decide (0 ≤ b) = false := decide_eq_false h1
    rw [decide_eq_false (fun h => h1 h.1 : ¬ (0 ≤ b ∧ b ≤ 16))]
    clear h1
    go_enter Try.func22, Try.ntmps22
    go_wp2_with fail
    go_ret
    exact ⟨rfl, Hb.out⟩

/-- all four rules -/
theorem Ctr.rules (c : Ctr) (b0 b1 b2 b3 : Bool) (h0 : b0 = decide (rabMay c.p c.n)) (h1 : b1 = decide (c.n ≤ c.mn ∧ c.mn ≤ c.mx)) (h2 : b2 = decide (1 ≤ c.mx ∧ c.mx ≤ 4096)) (h3 : b3 = decide (0 ≤ c.b ∧ c.b ≤ 16)) :
    (if c.May then 0 else 2 : Int) = if b0 = true ∧ b1 = true ∧ b2 = true ∧ b3 = true then 0 else 2 := by
  subst h0 h1 h2 h3
  simp only [decide_eq_true_eq]
  rfl

set_option maxHeartbeats 1000000 in
theorem ccheck_any (c : Ctr) (hp : c.p < 18446744073709551616) (w : World) :
    Calls Try.prog 8 #[c.v] w fun e w' => e = .returned (.int .i64 (if c.May then 0 else 2)) ∧ Below w.heap.size w w' := by
  have c0 := fun u => rolls_any c hp u
  have c1 := fun u => hasMin_any c u
  have c2 := fun u => hasMax_any c u
  have c3 := fun u => hasBits_any c u
  have e := c.rules _ _ _ _ rfl rfl rfl rfl
  obtain ⟨R, hR⟩ : ∃ R, R = (if c.May then 0 else 2 : Int) := ⟨_, rfl⟩
  rw [← hR] at e ⊢
  generalize decide (rabMay c.p c.n) = b0 at *
  generalize decide (c.n ≤ c.mn ∧ c.mn ≤ c.mx) = b1 at *
  generalize decide (1 ≤ c.mx ∧ c.mx ≤ 4096) = b2 at *
  generalize decide (0 ≤ c.b ∧ c.b ≤ 16) = b3 at *
  have He := Lib.hid e; clear e hR
  obtain ⟨p, n, mn, mx, b⟩ := c
  unfold Ctr.v at *
  have C0 := Lib.hid c0; clear c0
  have C1 := Lib.hid c1; clear c1
  have C2 := Lib.hid c2; clear c2
  have C3 := Lib.hid c3; clear c3
  have hb := box_below w (.cells #[.int .u64 p, .int .i64 n, .int .i64 mn, .int .i64 mx, .int .i64 b] 24)
  have Hb := Lib.hid hb; clear hb
  have hr := heap_alloc_new w (.cells #[.int .u64 p, .int .i64 n, .int .i64 mn, .int .i64 mx, .int .i64 b] 24)
  have Hr := Lib.hid hr; clear hr
  go_enter Try.func8, Try.ntmps8
  go_wp2_with fail
  go_loopw [6] (fun i wr => ∃ k : Nat, k ≤ 4 ∧ i = .int .i64 (k : Int) ∧ (1 ≤ k → b0 = true) ∧ (2 ≤ k → b1 = true) ∧ (3 ≤ k → b2 = true) ∧ (4 ≤ k → b3 = true) ∧ Below w.heap.size w wr ∧ wr.heap[w.heap.size]? = some (.cells #[.int .u64 p, .int .i64 n, .int .i64 mn, .int .i64 mx, .int .i64 b] 24 (0, 0))) (fun i _ => 4 - (intOf i).toNat)
  case atStart => exact ⟨0, by omega, rfl, by omega, by omega, by omega, by omega, Hb.out, Hr.out⟩
  case round =>
    obtain ⟨k, hk, rfl, k0, k1, k2, k3, hbw, hrow⟩ := hrel
    have d0 : wr.cell? ⟨w.heap.size, 0, none⟩ = some (.int .u64 (p : Int)) := cell_of_row _ _ 0 _ _ _ hrow
    have d1 : wr.cell? ⟨w.heap.size, 1, none⟩ = some (.int .i64 n) := cell_of_row _ _ 1 _ _ _ hrow
    have d2 : wr.cell? ⟨w.heap.size, 2, none⟩ = some (.int .i64 mn) := cell_of_row _ _ 2 _ _ _ hrow
    have d3 : wr.cell? ⟨w.heap.size, 3, none⟩ = some (.int .i64 mx) := cell_of_row _ _ 3 _ _ _ hrow
    have d4 : wr.cell? ⟨w.heap.size, 4, none⟩ = some (.int .i64 b) := cell_of_row _ _ 4 _ _ _ hrow
    have Hrow := Lib.hid hrow; clear hrow
    have Hbw := Lib.hid hbw; clear hbw
    have K0 := Lib.hid k0; clear k0
    have K1 := Lib.hid k1; clear k1
    have K2 := Lib.hid k2; clear k2
    have K3 := Lib.hid k3; clear k3
    have x0 : ∀ u, (Instr.index 51 (.agg #[.func (.func 19) #[] #[], .func (.func 20) #[] #[], .func (.func 21) #[] #[], .func (.func 22) #[] #[]]) (.int .i64 0)).run Try.prog u = .ok (.func (.func 19) #[] #[]) u := fun u => by kernel_rfl
    have x1 : ∀ u, (Instr.index 51 (.agg #[.func (.func 19) #[] #[], .func (.func 20) #[] #[], .func (.func 21) #[] #[], .func (.func 22) #[] #[]]) (.int .i64 1)).run Try.prog u = .ok (.func (.func 20) #[] #[]) u := fun u => by kernel_rfl
    have x2 : ∀ u, (Instr.index 51 (.agg #[.func (.func 19) #[] #[], .func (.func 20) #[] #[], .func (.func 21) #[] #[], .func (.func 22) #[] #[]]) (.int .i64 2)).run Try.prog u = .ok (.func (.func 21) #[] #[]) u := fun u => by kernel_rfl
    have x3 : ∀ u, (Instr.index 51 (.agg #[.func (.func 19) #[] #[], .func (.func 20) #[] #[], .func (.func 21) #[] #[], .func (.func 22) #[] #[]]) (.int .i64 3)).run Try.prog u = .ok (.func (.func 22) #[] #[]) u := fun u => by kernel_rfl
    rcases (by omega : k = 0 ∨ k = 1 ∨ k = 2 ∨ k = 3 ∨ k = 4) with rfl | rfl | rfl | rfl | rfl
    · go_wp2_with fail
      refine (C0.out _).mono ?_; rintro e w1 ⟨rfl, h1⟩
      have hs := Hbw.out.size
      have hrow2 : w1.heap[w.heap.size]? = some (.cells #[.int .u64 p, .int .i64 n, .int .i64 mn, .int .i64 mx, .int .i64 b] 24 (0, 0)) := by rw [h1.block _ (row_lt Hrow.out)]; exact Hrow.out
      have hb2 := Hbw.out.trans (h1.mono hs)
      have Hrow2 := Lib.hid hrow2; clear hrow2
      have Hb2 := Lib.hid hb2; clear hb2 h1 hs
      cases b0 with
      | false =>
        have hre : R = 2 := by rw [He.out]; simp
        have Hre := Lib.hid hre; clear hre
        go_wp2_with fail
        go_ret
        exact ⟨by rw [Hre.out]; rfl, Hb2.out⟩
      | true =>
        go_wp2_with fail
        go_roundw
        case rel => exact ⟨1, by omega, rfl, fun _ => by trivial, by omega, by omega, by omega, Hb2.out, Hrow2.out⟩
        case measure => first | decide | (simp [intOf]; done) | (simp [intOf]; omega)
    · go_wp2_with fail
      refine (C1.out _).mono ?_; rintro e w1 ⟨rfl, h1⟩
      have hs := Hbw.out.size
      have hrow2 : w1.heap[w.heap.size]? = some (.cells #[.int .u64 p, .int .i64 n, .int .i64 mn, .int .i64 mx, .int .i64 b] 24 (0, 0)) := by rw [h1.block _ (row_lt Hrow.out)]; exact Hrow.out
      have hb2 := Hbw.out.trans (h1.mono hs)
      have Hrow2 := Lib.hid hrow2; clear hrow2
      have Hb2 := Lib.hid hb2; clear hb2 h1 hs
      cases b1 with
      | false =>
        have hre : R = 2 := by rw [He.out]; simp
        have Hre := Lib.hid hre; clear hre
        go_wp2_with fail
        go_ret
        exact ⟨by rw [Hre.out]; rfl, Hb2.out⟩
      | true =>
        go_wp2_with fail
        go_roundw
        case rel => exact ⟨2, by omega, rfl, fun _ => K0.out (by omega), fun _ => by trivial, by omega, by omega, Hb2.out, Hrow2.out⟩
        case measure => first | decide | (simp [intOf]; done) | (simp [intOf]; omega)
    · go_wp2_with fail
      refine (C2.out _).mono ?_; rintro e w1 ⟨rfl, h1⟩
      have hs := Hbw.out.size
      have hrow2 : w1.heap[w.heap.size]? = some (.cells #[.int .u64 p, .int .i64 n, .int .i64 mn, .int .i64 mx, .int .i64 b] 24 (0, 0)) := by rw [h1.block _ (row_lt Hrow.out)]; exact Hrow.out
      have hb2 := Hbw.out.trans (h1.mono hs)
      have Hrow2 := Lib.hid hrow2; clear hrow2
      have Hb2 := Lib.hid hb2; clear hb2 h1 hs
      cases b2 with
      | false =>
        have hre : R = 2 := by rw [He.out]; simp
        have Hre := Lib.hid hre; clear hre
        go_wp2_with fail
        go_ret
        exact ⟨by rw [Hre.out]; rfl, Hb2.out⟩
      | true =>
        go_wp2_with fail
        go_roundw
        case rel => exact ⟨3, by omega, rfl, fun _ => K0.out (by omega), fun _ => K1.out (by omega), fun _ => by trivial, by omega, Hb2.out, Hrow2.out⟩
        case measure => first | decide | (simp [intOf]; done) | (simp [intOf]; omega)
    · go_wp2_with fail
      refine (C3.out _).mono ?_; rintro e w1 ⟨rfl, h1⟩
      have hs := Hbw.out.size
      have hrow2 : w1.heap[w.heap.size]? = some (.cells #[.int .u64 p, .int .i64 n, .int .i64 mn, .int .i64 mx, .int .i64 b] 24 (0, 0)) := by rw [h1.block _ (row_lt Hrow.out)]; exact Hrow.out
      have hb2 := Hbw.out.trans (h1.mono hs)
      have Hrow2 := Lib.hid hrow2; clear hrow2
      have Hb2 := Lib.hid hb2; clear hb2 h1 hs
      cases b3 with
      | false =>
        have hre : R = 2 := by rw [He.out]; simp
        have Hre := Lib.hid hre; clear hre
        go_wp2_with fail
        go_ret
        exact ⟨by rw [Hre.out]; rfl, Hb2.out⟩
      | true =>
        go_wp2_with fail
        go_roundw
        case rel => exact ⟨4, by omega, rfl, fun _ => K0.out (by omega), fun _ => K1.out (by omega), fun _ => K2.out (by omega), fun _ => by trivial, Hb2.out, Hrow2.out⟩
        case measure => first | decide | (simp [intOf]; done) | (simp [intOf]; omega)
    · have hre : R = 0 := by rw [He.out, if_pos ⟨K0.out (by omega), K1.out (by omega), K2.out (by omega), K3.out (by omega)⟩]
      have Hre := Lib.hid hre; clear hre
      go_wp2_with fail
      go_ret
      exact ⟨by rw [Hre.out]; rfl, Hbw.out⟩

/-- a cutter's own box -/
def CtrAt (c : Ctr) (b : Nat) (w : World) : Prop := w.heap[b]? = some (.cells #[.int .u64 c.p, .int .i64 c.n, .int .i64 c.mn, .int .i64 c.mx, .int .i64 c.b] 24 (0, 0))
section
variable {c : Ctr} {b : Nat} {w w' : World}
theorem CtrAt.c0 (h : CtrAt c b w) : w.cell? ⟨b, 0, none⟩ = some (.int .u64 c.p) := cell_of_row _ _ 0 _ _ _ h
theorem CtrAt.c1 (h : CtrAt c b w) : w.cell? ⟨b, 1, none⟩ = some (.int .i64 c.n) := cell_of_row _ _ 1 _ _ _ h
theorem CtrAt.c2 (h : CtrAt c b w) : w.cell? ⟨b, 2, none⟩ = some (.int .i64 c.mn) := cell_of_row _ _ 2 _ _ _ h
theorem CtrAt.c3 (h : CtrAt c b w) : w.cell? ⟨b, 3, none⟩ = some (.int .i64 c.mx) := cell_of_row _ _ 3 _ _ _ h
theorem CtrAt.c4 (h : CtrAt c b w) : w.cell? ⟨b, 4, none⟩ = some (.int .i64 c.b) := cell_of_row _ _ 4 _ _ _ h
theorem CtrAt.new (h : CtrAt c b w) (hb : Below w.heap.size w w') : CtrAt c b w' := by unfold CtrAt; rw [hb.block _ (row_lt h)]; exact h
theorem CtrAt.box (c : Ctr) (w : World) : CtrAt c w.heap.size (w.alloc (.cells #[.int .u64 c.p, .int .i64 c.n, .int .i64 c.mn, .int .i64 c.mx, .int .i64 c.b] 24)) := heap_alloc_new _ _
end
/-- how many pieces there are at most -/
def Ctr.most (c : Ctr) (n : Int) : Int := n / c.mn + (if 0 < n % c.mn then 1 else 0)
set_option maxHeartbeats 1000000 in
theorem most_any (c : Ctr) (hp : c.p < 18446744073709551616) (n : Int) (hn : n ≤ 9223372036854775807) (w : World) :
    Calls Try.prog 12 #[c.v, .int .i64 n] w fun e w' => (e = .returned (if c.May ∧ 0 ≤ n then .tuple #[.int .i64 (c.most n), .int .i64 0] else .tuple #[.int .i64 0, .int .i64 2])) ∧ Below w.heap.size w w' := by
  have cc := fun u => ccheck_any c hp u
  obtain ⟨V, hV⟩ : ∃ V, V = (if c.May ∧ 0 ≤ n then .tuple #[.int .i64 (c.most n), .int .i64 0] else .tuple #[.int .i64 0, .int .i64 2] : Value) := ⟨_, rfl⟩
  rw [← hV]
  have hbw := box_below w (.cells #[.int .u64 c.p, .int .i64 c.n, .int .i64 c.mn, .int .i64 c.mx, .int .i64 c.b] 24)
  have hrow := CtrAt.box c w
  have Hbw := Lib.hid hbw; clear hbw
  have Hrow := Lib.hid hrow; clear hrow
  by_cases hm : c.May
  · rw [if_pos hm] at cc
    have hmn : 1 ≤ c.mn := by have := hm.1.2.1; have := hm.2.1.1; omega
    have hn0 : ¬ c.mn = 0 := by omega
    have hn1 : decide (c.mn = 0) = false := decide_eq_false hn0
    unfold Ctr.v at *
    have Cc := Lib.hid cc; clear cc
    by_cases h0 : 0 ≤ n
    · rw [if_pos ⟨hm, h0⟩] at hV
      have g0 : decide (n < 0) = false := decide_eq_false (by omega)
      have e1 : n.tdiv c.mn = n / c.mn := Int.tdiv_eq_ediv_of_nonneg h0
      have e2 : n.tmod c.mn = n % c.mn := Int.tmod_eq_emod_of_nonneg h0
      have b1 : 0 ≤ n / c.mn := Int.ediv_nonneg h0 (by omega)
      have b2 : n / c.mn ≤ n := Int.ediv_le_self _ h0
      have hV2 : V = .tuple #[.int .i64 (n / c.mn + (if 0 < n % c.mn then 1 else 0)), .int .i64 0] := hV
      have hmx : 0 < c.mn := by omega
      clear hm hmn hV
      by_cases h1 : 0 < n % c.mn
      · rw [if_pos h1] at hV2
        have b3 : n / c.mn + 1 ≤ n := by
          rcases (by omega : c.mn = 1 ∨ 2 ≤ c.mn) with h2 | h2
          · rw [h2, Int.emod_one] at h1; omega
          · have h3 := Int.mul_ediv_add_emod n c.mn
            have h4 : 2 * (n / c.mn) ≤ c.mn * (n / c.mn) := Int.mul_le_mul_of_nonneg_right h2 b1
            omega
        have g1 : decide (0 < n % c.mn) = true := decide_eq_true h1
        subst hV2
        clear h1 h0
        go_enter Try.func12, Try.ntmps12
        go_wp2_with fail
        refine (Cc.out _).mono ?_; rintro e w1 ⟨rfl, h1⟩
        have d2 := (Hrow.out.new h1).c2
        have hb2 := Hbw.out.trans (h1.mono Hbw.out.size)
        have Hb2 := Lib.hid hb2; clear hb2 h1
        go_wp2_with fail
        go_ret2
        exact ⟨rfl, Hb2.out⟩
      · rw [if_neg h1, Int.add_zero] at hV2
        have g1 : decide (0 < n % c.mn) = false := decide_eq_false h1
        subst hV2
        clear h1 h0
        go_enter Try.func12, Try.ntmps12
        go_wp2_with fail
        refine (Cc.out _).mono ?_; rintro e w1 ⟨rfl, h1⟩
        have d2 := (Hrow.out.new h1).c2
        have hb2 := Hbw.out.trans (h1.mono Hbw.out.size)
        have Hb2 := Lib.hid hb2; clear hb2 h1
        go_wp2_with fail
        go_ret2
        exact ⟨rfl, Hb2.out⟩
    · rw [if_neg (fun h => h0 h.2)] at hV
      have g0 : decide (n < 0) = true := decide_eq_true (by omega)
      subst hV; clear hm h0
      go_enter Try.func12, Try.ntmps12
      go_wp2_with fail
      refine (Cc.out _).mono ?_; rintro e w1 ⟨rfl, h1⟩
      have hb2 := Hbw.out.trans (h1.mono Hbw.out.size)
      have Hb2 := Lib.hid hb2; clear hb2 h1
      go_wp2_with fail
      go_ret2
      exact ⟨rfl, Hb2.out⟩
  · rw [if_neg hm] at cc
    rw [if_neg (fun h => hm h.1)] at hV
    subst hV; clear hm
    unfold Ctr.v at *
    have Cc := Lib.hid cc; clear cc
    go_enter Try.func12, Try.ntmps12
    go_wp2_with fail
    refine (Cc.out _).mono ?_; rintro e w1 ⟨rfl, h1⟩
    have hb2 := Hbw.out.trans (h1.mono Hbw.out.size)
    have Hb2 := Lib.hid hb2; clear hb2 h1
    go_wp2_with fail
    go_ret2
    exact ⟨rfl, Hb2.out⟩
end Go.Proofs.Ytofiimkpbbiegaa
