/-
  What Open returns.
-/
import Derived.Test.YtjmpagbjkehebaaWalCopy
import Derived.Test.YtjmpagbjkehebaaWalSmall
import Derived.Test.YtjmpagbjkehebaaWalFollow
import Derived.Test.YtjmpagbjkehebaaGoPhase
import Derived.Test.YtjmpagbjkehebaaWalOpn4
set_option linter.unusedVariables false
set_option maxRecDepth 100000
namespace Go.Proofs.Ytjmpagbjkehebaa
open Go.RowKit

theorem open_nil (from_ n : Int) (w : World) : Calls Try.prog 7 #[.pointer none, .int .i64 from_, .int .i64 n] w fun e w' => e = .returned (.tuple #[.pointer none, .int .i64 1]) ∧ Below w.heap.size w w' := by
  go_enter Try.func7, Try.ntmps7
  go_wp2
  go_ret2
  refine ⟨rfl, ?_⟩
  exact (((Below.refl _ w).alloc (Nat.le_refl _) _).alloc (by simp) _).alloc (by simp; omega) _

section
variable {S : Nat → Prop} {p : Nat} {d : Dsk.St} {w : World}
theorem open_arg (h : DiskAt S p d w) (from_ n : Int) (hf : -9223372036854775808 ≤ from_ ∧ from_ ≤ 9223372036854775807) (hn : -9223372036854775808 ≤ n ∧ n ≤ 9223372036854775807) (hb : n < 2 ∨ ¬ (0 ≤ from_ ∧ n ≤ (d.n : Int) - from_)) :
    Calls Try.prog 7 #[.pointer (some ⟨p, 0, none⟩), .int .i64 from_, .int .i64 n] w fun e w' => e = .returned (.tuple #[.pointer none, .int .i64 2]) ∧ Below w.heap.size w w' := by
  have hbel : ∀ x y z : Obj, Below w.heap.size w (((w.alloc x).alloc y).alloc z) := fun x y z => (((Below.refl _ w).alloc (Nat.le_refl _) _).alloc (by simp) _).alloc (by simp; omega) _
  have Hbel := Lib.hid hbel; clear hbel
  by_cases h2 : n < 2
  · have hx : decide (n < 2) = true := decide_eq_true h2
    clear h hb
    go_enter Try.func7, Try.ntmps7
    go_wp2
    go_ret2
    exact ⟨rfl, Hbel.out _ _ _⟩
  · have hx : decide (n < 2) = false := decide_eq_false h2
    have hb2 : ¬ (0 ≤ from_ ∧ n ≤ (d.n : Int) - from_) := by
      rcases hb with hb | hb
      · exact absurd hb h2
      · exact hb
    have hh := fun (u : World) (hu : DiskAt S p d u) => walHas_any hu from_ n hf hn
    have hc := hh _ (h.new (Hbel.out (.cells #[.pointer (some ⟨p, 0, none⟩)] 25) (.cells #[.int .i64 from_] 3) (.cells #[.int .i64 n] 3)))
    rw [decide_eq_false hb2] at hc
    have Hc := Lib.hid hc; clear hc
    clear h hb hh hb2
    go_enter Try.func7, Try.ntmps7
    go_wp2_with fail
    refine Hc.out.mono ?_; rintro e w1 ⟨rfl, rfl⟩
    go_wp2_with fail
    go_ret2
    exact ⟨rfl, Hbel.out _ _ _⟩

end

/-! what Open's steps come to -/
def opG : Nat → Nat
  | 0 => 21
  | 1 => 23
  | 2 => 25
  | _ => 26
def opL (B : Nat) : Nat → Array Value
  | 0 => #[.pointer (some ⟨B, 0, none⟩), .pointer (some ⟨B + 1, 0, none⟩), .pointer (some ⟨B + 5, 0, none⟩)]
  | 1 => #[.pointer (some ⟨B + 5, 0, none⟩), .pointer (some ⟨B + 2, 0, none⟩), .pointer (some ⟨B + 4, 0, none⟩)]
  | 2 => #[.pointer (some ⟨B, 0, none⟩), .pointer (some ⟨B + 1, 0, none⟩), .pointer (some ⟨B + 4, 0, none⟩), .pointer (some ⟨B + 6, 0, none⟩)]
  | _ => #[.pointer (some ⟨B + 6, 0, none⟩), .pointer (some ⟨B + 4, 0, none⟩)]
section
variable (d : Dsk.St) (k n : Nat)
def opHd : ByteArray := ba (Dsk.read d (k : Int) 1).1
def opM : Option (Nat × Nat) := Wal.readMark (opHd d k).data.toList (n - 1)
def opGen : Nat := ((opM d k n).getD (0, 0)).1
def opU : Nat := ((opM d k n).getD (0, 0)).2
def opBd : ByteArray := ba (Dsk.read d ((k : Int) + 1) (opU d k n : Int)).1
def opR : Option (List Wal.Grp) := Wal.readGroups (64 * opU d k n) (opBd d k n).data.toList
def opE : Nat → Int
  | 0 => (Dsk.read d (k : Int) 1).2
  | 1 => markE (opM d k n)
  | 2 => (Dsk.read d ((k : Int) + 1) (opU d k n : Int)).2
  | _ => grpsE (opR d k n)
variable {d k n}
theorem read_fit (h2 : k + n ≤ d.n) : (d.down = true ∧ Dsk.read d (k : Int) (n : Int) = ([], 40)) ∨ (d.down = false ∧ Dsk.read d (k : Int) (n : Int) = (Dsk.rd d k n, 0)) := by
  unfold Dsk.read
  cases hd : d.down with
  | true => exact .inl ⟨rfl, by simp⟩
  | false =>
    refine .inr ⟨rfl, ?_⟩
    rw [if_neg (by simp), if_pos ⟨by omega, by omega, by omega⟩]
    simp
theorem opU_le (h2 : 2 ≤ n) : opU d k n ≤ n - 1 ∧ (∀ x, opM d k n = some x → x = (opGen d k n, opU d k n)) := by
  unfold opU opGen
  cases hm : opM d k n with
  | none => exact ⟨by simp, fun x hx => by cases hx⟩
  | some x =>
    obtain ⟨g, u⟩ := x
    have := Wal.readMark_le (s := (opHd d k).data.toList) hm
    exact ⟨this.1, fun y hy => by cases hy; rfl⟩
theorem open_eval (h2 : 2 ≤ n) (hfit : k + n ≤ d.n) :
    (opE d k n 0 ≠ 0 → Wal.open_ d (k : Int) (n : Int) = (none, opE d k n 0)) ∧
    (opE d k n 0 = 0 → opE d k n 1 ≠ 0 → Wal.open_ d (k : Int) (n : Int) = (none, opE d k n 1)) ∧
    (opE d k n 0 = 0 → opE d k n 2 = 0 ∧ d.down = false ∧ (opHd d k) = ba (Dsk.rd d k 1) ∧ opBd d k n = ba (Dsk.rd d (k + 1) (opU d k n))) ∧
    (opE d k n 0 = 0 → opE d k n 1 = 0 → opE d k n 3 ≠ 0 → Wal.open_ d (k : Int) (n : Int) = (none, opE d k n 3)) ∧
    (opE d k n 0 = 0 → opE d k n 1 = 0 → opE d k n 3 = 0 → ∃ L, opR d k n = some L ∧ Wal.open_ d (k : Int) (n : Int) = (some ⟨opGen d k n, opU d k n, k, n, L, 0⟩, 0)) := by
  have r1 := read_fit (d := d) (k := k) (n := 1) (by omega)
  have hu := opU_le (d := d) (k := k) h2
  have r2 := read_fit (d := d) (k := k + 1) (n := opU d k n) (by omega)
  have e1 : ((k + 1 : Nat) : Int) = (k : Int) + 1 := by omega
  rw [e1] at r2
  have hr : ¬ ((n : Int) < 2 ∨ ¬ (0 ≤ (k : Int) ∧ (k : Int) + (n : Int) ≤ (d.n : Int))) := by omega
  have ho : Wal.open_ d (k : Int) (n : Int) = if d.down = true then ((none, 40) : Option Wal.St × Int) else match Wal.readMark (Dsk.rd d k 1) (n - 1) with
    | none => ((none, 50) : Option Wal.St × Int)
    | some (g, u) => match Wal.readGroups (64 * u) (Dsk.rd d (k + 1) u) with
      | none => ((none, 50) : Option Wal.St × Int)
      | some L => (some ⟨g, u, k, n, L, 0⟩, 0) := by
    unfold Wal.open_
    rw [if_neg hr]
    rfl
  have q1 : (Dsk.read d (k : Int) 1) = (Dsk.read d (k : Int) ((1 : Nat) : Int)) := rfl
  rcases r1 with ⟨hd, r1⟩ | ⟨hd, r1⟩
  · have h0 : opE d k n 0 = 40 := by show (Dsk.read d (k : Int) 1).2 = 40; rw [q1, r1]
    rw [h0, ho, if_pos hd]
    exact ⟨fun _ => rfl, fun h => absurd h (by decide), fun h => absurd h (by decide), fun h => absurd h (by decide), fun h => absurd h (by decide)⟩
  · have h0 : opE d k n 0 = 0 := by show (Dsk.read d (k : Int) 1).2 = 0; rw [q1, r1]
    have hhd : opHd d k = ba (Dsk.rd d k 1) := by show ba (Dsk.read d (k : Int) 1).1 = _; rw [q1, r1]
    have r2' : Dsk.read d ((k : Int) + 1) (opU d k n : Int) = (Dsk.rd d (k + 1) (opU d k n), 0) := by
      rcases r2 with ⟨hd2, _⟩ | ⟨_, r2⟩
      · rw [hd] at hd2; cases hd2
      · exact r2
    have hbd : opBd d k n = ba (Dsk.rd d (k + 1) (opU d k n)) := by show ba (Dsk.read d ((k : Int) + 1) (opU d k n : Int)).1 = _; rw [r2']
    have h2' : opE d k n 2 = 0 := by show (Dsk.read d ((k : Int) + 1) (opU d k n : Int)).2 = 0; rw [r2']
    have hm : Wal.readMark (Dsk.rd d k 1) (n - 1) = opM d k n := by unfold opM; rw [hhd, ba_list]
    have hg : Wal.readGroups (64 * opU d k n) (Dsk.rd d (k + 1) (opU d k n)) = opR d k n := by unfold opR; rw [hbd, ba_list]
    rw [ho, if_neg (by rw [hd]; decide), hm]
    have E1 : opE d k n 1 = markE (opM d k n) := rfl
    have E3 : opE d k n 3 = grpsE (opR d k n) := rfl
    refine ⟨fun h => absurd h0 h, fun _ h1 => ?_, fun _ => ⟨h2', hd, hhd, hbd⟩, fun _ h1 h3 => ?_, fun _ h1 h3 => ?_⟩
    · rw [E1] at h1 ⊢
      cases hc : opM d k n with
      | none => rfl
      | some x => rw [hc] at h1; exact absurd rfl h1
    · rw [E1] at h1
      cases hc : opM d k n with
      | none => rw [hc] at h1; exact absurd h1 (by decide)
      | some x =>
        obtain rfl := hu.2 x hc
        simp only []
        rw [hg, E3]
        rw [E3] at h3
        cases hq : opR d k n with
        | none => rfl
        | some L => rw [hq] at h3; exact absurd rfl h3
    · rw [E1] at h1
      cases hc : opM d k n with
      | none => rw [hc] at h1; exact absurd h1 (by decide)
      | some x =>
        obtain rfl := hu.2 x hc
        simp only []
        rw [hg]
        rw [E3] at h3
        cases hq : opR d k n with
        | none => rw [hq] at h3; exact absurd h3 (by decide)
        | some L => exact ⟨L, rfl, rfl⟩
end

/-- what Open's steps keep -/
def OpI (S : Nat → Prop) (p : Nat) (d : Dsk.St) (B k n : Nat) (w0 : World) (j : Nat) (W : World) : Prop :=
  Turns (OpT B) w0 W ∧ (match j with
    | 0 => Opn S p d B k n 0 0 (.slice none 0 0) ⟨#[]⟩ ⟨#[]⟩ W
    | 1 => Opn S p d B k n 0 0 (.slice none 0 0) (opHd d k) ⟨#[]⟩ W
    | 2 => Opn S p d B k n (opGen d k n) (opU d k n) (.slice none 0 0) (opHd d k) ⟨#[]⟩ W
    | 3 => Opn S p d B k n (opGen d k n) (opU d k n) (.slice none 0 0) (opHd d k) (opBd d k n) W
    | _ => ∃ v, Opn S p d B k n (opGen d k n) (opU d k n) v (opHd d k) (opBd d k n) W ∧ ∀ L, opR d k n = some L → GRows (fun i => B + 7 ≤ i ∧ i < W.heap.size) v L W)

def opFuncs (B : Nat) : Array Value := #[.func (.func 21) #[] (opL B 0), .func (.func 23) #[] (opL B 1), .func (.func 25) #[] (opL B 2), .func (.func 26) #[] (opL B 3)]
theorem alloc_at (w : World) (o : Obj) (j : Nat) (h : w.heap.size = j) : (w.alloc o).heap[j]? = some o := by subst h; exact heap_alloc_new w o
theorem op_eg (i : Nat) (args : Array Value) (w : World) : (callFunc (opG i) args).run Try.prog w = .ok (.enter (opG i) args) w := by
  match i with
  | 0 => exact enters_of Try.func21 (by kernel_rfl) rfl args w
  | 1 => exact enters_of Try.func23 (by kernel_rfl) rfl args w
  | 2 => exact enters_of Try.func25 (by kernel_rfl) rfl args w
  | (j + 3) => exact enters_of Try.func26 (by kernel_rfl) rfl args w

theorem op_follow {S : Nat → Prop} {p : Nat} {d : Dsk.St} {B k n : Nat} (h2 : 2 ≤ n) (hfit : k + n ≤ d.n) (hdn : d.n ≤ 16384) (hok : d.Ok) (w0 : World) (h0 : Opn S p d B k n 0 0 (.slice none 0 0) ⟨#[]⟩ ⟨#[]⟩ w0)
    (hf : w0.heap[B + 7]? = some (.cells (opFuncs B) 37 (0, 0))) :
    Calls Try.prog 20 #[.slice (some ⟨B + 7, 0, none⟩) 4 4] w0 (Went 4 (opE d k n) (OpI S p d B k n w0)) := by
  have hu := opU_le (d := d) (k := k) h2
  obtain ⟨_, _, o3, _, _⟩ := open_eval (d := d) (k := k) h2 hfit
  have hB7 := row_lt hf
  refine follow_any (B + 7) 4 opG (opL B) (fun i _ => op_eg i) (opE d k n) (OpI S p d B k n w0) (by omega) w0 ?_ ?_ ⟨Turns.refl _ _, h0⟩
  · intro j W hI i hi
    have hrow := hI.1.same hf (by unfold OpT; omega)
    rw [cell_of_row _ _ i _ _ _ hrow]
    match i, hi with
    | 0, _ => rfl
    | 1, _ => rfl
    | 2, _ => rfl
    | 3, _ => rfl
    | (m + 4), h => exact absurd h (by omega)
  · intro j W hj hz ⟨hT, hI⟩
    match j, hj, hz, hI with
    | 0, _, _, hI => exact (open1_any hI (by omega)).mono fun e W' ⟨h1, h2, h3⟩ => ⟨h1, hT.trans h3 (fun _ _ e => e), h2⟩
    | 1, _, hz, hI =>
      obtain ⟨_, hd, hhd, _⟩ := o3 (hz 0 (by omega))
      exact (open2_any hI (by rw [hhd, ba_size, Dsk.rd_length hok]) (by omega) (by omega)).mono fun e W' ⟨h1, h2, h3⟩ => ⟨h1, hT.trans h3 (fun _ _ e => e), h2⟩
    | 2, _, _, hI => exact (open3_any hI (by omega) (by omega)).mono fun e W' ⟨h1, h2, h3⟩ => ⟨h1, hT.trans h3 (fun _ _ e => e), h2⟩
    | 3, _, hz, hI =>
      obtain ⟨_, hd, _, hbd⟩ := o3 (hz 0 (by omega))
      have hsz := hT.size
      exact (open4_any hI (by rw [hbd, ba_size, Dsk.rd_length hok]) (by omega)).mono fun e W' ⟨h1, h2, v', h3, h4⟩ => ⟨h1, hT.trans h2 (fun _ _ e => e), v', h3, fun L hL => (h4 L hL).grow (fun i hi => ⟨by omega, hi.2⟩) (fun i hi => hi.2)⟩
    | (m + 4), h, _, _ => exact absurd h (by omega)
end Go.Proofs.Ytjmpagbjkehebaa
