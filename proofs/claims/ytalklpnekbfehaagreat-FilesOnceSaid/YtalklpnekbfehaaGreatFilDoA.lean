/- Put together of: FilDoc FilDoc2 FilDocP FilDoc3 -/
import Derived.Test.YtalklpnekbfehaaGreatFilAlA
set_option maxRecDepth 100000
/-
  The document's answer for files: its small functions.
-/
set_option linter.unusedVariables false
set_option maxRecDepth 100000
namespace Go.Proofs.YtalklpnekbfehaaGreat
open Go.RowKit

theorem docLog_any (n : Nat) (hn : n ≤ 16384) (w : World) : Calls Tryz.prog 82 #[.int .i64 (n : Int)] w fun e w' => e = .returned (.int .i64 (Fil.logN n : Int)) ∧ w = w' := by
  have hL : max ((n : Int) / 8) 2 = (Fil.logN n : Int) := by unfold Fil.logN; omega
  have hL2 : max 2 ((n : Int) / 8) = (Fil.logN n : Int) := by unfold Fil.logN; omega
  have ht : Int.tdiv (n : Int) 8 = (n : Int) / 8 := Int.tdiv_eq_ediv_of_nonneg (by omega)
  go_enter Tryz.func82, Tryz.ntmps82
  go_wp2_with fail
  go_ret
  first
    | exact ⟨rfl, rfl⟩
    | (rw [hL]; exact ⟨rfl, rfl⟩)
    | (rw [hL2]; exact ⟨rfl, rfl⟩)
    | (rw [ht, hL]; exact ⟨rfl, rfl⟩)
theorem docArea_any (n : Nat) (h8 : 8 ≤ n) (hn : n ≤ 16384) (w : World) : Calls Tryz.prog 50 #[.int .i64 (n : Int)] w fun e w' => e = .returned (.int .i64 (Fil.arN n : Int)) ∧ w = w' := by
  have hl := docLog_any n hn w
  have hf := Fil.ar_fit h8
  have hA : ((n : Int) - 1 - (Fil.logN n : Int)) / 2 = (Fil.arN n : Int) := by unfold Fil.arN Fil.arAt; omega
  have hT : Int.tdiv ((n : Int) - 1 - (Fil.logN n : Int)) 2 = (Fil.arN n : Int) := by rw [Int.tdiv_eq_ediv_of_nonneg (by omega)]; exact hA
  have hl1 : Fil.logN n ≤ n := by omega
  have Hl := Lib.hid hl; clear hl
  go_enter Tryz.func50, Tryz.ntmps50
  go_wp2_with fail
  refine Hl.out.mono ?_; rintro e w1 ⟨rfl, rfl⟩
  go_wp2_with fail
  go_ret
  first
    | exact ⟨rfl, rfl⟩
    | (rw [hA]; exact ⟨rfl, rfl⟩)
    | (rw [hT]; exact ⟨rfl, rfl⟩)
/-- the document's files: what its struct has -/
def docF (v : Value) (n : Nat) : Obj := .cells #[v, .int .i64 ((Fil.arN n : Int) * 64 - 4)] 53 (0, 0)
theorem build_doc (i : Int) (w : World) : (Instr.build 53 #[(1, .int .i64 i)]).run Tryz.prog w = .ok (.agg #[.slice none 0 0, .int .i64 i]) w := run_build w _ _ _ (by kernel_rfl)
theorem docNew_any (n : Nat) (h8 : 8 ≤ n) (hn : n ≤ 16384) (w : World) : Calls Tryz.prog 19 #[.int .i64 (n : Int)] w fun e w' => e = .returned (.pointer (some ⟨w.heap.size, 0, none⟩)) ∧ w' = w.alloc (docF (.slice none 0 0) n) := by
  have hl := docArea_any n h8 hn w
  have hN : Fil.arN n ≤ n := by unfold Fil.arN; omega
  have hb := build_doc
  have hc : (64 : Int) * (Fil.arN n : Int) - 4 = (Fil.arN n : Int) * 64 - 4 := by omega
  have Hl := Lib.hid hl; clear hl
  go_enter Tryz.func19, Tryz.ntmps19
  go_wp2_with fail
  refine Hl.out.mono ?_; rintro e w1 ⟨rfl, rfl⟩
  go_wp2_with fail
  go_ret
  unfold docF
  first
    | exact ⟨rfl, rfl⟩
    | (rw [hc]; exact ⟨rfl, rfl⟩)
    | (rw [← hc]; exact ⟨rfl, rfl⟩)
/-- May, by the program's own question -/
theorem docMay_any (x : Chb) (w : World) : Calls Tryz.prog 53 #[.agg #[.string x.n, .string x.d, .bool x.g]] w fun e w' => e = .returned (.bool (!x.bad)) ∧ Below w.heap.size w w' := by
  obtain ⟨n, d, g⟩ := x
  have hb : Below w.heap.size w (w.alloc (.cells #[.string n, .string d, .bool g] 58)) := (Below.refl _ w).alloc (Nat.le_refl _) _
  have Hb := Lib.hid hb; clear hb
  show Calls Tryz.prog 53 #[.agg #[.string n, .string d, .bool g]] w fun e w' => e = .returned (.bool (!chgB n d g)) ∧ Below w.heap.size w w'
  unfold chgB
  by_cases h0 : n.size = 0
  · have e1 : (n.size == 0) = true := by simpa using h0
    rw [e1]
    obtain rfl := empty_of n h0
    clear h0 e1
    go_enter Tryz.func53, Tryz.ntmps53
    go_wp2_with fail
    go_ret
    exact ⟨rfl, Hb.out⟩
  have e1 : (n.size == 0) = false := by simpa using h0
  rw [e1, Bool.false_or]
  have y0 : decide ((1 : Int) ≤ (n.size : Int)) = true := decide_eq_true (by omega)
  have y0' : decide (1 ≤ n.size) = true := decide_eq_true (by omega)
  have y0'' : decide (0 < n.size) = true := decide_eq_true (by omega)
  have z0 : 1 ≤ n.size := by omega
  have hne := isEmpty_of n h0
  by_cases h1 : 32 < n.size
  · rw [decide_eq_true h1, Bool.true_or]
    have x1 : decide ((n.size : Int) ≤ 32) = false := decide_eq_false (by omega)
    have x1' : decide (n.size ≤ 32) = false := decide_eq_false (by omega)
    clear h0 e1
    go_enter Tryz.func53, Tryz.ntmps53
    go_wp2_with fail
    go_ret
    exact ⟨rfl, Hb.out⟩
  rw [decide_eq_false h1, Bool.false_or]
  have x1 : decide ((n.size : Int) ≤ 32) = true := decide_eq_true (by omega)
  have x1' : decide (n.size ≤ 32) = true := decide_eq_true (by omega)
  clear h0 e1 h1
  by_cases h2 : 65535 < d.size
  · rw [decide_eq_true h2, Bool.true_or]
    have x2 : decide ((d.size : Int) ≤ 65535) = false := decide_eq_false (by omega)
    have x2' : decide (d.size ≤ 65535) = false := decide_eq_false (by omega)
    clear h2
    go_enter Tryz.func53, Tryz.ntmps53
    go_wp2_with fail
    go_ret
    exact ⟨rfl, Hb.out⟩
  rw [decide_eq_false h2, Bool.false_or]
  have x2 : decide ((d.size : Int) ≤ 65535) = true := decide_eq_true (by omega)
  have x2' : decide (d.size ≤ 65535) = true := decide_eq_true (by omega)
  clear h2
  cases g with
  | false =>
    rw [Bool.false_and]
    go_enter Tryz.func53, Tryz.ntmps53
    go_wp2_with fail
    go_ret
    exact ⟨rfl, Hb.out⟩
  | true =>
    rw [Bool.true_and]
    by_cases h3 : d.size = 0
    · have e3 : (d.size == 0) = true := by simpa using h3
      rw [e3]
      obtain rfl := empty_of d h3
      clear h3 e3
      go_enter Tryz.func53, Tryz.ntmps53
      go_wp2_with fail
      go_ret
      exact ⟨rfl, Hb.out⟩
    · have e3 : (d.size == 0) = false := by simpa using h3
      rw [e3]
      have hnd := isEmpty_of d h3
      clear h3 e3
      go_enter Tryz.func53, Tryz.ntmps53
      go_wp2_with fail
      go_ret
      exact ⟨rfl, Hb.out⟩
end Go.Proofs.YtalklpnekbfehaaGreat

/-
  The document's answer for files: what reads a row.
-/
set_option linter.unusedVariables false
set_option maxRecDepth 100000
namespace Go.Proofs.YtalklpnekbfehaaGreat
open Go.RowKit
/-- a row of the document's files: l in a slice -/
def FlsAt (a : Option Addr) (len : Nat) (l : List (ByteArray × ByteArray)) (w : World) : Prop := l.length = len ∧ ∀ j, j < len → ∃ b off, a = some ⟨b, off, none⟩ ∧ w.cell? ⟨b, off + j * 2, none⟩ = some (.string (l.getD j (.empty, .empty)).1) ∧ w.cell? ⟨b, off + j * 2 + 1, none⟩ = some (.string (l.getD j (.empty, .empty)).2)
/-- as plain mathematics has it -/
def fls (l : List (ByteArray × ByteArray)) : Fil.Row := l.map fun x => (x.1.data.toList, x.2.data.toList)
theorem FlsAt.keep {a : Option Addr} {len : Nat} {l : List (ByteArray × ByteArray)} {w w' : World} (h : FlsAt a len l w) (hb : Below w.heap.size w w') : FlsAt a len l w' :=
  ⟨h.1, fun j hj => by
    obtain ⟨b, off, h1, h2, h3⟩ := h.2 j hj
    have hlt : b < w.heap.size := cell_lt h2
    have e : w'.heap[b]? = w.heap[b]? := hb.block b hlt
    exact ⟨b, off, h1, by rw [World.cell?_of_block e]; exact h2, by rw [World.cell?_of_block e]; exact h3⟩⟩
theorem FlsAt.nil (w : World) : FlsAt none 0 [] w := ⟨rfl, fun j hj => by omega⟩
/-- the document's files in block p -/
structure DocAt (p : Nat) (n : Nat) (l : List (ByteArray × ByteArray)) (w : World) : Prop where
  row : ∃ a cap, w.heap[p]? = some (docF (.slice a l.length cap) n) ∧ FlsAt a l.length l w
theorem fls_get (l : List (ByteArray × ByteArray)) (nm : ByteArray) : ∀ k, (∀ j, j < k → (l.getD j (.empty, .empty)).1 ≠ nm) → k < l.length → (l.getD k (.empty, .empty)).1 = nm → Fil.get (fls l) nm.data.toList = some (l.getD k (.empty, .empty)).2.data.toList := by
  induction l with
  | nil => intro k _ hk; simp at hk
  | cons x r ih =>
    intro k hz hk he
    by_cases hx : x.1 = nm
    · have hk0 : k = 0 := by
        rcases Nat.eq_zero_or_pos k with h | h
        · exact h
        · exact absurd hx (hz 0 h)
      subst hk0
      show Fil.get ((x.1.data.toList, x.2.data.toList) :: fls r) _ = _
      unfold Fil.get
      have he2 : (x.1.data.toList == nm.data.toList) = true := by rw [hx]; exact beq_self_eq_true _
      rw [List.find?_cons]
      simp only [he2]
      rfl
    · match k, hk, he, hz with
      | 0, _, he, _ => exact absurd he hx
      | k + 1, hk, he, hz =>
        have := ih k (fun j hj => hz (j + 1) (by omega)) (by simpa using hk) he
        show Fil.get ((x.1.data.toList, x.2.data.toList) :: fls r) _ = _
        unfold Fil.get at this ⊢
        have hne : (x.1.data.toList == nm.data.toList) = false := beq_eq_false_iff_ne.2 (fun e => hx (by cases hx1 : x.1; cases nm; simp_all))
        rw [List.find?_cons]
        simp only [hne]
        exact this
theorem fls_none (l : List (ByteArray × ByteArray)) (nm : ByteArray) (h : ∀ j, j < l.length → (l.getD j (.empty, .empty)).1 ≠ nm) : Fil.get (fls l) nm.data.toList = none := by
  unfold Fil.get fls
  rw [Option.map_eq_none_iff, List.find?_eq_none]
  intro x hx
  obtain ⟨y, hy, rfl⟩ := List.mem_map.1 hx
  obtain ⟨j, hj, rfl⟩ := List.getElem_of_mem hy
  have := h j hj
  rw [List.getD_eq_getElem?_getD, List.getElem?_eq_getElem hj] at this
  simp only [Option.getD_some] at this
  intro e
  have e2 := eq_of_beq e
  exact this (by
    have : l[j].1.data = nm.data := by
      cases h1 : l[j].1.data; cases h2 : nm.data; simp_all
    cases h1 : l[j].1; cases h2 : nm; simp_all)
section
variable {p n : Nat} {l : List (ByteArray × ByteArray)} {w : World}
set_option maxHeartbeats 800000 in
theorem docGet_any (h : DocAt p n l w) (nm : ByteArray) (hll : l.length ≤ 1099511627776) :
    Calls Tryz.prog 24 #[.pointer (some ⟨p, 0, none⟩), .string nm] w fun e w' => e = .returned (.tuple #[.string (ba ((Fil.get (fls l) nm.data.toList).getD [])), .bool (Fil.get (fls l) nm.data.toList).isSome]) ∧ w = w' := by
  obtain ⟨a, cap, hrow, hfl⟩ := h.row
  have c0 : w.cell? ⟨p, 0, none⟩ = some (.slice a l.length cap) := by rw [cell_of_row _ _ 0 _ _ _ hrow]; rfl
  obtain ⟨N, hN⟩ : ∃ N, N = l.length := ⟨_, rfl⟩
  rw [← hN] at c0 hll hfl
  have Hfl := Lib.hid hfl; clear hfl
  have HN := Lib.hid hN; clear hN
  obtain ⟨G, hG⟩ : ∃ G, G = Fil.get (fls l) nm.data.toList := ⟨_, rfl⟩
  rw [← hG]
  have HG := Lib.hid hG; clear hG
  clear hrow h
  go_enter Tryz.func24, Tryz.ntmps24
  go_wp2_with fail
  go_loopw [6] (fun i wr => ∃ k : Nat, k ≤ N ∧ i = .int .i64 (k : Int) ∧ (∀ j, j < k → (l.getD j (.empty, .empty)).1 ≠ nm) ∧ wr = w) (fun i _ => N - (intOf i).toNat)
  case atStart => exact ⟨0, by omega, rfl, fun j hj => by omega, rfl⟩
  case round =>
    obtain ⟨k, hk, rfl, hz, rfl⟩ := hrel
    have Hz := Lib.hid hz; clear hz
    by_cases hlt : k < N
    · have hlt2 : (k : Int) < (N : Int) := by omega
      obtain ⟨b, off, rfl, c1, c2⟩ := Hfl.out.2 k hlt
      by_cases he : (l.getD k (.empty, .empty)).1 = nm
      · have hg := fls_get l nm k Hz.out (by rw [← HN.out]; exact hlt) he
        rw [he] at c1
        have He := Lib.hid he; clear he
        have Hg := Lib.hid hg; clear hg
        go_wp2_with fail
        go_ret2
        rw [HG.out, Hg.out]
        simp only [Option.getD_some, Option.isSome_some, Fil.ba_toList]
        exact ⟨rfl, trivial⟩
      · have heq : ((l.getD k (.empty, .empty)).1.toList == nm.toList) = false := by
          refine beq_eq_false_iff_ne.2 (fun e => he ?_)
          rw [Lib.toList_data, Lib.toList_data] at e
          generalize (l.getD k (.empty, .empty)).1 = y at *
          cases y; cases nm; simp_all
        obtain ⟨y, hy⟩ : ∃ y, y = (l.getD k (.empty, .empty)).1 := ⟨_, rfl⟩
        rw [← hy] at c1 heq he
        have He := Lib.hid he; clear he
        have Hy := Lib.hid hy; clear hy
        go_wp2_with fail
        go_roundw
        case rel => exact ⟨k + 1, by omega, by go_num, fun j hj => by
          by_cases e : j = k
          · subst e; rw [← Hy.out]; exact He.out
          · exact Hz.out j (by omega), trivial⟩
        case measure => simp [intOf]; omega
    · obtain rfl : k = N := by omega
      have Hg := Lib.hid (fls_none l nm (fun j hj => Hz.out j (by rw [HN.out]; exact hj)))
      have hlt2 : ¬ (k : Int) < (k : Int) := by omega
      go_wp2_with fail
      go_ret2
      rw [HG.out, Hg.out]
      exact ⟨rfl, rfl⟩
theorem fls_sum (k : Nat) (hk : k < l.length) : Fil.sum (fls (l.take (k + 1))) = Fil.sum (fls (l.take k)) + 8 + (l.getD k (.empty, .empty)).1.size + (l.getD k (.empty, .empty)).2.size := by
  rw [List.take_add_one, List.getElem?_eq_getElem hk, List.getD_eq_getElem?_getD, List.getElem?_eq_getElem hk]
  have h1 := ba_len l[k].1
  have h2 := ba_len l[k].2
  simp only [Option.toList_some, Option.getD_some, fls, Fil.sum, List.map_append, List.map_cons, List.map_nil, List.sum_append, List.sum_cons, List.sum_nil, Fil.wt]
  omega
theorem fls_sum_app (a b : List (ByteArray × ByteArray)) : Fil.sum (fls (a ++ b)) = Fil.sum (fls a) + Fil.sum (fls b) := by
  unfold fls Fil.sum
  rw [List.map_append, List.map_append, List.sum_append]
theorem fls_sum_le (k : Nat) : Fil.sum (fls (l.take k)) ≤ Fil.sum (fls l) := by
  have := fls_sum_app (l.take k) (l.drop k)
  rw [List.take_append_drop] at this
  omega
set_option maxHeartbeats 800000 in
theorem docUsed_any {a : Option Addr} {cap : Nat} (hfl : FlsAt a l.length l w) (hs : Fil.sum (fls l) ≤ 1099511627) :
    Calls Tryz.prog 55 #[.slice a l.length cap] w fun e w' => e = .returned (.int .i64 ((Fil.used (fls l) : Nat) : Int)) ∧ Below w.heap.size w w' := by
  obtain ⟨N, hN⟩ : ∃ N, N = l.length := ⟨_, rfl⟩
  have hNs : N ≤ 1099511627 := by
    have := Fil.len_used (fls l)
    have e : (fls l).length = l.length := by simp [fls]
    omega
  rw [← hN] at hfl ⊢
  obtain ⟨U, hU⟩ : ∃ U, U = Fil.used (fls l) := ⟨_, rfl⟩
  rw [← hU]
  have HU := Lib.hid hU; clear hU
  have Hfl := Lib.hid hfl; clear hfl
  have HN := Lib.hid hN; clear hN
  have Hs := Lib.hid hs; clear hs
  go_enter Tryz.func55, Tryz.ntmps55
  go_wp2_with fail
  go_loopw [3, 4] (fun s i wr => ∃ k : Nat, k ≤ N ∧ i = .int .i64 (k : Int) ∧ s = .int .i64 ((4 + Fil.sum (fls (l.take k)) : Nat) : Int) ∧ Below w.heap.size w wr) (fun _ i _ => N - (intOf i).toNat)
  case atStart => exact ⟨0, by omega, rfl, rfl, Below.refl _ _⟩
  case round =>
    obtain ⟨k, hk, rfl, rfl, hb⟩ := hrel
    obtain ⟨x, hx⟩ : ∃ x, x = Fil.sum (fls (l.take k)) := ⟨_, rfl⟩
    rw [← hx]
    have hx0 : x ≤ 1099511627 := by rw [hx]; exact Nat.le_trans (fls_sum_le k) Hs.out
    have Hx := Lib.hid hx; clear hx
    have Hb := Lib.hid hb; clear hb
    by_cases hlt : k < N
    · have hlt2 : (k : Int) < (N : Int) := by omega
      obtain ⟨b, off, rfl, c1, c2⟩ := (Hfl.out.keep Hb.out).2 k hlt
      have hsm := fls_sum (l := l) k (by rw [← HN.out]; exact hlt)
      have hle := fls_sum_le (l := l) (k + 1)
      have hs2 := Hs.out
      rw [← Hx.out] at hsm
      obtain ⟨y1, hy1⟩ : ∃ y, y = (l.getD k (.empty, .empty)).1 := ⟨_, rfl⟩
      obtain ⟨y2, hy2⟩ : ∃ y, y = (l.getD k (.empty, .empty)).2 := ⟨_, rfl⟩
      rw [← hy1] at c1 hsm
      rw [← hy2] at c2 hsm
      have hz1 : y1.size ≤ 1099511627 := by omega
      have hz2 : y2.size ≤ 1099511627 := by omega
      have Hsm := Lib.hid hsm; clear hsm hle hs2
      clear hy1 hy2
      go_wp2_with fail
      go_region
      go_wp2_with fail
      go_roundw
      case rel =>
        refine ⟨k + 1, by omega, by go_num, ?_, Hb.out.drew⟩
        rw [Hsm.out]
        go_num
      case measure => simp [intOf]; omega
    · obtain rfl : k = N := by omega
      have hlt2 : ¬ (k : Int) < (k : Int) := by omega
      go_wp2_with fail
      go_ret
      refine ⟨?_, Hb.out⟩
      rw [HU.out]
      have e : l.take k = l := List.take_of_length_le (by rw [HN.out]; exact Nat.le_refl _)
      have hx := Hx.out
      rw [e] at hx
      rw [hx]
      rfl
end
end Go.Proofs.YtalklpnekbfehaaGreat

/-
  Plain mathematics: the document's put is the program's.
-/
set_option linter.unusedVariables false
namespace Go.Proofs.YtalklpnekbfehaaGreat
namespace Fil
/-- the document's put, from a place on; whether the change was made -/
def docPut (n d : Txt) : Row → Bool → Row
  | [], dn => if dn = true then [] else [(n, d)]
  | x :: r, dn => if dn = false ∧ bytesBefore x.1 n = false then (n, d) :: (if x.1 = n then docPut n d r true else x :: docPut n d r true)
    else if x.1 = n then docPut n d r dn else x :: docPut n d r dn
theorem docPut_gone (n d : Txt) : ∀ r : Row, docPut n d r true = del r n
  | [] => rfl
  | x :: r => by
    rw [docPut, if_neg (by simp), docPut_gone n d r]
    unfold del
    rw [List.filter_cons]
    by_cases h : x.1 = n
    · rw [if_pos h, if_neg (by simp [h])]
    · rw [if_neg h, if_pos (by simp [h])]
theorem ins_front (n d : Txt) (r : Row) (h : ∀ y ∈ r, bytesBefore n y.1 = true) : ins (n, d) r = (n, d) :: r := by
  cases r with
  | nil => rfl
  | cons y r => unfold ins; rw [if_pos (h y (by simp))]
theorem docPut_put (n d : Txt) : ∀ r : Row, Sorted r → docPut n d r false = ins (n, d) (del r n)
  | [], _ => rfl
  | x :: r, h => by
    unfold Sorted at h
    rw [List.pairwise_cons] at h
    rw [docPut]
    by_cases hb : bytesBefore x.1 n = true
    · have hne : ¬ x.1 = n := fun e => by rw [e, WideAt.bytes_irrefl] at hb; cases hb
      rw [if_neg (by simp [hb]), if_neg hne, docPut_put n d r h.2]
      have e : del (x :: r) n = x :: del r n := by unfold del; rw [List.filter_cons, if_pos (by simp [hne])]
      rw [e]
      have hn : bytesBefore n x.1 = false := before_asymm hb
      conv => rhs; unfold ins
      rw [if_neg (by simp [hn])]
    · have hb' : bytesBefore x.1 n = false := by simpa using hb
      rw [if_pos ⟨rfl, hb'⟩]
      have hall : ∀ y ∈ del (x :: r) n, bytesBefore n y.1 = true := fun y hy => by
        unfold del at hy
        rw [List.mem_filter] at hy
        have hyn : ¬ y.1 = n := by simpa using hy.2
        rcases List.mem_cons.1 hy.1 with rfl | hyr
        · rcases WideAt.bytes_total y.1 n hyn with e | e
          · rw [e] at hb'; cases hb'
          · exact e
        · have hxy := h.1 y hyr
          by_cases hxn : x.1 = n
          · rw [← hxn]; exact hxy
          · rcases WideAt.bytes_total x.1 n hxn with e | e
            · rw [e] at hb'; cases hb'
            · exact WideShapes.bytes_trans _ _ _ e hxy
      rw [ins_front n d _ hall, docPut_gone]
      congr 1
      unfold del
      rw [List.filter_cons]
      by_cases hx : x.1 = n
      · rw [if_pos hx, if_neg (by simp [hx])]
      · rw [if_neg hx, if_pos (by simp [hx])]
theorem docPut_is (r : Row) (h : Sorted r) (c : Chg) : docPut c.name c.data r c.gone = put1 r c := by
  unfold put1
  cases hg : c.gone with
  | true => rw [docPut_gone, if_pos rfl]
  | false => rw [docPut_put _ _ r h, if_neg (by decide)]
end Fil
end Go.Proofs.YtalklpnekbfehaaGreat

/-
  A row of the document's files of the call's own.
-/
set_option linter.unusedVariables false
set_option maxRecDepth 100000
namespace Go.Proofs.YtalklpnekbfehaaGreat
open Go.RowKit
def flCells (x : ByteArray × ByteArray) : List Value := [.string x.1, .string x.2]
/-- a row of files of the call's own -/
def FOwn (B : Nat) (v : Value) (l : List (ByteArray × ByteArray)) (w : World) : Prop := w.ownsRow B 104 2 v l.length (l.flatMap flCells)
theorem fcells_at : ∀ (l : List (ByteArray × ByteArray)) (j : Nat) (x : ByteArray × ByteArray), l[j]? = some x → ∀ i u, (flCells x)[i]? = some u → (l.flatMap flCells)[j * 2 + i]? = some u
  | y :: l, 0, x, h, i, u, hu => by
    have : y = x := by simpa using h
    subst this
    have hi : i < (flCells y).length := (List.getElem?_eq_some_iff.1 hu).1
    rw [List.flatMap_cons, List.getElem?_append_left (by omega)]
    simpa using hu
  | y :: l, j + 1, x, h, i, u, hu => by
    have h' : l[j]? = some x := by simpa using h
    have hl : (flCells y).length = 2 := rfl
    rw [List.flatMap_cons, List.getElem?_append_right (by omega), hl, show (j + 1) * 2 + i - 2 = j * 2 + i by omega]
    exact fcells_at l j x h' i u hu
theorem FOwn.fls {B : Nat} {v : Value} {l : List (ByteArray × ByteArray)} {w : World} (h : FOwn B v l w) : ∃ a cap, v = .slice a l.length cap ∧ FlsAt a l.length l w ∧ ∀ b off, a = some ⟨b, off, none⟩ → B ≤ b ∧ b < w.heap.size := by
  have hc := fun g hg => World.ownsRow.cells (g := g) h hg
  obtain ⟨h1, h2⟩ := h
  rcases h2 with ⟨rfl, h0⟩ | ⟨g, cap, cur, rfl, hb, hg, hle, hcm, hcs, hct⟩
  · have : l = [] := List.eq_nil_of_length_eq_zero h0
    subst this
    exact ⟨none, 0, rfl, FlsAt.nil _, fun b off e => by cases e⟩
  · refine ⟨some ⟨g, 0, none⟩, cap, rfl, ⟨rfl, fun j hj => ⟨g, 0, rfl, ?_⟩⟩, fun b off e => by cases e; exact ⟨hb, row_lt hg⟩⟩
    have hx : l[j]? = some (l.getD j (.empty, .empty)) := by rw [List.getD_eq_getElem?_getD, List.getElem?_eq_getElem hj]; rfl
    have hcell : ∀ i u, (flCells (l.getD j (.empty, .empty)))[i]? = some u → w.cell? ⟨g, 0 + j * 2 + i, none⟩ = some u := fun i u hu => by
      have := hc g rfl (j * 2 + i) u (fcells_at l j _ hx i u hu)
      have ea : (⟨g, 0, none⟩ : Addr).add (j * 2 + i) = ⟨g, 0 + j * 2 + i, none⟩ := by unfold Addr.add; split <;> simp_all
      rw [ea] at this
      exact this
    exact ⟨hcell 0 _ rfl, hcell 1 _ rfl⟩
theorem file_info : (Tryz.prog.info? 104).map (fun i => (i.zero, i.size, i.bytes)) = some (some (.agg #[.string ⟨#[]⟩, .string ⟨#[]⟩]), 2, 32) := by kernel_rfl
theorem build_file (n d : ByteArray) (w : World) : (Instr.build 104 #[(0, .string n), (1, .string d)]).run Tryz.prog w = .ok (.agg #[.string n, .string d]) w := run_build w _ _ _ (by kernel_rfl)
theorem load_file (u : World) (b o : Nat) (n d : ByteArray) (h1 : u.cell? ⟨b, o, none⟩ = some (.string n)) (h2 : u.cell? ⟨b, o + 1, none⟩ = some (.string d)) :
    (Instr.loadAt 104 (.pointer (some ⟨b, o, none⟩))).run Tryz.prog u = .ok (.agg #[.string n, .string d]) u := by
  have := run_loadAt_mid (P := Tryz.prog) u b o 104 [.string n, .string d] _ (fun j v hv => by
    match j, hv with
    | 0, hv => cases hv; exact h1
    | 1, hv => cases hv; exact h2
    | _ + 2, hv => simp at hv) Tryz.underlying104 rfl (by kernel_rfl)
  exact this
/-- the document's put over byte rows -/
def dput (n d : ByteArray) : List (ByteArray × ByteArray) → Bool → List (ByteArray × ByteArray)
  | [], dn => if dn = true then [] else [(n, d)]
  | x :: r, dn => if dn = false ∧ bytesBefore x.1.data.toList n.data.toList = false then (n, d) :: (if x.1.data.toList = n.data.toList then dput n d r true else x :: dput n d r true)
    else if x.1.data.toList = n.data.toList then dput n d r dn else x :: dput n d r dn
theorem fls_dput (n d : ByteArray) : ∀ (r : List (ByteArray × ByteArray)) (dn : Bool), fls (dput n d r dn) = Fil.docPut n.data.toList d.data.toList (fls r) dn
  | [], dn => by cases dn <;> rfl
  | x :: r, dn => by
    have e : fls (x :: r) = (x.1.data.toList, x.2.data.toList) :: fls r := rfl
    have h1 := fls_dput n d r true
    have h2 := fls_dput n d r dn
    rw [e, dput, Fil.docPut]
    split
    · show (n.data.toList, d.data.toList) :: fls _ = _
      congr 1
      split
      · exact h1
      · show (x.1.data.toList, x.2.data.toList) :: fls _ = _
        rw [h1]
    · split
      · exact h2
      · show (x.1.data.toList, x.2.data.toList) :: fls _ = _
        rw [h2]
theorem fls_put (l : List (ByteArray × ByteArray)) (h : Fil.Sorted (fls l)) (x : Chb) : fls (dput x.n x.d l x.g) = Fil.put1 (fls l) x.c := by
  rw [fls_dput]; exact Fil.docPut_is (fls l) h x.c
end Go.Proofs.YtalklpnekbfehaaGreat
