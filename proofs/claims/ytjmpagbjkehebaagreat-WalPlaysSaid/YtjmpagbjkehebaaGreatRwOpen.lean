/-
  The document's log: what is opened.
-/
import Derived.Test.YtjmpagbjkehebaaGreatRwRead
import Derived.Test.YtjmpagbjkehebaaGreatRwFall
import Derived.Test.YtjmpagbjkehebaaGreatWalMark
import Derived.Test.YtjmpagbjkehebaaGreatGoAll
import Derived.Test.YtjmpagbjkehebaaGreatWalGroups
import Derived.Test.YtjmpagbjkehebaaGreatRefAll
set_option linter.unusedVariables false
set_option maxRecDepth 100000
namespace Go.Proofs.YtjmpagbjkehebaaGreat
open Go.RowKit

/-- what was opened by the document: no log and an error, or a log, whose blocks are new -/
def ROpR (r : Option Wal.St × Int) (q : Nat) (w : World) (e : Ending) (w' : World) : Prop :=
  Below w.heap.size w w' ∧ ((r.1 = none ∧ e = .returned (.tuple #[.pointer none, .int .i64 r.2])) ∨
    ∃ s R p, r.1 = some s ∧ r.2 = 0 ∧ e = .returned (.tuple #[.pointer (some ⟨p, 0, none⟩), .int .i64 0]) ∧ RwAt R p q s w' ∧ ∀ j, R j → w.heap.size ≤ j)

namespace Dsk
theorem rd_add (d : St) (k a b : Nat) : rd d k (a + b) = rd d k a ++ rd d (k + a) b := by
  induction b with
  | zero => simp [rd]
  | succ b ih => rw [← Nat.add_assoc, rd_succ, ih, rd_succ, List.append_assoc, Nat.add_assoc]
theorem rd_head {d : St} (h : d.Ok) (k n : Nat) (hn : 1 ≤ n) : (rd d k n).take 64 = rd d k 1 := by
  rw [show n = 1 + (n - 1) by omega, rd_add, List.take_left' (rd_length h k 1)]
theorem rd_body {d : St} (h : d.Ok) (k n u : Nat) (hn : u + 1 ≤ n) : ((rd d k n).drop 64).take (64 * u) = rd d (k + 1) u := by
  rw [show n = 1 + (u + (n - 1 - u)) by omega, rd_add, List.drop_left' (rd_length h k 1), rd_add, List.take_left' (rd_length h (k + 1) u)]
end Dsk

theorem opn_good {d : Dsk.St} (hd : d.down = false) {k n : Nat} (h2 : 2 ≤ n) (hfit : k + n ≤ d.n) : Wal.open_ d (k : Int) (n : Int) =
    match Wal.readMark (Dsk.rd d k 1) (n - 1) with
    | none => (none, 50)
    | some (g, u) => match Wal.readGroups (64 * u) (Dsk.rd d (k + 1) u) with
      | none => (none, 50)
      | some L => (some ⟨g, u, k, n, L, 0⟩, 0) := by
  unfold Wal.open_
  rw [if_neg (by omega), if_neg (by rw [hd]; simp)]
  rfl

theorem make_zer (u : World) : (Instr.makeSlice 91 (.int .i64 64) (.int .i64 64)).run Tryz.prog u = .ok (.slice (some ⟨u.heap.size, 0, none⟩) 64 64) (u.alloc (.cells (u8s (List.replicate 64 0)) 5)) := by
  have := make_u8 64 (by omega) u
  rw [show ((64 : Nat) : Int) = 64 from rfl] at this
  exact this
theorem conv_zer (u : World) (b : Nat) (hb : u.heap.size = b) : (convert 91 9 (.slice (some ⟨b, 0, none⟩) 64 64)).run Tryz.prog (u.alloc (.cells (u8s (List.replicate 64 0)) 5)) = .ok (.string (ba (List.replicate 64 0))) (u.alloc (.cells (u8s (List.replicate 64 0)) 5)) := by
  subst hb
  have hA : ArrB u.heap.size (List.replicate 64 0) (u.alloc (.cells (u8s (List.replicate 64 0)) 5)) := fun j hj => by
    exact ⟨row_u8 (heap_alloc_new u _) j hj, row_free (heap_alloc_new u _) j⟩
  have hcv := hA.conv (P := Tryz.prog) 91 9 5 Tryz.underlying91 Tryz.underlying5 Tryz.underlying9 64 64 (by simp)
  rw [List.take_of_length_le (by simp)] at hcv
  exact hcv

section
variable {S : Nat → Prop} {q : Nat} {d : Dsk.St} {w : World}
theorem rwOpen_arg (h : RefAt S q d w) (from_ n : Int) (hf : -9223372036854775808 ≤ from_ ∧ from_ ≤ 9223372036854775807) (hn : -9223372036854775808 ≤ n ∧ n ≤ 9223372036854775807) (hb : n < 2 ∨ ¬ (0 ≤ from_ ∧ from_ + n ≤ (d.n : Int))) :
    Calls Tryz.prog 29 #[.pointer (some ⟨q, 0, none⟩), .int .i64 from_, .int .i64 n] w fun e w' => e = .returned (.tuple #[.pointer none, .int .i64 2]) ∧ w = w' := by
  have hhi := h.ok.hi
  obtain ⟨vB, vL, h⟩ := h
  have c0 := h.c0
  obtain ⟨g, cap, rfl⟩ := h.formB
  clear h
  generalize d.n = m at *
  by_cases h1 : n < 2
  · have x1 : decide (n < 2) = true := decide_eq_true h1
    clear hb c0
    go_enter Tryz.func29, Tryz.ntmps29
    go_wp2_with fail
    go_ret2
    exact ⟨rfl, rfl⟩
  have x1 : decide (n < 2) = false := decide_eq_false h1
  by_cases h2 : from_ < 0
  · have x2 : decide (from_ < 0) = true := decide_eq_true h2
    clear hb c0
    go_enter Tryz.func29, Tryz.ntmps29
    go_wp2_with fail
    go_ret2
    exact ⟨rfl, rfl⟩
  have x2 : decide (from_ < 0) = false := decide_eq_false h2
  by_cases h3 : (m : Int) < from_
  · have x3 : decide ((m : Int) < from_) = true := decide_eq_true h3
    clear hb
    go_enter Tryz.func29, Tryz.ntmps29
    go_wp2_with fail
    go_ret2
    exact ⟨rfl, rfl⟩
  have x3 : decide ((m : Int) < from_) = false := decide_eq_false h3
  have x4 : decide ((m : Int) - from_ < n) = true := decide_eq_true (by omega)
  clear hb h1
  go_enter Tryz.func29, Tryz.ntmps29
  go_wp2_with fail
  go_ret2
  exact ⟨rfl, rfl⟩

theorem rwOpen_down (h : RefAt S q d w) (hd : d.down = true) (k n : Nat) (h2 : 2 ≤ n) (hfit : k + n ≤ d.n) :
    Calls Tryz.prog 29 #[.pointer (some ⟨q, 0, none⟩), .int .i64 (k : Int), .int .i64 (n : Int)] w fun e w' => e = .returned (.tuple #[.pointer none, .int .i64 40]) ∧ w = w' := by
  have hhi := h.ok.hi
  have hR := refRead_down h hd (k : Int) (n : Int)
  obtain ⟨vB, vL, h⟩ := h
  have c0 := h.c0
  obtain ⟨g, cap, rfl⟩ := h.formB
  clear h
  generalize d.n = m at *
  have x1 : decide ((n : Int) < 2) = false := decide_eq_false (by omega)
  have x2 : decide ((k : Int) < 0) = false := decide_eq_false (by omega)
  have x3 : decide ((m : Int) < (k : Int)) = false := decide_eq_false (by omega)
  have x4 : decide ((m : Int) - (k : Int) < (n : Int)) = false := decide_eq_false (by omega)
  have HR := Lib.hid hR; clear hR
  go_enter Tryz.func29, Tryz.ntmps29
  go_wp2_with fail
  refine HR.out.mono ?_; rintro e w1 ⟨rfl, rfl⟩
  go_wp2_with fail
  go_ret2
  exact ⟨rfl, rfl⟩

set_option maxHeartbeats 2000000 in
theorem rwOpen_good (h : RefAt S q d w) (hd : d.down = false) (hops : d.ops ≤ 1099511627776) (k n : Nat) (h2 : 2 ≤ n) (hfit : k + n ≤ d.n) :
    Calls Tryz.prog 29 #[.pointer (some ⟨q, 0, none⟩), .int .i64 (k : Int), .int .i64 (n : Int)] w (ROpR (Wal.open_ d (k : Int) (n : Int)) q w) := by
  have hhi := h.ok.hi
  have hok := h.ok
  have hR := refRead_good h hd hops k n hfit
  rw [opn_good hd h2 hfit]
  have hS0 : (ba (Dsk.rd d k n)).size = 64 * n := by rw [ba_size, Dsk.rd_length hok]
  have hH0 : ((ba (Dsk.rd d k n)).extract 0 64).data.toList = Dsk.rd d k 1 := by
    rw [ByteArray.data_extract, Array.toList_extract, List.extract_eq_take_drop, ba_list]
    exact Dsk.rd_head hok k n (by omega)
  have hB0 : ∀ u, u + 1 ≤ n → ((ba (Dsk.rd d k n)).extract 64 (64 * (1 + u))).data.toList = Dsk.rd d (k + 1) u := fun u hu => by
    rw [ByteArray.data_extract, Array.toList_extract, List.extract_eq_take_drop, ba_list, show 64 * (1 + u) - 64 = 64 * u by omega]
    exact Dsk.rd_body hok k n u hu
  have hR1 : Calls Tryz.prog 80 #[.pointer (some ⟨q, 0, none⟩), .int .i64 (k : Int), .int .i64 (n : Int)] w fun e w' => e = .returned (.tuple #[.string (ba (Dsk.rd d k n)), .int .i64 0]) ∧ Below w.heap.size w w' := hR
  have hlen1 : (Dsk.rd d k 1).length = 64 := Dsk.rd_length hok k 1
  clear hR
  obtain ⟨vB, vL, h⟩ := h
  have c0 := h.c0
  obtain ⟨g, cap, rfl⟩ := h.formB
  have hqlt := h.lt q h.hq
  clear h hok
  generalize ba (Dsk.rd d k n) = S0 at *
  generalize hT : Dsk.rd d k 1 = T at *
  have HB0 := Lib.hid hB0; clear hB0
  have HR := Lib.hid hR1; clear hR1
  have hHs : (S0.extract 0 64).size = 64 := by rw [ByteArray.size_extract]; omega
  generalize d.n = m at *
  have x1 : decide ((n : Int) < 2) = false := decide_eq_false (by omega)
  have x2 : decide ((k : Int) < 0) = false := decide_eq_false (by omega)
  have x3 : decide ((m : Int) < (k : Int)) = false := decide_eq_false (by omega)
  have x4 : decide ((m : Int) - (k : Int) < (n : Int)) = false := decide_eq_false (by omega)
  have x5 : (64 : Int) ≤ (S0.size : Int) := by omega
  by_cases hz : Wal.nought T
  · have hE : (match Wal.readMark T (n - 1) with
      | none => (none, 50)
      | some (g, u) => match Wal.readGroups (64 * u) (Dsk.rd d (k + 1) u) with
        | none => (none, 50)
        | some L => (some (⟨g, u, k, n, L, 0⟩ : Wal.St), (0 : Int))) = (some ⟨0, 0, k, n, [], 0⟩, 0) := by
      rw [Wal.readMark, if_pos hz]
      simp [Wal.readGroups, Dsk.rd]
    rw [hE]
    have hHz : S0.extract 0 64 = ba (List.replicate 64 0) := (zeros_eq _ 64 hHs).2 (by rw [hH0]; exact hz)
    have hmk := make_zer
    have hcv := conv_zer
    generalize ba (List.replicate 64 0) = z at *
    generalize u8s (List.replicate 64 0) = Z at *
    have Hmk := Lib.hid hmk; clear hmk
    have Hcv := Lib.hid hcv; clear hcv
    clear hz hE hH0 HB0
    go_enter Tryz.func29, Tryz.ntmps29
    go_wp2_with fail
    refine HR.out.mono ?_; rintro e w1 ⟨rfl, h1⟩
    have hcv := Hcv.out (w1.alloc (.cells #[.pointer (some ⟨q, 0, none⟩), .int .i64 (k : Int), .int .i64 (n : Int), .int .u64 0, .slice none 0 0, .int .i64 0, .int .i64 0] 120)) (w1.heap.size + 1) (by simp)
    go_wp2_with (first | (rw [Hmk.out]; simp only [Result.andThen]; rw [Oper.upon_value]) | (rw [hcv]; simp only [Result.andThen]; rw [Oper.upon_value]))
    go_ret2
    have hs1 := h1.size
    refine ⟨(h1.alloc hs1 _).alloc (by simp; omega) _, .inr ⟨_, fun j => w.heap.size ≤ j ∧ j < ((w1.alloc (.cells #[.pointer (some ⟨q, 0, none⟩), .int .i64 (k : Int), .int .i64 (n : Int), .int .u64 0, .slice none 0 0, .int .i64 0, .int .i64 0] 120)).alloc (.cells Z 5)).heap.size, w1.heap.size, rfl, rfl, rfl, ⟨.slice none 0 0, ⟨by simp; omega, row_alloc (heap_alloc_new w1 _) _, GRows.nil _ _ (fun j hj => hj.2)⟩⟩, fun j hj => hj.1⟩⟩
  · have hne := ba_ne (s := S0.extract 0 64) (z := ba (List.replicate 64 0)) (fun e => hz (by rw [← hH0]; exact (zeros_eq _ 64 hHs).1 e))
    have e1 : ((S0.extract 0 64).extract 4 12).data.toList = (T.drop 4).take 8 := by
      rw [ByteArray.data_extract, Array.toList_extract, List.extract_eq_take_drop, hH0]
    have e2 : ((S0.extract 0 64).extract 12 16).data.toList = (T.drop 12).take 4 := by
      rw [ByteArray.data_extract, Array.toList_extract, List.extract_eq_take_drop, hH0]
    have g1 := fun x => refValue_any ((S0.extract 0 64).extract 4 12) x (by rw [ByteArray.size_extract]; omega)
    have g2 := fun x => refValue_any ((S0.extract 0 64).extract 12 16) x (by rw [ByteArray.size_extract]; omega)
    rw [e1] at g1
    rw [e2] at g2
    have l1 : ((T.drop 4).take 8).length = 8 := by rw [List.length_take, List.length_drop]; omega
    have l2 : ((T.drop 12).take 4).length = 4 := by rw [List.length_take, List.length_drop]; omega
    have b1 := Oct.un_lt ((T.drop 4).take 8)
    have b2 := Oct.un_lt ((T.drop 12).take 4)
    rw [l1] at b1
    rw [l2] at b2
    have b1' : Oct.un ((T.drop 4).take 8) < 18446744073709551616 := b1
    have b2' : Oct.un ((T.drop 12).take 4) < 4294967296 := b2
    have hmk1 := fun x => refMark_any (Oct.un ((T.drop 4).take 8)) (Oct.un ((T.drop 12).take 4)) b1' b2' x
    rw [Wal.readMark, if_neg hz]
    have hms : (ba (Wal.mark (Oct.un ((T.drop 4).take 8)) (Oct.un ((T.drop 12).take 4))) = S0.extract 0 64) ↔ Wal.mark (Oct.un ((T.drop 4).take 8)) (Oct.un ((T.drop 12).take 4)) = T := by
      constructor
      · intro h
        have h2 := congrArg (fun x : ByteArray => x.data.toList) h
        simpa only [ba_list, hH0] using h2
      · intro h; rw [h, ← hH0, ba_of]
    clear e1 e2 l1 l2 b1 b2
    generalize Oct.un ((T.drop 4).take 8) = G at *
    generalize Oct.un ((T.drop 12).take 4) = U at *
    have hmk := make_zer
    have hcv := conv_zer
    generalize ba (List.replicate 64 0) = z at *
    generalize u8s (List.replicate 64 0) = Z at *
    have Hmk := Lib.hid hmk; clear hmk
    have Hcv := Lib.hid hcv; clear hcv
    have G1 := Lib.hid g1; clear g1
    have G2 := Lib.hid g2; clear g2
    have HM := Lib.hid hms; clear hms
    have HMK := Lib.hid hmk1; clear hmk1
    have hwu : IntKind.i64.wrap (U : Int) = (U : Int) := IntWalk.i64_in _ (by omega)
    clear hz hH0 hT hlen1
    have hmm : (ba (Wal.mark G U) = S0.extract 0 64) ∨ ((S0.extract 0 64).toList == (ba (Wal.mark G U)).toList) = false := by
      by_cases h : ba (Wal.mark G U) = S0.extract 0 64
      · exact .inl h
      · exact .inr (ba_ne (Ne.symm h))
    have hnm : ((S0.extract 0 64).toList == (ba (Wal.mark G U)).toList) = false → ¬ Wal.mark G U = T := fun h e => by
      rw [HM.out.2 e] at h
      simp at h
    generalize hMM : ba (Wal.mark G U) = M at *
    obtain ⟨E, hE⟩ : ∃ E : Option Wal.St × Int, (match (if n - 1 < U then none else if Wal.mark G U = T then some (G, U) else none : Option (Nat × Nat)) with
      | none => (none, 50)
      | some (g, u) => match Wal.readGroups (64 * u) (Dsk.rd d (k + 1) u) with
        | none => (none, 50)
        | some L => (some (⟨g, u, k, n, L, 0⟩ : Wal.St), (0 : Int))) = E := ⟨_, rfl⟩
    have HE := Lib.hid hE
    have Hnm := Lib.hid hnm; clear hnm
    have Hmm := Lib.hid hmm; clear hmm
    rw [hE]
    clear hE
    go_enter Tryz.func29, Tryz.ntmps29
    go_wp2_with fail
    refine HR.out.mono ?_; rintro e w1 ⟨rfl, h1⟩
    have hcv := Hcv.out (w1.alloc (.cells #[.pointer (some ⟨q, 0, none⟩), .int .i64 (k : Int), .int .i64 (n : Int), .int .u64 0, .slice none 0 0, .int .i64 0, .int .i64 0] 120)) (w1.heap.size + 1) (by simp)
    go_wp2_with (first | (rw [Hmk.out]; simp only [Result.andThen]; rw [Oper.upon_value]) | (rw [hcv]; simp only [Result.andThen]; rw [Oper.upon_value]))
    have hs1 := h1.size
    have hrow := row_alloc (heap_alloc_new w1 (.cells #[.pointer (some ⟨q, 0, none⟩), .int .i64 (k : Int), .int .i64 (n : Int), .int .u64 0, .slice none 0 0, .int .i64 0, .int .i64 0] 120)) (.cells Z 5)
    have hbW := (h1.alloc hs1 (.cells #[.pointer (some ⟨q, 0, none⟩), .int .i64 (k : Int), .int .i64 (n : Int), .int .u64 0, .slice none 0 0, .int .i64 0, .int .i64 0] 120)).alloc (by simp; omega) (.cells Z 5)
    clear hcv Hmk Hcv
    generalize hgW : (w1.alloc (.cells #[.pointer (some ⟨q, 0, none⟩), .int .i64 (k : Int), .int .i64 (n : Int), .int .u64 0, .slice none 0 0, .int .i64 0, .int .i64 0] 120)).alloc (.cells Z 5) = W at *
    clear hgW
    generalize w1.heap.size = p at *
    clear h1
    have c3 : W.cell? ⟨p, 3, none⟩ = some (.int .u64 0) := by rw [cell_of_row W p 3 _ _ _ hrow]; rfl
    have f3 := row_free hrow 3
    have hrow' := heap_setCell_same W p 3 _ _ (.int .u64 (G : Int)) hrow
    have c3' : (W.setCell ⟨p, 3, none⟩ (.int .u64 (G : Int))).cell? ⟨p, 3, none⟩ = some (.int .u64 (G : Int)) := by rw [cell_of_row _ p 3 _ _ _ hrow']; rfl
    have hbW' := hbW.setCell (p := ⟨p, 3, none⟩) hs1 (.int .u64 (G : Int))
    have HbW := Lib.hid hbW'; clear hbW' hbW
    refine (G1.out _).mono ?_; rintro e w2 ⟨rfl, rfl⟩
    go_wp2_with fail
    refine (G2.out _).mono ?_; rintro e w2 ⟨rfl, rfl⟩
    go_wp2_with fail
    refine (HMK.out _).mono ?_; rintro e w2 ⟨rfl, h2⟩
    have hb2 := HbW.out.trans (h2.mono HbW.out.size)
    have hp2 := row_lt hrow'
    have hrow2 : w2.heap[p]? = some (.cells #[.pointer (some ⟨q, 0, none⟩), .int .i64 (k : Int), .int .i64 (n : Int), .int .u64 (G : Int), .slice none 0 0, .int .i64 0, .int .i64 0] 120 (0, 0)) := by
      rw [h2.block _ hp2]; exact hrow'
    have hp3 := row_lt hrow2
    have Hb2 := Lib.hid hb2; clear hb2
    have Hrow2 := Lib.hid hrow2; clear hrow2
    clear h2 hrow' hrow c3 c3' f3 hne G1 G2 HMK hp2 HbW
    rcases Hmm.out with hq | hq
    · by_cases hlt : n - 1 < U
      · have hx : decide ((n : Int) - 1 < (U : Int)) = true := decide_eq_true (by omega)
        have hEE : E = (none, 50) := by rw [← HE.out, if_pos hlt]
        subst hEE
        clear HE Hmm Hnm hMM
        rw [hq]
        clear hq
        go_wp2_with fail
        go_ret2
        exact ⟨Hb2.out, .inl ⟨rfl, rfl⟩⟩
      · have hx : decide ((n : Int) - 1 < (U : Int)) = false := decide_eq_false (by omega)
        have hEE : (match Wal.readGroups (64 * U) (Dsk.rd d (k + 1) U) with
            | none => (none, 50)
            | some L => (some (⟨G, U, k, n, L, 0⟩ : Wal.St), (0 : Int))) = E := by rw [← HE.out, if_neg hlt, if_pos (HM.out.1 hq)]
        rw [← HB0.out U (by omega)] at hEE
        have hbs : (S0.extract 64 (64 * (1 + U))).size = 64 * U := by rw [ByteArray.size_extract]; omega
        have hw1 : (64 : Int) ≤ 64 * (1 + (U : Int)) := by omega
        have hw2 : 64 * (1 + (U : Int)) ≤ (S0.size : Int) := by omega
        have hw3 : (64 * (1 + (U : Int))).toNat = 64 * (1 + U) := by omega
        have hw4 : IntKind.i64.wrap (64 * (1 + (U : Int))) = 64 * (1 + (U : Int)) := IntWalk.i64_in _ (by omega)
        have hw5 : IntKind.i64.wrap (1 + (U : Int)) = 1 + (U : Int) := IntWalk.i64_in _ (by omega)
        have HEE := Lib.hid hEE; clear hEE
        clear HE Hmm Hnm hMM HM HR
        rw [hq]
        clear hq
        have hUb : U ≤ 16384 := by omega
        go_wp2_with fail
        generalize hSB : S0.extract 64 (64 * (1 + U)) = SB at *
        clear hSB hw1 hw2 hw3 hw4 hw5 hx x1 x2 x3 x4 x5 hS0 hHs c0 hwu
        obtain ⟨i0, hi, hz0, hz1, hz2⟩ := info_parts grp_info
        go_loopw [8] (fun a wr => ∃ (r : ByteArray) (acc : List Wal.Grp) (us : Nat) (v : Value), a = .string r ∧ r.size % 64 = 0 ∧ 64 * us + r.size = 64 * U ∧ acc.length ≤ us ∧ Below w.heap.size w wr ∧ p < wr.heap.size ∧
          wr.heap[p]? = some (.cells #[.pointer (some ⟨q, 0, none⟩), .int .i64 (k : Int), .int .i64 (n : Int), .int .u64 (G : Int), v, .int .i64 (us : Int), .int .i64 0] 120 (0, 0)) ∧
          GRows (fun j => w.heap.size ≤ j ∧ j < wr.heap.size) v acc wr ∧
          Wal.readGroups (64 * U) SB.data.toList = (Wal.readGroups (64 * U - acc.length) r.data.toList).map (acc ++ ·)) (fun a _ => strSize a)
        case atStart => exact ⟨SB, [], 0, _, rfl, by omega, by omega, by simp, Hb2.out, hp3, Hrow2.out, GRows.nil _ _ (fun j hj => hj.2), by simp⟩
        case round =>
          obtain ⟨r, acc, us, v, rfl, hm, hle, hac, hb, hp, hrow, hat, hrel⟩ := hrel
          clear hp3
          by_cases hr : r.data.toList = []
          · have hEE : E = (some ⟨G, U, k, n, acc, 0⟩, 0) := by
              rw [← HEE.out, hrel, hr]
              cases hq : 64 * U - acc.length <;> simp [Wal.readGroups]
            have hre : r = ⟨#[]⟩ := by rw [← ba_of r, hr]; rfl
            subst hre
            have husU : us = U := by
              have : (⟨#[]⟩ : ByteArray).size = 0 := rfl
              omega
            subst husU
            have HE := Lib.hid hEE; clear hEE
            have Hat := Lib.hid hat; clear hat
            have Hrow := Lib.hid hrow; clear hrow
            clear hrel hr hm hle HEE
            go_wp2_with fail
            go_ret2
            rw [HE.out]
            exact ⟨hb, .inr ⟨_, fun j => w.heap.size ≤ j ∧ j < wr.heap.size, p, rfl, rfl, rfl, ⟨v, ⟨⟨hs1, hp⟩, Hrow.out, Hat.out⟩⟩, fun j hj => hj.1⟩⟩
          · have hpos : 0 < r.size := by rw [← ba_len]; exact List.length_pos_iff.2 hr
            have hG := fun x => refgroup_any r (by omega) (by omega) (by omega) x
            have hstep : Wal.readGroups (64 * U - acc.length) r.data.toList = match Wal.readGroup r.data.toList with
              | none => none
              | some (l, n) => (Wal.readGroups (64 * U - (acc.length + 1)) (r.data.toList.drop n)).map (l :: ·) := by
              rw [show 64 * U - acc.length = (64 * U - (acc.length + 1)) + 1 by omega, Wal.readGroups, if_neg hr]
              cases Wal.readGroup r.data.toList <;> rfl
            rw [hstep] at hrel
            have Hrel := Lib.hid hrel; clear hrel
            have HG := Lib.hid hG; clear hG
            have Hat := Lib.hid hat; clear hat
            have Hr := Lib.hid hr; clear hr
            have Hrow := Lib.hid hrow; clear hrow
            clear hstep
            go_wp2_with fail
            refine (HG.out _).mono ?_; rintro e w3 ⟨h3, ⟨hn, v0, k0, rfl⟩ | ⟨l, k1, u8, hn, rfl, ho⟩⟩
            · have Hn := Lib.hid hn; clear hn
              go_wp2_with fail
              go_ret2
              refine ⟨hb.trans (h3.mono hb.size), .inl ⟨?_, ?_⟩⟩
              · have := Hrel.out
                rw [Hn.out] at this
                have h2 := HEE.out
                rw [this] at h2
                rw [← h2]; rfl
              · have := Hrel.out
                rw [Hn.out] at this
                have h2 := HEE.out
                rw [this] at h2
                rw [← h2]; rfl
            · have Hn := Lib.hid hn; clear hn
              have Ho := Lib.hid ho; clear ho
              obtain ⟨hf, hnl, hsp, hn2⟩ := Wal.readGroup_is (by rw [ba_len]; omega) Hn.out
              rw [Wal.grp_length] at hnl
              have hsec := Wal.secs_pos (Oct.row l).1
              rw [ba_len] at hn2
              have hk1 : 1 ≤ k1 := by omega
              have hn3 : (k1 : Int) * 64 ≤ (r.size : Int) := by omega
              have hn4 : (0 : Int) ≤ (k1 : Int) * 64 := by omega
              have hn5 : ((k1 : Int) * 64).toNat = k1 * 64 := by omega
              have hn6 : IntKind.i64.wrap ((k1 : Int) * 64) = (k1 : Int) * 64 := IntWalk.i64_in _ (by omega)
              have hn7 : IntKind.i64.wrap ((us : Int) + (k1 : Int)) = (us : Int) + (k1 : Int) := IntWalk.i64_in _ (by omega)
              clear hnl hsec hf hsp
              obtain ⟨hat1, vs, hat2, hat3, hat4⟩ := Hat.out
              have Hat2 := Lib.hid hat2; clear hat2
              have Hat3 := Lib.hid hat3; clear hat3
              have Hat4 := Lib.hid hat4; clear hat4
              have hown3 : w3.ownsRow 0 23 1 v acc.length vs := ownsRow_same Hat2.out fun g hg => h3.block g (Hat2.out.lt g hg).2
              have hvp := Hat.out.vp Hrow.out rw_ty1
              clear hat1
              obtain ⟨a8, cap8, hv8, _⟩ := Ho.out.strs
              have Hv8 := Lib.hid hv8
              subst hv8
              have hrow3 : w3.heap[p]? = some (.cells #[.pointer (some ⟨q, 0, none⟩), .int .i64 (k : Int), .int .i64 (n : Int), .int .u64 (G : Int), v, .int .i64 (us : Int), .int .i64 0] 120 (0, 0)) := by
                rw [h3.block _ hp]; exact Hrow.out
              have c4 : w3.cell? ⟨p, 4, none⟩ = some v := by rw [cell_of_row w3 p 4 _ _ _ hrow3]; rfl
              have Hrow3 := Lib.hid hrow3; clear hrow3
              have Hvp := Lib.hid hvp; clear hvp
              go_wp2_with (at_builtin; go_loud (refine wpList_append_own_at _ rfl _ _ 33 rfl 0 23 i0 (.slice none 0 0) 1 24 Tryz.underlying33 hi hz0 hz1 hz2 rfl (by decide) _ _ _ rfl (hown3.alloc _) ⟨w3.heap.size, 0, none⟩ 1 1 [.slice a8 (bas l).length cap8] rfl rfl ?c1 ?c2 ?c3 ?c4 ?c5 ?_))
              case c1 => exact cell_one_new _ _ _
              case c2 => intro z hz; simp at hz; subst hz; rfl
              case c3 => unfold maxLen; omega
              case c4 => omega
              case c5 => omega
              intro v' w4 hown4 hgrow _ hvb
              have hs3 := h3.size
              have hsA : (w3.alloc (.cells #[.slice a8 (bas l).length cap8] 23)).heap.size = w3.heap.size + 1 := by simp
              have hs4 := hgrow.size
              rw [hsA] at hs4
              have hbA : Below w3.heap.size w3 (w3.alloc (.cells #[.slice a8 (bas l).length cap8] 23)) := (Below.refl _ w3).alloc (Nat.le_refl _) _
              have hb3 : Below wr.heap.size wr (w3.alloc (.cells #[.slice a8 (bas l).length cap8] 23)) := h3.trans (hbA.mono hs3)
              have hrow4 : w4.heap[p]? = some (.cells #[.pointer (some ⟨q, 0, none⟩), .int .i64 (k : Int), .int .i64 (n : Int), .int .u64 (G : Int), v, .int .i64 (us : Int), .int .i64 0] 120 (0, 0)) := by
                rw [hgrow.block p (by rw [hsA]; omega) (fun e => Hvp.out e.symm), Below.heap_alloc _ _ _ (by omega)]
                exact Hrow3.out
              have hG4 : GRows (fun k => w.heap.size ≤ k ∧ k < w4.heap.size) v' (acc ++ [l]) w4 :=
                GRows.grown (u := .slice a8 (bas l).length cap8) Hat2.out Hat3.out Hat4.out hb3 ((Own.low Ho.out hb.size).new hbA) hown4 hgrow (by rw [hsA]; exact hvb) (fun k hk => (World.ownsRow.lt hown4 k hk).2) hb.size
              have hb4 : Below w.heap.size w w4 := (hb.trans (hb3.mono hb.size)).grown hgrow (by have := hb.size; omega) (fun b' h => (Hat3.out b' h).1)
              have hp4 : p < w4.heap.size := row_lt hrow4
              have hvf : ∃ a cap, v' = .slice a (acc.length + 1) cap := by
                rcases hown4.2 with ⟨_, h0⟩ | ⟨g, cap, cur, hv, _⟩
                · omega
                · exact ⟨_, _, hv⟩
              have c4' : w4.cell? ⟨p, 4, none⟩ = some v := by rw [cell_of_row w4 p 4 _ _ _ hrow4]; rfl
              have f4 := row_free hrow4 4
              have hrow5 := heap_setCell_same w4 p 4 _ _ v' hrow4
              have c5 : (w4.setCell ⟨p, 4, none⟩ v').cell? ⟨p, 5, none⟩ = some (.int .i64 (us : Int)) := by rw [cell_of_row _ p 5 _ _ _ hrow5]; rfl
              have f5 := row_free hrow5 5
              have hrow6 : ((w4.setCell ⟨p, 4, none⟩ v').setCell ⟨p, 5, none⟩ (.int .i64 ((us : Int) + (k1 : Int)))).heap[p]? = some (.cells #[.pointer (some ⟨q, 0, none⟩), .int .i64 (k : Int), .int .i64 (n : Int), .int .u64 (G : Int), v', .int .i64 ((us + k1 : Nat) : Int), .int .i64 0] 120 (0, 0)) := by
                rw [heap_setCell_same _ p 5 _ _ _ hrow5, Int.natCast_add]; rfl
              have hb6 : Below w.heap.size w ((w4.setCell ⟨p, 4, none⟩ v').setCell ⟨p, 5, none⟩ (.int .i64 ((us : Int) + (k1 : Int)))) := (hb4.setCell (p := ⟨p, 4, none⟩) hs1 _).setCell (p := ⟨p, 5, none⟩) hs1 _
              have hG6 : GRows (fun j => w.heap.size ≤ j ∧ j < ((w4.setCell ⟨p, 4, none⟩ v').setCell ⟨p, 5, none⟩ (.int .i64 ((us : Int) + (k1 : Int)))).heap.size) v' (acc ++ [l]) ((w4.setCell ⟨p, 4, none⟩ v').setCell ⟨p, 5, none⟩ (.int .i64 ((us : Int) + (k1 : Int)))) :=
                (hG4.beside hrow4 rw_ty1 rw_ty2 (((Turns.refl (fun k => k = p) w4).set p 4 v' (fun _ => rfl)).set p 5 (.int .i64 ((us : Int) + (k1 : Int))) (fun _ => rfl))).grow (fun j hj => ⟨hj.1, by simpa using hj.2⟩) (fun j hj => hj.2)
              have hp6 := row_lt hrow6
              have Hrow6 := Lib.hid hrow6; clear hrow6
              have Hb6 := Lib.hid hb6; clear hb6
              have HG6 := Lib.hid hG6; clear hG6
              have Hp6 := Lib.hid hp6; clear hp6
              obtain ⟨a9, cap9, hv9⟩ := hvf
              have Hv9 := Lib.hid hv9
              clear hown4 hgrow hvb hb3 hbA hown3 hsA hs4 hrow4 hG4 hb4 hrow5 c4
              subst hv9
              go_wp2_with fail
              go_roundw
              case rel =>
                refine ⟨r.extract (k1 * 64) r.size, acc ++ [l], us + k1, .slice a9 (acc.length + 1) cap9, rfl, ?_, ?_, ?_, Hb6.out, Hp6.out, Hrow6.out, HG6.out, ?_⟩
                · rw [ByteArray.size_extract]; omega
                · rw [ByteArray.size_extract]; omega
                · rw [List.length_append]; simp; omega
                · have h := Hrel.out
                  rw [Hn.out] at h
                  simp only [Option.map_map] at h
                  rw [h, show (r.extract (k1 * 64) r.size).data.toList = r.data.toList.drop (k1 * 64) from by
                    rw [ByteArray.data_extract, Array.toList_extract, List.extract_eq_take_drop, List.take_of_length_le (by rw [List.length_drop, ba_len]; exact Nat.le_refl _)], List.length_append]
                  congr 1
                  funext x
                  simp
              case measure => simp only [strSize, ByteArray.size_extract]; omega
    · have hEE : E = (none, 50) := by rw [← HE.out, if_neg (Hnm.out hq), ite_self]
      subst hEE
      clear HE Hmm Hnm hMM
      go_wp2_with fail
      go_ret2
      exact ⟨Hb2.out, .inl ⟨rfl, rfl⟩⟩
end
end Go.Proofs.YtjmpagbjkehebaaGreat
