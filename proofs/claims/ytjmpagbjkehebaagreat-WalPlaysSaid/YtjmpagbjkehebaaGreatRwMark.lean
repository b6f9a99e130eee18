/-
  The document's log: whole sectors, a mark, a group.
-/
import Derived.Test.YtjmpagbjkehebaaGreatWalFill
import Derived.Test.YtjmpagbjkehebaaGreatCrcRef5
import Derived.Test.YtjmpagbjkehebaaGreatOctAll
set_option linter.unusedVariables false
namespace Go.Proofs.YtjmpagbjkehebaaGreat
open Go.RowKit

def szOf : Value → Nat
  | .string t => t.size
  | _ => 0
theorem ba_one (l : List UInt8) : ba l ++ ⟨#[0]⟩ = ba (l ++ [0]) := cat_list l [0]
theorem fill_more (s : Wal.Txt) (k : Nat) (h : s.length + k = Wal.whole s.length * 64) : s ++ List.replicate k 0 = Wal.fill s := by
  unfold Wal.fill
  rw [show Wal.whole s.length * 64 - s.length = k from by omega]
theorem fill_end {n k : Nat} (h : n + k ≤ Wal.whole n * 64) (hm : (n + k) % 64 = 0) : n + k = Wal.whole n * 64 := by
  have := Wal.whole_lo n
  have := Wal.whole_hi n
  omega
theorem fill_go {n k : Nat} (h : n + k ≤ Wal.whole n * 64) (hm : (n + k) % 64 ≠ 0) : n + (k + 1) ≤ Wal.whole n * 64 := by
  omega
set_option maxHeartbeats 1000000 in
theorem refSectors_any (s : ByteArray) (hs : s.size ≤ 70368744177664) (w : World) :
    Calls Tryz.prog 129 #[.string s] w fun e w' => e = .returned (.string (ba (Wal.fill s.data.toList))) ∧ Below w.heap.size w w' := by
  have hl := ba_len s
  have hwl := Wal.whole_lo s.size
  have hwh := Wal.whole_hi s.size
  have hf0 : ∀ k, s.size + k = Wal.whole s.size * 64 → ba (s.data.toList ++ List.replicate k 0) = ba (Wal.fill s.data.toList) := fun k h => by rw [fill_more _ k (by rw [hl]; exact h)]
  have hf1 : ∀ k, s.size + k ≤ Wal.whole s.size * 64 → (s.size + k) % 64 ≠ 0 → s.size + (k + 1) ≤ Wal.whole s.size * 64 := fun k => fill_go
  have hf2 : ∀ k, s.size + k ≤ Wal.whole s.size * 64 → (s.size + k) % 64 = 0 → s.size + k = Wal.whole s.size * 64 := fun k => fill_end
  generalize Wal.whole s.size * 64 = m at *
  generalize ba (Wal.fill s.data.toList) = r at *
  have Hf0 := Lib.hid hf0; clear hf0
  have Hf1 := Lib.hid hf1; clear hf1
  have Hf2 := Lib.hid hf2; clear hf2
  have hsz : ∀ k, (ba (s.data.toList ++ List.replicate k 0)).size = s.size + k := fun k => by rw [ba_size, List.length_append, List.length_replicate, hl]
  have Hsz := Lib.hid hsz; clear hsz
  have h0 : s = ba (s.data.toList ++ List.replicate 0 0) := by simp [ba_of]
  go_enter Tryz.func129, Tryz.ntmps129
  go_wp2
  go_loopw [0] (fun a wr => ∃ k : Nat, s.size + k ≤ m ∧ a = .string (ba (s.data.toList ++ List.replicate k 0)) ∧ Below w.heap.size w wr) (fun a _ => m - szOf a)
  case atStart => exact ⟨0, by omega, by rw [← h0], Below.refl _ _⟩
  case round =>
    clear h0
    obtain ⟨k, hk, rfl, hb⟩ := hrel
    have hz := Hsz.out k
    have hz1 := Hsz.out (k + 1)
    have hnx : ba (s.data.toList ++ List.replicate k 0) ++ ⟨#[0]⟩ = ba (s.data.toList ++ List.replicate (k + 1) 0) := by
      rw [ba_one, List.append_assoc, ← List.replicate_succ']
    by_cases hm : (s.size + k) % 64 = 0
    · have he := Hf0.out k (Hf2.out k hk hm)
      rw [he] at hz ⊢
      have hrz : (r.size : Int) % 64 = 0 := by omega
      have hrt : (r.size : Int).tmod 64 = 0 := by rw [Int.tmod_eq_emod_of_nonneg (by omega)]; exact hrz
      clear hnx hz1 he
      go_wp2
      go_ret
      exact ⟨rfl, hb⟩
    · have hg := Hf1.out k hk hm
      generalize ba (s.data.toList ++ List.replicate k 0) = t at *
      have Hnx := Lib.hid hnx; clear hnx
      have hrz : ((t.size : Int) % 64 == 0) = false := by rw [beq_eq_false_iff_ne]; omega
      have hrt : ((t.size : Int).tmod 64 == 0) = false := by rw [Int.tmod_eq_emod_of_nonneg (by omega)]; exact hrz
      have hts : t.size ≤ 70368744177728 := by omega
      go_wp2
      go_roundw
      case rel => exact ⟨k + 1, hg, by rw [← Hnx.out], hb⟩
      case measure =>
        show m - (t ++ ⟨#[0]⟩).size < m - t.size
        rw [Hnx.out]
        omega

theorem refMark_any (g u : Nat) (hg : g < 18446744073709551616) (hu : u < 4294967296) (w : World) :
    Calls Tryz.prog 92 #[.int .u64 (g : Int), .int .i64 (u : Int)] w fun e w' => e = .returned (.string (ba (Wal.mark g u))) ∧ Below w.heap.size w w' := by
  have hp1 := fun x => refNum_any g 8 x hg (by decide)
  have hp2 := fun x => refNum_any u 4 x (by omega) (by decide)
  have l8 : (ba (Oct.le 8 g)).size = 8 := by rw [ba_size, Oct.le_length]
  have l4 : (ba (Oct.le 4 u)).size = 4 := by rw [ba_size, Oct.le_length]
  have hp1' : ∀ x, Calls Tryz.prog 130 #[.int .u64 (g : Int), .int .i64 8] x fun e w' => e = .returned (.string (ba (Oct.le 8 g))) ∧ Below x.heap.size x w' := hp1
  have hp2' : ∀ x, Calls Tryz.prog 130 #[.int .u64 (u : Int), .int .i64 4] x fun e w' => e = .returned (.string (ba (Oct.le 4 u))) ∧ Below x.heap.size x w' := hp2
  clear hp1 hp2
  have hwu : IntKind.u64.wrap (u : Int) = (u : Int) := by rw [IntKind.wrap_u64]; omega
  have hT : (⟨#[76, 79, 71, 49]⟩ : ByteArray) ++ ba (Oct.le 8 g) ++ ba (Oct.le 4 u) = ba ([76, 79, 71, 49] ++ Oct.le 8 g ++ Oct.le 4 u) := by
    have : (⟨#[76, 79, 71, 49]⟩ : ByteArray) = ba [76, 79, 71, 49] := rfl
    rw [this, ba_app, ba_app]
  have hTl : (ba ([76, 79, 71, 49] ++ Oct.le 8 g ++ Oct.le 4 u)).size = 16 := by rw [ba_size, Wal.text_length]
  have hS := fun x => refSeal_any (ba ([76, 79, 71, 49] ++ Oct.le 8 g ++ Oct.le 4 u)) (by omega) x
  have hSl : (sealB (ba ([76, 79, 71, 49] ++ Oct.le 8 g ++ Oct.le 4 u))).size = 20 := by rw [sealB_size, hTl]
  have hF := fun x => refSectors_any (sealB (ba ([76, 79, 71, 49] ++ Oct.le 8 g ++ Oct.le 4 u))) (by omega) x
  have hM : Wal.fill (sealB (ba ([76, 79, 71, 49] ++ Oct.le 8 g ++ Oct.le 4 u))).data.toList = Wal.mark g u := by
    rw [sealB_list, ba_list]; rfl
  rw [hM] at hF
  generalize sealB (ba ([76, 79, 71, 49] ++ Oct.le 8 g ++ Oct.le 4 u)) = S at *
  generalize ba (Wal.mark g u) = M at *
  generalize ba ([76, 79, 71, 49] ++ Oct.le 8 g ++ Oct.le 4 u) = T at *
  generalize ba (Oct.le 8 g) = A8 at *
  generalize ba (Oct.le 4 u) = A4 at *
  have l12 : ((⟨#[76, 79, 71, 49]⟩ : ByteArray) ++ A8).size = 12 := by rw [ByteArray.size_append, l8]; rfl
  have HT := Lib.hid hT; clear hT
  have H1 := Lib.hid hp1'; clear hp1'
  have H2 := Lib.hid hp2'; clear hp2'
  have HS := Lib.hid hS; clear hS
  have HF := Lib.hid hF; clear hF
  clear hM hTl hSl
  go_enter Tryz.func92, Tryz.ntmps92
  go_wp2_with fail
  refine (H1.out _).mono ?_; rintro e w1 ⟨rfl, h1⟩
  go_wp2_with fail
  refine (H2.out _).mono ?_; rintro e w2 ⟨rfl, h2⟩
  go_wp2_with fail
  rw [HT.out]
  refine (HS.out _).mono ?_; rintro e w3 ⟨rfl, h3⟩
  go_wp2_with fail
  refine (HF.out _).mono ?_; rintro e w4 ⟨rfl, h4⟩
  go_wp2_with fail
  go_ret
  have k2 := h1.trans (h2.mono h1.size)
  have k3 := k2.trans (h3.mono k2.size)
  exact ⟨rfl, k3.trans (h4.mono k3.size)⟩

def grpV (l : Wal.Grp) : Value := .tuple #[.string (if (Oct.row l).2 = 0 then ba (Wal.grp (Oct.row l).1) else .empty), .int .i64 (Oct.row l).2]
end Go.Proofs.YtjmpagbjkehebaaGreat
