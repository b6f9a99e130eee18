/-
  wal's texts: filled up to whole sectors, a group's sectors, a header.
-/
import Derived.Test.YtjmpagbjkehebaaWalPure
import Derived.Test.YtjmpagbjkehebaaCrcAll
import Derived.Test.YtjmpagbjkehebaaShelf
import Derived.Test.YtjmpagbjkehebaaOctAll
set_option linter.unusedVariables false
set_option maxRecDepth 100000
namespace Go.Proofs.Ytjmpagbjkehebaa
open Go.RowKit

/-- bytes as a text -/
def ba (l : List UInt8) : ByteArray := ⟨l.toArray⟩
theorem ba_list (l : List UInt8) : (ba l).data.toList = l := by simp [ba]
theorem ba_size (l : List UInt8) : (ba l).size = l.length := by simp [ba, ByteArray.size]
theorem ba_of (s : ByteArray) : ba s.data.toList = s := ba_eta s
theorem ba_app (a b : List UInt8) : ba a ++ ba b = ba (a ++ b) := cat_list a b
theorem repeat_zero (n : Nat) : Lib.repeatL [0] n = List.replicate n 0 := by
  induction n with
  | zero => rfl
  | succ n ih => simp [Lib.repeatL, ih, List.replicate_succ]

theorem whole_any (n : Nat) (hn : n ≤ 4611686018427387904) (w : World) :
    Calls Try.prog 59 #[.int .i64 (n : Int)] w fun e w' => e = .returned (.int .i64 ((Wal.whole n : Nat) : Int)) ∧ w = w' := by
  have hq : ((n : Int) + 64 - 1).tdiv 64 = ((Wal.whole n : Nat) : Int) := by
    rw [Int.tdiv_eq_ediv_of_nonneg (by omega)]; unfold Wal.whole; omega
  have hq2 : ((n : Int) + 64 - 1) / 64 = ((Wal.whole n : Nat) : Int) := by
    unfold Wal.whole; omega
  go_enter Try.func59, Try.ntmps59
  go_wp2
  go_ret
  exact ⟨by simp_all, rfl⟩

theorem filled_any (s : ByteArray) (hs : s.size ≤ 70368744177664) (w : World) :
    Calls Try.prog 62 #[.string s] w fun e w' => e = .returned (.string (ba (Wal.fill s.data.toList))) ∧ Below w.heap.size w w' := by
  have h1 := Wal.whole_lo s.size
  have h2 := Wal.whole_hi s.size
  have hw := fun u => whole_any s.size (by omega) u
  have hz : (⟨#[0]⟩ : ByteArray).size = 1 := rfl
  have hr := fun u => Try.strings_Repeat ⟨#[0]⟩ (Wal.whole s.size * 64 - s.size) u (by omega) (by rw [hz]; omega)
  have he : s ++ ba (List.replicate (Wal.whole s.size * 64 - s.size) 0) = ba (Wal.fill s.data.toList) := by
    have : s ++ ba (List.replicate (Wal.whole s.size * 64 - s.size) 0) = ba s.data.toList ++ ba (List.replicate (Wal.whole s.size * 64 - s.size) 0) := by rw [ba_of]
    rw [this, ba_app, Wal.fill, ba_len]
  have hl : (⟨(Lib.repeatL [0] (Wal.whole s.size * 64 - s.size)).toArray⟩ : ByteArray) = ba (List.replicate (Wal.whole s.size * 64 - s.size) 0) := by rw [repeat_zero]; rfl
  have hzl : (ba (List.replicate (Wal.whole s.size * 64 - s.size) 0)).size = Wal.whole s.size * 64 - s.size := by rw [ba_size]; simp
  simp only [hl] at hr
  generalize hk : Wal.whole s.size = k at *
  generalize hk2 : k * 64 - s.size = j at *
  have hj : (k : Int) * 64 - (s.size : Int) = (j : Int) := by omega
  generalize ba (List.replicate j 0) = z at *
  have Hw := Lib.hid hw; clear hw
  have Hr := Lib.hid hr; clear hr
  have He := Lib.hid he; clear he
  clear hl hz
  go_enter Try.func62, Try.ntmps62
  go_wp2_with fail
  refine (Hw.out _).mono ?_; rintro e w1 ⟨rfl, rfl⟩
  go_wp2_with fail
  refine (Hr.out _).mono ?_; rintro e w2 ⟨rfl, hb⟩
  go_wp2_with fail
  go_ret
  exact ⟨by rw [He.out]; rfl, hb⟩

theorem nought_count (l : List UInt8) : Wal.nought l ↔ l.count 0 = l.length := by
  unfold Wal.nought
  rw [List.eq_replicate_iff, List.count_eq_length]
  exact ⟨fun h b hb => (h.2 b hb).symm, fun h => ⟨rfl, fun b hb => (h b hb).symm⟩⟩
theorem blank_any (s : ByteArray) (b : Bool) (hb : decide (Wal.nought s.data.toList) = b) (w : World) :
    Calls Try.prog 54 #[.string s] w fun e w' => e = .returned (.bool b) ∧ Below w.heap.size w w' := by
  have hc := fun u => Try.strings_Count_one s 0 u
  have hn : Lib.countByte s.data.toList 0 = s.data.toList.count 0 := rfl
  rw [hn] at hc
  have hx : (((s.data.toList.count 0 : Nat) : Int) == (s.size : Int)) = b := by
    rw [← hb, ← ba_len]
    by_cases h : Wal.nought s.data.toList
    · rw [decide_eq_true h, beq_iff_eq, (nought_count _).1 h]
    · rw [decide_eq_false h, beq_eq_false_iff_ne]
      intro e
      exact h ((nought_count _).2 (by exact_mod_cast e))
  generalize s.data.toList.count 0 = k at *
  have Hc := Lib.hid hc; clear hc
  clear hb hn
  go_enter Try.func54, Try.ntmps54
  go_wp2_with fail
  refine (Hc.out _).mono ?_; rintro e w1 ⟨rfl, rfl⟩
  go_wp2_with fail
  go_ret
  exact ⟨rfl, Below.refl _ _⟩

theorem groupSectors_any (s : ByteArray) (hs : s.size ≤ 70368744177664) (w : World) :
    Calls Try.prog 29 #[.string s] w fun e w' => e = .returned (.int .i64 ((Wal.secs s.data.toList : Nat) : Int)) ∧ w = w' := by
  have hw := fun u => whole_any (4 + s.size) (by omega) u
  have he : Wal.secs s.data.toList = Wal.whole (4 + s.size) := by rw [Wal.secs, ba_len]
  rw [he]
  have hc : ((4 + s.size : Nat) : Int) = 4 + (s.size : Int) := by omega
  rw [hc] at hw
  generalize Wal.whole (4 + s.size) = k at *
  have Hw := Lib.hid hw; clear hw
  clear he hc
  go_enter Try.func29, Try.ntmps29
  go_wp2_with fail
  refine (Hw.out _).mono ?_; rintro e w1 ⟨rfl, rfl⟩
  go_wp2_with fail
  go_ret
  exact ⟨rfl, rfl⟩

theorem groupText_any (s : ByteArray) (hs : s.size < 4294967296) (w : World) :
    Calls Try.prog 32 #[.string s] w fun e w' => e = .returned (.string (ba (Wal.grp s.data.toList))) ∧ Below w.heap.size w w' := by
  have hp := fun u => octPut_any s.size 4 u (by omega) (by decide) (by decide)
  have he : Oct.put s.size 4 = (Oct.le 4 s.size, 0) := by
    unfold Oct.put
    rw [if_pos ⟨by decide, by decide, by simpa using hs⟩]; rfl
  rw [he] at hp
  have h4 : (ba (Oct.le 4 s.size)).size = 4 := by rw [ba_size, Oct.le_length]
  have hp' : ∀ u, Calls Try.prog 61 #[.int .u64 (s.size : Int), .int .i64 4] u fun e w' => e = .returned (.tuple #[.string (ba (Oct.le 4 s.size)), .int .i64 0]) ∧ Below u.heap.size u w' := hp
  clear hp
  have hg : ba (Wal.grp s.data.toList) = ba (Wal.fill (ba (Oct.le 4 s.size) ++ s).data.toList) := by
    have : ba (Oct.le 4 s.size) ++ s = ba (Oct.le 4 s.size) ++ ba s.data.toList := by rw [ba_of]
    rw [this, ba_app, ba_list, Wal.grp, ba_len]
  have hsz : (ba (Oct.le 4 s.size) ++ s).size = 4 + s.size := by rw [ByteArray.size_append, h4]
  have hf := fun u => filled_any (ba (Oct.le 4 s.size) ++ s) (by omega) u
  rw [← hg] at hf
  generalize ba (Oct.le 4 s.size) = z at *
  generalize ba (Wal.grp s.data.toList) = r at *
  have Hf := Lib.hid hf; clear hf
  have Hp := Lib.hid hp'; clear hp'
  clear hg he hsz
  go_enter Try.func32, Try.ntmps32
  go_wp2_with fail
  refine (Hp.out _).mono ?_; rintro e w1 ⟨rfl, h1⟩
  go_wp2_with fail
  refine (Hf.out _).mono ?_; rintro e w2 ⟨rfl, h2⟩
  go_wp2_with fail
  go_ret
  exact ⟨rfl, h1.trans (h2.mono h1.size)⟩

theorem header_any (g u : Nat) (hg : g < 18446744073709551616) (hu : u < 4294967296) (w : World) :
    Calls Try.prog 36 #[.agg #[.int .u64 (g : Int), .int .i64 (u : Int)]] w fun e w' => e = .returned (.string (ba (Wal.mark g u))) ∧ Below w.heap.size w w' := by
  have hp1 := fun x => octPut_any g 8 x hg (by decide) (by decide)
  have he1 : Oct.put g 8 = (Oct.le 8 g, 0) := by
    unfold Oct.put
    rw [if_pos ⟨by decide, by decide, by simpa using hg⟩]; rfl
  have hp2 := fun x => octPut_any u 4 x (by omega) (by decide) (by decide)
  have he2 : Oct.put u 4 = (Oct.le 4 u, 0) := by
    unfold Oct.put
    rw [if_pos ⟨by decide, by decide, by simpa using hu⟩]; rfl
  rw [he1] at hp1
  rw [he2] at hp2
  have l8 : (ba (Oct.le 8 g)).size = 8 := by rw [ba_size, Oct.le_length]
  have l4 : (ba (Oct.le 4 u)).size = 4 := by rw [ba_size, Oct.le_length]
  have hp1' : ∀ x, Calls Try.prog 61 #[.int .u64 (g : Int), .int .i64 8] x fun e w' => e = .returned (.tuple #[.string (ba (Oct.le 8 g)), .int .i64 0]) ∧ Below x.heap.size x w' := hp1
  have hp2' : ∀ x, Calls Try.prog 61 #[.int .u64 (u : Int), .int .i64 4] x fun e w' => e = .returned (.tuple #[.string (ba (Oct.le 4 u)), .int .i64 0]) ∧ Below x.heap.size x w' := hp2
  clear hp1 hp2 he1 he2
  have hT : (⟨#[76, 79, 71, 49]⟩ : ByteArray) ++ ba (Oct.le 8 g) ++ ba (Oct.le 4 u) = ba ([76, 79, 71, 49] ++ Oct.le 8 g ++ Oct.le 4 u) := by
    have : (⟨#[76, 79, 71, 49]⟩ : ByteArray) = ba [76, 79, 71, 49] := rfl
    rw [this, ba_app, ba_app]
  have hTl : (ba ([76, 79, 71, 49] ++ Oct.le 8 g ++ Oct.le 4 u)).size = 16 := by rw [ba_size, Wal.text_length]
  have hS := fun x => seal_any (ba ([76, 79, 71, 49] ++ Oct.le 8 g ++ Oct.le 4 u)) (by omega) x
  have hSl : (sealB (ba ([76, 79, 71, 49] ++ Oct.le 8 g ++ Oct.le 4 u))).size = 20 := by rw [sealB_size, hTl]
  have hF := fun x => filled_any (sealB (ba ([76, 79, 71, 49] ++ Oct.le 8 g ++ Oct.le 4 u))) (by omega) x
  have hM : Wal.fill (sealB (ba ([76, 79, 71, 49] ++ Oct.le 8 g ++ Oct.le 4 u))).data.toList = Wal.mark g u := by
    rw [sealB_list, ba_list]; rfl
  rw [hM] at hF
  generalize sealB (ba ([76, 79, 71, 49] ++ Oct.le 8 g ++ Oct.le 4 u)) = S at *
  generalize ba (Wal.mark g u) = M at *
  generalize ba ([76, 79, 71, 49] ++ Oct.le 8 g ++ Oct.le 4 u) = T at *
  generalize ba (Oct.le 8 g) = A8 at *
  generalize ba (Oct.le 4 u) = A4 at *
  have l12 : ((⟨#[76, 79, 71, 49]⟩ : ByteArray) ++ A8).size = 12 := by rw [ByteArray.size_append, l8]; rfl
  have HT := Lib.hid hT; clear hT
  have H1 := Lib.hid hp1'; clear hp1'
  have H2 := Lib.hid hp2'; clear hp2'
  have HS := Lib.hid hS; clear hS
  have HF := Lib.hid hF; clear hF
  clear hM hTl hSl
  go_enter Try.func36, Try.ntmps36
  go_wp2_with fail
  refine (H1.out _).mono ?_; rintro e w1 ⟨rfl, h1⟩
  have hr1 : w1.heap[w.heap.size]? = some (.cells #[.int .u64 (g : Int), .int .i64 (u : Int)] 55 (0, 0)) := by
    rw [h1.block _ (by simp)]; exact heap_alloc_new _ _
  have c1 : w1.cell? ⟨w.heap.size, 1, none⟩ = some (.int .i64 (u : Int)) := by rw [cell_of_row _ _ 1 _ _ _ hr1]; rfl
  have k1 : Below w.heap.size w w1 := ((Below.refl w.heap.size w).alloc (Nat.le_refl _) _).trans (h1.mono (by simp))
  clear hr1 h1
  have K1 := Lib.hid k1; clear k1
  go_wp2_with fail
  refine (H2.out _).mono ?_; rintro e w2 ⟨rfl, h2⟩
  go_wp2_with fail
  rw [HT.out]
  refine (HS.out _).mono ?_; rintro e w3 ⟨rfl, h3⟩
  go_wp2_with fail
  refine (HF.out _).mono ?_; rintro e w4 ⟨rfl, h4⟩
  go_wp2_with fail
  go_ret
  have k2 := K1.out.trans (h2.mono K1.out.size)
  have k3 := k2.trans (h3.mono k2.size)
  exact ⟨rfl, k3.trans (h4.mono k3.size)⟩
end Go.Proofs.Ytjmpagbjkehebaa
