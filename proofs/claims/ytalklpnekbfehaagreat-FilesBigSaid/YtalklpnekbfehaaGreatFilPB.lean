/- Put together of: FilMark FilMark2 FilLook FilAll FilRange FilEnc -/
import Derived.Test.YtalklpnekbfehaaGreatFilPA
import Derived.Test.YtalklpnekbfehaaGreatWalA
import Derived.Test.YtalklpnekbfehaaGreatRefAll
import Derived.Test.YtalklpnekbfehaaGreatIter
import Derived.OwnWalkIn
import Derived.TacticsInMore
import Derived.LoopNIn
import Derived.LoopIn
import Derived.Shelf.Abstract
import Derived.Shelf.RegionOpen
import Derived.Test.YtalklpnekbfehaaGreatGoAll
import Derived.Test.YtalklpnekbfehaaGreatOctAll
import Derived.Shelf.Strings.BuilderK
set_option maxRecDepth 100000
/-
  files' header: the sector's text, and what readMark returns.
-/
set_option linter.unusedVariables false
set_option maxRecDepth 100000
namespace Go.Proofs.YtalklpnekbfehaaGreat
open Go.RowKit

namespace Fil
def mtext (a q : Nat) : Txt := [70, 73, 76, 49] ++ Oct.le 1 a ++ Oct.le 8 q
def mark (a q : Nat) : Txt := Wal.fill (Crc.sealT (mtext a q))
theorem mtext_length (a q : Nat) : (mtext a q).length = 13 := by simp [mtext, Oct.le_length]
theorem mark_length (a q : Nat) : (mark a q).length = 64 := by
  rw [mark, Wal.fill_length, Wal.seal_length, mtext_length]; rfl
theorem mark_front (a q : Nat) : ∃ t : Txt, mark a q = [70, 73, 76, 49] ++ (Oct.le 1 a ++ (Oct.le 8 q ++ t)) := by
  refine ⟨Crc.le4 (Crc.sum (mtext a q)) ++ List.replicate (Wal.whole (Crc.sealT (mtext a q)).length * 64 - (Crc.sealT (mtext a q)).length) 0, ?_⟩
  simp only [mark, Wal.fill, Crc.sealT, List.append_assoc, mtext]
theorem mark_area (a q : Nat) (ha : a < 256) : ((mark a q).getD 4 0).toNat = a := by
  obtain ⟨t, ht⟩ := mark_front a q
  rw [ht]
  have : Oct.le 1 a = [UInt8.ofNat a] := by
    rw [Oct.le_snoc 0 a]
    simp [Oct.le]
  rw [this]
  simp
  omega
theorem mark_seq (a q : Nat) (hq : q < 18446744073709551616) : Oct.un (((mark a q).drop 5).take 8) = q := by
  obtain ⟨t, ht⟩ := mark_front a q
  have h1 : (Oct.le 1 a).length = 1 := Oct.le_length _ _
  have h8 : (Oct.le 8 q).length = 8 := Oct.le_length _ _
  rw [ht, ← List.append_assoc, List.drop_left' (by simp [h1]), List.take_left' h8]
  exact Oct.un_le 8 q (by omega)
theorem mark_not (a q : Nat) : ¬ Wal.nought (mark a q) := fun h => by
  unfold Wal.nought at h
  obtain ⟨t, ht⟩ := mark_front a q
  have h0 := congrArg (fun l => l[0]?) h
  rw [mark_length] at h0
  rw [ht] at h0
  simp at h0
/-- what a header's sector says -/
def readMark (s : Txt) : Option (Option (Nat × Nat)) :=
  if Wal.nought s then some none
  else if 2 ≤ (s.getD 4 0).toNat then none
  else if mark (s.getD 4 0).toNat (Oct.un ((s.drop 5).take 8)) = s then some (some ((s.getD 4 0).toNat, Oct.un ((s.drop 5).take 8))) else none
theorem readMark_mark (a q : Nat) (ha : a < 2) (hq : q < 18446744073709551616) : readMark (mark a q) = some (some (a, q)) := by
  rw [readMark, if_neg (mark_not a q), mark_area a q (by omega), mark_seq a q hq, if_neg (by omega), if_pos rfl]
theorem readMark_zero (n : Nat) : readMark (List.replicate n 0) = some none := by
  rw [readMark, if_pos]; unfold Wal.nought; rw [List.length_replicate]
theorem readMark_le {s : Txt} {a q : Nat} (h : readMark s = some (some (a, q))) : a < 2 ∧ q < 18446744073709551616 ∧ mark a q = s := by
  unfold readMark at h
  split at h
  · cases h
  split at h
  · cases h
  split at h
  · cases h
    refine ⟨by omega, ?_, ‹_›⟩
    have := Oct.un_lt ((s.drop 5).take 8)
    have hl : ((s.drop 5).take 8).length ≤ 8 := by rw [List.length_take]; omega
    exact Nat.lt_of_lt_of_le this (Nat.pow_le_pow_right (by decide) hl)
  · cases h
end Fil

theorem ftext_any (a q : Nat) (nm : Bool) (ha : a < 256) (hq : q < 18446744073709551616) (w : World) :
    Calls Tryz.prog 69 #[.agg #[.bool nm, .int .i64 (a : Int), .int .u64 (q : Int)]] w fun e w' => e = .returned (.string (ba (Fil.mark a q))) ∧ Below w.heap.size w w' := by
  have hp1 := fun x => octPut_any a 1 x (by omega) (by decide) (by decide)
  have he1 : Oct.put a 1 = (Oct.le 1 a, 0) := by
    unfold Oct.put
    rw [if_pos ⟨by decide, by decide, by simpa using ha⟩]; rfl
  have hp2 := fun x => octPut_any q 8 x hq (by decide) (by decide)
  have he2 : Oct.put q 8 = (Oct.le 8 q, 0) := by
    unfold Oct.put
    rw [if_pos ⟨by decide, by decide, by simpa using hq⟩]; rfl
  rw [he1] at hp1
  rw [he2] at hp2
  have l1 : (ba (Oct.le 1 a)).size = 1 := by rw [ba_size, Oct.le_length]
  have l8 : (ba (Oct.le 8 q)).size = 8 := by rw [ba_size, Oct.le_length]
  have hp1' : ∀ x, Calls Tryz.prog 115 #[.int .u64 (a : Int), .int .i64 1] x fun e w' => e = .returned (.tuple #[.string (ba (Oct.le 1 a)), .int .i64 0]) ∧ Below x.heap.size x w' := hp1
  have hp2' : ∀ x, Calls Tryz.prog 115 #[.int .u64 (q : Int), .int .i64 8] x fun e w' => e = .returned (.tuple #[.string (ba (Oct.le 8 q)), .int .i64 0]) ∧ Below x.heap.size x w' := hp2
  clear hp1 hp2 he1 he2
  have hT : (⟨#[70, 73, 76, 49]⟩ : ByteArray) ++ ba (Oct.le 1 a) ++ ba (Oct.le 8 q) = ba (Fil.mtext a q) := by
    have : (⟨#[70, 73, 76, 49]⟩ : ByteArray) = ba [70, 73, 76, 49] := rfl
    rw [this, ba_app, ba_app]; rfl
  have hTl : (ba (Fil.mtext a q)).size = 13 := by rw [ba_size, Fil.mtext_length]
  have hS := fun x => seal_any (ba (Fil.mtext a q)) (by omega) x
  have hSl : (sealB (ba (Fil.mtext a q))).size = 17 := by rw [sealB_size, hTl]
  have hF := fun x => filled_any (sealB (ba (Fil.mtext a q))) (by omega) x
  have hM : Wal.fill (sealB (ba (Fil.mtext a q))).data.toList = Fil.mark a q := by
    rw [sealB_list, ba_list]; rfl
  rw [hM] at hF
  generalize sealB (ba (Fil.mtext a q)) = S at *
  generalize ba (Fil.mark a q) = M at *
  generalize ba (Fil.mtext a q) = T at *
  generalize ba (Oct.le 1 a) = A1 at *
  generalize ba (Oct.le 8 q) = A8 at *
  have l12 : ((⟨#[70, 73, 76, 49]⟩ : ByteArray) ++ A1).size = 5 := by rw [ByteArray.size_append, l1]; rfl
  have hwu : IntKind.u64.wrap (a : Int) = (a : Int) := by rw [IntKind.wrap_u64]; omega
  have HT := Lib.hid hT; clear hT
  have H1 := Lib.hid hp1'; clear hp1'
  have H2 := Lib.hid hp2'; clear hp2'
  have HS := Lib.hid hS; clear hS
  have HF := Lib.hid hF; clear hF
  clear hM hTl hSl
  go_enter Tryz.func69, Tryz.ntmps69
  go_wp2_with fail
  refine (H1.out _).mono ?_; rintro e w1 ⟨rfl, h1⟩
  have hr1 : w1.heap[w.heap.size]? = some (.cells #[.bool nm, .int .i64 (a : Int), .int .u64 (q : Int)] 66 (0, 0)) := by
    rw [h1.block _ (by simp)]; exact heap_alloc_new _ _
  have c1 : w1.cell? ⟨w.heap.size, 2, none⟩ = some (.int .u64 (q : Int)) := by rw [cell_of_row _ _ 2 _ _ _ hr1]; rfl
  have k1 : Below w.heap.size w w1 := ((Below.refl w.heap.size w).alloc (Nat.le_refl _) _).trans (h1.mono (by simp))
  clear hr1 h1
  have K1 := Lib.hid k1; clear k1
  go_wp2_with fail
  refine (H2.out _).mono ?_; rintro e w2 ⟨rfl, h2⟩
  go_wp2_with fail
  rw [HT.out]
  refine (HS.out _).mono ?_; rintro e w3 ⟨rfl, h3⟩
  go_wp2_with fail
  refine (HF.out _).mono ?_; rintro e w4 ⟨rfl, h4⟩
  go_wp2_with fail
  go_ret
  have k2 := K1.out.trans (h2.mono K1.out.size)
  have k3 := k2.trans (h3.mono k2.size)
  exact ⟨rfl, k3.trans (h4.mono k3.size)⟩
end Go.Proofs.YtalklpnekbfehaaGreat

/-
  files.readMark.
-/
set_option linter.unusedVariables false
set_option maxRecDepth 100000
namespace Go.Proofs.YtalklpnekbfehaaGreat
open Go.RowKit

def fmarkV (nm : Bool) (a q : Nat) : Value := .agg #[.bool nm, .int .i64 (a : Int), .int .u64 (q : Int)]
def fmarkO : Option (Option (Nat × Nat)) → Value
  | none => fmarkV false 0 0
  | some none => fmarkV false 0 0
  | some (some x) => fmarkV true x.1 x.2
def fmarkE : Option (Option (Nat × Nat)) → Int
  | none => 50
  | some _ => 0
def fmarkR (o : Option (Option (Nat × Nat))) : Ending := .returned (.tuple #[fmarkO o, .int .i64 (fmarkE o)])

theorem three_set {w : World} {b : Nat} {x y z : Value} {T : TypeId} (h : w.heap[b]? = some (.cells #[x, y, z] T (0, 0))) (x' y' z' : Value) :
    (((w.setCell ⟨b, 0, none⟩ x').setCell ⟨b, 1, none⟩ y').setCell ⟨b, 2, none⟩ z').heap[b]? = some (.cells #[x', y', z'] T (0, 0)) := by
  have h1 : (w.setCell ⟨b, 0, none⟩ x').heap[b]? = some (.cells #[x', y, z] T (0, 0)) := by rw [heap_setCell_same w b 0 _ _ _ h]; rfl
  have h2 : ((w.setCell ⟨b, 0, none⟩ x').setCell ⟨b, 1, none⟩ y').heap[b]? = some (.cells #[x', y', z] T (0, 0)) := by rw [heap_setCell_same _ b 1 _ _ _ h1]; rfl
  rw [heap_setCell_same _ b 2 _ _ _ h2]; rfl
theorem fmark_results (tmps : Array Value) (b : Nat) (x y z : Value) (e : Value) (W : World) (h2 : tmps.getD 2 undef = .pointer (some ⟨b, 0, none⟩)) (h3 : tmps.getD 3 undef = e)
    (h : W.heap[b]? = some (.cells #[x, y, z] 66 (0, 0))) :
    (results Tryz.f43 tmps).run Tryz.prog W = .ok (.tuple #[.agg #[x, y, z], e]) W := by
  have c0 : W.cell? ⟨b, 0, none⟩ = some x := by rw [cell_of_row _ _ 0 _ _ _ h]; rfl
  have c1 : W.cell? ⟨b, 1, none⟩ = some y := by rw [cell_of_row _ _ 1 _ _ _ h]; rfl
  have c2 : W.cell? ⟨b, 2, none⟩ = some z := by rw [cell_of_row _ _ 2 _ _ _ h]; rfl
  have f0 := row_free h 0
  have f1 := row_free h 1
  have f2 := row_free h 2
  have h2' : tmps[2]?.getD undef = .pointer (some ⟨b, 0, none⟩) := by simpa using h2
  have h3' : tmps[3]?.getD undef = e := by simpa using h3
  simp [results, go_sem, h2', h3', c0, c1, c2]

section
variable {p : Nat} {w : World}
/-- the disk's answer is an error -/
theorem freadMark_bad (s : ByteArray) (E : Int) (hE : (E != 0) = true) (hrd : ∀ u, Below w.heap.size w u → Calls Tryz.prog 66 #[.pointer (some ⟨p, 0, none⟩), .int .i64 0, .int .i64 1] u fun e w' => e = .returned (.tuple #[.string s, .int .i64 E]) ∧ Below u.heap.size u w') :
    Calls Tryz.prog 43 #[.pointer (some ⟨p, 0, none⟩)] w fun e w' => e = .returned (.tuple #[fmarkV false 0 0, .int .i64 E]) ∧ Below w.heap.size w w' := by
  have hrd2 := hrd (w.alloc (.cells #[.bool false, .int .i64 0, .int .u64 0] 66)) ((Below.refl _ w).alloc (Nat.le_refl _) _)
  have Hr := Lib.hid hrd2; clear hrd hrd2
  go_enter Tryz.func43, Tryz.ntmps43
  go_wp2_with fail
  refine Hr.out.mono ?_; rintro e w1 ⟨rfl, h1⟩
  have hr1 : w1.heap[w.heap.size]? = some (.cells #[.bool false, .int .i64 0, .int .u64 0] 66 (0, 0)) := by
    rw [h1.block _ (by simp)]; exact heap_alloc_new _ _
  have k1 : Below w.heap.size w w1 := ((Below.refl w.heap.size w).alloc (Nat.le_refl _) _).trans (h1.mono (by simp))
  have c0 : w1.cell? ⟨w.heap.size, 0, none⟩ = some (.bool false) := by rw [cell_of_row _ _ 0 _ _ _ hr1]; rfl
  have c1 : w1.cell? ⟨w.heap.size, 1, none⟩ = some (.int .i64 0) := by rw [cell_of_row _ _ 1 _ _ _ hr1]; rfl
  have c2 : w1.cell? ⟨w.heap.size, 2, none⟩ = some (.int .u64 0) := by rw [cell_of_row _ _ 2 _ _ _ hr1]; rfl
  have f0 := row_free hr1 0
  have f1 := row_free hr1 1
  have f2 := row_free hr1 2
  clear h1
  have K1 := Lib.hid k1; clear k1
  go_wp2_with fail
  (try simp only [Exit.inBlock, Exit.then])
  refine bodyPost_ret (v := .tuple #[fmarkV false 0 0, .int .i64 E]) (fmark_results _ w.heap.size _ _ _ _ _ rfl rfl (three_set hr1 _ _ _)) rfl ?_
  exact ⟨rfl, ((K1.out.setCell (p := ⟨w.heap.size, 0, none⟩) (Nat.le_refl _) _).setCell (p := ⟨w.heap.size, 1, none⟩) (Nat.le_refl _) _).setCell (p := ⟨w.heap.size, 2, none⟩) (Nat.le_refl _) _⟩

theorem freadMark_nought (s : ByteArray) (hz : Wal.nought s.data.toList) (hrd : ∀ u, Below w.heap.size w u → Calls Tryz.prog 66 #[.pointer (some ⟨p, 0, none⟩), .int .i64 0, .int .i64 1] u fun e w' => e = .returned (.tuple #[.string s, .int .i64 0]) ∧ Below u.heap.size u w') :
    Calls Tryz.prog 43 #[.pointer (some ⟨p, 0, none⟩)] w fun e w' => e = .returned (.tuple #[fmarkV false 0 0, .int .i64 0]) ∧ Below w.heap.size w w' := by
  have hrd2 := hrd (w.alloc (.cells #[.bool false, .int .i64 0, .int .u64 0] 66)) ((Below.refl _ w).alloc (Nat.le_refl _) _)
  have hbl := fun u => blank_any s true (decide_eq_true hz) u
  have Hr := Lib.hid hrd2; clear hrd hrd2
  have Hb := Lib.hid hbl; clear hbl
  clear hz
  go_enter Tryz.func43, Tryz.ntmps43
  go_wp2_with fail
  refine Hr.out.mono ?_; rintro e w1 ⟨rfl, h1⟩
  go_wp2_with fail
  refine (Hb.out _).mono ?_; rintro e w2 ⟨rfl, h2⟩
  have h3 := h1.trans (h2.mono h1.size)
  clear h1 h2
  have hr1 : w2.heap[w.heap.size]? = some (.cells #[.bool false, .int .i64 0, .int .u64 0] 66 (0, 0)) := by
    rw [h3.block _ (by simp)]; exact heap_alloc_new _ _
  have k1 : Below w.heap.size w w2 := ((Below.refl w.heap.size w).alloc (Nat.le_refl _) _).trans (h3.mono (by simp))
  have c0 : w2.cell? ⟨w.heap.size, 0, none⟩ = some (.bool false) := by rw [cell_of_row _ _ 0 _ _ _ hr1]; rfl
  have c1 : w2.cell? ⟨w.heap.size, 1, none⟩ = some (.int .i64 0) := by rw [cell_of_row _ _ 1 _ _ _ hr1]; rfl
  have c2 : w2.cell? ⟨w.heap.size, 2, none⟩ = some (.int .u64 0) := by rw [cell_of_row _ _ 2 _ _ _ hr1]; rfl
  have f0 := row_free hr1 0
  have f1 := row_free hr1 1
  have f2 := row_free hr1 2
  clear h3
  have K1 := Lib.hid k1; clear k1
  go_wp2_with fail
  (try simp only [Exit.inBlock, Exit.then])
  refine bodyPost_ret (v := .tuple #[fmarkV false 0 0, .int .i64 0]) (fmark_results _ w.heap.size _ _ _ _ _ rfl rfl (three_set hr1 _ _ _)) rfl ?_
  exact ⟨rfl, ((K1.out.setCell (p := ⟨w.heap.size, 0, none⟩) (Nat.le_refl _) _).setCell (p := ⟨w.heap.size, 1, none⟩) (Nat.le_refl _) _).setCell (p := ⟨w.heap.size, 2, none⟩) (Nat.le_refl _) _⟩

set_option maxHeartbeats 800000 in
theorem freadMark_some (s : ByteArray) (hs : s.size = 64) (hz : ¬ Wal.nought s.data.toList) (hrd : ∀ u, Below w.heap.size w u → Calls Tryz.prog 66 #[.pointer (some ⟨p, 0, none⟩), .int .i64 0, .int .i64 1] u fun e w' => e = .returned (.tuple #[.string s, .int .i64 0]) ∧ Below u.heap.size u w') :
    Calls Tryz.prog 43 #[.pointer (some ⟨p, 0, none⟩)] w fun e w' => e = fmarkR (Fil.readMark s.data.toList) ∧ Below w.heap.size w w' := by
  have hrd2 := hrd (w.alloc (.cells #[.bool false, .int .i64 0, .int .u64 0] 66)) ((Below.refl _ w).alloc (Nat.le_refl _) _)
  have hbl := fun u => blank_any s false (decide_eq_false hz) u
  have g1 := fun u => octGet_any (s.extract 5 13) u
  have e1 : (s.extract 5 13).data.toList = (s.data.toList.drop 5).take 8 := by
    rw [ByteArray.data_extract, Array.toList_extract, List.extract_eq_take_drop]
  have l1 : ((s.data.toList.drop 5).take 8).length = 8 := by rw [List.length_take, List.length_drop, ba_len]; omega
  rw [e1, show Oct.get ((s.data.toList.drop 5).take 8) = (Oct.un ((s.data.toList.drop 5).take 8), 0) from by unfold Oct.get; rw [if_pos (by omega)]] at g1
  have b1 := Oct.un_lt ((s.data.toList.drop 5).take 8)
  rw [l1] at b1
  have b1' : Oct.un ((s.data.toList.drop 5).take 8) < 18446744073709551616 := b1
  unfold Fil.readMark
  rw [if_neg hz]
  have hA : (s.data.toList.getD 4 0).toNat < 256 := UInt8.toNat_lt _
  have hix : wrap64 ((s[4]'(by omega)).toNat : Int) = ((s.data.toList.getD 4 0).toNat : Int) := by
    have : s[4]'(by omega) = s.data.toList.getD 4 0 := by
      rw [List.getD_eq_getElem?_getD, List.getElem?_eq_getElem (by rw [ba_len]; omega)]; rfl
    rw [this]; exact IntWalk.wrap64_in _ ⟨by omega, by omega⟩
  clear e1 l1 b1
  generalize Oct.un ((s.data.toList.drop 5).take 8) = Q at *
  generalize (s.data.toList.getD 4 0).toNat = A at *
  have hh := fun u => ftext_any A Q true hA b1' u
  have hms : (ba (Fil.mark A Q) = s) ↔ Fil.mark A Q = s.data.toList := by
    constructor
    · intro h
      have h2 := congrArg (fun x : ByteArray => x.data.toList) h
      simpa only [ba_list] using h2
    · intro h; rw [h, ba_of]
  have Hr := Lib.hid hrd2; clear hrd hrd2
  have Hb := Lib.hid hbl; clear hbl
  have G1 := Lib.hid g1; clear g1
  have HH := Lib.hid hh; clear hh
  have HM := Lib.hid hms; clear hms
  clear hz
  by_cases h2A : 2 ≤ A
  · rw [if_pos h2A]
    have x2 : decide ((2 : Int) ≤ (A : Int)) = true := decide_eq_true (by omega)
    have y2 : (2 : Int) ≤ (A : Int) := by omega
    go_enter Tryz.func43, Tryz.ntmps43
    go_wp2_with fail
    refine Hr.out.mono ?_; rintro e w1 ⟨rfl, h1⟩
    go_wp2_with fail
    refine (Hb.out _).mono ?_; rintro e w2 ⟨rfl, h2⟩
    have h3 := h1.trans (h2.mono h1.size)
    clear h1 h2
    have hr1 : w2.heap[w.heap.size]? = some (.cells #[.bool false, .int .i64 0, .int .u64 0] 66 (0, 0)) := by
      rw [h3.block _ (by simp)]; exact heap_alloc_new _ _
    have hsz : w.heap.size < w2.heap.size := row_lt hr1
    have k1 : Below w.heap.size w w2 := ((Below.refl w.heap.size w).alloc (Nat.le_refl _) _).trans (h3.mono (by simp))
    clear h3
    have K1 := Lib.hid k1; clear k1
    go_wp2_with fail
    refine (G1.out _).mono ?_; rintro e w3 ⟨rfl, rfl⟩
    have hra := (Below.heap_alloc w2 (.cells #[.bool true, .int .i64 (A : Int), .int .u64 (Q : Int)] 66) _ hsz).trans hr1
    have kA : Below w.heap.size w (w2.alloc (.cells #[.bool true, .int .i64 (A : Int), .int .u64 (Q : Int)] 66)) := K1.out.alloc (by omega) _
    have c0 : (w2.alloc (.cells #[.bool true, .int .i64 (A : Int), .int .u64 (Q : Int)] 66)).cell? ⟨w.heap.size, 0, none⟩ = some (.bool false) := by rw [cell_of_row _ _ 0 _ _ _ hra]; rfl
    have c1 : (w2.alloc (.cells #[.bool true, .int .i64 (A : Int), .int .u64 (Q : Int)] 66)).cell? ⟨w.heap.size, 1, none⟩ = some (.int .i64 0) := by rw [cell_of_row _ _ 1 _ _ _ hra]; rfl
    have c2 : (w2.alloc (.cells #[.bool true, .int .i64 (A : Int), .int .u64 (Q : Int)] 66)).cell? ⟨w.heap.size, 2, none⟩ = some (.int .u64 0) := by rw [cell_of_row _ _ 2 _ _ _ hra]; rfl
    have f0 := row_free hra 0
    have f1 := row_free hra 1
    have f2 := row_free hra 2
    clear hsz
    have KA := Lib.hid kA; clear kA
    go_wp2_with fail
    (try simp only [Exit.inBlock, Exit.then])
    refine bodyPost_ret (v := .tuple #[fmarkV false 0 0, .int .i64 50]) (fmark_results _ w.heap.size _ _ _ _ _ rfl rfl (three_set hra _ _ _)) rfl ?_
    exact ⟨rfl, ((KA.out.setCell (p := ⟨w.heap.size, 0, none⟩) (Nat.le_refl _) _).setCell (p := ⟨w.heap.size, 1, none⟩) (Nat.le_refl _) _).setCell (p := ⟨w.heap.size, 2, none⟩) (Nat.le_refl _) _⟩
  rw [if_neg h2A]
  have x2 : decide ((2 : Int) ≤ (A : Int)) = false := decide_eq_false (by omega)
  have y2 : ¬ (2 : Int) ≤ (A : Int) := by omega
  by_cases hm : ba (Fil.mark A Q) = s
  · rw [if_pos (HM.out.1 hm)]
    rw [hm] at HH
    clear HM hm
    go_enter Tryz.func43, Tryz.ntmps43
    go_wp2_with fail
    refine Hr.out.mono ?_; rintro e w1 ⟨rfl, h1⟩
    go_wp2_with fail
    refine (Hb.out _).mono ?_; rintro e w2 ⟨rfl, h2⟩
    have h3 := h1.trans (h2.mono h1.size)
    clear h1 h2
    have hr1 : w2.heap[w.heap.size]? = some (.cells #[.bool false, .int .i64 0, .int .u64 0] 66 (0, 0)) := by
      rw [h3.block _ (by simp)]; exact heap_alloc_new _ _
    have hsz : w.heap.size < w2.heap.size := row_lt hr1
    have k1 : Below w.heap.size w w2 := ((Below.refl w.heap.size w).alloc (Nat.le_refl _) _).trans (h3.mono (by simp))
    clear h3
    have K1 := Lib.hid k1; clear k1
    go_wp2_with fail
    refine (G1.out _).mono ?_; rintro e w3 ⟨rfl, rfl⟩
    have hra := (Below.heap_alloc w2 (.cells #[.bool true, .int .i64 (A : Int), .int .u64 (Q : Int)] 66) _ hsz).trans hr1
    have kA : Below w.heap.size w (w2.alloc (.cells #[.bool true, .int .i64 (A : Int), .int .u64 (Q : Int)] 66)) := K1.out.alloc (by omega) _
    have hra2 : (w2.alloc (.cells #[.bool true, .int .i64 (A : Int), .int .u64 (Q : Int)] 66)).heap[w2.heap.size]? = some (.cells #[.bool true, .int .i64 (A : Int), .int .u64 (Q : Int)] 66 (0, 0)) := heap_alloc_new _ _
    have hss : (w2.alloc (.cells #[.bool true, .int .i64 (A : Int), .int .u64 (Q : Int)] 66)).heap.size = w2.heap.size + 1 := by simp
    have KA := Lib.hid kA; clear kA
    go_wp2_with fail
    refine (HH.out _).mono ?_; rintro e w4 ⟨rfl, h4⟩
    have hr4 : w4.heap[w.heap.size]? = some (.cells #[.bool false, .int .i64 0, .int .u64 0] 66 (0, 0)) := by
      rw [h4.block _ (by omega)]; exact hra
    have hm4 : w4.heap[w2.heap.size]? = some (.cells #[.bool true, .int .i64 (A : Int), .int .u64 (Q : Int)] 66 (0, 0)) := by
      rw [h4.block _ (by omega)]; exact hra2
    have k4 : Below w.heap.size w w4 := KA.out.trans (h4.mono (by omega))
    clear h4 hra hra2 hr1
    have c0 : w4.cell? ⟨w.heap.size, 0, none⟩ = some (.bool false) := by rw [cell_of_row _ _ 0 _ _ _ hr4]; rfl
    have c1 : w4.cell? ⟨w.heap.size, 1, none⟩ = some (.int .i64 0) := by rw [cell_of_row _ _ 1 _ _ _ hr4]; rfl
    have c2 : w4.cell? ⟨w.heap.size, 2, none⟩ = some (.int .u64 0) := by rw [cell_of_row _ _ 2 _ _ _ hr4]; rfl
    have f0 := row_free hr4 0
    have f1 := row_free hr4 1
    have f2 := row_free hr4 2
    have d0 : w4.cell? ⟨w2.heap.size, 0, none⟩ = some (.bool true) := by rw [cell_of_row _ _ 0 _ _ _ hm4]; rfl
    have d1 : w4.cell? ⟨w2.heap.size, 1, none⟩ = some (.int .i64 (A : Int)) := by rw [cell_of_row _ _ 1 _ _ _ hm4]; rfl
    have d2 : w4.cell? ⟨w2.heap.size, 2, none⟩ = some (.int .u64 (Q : Int)) := by rw [cell_of_row _ _ 2 _ _ _ hm4]; rfl
    have K4 := Lib.hid k4; clear k4
    go_wp2_with fail
    (try simp only [Exit.inBlock, Exit.then])
    refine bodyPost_ret (v := .tuple #[fmarkV true A Q, .int .i64 0]) (fmark_results _ w.heap.size _ _ _ _ _ rfl rfl (three_set hr4 _ _ _)) rfl ?_
    exact ⟨rfl, ((K4.out.setCell (p := ⟨w.heap.size, 0, none⟩) (Nat.le_refl _) _).setCell (p := ⟨w.heap.size, 1, none⟩) (Nat.le_refl _) _).setCell (p := ⟨w.heap.size, 2, none⟩) (Nat.le_refl _) _⟩
  · rw [if_neg (fun e => hm (HM.out.2 e))]
    have hnm := ba_ne hm
    generalize ba (Fil.mark A Q) = M at *
    clear HM hm
    go_enter Tryz.func43, Tryz.ntmps43
    go_wp2_with fail
    refine Hr.out.mono ?_; rintro e w1 ⟨rfl, h1⟩
    go_wp2_with fail
    refine (Hb.out _).mono ?_; rintro e w2 ⟨rfl, h2⟩
    have h3 := h1.trans (h2.mono h1.size)
    clear h1 h2
    have hr1 : w2.heap[w.heap.size]? = some (.cells #[.bool false, .int .i64 0, .int .u64 0] 66 (0, 0)) := by
      rw [h3.block _ (by simp)]; exact heap_alloc_new _ _
    have hsz : w.heap.size < w2.heap.size := row_lt hr1
    have k1 : Below w.heap.size w w2 := ((Below.refl w.heap.size w).alloc (Nat.le_refl _) _).trans (h3.mono (by simp))
    clear h3
    have K1 := Lib.hid k1; clear k1
    go_wp2_with fail
    refine (G1.out _).mono ?_; rintro e w3 ⟨rfl, rfl⟩
    have hra := (Below.heap_alloc w2 (.cells #[.bool true, .int .i64 (A : Int), .int .u64 (Q : Int)] 66) _ hsz).trans hr1
    have kA : Below w.heap.size w (w2.alloc (.cells #[.bool true, .int .i64 (A : Int), .int .u64 (Q : Int)] 66)) := K1.out.alloc (by omega) _
    have hra2 : (w2.alloc (.cells #[.bool true, .int .i64 (A : Int), .int .u64 (Q : Int)] 66)).heap[w2.heap.size]? = some (.cells #[.bool true, .int .i64 (A : Int), .int .u64 (Q : Int)] 66 (0, 0)) := heap_alloc_new _ _
    have hss : (w2.alloc (.cells #[.bool true, .int .i64 (A : Int), .int .u64 (Q : Int)] 66)).heap.size = w2.heap.size + 1 := by simp
    have KA := Lib.hid kA; clear kA
    go_wp2_with fail
    refine (HH.out _).mono ?_; rintro e w4 ⟨rfl, h4⟩
    have hr4 : w4.heap[w.heap.size]? = some (.cells #[.bool false, .int .i64 0, .int .u64 0] 66 (0, 0)) := by
      rw [h4.block _ (by omega)]; exact hra
    have hm4 : w4.heap[w2.heap.size]? = some (.cells #[.bool true, .int .i64 (A : Int), .int .u64 (Q : Int)] 66 (0, 0)) := by
      rw [h4.block _ (by omega)]; exact hra2
    have k4 : Below w.heap.size w w4 := KA.out.trans (h4.mono (by omega))
    clear h4 hra hra2 hr1
    have c0 : w4.cell? ⟨w.heap.size, 0, none⟩ = some (.bool false) := by rw [cell_of_row _ _ 0 _ _ _ hr4]; rfl
    have c1 : w4.cell? ⟨w.heap.size, 1, none⟩ = some (.int .i64 0) := by rw [cell_of_row _ _ 1 _ _ _ hr4]; rfl
    have c2 : w4.cell? ⟨w.heap.size, 2, none⟩ = some (.int .u64 0) := by rw [cell_of_row _ _ 2 _ _ _ hr4]; rfl
    have f0 := row_free hr4 0
    have f1 := row_free hr4 1
    have f2 := row_free hr4 2
    have d0 : w4.cell? ⟨w2.heap.size, 0, none⟩ = some (.bool true) := by rw [cell_of_row _ _ 0 _ _ _ hm4]; rfl
    have d1 : w4.cell? ⟨w2.heap.size, 1, none⟩ = some (.int .i64 (A : Int)) := by rw [cell_of_row _ _ 1 _ _ _ hm4]; rfl
    have d2 : w4.cell? ⟨w2.heap.size, 2, none⟩ = some (.int .u64 (Q : Int)) := by rw [cell_of_row _ _ 2 _ _ _ hm4]; rfl
    have K4 := Lib.hid k4; clear k4
    go_wp2_with fail
    (try simp only [Exit.inBlock, Exit.then])
    refine bodyPost_ret (v := .tuple #[fmarkV false 0 0, .int .i64 50]) (fmark_results _ w.heap.size _ _ _ _ _ rfl rfl (three_set hr4 _ _ _)) rfl ?_
    exact ⟨rfl, ((K4.out.setCell (p := ⟨w.heap.size, 0, none⟩) (Nat.le_refl _) _).setCell (p := ⟨w.heap.size, 1, none⟩) (Nat.le_refl _) _).setCell (p := ⟨w.heap.size, 2, none⟩) (Nat.le_refl _) _⟩

theorem freadMark_good (s : ByteArray) (hs : s.size = 64) (hrd : ∀ u, Below w.heap.size w u → Calls Tryz.prog 66 #[.pointer (some ⟨p, 0, none⟩), .int .i64 0, .int .i64 1] u fun e w' => e = .returned (.tuple #[.string s, .int .i64 0]) ∧ Below u.heap.size u w') :
    Calls Tryz.prog 43 #[.pointer (some ⟨p, 0, none⟩)] w fun e w' => e = fmarkR (Fil.readMark s.data.toList) ∧ Below w.heap.size w w' := by
  by_cases hz : Wal.nought s.data.toList
  · have : Fil.readMark s.data.toList = some none := by unfold Fil.readMark; rw [if_pos hz]
    rw [this]; exact freadMark_nought s hz hrd
  · exact freadMark_some s hs hz hrd
end
end Go.Proofs.YtalklpnekbfehaaGreat

/-
  files: what is looked up; the names in their order.
-/
set_option linter.unusedVariables false
set_option maxRecDepth 100000
namespace Go.Proofs.YtalklpnekbfehaaGreat
open Go.RowKit

theorem zero_file (w : World) : (zeroValue 81).run Tryz.prog w = .ok (.agg #[.string ⟨#[]⟩]) w := by kernel_rfl

theorem at_file {r : Fil.Row} {v : Value} {ps : List MemPlace} {n : Fil.Txt} (h : fileElem v = some ((Fil.D r).atKey (.string n) (.lit (.string [])), ps)) : v = .agg #[.string (ba ((Fil.get r n).getD []))] := by
  obtain ⟨s, rfl, hz⟩ := fileElem_inv h
  rw [Fil.D_at] at hz
  have h1 := congrArg Prod.fst hz
  cases hg : Fil.get r n with
  | none =>
    rw [hg] at h1
    have h2 : s.data.toList = [] := by simpa using h1.symm
    rw [← ba_of s, h2]; rfl
  | some d =>
    rw [hg] at h1
    have h2 : s.data.toList = d := by simpa using h1.symm
    rw [← ba_of s, h2]; rfl

theorem look_any {b n : Nat} {r : Fil.Row} {w : World} (h : ContAt b n r w) (s : ByteArray) (hs : s.size ≤ maxLen) :
    (Instr.lookup 74 (.map (some b)) (.string s) false).run Tryz.prog w = .ok (.agg #[.string (ba ((Fil.get r s.data.toList).getD []))]) w := by
  obtain ⟨x, ps, hrun, hv⟩ := World.ownsMap.lookup h str_law Tryz.underlying74 (zero_file w) (fileElem_mk ⟨#[]⟩) (key_str s hs)
  have := at_file hv
  subst this
  exact hrun
theorem look2_any {b n : Nat} {r : Fil.Row} {w : World} (h : ContAt b n r w) (s : ByteArray) (hs : s.size ≤ maxLen) :
    (Instr.lookup 74 (.map (some b)) (.string s) true).run Tryz.prog w = .ok (.tuple #[.agg #[.string (ba ((Fil.get r s.data.toList).getD []))], .bool (Fil.get r s.data.toList).isSome]) w := by
  obtain ⟨x, ps, hrun, hv⟩ := World.ownsMap.look_ok h str_law Tryz.underlying74 (zero_file w) (fileElem_mk ⟨#[]⟩) (key_str s hs)
  have := at_file hv
  subst this
  rw [Fil.D_has] at hrun
  exact hrun

namespace Fil
theorem before_lt : ∀ (a b : List UInt8), bytesBefore a b = true ↔ a < b
  | [], [] => by simp [bytesBefore]
  | [], b :: s => by simp [bytesBefore]
  | a :: r, [] => by simp [bytesBefore]
  | a :: r, b :: s => by
    have ih := before_lt r s
    simp only [bytesBefore, Bool.or_eq_true, Bool.and_eq_true, decide_eq_true_eq, beq_iff_eq, List.cons_lt_cons_iff, ih]
theorem names_sorted {r : Row} (h : Sorted r) {ss : List (List UInt8)} (hp : ss.Perm (r.map (·.1))) : ss.mergeSort (fun x y => decide (x ≤ y)) = r.map (·.1) := by
  have tr : ∀ a b c : List UInt8, decide (a ≤ b) = true → decide (b ≤ c) = true → decide (a ≤ c) = true := fun a b c h1 h2 => by simp only [decide_eq_true_eq] at *; exact List.le_trans h1 h2
  have tot : ∀ a b : List UInt8, (decide (a ≤ b) || decide (b ≤ a)) = true := fun a b => by simp only [Bool.or_eq_true, decide_eq_true_eq]; exact List.le_total a b
  refine List.Perm.eq_of_pairwise (le := fun a b => decide (a ≤ b) = true) (fun a b _ _ h1 h2 => ?_) (List.pairwise_mergeSort tr tot ss) ?_ ((List.mergeSort_perm ss _).trans hp)
  · simp only [decide_eq_true_eq] at h1 h2
    exact List.le_antisymm h1 h2
  · rw [List.pairwise_map]
    exact h.imp fun {a b} hab => by
      rw [decide_eq_true_eq]
      exact List.le_of_lt ((before_lt _ _).1 hab)
theorem get_at : ∀ {r : Row}, Sorted r → ∀ {i : Nat} {x : Txt × Txt}, r[i]? = some x → get r x.1 = some x.2
  | [], _, i, x, hx => by simp at hx
  | y :: r, h, 0, x, hx => by
    have : y = x := by simpa using hx
    subst this
    simp [get]
  | y :: r, h, i + 1, x, hx => by
    have hx' : r[i]? = some x := by simpa using hx
    have hp := List.pairwise_cons.1 h
    have hne : (y.1 == x.1) = false := by
      refine beq_eq_false_iff_ne.2 fun e => ?_
      have := hp.1 x (List.mem_of_getElem? hx')
      rw [e, WideAt.bytes_irrefl] at this; cases this
    have ih := get_at (r := r) hp.2 hx'
    unfold get at ih ⊢
    rw [List.find?_cons_of_neg (by rw [hne]; decide)]
    exact ih
end Fil
end Go.Proofs.YtalklpnekbfehaaGreat

/-
  contents.all: it goes over the files in the order of their names; between two of them the caller's body may turn blocks of its own.
-/
set_option linter.unusedVariables false
set_option maxRecDepth 100000
namespace Go.Proofs.YtalklpnekbfehaaGreat
open Go.RowKit
attribute [local go_sem] Oper.semAt_some

/-- the kinds of rows that the iterator has -/
def Ki (T : TypeId) : Prop := T = 9 ∨ T = 74
/-- of the blocks that were there, the caller's own S apart: those below C lie as they lay, and of the others those of the iterator's kinds -/
def Kc (C : Nat) (S : Nat → Prop) (w : World) (k : Nat) : Prop := S k ∨ (C ≤ k ∧ ∀ (cs : Array Value) (T : TypeId) (fr : Nat × Nat), Ki T → w.heap[k]? ≠ some (.cells cs T fr))
def KeepC (C : Nat) (S : Nat → Prop) (w w' : World) : Prop := Turns (Kc C S w) w w'
section
variable {C : Nat} {S S' : Nat → Prop} {a b c : World}
theorem KeepC.cells (h : KeepC C S a b) {k : Nat} {cs : Array Value} {T : TypeId} {fr : Nat × Nat} (hT : Ki T) (hk : a.heap[k]? = some (.cells cs T fr)) (hn : ¬ S k) : b.heap[k]? = some (.cells cs T fr) :=
  Turns.same h hk (fun e => by
    rcases e with e | e
    · exact hn e
    · exact e.2 _ _ _ hT hk)
theorem KeepC.low (h : KeepC C S a b) {k : Nat} (hk : k < C) (hka : k < a.heap.size) (hn : ¬ S k) : b.heap[k]? = a.heap[k]? :=
  h.block k hka (fun e => by
    rcases e with e | e
    · exact hn e
    · omega)
theorem KeepC.trans (h : KeepC C S a b) (k : KeepC C S' b c) (hS : ∀ j, S' j → S j ∨ a.heap.size ≤ j) : KeepC C S a c :=
  Turns.trans h k (fun j hj e => by
    rcases e with e | e
    · rcases hS j e with e | e
      · exact .inl e
      · omega
    · by_cases hs : S j
      · exact .inl hs
      · refine .inr ⟨e.1, fun cs T fr hT hc => e.2 cs T fr hT (KeepC.cells h hT hc hs)⟩)
theorem KeepC.refl (C : Nat) (S : Nat → Prop) (a : World) : KeepC C S a a := Turns.refl _ a
theorem KeepC.of_new (h : Below a.heap.size a b) (C : Nat) (S : Nat → Prop) : KeepC C S a b := Turns.of_new h _
theorem KeepC.of_turns (h : Turns S a b) (C : Nat) : KeepC C S a b := h.mono (fun _ _ e => .inl e)
theorem KeepC.turns (h : KeepC C S a b) (hC : C = a.heap.size) : Turns S a b := h.mono (fun j hj e => by
  rcases e with e | e
  · exact e
  · omega)
theorem KeepC.stays (hC : C ≤ C) : Stays C (fun W => KeepC C S a W) := fun W l o o' hl ho hc hj => by
  refine ⟨hj.os, hj.tape, hj.output, by show _ ≤ (W.putObj l o').heap.size; rw [World.putObj_size]; exact hj.size, fun k hk hn => ?_⟩
  by_cases hkl : k = l
  · subst hkl
    refine absurd ?_ hn
    by_cases hs : S k
    · exact .inl hs
    · refine .inr ⟨hl, fun cs T fr hT hcs => ?_⟩
      rw [KeepC.cells hj hT hcs hs] at ho
      cases ho
      simp [Obj.isCells] at hc
  · rw [show (W.putObj l o').heap[k]? = W.heap[k]? from World.putObj_heap_other hkl]
    exact hj.block k hk hn
end

/-- what the caller has of its own, the blocks that it may turn, while it goes over the files -/
structure OwnsB (own : Nat → (Nat → Prop) → World → Prop) (Bx bm : Nat) : Prop where
  lt : ∀ i S W, own i S W → ∀ k, S k → k < W.heap.size
  new : ∀ i S W W', own i S W → Below W.heap.size W W' → own i S W'
  off : ∀ i S W, own i S W → ¬ S Bx ∧ ¬ S bm

/-- what lies where, i files having been gone over -/
structure Alw (C Bx bm nn : Nat) (r : Fil.Row) (own : Nat → (Nat → Prop) → World → Prop) (S0 : Nat → Prop) (W1 : World) (i : Nat) (W : World) : Prop where
  ow : ∃ S, own i S W ∧ ∀ j, S j → S0 j ∨ W1.heap.size ≤ j
  kp : KeepC C S0 W1 W
  bx : W.heap[Bx]? = some (.cells #[.map (some bm)] 74 (0, 0))
  mp : ContAt bm nn r W

section
variable {C Bx bm nn : Nat} {r : Fil.Row} {own : Nat → (Nat → Prop) → World → Prop} {S0 : Nat → Prop} {W1 W W' : World} {i : Nat}
theorem Alw.new (h : Alw C Bx bm nn r own S0 W1 i W) (o : OwnsB own Bx bm) (hb : Below W.heap.size W W') : Alw C Bx bm nn r own S0 W1 i W' := by
  obtain ⟨S, h1, h2⟩ := h.ow
  have hs := h.kp.size
  exact ⟨⟨S, o.new _ _ _ _ h1 hb, h2⟩, h.kp.trans (KeepC.of_new hb C S0) (fun j e => .inl e), by rw [hb.block _ (row_lt h.bx)]; exact h.bx, h.mp.new hb⟩
/-- a round of the caller's -/
theorem Alw.next (h : Alw C Bx bm nn r own S0 W1 i W) (o : OwnsB own Bx bm) (hC : bm < C) {S : Nat → Prop} (h1 : own i S W) (h2 : ∀ j, S j → S0 j ∨ W1.heap.size ≤ j) (hk : KeepC C S W W') {S' : Nat → Prop} (h3 : own (i + 1) S' W') (h4 : ∀ j, S' j → S j ∨ W.heap.size ≤ j) :
    Alw C Bx bm nn r own S0 W1 (i + 1) W' := by
  have hs := h.kp.size
  refine ⟨⟨S', h3, fun j e => ?_⟩, h.kp.trans hk h2, hk.cells (.inr rfl) h.bx (o.off _ _ _ h1).1, ownsMap_same h.mp (hk.low hC h.mp.lt (o.off _ _ _ h1).2)⟩
  rcases h4 j e with e | e
  · exact h2 j e
  · exact .inr (by omega)
end

theorem all_any (m : Option Nat) (w : World) :
    Calls Tryz.prog 37 #[.map m] w fun e w' => e = .returned (.func (.func 62) #[] #[.pointer (some ⟨w.heap.size, 0, none⟩)]) ∧ w' = w.alloc (.cells #[.map m] 74) := by
  go_enter Tryz.func37, Tryz.ntmps37
  go_wp2
  go_ret
  exact ⟨rfl, rfl⟩

set_option maxHeartbeats 1000000 in
theorem all1_any {C Bx bm nn : Nat} {r : Fil.Row} {own : Nat → (Nat → Prop) → World → Prop} {S0 : Nat → Prop} {W1 : World} (hr : Fil.Sorted r) (hf : Fil.Fine r) (hlen : r.length ≤ 1099511627776) (o : OwnsB own Bx bm) (hC : bm < C)
    (hbx : W1.heap[Bx]? = some (.cells #[.map (some bm)] 74 (0, 0))) (hmp : ContAt bm nn r W1) (hown : own 0 S0 W1)
    (ly : Nat) (Book : World → Prop) (hBook : ∀ A A', KeepsOthers A A' → Book A → Book A') (hb1 : Book W1)
    (hY : ∀ i x S W, r[i]? = some x → Book W → Alw C Bx bm nn r own S0 W1 i W → own i S W → YieldAt Fence.wide 3 Tryz.prog ly #[.string (ba x.1), .string (ba x.2)] W fun e W' => e = .returned (.bool true) ∧ Book W' ∧ KeepC C S W W' ∧ ∃ S', own (i + 1) S' W' ∧ ∀ j, S' j → S j ∨ W.heap.size ≤ j) :
    CallsIn Fence.wide 4 Tryz.prog 62 (#[.func (.yield ly) #[] #[]] ++ #[.pointer (some ⟨Bx, 0, none⟩)]) W1
      fun e W' => (∃ v, e = .returned v) ∧ Book W' ∧ Alw C Bx bm nn r own S0 W1 r.length W' := by
  have hk := fun u => callsIn_wide (n := 3).2 (callsIn_wide.1 (Tryz.maps_Keys_64 (some bm) u))
  have hsz : Maps.size (Fil.D r) = r.length := Fil.D_size r
  have hs := callsIn_wide (n := 3).2 (callsIn_wide.1 (Tryz.slices_Sorted_keys_63_64 bm nn (Fil.D r) fileElem W1 hmp (by rw [hsz]; show r.length ≤ 9223372036854775807; omega) (by rw [hsz]; omega)))
  rw [Fil.D_keys] at hs
  have h0 : Alw C Bx bm nn r own S0 W1 0 W1 := ⟨⟨S0, hown, fun j e => .inl e⟩, KeepC.refl _ _ _, hbx, hmp⟩
  have c1 := cell_of_one hbx
  refine callsIn_of_wp Tryz.func62 rfl trivial ?_ rfl
  simp only [Tryz.ntmps62, List.size_toArray, List.length_cons, List.length_nil, Nat.reduceAdd, Nat.reduceSub, Array.replicate_succ, Array.replicate_zero, List.push_toArray, List.append_toArray, List.nil_append, List.cons_append]
  have HY := Lib.hid hY; clear hY
  have HB := Lib.hid hBook; clear hBook
  have Hb1 := Lib.hid hb1; clear hb1
  have H0 := Lib.hid h0; clear h0
  have Hk := Lib.hid hk; clear hk
  have Hs := Lib.hid hs; clear hs
  have Hr := Lib.hid hr; clear hr
  have Hf := Lib.hid hf; clear hf
  have Ho := Lib.hid o; clear o
  have Hown := Lib.hid hown; clear hown
  clear hbx hmp hsz
  gi_wp2_with fail
  refine ⟨trivial, (Hk.out _).mono ?_⟩; rintro e w1 ⟨rfl, rfl⟩
  gi_wp2_with fail
  refine ⟨trivial, Hs.out.mono ?_⟩; rintro e w2 ⟨v, ss, rfl, hp, hrow, hnil, hb⟩
  rw [Fil.names_sorted Hr.out hp] at hrow
  have hl : ss.length = r.length := by have := hp.length_eq; simpa using this
  rw [hl] at hrow
  have hb2 : Below W1.heap.size W1 w2 := ((Below.refl _ W1).alloc (Nat.le_refl _) _).trans (hb.mono (by simp))
  have h2 := H0.out.new Ho.out hb2
  have hw2 : own 0 S0 w2 ∧ ∀ j, S0 j → j < W1.heap.size := ⟨Ho.out.new _ _ _ _ Hown.out hb2, Ho.out.lt _ _ _ Hown.out⟩
  have Hw2 := Lib.hid hw2; clear hw2
  have hbk2 : Book w2 := HB.out _ _ ⟨hb2.size, fun k o hk ho => by rw [hb2.block k (row_lt hk)]; exact hk⟩ Hb1.out
  have Hbk2 := Lib.hid hbk2; clear hbk2
  have H2 := Lib.hid h2; clear h2
  have hg0 := hb.size
  have hs1 : (W1.alloc (.cells #[.map (some bm)] 74)).heap.size = W1.heap.size + 1 := by simp
  clear hp hl hb hnil Hk Hs H0 Hb1 hb2
  clear c1
  rw [hs1] at hrow
  obtain ⟨hrl, hrow⟩ := hrow
  rcases hrow with ⟨rfl, h0⟩ | ⟨g, cap, cur, rfl, hge, hg, hcap, hcm, hcs, hct⟩
  · have Hz := Lib.hid h0; clear h0
    gi_wp2
    gi_loopw [9] (fun c wr => c = .int .i64 0 ∧ wr = w2) (fun _ _ => 0)
    case atStart => exact ⟨rfl, rfl⟩
    case round =>
      obtain ⟨rfl, rfl⟩ := hrel
      gi_wp2
      go_end0
      exact ⟨⟨_, rfl⟩, Hbk2.out, by rw [Hz.out]; exact H2.out⟩
  · generalize hn : r.length = n at *
    have Hn := Lib.hid hn; clear hn
    have Hg := Lib.hid hg; clear hg
    have Hct := Lib.hid hct; clear hct
    clear hrl hcs hcm hcap
    gi_wp2
    gi_loopw [9] (fun c wr => ∃ i, i ≤ n ∧ c = .int .i64 (i : Int) ∧ Book wr ∧ Alw C Bx bm nn r own S0 W1 i wr ∧ wr.heap[g]? = some (.cells cur 9 (0, 0)) ∧ ∃ S, own i S wr ∧ (∀ j, S j → S0 j ∨ W1.heap.size ≤ j) ∧ ¬ S g) (fun c _ => n - (intOf c).toNat)
    case atStart => exact ⟨0, by omega, rfl, Hbk2.out, H2.out, Hg.out, S0, Hw2.out.1, fun j e => .inl e, fun e => by have := Hw2.out.2 g e; omega⟩
    case round =>
      obtain ⟨i, hi, rfl, hbk, hst, hgr, S, how, hS, hgS⟩ := hrel
      have b2 := cell_of_one hst.bx
      have Hbk := Lib.hid hbk; clear hbk
      clear Hbk2 H2 Hg
      by_cases hlt : i < n
      · obtain ⟨x, hx⟩ : ∃ x, r[i]? = some x := ⟨r[i]'(by rw [Hn.out]; exact hlt), List.getElem?_eq_getElem _⟩
        have hcell : wr.cell? ⟨g, i, none⟩ = some (.string (ba x.1)) := by
          rw [cell_of_row wr g i _ _ _ hgr]
          have h1 := congrArg (fun l : List Value => l[i]?) Hct.out
          rw [Nat.mul_one] at h1
          simp only [List.getElem?_take, List.getElem?_map, hx, Option.map_some] at h1
          rw [if_pos hlt] at h1
          rw [← Array.getElem?_toList, h1]; rfl
        have hfx := Hf.out x (List.mem_of_getElem? hx)
        have hlk := look_any hst.mp (ba x.1) (by rw [ba_size]; show x.1.length ≤ 9223372036854775807; omega)
        rw [ba_list, Fil.get_at Hr.out hx, Option.getD_some] at hlk
        have hfd : (Instr.field 81 (.agg #[.string (ba x.2)]) 0).run Tryz.prog wr = .ok (.string (ba x.2)) wr := by kernel_rfl
        have hgl := row_lt hgr
        obtain ⟨fn, tmps, assign, body, hy, hR⟩ := HY.out i x S wr hx Hbk.out hst how
        have HR := Lib.hid hR; clear hR
        have Hx := Lib.hid hx; clear hx
        have Hst := Lib.hid hst; clear hst
        have Hhow := Lib.hid how; clear how
        have HS := Lib.hid hS; clear hS
        have Hgr := Lib.hid hgr; clear hgr
        have hli : (i : Int) < (n : Int) := by omega
        clear hfx
        generalize ba x.1 = X1 at *
        generalize ba x.2 = X2 at *
        gi_wp2
        refine HR.out.mono ?_
        rintro e W7 ⟨rfl, hbk7, hkc, S', ho7, hS7⟩
        have hst7 := Hst.out.next Ho.out hC Hhow.out HS.out hkc ho7 hS7
        have hS7' : ∀ j, S' j → S0 j ∨ W1.heap.size ≤ j := fun j e => by
          rcases hS7 j e with e | e
          · exact HS.out j e
          · have := Hst.out.kp.size; exact .inr (by omega)
        have hgS7 : ¬ S' g := fun e => by
          rcases hS7 g e with e | e
          · exact hgS e
          · omega
        have Ho7 := Lib.hid (And.intro ho7 (And.intro hS7' hgS7)); clear hS7' hgS7
        have hgr7 := hkc.cells (.inl rfl) Hgr.out hgS
        have Hbk7 := Lib.hid hbk7; clear hbk7
        have Hst7 := Lib.hid hst7; clear hst7
        have Hgr7 := Lib.hid hgr7; clear hgr7
        clear hkc ho7 hS7 hgS hcell hlk hy hfd
        gi_wp2
        go_roundw
        case rel => exact ⟨i + 1, by omega, by go_num, Hbk7.out, Hst7.out, Hgr7.out, S', Ho7.out⟩
        case measure => simp [intOf]; omega
      · obtain rfl : i = n := by omega
        have Hst := Lib.hid hst; clear hst
        gi_wp2
        go_end0
        exact ⟨⟨_, rfl⟩, Hbk.out, by rw [Hn.out]; exact Hst.out⟩
end Go.Proofs.YtalklpnekbfehaaGreat

/-
  A range over the files in the order of their names whose body always goes on.
-/
set_option linter.unusedVariables false
set_option maxRecDepth 100000
namespace Go.Proofs.YtalklpnekbfehaaGreat
open Go.RowKit

theorem range_all {bm nn Bx : Nat} {r : Fil.Row} {own : Nat → (Nat → Prop) → World → Prop} {S0 : Nat → Prop} {g : Operand} {ps : Array Tmp} {assign body : Code} {Q : Exit → Act → World → Prop} {a : Act} {w : World}
    (hr : Fil.Sorted r) (hf : Fil.Fine r) (hlen : r.length ≤ 1099511627776) (o : OwnsB own Bx bm)
    (hbx : w.heap[Bx]? = some (.cells #[.map (some bm)] 74 (0, 0))) (hmp : ContAt bm nn r w) (hown : own 0 S0 w) (ownS : ∀ i S, Stays w.heap.size (own i S))
    (hg : a.eval g = .func (.func 62) #[] #[.pointer (some ⟨Bx, 0, none⟩)]) (hps : ps.size = 2) (mk : Fil.Txt × Fil.Txt → Act)
    (hassign : ∀ (l : Nat) (x : Fil.Txt × Fil.Txt) (W : World) (K : Act → World → Prop), K (mk x) W →
      assign.wpIn (Fence.wide.inRound l) 3 Tryz.prog (Exit.then K (fun _ _ _ => False)) { tmps := (ps.zip #[.string (ba x.1), .string (ba x.2)]).foldl (fun t (p, v) => t.setIfInBounds p v) a.tmps, defers := [] } W)
    (hbody : ∀ (l i : Nat) (x : Fil.Txt × Fil.Txt) (S : Nat → Prop) (W : World), r[i]? = some x → own i S W → w.heap.size ≤ W.heap.size →
      body.wpIn (Fence.wide.inRound l) 3 Tryz.prog (endsIn (fun W' => KeepC w.heap.size S W W' ∧ ∃ S', own (i + 1) S' W' ∧ ∀ j, S' j → S j ∨ W.heap.size ≤ j) W) (mk x) W)
    (hdone : ∀ (D : Nat) (W : World), w.heap.size ≤ D → (∃ S', own r.length S' W ∧ ∀ j, S' j → S0 j ∨ w.heap.size ≤ j) → Turns S0 w W → W.heap[D]? = some (.deferred (some [])) → Q .normal { a with defers := { target := .collected D, args := #[] } :: a.defers } W) :
    (Code.rangeFunc g ps assign body).wpIn Fence.wide 5 Tryz.prog Q a w := by
  have hC : bm < w.heap.size := hmp.lt
  have hst : ∀ (S : Nat → Prop) (W0 : World), Stays w.heap.size (fun W => KeepC w.heap.size S W0 W) := fun S W0 => KeepC.stays (Nat.le_refl _)
  refine rangeFunc_through rfl (by decide) (gf := 62) (lb := #[.pointer (some ⟨Bx, 0, none⟩)]) hg trivial (enters_of Tryz.func62 (by kernel_rfl) rfl)
    (α := Nat × (Fil.Txt × Fil.Txt) × World × (Nat → Prop)) (fun x => #[.string (ba x.2.1.1), .string (ba x.2.1.2)]) (fun _ => hps.symm)
    (fun W => KeepC w.heap.size S0 w W ∧ W.heap[Bx]? = some (.cells #[.map (some bm)] 74 (0, 0)) ∧ ContAt bm nn r W ∧ own 0 S0 W)
    (fun W => KeepC w.heap.size S0 w W ∧ ∃ S', own r.length S' W ∧ ∀ j, S' j → S0 j ∨ w.heap.size ≤ j)
    (fun x W => W = x.2.2.1 ∧ r[x.1]? = some x.2.1 ∧ own x.1 x.2.2.2 W ∧ w.heap.size ≤ W.heap.size)
    (fun x W => KeepC w.heap.size x.2.2.2 x.2.2.1 W ∧ ∃ S', own (x.1 + 1) S' W ∧ ∀ j, S' j → x.2.2.2 j ∨ x.2.2.1.heap.size ≤ j)
    (fun x a₁ W => KeepC w.heap.size x.2.2.2 x.2.2.1 W ∧ r[x.1]? = some x.2.1 ∧ own x.1 x.2.2.2 W ∧ w.heap.size ≤ W.heap.size ∧ a₁ = mk x.2.1)
    ?sEnd ?sOut ?sMid ?h0 ?hiter ?hassign ?hbody ?hdone
  case sEnd => exact fun W l o o' hl ho hc hj => ⟨hst _ _ W l o o' hl ho hc hj.1, by obtain ⟨S', h1, h2⟩ := hj.2; exact ⟨S', ownS _ _ W l o o' hl ho hc h1, h2⟩⟩
  case sOut => exact fun x W l o o' hl ho hc hj => ⟨hst _ _ W l o o' hl ho hc hj.1, by obtain ⟨S', h1, h2⟩ := hj.2; exact ⟨S', ownS _ _ W l o o' hl ho hc h1, h2⟩⟩
  case sMid => exact fun x a₁ W l o o' hl ho hc hj => ⟨hst _ _ W l o o' hl ho hc hj.1, hj.2.1, ownS _ _ W l o o' hl ho hc hj.2.2.1, by rw [World.putObj_size]; exact hj.2.2.2.1, hj.2.2.2.2⟩
  case h0 =>
    intro o1 o2
    have hb : Below w.heap.size w ((w.alloc o1).alloc o2) := ((Below.refl _ w).alloc (Nat.le_refl _) _).alloc (by simp) _
    exact ⟨KeepC.of_new hb _ _, by rw [hb.block _ (row_lt hbx)]; exact hbx, hmp.new hb, o.new _ _ _ _ hown hb⟩
  case hiter =>
    intro ly Book W1 hBk hly hb1 hj0 hY
    obtain ⟨k1, bx1, mp1, ow1⟩ := hj0
    refine (all1_any hr hf hlen o hC bx1 mp1 ow1 ly Book hBk hb1 ?_).mono ?_
    · intro i x S W hx hbk hal how
      exact hY (i, x, W, S) W hbk ⟨rfl, hx, how, Nat.le_trans k1.size hal.kp.size⟩
    · rintro e W' ⟨hv, hbk, hal⟩
      obtain ⟨S', h1, h2⟩ := hal.ow
      refine ⟨hv, hbk, k1.trans hal.kp (fun j e => .inl e), S', h1, fun j e => ?_⟩
      rcases h2 j e with e | e
      · exact .inl e
      · have := k1.size; exact .inr (by omega)
  case hassign =>
    intro ly x W K hly hin hK
    obtain ⟨rfl, h1, h2, h3⟩ := hin
    exact hassign ly x.2.1 _ K (hK _ _ (KeepsOthers.refl _) ⟨KeepC.refl _ _ _, h1, h2, h3, rfl⟩)
  case hbody =>
    rintro ly x a₁ W hly ⟨hk, h1, h2, h3, rfl⟩
    refine wpIn_mono (hbody ly x.1 x.2.1 x.2.2.2 W h1 h2 h3) ?_
    rintro e a3 W3 hp
    cases e with
    | normal =>
      obtain ⟨k1, k2, S', k3, k4⟩ := hp
      refine ⟨k1, hk.trans k2 (fun j e => .inl e), S', k3, fun j e => ?_⟩
      rcases k4 j e with e | e
      · exact .inl e
      · have := hk.size; exact .inr (by omega)
    | ret => exact hp.elim
    | exit id => exact hp.elim
    | goto t => exact hp.elim
    | panic ch => exact hp.elim
    | outgrown => exact hp.elim
  case hdone =>
    intro D W hD hj hd
    exact hdone D W hD hj.2 (hj.1.turns rfl) hd
end Go.Proofs.YtalklpnekbfehaaGreat

/-
  contents.encoded: the files' encoding.
-/
set_option linter.unusedVariables false
set_option maxRecDepth 100000
namespace Go.Proofs.YtalklpnekbfehaaGreat
open Go.RowKit
attribute [local go_sem] Oper.semAt_some

/-- the builder in block B holds these bytes, read or not -/
def HoldsF (B : Nat) (bs : List UInt8) (w : World) : Prop := Lib.IsBuilderF 155 5 B B (Lib.byteCells bs) w
theorem HoldsF.row {B : Nat} {bs : List UInt8} {w : World} (h : HoldsF B bs w) : ∃ p v, w.heap[B]? = some (.cells #[p, v] 155 (0, 0)) := by
  rcases h with h | h
  · obtain ⟨_, v, hb, _⟩ := h; exact ⟨_, v, hb⟩
  · obtain ⟨_, v, hb, _⟩ := h; exact ⟨_, v, hb⟩
theorem builderF_same {T e : TypeId} {B b : Nat} {p : Value} {bs : List Value} {w w' : World} (h : Lib.BuilderAtF T e B b p bs w) (hk : ∀ (k : Nat) (cs : Array Value) (T : TypeId) (fr : Nat × Nat), w.heap[k]? = some (.cells cs T fr) → w'.heap[k]? = some (.cells cs T fr)) : Lib.BuilderAtF T e B b p bs w' := by
  obtain ⟨h1, v, h2, h3, h4⟩ := h
  refine ⟨h1, v, hk _ _ _ _ h2, ?_, h4⟩
  obtain ⟨a, c⟩ := h3
  refine ⟨a, ?_⟩
  rcases c with c | ⟨g, cap, cur, fz, rfl, hb, hg, hr⟩
  · exact .inl c
  · exact .inr ⟨g, cap, cur, fz, rfl, hb, hk _ _ _ _ hg, hr⟩
theorem HoldsF.same {B : Nat} {bs : List UInt8} {w w' : World} (h : HoldsF B bs w) (hk : ∀ (k : Nat) (cs : Array Value) (T : TypeId) (fr : Nat × Nat), w.heap[k]? = some (.cells cs T fr) → w'.heap[k]? = some (.cells cs T fr)) : HoldsF B bs w' := by
  rcases h with h | h
  · exact .inl (builderF_same h hk)
  · exact .inr (builderF_same h hk)
theorem HoldsF.keep {B : Nat} {bs : List UInt8} {w w' : World} (h : HoldsF B bs w) (hb : Below w.heap.size w w') : HoldsF B bs w' :=
  h.same fun k cs T fr hk => by rw [hb.block k (row_lt hk)]; exact hk
theorem HoldsF.stays (C B : Nat) (bs : List UInt8) : Stays C (fun W => HoldsF B bs W) := fun W l o o' hl ho hc hj =>
  hj.same fun k cs T fr hk => by
    rw [World.putObj_heap_other (fun e => by subst e; rw [hk] at ho; cases ho; simp [Obj.isCells] at hc)]
    exact hk
theorem writeF (B : Nat) (bs : List UInt8) (s : ByteArray) (w : World) (h : HoldsF B bs w) (hlen : bs.length + s.size ≤ 140737488355328) (hB : B ≤ w.heap.size) :
    Calls Tryz.prog 129 #[.pointer (some ⟨B, 0, none⟩), .string s] w fun e w' => e = .returned (.tuple #[.int .i64 s.size, .nilIface]) ∧ HoldsF B (bs ++ s.data.toList) w' ∧ Below B w w' ∧ Lib.OthersKept 5 (some B) w w' := by
  refine (Any.Builder_WriteString_k Tryz.laysW Tryz.extraW B B (Lib.byteCells bs) s w h (by rw [Lib.byteCells_length]; exact hlen) hB).mono ?_
  rintro e w' ⟨he, h1, h2, h3⟩
  refine ⟨he, .inr ?_, h2, h3⟩
  rw [Lib.byteCells_append, ← Lib.strCells_eq]
  exact h1
theorem stringF (B : Nat) (bs : List UInt8) (w : World) (h : HoldsF B bs w) (hB : B ≤ w.heap.size) :
    Calls Tryz.prog 113 #[.pointer (some ⟨B, 0, none⟩)] w fun e w' => e = .returned (.string (ba bs)) ∧ Below B w w' ∧ Lib.OthersKept 5 (some B) w w' :=
  (Tryz.Builder_String_any_k B B bs w h hB).mono fun _ _ h => ⟨h.1, h.2.2⟩
theorem kept_new {e : TypeId} {b : Option Nat} {w w' : World} (h : Below w.heap.size w w') : Lib.OthersKept e b w w' := fun k o hk _ _ => by rw [h.block k (row_lt hk)]; exact hk

/-- the blocks that the builder may turn -/
def EncS (B C Bx : Nat) (k : Nat) : Prop := B ≤ k ∧ k < C ∧ k ≠ Bx
theorem keepC_of_kept {B C Bx bm : Nat} {W W' : World} (hb : Below B W W') (hk : Lib.OthersKept 5 (some B) W W') (hbx : W.heap[Bx]? = some (.cells #[.map (some bm)] 74 (0, 0))) (hne : Bx ≠ B) (hBC : B < C) : KeepC C (EncS B C Bx) W W' := by
  refine ⟨hb.os, hb.tape, hb.output, hb.size, fun k hkl hn => ?_⟩
  by_cases h1 : k < B
  · exact hb.block k h1
  by_cases h2 : k = Bx
  · subst h2
    rw [hbx]
    exact hk _ _ hbx (by simpa using hne) (fun c fz e => by cases e)
  · by_cases h3 : k < C
    · exact absurd (.inl ⟨by omega, h3, h2⟩) hn
    · by_cases h4 : ∃ (cs : Array Value) (T : TypeId) (fr : Nat × Nat), Ki T ∧ W.heap[k]? = some (.cells cs T fr)
      · obtain ⟨cs, T, fr, hT, hcs⟩ := h4
        rw [hcs]
        refine hk _ _ hcs (by simp; omega) (fun c fz e => ?_)
        cases e
        rcases hT with hT | hT <;> cases hT
      · refine absurd (.inr ⟨by omega, fun cs T fr hT hcs => h4 ⟨cs, T, fr, hT, hcs⟩⟩) hn

def encOwn (B C Bx bm : Nat) (r : Fil.Row) (i : Nat) (S : Nat → Prop) (W : World) : Prop :=
  S = EncS B C Bx ∧ HoldsF B (Oct.le 4 r.length ++ (r.take i).flatMap Fil.enc1) W ∧ C ≤ W.heap.size ∧ W.heap[Bx]? = some (.cells #[.map (some bm)] 74 (0, 0))
theorem encOwn.owns {B C Bx bm : Nat} {r : Fil.Row} (hm : bm < B) : OwnsB (encOwn B C Bx bm r) Bx bm where
  lt := fun i S W h k hk => by
    obtain ⟨rfl, _, h2, _⟩ := h
    exact Nat.lt_of_lt_of_le hk.2.1 h2
  new := fun i S W W' h hb => ⟨h.1, h.2.1.keep hb, Nat.le_trans h.2.2.1 hb.size, by rw [hb.block _ (row_lt h.2.2.2)]; exact h.2.2.2⟩
  off := fun i S W h => by
    obtain ⟨rfl, _⟩ := h
    exact ⟨fun e => e.2.2 rfl, fun e => by have := e.1; omega⟩

theorem enc_take (r : Fil.Row) {i : Nat} {x : Fil.Txt × Fil.Txt} (hx : r[i]? = some x) : (r.take (i + 1)).flatMap Fil.enc1 = (r.take i).flatMap Fil.enc1 ++ Fil.enc1 x := by
  rw [List.take_add_one, hx]; simp
theorem sum_take_le (r : Fil.Row) (i : Nat) : Fil.sum (r.take i) ≤ Fil.sum r := by
  have := congrArg Fil.sum (List.take_append_drop i r)
  simp only [Fil.sum, List.map_append, List.sum_append] at this ⊢
  omega

set_option maxHeartbeats 1000000 in
theorem encoded_any {b n : Nat} {r : Fil.Row} {w : World} (hm : ContAt b n r w) (hs : Fil.Sorted r) (hf : Fil.Fine r) (hsum : Fil.sum r ≤ 1099511627) :
    Calls Tryz.prog 134 #[.map (some b)] w fun e w' => e = .returned (.string (ba (Fil.enc r))) ∧ Below w.heap.size w w' := by
  have hlen : r.length ≤ 1099511627 := by have := Fil.len_used r; omega
  have hbl := hm.lt
  refine (callsIn_wide (n := 5)).1 ?_
  refine callsIn_of_wp_marks Tryz.func134 rfl trivial ?_ rfl
  simp only [Tryz.ntmps134, List.size_toArray, List.length_cons, List.length_nil, Nat.reduceAdd, Nat.reduceSub, Array.replicate_succ, Array.replicate_zero, List.push_toArray, List.append_toArray, List.nil_append, List.cons_append]
  have hm0 := hm.new ((Below.refl w.heap.size w).alloc (Nat.le_refl _) (.cells #[.pointer none, .slice none 0 0] 155))
  have hsz := fun u (hu : ContAt b n r u) => callsIn_wide (n := 4).2 (size_any b n r u hu hs (by omega))
  have Hm := Lib.hid hm; clear hm
  have Hsz := Lib.hid hsz; clear hsz
  have Hm0 := Lib.hid hm0; clear hm0
  have Hs := Lib.hid hs; clear hs
  have Hf := Lib.hid hf; clear hf
  gi_wp2_with fail
  refine ⟨trivial, (Hsz.out _ Hm0.out).mono ?_⟩; rintro e w1 ⟨rfl, h1⟩
  have hw1s := h1.size
  have hs0 : (w.alloc (.cells #[.pointer none, .slice none 0 0] 155)).heap.size = w.heap.size + 1 := by simp
  have hm1 := Hm0.out.new h1
  have hrow1 : w1.heap[w.heap.size]? = some (.cells #[.pointer none, .slice none 0 0] 155 (0, 0)) := by rw [h1.block _ (by omega)]; exact heap_alloc_new _ _
  have hu : Fil.used r ≤ 281474976710656 := by unfold Fil.used; omega
  have hg := callsIn_wide (n := 4).2 (grow_any w.heap.size (Fil.used r) w1 hrow1 (by omega) hu)
  have k1 : Below w.heap.size w w1 := ((Below.refl w.heap.size w).alloc (Nat.le_refl _) _).trans (h1.mono (by omega))
  have Hg := Lib.hid hg; clear hg
  clear hrow1 h1 hu
  gi_wp2_with fail
  refine ⟨trivial, Hg.out.mono ?_⟩; rintro e w2 ⟨rfl, hh2, hb2⟩
  have hm2 : ContAt b n r w2 := ownsMap_same Hm.out ((hb2.block b hbl).trans (k1.block b hbl))
  have k2 := k1.trans hb2
  have hlenD := World.ownsMap.len hm2 Tryz.underlying74 3
  rw [Fil.D_size] at hlenD
  have hc := fun u => callsIn_wide (n := 4).2 (count_any r.length (by omega) u)
  have Hc := Lib.hid hc; clear hc
  have Hh2 := Lib.hid hh2; clear hh2
  have Hm2 := Lib.hid hm2; clear hm2
  clear hm1 hb2
  gi_wp2_with fail
  refine ⟨trivial, (Hc.out _).mono ?_⟩; rintro e w3 ⟨rfl, h3⟩
  have hl4 : (Oct.le 4 r.length).length = 4 := Oct.le_length _ _
  have hF : HoldsF w.heap.size [] w3 := HoldsF.keep (Lib.IsBuilderF.of Hh2.out) h3
  have k3 := k2.trans (h3.mono k2.size)
  have hw := callsIn_wide (n := 4).2 (writeF w.heap.size [] (ba (Oct.le 4 r.length)) w3 hF (by rw [ba_size, hl4]; decide) k3.size)
  rw [ba_list, List.nil_append] at hw
  have hm3 := Hm2.out.new h3
  have Hw := Lib.hid hw; clear hw
  clear hlenD
  gi_wp2_with fail
  refine ⟨trivial, Hw.out.mono ?_⟩; rintro e w4 ⟨rfl, hF4, hb4, -⟩
  have hm4 : ContAt b n r w4 := ownsMap_same hm3 (hb4.block b hbl)
  have k4 := k3.trans hb4
  have hal := callsIn_wide (n := 4).2 (all_any (some b) w4)
  have Hal := Lib.hid hal; clear hal
  have hsz4 : w.heap.size + 1 ≤ w4.heap.size := by
    obtain ⟨p, v, hp⟩ := hF4.row
    exact row_lt hp
  have Hm4 := Lib.hid hm4; clear hm4
  have HF4 := Lib.hid hF4; clear hF4
  clear hm3 hF h3 Hw Hg Hc Hh2 Hm2 hb4 k3 k2 k1 hw1s Hm0 Hsz
  gi_wp2_with fail
  refine ⟨trivial, Hal.out.mono ?_⟩; rintro e w5 ⟨rfl, rfl⟩
  gi_wp2_with fail
  obtain ⟨w5, hw5⟩ : ∃ w5, w5 = w4.alloc (.cells #[.map (some b)] 74) := ⟨_, rfl⟩
  have hs5 : w5.heap.size = w4.heap.size + 1 := by rw [hw5]; simp
  have hb5 : Below w4.heap.size w4 w5 := by rw [hw5]; exact (Below.refl _ w4).alloc (Nat.le_refl _) _
  have hbx5 : w5.heap[w4.heap.size]? = some (.cells #[.map (some b)] 74 (0, 0)) := by rw [hw5]; exact heap_alloc_new _ _
  have hm5 : ContAt b n r w5 := Hm4.out.new hb5
  have hF5 := HF4.out.keep hb5
  have k5 := k4.trans (hb5.mono k4.size)
  rw [← hw5]
  have hown : encOwn w.heap.size w5.heap.size w4.heap.size b r 0 (EncS w.heap.size w5.heap.size w4.heap.size) w5 := ⟨rfl, by simpa using hF5, Nat.le_refl _, hbx5⟩
  have hne : w4.heap.size ≠ w.heap.size := by omega
  have hBC : w.heap.size < w5.heap.size := by omega
  have hcnt := fun (x : Fil.Txt) (hx : x.length < 4294967296) u => callsIn_wide (n := 2).2 (counted_any (ba x) (by rw [ba_size]; exact hx) u)
  simp only [ba_size, ba_list] at hcnt
  have Hcnt := Lib.hid hcnt; clear hcnt
  clear Hal hw5 Hm4 HF4 hb5 k4
  refine range_all (r := r) Hs.out Hf.out (by omega) (encOwn.owns hbl) hbx5 hm5 hown ?ownS rfl rfl (fun x => { tmps := #[Value.map (some b), undef, Value.string { data := #[] }, Value.pointer (some { block := w.heap.size, off := 0 }), Value.string (ba x.1), Value.string (ba x.2), Value.map (some b), Value.int IntKind.i64 (Fil.used r : Int), Value.tuple #[], Value.map (some b), Value.int IntKind.i64 (r.length : Int), Value.string (ba (Oct.le 4 r.length)), Value.tuple #[Value.int IntKind.i64 ((ba (Oct.le 4 r.length)).size : Int), Value.nilIface], Value.map (some b), Value.func (Fn.func 62) #[] #[Value.pointer (some { block := w4.heap.size, off := 0 })], Value.string (ba x.1), Value.string (ba x.2), undef, undef, undef, undef, undef, undef, undef], defers := [] }) ?hassign ?hbody ?hdone
  case ownS => exact fun i S W l o o' hl ho hc hj => ⟨hj.1, HoldsF.stays w5.heap.size _ _ W l o o' hl ho hc hj.2.1, by rw [World.putObj_size]; exact hj.2.2.1, Stays.row W l o o' hl ho hc hj.2.2.2⟩
  case hassign =>
    intro l x W K hK
    have HK := Lib.hid hK; clear hK
    gi_wp2
    exact HK.out
  case hbody =>
    rintro l i x S W hx ⟨rfl, hF, hCW, hbx⟩ hsW
    have hfx := Hf.out x (List.mem_of_getElem? hx)
    have hlb : (Oct.le 4 r.length ++ (r.take i).flatMap Fil.enc1).length ≤ 1099511700 := by
      rw [List.length_append, hl4, Fil.flat_length]
      have := sum_take_le r i
      omega
    have hl1 : ∀ t : Fil.Txt, (Oct.le 4 t.length ++ t).length = 4 + t.length := fun t => by rw [List.length_append, Oct.le_length]
    have hbytes : Oct.le 4 r.length ++ (r.take (i + 1)).flatMap Fil.enc1 = Oct.le 4 r.length ++ (r.take i).flatMap Fil.enc1 ++ (Oct.le 4 x.1.length ++ x.1) ++ (Oct.le 4 x.2.length ++ x.2) := by
      rw [enc_take r hx]; simp only [Fil.enc1, List.append_assoc]
    have HF := Lib.hid hF; clear hF
    have Hbx := Lib.hid hbx; clear hbx
    have Hby := Lib.hid hbytes; clear hbytes
    generalize Oct.le 4 r.length ++ (r.take i).flatMap Fil.enc1 = B0 at *
    have hlx1 := hl1 x.1
    have hlx2 := hl1 x.2
    have g1 := Hcnt.out x.1 (by omega)
    have g2 := Hcnt.out x.2 (by omega)
    generalize Oct.le 4 x.1.length ++ x.1 = Y1 at *
    generalize Oct.le 4 x.2.length ++ x.2 = Y2 at *
    have G1 := Lib.hid g1; clear g1
    have G2 := Lib.hid g2; clear g2
    clear hm5 hF5 k5 hown hbx5
    gi_wp2_with fail
    refine ⟨trivial, (CallsIn.inRound l (G1.out _)).mono ?_⟩; rintro e V1 ⟨rfl, q1⟩
    have hwr := callsIn_wide (n := 2).2 (writeF w.heap.size B0 (ba Y1) V1 (HF.out.keep q1) (by rw [ba_size]; omega) (by have := q1.size; omega))
    rw [ba_list] at hwr
    have Hwr := Lib.hid hwr; clear hwr
    gi_wp2_with fail
    refine ⟨trivial, (CallsIn.inRound l Hwr.out).mono ?_⟩; rintro e V2 ⟨rfl, hV2, q2, o2⟩
    have HV2 := Lib.hid hV2; clear hV2
    have qs2 := q2.size
    have qs1 := q1.size
    gi_wp2_with fail
    refine ⟨trivial, (CallsIn.inRound l (G2.out _)).mono ?_⟩; rintro e V3 ⟨rfl, q3⟩
    have qs3 := q3.size
    have hwr2 := callsIn_wide (n := 2).2 (writeF w.heap.size (B0 ++ Y1) (ba Y2) V3 (HV2.out.keep q3) (by rw [ba_size, List.length_append]; omega) (by omega))
    rw [ba_list] at hwr2
    have Hwr2 := Lib.hid hwr2; clear hwr2
    gi_wp2_with fail
    refine ⟨trivial, (CallsIn.inRound l Hwr2.out).mono ?_⟩; rintro e V4 ⟨rfl, hV4, q4, o4⟩
    have HV4 := Lib.hid hV4; clear hV4
    have qb : Below w.heap.size W V4 := ((q1.mono (by omega)).trans q2).trans ((q3.mono (by omega)).trans q4)
    have qk : Lib.OthersKept 5 (some w.heap.size) W V4 := ((kept_new q1).trans o2).trans ((kept_new q3).trans o4)
    have qc := keepC_of_kept qb qk Hbx.out hne hBC
    have Qb := Lib.hid qb; clear qb
    have Qk := Lib.hid qk; clear qk
    have Qc := Lib.hid qc; clear qc
    clear q1 q2 q3 q4 o2 o4 Hwr Hwr2 HV2
    gi_wp2_with fail
    refine ⟨⟨Qb.out.size, fun k o hk ho => ?_⟩, Qc.out, _, ⟨rfl, ?_, ?_, ?_⟩, fun j e => .inl e⟩
    · refine Qk.out k o hk (fun e => ?_) (fun c fz e => by subst e; simp [Obj.isCells] at ho)
      cases e
      obtain ⟨p, v, hp⟩ := HF.out.row
      rw [hp] at hk; cases hk
      simp [Obj.isCells] at ho
    · rw [Hby.out]; exact HV4.out
    · have := Qb.out.size; omega
    · exact Qc.out.cells (.inr rfl) Hbx.out (fun e => e.2.2 rfl)
  case hdone =>
    rintro D W hD ⟨S', ⟨rfl, hF, hCW, hbx⟩, hS⟩ ht hK2
    rw [List.take_length] at hF
    obtain ⟨pw, vw, hrw⟩ := hF.row
    have hst := callsIn_wide (n := 4).2 (stringF w.heap.size _ W hF (by omega))
    have htb : Below w.heap.size w W := k5.trans (ht.below (by omega) (fun k hk e => e.1))
    have Hst := Lib.hid hst; clear hst
    have Htb := Lib.hid htb; clear htb
    have HK2 := Lib.hid hK2; clear hK2
    clear hF ht hS hbx hm5 hF5 k5 hown hbx5
    gi_wp2_with fail
    refine ⟨trivial, Hst.out.mono ?_⟩; rintro e W6 ⟨rfl, h6, o6⟩
    have hK6 : W6.heap[D]? = some (.deferred (some [])) := by
      refine o6 D _ HK2.out (fun e => ?_) (fun c fz e => by cases e)
      cases e
      rw [HK2.out] at hrw; cases hrw
    have HK6 := Lib.hid hK6; clear hK6
    have H6 := Lib.hid h6; clear h6
    gi_wp2_with fail
    refine ⟨by simp, .inl ⟨_, _, rfl, run_takeDeferred HK6.out, ?_⟩⟩
    have h7 := Htb.out.trans H6.out
    have hD6 := H6.out.size
    exact ⟨_, results_tmp rfl _ _ _, rfl, h7.os, h7.tape, h7.output, by rw [World.putObj_size]; exact h7.size, fun k hk => (World.putObj_heap_other (by omega)).trans (h7.block k hk)⟩
end Go.Proofs.YtalklpnekbfehaaGreat
