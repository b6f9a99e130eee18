/-
  The line of an instruction: code.Line.
-/
import Derived.Test.YtnnfpaheglkmoaaDoorCodLaid
import Derived.Test.YtnnfpaheglkmoaaDoorCodSmall
import Derived.Test.YtnnfpaheglkmoaaDoorShelf
import Derived.Lib.AppendIntMem
set_option linter.unusedVariables false
set_option maxRecDepth 100000
namespace Go.Proofs.YtnnfpaheglkmoaaDoor
open Go.RowKit

theorem itoa_dec : ∀ n : Nat, n < 256 → Lib.itoa (n : Int) = Cod.dec n := by decide +kernel
def decS (n : Nat) : ByteArray := ⟨(Cod.dec n).toArray⟩
theorem itoa_any (n : Nat) (hn : n < 256) (w : World) (h : Kn w) : Calls Tryd.prog 29 #[.int .i64 (n : Int)] w fun e w' => e = .returned (.string (decS n)) ∧ Below w.heap.size w w' := by
  refine (Tryd.strconv_Itoa (n : Int) (by omega) (by omega) w h.pow).mono ?_
  rintro e w' ⟨rfl, k, os, rfl⟩
  exact ⟨by rw [itoa_dec n hn]; rfl, Lib.below_grow _ w (Nat.le_refl _) k os⟩
theorem dec_len : ∀ n, n < 256 → 1 ≤ (Cod.dec n).length ∧ (Cod.dec n).length ≤ 3 := by decide +kernel
theorem nm_len : ∀ k, k < 24 → (Cod.names.getD k []).length ≤ 5 := by decide +kernel
/-- what Line answers -/
def lineS (x : Cod.In) : ByteArray := if Cod.ins x = true then ⟨(Cod.line x).toArray⟩ else ⟨#[]⟩
def lineE (x : Cod.In) : Int := if Cod.ins x = true then 0 else 2
theorem nmS_size {j : Nat} (h : j < 24) : (nmS j).size ≤ 5 := by
  unfold nmS
  have := nm_len j h
  simpa [ByteArray.size] using this
theorem decS_size {n : Nat} (h : n < 256) : (decS n).size ≤ 3 := by
  unfold decS
  have := (dec_len n h).2
  simpa [ByteArray.size] using this
theorem ins_lt {x : Cod.In} (h : Cod.ins x = true) : x.1.toNat < 24 := (Cod.ins_op h).2

set_option maxHeartbeats 2000000 in
theorem line_any (x : Cod.In) (w : World) (h : Kn w) : Calls Tryd.prog 17 #[insV x] w fun e w' => e = .returned (.tuple #[.string (lineS x), .int .i64 (lineE x)]) ∧ Below w.heap.size w w' := by
  have hv := fun u => valid_any x u
  have hb := obj_below w (.cells #[.int .u8 (x.1.toNat : Int), .int .u8 (x.2.toNat : Int)] 39)
  have hr := heap_alloc_new w (.cells #[.int .u8 (x.1.toNat : Int), .int .u8 (x.2.toNat : Int)] 39)
  have hsz : w.heap.size < (w.alloc (.cells #[.int .u8 (x.1.toNat : Int), .int .u8 (x.2.toNat : Int)] 39)).heap.size := by simp
  unfold insV at hv ⊢
  cases hi : Cod.ins x with
  | false =>
    rw [hi] at hv
    have HV := Lib.hid hv; clear hv
    have Hb := Lib.hid hb; clear hb hr hsz
    unfold lineS lineE
    rw [hi]
    simp only [Bool.false_eq_true, if_false]
    go_enter Tryd.func17, Tryd.ntmps17
    go_wp2_with fail
    refine (HV.out _).mono ?_; rintro e w1 ⟨rfl, h1⟩
    have Hb1 := Lib.hid (Hb.out.trans (h1.mono Hb.out.size)); clear h1
    go_wp2_with fail
    go_ret2
    exact ⟨rfl, Hb1.out⟩
  | true =>
    rw [hi] at hv
    have hop := ins_lt hi
    have ha := fun u => hasArg_any x.1.toNat u
    have hx2 := x.2.toNat_lt
    have hnn := fun u (k : Kn u) => k.nm x.1.toNat hop
    have hni := nmS_size hop
    have hit := fun u (k : Kn u) => itoa_any x.2.toNat hx2 u k
    have hdi := decS_size hx2
    have hls : lineS x = if Cod.hasN x.1.toNat = true then nmS x.1.toNat ++ ⟨#[32]⟩ ++ decS x.2.toNat else nmS x.1.toNat := by
      unfold lineS
      rw [if_pos hi]
      unfold Cod.line
      rw [Cod.has_is]
      split
      · unfold nmS decS Cod.name
        rw [show (⟨#[32]⟩ : ByteArray) = ⟨([32] : List UInt8).toArray⟩ from rfl, cat_list, cat_list, List.append_assoc]
        rfl
      · rfl
    have hle : lineE x = 0 := if_pos hi
    rw [hls, hle]
    generalize x.1.toNat = A at *
    generalize x.2.toNat = B at *
    generalize decS B = D at *
    generalize hN : nmS A = N at *
    have hwb : IntKind.i64.wrap (B : Int) = (B : Int) := by simp only [IntKind.wrap_i64]; omega
    have HV := Lib.hid hv; clear hv
    have Hb := Lib.hid hb; clear hb
    have Hr := Lib.hid hr; clear hr
    have Hsz := Lib.hid hsz; clear hsz
    have Hk := Lib.hid h; clear h
    have Hnn := Lib.hid hnn; clear hnn
    have Hit := Lib.hid hit; clear hit
    clear hls hle hi hN
    have hopi : (A : Int) < 24 := by omega
    cases hh : Cod.hasN A with
    | false =>
      rw [hh] at ha
      have Ha := Lib.hid ha; clear ha
      simp only [Bool.false_eq_true, if_false]
      go_enter Tryd.func17, Tryd.ntmps17
      go_wp2_with fail
      refine (HV.out _).mono ?_; rintro e w1 ⟨rfl, h1⟩
      have hr1 := row_below Hr.out h1 Hsz.out
      have hk1 := (Hk.out.keep Hb.out).keep h1
      have cn := Hnn.out _ hk1
      have c0 : w1.cell? ⟨w.heap.size, 0, none⟩ = some (.int .u8 (A : Int)) := by rw [cell_of_row _ _ 0 _ _ _ hr1]; rfl
      have Hb1 := Lib.hid (Hb.out.trans (h1.mono Hb.out.size)); clear h1
      have Hk1 := Lib.hid hk1; clear hk1
      have Hr1 := Lib.hid hr1; clear hr1
      go_wp2_with fail
      refine (Ha.out _).mono ?_; rintro e w2 ⟨rfl, rfl⟩
      go_wp2_with fail
      go_ret2
      exact ⟨rfl, Hb1.out⟩
    | true =>
      rw [hh] at ha
      have Ha := Lib.hid ha; clear ha
      simp only [if_true]
      go_enter Tryd.func17, Tryd.ntmps17
      go_wp2_with fail
      refine (HV.out _).mono ?_; rintro e w1 ⟨rfl, h1⟩
      have hr1 := row_below Hr.out h1 Hsz.out
      have hk1 := (Hk.out.keep Hb.out).keep h1
      have cn := Hnn.out _ hk1
      have c0 : w1.cell? ⟨w.heap.size, 0, none⟩ = some (.int .u8 (A : Int)) := by rw [cell_of_row _ _ 0 _ _ _ hr1]; rfl
      have c1 : w1.cell? ⟨w.heap.size, 1, none⟩ = some (.int .u8 (B : Int)) := by rw [cell_of_row _ _ 1 _ _ _ hr1]; rfl
      have Hb1 := Lib.hid (Hb.out.trans (h1.mono Hb.out.size)); clear h1
      have Hk1 := Lib.hid hk1; clear hk1
      have Hr1 := Lib.hid hr1; clear hr1
      go_wp2_with fail
      refine (Ha.out _).mono ?_; rintro e w2 ⟨rfl, rfl⟩
      go_wp2_with fail
      refine (Hit.out _ Hk1.out).mono ?_; rintro e w3 ⟨rfl, h3⟩
      have Hb3 := Lib.hid (Hb1.out.trans (h3.mono Hb1.out.size)); clear h3
      go_wp2_with fail
      go_ret2
      exact ⟨rfl, Hb3.out⟩
end Go.Proofs.YtnnfpaheglkmoaaDoor
