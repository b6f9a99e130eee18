/-
  What New, the words' text and the padding return.
-/
import Derived.Test.YtdlcdbpigcmnbaaDoorShaAdd
import Derived.Test.YtdlcdbpigcmnbaaDoorShaPure2
set_option linter.unusedVariables false
namespace Go.Proofs.YtdlcdbpigcmnbaaDoor
open Go.RowKit

/-- the cells of a hash: words, what is left, how many bytes -/
def hcells (s : Sha.St) (rest : List UInt8) (n : Nat) : Array Value := u32s s.list ++ (u8s rest ++ #[.int .u64 (n : Int)])
theorem hcells_size (s : Sha.St) (rest : List UInt8) (n : Nat) (h : rest.length = 64) : (hcells s rest n).size = 73 := by
  simp [hcells, h, Sha.St.list]
def initCells : Array Value := hcells Sha.H0 (Sha.zer 64) 0

theorem init_lit : initCells = #[Value.int .u32 1779033703, Value.int .u32 3144134277, Value.int .u32 1013904242, Value.int .u32 2773480762, Value.int .u32 1359893119, Value.int .u32 2600822924, Value.int .u32 528734635, Value.int .u32 1541459225, Value.int .u8 0, Value.int .u8 0, Value.int .u8 0, Value.int .u8 0, Value.int .u8 0, Value.int .u8 0, Value.int .u8 0, Value.int .u8 0, Value.int .u8 0, Value.int .u8 0, Value.int .u8 0, Value.int .u8 0, Value.int .u8 0, Value.int .u8 0, Value.int .u8 0, Value.int .u8 0, Value.int .u8 0, Value.int .u8 0, Value.int .u8 0, Value.int .u8 0, Value.int .u8 0, Value.int .u8 0, Value.int .u8 0, Value.int .u8 0, Value.int .u8 0, Value.int .u8 0, Value.int .u8 0, Value.int .u8 0, Value.int .u8 0, Value.int .u8 0, Value.int .u8 0, Value.int .u8 0, Value.int .u8 0, Value.int .u8 0, Value.int .u8 0, Value.int .u8 0, Value.int .u8 0, Value.int .u8 0, Value.int .u8 0, Value.int .u8 0, Value.int .u8 0, Value.int .u8 0, Value.int .u8 0, Value.int .u8 0, Value.int .u8 0, Value.int .u8 0, Value.int .u8 0, Value.int .u8 0, Value.int .u8 0, Value.int .u8 0, Value.int .u8 0, Value.int .u8 0, Value.int .u8 0, Value.int .u8 0, Value.int .u8 0, Value.int .u8 0, Value.int .u8 0, Value.int .u8 0, Value.int .u8 0, Value.int .u8 0, Value.int .u8 0, Value.int .u8 0, Value.int .u8 0, Value.int .u8 0, Value.int .u64 0] := by kernel_rfl
theorem zeroHash : ∀ w, (zeroValue 57).run Tryd.prog w = .ok (.agg #[Value.int .u32 0, Value.int .u32 0, Value.int .u32 0, Value.int .u32 0, Value.int .u32 0, Value.int .u32 0, Value.int .u32 0, Value.int .u32 0, Value.int .u8 0, Value.int .u8 0, Value.int .u8 0, Value.int .u8 0, Value.int .u8 0, Value.int .u8 0, Value.int .u8 0, Value.int .u8 0, Value.int .u8 0, Value.int .u8 0, Value.int .u8 0, Value.int .u8 0, Value.int .u8 0, Value.int .u8 0, Value.int .u8 0, Value.int .u8 0, Value.int .u8 0, Value.int .u8 0, Value.int .u8 0, Value.int .u8 0, Value.int .u8 0, Value.int .u8 0, Value.int .u8 0, Value.int .u8 0, Value.int .u8 0, Value.int .u8 0, Value.int .u8 0, Value.int .u8 0, Value.int .u8 0, Value.int .u8 0, Value.int .u8 0, Value.int .u8 0, Value.int .u8 0, Value.int .u8 0, Value.int .u8 0, Value.int .u8 0, Value.int .u8 0, Value.int .u8 0, Value.int .u8 0, Value.int .u8 0, Value.int .u8 0, Value.int .u8 0, Value.int .u8 0, Value.int .u8 0, Value.int .u8 0, Value.int .u8 0, Value.int .u8 0, Value.int .u8 0, Value.int .u8 0, Value.int .u8 0, Value.int .u8 0, Value.int .u8 0, Value.int .u8 0, Value.int .u8 0, Value.int .u8 0, Value.int .u8 0, Value.int .u8 0, Value.int .u8 0, Value.int .u8 0, Value.int .u8 0, Value.int .u8 0, Value.int .u8 0, Value.int .u8 0, Value.int .u8 0, Value.int .u64 0]) w := fun _ => by kernel_rfl

set_option maxRecDepth 100000 in
theorem new_any (w : World) :
    Calls Tryd.prog 15 #[] w fun e w' => e = .returned (.pointer (some ⟨w.heap.size, 0, none⟩)) ∧ w' = w.alloc (.cells initCells 57) := by
  have hz := zeroHash
  go_enter Tryd.func15, Tryd.ntmps15
  go_wp2
  go_ret
  exact ⟨rfl, by rw [init_lit]⟩

set_option maxHeartbeats 1000000 in
set_option maxRecDepth 100000 in
theorem text_any (b : Nat) (T : TypeId) (fr : Nat × Nat) (s : Sha.St) (hs : s.Ok) (tl : Array Value) (w : World) (hb : w.heap[b]? = some (.cells (u32s s.list ++ tl) T fr)) :
    Calls Tryd.prog 27 #[.pointer (some ⟨b, 0, none⟩)] w fun e w' => e = .returned (.string ⟨s.text.toArray⟩) ∧ Below w.heap.size w w' := by
  have hbl := row_lt hb
  have Hb := Lib.hid hb; clear hb
  have hz : ∀ w, (zeroValue 71).run Tryd.prog w = .ok (.agg (u8s (Sha.zer 32))) w := fun _ => by kernel_rfl
  go_enter Tryd.func27, Tryd.ntmps27
  go_wp2
  go_loopw [5] (fun i wr => ∃ k : Nat, k ≤ 32 ∧ i = .int .i64 k ∧ wr.heap[w.heap.size]? = some (.cells (u8s (((List.range k).map (Sha.tbyte s)) ++ Sha.zer (32 - k))) 71 (0, 0)) ∧ Below w.heap.size w wr) (fun i _ => 32 - (intOf i).toNat)
  case atStart => exact ⟨0, by omega, rfl, heap_alloc_new _ _, (Below.refl _ w).alloc (Nat.le_refl _) _⟩
  case round =>
    obtain ⟨k, hk, rfl, hrow, hbel⟩ := hrel
    have Hrow := Lib.hid hrow; clear hrow
    have Hbel := Lib.hid hbel; clear hbel
    by_cases hlt : k < 32
    · have hq4 : k / 4 < 8 := by omega
      have hc := row_u32_app (row_below Hb.out Hbel.out hbl) (k / 4) hq4
      have hf := row_free Hrow.out k
      have ho := row_u8 Hrow.out k (by simp [Sha.zer]; omega)
      have hfill := Sha.text_fill s k hlt
      have hset := fun x => row_set8 Hrow.out k x
      have htb : Sha.tbyte s k = UInt8.ofNat (s.list.getD (k / 4) 0 / 2 ^ (24 - 8 * (k % 4))) := rfl
      generalize s.list.getD (k / 4) 0 = x at *
      generalize (((List.range k).map (Sha.tbyte s)) ++ Sha.zer (32 - k)).getD k 0 = old at *
      have Hset := Lib.hid hset; clear hset
      have Hfill := Lib.hid hfill; clear hfill
      have Htb := Lib.hid htb; clear htb
      have d0 : (0 : Int) ≤ (k : Int) / 4 := by omega
      have d1 : (k : Int) / 4 < 8 := by omega
      have d2 : ((k : Int) / 4).toNat = k / 4 := by omega
      have m0 : (0 : Int) ≤ (k : Int) % 4 := by omega
      have m1 : (k : Int) % 4 < 4 := by omega
      go_wp2
      go_roundw
      case rel =>
        have e : (x : Int) / 2 ^ (24 - 8 * (k % 4)) % 256 = ((Sha.tbyte s k).toNat : Int) := by
          rw [Htb.out, UInt8.toNat_ofNat']
          simp
        rw [e]
        have h := Hset.out (Sha.tbyte s k)
        rw [Hfill.out] at h
        exact ⟨k + 1, by omega, by go_num, h, Hbel.out.setCell (p := ⟨w.heap.size, k, none⟩) (by simp) _⟩
      case measure => simp [intOf]; omega
    · obtain rfl : k = 32 := by omega
      have harr : ArrB w.heap.size s.text wr := by
        rw [Sha.text_range]
        have h := Hrow.out
        simp only [Nat.sub_self, Sha.zer, List.replicate_zero, List.append_nil] at h
        intro j hj
        exact ⟨row_u8 h j hj, row_free h j⟩
      have hlen : s.text.length = 32 := by rw [Sha.text_range]; simp
      have hcv := harr.conv (P := Tryd.prog) 40 9 5 Tryd.underlying40 Tryd.underlying5 Tryd.underlying9 32 32 (Nat.le_of_eq hlen.symm)
      rw [List.take_of_length_le (Nat.le_of_eq hlen)] at hcv
      have Harr := Lib.hid harr; clear harr
      have Hlen := Lib.hid hlen; clear hlen
      rw [show ((32 : Nat) : Int) = 32 from rfl]
      go_wp2
      go_ret
      exact ⟨rfl, Hbel.out⟩

theorem wrap8 (n : Nat) : IntKind.u64.wrap ((n : Int) * 8) = ((n * 8 % 18446744073709551616 : Nat) : Int) := by
  rw [IntKind.wrap_u64]; omega
theorem pad_shift (c k : Nat) (h : k < 8) : ((c : Int) / 2 ^ (8 * k)) % 256 = ((UInt8.ofNat (c / 2 ^ (8 * k))).toNat : Int) := by
  rw [UInt8.toNat_ofNat']
  simp

set_option maxHeartbeats 1000000 in
set_option maxRecDepth 100000 in
theorem padding_any (n : Nat) (hn : n < 18446744073709551616) (w : World) :
    Calls Tryd.prog 26 #[.int .u64 n] w fun e w' => e = .returned (.string ⟨(Sha.pad n).toArray⟩) ∧ Below w.heap.size w w' := by
  have hz : ∀ w, (zeroValue 69).run Tryd.prog w = .ok (.agg (u8s (Sha.zer 72))) w := fun _ => by kernel_rfl
  have hm := Sha.padLen_bd n
  have hpe := Sha.part_eight n hm.1 hm.2
  have hw8 := wrap8 n
  have hz0 : (u8s (Sha.zer 72)).setIfInBounds 0 (.int .u8 128) = u8s (Sha.part (Sha.padLen n) (n * 8 % 18446744073709551616) 0) := by
    rw [Sha.part_zero _ _ hm.1 hm.2]; exact u8s_set (Sha.zer 72) 0 128
  have hpl : Sha.padLen n = if 64 - n % 64 < 9 then 128 - n % 64 else 64 - n % 64 := rfl
  generalize Sha.padLen n = m at *
  generalize n * 8 % 18446744073709551616 = c at *
  obtain ⟨hm9, hm72⟩ := hm
  have Hpe := Lib.hid hpe; clear hpe
  have Hw8 := Lib.hid hw8; clear hw8
  have Hz0 := Lib.hid hz0; clear hz0
  have Hpl := Lib.hid hpl; clear hpl
  by_cases h9 : 64 - n % 64 < 9
  all_goals
    have hpl := Hpl.out
    simp only [h9, if_true, if_false] at hpl
    have e4 : (if 64 - n % 64 < 9 then (64 : Int) - (n : Int) % 64 + 64 else (64 : Int) - (n : Int) % 64) = (m : Int) := by split <;> omega
    simp only [h9, if_true, if_false] at e4
    have hd : decide ((64 : Int) - (n : Int) % 64 < 9) = decide (64 - n % 64 < 9) := decide_eq_decide.2 (by omega)
    simp only [h9, decide_true, decide_false] at hd
    have E4 := Lib.hid e4; clear e4
    clear hpl
    go_enter Tryd.func26, Tryd.ntmps26
    go_wp2
    rw [E4.out, Hw8.out, Hz0.out]
    go_loopw [18] (fun i wr => ∃ k : Nat, k ≤ 8 ∧ i = .int .i64 k ∧ wr.heap[w.heap.size]? = some (.cells (u8s (Sha.part m c k)) 69 (0, 0)) ∧ Below w.heap.size w wr) (fun i _ => 8 - (intOf i).toNat)
    case atStart => exact ⟨0, by omega, rfl, heap_alloc_new _ _, (Below.refl _ w).alloc (Nat.le_refl _) _⟩
    case round =>
      obtain ⟨k, hk, rfl, hrow, hbel⟩ := hrel
      have Hrow := Lib.hid hrow; clear hrow
      have Hbel := Lib.hid hbel; clear hbel
      by_cases hlt : k < 8
      · have hpl2 := Sha.part_length m c k hm9 hm72 hk
        have hf := row_free Hrow.out (m - 1 - k)
        have ho := row_u8 Hrow.out (m - 1 - k) (by omega)
        have hset := row_set8 Hrow.out (m - 1 - k) (UInt8.ofNat (c / 2 ^ (8 * k)))
        rw [Sha.part_set m c k hm9 hm72 hlt] at hset
        generalize (Sha.part m c k).getD (m - 1 - k) 0 = old at *
        have hps := pad_shift c k hlt
        have Hps := Lib.hid hps; clear hps
        have Hset := Lib.hid hset; clear hset
        clear hpl2
        have d0 : (0 : Int) ≤ (m : Int) - 1 - (k : Int) := by omega
        have d1 : (m : Int) - 1 - (k : Int) < 72 := by omega
        have d2 : ((m : Int) - 1 - (k : Int)).toNat = m - 1 - k := by omega
        go_wp2
        go_roundw
        case rel =>
          rw [Hps.out]
          exact ⟨k + 1, by omega, by go_num, Hset.out, Hbel.out.setCell (p := ⟨w.heap.size, m - 1 - k, none⟩) (by simp) _⟩
        case measure => simp [intOf]; omega
      · obtain rfl : k = 8 := by omega
        have harr : ArrB w.heap.size (Sha.part m c 8) wr := fun j hj => ⟨row_u8 Hrow.out j hj, row_free Hrow.out j⟩
        have hlen := Sha.part_length m c 8 hm9 hm72 (by omega)
        have hcv := harr.conv (P := Tryd.prog) 40 9 5 Tryd.underlying40 Tryd.underlying5 Tryd.underlying9 m 72 (by omega)
        rw [Hpe.out] at hcv
        have hsl := fun u => slice_arr (P := Tryd.prog) 69 72 (by kernel_rfl) (by kernel_rfl) (fun _ => by kernel_rfl) w.heap.size (m : Int) m rfl hm72 u
        have Harr := Lib.hid harr; clear harr
        clear hlen
        rw [show ((8 : Nat) : Int) = 8 from rfl]
        go_wp2
        go_ret
        exact ⟨rfl, Hbel.out⟩
end Go.Proofs.YtdlcdbpigcmnbaaDoor
