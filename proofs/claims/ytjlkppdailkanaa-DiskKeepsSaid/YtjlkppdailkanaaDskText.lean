/-
  text: what a step writes.
-/
import Derived.Test.YtjlkppdailkanaaDskHeavy
set_option linter.unusedVariables false
namespace Go.Proofs.Ytjlkppdailkanaa
open Go.RowKit

def agg (x : Stp) : Value := .agg #[.int .i64 x.d, .int .i64 x.at_, .int .i64 x.n, .string x.s, .bool x.raw]
/-- what a step writes -/
def textOf (x : Stp) : ByteArray := if x.raw = true then x.s else ⟨(Dsk.round x.s.data.toList (64 * x.n.toNat)).toArray⟩
theorem textOf_size (x : Stp) (h : x.raw = false) : (textOf x).size = 64 * x.n.toNat := by
  unfold textOf
  rw [if_neg (by rw [h]; decide)]
  show (Dsk.round _ _).toArray.size = _
  rw [List.size_toArray, Dsk.round_length]

theorem fill_neg (s : ByteArray) (hs : s.size ≤ 140737488355328) (n : Int) (hn : n < 0) (hn2 : I64 n) (w : World) : Calls Try.prog 14 #[.string s, .int .i64 n] w fun e w' => e = .returned (.string ⟨#[]⟩) ∧ Below w.heap.size w w' := by
  have hmk := fun u => make_u8 0 (by omega) u
  rw [show ((0 : Nat) : Int) = 0 from rfl, List.replicate_zero] at hmk
  have Hmk := Lib.hid hmk; clear hmk
  unfold I64 at hn2
  have hrow : (w.alloc (.cells (u8s []) 5)).heap[w.heap.size]? = some (.cells (u8s []) 5 (0, 0)) := heap_alloc_new w _
  have hA : ArrB w.heap.size [] (w.alloc (.cells (u8s []) 5)) := fun j hj => by simp at hj
  have hcv := hA.conv (P := Try.prog) 70 9 5 Try.underlying70 Try.underlying5 Try.underlying9 0 0 (Nat.le_refl _)
  rw [show (⟨([] : List UInt8).take 0 |>.toArray⟩ : ByteArray) = ⟨#[]⟩ from rfl] at hcv
  clear hrow hA
  have Hcv := Lib.hid hcv; clear hcv
  go_enter Try.func14, Try.ntmps14
  go_wp2
  rw [Hmk.out]
  simp only [Result.andThen]
  rw [Oper.upon_value]
  go_wp2
  go_loop [6] (fun i => i = .int .i64 0) (fun _ => 0)
  case atStart => rfl
  case round =>
    obtain rfl := hrel
    go_wp2_with (rw [Hcv.out]; simp only [Result.andThen]; rw [Oper.upon_value])
    go_ret
    exact ⟨rfl, (Below.refl _ w).alloc (Nat.le_refl _) _⟩

/-- what is known of a step that is played -/
structure Plays (x : Stp) : Prop where
  ok : x.Ok
  n : x.d = 0 → x.n ≤ 100
  s : x.s.size ≤ 32768
theorem Plays.of {sectors : Int} {l : List Stp} (h : Dsk.Light sectors l) (hok : ∀ x ∈ l, x.Ok) : ∀ x ∈ l, Plays x := fun x hx =>
  ⟨hok x hx, h.n x hx, by
    have h1 := Dsk.one_le_bulk hx
    have h2 := h.bulk
    unfold Dsk.one at h1
    split at h1 <;> omega⟩

set_option maxHeartbeats 1000000 in
theorem text_any (x : Stp) (hx : Plays x) (hn : x.n ≤ 100) (w : World) : Calls Try.prog 23 #[agg x] w fun e w' => e = .returned (.string (textOf x)) ∧ Below w.heap.size w w' := by
  unfold agg
  have hs := hx.s
  have hn3 := hx.ok.n
  obtain ⟨d, at_, n, s, raw⟩ := x
  simp only at hs hn3 hn ⊢
  cases raw with
  | true =>
    have ht : textOf ⟨d, at_, n, s, true⟩ = s := if_pos rfl
    rw [ht]
    clear ht hx
    go_enter Try.func23, Try.ntmps23
    go_wp2
    go_ret
    exact ⟨rfl, (Below.refl _ w).alloc (Nat.le_refl _) _⟩
  | false =>
    have ht : textOf ⟨d, at_, n, s, false⟩ = ⟨(Dsk.round s.data.toList (64 * n.toNat)).toArray⟩ := if_neg (by simp)
    rw [ht]
    have hb : Below w.heap.size w (w.alloc (.cells #[.int .i64 d, .int .i64 at_, .int .i64 n, .string s, .bool false] 33)) := (Below.refl _ w).alloc (Nat.le_refl _) _
    have Hb := Lib.hid hb; clear hb
    clear ht hx
    by_cases h0 : 0 ≤ n
    · obtain ⟨m, rfl⟩ := Int.eq_ofNat_of_zero_le h0
      have hf := fun u => fill_pos s (by omega) m (by omega) u
      rw [show ((m : Int)).toNat = m from rfl]
      have Hf := Lib.hid hf; clear hf
      go_enter Try.func23, Try.ntmps23
      go_wp2_with fail
      refine (Hf.out _).mono ?_; rintro e w2 ⟨rfl, h2⟩
      have h3 := Hb.out.trans (h2.mono Hb.out.size)
      clear h2
      go_wp2_with fail
      go_ret
      exact ⟨rfl, h3⟩
    · have hf := fun u => fill_neg s (by omega) n (by omega) hn3 u
      have hz : (⟨(Dsk.round s.data.toList (64 * n.toNat)).toArray⟩ : ByteArray) = ⟨#[]⟩ := by
        rw [show n.toNat = 0 by omega]; rfl
      rw [hz]
      have Hf := Lib.hid hf; clear hf
      clear hz
      go_enter Try.func23, Try.ntmps23
      go_wp2_with fail
      refine (Hf.out _).mono ?_; rintro e w2 ⟨rfl, h2⟩
      have h3 := Hb.out.trans (h2.mono Hb.out.size)
      clear h2
      go_wp2_with fail
      go_ret
      exact ⟨rfl, h3⟩
end Go.Proofs.Ytjlkppdailkanaa
