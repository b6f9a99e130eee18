/-
  copy from a text into the midst of a block, as much as there is room for; a slice of an array from a place on.
-/
import Derived.Test.YtjlkppdailkanaaGoRow
import Derived.Lib.BufferWrite
import Derived.Deep.RegionLaw
set_option linter.unusedVariables false
namespace Go.Proofs.Ytjlkppdailkanaa
open Go.RowKit

theorem run_copy_str {P : Program} (w : World) (dT sT ty elem : TypeId) (g o dLen dCap : Nat) (s : ByteArray) (m : Nat) (hm : m = min s.size dLen) (cur : Array Value) (t : TypeId)
    (hu : P.underlying dT = some (.slice elem)) (hs : (P.info? elem).map (·.size) = some 1) (hg : w.heap[g]? = some (.cells cur t (0, 0))) (hfit : o + m ≤ cur.size) :
    (Builtin.copy_ #[dT, sT] ty #[.slice (some ⟨g, o, none⟩) dLen dCap, .string s]).run P w =
      .ok (goInt m) (w.setRow g (cur.toList.take o ++ (u8s (s.data.toList.take m)).toList ++ cur.toList.drop (o + m)).toArray) := by
  have hl : (s.data.toList.take m).length = m := by rw [List.length_take, ba_len]; omega
  have hl2 : (u8s (s.data.toList.take m)).toList.length = m := by rw [Array.length_toList, u8s_size, hl]
  have hst := run_storeCells_at P g o t (u8s (s.data.toList.take m)).toList 0 cur w hg (by rw [hl2]; simpa using hfit) (fun v hv => by
    have := u8s_one (s.data.toList.take m)
    rw [Array.all_eq_true_iff_forall_mem] at this
    exact this v (by simpa using hv))
  rw [hl2] at hst
  simp only [Nat.add_zero] at hst
  have hmm : Nat.min s.size dLen = m := hm.symm
  cases hq : P.info? elem with
  | none => simp [hq] at hs
  | some i =>
    have htk : List.take m (List.map (fun b : UInt8 => Value.int IntKind.u8 (b.toNat : Int)) s.data.toList) = (u8s (s.data.toList.take m)).toList := by
      simp [u8s, List.map_take]
    simp [Builtin.copy_, run_underlying hu, Builtin.lenOf, Builtin.firstCells, sizeOf, typeInfo, hq, hmm]
    rw [htk, hst]
    simp [Result.andThen]

theorem step_copy_str {P : Program} {ops : Array Oper} {o : Oper} {a : Act} {w : World} {K : Act → World → Prop} {Q : Exit → Act → World → Prop} {E : Prop} (hg : o.guard = none) (d x : Operand) (dT sT : TypeId)
    (hop : o.op = Op.call { callee := Callee.builtin Builtin.copy, args := #[d, x], argTypes := #[dT, sT] }) (elem : TypeId) (hu : P.underlying dT = some (.slice elem)) (hs : (P.info? elem).map (·.size) = some 1)
    (g off dLen dCap : Nat) (hd : a.eval d = .slice (some ⟨g, off, none⟩) dLen dCap) (t : ByteArray) (hx : a.eval x = .string t) (m : Nat) (hm : m = min t.size dLen) (cur : Array Value) (T : TypeId)
    (hrow : w.heap[g]? = some (.cells cur T (0, 0))) (hfit : off + m ≤ cur.size)
    (hK : K (a.put o.dst (goInt m)) (w.setRow g (cur.toList.take off ++ (u8s (t.data.toList.take m)).toList ++ cur.toList.drop (off + m)).toArray)) :
    if Region.wanted o (yielded ops a.tmps) = true then Oper.wp P o a w K Q else E := by
  have hw : Region.wanted o (yielded ops a.tmps) = true := by simp [Region.wanted, hg]
  rw [if_pos hw]
  have hrun := run_copy_str (P := P) w dT sT o.type elem g off dLen dCap t m hm cur T hu hs hrow hfit
  unfold Oper.wp
  rw [List.append_assoc] at hK
  simp [execOp, hop, resolve, invoke, builtin, hd, hx, hrun, Result.andThen]
  exact hK

/-- arr[l:], an array within a block -/
theorem slice_arr_l {P : Program} (t : TypeId) (n : Nat) (ht : P.underlying t = some (.array (P.arrayLen t) (P.elem t))) (hn : P.arrayLen t = n) (hsz : ∀ u : World, (sizeOf (P.elem t)).run P u = .ok 1 u)
    (B o : Nat) (x : Int) (l : Nat) (hx : x = (l : Int)) (hl : l < n) (u : World) :
    (Instr.sliceAt t (.pointer (some ⟨B, o, none⟩)) (some (.int .i64 x)) none none).run P u = .ok (.slice (some ⟨B, o + l, none⟩) (n - l) (n - l)) u := by
  subst hx
  rw [run_sliceAt_array_l (P := P) u t ⟨B, o, none⟩ ht .i64 (l : Int) (by omega) (by rw [hn]; omega), hsz u]
  have e : n - l ≠ 0 := by omega
  by_cases h0 : l = 0 <;> simp [slicedAt, hn, h0, Addr.add]
  all_goals omega
end Go.Proofs.Ytjlkppdailkanaa
