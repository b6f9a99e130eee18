/-
  How many bytes the encoding of a map of files has.
-/
import Derived.Test.YticcipgdjpoimaaGreatFilMem
import Derived.Maps.RangeWalk
import Derived.Deep.LoopGhost
set_option linter.unusedVariables false
set_option maxRecDepth 100000
namespace Go.Proofs.YticcipgdjpoimaaGreat
open Go.RowKit Go.Maps

namespace Fil
/-- the bytes of those that are no longer to come -/
def done (r : Row) (left : Lit → Bool) : Nat := ((r.filter fun x => !left (.string x.1)).map wt).sum
theorem done_le (r : Row) (left : Lit → Bool) : done r left ≤ sum r := by
  unfold done sum
  induction r with
  | nil => simp
  | cons x r ih =>
    simp only [List.filter_cons, List.map_cons, List.sum_cons]
    split
    · simp only [List.map_cons, List.sum_cons]; omega
    · omega
theorem done_end (r : Row) (left : Lit → Bool) (h : ∀ k, left k = false) : done r left = sum r := by
  unfold done sum
  rw [List.filter_eq_self.2 (fun x _ => by rw [h]; rfl)]
theorem get_mem {r : Row} {n d : Txt} (h : get r n = some d) : (n, d) ∈ r := by
  unfold get at h
  obtain ⟨p, hp, rfl⟩ := Option.map_eq_some_iff.1 h
  have h1 := List.mem_of_find?_eq_some hp
  have h2 := List.find?_some hp
  simp only [beq_iff_eq] at h2
  subst h2
  exact h1
theorem done_start (r : Row) : done r (Maps.has (D r)) = 0 := by
  unfold done
  rw [List.filter_eq_nil_iff.2 (fun x hx => ?_)]
  · rfl
  · rw [D_has]
    have : (get r x.1).isSome = true := by
      unfold get
      rw [Option.isSome_map, List.find?_isSome]
      exact ⟨x, hx, by simp⟩
    rw [this]; simp
theorem Sorted.apart {r : Row} (h : Sorted r) : r.Pairwise fun a b => a.1 ≠ b.1 := h.imp fun {a b} hb e => by rw [e, WideAt.bytes_irrefl] at hb; cases hb
theorem done_step {r : Row} (hs : r.Pairwise fun a b => a.1 ≠ b.1) {left : Lit → Bool} {n d : Txt} (hm : (n, d) ∈ r) (hl : left (.string n) = true) : done r (fun z => left z && !z.sameKey (.string n)) = done r left + wt (n, d) := by
  unfold done
  induction r with
  | nil => simp at hm
  | cons y r ih =>
    obtain ⟨h1, h2⟩ := List.pairwise_cons.1 hs
    have e : (Lit.string y.1).sameKey (.string n) = (y.1 == n) := rfl
    rcases List.mem_cons.1 hm with rfl | hm
    · have hr : r.filter (fun x => !(left (.string x.1) && !(Lit.string x.1).sameKey (.string n))) = r.filter fun x => !left (.string x.1) := by
        refine List.filter_congr fun x hx => ?_
        have : (Lit.string x.1).sameKey (.string n) = false := by
          show (x.1 == n) = false
          rw [beq_eq_false_iff_ne]; exact fun e => h1 x hx e.symm
        rw [this]; simp
      have e2 : (Lit.string n).sameKey (.string n) = true := by show (n == n) = true; simp
      have a1 : ((n, d) :: r).filter (fun x => !(left (.string x.1) && !(Lit.string x.1).sameKey (.string n))) = (n, d) :: r.filter (fun x => !left (.string x.1)) := by
        rw [List.filter_cons_of_pos (by simp [hl, e2]), hr]
      have a2 : ((n, d) :: r).filter (fun x => !left (.string x.1)) = r.filter (fun x => !left (.string x.1)) := List.filter_cons_of_neg (by simp [hl])
      rw [a1, a2, List.map_cons, List.sum_cons]
      omega
    · have hy : (Lit.string y.1).sameKey (.string n) = false := by rw [e, beq_eq_false_iff_ne]; exact h1 _ hm
      have := ih h2 hm
      cases hly : left (.string y.1) with
      | true =>
        rw [List.filter_cons_of_neg (by simp [hly, hy]), List.filter_cons_of_neg (by simp [hly])]
        exact this
      | false =>
        rw [List.filter_cons_of_pos (by simp [hly]), List.filter_cons_of_pos (by simp [hly]), List.map_cons, List.map_cons, List.sum_cons, List.sum_cons]
        omega
theorem wt_le {r : Row} {x : Txt × Txt} (h : x ∈ r) : wt x ≤ sum r := by
  unfold sum
  induction r with
  | nil => simp at h
  | cons y r ih =>
    simp only [List.map_cons, List.sum_cons]
    rcases List.mem_cons.1 h with rfl | h
    · omega
    · have := ih h; omega
end Fil

theorem keyOf_string_inv {P : Program} {k : TypeId} (hk : P.underlying k = some .string) {key : Value} {kl : Lit} (h : keyOf P k key = some kl) : ∃ x : ByteArray, key = .string x ∧ kl = .string x.data.toList := by
  cases key <;> simp [keyOf, hk, mapKey] at h
  obtain ⟨_, rfl⟩ := h
  exact ⟨_, rfl, rfl⟩

set_option maxHeartbeats 1000000 in
theorem size_any (b n : Nat) (r : Fil.Row) (w : World) (hm : ContAt b n r w) (hs : Fil.Sorted r) (hsum : Fil.sum r ≤ 1099511627776) :
    Calls Tryz.prog 32 #[.map (some b)] w fun e w' => e = .returned (.int .i64 ((Fil.used r : Nat) : Int)) ∧ Below w.heap.size w w' := by
  have Hs := Lib.hid hs.apart
  have Hm := Lib.hid hm
  have hm' : w.ownsMap Tryz.prog 9 fileElem b n (Fil.D r) := hm
  clear hm hs
  go_enter Tryz.func32, Tryz.ntmps32
  go_wp2_with (first
    | (at_range; refine wpList_range_own _ rfl _ 74 rfl 9 81 str_law Tryz.underlying74 fileElem b n _ rfl hm' ?_; intro w0 hrg0 hg0 hs0)
    | go_in)
  go_frame
  go_loopw [3] (fun s3 wr => ∃ (left : Lit → Bool) (cnt : Nat), s3 = .int .i64 (((4 + Fil.done r left : Nat)) : Int) ∧ wr.ranges Tryz.prog 9 fileElem b w.heap.size n (Fil.D r) left cnt ∧ w.grownBy wr none)
    (fun _ wr => wr.rangeLeft b w.heap.size)
  case atStart => exact ⟨_, _, by rw [Fil.done_start]; rfl, hrg0, hg0⟩
  case round =>
    clear hrg0 hg0 hs0 hm'
    obtain ⟨left, cnt, rfl, hrg, hgw⟩ := hrel
    have hdl := Fil.done_le r left
    go_wp2_with (first
      | (at_next; refine wpList_next_ranges _ rfl _ rfl 9 str_law fileElem Value.string (fun s => Value.agg #[.string s]) (fun key kl hk => by obtain ⟨x, rfl, _⟩ := keyOf_string_inv Tryz.underlying9 hk; exact ⟨x, rfl⟩) (fun v y hv => by obtain ⟨c, rfl, _⟩ := fileElem_inv hv; exact ⟨c, rfl⟩) b w.heap.size n _ _ _ rfl hrg ?_ ?_)
      | go_in)
    · intro _ hl0
      have hE := Fil.done_end r left hl0
      have hb : Below w.heap.size w wr := ⟨hgw.os, hgw.tape, hgw.output, hgw.size, fun j hj => hgw.block j hj (by simp)⟩
      have Hb := Lib.hid hb
      rw [hE]
      clear hrg hgw hl0 hb hE hdl
      go_wp2
      go_ret
      exact ⟨by unfold Fil.used; simp, Hb.out⟩
    · intro x c kl y ys w1 cnt1 hwx hlx hRc hat hrg1 hlt hg1 hs1 hen
      obtain ⟨x', hx', rfl⟩ := keyOf_string_inv Tryz.underlying9 hwx
      cases hx'
      obtain ⟨c', hc', hz⟩ := fileElem_inv hRc
      cases hc'
      obtain rfl : y = .lit (.string c.data.toList) := congrArg Prod.fst hz
      have hget : Fil.get r x.data.toList = some c.data.toList := by
        have h1 := hat (.lit (.bool true))
        rw [Fil.D_at] at h1
        cases hg : Fil.get r x.data.toList with
        | none => rw [hg] at h1; simp at h1
        | some z => rw [hg] at h1; simp at h1; rw [h1]
      have hmem := Fil.get_mem hget
      have hstep := Fil.done_step Hs.out hmem hlx
      have hwt := Fil.wt_le hmem
      have hdl2 := Fil.done_le r (fun z => left z && !z.sameKey (.string x.data.toList))
      have hwe : Fil.wt (x.data.toList, c.data.toList) = 8 + x.size + c.size := by unfold Fil.wt; rw [ba_len, ba_len]
      rw [hwe] at hstep hwt
      have hgw1 : w.grownBy w1 none := hgw.andThen hg1 (fun j hj => by cases hj; exact Or.inl (Nat.le_refl _))
      have Hrg1 := Lib.hid hrg1
      have Hrg := Lib.hid hrg
      have Hgw1 := Lib.hid hgw1
      have Hstep := Lib.hid hstep
      clear hrg1 hrg hgw1 hgw hg1 hget hmem hat hRc hwx hwe
      clear Hm
      go_wp2_with fail
      go_roundw
      case rel =>
        refine ⟨_, cnt1, ?_, Hrg1.out.alloc _, Hgw1.out.andThen (World.grownBy_alloc _ _ none) (fun j hj => by cases hj)⟩
        rw [Hstep.out]
        congr 1
        simp only [Int.natCast_add]
        omega
      case measure => rw [(Hrg1.out.alloc _).left_eq, Hrg.out.left_eq]; exact hlt
end Go.Proofs.YticcipgdjpoimaaGreat
