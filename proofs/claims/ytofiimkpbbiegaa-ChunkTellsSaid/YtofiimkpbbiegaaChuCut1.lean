/-
  What the closure of chunk.Cut does: it puts a piece behind the others.
-/
import Derived.Test.YtofiimkpbbiegaaChuMarks
set_option linter.unusedVariables false
set_option maxRecDepth 100000
namespace Go.Proofs.Ytofiimkpbbiegaa
open Go.RowKit

theorem piece_info : (Try.prog.info? 45).map (fun i => (i.zero, i.size, i.bytes)) = some (some (.agg #[.int .i64 0, .int .i64 0]), 2, 16) := by kernel_rfl
abbrev Pc := Nat × Nat
def Pc.cells (x : Pc) : List Value := [.int .i64 (x.1 : Int), .int .i64 (x.2 : Int)]
/-- a slice of the call's own that holds these pieces -/
def POwn (B : Nat) (v : Value) (l : List Pc) (w : World) : Prop := w.ownsRow B 45 2 v l.length (l.flatMap Pc.cells)
theorem POwn.same {B : Nat} {v : Value} {l : List Pc} {w w' : World} (h : POwn B v l w) (hk : ∀ g, B ≤ g → g < w.heap.size → (∃ cs : Array Value, w.heap[g]? = some (.cells cs 45 (0, 0))) → w'.heap[g]? = w.heap[g]?) : POwn B v l w' :=
  ownsRow_same h fun g hg => by
    have := World.ownsRow.lt h g hg
    exact hk g this.1 this.2 (ownsRow_block h hg)
theorem POwn.new {B : Nat} {v : Value} {l : List Pc} {w w' : World} (h : POwn B v l w) (hb : Below w.heap.size w w') : POwn B v l w' := ownsRow_new h hb
theorem POwn.form {B : Nat} {v : Value} {l : List Pc} {w : World} (h : POwn B v l w) : ∃ a cap, v = .slice a l.length cap := by
  rcases h.2 with ⟨rfl, h0⟩ | ⟨g, cap, _, hv, _⟩
  · exact ⟨none, 0, by rw [h0]⟩
  · exact ⟨_, cap, hv⟩
theorem POwn.off {B b : Nat} {v : Value} {l : List Pc} {w : World} (h : POwn B v l w) {cs : Array Value} {T : TypeId} (hT : T ≠ 45) (hr : w.heap[b]? = some (.cells cs T (0, 0))) : v.ownBlock ≠ some b := fun e => by
  obtain ⟨cur, hcur⟩ := ownsRow_block h e
  rw [hr] at hcur
  simp only [Option.some.injEq, Obj.cells.injEq] at hcur
  exact hT hcur.2.1
theorem POwn.low {B b : Nat} {v : Value} {l : List Pc} {w : World} (h : POwn B v l w) (hb : b < B) : v.ownBlock ≠ some b := fun e => by
  have := (World.ownsRow.lt h b e).1; omega
theorem POwn.base {B B' : Nat} {v : Value} {l : List Pc} {w : World} (h : POwn B v l w) (hb : B' ≤ B) : POwn B' v l w := by
  refine ⟨h.1, ?_⟩
  rcases h.2 with hh | ⟨g, cap, cur, e1, e2, e3⟩
  · exact .inl hh
  · exact .inr ⟨g, cap, cur, e1, Nat.le_trans hb e2, e3⟩

/-- the pieces so far, and where the next one begins -/
structure CutAt (Bs : Nat) (Bl Ba : Nat) (ps : List Pc) (a : Nat) (v : Value) (w : World) : Prop where
  l : w.heap[Bl]? = some (.cells #[v] 31 (0, 0))
  o : POwn Bs v ps w
  a : w.heap[Ba]? = some (.cells #[.int .i64 (a : Int)] 3 (0, 0))

set_option maxHeartbeats 1000000 in
theorem cut1_any {Bs Bl Ba a i : Nat} {ps : List Pc} {v : Value} {w : World} (h : CutAt Bs Bl Ba ps a v w) (hlen : ps.length ≤ 1099511627776) (hBs : Bs ≤ w.heap.size) (ha : a ≤ i) (hi : i ≤ 140737488351232) :
    Calls Try.prog 26 #[.int .i64 (i : Int), .pointer (some ⟨Bl, 0, none⟩), .pointer (some ⟨Ba, 0, none⟩)] w fun e w' => e = .returned (.tuple #[]) ∧ (∃ v', CutAt Bs Bl Ba (ps ++ [(a, i - a)]) i v' w') ∧ Turns (fun j => j = Bl ∨ j = Ba ∨ v.ownBlock = some j) w w' := by
  obtain ⟨i0, hi0, hz0, hz1, hz2⟩ := info_parts piece_info
  have c1 := cell_of_one h.l
  have f1 := row_free h.l 0
  have c2 := cell_of_one h.a
  have f2 := row_free h.a 0
  have hw1 : IntKind.i64.wrap ((i : Int) - (a : Int)) = ((i - a : Nat) : Int) := by simp only [IntKind.wrap_i64]; omega
  have hoX := h.o.off (by decide) h.l
  have hoA := h.o.off (by decide) h.a
  have hne : Bl ≠ Ba := fun e => by
    have h1 := h.l
    rw [e, h.a] at h1
    simp only [Option.some.injEq, Obj.cells.injEq] at h1
    exact absurd h1.2.1 (by decide)
  obtain ⟨va, vcap, hvf⟩ := h.o.form
  have Hvf := Lib.hid hvf; clear hvf
  have hbl := row_lt h.l
  have hba := row_lt h.a
  have H := Lib.hid h; clear h
  have HoX := Lib.hid hoX; clear hoX
  have HoA := Lib.hid hoA; clear hoA
  go_enter Try.func26, Try.ntmps26
  go_wp2_with (at_builtin; go_loud (refine wpList_append_own_at _ rfl _ _ 31 rfl Bs 45 i0 (.agg #[.int .i64 0, .int .i64 0]) 2 16 Try.underlying31 hi0 hz0 hz1 hz2 rfl (by decide) _ _ _ rfl (World.ownsRow.alloc H.out.o _) ⟨w.heap.size, 0, none⟩ 1 1 [.int .i64 (a : Int), .int .i64 ((i - a : Nat) : Int)] rfl rfl (cell_new_row w [.int .i64 (a : Int), .int .i64 ((i - a : Nat) : Int)] 45) ?c2 ?c3 ?c4 ?c5 ?_))
  case c2 => intro z hz; simp at hz; rcases hz with rfl | rfl <;> rfl
  case c3 => unfold maxLen; omega
  case c4 => omega
  case c5 => simp; omega
  intro v' w5 hown5 hgrow _ hvb2
  have hbY : Below w.heap.size w (w.alloc (.cells #[.int .i64 (a : Int), .int .i64 ((i - a : Nat) : Int)] 45)) := box_below w _
  have hkp : ∀ j o, w.heap[j]? = some o → v.ownBlock ≠ some j → w5.heap[j]? = some o := fun j o ho hne => by
    rw [hgrow.block j (by have := row_lt ho; have := hbY.size; omega) (fun e => hne e.symm), hbY.block j (row_lt ho)]; exact ho
  have hl5 := hkp _ _ H.out.l HoX.out
  have ha5 := hkp _ _ H.out.a HoA.out
  have ho5 : POwn Bs v' (ps ++ [(a, i - a)]) w5 := by
    unfold POwn
    rw [List.length_append, List.flatMap_append]
    exact hown5
  have hT5 : Turns (fun j => j = Bl ∨ j = Ba ∨ v.ownBlock = some j) w w5 := (Turns.of_new hbY _).trans (Turns.of_grown hgrow) (fun j _ e => .inr (.inr e))
  have hoX5 := ho5.off (by decide) hl5
  have hoA5 := ho5.off (by decide) ha5
  obtain ⟨va5, vcap5, hv5⟩ := ho5.form
  obtain ⟨n5, hn5⟩ : ∃ n5, n5 = (ps ++ [(a, i - a)]).length := ⟨_, rfl⟩
  rw [← hn5] at hv5
  subst hv5
  have c5 := cell_of_one hl5
  have f5 := row_free hl5 0
  have ha6 : (w5.setCell ⟨Bl, 0, none⟩ (.slice va5 n5 vcap5)).heap[Ba]? = some (.cells #[.int .i64 (a : Int)] 3 (0, 0)) := by
    rw [heap_setCell_other _ _ _ _ (fun e => hne e.symm)]; exact ha5
  have c6 := cell_of_one ha6
  have f6 := row_free ha6 0
  have hl7 : ((w5.setCell ⟨Bl, 0, none⟩ (.slice va5 n5 vcap5)).setCell ⟨Ba, 0, none⟩ (.int .i64 (i : Int))).heap[Bl]? = some (.cells #[.slice va5 n5 vcap5] 31 (0, 0)) := by
    rw [heap_setCell_other _ _ _ _ hne, heap_setCell_same _ _ 0 _ _ _ hl5]; rfl
  have ha7 : ((w5.setCell ⟨Bl, 0, none⟩ (.slice va5 n5 vcap5)).setCell ⟨Ba, 0, none⟩ (.int .i64 (i : Int))).heap[Ba]? = some (.cells #[.int .i64 (i : Int)] 3 (0, 0)) := by
    rw [heap_setCell_same _ _ 0 _ _ _ ha6]; rfl
  have ho7 : POwn Bs (.slice va5 n5 vcap5) (ps ++ [(a, i - a)]) ((w5.setCell ⟨Bl, 0, none⟩ (.slice va5 n5 vcap5)).setCell ⟨Ba, 0, none⟩ (.int .i64 (i : Int))) :=
    ownsRow_same ho5 fun g hg => by
      rw [heap_setCell_other _ _ _ _ (fun e => hoA5 (by rw [hg]; exact congrArg some e)), heap_setCell_other _ _ _ _ (fun e => hoX5 (by rw [hg]; exact congrArg some e))]
  have hT7 := (hT5.set Bl 0 (.slice va5 n5 vcap5) (fun _ => .inl rfl)).set Ba 0 (.int .i64 (i : Int)) (fun _ => .inr (.inl rfl))
  have HL := Lib.hid hl7; clear hl7
  have HA := Lib.hid ha7; clear ha7
  have HO := Lib.hid ho7; clear ho7
  have HT := Lib.hid hT7; clear hT7
  clear hown5 hgrow hvb2 hbY hkp hl5 ha5 ho5 hT5 hoX5 hoA5 hn5 ha6 c1 c2 f1 f2
  go_wp2_with fail
  go_end0
  exact ⟨rfl, ⟨_, HL.out, HO.out, HA.out⟩, HT.out⟩
end Go.Proofs.Ytofiimkpbbiegaa
