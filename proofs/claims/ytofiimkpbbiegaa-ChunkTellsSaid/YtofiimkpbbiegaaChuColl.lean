/-
  All marks of a text, collected: slices.AppendSeq, slices.Collect, chunk.Marks.
-/
import Derived.Test.YtofiimkpbbiegaaChuIter
import Derived.Test.YtofiimkpbbiegaaGoAll
import Derived.Maps.AppendAt
import Derived.Maps.OwnIn
set_option linter.unusedVariables false
set_option maxRecDepth 100000
namespace Go.Proofs.Ytofiimkpbbiegaa
open Go.RowKit
attribute [local go_sem] Oper.semAt_some

theorem int_info : (Try.prog.info? 3).map (fun i => (i.zero, i.size, i.bytes)) = some (some (.int .i64 0), 1, 8) := by kernel_rfl
def ints (l : List Nat) : List Value := l.map fun (n : Nat) => .int .i64 (n : Int)
@[simp] theorem ints_length (l : List Nat) : (ints l).length = l.length := by simp [ints]
/-- a slice of the call's own that holds these numbers -/
def IOwn (B : Nat) (v : Value) (l : List Nat) (w : World) : Prop := w.ownsRow B 3 1 v l.length (ints l)
theorem IOwn.same {B : Nat} {v : Value} {l : List Nat} {w w' : World} (h : IOwn B v l w) (hk : ∀ g, B ≤ g → g < w.heap.size → (∃ cs : Array Value, w.heap[g]? = some (.cells cs 3 (0, 0))) → w'.heap[g]? = w.heap[g]?) : IOwn B v l w' :=
  ownsRow_same h fun g hg => by
    have := World.ownsRow.lt h g hg
    exact hk g this.1 this.2 (ownsRow_block h hg)
theorem IOwn.new {B : Nat} {v : Value} {l : List Nat} {w w' : World} (h : IOwn B v l w) (hb : Below w.heap.size w w') : IOwn B v l w' := ownsRow_new h hb
theorem IOwn.keeps {B : Nat} {v : Value} {l : List Nat} {w w' : World} {T : Nat → Prop} (h : IOwn B v l w) (ht : Turns T w w') (hT : ∀ g, B ≤ g → g < w.heap.size → (∃ cs : Array Value, w.heap[g]? = some (.cells cs 3 (0, 0))) → ¬ T g) : IOwn B v l w' :=
  h.same fun g h1 h2 h3 => ht.block g h2 (hT g h1 h2 h3)
theorem IOwn.form {B : Nat} {v : Value} {l : List Nat} {w : World} (h : IOwn B v l w) : ∃ a cap, v = .slice a l.length cap := by
  rcases h.2 with ⟨rfl, h0⟩ | ⟨g, cap, _, hv, _⟩
  · exact ⟨none, 0, by rw [h0]⟩
  · exact ⟨_, cap, hv⟩
theorem IOwn.stays {B C : Nat} {v : Value} {l : List Nat} : Stays C (IOwn B v l) := fun W j o o' hl ho hc h =>
  IOwn.same h fun g _ _ ⟨cs, hcs⟩ => World.putObj_heap_other (fun e => by subst e; rw [hcs] at ho; cases ho; simp [Obj.isCells] at hc)

/-- the marks from f on, ahead of i -/
def Chu.mks (mk : Nat → Bool) (f i : Nat) : List Nat := (List.range' f (i - f)).filter mk
theorem Chu.mks_zero (mk : Nat → Bool) (f : Nat) : Chu.mks mk f f = [] := by simp [Chu.mks]
theorem Chu.mks_step (mk : Nat → Bool) (f i : Nat) (h : f ≤ i) : Chu.mks mk f (i + 1) = if mk i = true then Chu.mks mk f i ++ [i] else Chu.mks mk f i := by
  unfold Chu.mks
  rw [show i + 1 - f = (i - f) + 1 by omega, List.range'_concat, List.filter_append]
  rw [show f + 1 * (i - f) = i by omega]
  by_cases hm : mk i = true
  · simp [hm]
  · have : mk i = false := by simpa using hm
    simp [this]
theorem Chu.mks_length (mk : Nat → Bool) (f i : Nat) : (Chu.mks mk f i).length ≤ i - f := by
  unfold Chu.mks
  refine Nat.le_trans (List.length_filter_le _ _) ?_
  simp

theorem cell_new_row (w : World) (xs : List Value) (T : TypeId) (i : Nat) (u : Value) (h : xs[i]? = some u) : (w.alloc (.cells xs.toArray T)).cell? ((⟨w.heap.size, 0, none⟩ : Addr).add i) = some u := by
  have e : (Addr.add ⟨w.heap.size, 0, none⟩ i) = ⟨w.heap.size, i, none⟩ := by cases i <;> simp [Addr.add]
  rw [e, cell_of_row _ _ i _ _ _ (heap_alloc_new w _)]
  simpa using h

/-- what is collected so far -/
def ClI (b X : Nat) (mk : Nat → Bool) (f : Nat) (w : World) (i : Nat) (W : World) : Prop :=
  ∃ v, W.heap[X]? = some (.cells #[v] 28 (0, 0)) ∧ IOwn X v (Chu.mks mk f i) W ∧ Turns (fun j => j = b) w W
section
variable {b X f i C : Nat} {mk : Nat → Bool} {w W W' : World}
theorem ClI.turn (hX : b < X) (h : ClI b X mk f w i W) (ht : Turns (fun j => j = b) W W') : ClI b X mk f w i W' := by
  obtain ⟨v, h1, h2, h3⟩ := h
  exact ⟨v, ht.same h1 (by omega), h2.keeps ht (fun g hg _ _ => by omega), h3.trans ht (fun j _ e => e)⟩
theorem ClI.new (h : ClI b X mk f w i W) (hb : Below W.heap.size W W') : ClI b X mk f w i W' := by
  obtain ⟨v, h1, h2, h3⟩ := h
  exact ⟨v, by rw [hb.block _ (row_lt h1)]; exact h1, h2.new hb, h3.trans (Turns.of_new hb (fun j => j = b)) (fun j _ e => e)⟩
theorem ClI.stays (hC : w.heap.size ≤ C) : Stays C (ClI b X mk f w i) := fun W j o o' hl ho hc ⟨v, h1, h2, h3⟩ =>
  ⟨v, Stays.row W j o o' hl ho hc h1, IOwn.stays W j o o' hl ho hc h2, h3.os, h3.tape, h3.output, by rw [World.putObj_size]; exact h3.size, fun k hk hn => (World.putObj_heap_other (by omega)).trans (h3.block k hk hn)⟩
theorem ClI.skip (hf : f ≤ i) (hm : mk i = false) (h : ClI b X mk f w i W) : ClI b X mk f w (i + 1) W := by
  obtain ⟨v, h1, h2, h3⟩ := h
  exact ⟨v, h1, by rw [Chu.mks_step mk f i hf, if_neg (by simp [hm])]; exact h2, h3⟩
theorem MkAny.new {p n k B : Nat} {s : ByteArray} {f t : Int} (h : MkAny b p n k s f t B W) (hb : Below W.heap.size W W') : MkAny b p n k s f t B W' := by
  obtain ⟨⟨G, h1⟩, h2⟩ := h
  exact ⟨⟨G, h1.new hb⟩, h2.new hb⟩
theorem RolG.stays {p n D : Nat} {G : List UInt8} : Stays D (RolG b p n G) := fun W l o o' hl ho hc ⟨r, h1, h2⟩ => ⟨r, Stays.row W l o o' hl ho hc h1, h2⟩
end

theorem yield_imp {F : Fence} {m : Nat} {P : Program} {l : Nat} {args : Array Value} {W : World} {R R' : Ending → World → Prop} (h : YieldAt F m P l args W R) (hi : ∀ e w, R e w → R' e w) : YieldAt F m P l args W R' := by
  obtain ⟨fn, tmps, assign, body, h1, h2⟩ := h
  exact ⟨fn, tmps, assign, body, h1, h2.mono hi⟩

set_option maxHeartbeats 1000000 in
theorem appendSeq_any {b p n k B f t : Nat} {s : ByteArray} {w : World} (hf : 1 ≤ f) (ht : t ≤ s.size) (hk : k ≤ 16) (hp : Pol.fine p) (hsz : s.size ≤ 8796093022208) (hB : b < B) (hown : MkAny b p n k s f t B w) :
    Calls Try.prog 33 #[.slice none 0 0, mkF B] w fun e w' => ∃ v, e = .returned v ∧ IOwn w.heap.size v (Chu.mks (Chu.mark p n k s.data.toList) f (t + 1)) w' ∧ Turns (fun j => j = b) w w' := by
  obtain ⟨i0, hi, hz0, hz1, hz2⟩ := info_parts int_info
  refine (callsIn_wide (n := 5)).1 ?_
  refine callsIn_of_wp_marks Try.func33 rfl trivial ?_ rfl
  simp only [Try.ntmps33, List.size_toArray, List.length_cons, List.length_nil, Nat.reduceAdd, Nat.reduceSub, Array.replicate_succ, Array.replicate_zero, List.push_toArray, List.append_toArray, List.nil_append, List.cons_append]
  have hBX : B + 3 < w.heap.size := row_lt hown.2.hi
  have hb1 : Below w.heap.size w (w.alloc (.cells #[.slice none 0 0] 28)) := (Below.refl _ w).alloc (Nat.le_refl _) _
  have hx1 : (w.alloc (.cells #[.slice none 0 0] 28)).heap[w.heap.size]? = some (.cells #[.slice none 0 0] 28 (0, 0)) := heap_alloc_new _ _
  have hs1 : (w.alloc (.cells #[.slice none 0 0] 28)).heap.size = w.heap.size + 1 := by simp
  have hown1 := hown.new hb1
  have hcl1 : ClI b w.heap.size (Chu.mark p n k s.data.toList) f w f (w.alloc (.cells #[.slice none 0 0] 28)) :=
    ⟨.slice none 0 0, hx1, by rw [Chu.mks_zero]; exact World.ownsRow_nil _ _ 3 1, Turns.of_new hb1 _⟩
  unfold mkF
  have Hown1 := Lib.hid hown1; clear hown1 hown hx1 hb1
  have Hcl1 := Lib.hid hcl1; clear hcl1
  have Hs1 := Lib.hid hs1; clear hs1
  have hend : Chu.mks (Chu.mark p n k s.data.toList) f (max f (t + 1)) = Chu.mks (Chu.mark p n k s.data.toList) f (t + 1) := by
    unfold Chu.mks
    rw [show max f (t + 1) - f = t + 1 - f by omega]
  obtain ⟨mk, hmk⟩ : ∃ mk, mk = Chu.mark p n k s.data.toList := ⟨_, rfl⟩
  rw [← hmk] at hend ⊢
  have Hend := Lib.hid hend; clear hend
  have hin := fun (C CS : Nat → World → Prop) (W1 : World) hC hskip => mkIter_any (b := b) (p := p) (n := n) (k := k) (B := B) (f := f) (t := t) (s := s) hf ht hk hp (by omega) hB (C := C) (CS := CS) (W1 := W1) hC hskip
  rw [← hmk] at hin Hcl1
  have Hin := Lib.hid hin; clear hin
  have Hmk := Lib.hid hmk; clear hmk
  gi_wp2_with fail
  refine rangeFunc_through rfl (by decide) (gf := 34) (lb := #[.pointer (some ⟨B + 2, 0, none⟩), .pointer (some ⟨B + 3, 0, none⟩), .pointer (some ⟨B, 0, none⟩), .pointer (some ⟨B + 1, 0, none⟩)]) rfl trivial (enters_of Try.func34 (by kernel_rfl) rfl)
    (α := Nat) (fun i => #[.int .i64 (i : Int)]) (fun _ => rfl)
    (fun W => MkAny b p n k s f t B W ∧ ClI b w.heap.size mk f w f W)
    (fun W => MkAny b p n k s f t B W ∧ ClI b w.heap.size mk f w (max f (t + 1)) W)
    (fun i W => (f ≤ i ∧ i ≤ t ∧ mk i = true) ∧ MkOwn b p n k s f t B i W ∧ ClI b w.heap.size mk f w i W)
    (fun i W => MkOwn b p n k s f t B i W ∧ ClI b w.heap.size mk f w (i + 1) W)
    (fun i a₁ W => (f ≤ i ∧ i ≤ t ∧ mk i = true) ∧ (MkOwn b p n k s f t B i W ∧ ClI b w.heap.size mk f w i W) ∧
      a₁ = { tmps := #[.slice none 0 0, mkF B, .pointer (some ⟨w.heap.size, 0, none⟩), undef, .slice none 0 0, .int .i64 (i : Int), mkF B, .int .i64 (i : Int), undef, undef, undef, undef, undef], defers := [] })
    ?sEnd ?sOut ?sMid ?h0 ?hiter ?hassign ?hbody ?hdone
  case sEnd => exact fun W l o o' hl ho hc ⟨⟨⟨G, h1⟩, h2⟩, h3⟩ => ⟨⟨⟨G, RolG.stays W l o o' hl ho hc h1⟩, MkBox.stays W l o o' hl ho hc h2⟩, ClI.stays (by have := Hs1.out; omega) W l o o' hl ho hc h3⟩
  case sOut => exact fun i W l o o' hl ho hc ⟨⟨h1, h2⟩, h3⟩ => ⟨⟨RolG.stays W l o o' hl ho hc h1, MkBox.stays W l o o' hl ho hc h2⟩, ClI.stays (by have := Hs1.out; omega) W l o o' hl ho hc h3⟩
  case sMid => exact fun i a₁ W l o o' hl ho hc ⟨h0, ⟨⟨h1, h2⟩, h3⟩, h4⟩ => ⟨h0, ⟨⟨RolG.stays W l o o' hl ho hc h1, MkBox.stays W l o o' hl ho hc h2⟩, ClI.stays (by have := Hs1.out; omega) W l o o' hl ho hc h3⟩, h4⟩
  case h0 =>
    intro o o'
    have hbb : Below (w.alloc (.cells #[.slice none 0 0] 28)).heap.size (w.alloc (.cells #[.slice none 0 0] 28)) (((w.alloc (.cells #[.slice none 0 0] 28)).alloc o).alloc o') := ((Below.refl _ _).alloc (Nat.le_refl _) _).alloc (by simp) _
    exact ⟨Hown1.out.new hbb, Hcl1.out.new hbb⟩
  case hiter =>
    intro ly Book W1 hBk hly hbk hj0 hY
    refine (Hin.out (ClI b w.heap.size mk f w) (fun _ _ => False) W1 (fun i W W' h ht => h.turn (by omega) ht) (fun i W h1 h2 hm h => h.skip h1 hm) hj0.1 hj0.2 ly Book (fun _ => False) hBk hbk ?_).mono ?_
    · intro i W h1 h2 hm hb ho hc
      exact yield_imp (hY i W hb ⟨⟨h1, h2, by rw [Hmk.out] at hm ⊢; exact hm⟩, ho, hc⟩) (fun e w ⟨a, b, c⟩ => .inl ⟨a, b, c.1, c.2⟩)
    · rintro e W' ⟨hv, h⟩
      rcases h with ⟨h1, h2, h3⟩ | ⟨i, _, _, h, _⟩
      · exact ⟨hv, h1, h2, h3⟩
      · exact h.elim
  case hassign =>
    intro ly i W K hly hin hK
    have Hi := Lib.hid hin; clear hin
    have HK := Lib.hid hK; clear hK
    gi_wp2_with fail
    exact HK.out _ _ (KeepsOthers.refl _) ⟨Hi.out.1, Hi.out.2, rfl⟩
  case hbody =>
    rintro ly i a₁ W hly ⟨⟨h1, h2, hm⟩, ⟨ho, v, hx, hv, hT⟩, rfl⟩
    have c0 := cell_of_one hx
    have f0 := row_free hx 0
    have hl := Chu.mks_length mk f i
    have hst : Chu.mks mk f (i + 1) = Chu.mks mk f i ++ [i] := by rw [Chu.mks_step mk f i h1, if_pos hm]
    have hXW := row_lt hx
    have Ho := Lib.hid ho; clear ho
    have HT := Lib.hid hT; clear hT
    have Hx := Lib.hid hx; clear hx
    have Hst := Lib.hid hst; clear hst
    have hvX : v.ownBlock ≠ some w.heap.size := fun e => by
      obtain ⟨cur, hcur⟩ := ownsRow_block hv e
      rw [Hx.out] at hcur
      simp only [Option.some.injEq, Obj.cells.injEq] at hcur
      exact absurd hcur.2.1 (by decide)
    have hvb : ∀ g, v.ownBlock = some g → w.heap.size ≤ g := fun g e => (World.ownsRow.lt hv g e).1
    have Hv := Lib.hid hv; clear hv
    have HvX := Lib.hid hvX; clear hvX
    have Hvb := Lib.hid hvb; clear hvb
    unfold mkF
    gi_wp2_with (gi_at_builtin; go_loud (refine wpListIn_append_own_at _ rfl _ _ 28 rfl w.heap.size 3 i0 (.int .i64 0) 1 8 Try.underlying28 hi hz0 hz1 hz2 rfl (by decide) _ _ _ rfl (World.ownsRow.alloc Hv.out _) ⟨W.heap.size, 0, none⟩ 1 1 [.int .i64 (i : Int)] rfl rfl (cell_new_row W [.int .i64 (i : Int)] 3) ?c2 ?c3 ?c4 ?c5 ?_))
    case c2 => intro z hz; simp at hz; subst hz; rfl
    case c3 => unfold maxLen; omega
    case c4 => omega
    case c5 => simp; omega
    intro v' w5 hown5 hgrow _ hvb2
    have hbY : Below W.heap.size W (W.alloc (.cells #[.int .i64 (i : Int)] 3)) := box_below W _
    have hvl : ∀ j, v.ownBlock = some j → w.heap.size ≤ j := Hvb.out
    have hT5 : Turns (fun j => j = b) w w5 := (HT.out.trans (Turns.of_new hbY (fun j => j = b)) (fun j _ e => e)).trans (Turns.of_grown hgrow) (fun j hj e => by have := hvl j e; omega)
    have hkp : ∀ j o, W.heap[j]? = some o → v.ownBlock ≠ some j → w5.heap[j]? = some o := fun j o ho hne => by
      rw [hgrow.block j (by have := row_lt ho; have := hbY.size; omega) (fun e => hne e.symm), hbY.block j (row_lt ho)]; exact ho
    have hx5 := hkp _ _ Hx.out HvX.out
    have hlow : ∀ j, j < w.heap.size → v.ownBlock ≠ some j := fun j hj e => by have := hvl j e; omega
    have hi5 : IOwn w.heap.size v' (Chu.mks mk f (i + 1)) w5 := by
      unfold IOwn ints
      rw [Hst.out, List.length_append, List.map_append]
      exact hown5
    have hk5 : KeepsOthers W w5 := ⟨by have := hgrow.size; have := hbY.size; omega, fun j o ho hc => hkp j o ho (fun e => by
      obtain ⟨cur, hcur⟩ := ownsRow_block Hv.out e
      rw [ho] at hcur; cases hcur
      simp [Obj.isCells] at hc)⟩
    have ho5 : MkOwn b p n k s f t B i w5 := by
      obtain ⟨⟨r, hr, hr2⟩, hbx⟩ := Ho.out
      have hbl : b < w.heap.size := by omega
      exact ⟨⟨r, hkp _ _ hr (hlow _ (by omega)), hr2⟩, hkp _ _ hbx.fi (hlow _ (by omega)), hkp _ _ hbx.st (hlow _ (by omega)), hkp _ _ hbx.lo (hlow _ (by omega)), hkp _ _ hbx.hi (hlow _ (by omega))⟩
    have c5 := cell_of_one hx5
    have f5 := row_free hx5 0
    have hX6 : (w5.setCell ⟨w.heap.size, 0, none⟩ v').heap[w.heap.size]? = some (.cells #[v'] 28 (0, 0)) := by rw [heap_setCell_same _ _ 0 _ _ _ hx5]; rfl
    have hi6 : IOwn w.heap.size v' (Chu.mks mk f (i + 1)) (w5.setCell ⟨w.heap.size, 0, none⟩ v') := hi5.same fun g hg _ ⟨cs, hcs⟩ => heap_setCell_other _ _ _ _ (fun e => by
      simp only at e
      subst e
      rw [hx5] at hcs
      simp only [Option.some.injEq, Obj.cells.injEq] at hcs
      exact absurd hcs.2.1 (by decide))
    have hT6 : Turns (fun j => j = b) w (w5.setCell ⟨w.heap.size, 0, none⟩ v') := hT5.set _ _ _ (fun h => absurd h (Nat.lt_irrefl _))
    have hk6 : KeepsOthers W (w5.setCell ⟨w.heap.size, 0, none⟩ v') := hk5.trans (KeepsOthers.setCell _ _ _)
    have ho6 : MkOwn b p n k s f t B i (w5.setCell ⟨w.heap.size, 0, none⟩ v') := by
      have ht : Turns (fun j => j = w.heap.size) w5 (w5.setCell ⟨w.heap.size, 0, none⟩ v') := (Turns.refl (fun j => j = w.heap.size) w5).set _ _ _ (fun _ => rfl)
      exact ⟨ho5.1.keeps ht (by omega), ho5.2.keeps ht (fun j h1 h2 => by omega)⟩
    obtain ⟨a5, cap5, e5⟩ := hi5.form
    obtain ⟨n5, hn5⟩ : ∃ n5, n5 = (Chu.mks mk f (i + 1)).length := ⟨_, rfl⟩
    rw [← hn5] at e5
    subst e5
    clear hn5
    have HX6 := Lib.hid hX6; clear hX6
    have HI6 := Lib.hid hi6; clear hi6
    have HT6 := Lib.hid hT6; clear hT6
    have HK6 := Lib.hid hk6; clear hk6
    have HO6 := Lib.hid ho6; clear ho6
    clear hown5 hgrow hvb2 hbY hvl hT5 hkp hx5 hlow hi5 hk5 ho5
    gi_wp2_with fail
    exact ⟨HK6.out, HO6.out, _, HX6.out, HI6.out, HT6.out⟩
  case hdone =>
    rintro D W hD ⟨ha, v, hx, hv, hT⟩ hK2
    rw [Hend.out] at hv
    have c0 := cell_of_one hx
    have HK2 := Lib.hid hK2; clear hK2
    have HV := Lib.hid hv; clear hv
    have HT := Lib.hid hT; clear hT
    clear hx ha
    gi_wp2_with fail
    refine ⟨by simp, .inl ⟨_, _, rfl, run_takeDeferred HK2.out, ?_⟩⟩
    have h7 := HT.out
    have hDl := row_lt HK2.out
    have hs7 := Hs1.out
    refine ⟨_, results_tmp rfl _ _ _, v, rfl, HV.out.same fun g _ _ ⟨cs, hcs⟩ => World.putObj_heap_other (fun e => by subst e; rw [HK2.out] at hcs; cases hcs), h7.os, h7.tape, h7.output, by rw [World.putObj_size]; exact h7.size, fun k hk hn => (World.putObj_heap_other (by omega)).trans (h7.block k hk hn)⟩

theorem collect_any {b p n k B f t : Nat} {s : ByteArray} {w : World} (hf : 1 ≤ f) (ht : t ≤ s.size) (hk : k ≤ 16) (hp : Pol.fine p) (hsz : s.size ≤ 8796093022208) (hB : b < B) (hown : MkAny b p n k s f t B w) :
    Calls Try.prog 24 #[mkF B] w fun e w' => ∃ v, e = .returned v ∧ IOwn w.heap.size v (Chu.mks (Chu.mark p n k s.data.toList) f (t + 1)) w' ∧ Turns (fun j => j = b) w w' := by
  have hc := appendSeq_any hf ht hk hp hsz hB hown
  unfold mkF at *
  have Hc := Lib.hid hc; clear hc
  go_enter Try.func24, Try.ntmps24
  go_wp2_with fail
  refine Hc.out.mono ?_; rintro e w1 ⟨v, rfl, hv, ht⟩
  have Hv := Lib.hid hv; clear hv
  have Ht := Lib.hid ht; clear ht
  go_wp2_with fail
  go_ret
  exact ⟨v, rfl, Hv.out, Ht.out⟩
end Go.Proofs.Ytofiimkpbbiegaa
