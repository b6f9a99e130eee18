/-
  wal's copied: texts, and rows of texts; Groups.
-/
import Derived.Test.YtjmpagbjkehebaaWalGroups
import Derived.Test.YtjmpagbjkehebaaOctAll
import Derived.Laws.OwnMore
import Derived.Deep.LoopGhost
set_option linter.unusedVariables false
set_option maxRecDepth 100000
namespace Go.Proofs.Ytjmpagbjkehebaa
open Go.RowKit

/-- a row of n cells whose first ones are these, the others z -/
def grow (acc : List Value) (z : Value) (n : Nat) : Array Value := (acc ++ List.replicate (n - acc.length) z).toArray
theorem grow_size (acc : List Value) (z : Value) (n : Nat) (h : acc.length ≤ n) : (grow acc z n).size = n := by simp [grow]; omega
theorem grow_set (acc : List Value) (z v : Value) (n : Nat) (h : acc.length < n) : (grow acc z n).setIfInBounds acc.length v = grow (acc ++ [v]) z n := by
  simp only [grow, List.setIfInBounds_toArray]
  congr 1
  rw [List.set_append_right _ _ (Nat.le_refl _), Nat.sub_self, show n - acc.length = (n - (acc ++ [v]).length) + 1 by simp; omega, List.replicate_succ, List.set_cons_zero]
  simp
theorem grow_get (acc : List Value) (z : Value) (n : Nat) (h : acc.length < n) : (grow acc z n)[acc.length]? = some z := by
  simp only [grow, List.getElem?_toArray]
  rw [List.getElem?_append_right (Nat.le_refl _), Nat.sub_self, List.getElem?_replicate, if_pos (by omega)]
theorem grow_step {w : World} {g n : Nat} {acc : List Value} {z v : Value} {T : TypeId} (h : w.heap[g]? = some (.cells (grow acc z n) T (0, 0))) (k : Nat) (hk : acc.length = k) (hn : k < n) :
    w.cell? ⟨g, k, none⟩ = some z ∧ w.frozen? ⟨g, k, none⟩ = false ∧ (w.setCell ⟨g, k, none⟩ v).heap[g]? = some (.cells (grow (acc ++ [v]) z n) T (0, 0)) := by
  subst hk
  exact ⟨by rw [cell_of_row _ _ _ _ _ _ h]; exact grow_get acc z n hn, row_free h _, by rw [heap_setCell_same w g _ _ _ _ h, grow_set _ _ _ _ hn]⟩
theorem grow_full (acc : List Value) (z : Value) (n : Nat) (h : acc.length = n) : grow acc z n = acc.toArray := by simp [grow, h]
theorem made_grow (z : Value) (hz : z.cells = #[z]) (n : Nat) : madeCells z.cells n = grow [] z n := by
  apply Array.ext
  · simp [madeCells, grow]
  · intro i h1 h2
    simp [madeCells, hz, grow, Nat.mod_one]

theorem make_strs (m : Nat) (hm : m ≤ 8796093022208) (u : World) : (Instr.makeSlice 34 (.int .i64 (m : Int)) (.int .i64 (m : Int))).run Try.prog u = .ok (.slice (some ⟨u.heap.size, 0, none⟩) m m) (u.alloc (.cells (grow [] (.string .empty) m) 9)) := by
  obtain ⟨i, hi, h0, h1, h2⟩ := info_parts infoStr
  have := run_make (P := Try.prog) u 34 9 i (.string ⟨#[]⟩) Try.underlying34 hi h0 .i64 .i64 (m : Int) (m : Int) (by omega) (by omega) (by rw [h2]; omega) (by omega)
  rw [this, h1, Int.toNat_natCast, Nat.mul_one, made_grow _ rfl]
  rfl
theorem make_grps (m : Nat) (hm : m ≤ 5864062014805) (u : World) : (Instr.makeSlice 32 (.int .i64 (m : Int)) (.int .i64 (m : Int))).run Try.prog u = .ok (.slice (some ⟨u.heap.size, 0, none⟩) m m) (u.alloc (.cells (grow [] (.slice none 0 0) m) 34)) := by
  obtain ⟨i, hi, h0, h1, h2⟩ := info_parts grp_info
  have := run_make (P := Try.prog) u 32 34 i (.slice none 0 0) Try.underlying32 hi h0 .i64 .i64 (m : Int) (m : Int) (by omega) (by omega) (by rw [h2]; omega) (by omega)
  rw [this, h1, Int.toNat_natCast, Nat.mul_one, made_grow _ rfl]

/-- a row just made of texts is one of the call's own -/
theorem own_grow {w : World} {g n : Nat} {l : List ByteArray} (h : w.heap[g]? = some (.cells (grow (l.map Value.string) (.string .empty) n) 9 (0, 0))) (hl : l.length = n) (hn : n ≤ maxLen) {B : Nat} (hB : B ≤ g) : Own B (.slice (some ⟨g, 0, none⟩) n n) l w := by
  rw [grow_full _ _ _ (by simpa using hl)] at h
  subst hl
  exact ⟨by simp, .inr ⟨g, l.length, _, rfl, hB, h, Nat.le_refl _, hn, by simp, by rw [List.take_of_length_le (by simp)]⟩⟩

set_option maxHeartbeats 800000 in
theorem copiedStrs_any (a : Option Addr) (len cap : Nat) (l : List ByteArray) (w : World) (hs : Strs a len l w) (hm : len ≤ 8796093022208) (hz : ∀ j, (l.getD j .empty).size ≤ 281474976710656) :
    Calls Try.prog 39 #[.slice a len cap, .func (.func 40) #[] #[]] w fun e w' => Below w.heap.size w w' ∧ ∃ v, e = .returned v ∧ Own w.heap.size v l w' := by
  have hmk := fun u => make_strs len hm u
  have Hmk := Lib.hid hmk; clear hmk
  have Hs := Lib.hid hs; clear hs
  have Hz := Lib.hid hz; clear hz
  go_enter Try.func39, Try.ntmps39
  go_wp2
  rw [Hmk.out]
  simp only [Result.andThen]
  rw [Oper.upon_value]
  go_wp2
  go_loopw [13] (fun i wr => ∃ k : Nat, k ≤ len ∧ i = .int .i64 (k : Int) ∧ wr.heap[w.heap.size]? = some (.cells (grow ((l.take k).map Value.string) (.string .empty) len) 9 (0, 0)) ∧ Below w.heap.size w wr) (fun i _ => len - (intOf i).toNat)
  case atStart => exact ⟨0, by omega, rfl, heap_alloc_new w _, (Below.refl _ w).alloc (Nat.le_refl _) _⟩
  case round =>
    obtain ⟨k, hk, rfl, hrow, hbel⟩ := hrel
    by_cases hlt : k < len
    · have hl := Hs.out.1
      obtain ⟨b, off, rfl, hc⟩ := Hs.out.2 k hlt
      have hcb := cell_lt hc
      have hc2 : wr.cell? ⟨b, off + k, none⟩ = some (.string (l.getD k .empty)) := by rw [hbel.cell (p := ⟨b, off + k, none⟩) hcb]; exact hc
      have hzk := Hz.out k
      have htk : l.take (k + 1) = l.take k ++ [l.getD k .empty] := by
        rw [List.take_add_one, List.getElem?_eq_getElem (by omega)]; simp [List.getD_eq_getElem?_getD, show k < l.length by omega]
      have hacc : ((l.take k).map Value.string).length = k := by simp; omega
      have hgs := grow_size ((l.take k).map Value.string) (.string .empty) len (by omega)
      have hlt2 : (k : Int) < (len : Int) := by omega
      generalize hx : l.getD k .empty = x at *
      have hcl := fun u => clone_any x u hzk
      have Hcl := Lib.hid hcl; clear hcl
      have Hrow := Lib.hid hrow; clear hrow
      have Hbel := Lib.hid hbel; clear hbel
      have Htk := Lib.hid htk; clear htk
      have Hacc := Lib.hid hacc; clear hacc
      have Hl := Lib.hid hl; clear hl
      clear hc hx
      go_wp2_with fail
      refine (Hcl.out _).mono ?_; rintro e w2 ⟨rfl, h2⟩
      have hrow2 : w2.heap[w.heap.size]? = some (.cells (grow ((l.take k).map Value.string) (.string .empty) len) 9 (0, 0)) := by rw [h2.block _ (row_lt Hrow.out)]; exact Hrow.out
      obtain ⟨c0, f0, hr3⟩ := grow_step (v := .string x) hrow2 k Hacc.out hlt
      have Hr3 := Lib.hid hr3; clear hr3
      have hb3 := (Hbel.out.trans (h2.mono Hbel.out.size)).setCell (p := ⟨w.heap.size, k, none⟩) (Nat.le_refl _) (.string x)
      have Hb3 := Lib.hid hb3; clear hb3
      clear hrow2 h2
      go_wp2_with fail
      go_roundw
      case rel => exact ⟨k + 1, by omega, by go_num, by rw [Htk.out, List.map_append]; exact Hr3.out, Hb3.out⟩
      case measure => simp [intOf]; omega
    · obtain rfl : k = len := by omega
      have hl := Hs.out.1
      have hrow' := hrow
      rw [List.take_of_length_le (by omega)] at hrow'
      have Hown := Lib.hid (own_grow hrow' hl (by unfold maxLen; omega) (Nat.le_refl _))
      have Hbel := Lib.hid hbel; clear hbel
      clear hrow' hrow hl
      go_wp2_with fail
      go_ret
      exact ⟨Hbel.out, _, rfl, Hown.out⟩

/-- a group of which copies can be made -/
def Slim (l : Wal.Grp) : Prop := l.length ≤ 65535 ∧ ∀ b ∈ l, b.length ≤ 65535
theorem Slim.get {l : Wal.Grp} (h : Slim l) (j : Nat) : ((bas l).getD j .empty).size ≤ 65535 := by
  rw [List.getD_eq_getElem?_getD]
  by_cases hj : j < l.length
  · rw [bas, List.getElem?_map, List.getElem?_eq_getElem hj]
    simp only [Option.map_some, Option.getD_some]
    have := h.2 _ (List.getElem_mem hj)
    show (ba l[j]).size ≤ _
    rw [ba_size]; exact this
  · rw [List.getElem?_eq_none (by rw [bas_length]; omega)]
    show ByteArray.empty.size ≤ _
    decide

theorem groups1_any (a : Option Addr) (len cap : Nat) (l : List ByteArray) (w : World) (hs : Strs a len l w) (hm : len ≤ 8796093022208) (hz : ∀ j, (l.getD j .empty).size ≤ 281474976710656) :
    Calls Try.prog 46 #[.slice a len cap] w fun e w' => Below w.heap.size w w' ∧ ∃ v, e = .returned v ∧ Own w.heap.size v l w' := by
  have hc := copiedStrs_any a len cap l w hs hm hz
  have Hc := Lib.hid hc; clear hc
  go_enter Try.func46, Try.ntmps46
  go_wp2_with fail
  refine Hc.out.mono ?_; rintro e w1 ⟨h1, v, rfl, ho⟩
  have Ho := Lib.hid ho; clear ho
  go_wp2_with fail
  go_ret
  exact ⟨h1, _, rfl, Ho.out⟩

set_option maxHeartbeats 1000000 in
theorem copiedGrps_any {R : Nat → Prop} (v : Value) (L : List Wal.Grp) (w : World) (hs : GRows R v L w) (hm : L.length ≤ 1048576) (hz : ∀ l ∈ L, Slim l) :
    Calls Try.prog 45 #[v, .func (.func 46) #[] #[]] w fun e w' => Below w.heap.size w w' ∧ ∃ v', e = .returned v' ∧ GRows (fun k => w.heap.size ≤ k ∧ k < w'.heap.size) v' L w' := by
  obtain ⟨a, cap, rfl, hcl, hcm, hform⟩ := hs.form
  obtain ⟨len, hlen⟩ : ∃ len, len = L.length := ⟨_, rfl⟩
  rw [← hlen] at hcl ⊢ hm
  have hmk := fun u => make_grps len (by omega) u
  have Hmk := Lib.hid hmk; clear hmk
  have Hform := Lib.hid hform; clear hform
  have Hz := Lib.hid hz; clear hz
  have Hlen := Lib.hid hlen; clear hlen
  clear hs hcl hcm
  go_enter Try.func45, Try.ntmps45
  go_wp2
  rw [Hmk.out]
  simp only [Result.andThen]
  rw [Oper.upon_value]
  go_wp2
  go_loopw [13] (fun i wr => ∃ (k : Nat) (us : List Value), k ≤ len ∧ i = .int .i64 (k : Int) ∧ us.length = k ∧ wr.heap[w.heap.size]? = some (.cells (grow us (.slice none 0 0) len) 34 (0, 0)) ∧ Below w.heap.size w wr ∧ Grps (fun j => w.heap.size ≤ j ∧ j < wr.heap.size) us (L.take k) wr) (fun i _ => len - (intOf i).toNat)
  case atStart => exact ⟨0, [], by omega, rfl, rfl, heap_alloc_new w _, (Below.refl _ w).alloc (Nat.le_refl _) _, Grps.nil _ _⟩
  case round =>
    obtain ⟨k, us, hk, rfl, hul, hrow, hbel, hg⟩ := hrel
    by_cases hlt : k < len
    · have hLk : L[k]? = some L[k] := List.getElem?_eq_getElem (by rw [← Hlen.out]; exact hlt)
      have hsl := Hz.out _ (List.mem_of_getElem? hLk)
      have htk : L.take (k + 1) = L.take k ++ [L[k]] := by rw [List.take_add_one, hLk]; rfl
      obtain ⟨b, u, rfl, hc, hu⟩ := Hform.out k _ hLk
      generalize L[k] = l at *
      have hcb := cell_lt hc
      have hc2 : wr.cell? ⟨b, k, none⟩ = some u := by rw [hbel.cell (p := ⟨b, k, none⟩) hcb]; exact hc
      obtain ⟨a8, cap8, rfl, hst, h81, h82⟩ := hu.strs
      have hst2 : Strs a8 l.length (bas l) wr := by
        refine ⟨hst.1, fun j hj => ?_⟩
        obtain ⟨b', off, e1, e2⟩ := hst.2 j hj
        exact ⟨b', off, e1, by rw [hbel.cell (p := ⟨b', off + j, none⟩) (cell_lt e2)]; exact e2⟩
      have hcl := groups1_any a8 l.length cap8 (bas l) wr hst2 (by have := hsl.1; omega) (fun j => by have := hsl.get j; omega)
      have hlt2 : (k : Int) < (len : Int) := by omega
      have Hcl := Lib.hid hcl; clear hcl
      have Hrow := Lib.hid hrow; clear hrow
      have Hbel := Lib.hid hbel; clear hbel
      have Htk := Lib.hid htk; clear htk
      have Hul := Lib.hid hul; clear hul
      have Hg := Lib.hid hg; clear hg
      clear hc hst hst2 hu h81 h82 hsl hLk
      go_wp2_with fail
      refine Hcl.out.mono ?_; rintro e w2 ⟨h2, u9, rfl, ho⟩
      obtain ⟨a9, cap9, hv9, _⟩ := ho.strs
      have hv9' := hv9
      subst hv9
      have hrow2 : w2.heap[w.heap.size]? = some (.cells (grow us (.slice none 0 0) len) 34 (0, 0)) := by rw [h2.block _ (row_lt Hrow.out)]; exact Hrow.out
      obtain ⟨c0, f0, hr3⟩ := grow_step (v := .slice a9 (bas l).length cap9) hrow2 k Hul.out hlt
      have Hr3 := Lib.hid hr3; clear hr3
      have hb3 := (Hbel.out.trans (h2.mono Hbel.out.size)).setCell (p := ⟨w.heap.size, k, none⟩) (Nat.le_refl _) (.slice a9 (bas l).length cap9)
      have Hb3 := Lib.hid hb3; clear hb3
      have hg3 : Grps (fun j => w.heap.size ≤ j ∧ j < (w2.setCell ⟨w.heap.size, k, none⟩ (.slice a9 (bas l).length cap9)).heap.size) (us ++ [.slice a9 (bas l).length cap9]) (L.take k ++ [l]) (w2.setCell ⟨w.heap.size, k, none⟩ (.slice a9 (bas l).length cap9)) := by
        have hsz : (w2.setCell ⟨w.heap.size, k, none⟩ (.slice a9 (bas l).length cap9)).heap.size = w2.heap.size := by simp [World.setCell]
        have ht : Turns (fun j => j = w.heap.size) w2 (w2.setCell ⟨w.heap.size, k, none⟩ (.slice a9 (bas l).length cap9)) := (Turns.refl _ w2).set _ _ _ (fun _ => rfl)
        have hs2 := h2.size
        have hs3 := Hbel.out.size
        have key : ∀ (x : Value) (y : Wal.Grp) (B : Nat), w2.ownsRow B 9 1 x (bas y).length ((bas y).map Value.string) → ∀ j, x.ownBlock = some j → j ≠ w.heap.size := fun x y B hx j hj e => by
          obtain ⟨cur, hcur⟩ := ownsRow_block hx hj
          rw [e, hrow2] at hcur
          simp only [Option.some.injEq, Obj.cells.injEq] at hcur
          exact absurd hcur.2.1 (by decide)
        refine Grps.snoc ⟨Hg.out.1, fun i x hx => ?_⟩ ?_
        · obtain ⟨y, hy, ho1, hk1⟩ := Hg.out.2 i x hx
          have ho2 : w2.ownsRow 0 9 1 y (bas x).length ((bas x).map Value.string) := ownsRow_same ho1 fun g hg => h2.block g (ho1.lt g hg).2
          exact ⟨y, hy, ownsRow_same ho2 fun g hg => ht.block g (ho2.lt g hg).2 (key _ _ _ ho2 g hg), fun j hj => by have := hk1 j hj; rw [hsz]; omega⟩
        · refine ⟨World.ownsRow.mono (ownsRow_same ho fun g hg => ht.block g (World.ownsRow.lt ho g hg).2 (key _ _ _ ho g hg)) (Nat.zero_le _), fun j hj => ?_⟩
          have := World.ownsRow.lt ho j hj
          rw [hsz]; omega
      have Hg3 := Lib.hid hg3; clear hg3
      clear hrow2 h2 ho hv9'
      go_wp2_with fail
      go_roundw
      case rel => exact ⟨k + 1, us ++ [.slice a9 (bas l).length cap9], by omega, by go_num, by rw [List.length_append, Hul.out]; rfl, Hr3.out, Hb3.out, by rw [Htk.out]; exact Hg3.out⟩
      case measure => simp [intOf]; omega
    · obtain rfl : k = len := by omega
      have hlen := Hlen.out
      rw [List.take_of_length_le (by omega)] at hg
      rw [grow_full _ _ _ hul] at hrow
      have hres : GRows (fun j => w.heap.size ≤ j ∧ j < wr.heap.size) (.slice (some ⟨w.heap.size, 0, none⟩) k k) L wr :=
        ⟨fun j hj => hj.2, us, ⟨by rw [hul, hlen, Nat.mul_one], .inr ⟨w.heap.size, k, _, by rw [hlen], Nat.zero_le _, hrow, by omega, by unfold maxLen; omega, by simp [hul], by rw [List.take_of_length_le (by simp [hul, hlen])]⟩⟩, fun j hj => by
          simp only [Value.ownBlock, Option.some.injEq] at hj
          subst hj
          exact ⟨Nat.le_refl _, row_lt hrow⟩, hg⟩
      have Hres := Lib.hid hres; clear hres
      have Hbel := Lib.hid hbel; clear hbel
      clear hrow hg hlen
      go_wp2_with fail
      go_ret
      exact ⟨Hbel.out, _, rfl, Hres.out⟩

theorem groups_nil (w : World) : Calls Try.prog 13 #[.pointer none] w fun e w' => e = .returned (.slice none 0 0) ∧ w = w' := by
  go_enter Try.func13, Try.ntmps13
  go_wp2
  go_ret
  exact ⟨rfl, rfl⟩
theorem groups_any {R : Nat → Prop} {p q : Nat} {s : Wal.St} {w : World} (h : WalAt R p q s w) (hm : s.L.length ≤ 1048576) (hz : ∀ l ∈ s.L, Slim l) :
    Calls Try.prog 13 #[.pointer (some ⟨p, 0, none⟩)] w fun e w' => Below w.heap.size w w' ∧ ∃ v', e = .returned v' ∧ GRows (fun k => w.heap.size ≤ k ∧ k < w'.heap.size) v' s.L w' := by
  obtain ⟨v, h⟩ := h
  have c5 := h.c5
  have hc := copiedGrps_any v s.L w h.rows hm hz
  obtain ⟨a, cap, rfl, _⟩ := h.rows.form
  have Hc := Lib.hid hc; clear hc
  clear h hz
  go_enter Try.func13, Try.ntmps13
  go_wp2_with fail
  refine Hc.out.mono ?_; rintro e w1 ⟨h1, v, rfl, ho⟩
  have Ho := Lib.hid ho; clear ho
  go_wp2_with fail
  go_ret
  exact ⟨h1, _, rfl, Ho.out⟩
end Go.Proofs.Ytjmpagbjkehebaa
