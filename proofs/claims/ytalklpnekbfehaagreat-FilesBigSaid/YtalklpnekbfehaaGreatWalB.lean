/- Put together of: WalSmall WalCopy WalOpn WalOpn4 WalOpen WalOpen2 WalApn WalAps WalRow WalAp5 WalReset WalAppend WalAppend2 WalAppend3 WalSafe WalSame WalAlive -/
import Derived.Test.YtalklpnekbfehaaGreatWalA
import Derived.Test.YtalklpnekbfehaaGreatOctAll
import Derived.Deep.QuietTactic
import Derived.BigQuiet
import Derived.Test.YtalklpnekbfehaaGreatWalGroups
import Derived.Laws.OwnMore
import Derived.Deep.LoopGhost
import Derived.Test.YtalklpnekbfehaaGreatGoAll
import Derived.Deep.DeepCutAuto
import Derived.Test.YtalklpnekbfehaaGreatDskFill
set_option maxRecDepth 100000
/-
  wal's short ones: has, Gen, Room, Fault, Need; of nil.
-/
set_option linter.unusedVariables false
set_option maxRecDepth 100000
namespace Go.Proofs.YtalklpnekbfehaaGreat
open Go.RowKit

theorem gen_nil (w : World) : Calls Tryz.prog 80 #[.pointer none] w fun e w' => e = .returned (.int .u64 0) ∧ w = w' := by
  go_enter Tryz.func80, Tryz.ntmps80
  go_wp2
  go_ret
  exact ⟨rfl, rfl⟩
theorem room_nil (w : World) : Calls Tryz.prog 87 #[.pointer none] w fun e w' => e = .returned (.int .i64 0) ∧ w = w' := by
  go_enter Tryz.func87, Tryz.ntmps87
  go_wp2
  go_ret
  exact ⟨rfl, rfl⟩
section
variable {R : Nat → Prop} {p q : Nat} {s : Wal.St} {w : World}
theorem gen_any (h : WalAt R p q s w) : Calls Tryz.prog 80 #[.pointer (some ⟨p, 0, none⟩)] w fun e w' => e = .returned (.int .u64 (s.gen : Int)) ∧ w = w' := by
  obtain ⟨v, h⟩ := h
  have c0 := h.c0
  clear h
  go_enter Tryz.func80, Tryz.ntmps80
  go_wp2
  go_ret
  exact ⟨rfl, rfl⟩
theorem room_any (h : WalAt R p q s w) {m : Nat} (hs : s.Ok m) : Calls Tryz.prog 87 #[.pointer (some ⟨p, 0, none⟩)] w fun e w' => e = .returned (.int .i64 ((s.n - 1 - s.used : Nat) : Int)) ∧ ∃ k, w' = w.drewN k := by
  obtain ⟨v, h⟩ := h
  have c1 := h.c1
  have c4 := h.c4
  have h1 := hs.used
  have h2 := hs.lo
  have h3 := hs.hi
  have h4 := hs.m
  have hr : ((s.n - 1 - s.used : Nat) : Int) = (s.n : Int) - 1 - (s.used : Int) := by omega
  rw [hr]
  clear h hs
  generalize s.n = n at *
  generalize s.used = u at *
  go_enter Tryz.func87, Tryz.ntmps87
  go_wp2
  go_quiet (fail)
  go_wp2
  go_ret
  exact ⟨rfl, _, rfl⟩
end

section
variable {S : Nat → Prop} {p : Nat} {d : Dsk.St} {w : World}
theorem walHas_any (h : DiskAt S p d w) (at_ n : Int) (ha : -9223372036854775808 ≤ at_ ∧ at_ ≤ 9223372036854775807) (hn : -9223372036854775808 ≤ n ∧ n ≤ 9223372036854775807) :
    Calls Tryz.prog 71 #[.pointer (some ⟨p, 0, none⟩), .int .i64 at_, .int .i64 n] w fun e w' => e = .returned (.bool (decide (0 ≤ at_ ∧ n ≤ (d.n : Int) - at_))) ∧ w = w' := by
  have hc := sectors_any h
  have hd := h.ok.hi
  have Hc := Lib.hid hc; clear hc
  clear h
  by_cases h0 : 0 ≤ at_
  · have hx : decide (0 ≤ at_) = true := decide_eq_true h0
    have hy : decide (0 ≤ at_ ∧ n ≤ (d.n : Int) - at_) = decide (n ≤ (d.n : Int) - at_) := by simp [h0]
    rw [hy]
    clear hy
    generalize d.n = m at *
    go_enter Tryz.func71, Tryz.ntmps71
    go_wp2_with fail
    refine Hc.out.mono ?_; rintro e w' ⟨rfl, rfl⟩
    go_wp2_with fail
    go_ret
    exact ⟨rfl, rfl⟩
  · have hx : decide (0 ≤ at_) = false := decide_eq_false h0
    have hy : decide (0 ≤ at_ ∧ n ≤ (d.n : Int) - at_) = false := by simp [h0]
    rw [hy]
    clear hy
    go_enter Tryz.func71, Tryz.ntmps71
    go_wp2_with fail
    go_ret
    exact ⟨rfl, rfl⟩
end

end Go.Proofs.YtalklpnekbfehaaGreat

/-
  wal's copied: texts, and rows of texts; Groups.
-/
set_option linter.unusedVariables false
set_option maxRecDepth 100000
namespace Go.Proofs.YtalklpnekbfehaaGreat
open Go.RowKit

/-- a row of n cells whose first ones are these, the others z -/
def grow (acc : List Value) (z : Value) (n : Nat) : Array Value := (acc ++ List.replicate (n - acc.length) z).toArray
theorem grow_size (acc : List Value) (z : Value) (n : Nat) (h : acc.length ≤ n) : (grow acc z n).size = n := by simp [grow]; omega
theorem grow_set (acc : List Value) (z v : Value) (n : Nat) (h : acc.length < n) : (grow acc z n).setIfInBounds acc.length v = grow (acc ++ [v]) z n := by
  simp only [grow, List.setIfInBounds_toArray]
  congr 1
  rw [List.set_append_right _ _ (Nat.le_refl _), Nat.sub_self, show n - acc.length = (n - (acc ++ [v]).length) + 1 by simp; omega, List.replicate_succ, List.set_cons_zero]
  simp
theorem grow_get (acc : List Value) (z : Value) (n : Nat) (h : acc.length < n) : (grow acc z n)[acc.length]? = some z := by
  simp only [grow, List.getElem?_toArray]
  rw [List.getElem?_append_right (Nat.le_refl _), Nat.sub_self, List.getElem?_replicate, if_pos (by omega)]
theorem grow_step {w : World} {g n : Nat} {acc : List Value} {z v : Value} {T : TypeId} (h : w.heap[g]? = some (.cells (grow acc z n) T (0, 0))) (k : Nat) (hk : acc.length = k) (hn : k < n) :
    w.cell? ⟨g, k, none⟩ = some z ∧ w.frozen? ⟨g, k, none⟩ = false ∧ (w.setCell ⟨g, k, none⟩ v).heap[g]? = some (.cells (grow (acc ++ [v]) z n) T (0, 0)) := by
  subst hk
  exact ⟨by rw [cell_of_row _ _ _ _ _ _ h]; exact grow_get acc z n hn, row_free h _, by rw [heap_setCell_same w g _ _ _ _ h, grow_set _ _ _ _ hn]⟩
theorem grow_full (acc : List Value) (z : Value) (n : Nat) (h : acc.length = n) : grow acc z n = acc.toArray := by simp [grow, h]
theorem made_grow (z : Value) (hz : z.cells = #[z]) (n : Nat) : madeCells z.cells n = grow [] z n := by
  apply Array.ext
  · simp [madeCells, grow]
  · intro i h1 h2
    simp [madeCells, hz, grow, Nat.mod_one]

theorem make_strs (m : Nat) (hm : m ≤ 8796093022208) (u : World) : (Instr.makeSlice 29 (.int .i64 (m : Int)) (.int .i64 (m : Int))).run Tryz.prog u = .ok (.slice (some ⟨u.heap.size, 0, none⟩) m m) (u.alloc (.cells (grow [] (.string .empty) m) 9)) := by
  obtain ⟨i, hi, h0, h1, h2⟩ := info_parts infoStr
  have := run_make (P := Tryz.prog) u 29 9 i (.string ⟨#[]⟩) Tryz.underlying29 hi h0 .i64 .i64 (m : Int) (m : Int) (by omega) (by omega) (by rw [h2]; omega) (by omega)
  rw [this, h1, Int.toNat_natCast, Nat.mul_one, made_grow _ rfl]
  rfl
theorem make_grps (m : Nat) (hm : m ≤ 5864062014805) (u : World) : (Instr.makeSlice 129 (.int .i64 (m : Int)) (.int .i64 (m : Int))).run Tryz.prog u = .ok (.slice (some ⟨u.heap.size, 0, none⟩) m m) (u.alloc (.cells (grow [] (.slice none 0 0) m) 29)) := by
  obtain ⟨i, hi, h0, h1, h2⟩ := info_parts grp_info
  have := run_make (P := Tryz.prog) u 129 29 i (.slice none 0 0) Tryz.underlying129 hi h0 .i64 .i64 (m : Int) (m : Int) (by omega) (by omega) (by rw [h2]; omega) (by omega)
  rw [this, h1, Int.toNat_natCast, Nat.mul_one, made_grow _ rfl]

/-- a row just made of texts is one of the call's own -/
theorem own_grow {w : World} {g n : Nat} {l : List ByteArray} (h : w.heap[g]? = some (.cells (grow (l.map Value.string) (.string .empty) n) 9 (0, 0))) (hl : l.length = n) (hn : n ≤ maxLen) {B : Nat} (hB : B ≤ g) : Own B (.slice (some ⟨g, 0, none⟩) n n) l w := by
  rw [grow_full _ _ _ (by simpa using hl)] at h
  subst hl
  exact ⟨by simp, .inr ⟨g, l.length, _, rfl, hB, h, Nat.le_refl _, hn, by simp, by rw [List.take_of_length_le (by simp)]⟩⟩

set_option maxHeartbeats 800000 in
theorem copiedStrs_any (a : Option Addr) (len cap : Nat) (l : List ByteArray) (w : World) (hs : Strs a len l w) (hm : len ≤ 8796093022208) (hz : ∀ j, (l.getD j .empty).size ≤ 281474976710656) :
    Calls Tryz.prog 97 #[.slice a len cap, .func (.func 38) #[] #[]] w fun e w' => Below w.heap.size w w' ∧ ∃ v, e = .returned v ∧ Own w.heap.size v l w' := by
  have hmk := fun u => make_strs len hm u
  have Hmk := Lib.hid hmk; clear hmk
  have Hs := Lib.hid hs; clear hs
  have Hz := Lib.hid hz; clear hz
  go_enter Tryz.func97, Tryz.ntmps97
  go_wp2
  rw [Hmk.out]
  simp only [Result.andThen]
  rw [Oper.upon_value]
  go_wp2
  go_loopw [13] (fun i wr => ∃ k : Nat, k ≤ len ∧ i = .int .i64 (k : Int) ∧ wr.heap[w.heap.size]? = some (.cells (grow ((l.take k).map Value.string) (.string .empty) len) 9 (0, 0)) ∧ Below w.heap.size w wr) (fun i _ => len - (intOf i).toNat)
  case atStart => exact ⟨0, by omega, rfl, heap_alloc_new w _, (Below.refl _ w).alloc (Nat.le_refl _) _⟩
  case round =>
    obtain ⟨k, hk, rfl, hrow, hbel⟩ := hrel
    by_cases hlt : k < len
    · have hl := Hs.out.1
      obtain ⟨b, off, rfl, hc⟩ := Hs.out.2 k hlt
      have hcb := cell_lt hc
      have hc2 : wr.cell? ⟨b, off + k, none⟩ = some (.string (l.getD k .empty)) := by rw [hbel.cell (p := ⟨b, off + k, none⟩) hcb]; exact hc
      have hzk := Hz.out k
      have htk : l.take (k + 1) = l.take k ++ [l.getD k .empty] := by
        rw [List.take_add_one, List.getElem?_eq_getElem (by omega)]; simp [List.getD_eq_getElem?_getD, show k < l.length by omega]
      have hacc : ((l.take k).map Value.string).length = k := by simp; omega
      have hgs := grow_size ((l.take k).map Value.string) (.string .empty) len (by omega)
      have hlt2 : (k : Int) < (len : Int) := by omega
      generalize hx : l.getD k .empty = x at *
      have hcl := fun u => clone_any x u hzk
      have Hcl := Lib.hid hcl; clear hcl
      have Hrow := Lib.hid hrow; clear hrow
      have Hbel := Lib.hid hbel; clear hbel
      have Htk := Lib.hid htk; clear htk
      have Hacc := Lib.hid hacc; clear hacc
      have Hl := Lib.hid hl; clear hl
      clear hc hx
      go_wp2_with fail
      refine (Hcl.out _).mono ?_; rintro e w2 ⟨rfl, h2⟩
      have hrow2 : w2.heap[w.heap.size]? = some (.cells (grow ((l.take k).map Value.string) (.string .empty) len) 9 (0, 0)) := by rw [h2.block _ (row_lt Hrow.out)]; exact Hrow.out
      obtain ⟨c0, f0, hr3⟩ := grow_step (v := .string x) hrow2 k Hacc.out hlt
      have Hr3 := Lib.hid hr3; clear hr3
      have hb3 := (Hbel.out.trans (h2.mono Hbel.out.size)).setCell (p := ⟨w.heap.size, k, none⟩) (Nat.le_refl _) (.string x)
      have Hb3 := Lib.hid hb3; clear hb3
      clear hrow2 h2
      go_wp2_with fail
      go_roundw
      case rel => exact ⟨k + 1, by omega, by go_num, by rw [Htk.out, List.map_append]; exact Hr3.out, Hb3.out⟩
      case measure => simp [intOf]; omega
    · obtain rfl : k = len := by omega
      have hl := Hs.out.1
      have hrow' := hrow
      rw [List.take_of_length_le (by omega)] at hrow'
      have Hown := Lib.hid (own_grow hrow' hl (by unfold maxLen; omega) (Nat.le_refl _))
      have Hbel := Lib.hid hbel; clear hbel
      clear hrow' hrow hl
      go_wp2_with fail
      go_ret
      exact ⟨Hbel.out, _, rfl, Hown.out⟩

/-- a group of which copies can be made -/
def Slim (l : Wal.Grp) : Prop := l.length ≤ 65535 ∧ ∀ b ∈ l, b.length ≤ 65535
theorem Slim.get {l : Wal.Grp} (h : Slim l) (j : Nat) : ((bas l).getD j .empty).size ≤ 65535 := by
  rw [List.getD_eq_getElem?_getD]
  by_cases hj : j < l.length
  · rw [bas, List.getElem?_map, List.getElem?_eq_getElem hj]
    simp only [Option.map_some, Option.getD_some]
    have := h.2 _ (List.getElem_mem hj)
    show (ba l[j]).size ≤ _
    rw [ba_size]; exact this
  · rw [List.getElem?_eq_none (by rw [bas_length]; omega)]
    show ByteArray.empty.size ≤ _
    decide

theorem groups1_any (a : Option Addr) (len cap : Nat) (l : List ByteArray) (w : World) (hs : Strs a len l w) (hm : len ≤ 8796093022208) (hz : ∀ j, (l.getD j .empty).size ≤ 281474976710656) :
    Calls Tryz.prog 124 #[.slice a len cap] w fun e w' => Below w.heap.size w w' ∧ ∃ v, e = .returned v ∧ Own w.heap.size v l w' := by
  have hc := copiedStrs_any a len cap l w hs hm hz
  have Hc := Lib.hid hc; clear hc
  go_enter Tryz.func124, Tryz.ntmps124
  go_wp2_with fail
  refine Hc.out.mono ?_; rintro e w1 ⟨h1, v, rfl, ho⟩
  have Ho := Lib.hid ho; clear ho
  go_wp2_with fail
  go_ret
  exact ⟨h1, _, rfl, Ho.out⟩

set_option maxHeartbeats 1000000 in
theorem copiedGrps_any {R : Nat → Prop} (v : Value) (L : List Wal.Grp) (w : World) (hs : GRows R v L w) (hm : L.length ≤ 1048576) (hz : ∀ l ∈ L, Slim l) :
    Calls Tryz.prog 123 #[v, .func (.func 124) #[] #[]] w fun e w' => Below w.heap.size w w' ∧ ∃ v', e = .returned v' ∧ GRows (fun k => w.heap.size ≤ k ∧ k < w'.heap.size) v' L w' := by
  obtain ⟨a, cap, rfl, hcl, hcm, hform⟩ := hs.form
  obtain ⟨len, hlen⟩ : ∃ len, len = L.length := ⟨_, rfl⟩
  rw [← hlen] at hcl ⊢ hm
  have hmk := fun u => make_grps len (by omega) u
  have Hmk := Lib.hid hmk; clear hmk
  have Hform := Lib.hid hform; clear hform
  have Hz := Lib.hid hz; clear hz
  have Hlen := Lib.hid hlen; clear hlen
  clear hs hcl hcm
  go_enter Tryz.func123, Tryz.ntmps123
  go_wp2
  rw [Hmk.out]
  simp only [Result.andThen]
  rw [Oper.upon_value]
  go_wp2
  go_loopw [13] (fun i wr => ∃ (k : Nat) (us : List Value), k ≤ len ∧ i = .int .i64 (k : Int) ∧ us.length = k ∧ wr.heap[w.heap.size]? = some (.cells (grow us (.slice none 0 0) len) 29 (0, 0)) ∧ Below w.heap.size w wr ∧ Grps (fun j => w.heap.size ≤ j ∧ j < wr.heap.size) us (L.take k) wr) (fun i _ => len - (intOf i).toNat)
  case atStart => exact ⟨0, [], by omega, rfl, rfl, heap_alloc_new w _, (Below.refl _ w).alloc (Nat.le_refl _) _, Grps.nil _ _⟩
  case round =>
    obtain ⟨k, us, hk, rfl, hul, hrow, hbel, hg⟩ := hrel
    by_cases hlt : k < len
    · have hLk : L[k]? = some L[k] := List.getElem?_eq_getElem (by rw [← Hlen.out]; exact hlt)
      have hsl := Hz.out _ (List.mem_of_getElem? hLk)
      have htk : L.take (k + 1) = L.take k ++ [L[k]] := by rw [List.take_add_one, hLk]; rfl
      obtain ⟨b, u, rfl, hc, hu⟩ := Hform.out k _ hLk
      generalize L[k] = l at *
      have hcb := cell_lt hc
      have hc2 : wr.cell? ⟨b, k, none⟩ = some u := by rw [hbel.cell (p := ⟨b, k, none⟩) hcb]; exact hc
      obtain ⟨a8, cap8, rfl, hst, h81, h82⟩ := hu.strs
      have hst2 : Strs a8 l.length (bas l) wr := by
        refine ⟨hst.1, fun j hj => ?_⟩
        obtain ⟨b', off, e1, e2⟩ := hst.2 j hj
        exact ⟨b', off, e1, by rw [hbel.cell (p := ⟨b', off + j, none⟩) (cell_lt e2)]; exact e2⟩
      have hcl := groups1_any a8 l.length cap8 (bas l) wr hst2 (by have := hsl.1; omega) (fun j => by have := hsl.get j; omega)
      have hlt2 : (k : Int) < (len : Int) := by omega
      have Hcl := Lib.hid hcl; clear hcl
      have Hrow := Lib.hid hrow; clear hrow
      have Hbel := Lib.hid hbel; clear hbel
      have Htk := Lib.hid htk; clear htk
      have Hul := Lib.hid hul; clear hul
      have Hg := Lib.hid hg; clear hg
      clear hc hst hst2 hu h81 h82 hsl hLk
      go_wp2_with fail
      refine Hcl.out.mono ?_; rintro e w2 ⟨h2, u9, rfl, ho⟩
      obtain ⟨a9, cap9, hv9, _⟩ := ho.strs
      have hv9' := hv9
      subst hv9
      have hrow2 : w2.heap[w.heap.size]? = some (.cells (grow us (.slice none 0 0) len) 29 (0, 0)) := by rw [h2.block _ (row_lt Hrow.out)]; exact Hrow.out
      obtain ⟨c0, f0, hr3⟩ := grow_step (v := .slice a9 (bas l).length cap9) hrow2 k Hul.out hlt
      have Hr3 := Lib.hid hr3; clear hr3
      have hb3 := (Hbel.out.trans (h2.mono Hbel.out.size)).setCell (p := ⟨w.heap.size, k, none⟩) (Nat.le_refl _) (.slice a9 (bas l).length cap9)
      have Hb3 := Lib.hid hb3; clear hb3
      have hg3 : Grps (fun j => w.heap.size ≤ j ∧ j < (w2.setCell ⟨w.heap.size, k, none⟩ (.slice a9 (bas l).length cap9)).heap.size) (us ++ [.slice a9 (bas l).length cap9]) (L.take k ++ [l]) (w2.setCell ⟨w.heap.size, k, none⟩ (.slice a9 (bas l).length cap9)) := by
        have hsz : (w2.setCell ⟨w.heap.size, k, none⟩ (.slice a9 (bas l).length cap9)).heap.size = w2.heap.size := by simp [World.setCell]
        have ht : Turns (fun j => j = w.heap.size) w2 (w2.setCell ⟨w.heap.size, k, none⟩ (.slice a9 (bas l).length cap9)) := (Turns.refl _ w2).set _ _ _ (fun _ => rfl)
        have hs2 := h2.size
        have hs3 := Hbel.out.size
        have key : ∀ (x : Value) (y : Wal.Grp) (B : Nat), w2.ownsRow B 9 1 x (bas y).length ((bas y).map Value.string) → ∀ j, x.ownBlock = some j → j ≠ w.heap.size := fun x y B hx j hj e => by
          obtain ⟨cur, hcur⟩ := ownsRow_block hx hj
          rw [e, hrow2] at hcur
          simp only [Option.some.injEq, Obj.cells.injEq] at hcur
          exact absurd hcur.2.1 (by decide)
        refine Grps.snoc ⟨Hg.out.1, fun i x hx => ?_⟩ ?_
        · obtain ⟨y, hy, ho1, hk1⟩ := Hg.out.2 i x hx
          have ho2 : w2.ownsRow 0 9 1 y (bas x).length ((bas x).map Value.string) := ownsRow_same ho1 fun g hg => h2.block g (ho1.lt g hg).2
          exact ⟨y, hy, ownsRow_same ho2 fun g hg => ht.block g (ho2.lt g hg).2 (key _ _ _ ho2 g hg), fun j hj => by have := hk1 j hj; rw [hsz]; omega⟩
        · refine ⟨World.ownsRow.mono (ownsRow_same ho fun g hg => ht.block g (World.ownsRow.lt ho g hg).2 (key _ _ _ ho g hg)) (Nat.zero_le _), fun j hj => ?_⟩
          have := World.ownsRow.lt ho j hj
          rw [hsz]; omega
      have Hg3 := Lib.hid hg3; clear hg3
      clear hrow2 h2 ho hv9'
      go_wp2_with fail
      go_roundw
      case rel => exact ⟨k + 1, us ++ [.slice a9 (bas l).length cap9], by omega, by go_num, by rw [List.length_append, Hul.out]; rfl, Hr3.out, Hb3.out, by rw [Htk.out]; exact Hg3.out⟩
      case measure => simp [intOf]; omega
    · obtain rfl : k = len := by omega
      have hlen := Hlen.out
      rw [List.take_of_length_le (by omega)] at hg
      rw [grow_full _ _ _ hul] at hrow
      have hres : GRows (fun j => w.heap.size ≤ j ∧ j < wr.heap.size) (.slice (some ⟨w.heap.size, 0, none⟩) k k) L wr :=
        ⟨fun j hj => hj.2, us, ⟨by rw [hul, hlen, Nat.mul_one], .inr ⟨w.heap.size, k, _, by rw [hlen], Nat.zero_le _, hrow, by omega, by unfold maxLen; omega, by simp [hul], by rw [List.take_of_length_le (by simp [hul, hlen])]⟩⟩, fun j hj => by
          simp only [Value.ownBlock, Option.some.injEq] at hj
          subst hj
          exact ⟨Nat.le_refl _, row_lt hrow⟩, hg⟩
      have Hres := Lib.hid hres; clear hres
      have Hbel := Lib.hid hbel; clear hbel
      clear hrow hg hlen
      go_wp2_with fail
      go_ret
      exact ⟨Hbel.out, _, rfl, Hres.out⟩

theorem groups_nil (w : World) : Calls Tryz.prog 79 #[.pointer none] w fun e w' => e = .returned (.slice none 0 0) ∧ w = w' := by
  go_enter Tryz.func79, Tryz.ntmps79
  go_wp2
  go_ret
  exact ⟨rfl, rfl⟩
theorem groups_any {R : Nat → Prop} {p q : Nat} {s : Wal.St} {w : World} (h : WalAt R p q s w) (hm : s.L.length ≤ 1048576) (hz : ∀ l ∈ s.L, Slim l) :
    Calls Tryz.prog 79 #[.pointer (some ⟨p, 0, none⟩)] w fun e w' => Below w.heap.size w w' ∧ ∃ v', e = .returned v' ∧ GRows (fun k => w.heap.size ≤ k ∧ k < w'.heap.size) v' s.L w' := by
  obtain ⟨v, h⟩ := h
  have c5 := h.c5
  have hc := copiedGrps_any v s.L w h.rows hm hz
  obtain ⟨a, cap, rfl, _⟩ := h.rows.form
  have Hc := Lib.hid hc; clear hc
  clear h hz
  go_enter Tryz.func79, Tryz.ntmps79
  go_wp2_with fail
  refine Hc.out.mono ?_; rintro e w1 ⟨h1, v, rfl, ho⟩
  have Ho := Lib.hid ho; clear ho
  go_wp2_with fail
  go_ret
  exact ⟨h1, _, rfl, Ho.out⟩
end Go.Proofs.YtalklpnekbfehaaGreat

/-
  What lies in memory while a log is opened.
-/
set_option linter.unusedVariables false
set_option maxRecDepth 100000
namespace Go.Proofs.YtalklpnekbfehaaGreat
open Go.RowKit

section
variable {P : Program} {ops : Array Oper} {Q : Exit → Act → World → Prop} {S : World → Prop}
theorem midk_store {K : Act → World → Prop} {o : Oper} {l : List Oper} {a : Act} {w w' : World} (ty : TypeId) (x y : Operand) (pv vv : Value) (hw : Region.wanted o (yielded ops a.tmps) = true) (ho : o.op = .store ty x y) (hx : a.eval x = pv) (hy : a.eval y = vv)
    (h : (Instr.storeAt ty pv vv).run P w = .ok () w') (hS : S w') (hK : wpMidK P ops Q S K l (a.put o.dst undef) w') : wpMidK P ops Q S K (o :: l) a w := by
  refine midk_wp hw ?_
  unfold Oper.wp execOp
  simp only [ho, hx, hy, h, Sem.run_bind, Sem.run_pure, Result.andThen_ok]
  exact ⟨hS, hK⟩
end

theorem store_mark {w : World} {b : Nat} {x' y' : Value} (x y : Int) (h0 : w.cell? ⟨b, 0, none⟩ = some x') (h1 : w.cell? ⟨b, 1, none⟩ = some y') (f0 : w.frozen? ⟨b, 0, none⟩ = false) (f1 : w.frozen? ⟨b, 1, none⟩ = false) :
    (Instr.storeAt 128 (.pointer (some ⟨b, 0, none⟩)) (.agg #[.int .u64 x, .int .i64 y])).run Tryz.prog w = .ok () ((w.setCell ⟨b, 0, none⟩ (.int .u64 x)).setCell ⟨b, 1, none⟩ (.int .i64 y)) := by
  have hz := Tryz.sizeOf128
  simp [Instr.storeAt, go_sem, hz, h0, h1, f0, f1]
theorem store_str {w : World} {b o : Nat} {x' : Value} {x : ByteArray} (h0 : w.cell? ⟨b, o, none⟩ = some x') (f0 : w.frozen? ⟨b, o, none⟩ = false) :
    (Instr.storeAt 9 (.pointer (some ⟨b, o, none⟩)) (.string x)).run Tryz.prog w = .ok () (w.setCell ⟨b, o, none⟩ (.string x)) := by
  have hz := Tryz.sizeOf9
  simp [Instr.storeAt, go_sem, hz, h0, f0]
theorem store_grps {w : World} {b o : Nat} {x' : Value} {a : Option Addr} {n c : Nat} (h0 : w.cell? ⟨b, o, none⟩ = some x') (f0 : w.frozen? ⟨b, o, none⟩ = false) :
    (Instr.storeAt 129 (.pointer (some ⟨b, o, none⟩)) (.slice a n c)).run Tryz.prog w = .ok () (w.setCell ⟨b, o, none⟩ (.slice a n c)) := by
  have hz := Tryz.sizeOf129
  simp [Instr.storeAt, go_sem, hz, h0, f0]

def opcells (p k n g u : Nat) (v : Value) : Array Value := #[.int .u64 (g : Int), .int .i64 (u : Int), .pointer (some ⟨p, 0, none⟩), .int .i64 (k : Int), .int .i64 (n : Int), v, .int .i64 0]
/-- while a log is opened: the blocks from B on -/
structure Opn (S : Nat → Prop) (p : Nat) (d : Dsk.St) (B k n g u : Nat) (v : Value) (hd bd : ByteArray) (W : World) : Prop where
  disk : DiskAt S p d W
  lo : ∀ j, S j → j < B
  b0 : W.heap[B]? = some (.cells #[.pointer (some ⟨p, 0, none⟩)] 34 (0, 0))
  b1 : W.heap[B + 1]? = some (.cells #[.int .i64 (k : Int)] 3 (0, 0))
  b2 : W.heap[B + 2]? = some (.cells #[.int .i64 (n : Int)] 3 (0, 0))
  b3 : W.heap[B + 3]? = some (.cells (opcells p k n g u v) 131 (0, 0))
  b4 : W.heap[B + 4]? = some (.cells #[.pointer (some ⟨B + 3, 0, none⟩)] 72 (0, 0))
  b5 : W.heap[B + 5]? = some (.cells #[.string hd] 9 (0, 0))
  b6 : W.heap[B + 6]? = some (.cells #[.string bd] 9 (0, 0))
section
variable {S : Nat → Prop} {p : Nat} {d : Dsk.St} {B k n g u : Nat} {v : Value} {hd bd : ByteArray} {W W' : World}
theorem Opn.new (h : Opn S p d B k n g u v hd bd W) (hb : Below W.heap.size W W') : Opn S p d B k n g u v hd bd W' :=
  ⟨h.disk.new hb, h.lo, by rw [hb.block _ (row_lt h.b0)]; exact h.b0, by rw [hb.block _ (row_lt h.b1)]; exact h.b1, by rw [hb.block _ (row_lt h.b2)]; exact h.b2, by rw [hb.block _ (row_lt h.b3)]; exact h.b3,
    by rw [hb.block _ (row_lt h.b4)]; exact h.b4, by rw [hb.block _ (row_lt h.b5)]; exact h.b5, by rw [hb.block _ (row_lt h.b6)]; exact h.b6⟩
theorem Opn.turnDisk (h : Opn S p d B k n g u v hd bd W) {c j : Nat} (hc : B ≤ c) (x : Value) : DiskAt S p d (W.setCell ⟨c, j, none⟩ x) :=
  h.disk.keeps (T := fun i => i = c) ((Turns.refl _ W).set c j x (fun _ => rfl)) (fun i hi e => by have := h.lo i hi; omega)
theorem other_row {b c j : Nat} {o : Obj} {x : Value} (h : W.heap[b]? = some o) (hne : b ≠ c) : (W.setCell ⟨c, j, none⟩ x).heap[b]? = some o := by
  rw [heap_setCell_other W ⟨c, j, none⟩ b x hne]; exact h
theorem Opn.put5 (h : Opn S p d B k n g u v hd bd W) (x : ByteArray) : Opn S p d B k n g u v x bd (W.setCell ⟨B + 5, 0, none⟩ (.string x)) :=
  ⟨h.turnDisk (by omega) _, h.lo, other_row h.b0 (by omega), other_row h.b1 (by omega), other_row h.b2 (by omega), other_row h.b3 (by omega), other_row h.b4 (by omega), by rw [heap_setCell_same W _ 0 _ _ _ h.b5]; rfl, other_row h.b6 (by omega)⟩
theorem Opn.put6 (h : Opn S p d B k n g u v hd bd W) (x : ByteArray) : Opn S p d B k n g u v hd x (W.setCell ⟨B + 6, 0, none⟩ (.string x)) :=
  ⟨h.turnDisk (by omega) _, h.lo, other_row h.b0 (by omega), other_row h.b1 (by omega), other_row h.b2 (by omega), other_row h.b3 (by omega), other_row h.b4 (by omega), other_row h.b5 (by omega), by rw [heap_setCell_same W _ 0 _ _ _ h.b6]; rfl⟩
theorem Opn.putG (h : Opn S p d B k n g u v hd bd W) (x : Nat) : Opn S p d B k n x u v hd bd (W.setCell ⟨B + 3, 0, none⟩ (.int .u64 (x : Int))) :=
  ⟨h.turnDisk (by omega) _, h.lo, other_row h.b0 (by omega), other_row h.b1 (by omega), other_row h.b2 (by omega), by rw [heap_setCell_same W _ 0 _ _ _ h.b3]; rfl, other_row h.b4 (by omega), other_row h.b5 (by omega), other_row h.b6 (by omega)⟩
theorem Opn.putU (h : Opn S p d B k n g u v hd bd W) (x : Nat) : Opn S p d B k n g x v hd bd (W.setCell ⟨B + 3, 1, none⟩ (.int .i64 (x : Int))) :=
  ⟨h.turnDisk (by omega) _, h.lo, other_row h.b0 (by omega), other_row h.b1 (by omega), other_row h.b2 (by omega), by rw [heap_setCell_same W _ 1 _ _ _ h.b3]; rfl, other_row h.b4 (by omega), other_row h.b5 (by omega), other_row h.b6 (by omega)⟩
theorem Opn.putV (h : Opn S p d B k n g u v hd bd W) (x : Value) : Opn S p d B k n g u x hd bd (W.setCell ⟨B + 3, 5, none⟩ x) :=
  ⟨h.turnDisk (by omega) _, h.lo, other_row h.b0 (by omega), other_row h.b1 (by omega), other_row h.b2 (by omega), by rw [heap_setCell_same W _ 5 _ _ _ h.b3]; rfl, other_row h.b4 (by omega), other_row h.b5 (by omega), other_row h.b6 (by omega)⟩
theorem Opn.c0 (h : Opn S p d B k n g u v hd bd W) : W.cell? ⟨B, 0, none⟩ = some (.pointer (some ⟨p, 0, none⟩)) := by rw [cell_of_row _ _ 0 _ _ _ h.b0]; rfl
theorem Opn.c1 (h : Opn S p d B k n g u v hd bd W) : W.cell? ⟨B + 1, 0, none⟩ = some (.int .i64 (k : Int)) := by rw [cell_of_row _ _ 0 _ _ _ h.b1]; rfl
theorem Opn.c2 (h : Opn S p d B k n g u v hd bd W) : W.cell? ⟨B + 2, 0, none⟩ = some (.int .i64 (n : Int)) := by rw [cell_of_row _ _ 0 _ _ _ h.b2]; rfl
theorem Opn.c3 (h : Opn S p d B k n g u v hd bd W) (j : Nat) : W.cell? ⟨B + 3, j, none⟩ = (opcells p k n g u v)[j]? := by rw [cell_of_row _ _ j _ _ _ h.b3]
theorem Opn.c4 (h : Opn S p d B k n g u v hd bd W) : W.cell? ⟨B + 4, 0, none⟩ = some (.pointer (some ⟨B + 3, 0, none⟩)) := by rw [cell_of_row _ _ 0 _ _ _ h.b4]; rfl
theorem Opn.c5 (h : Opn S p d B k n g u v hd bd W) : W.cell? ⟨B + 5, 0, none⟩ = some (.string hd) := by rw [cell_of_row _ _ 0 _ _ _ h.b5]; rfl
theorem Opn.c6 (h : Opn S p d B k n g u v hd bd W) : W.cell? ⟨B + 6, 0, none⟩ = some (.string bd) := by rw [cell_of_row _ _ 0 _ _ _ h.b6]; rfl
end
end Go.Proofs.YtalklpnekbfehaaGreat

/-
  Open's steps.
-/
set_option linter.unusedVariables false
set_option maxRecDepth 100000
namespace Go.Proofs.YtalklpnekbfehaaGreat
open Go.RowKit

theorem load_any {w : World} {t : TypeId} {b o : Nat} {x : Value} {D : TypeDesc} (hu : Tryz.prog.underlying t = some D) (ha : ∀ w, (isAgg t).run Tryz.prog w = .ok false w) (h : w.cell? ⟨b, o, none⟩ = some x) :
    (Instr.loadAt t (.pointer (some ⟨b, o, none⟩))).run Tryz.prog w = .ok x w := by
  simp [Instr.loadAt, go_sem, ha, h]

/-- the blocks that Open's steps turn -/
def OpT (B j : Nat) : Prop := B + 3 ≤ j ∧ j < B + 7
section
variable {S : Nat → Prop} {p : Nat} {d : Dsk.St} {B k n g u : Nat} {v : Value} {hd bd : ByteArray} {W : World}
theorem open1_any (h : Opn S p d B k n g u v hd bd W) (hk : k ≤ 16384) :
    Calls Tryz.prog 72 #[.pointer (some ⟨B, 0, none⟩), .pointer (some ⟨B + 1, 0, none⟩), .pointer (some ⟨B + 5, 0, none⟩)] W fun e W' =>
      e = .returned (.int .i64 (Dsk.read d (k : Int) 1).2) ∧ Opn S p d B k n g u v (ba (Dsk.read d (k : Int) 1).1) bd W' ∧ Turns (OpT B) W W' := by
  have c0 := h.c0
  have c1 := h.c1
  have hr := read_all h.disk (k : Int) 1 ⟨by omega, by omega⟩ ⟨by omega, by omega⟩
  have hB := row_lt h.b5
  have hr2 : Calls Tryz.prog 66 #[.pointer (some ⟨p, 0, none⟩), .int .i64 (k : Int), .int .i64 1] W fun e w' => e = .returned (.tuple #[.string (ba (Dsk.read d (k : Int) 1).1), .int .i64 (Dsk.read d (k : Int) 1).2]) ∧ Below W.heap.size W w' := hr
  clear hr
  generalize ba (Dsk.read d (k : Int) 1).1 = x at *
  generalize (Dsk.read d (k : Int) 1).2 = E at *
  have Hr := Lib.hid hr2; clear hr2
  have H := Lib.hid h; clear h
  go_enter Tryz.func72, Tryz.ntmps72
  go_wp2_with fail
  refine Hr.out.mono ?_; rintro e w1 ⟨rfl, h1⟩
  have h2 := H.out.new h1
  have c5 := h2.c5
  have f5 := row_free h2.b5 0
  have H2 := Lib.hid (h2.put5 x); clear h2
  have hb : Turns (OpT B) W (w1.setCell ⟨B + 5, 0, none⟩ (.string x)) := (Turns.of_new h1 _).set (B + 5) 0 _ (fun _ => ⟨by omega, by omega⟩)
  have Hb := Lib.hid hb; clear hb
  clear h1 c0 c1
  go_wp2_with fail
  go_ret
  exact ⟨rfl, H2.out, Hb.out⟩

def markE : Option (Nat × Nat) → Int
  | none => 50
  | some _ => 0
theorem open2_any (h : Opn S p d B k n 0 0 v hd bd W) (hs : hd.size = 64) (hn2 : 2 ≤ n) (hn : n ≤ 16384) :
    Calls Tryz.prog 73 #[.pointer (some ⟨B + 5, 0, none⟩), .pointer (some ⟨B + 2, 0, none⟩), .pointer (some ⟨B + 4, 0, none⟩)] W fun e W' =>
      e = .returned (.int .i64 (markE (Wal.readMark hd.data.toList (n - 1)))) ∧ Opn S p d B k n ((Wal.readMark hd.data.toList (n - 1)).getD (0, 0)).1 ((Wal.readMark hd.data.toList (n - 1)).getD (0, 0)).2 v hd bd W' ∧ Turns (OpT B) W W' := by
  have hrm := fun x => readMark_any hd hs (n - 1) (by omega) x
  have hB := row_lt h.b6
  have hr2 : ∀ x, Calls Tryz.prog 74 #[.string hd, .int .i64 ((n : Int) - 1)] x fun e w' => e = .returned (.tuple #[markV ((Wal.readMark hd.data.toList (n - 1)).getD (0, 0)).1 ((Wal.readMark hd.data.toList (n - 1)).getD (0, 0)).2, .int .i64 (markE (Wal.readMark hd.data.toList (n - 1)))]) ∧ Below x.heap.size x w' := fun x => by
    have := hrm x
    rw [show (((n - 1 : Nat)) : Int) = (n : Int) - 1 by omega] at this
    refine this.mono fun e w' h => ⟨?_, h.2⟩
    rw [h.1]
    cases Wal.readMark hd.data.toList (n - 1) <;> rfl
  clear hrm
  generalize ((Wal.readMark hd.data.toList (n - 1)).getD (0, 0)).1 = G at *
  generalize ((Wal.readMark hd.data.toList (n - 1)).getD (0, 0)).2 = U at *
  generalize markE (Wal.readMark hd.data.toList (n - 1)) = E at *
  have Hr := Lib.hid hr2; clear hr2
  have H := Lib.hid h; clear h
  go_enter Tryz.func73, Tryz.ntmps73
  go_wp2_with fail
  refine wp_region_phases [([0, 1, 2, 3], [4, 5]), ([6, 7, 8, 9], [10, 11])] (by kernel_rfl) (by kernel_rfl) (fun u => u.cell? ⟨B + 4, 0, none⟩ = some (.pointer (some ⟨B + 3, 0, none⟩)) ∧ u.cell? ⟨B + 5, 0, none⟩ = some (.string hd) ∧ u.cell? ⟨B + 2, 0, none⟩ = some (.int .i64 (n : Int))) ⟨H.out.c4, H.out.c5, H.out.c2⟩ ?_
  simp only [wpPhases, pick, List.filterMap_cons, List.filterMap_nil, List.getElem?_toArray, List.getElem?_cons_zero, List.getElem?_cons_succ]
  refine take_load 72 (.tmp 2) ⟨B + 4, 0, none⟩ (.pointer (some ⟨B + 3, 0, none⟩)) rfl rfl rfl (fun u hu => load_any Tryz.underlying72 Tryz.isAgg72 hu.1) ?_
  simp only [Act.put, List.setIfInBounds_toArray, List.set_cons_zero, List.set_cons_succ]
  refine take_load 9 (.tmp 0) ⟨B + 5, 0, none⟩ (.string hd) rfl rfl rfl (fun u hu => load_any Tryz.underlying9 Tryz.isAgg9 hu.2.1) ?_
  simp only [Act.put, List.setIfInBounds_toArray, List.set_cons_zero, List.set_cons_succ]
  refine take_load 3 (.tmp 1) ⟨B + 2, 0, none⟩ (.int .i64 (n : Int)) rfl rfl rfl (fun u hu => load_any Tryz.underlying3 Tryz.isAgg3 hu.2.2) ?_
  simp only [Act.put, List.setIfInBounds_toArray, List.set_cons_zero, List.set_cons_succ]
  refine take_one (.int .i64 ((n : Int) - 1)) rfl (fun u _ => by go_simp; exact IntWalk.i64_in _ (by omega)) ?_
  simp only [Act.put, List.setIfInBounds_toArray, List.set_cons_zero, List.set_cons_succ]
  refine take_done ?_
  refine midk_wp rfl (call_wp 74 [.tmp 6, .tmp 8] #[9, 3] #[.string hd, .int .i64 ((n : Int) - 1)] rfl rfl rfl ?_)
  refine (Hr.out _).mono ?_; rintro e w1 ⟨rfl, h1⟩
  have h2 := (H.out.new ((Below.refl _ W).drew)).new h1
  refine ⟨_, rfl, ⟨h2.c4, h2.c5, h2.c2⟩, ?_⟩
  simp only [Act.put, List.setIfInBounds_toArray, List.set_cons_zero, List.set_cons_succ]
  refine midk_one (.tuple #[markV G U, .int .i64 E]) rfl rfl ⟨h2.c4, h2.c5, h2.c2⟩ ?_
  simp only [Act.put, List.setIfInBounds_toArray, List.set_cons_zero, List.set_cons_succ]
  refine midk_done ?_
  refine take_one (markV G U) rfl (fun u _ => by go_simp) ?_
  simp only [Act.put, List.setIfInBounds_toArray, List.set_cons_zero, List.set_cons_succ]
  refine take_one (.int .i64 E) rfl (fun u _ => by go_simp) ?_
  simp only [Act.put, List.setIfInBounds_toArray, List.set_cons_zero, List.set_cons_succ]
  refine take_nil (.tmp 5) ⟨B + 3, 0, none⟩ rfl rfl rfl ?_
  simp only [Act.put, List.setIfInBounds_toArray, List.set_cons_zero, List.set_cons_succ]
  refine take_one (.pointer (some ⟨B + 3, 0, none⟩)) rfl (fun u _ => by go_simp) ?_
  simp only [Act.put, List.setIfInBounds_toArray, List.set_cons_zero, List.set_cons_succ]
  refine take_done ?_
  have c30 := h2.c3 0
  have c31 := h2.c3 1
  have h3 := (h2.putG G).putU U
  refine midk_store 128 (.tmp 13) (.tmp 10) _ _ rfl rfl rfl rfl (store_mark (G : Int) (U : Int) c30 c31 (row_free h2.b3 0) (row_free h2.b3 1)) ⟨h3.c4, h3.c5, h3.c2⟩ ?_
  simp only [Act.put]
  refine midk_one (.int .i64 E) rfl rfl ⟨h3.c4, h3.c5, h3.c2⟩ ?_
  simp only [Act.put, List.setIfInBounds_toArray, List.set_cons_zero, List.set_cons_succ]
  refine midk_end ?_
  have hb : Turns (OpT B) W ((w1.setCell ⟨B + 3, 0, none⟩ (.int .u64 (G : Int))).setCell ⟨B + 3, 1, none⟩ (.int .i64 (U : Int))) := (((((Turns.refl (OpT B) W).drew).trans (Turns.of_new h1 _) (fun _ _ e => e)).set (B + 3) 0 _ (fun _ => ⟨by omega, by omega⟩)).set (B + 3) 1 _ (fun _ => ⟨by omega, by omega⟩))
  have Hb := Lib.hid hb; clear hb
  have H3 := Lib.hid h3; clear h3
  clear h1 h2 c30 c31
  go_wp2_with fail
  go_ret
  exact ⟨rfl, H3.out, Hb.out⟩

theorem open3_any (h : Opn S p d B k n g u v hd bd W) (hk : k ≤ 16384) (hu : u ≤ 16384) :
    Calls Tryz.prog 75 #[.pointer (some ⟨B, 0, none⟩), .pointer (some ⟨B + 1, 0, none⟩), .pointer (some ⟨B + 4, 0, none⟩), .pointer (some ⟨B + 6, 0, none⟩)] W fun e W' =>
      e = .returned (.int .i64 (Dsk.read d ((k : Int) + 1) (u : Int)).2) ∧ Opn S p d B k n g u v hd (ba (Dsk.read d ((k : Int) + 1) (u : Int)).1) W' ∧ Turns (OpT B) W W' := by
  have hB := row_lt h.b6
  have hr2 : ∀ x, DiskAt S p d x → Calls Tryz.prog 66 #[.pointer (some ⟨p, 0, none⟩), .int .i64 ((k : Int) + 1), .int .i64 (u : Int)] x fun e w' => e = .returned (.tuple #[.string (ba (Dsk.read d ((k : Int) + 1) (u : Int)).1), .int .i64 (Dsk.read d ((k : Int) + 1) (u : Int)).2]) ∧ Below x.heap.size x w' :=
    fun x hx => read_all hx ((k : Int) + 1) (u : Int) ⟨by omega, by omega⟩ ⟨by omega, by omega⟩
  generalize ba (Dsk.read d ((k : Int) + 1) (u : Int)).1 = X at *
  generalize (Dsk.read d ((k : Int) + 1) (u : Int)).2 = E at *
  have Hr := Lib.hid hr2; clear hr2
  have H := Lib.hid h; clear h
  go_enter Tryz.func75, Tryz.ntmps75
  go_wp2_with fail
  refine wp_region_phases [([0, 1, 2, 3, 4, 5, 6, 7], [8, 9]), ([10, 11], [12, 13])] (by kernel_rfl) (by kernel_rfl) (fun z => z.cell? ⟨B, 0, none⟩ = some (.pointer (some ⟨p, 0, none⟩)) ∧ z.cell? ⟨B + 1, 0, none⟩ = some (.int .i64 (k : Int)) ∧ z.cell? ⟨B + 4, 0, none⟩ = some (.pointer (some ⟨B + 3, 0, none⟩)) ∧ z.cell? ⟨B + 3, 1, none⟩ = some (.int .i64 (u : Int))) ⟨H.out.c0, H.out.c1, H.out.c4, H.out.c3 1⟩ ?_
  simp only [wpPhases, pick, List.filterMap_cons, List.filterMap_nil, List.getElem?_toArray, List.getElem?_cons_zero, List.getElem?_cons_succ]
  refine take_load 34 (.tmp 0) ⟨B, 0, none⟩ (.pointer (some ⟨p, 0, none⟩)) rfl rfl rfl (fun u hu => load_any Tryz.underlying34 Tryz.isAgg34 hu.1) ?_
  simp only [Act.put, List.setIfInBounds_toArray, List.set_cons_zero, List.set_cons_succ]
  refine take_load 3 (.tmp 1) ⟨B + 1, 0, none⟩ (.int .i64 (k : Int)) rfl rfl rfl (fun u hu => load_any Tryz.underlying3 Tryz.isAgg3 hu.2.1) ?_
  simp only [Act.put, List.setIfInBounds_toArray, List.set_cons_zero, List.set_cons_succ]
  refine take_one (.int .i64 ((k : Int) + 1)) rfl (fun u _ => by go_simp; exact IntWalk.i64_in _ (by omega)) ?_
  simp only [Act.put, List.setIfInBounds_toArray, List.set_cons_zero, List.set_cons_succ]
  refine take_load 72 (.tmp 2) ⟨B + 4, 0, none⟩ (.pointer (some ⟨B + 3, 0, none⟩)) rfl rfl rfl (fun u hu => load_any Tryz.underlying72 Tryz.isAgg72 hu.2.2.1) ?_
  simp only [Act.put, List.setIfInBounds_toArray, List.set_cons_zero, List.set_cons_succ]
  refine take_nil (.tmp 9) ⟨B + 3, 0, none⟩ rfl rfl rfl ?_
  simp only [Act.put, List.setIfInBounds_toArray, List.set_cons_zero, List.set_cons_succ]
  refine take_one (.pointer (some ⟨B + 3, 0, none⟩)) rfl (fun u _ => by go_simp) ?_
  simp only [Act.put, List.setIfInBounds_toArray, List.set_cons_zero, List.set_cons_succ]
  refine take_one (.pointer (some ⟨B + 3, 1, none⟩)) rfl (fun u _ => by go_simp) ?_
  simp only [Act.put, List.setIfInBounds_toArray, List.set_cons_zero, List.set_cons_succ]
  refine take_load 3 (.tmp 12) ⟨B + 3, 1, none⟩ (.int .i64 (u : Int)) rfl rfl rfl (fun u hu => load_any Tryz.underlying3 Tryz.isAgg3 hu.2.2.2) ?_
  simp only [Act.put, List.setIfInBounds_toArray, List.set_cons_zero, List.set_cons_succ]
  refine take_done ?_
  refine midk_wp rfl (call_wp 66 [.tmp 6, .tmp 8, .tmp 13] #[34, 3, 3] #[.pointer (some ⟨p, 0, none⟩), .int .i64 ((k : Int) + 1), .int .i64 (u : Int)] rfl rfl rfl ?_)
  refine (Hr.out _ (H.out.new ((Below.refl _ W).drew)).disk).mono ?_; rintro e w1 ⟨rfl, h1⟩
  have h2 := (H.out.new ((Below.refl _ W).drew)).new h1
  refine ⟨_, rfl, ⟨h2.c0, h2.c1, h2.c4, h2.c3 1⟩, ?_⟩
  simp only [Act.put, List.setIfInBounds_toArray, List.set_cons_zero, List.set_cons_succ]
  refine midk_one (.tuple #[.string X, .int .i64 E]) rfl rfl ⟨h2.c0, h2.c1, h2.c4, h2.c3 1⟩ ?_
  simp only [Act.put, List.setIfInBounds_toArray, List.set_cons_zero, List.set_cons_succ]
  refine midk_done ?_
  refine take_one (.string X) rfl (fun u _ => by go_simp) ?_
  simp only [Act.put, List.setIfInBounds_toArray, List.set_cons_zero, List.set_cons_succ]
  refine take_one (.int .i64 E) rfl (fun u _ => by go_simp) ?_
  simp only [Act.put, List.setIfInBounds_toArray, List.set_cons_zero, List.set_cons_succ]
  refine take_done ?_
  have h3 := h2.put6 X
  refine midk_store 9 (.tmp 3) (.tmp 15) _ _ rfl rfl rfl rfl (store_str h2.c6 (row_free h2.b6 0)) ⟨h3.c0, h3.c1, h3.c4, h3.c3 1⟩ ?_
  simp only [Act.put]
  refine midk_one (.int .i64 E) rfl rfl ⟨h3.c0, h3.c1, h3.c4, h3.c3 1⟩ ?_
  simp only [Act.put, List.setIfInBounds_toArray, List.set_cons_zero, List.set_cons_succ]
  refine midk_end ?_
  have hb : Turns (OpT B) W (w1.setCell ⟨B + 6, 0, none⟩ (.string X)) := (((Turns.refl (OpT B) W).drew).trans (Turns.of_new h1 _) (fun _ _ e => e)).set (B + 6) 0 _ (fun _ => ⟨by omega, by omega⟩)
  have Hb := Lib.hid hb; clear hb
  have H3 := Lib.hid h3; clear h3
  clear h1 h2
  go_wp2_with fail
  go_ret
  exact ⟨rfl, H3.out, Hb.out⟩

def grpsE : Option (List Wal.Grp) → Int
  | none => 50
  | some _ => 0
theorem open4_any (h : Opn S p d B k n g u (.slice none 0 0) hd bd W) (hs : bd.size = 64 * u) (hu : u ≤ 16384) :
    Calls Tryz.prog 76 #[.pointer (some ⟨B + 6, 0, none⟩), .pointer (some ⟨B + 4, 0, none⟩)] W fun e W' =>
      e = .returned (.int .i64 (grpsE (Wal.readGroups (64 * u) bd.data.toList))) ∧ Turns (OpT B) W W' ∧ ∃ v', Opn S p d B k n g u v' hd bd W' ∧ (∀ L, Wal.readGroups (64 * u) bd.data.toList = some L → GRows (fun j => W.heap.size ≤ j ∧ j < W'.heap.size) v' L W') := by
  have hB := row_lt h.b6
  have hr2 := fun x => readGroups_any bd u hs hu x
  generalize Wal.readGroups (64 * u) bd.data.toList = r at *
  have Hr := Lib.hid hr2; clear hr2
  have H := Lib.hid h; clear h
  go_enter Tryz.func76, Tryz.ntmps76
  go_wp2_with fail
  refine wp_region_phases [([0, 1], [2, 3]), ([4, 5, 6, 7], [8, 9])] (by kernel_rfl) (by kernel_rfl) (fun z => z.cell? ⟨B + 4, 0, none⟩ = some (.pointer (some ⟨B + 3, 0, none⟩)) ∧ z.cell? ⟨B + 6, 0, none⟩ = some (.string bd)) ⟨H.out.c4, H.out.c6⟩ ?_
  simp only [wpPhases, pick, List.filterMap_cons, List.filterMap_nil, List.getElem?_toArray, List.getElem?_cons_zero, List.getElem?_cons_succ]
  refine take_load 72 (.tmp 1) ⟨B + 4, 0, none⟩ (.pointer (some ⟨B + 3, 0, none⟩)) rfl rfl rfl (fun u hu => load_any Tryz.underlying72 Tryz.isAgg72 hu.1) ?_
  simp only [Act.put, List.setIfInBounds_toArray, List.set_cons_zero, List.set_cons_succ]
  refine take_load 9 (.tmp 0) ⟨B + 6, 0, none⟩ (.string bd) rfl rfl rfl (fun u hu => load_any Tryz.underlying9 Tryz.isAgg9 hu.2) ?_
  simp only [Act.put, List.setIfInBounds_toArray, List.set_cons_zero, List.set_cons_succ]
  refine take_done ?_
  refine midk_wp rfl (call_wp 77 [.tmp 5] #[9] #[.string bd] rfl rfl rfl ?_)
  refine (Hr.out _).mono ?_; rintro e w1 ⟨h1, ⟨hn, rfl⟩ | ⟨L, v9, hn, rfl, hrow⟩⟩
  · have h2 := (H.out.new ((Below.refl _ W).drew)).new h1
    refine ⟨_, rfl, ⟨h2.c4, h2.c6⟩, ?_⟩
    simp only [Act.put, List.setIfInBounds_toArray, List.set_cons_zero, List.set_cons_succ]
    refine midk_one (.tuple #[.slice none 0 0, .int .i64 50]) rfl rfl ⟨h2.c4, h2.c6⟩ ?_
    simp only [Act.put, List.setIfInBounds_toArray, List.set_cons_zero, List.set_cons_succ]
    refine midk_done ?_
    refine take_one (.slice none 0 0) rfl (fun u _ => by go_simp) ?_
    simp only [Act.put, List.setIfInBounds_toArray, List.set_cons_zero, List.set_cons_succ]
    refine take_one (.int .i64 50) rfl (fun u _ => by go_simp) ?_
    simp only [Act.put, List.setIfInBounds_toArray, List.set_cons_zero, List.set_cons_succ]
    refine take_nil (.tmp 4) ⟨B + 3, 0, none⟩ rfl rfl rfl ?_
    simp only [Act.put, List.setIfInBounds_toArray, List.set_cons_zero, List.set_cons_succ]
    refine take_one (.pointer (some ⟨B + 3, 5, none⟩)) rfl (fun u _ => by go_simp) ?_
    simp only [Act.put, List.setIfInBounds_toArray, List.set_cons_zero, List.set_cons_succ]
    refine take_done ?_
    have h3 := h2.putV (.slice none 0 0)
    refine midk_store 129 (.tmp 10) (.tmp 7) _ _ rfl rfl rfl rfl (store_grps (h2.c3 5) (row_free h2.b3 5)) ⟨h3.c4, h3.c6⟩ ?_
    simp only [Act.put]
    refine midk_one (.int .i64 50) rfl rfl ⟨h3.c4, h3.c6⟩ ?_
    simp only [Act.put, List.setIfInBounds_toArray, List.set_cons_zero, List.set_cons_succ]
    refine midk_end ?_
    have hb : Turns (OpT B) W (w1.setCell ⟨B + 3, 5, none⟩ (.slice none 0 0)) := (((Turns.refl (OpT B) W).drew).trans (Turns.of_new h1 _) (fun _ _ e => e)).set (B + 3) 5 _ (fun _ => ⟨by omega, by omega⟩)
    have Hb := Lib.hid hb; clear hb
    have H3 := Lib.hid h3; clear h3
    clear h1 h2
    go_wp2_with fail
    go_ret
    exact ⟨by rw [hn]; rfl, Hb.out, _, H3.out, fun L hL => by rw [hn] at hL; cases hL⟩
  · obtain ⟨a9, cap9, hv9, _⟩ := hrow.form
    subst hv9
    have h2 := (H.out.new ((Below.refl _ W).drew)).new h1
    refine ⟨_, rfl, ⟨h2.c4, h2.c6⟩, ?_⟩
    simp only [Act.put, List.setIfInBounds_toArray, List.set_cons_zero, List.set_cons_succ]
    refine midk_one (.tuple #[.slice a9 L.length cap9, .int .i64 0]) rfl rfl ⟨h2.c4, h2.c6⟩ ?_
    simp only [Act.put, List.setIfInBounds_toArray, List.set_cons_zero, List.set_cons_succ]
    refine midk_done ?_
    refine take_one (.slice a9 L.length cap9) rfl (fun u _ => by go_simp) ?_
    simp only [Act.put, List.setIfInBounds_toArray, List.set_cons_zero, List.set_cons_succ]
    refine take_one (.int .i64 0) rfl (fun u _ => by go_simp) ?_
    simp only [Act.put, List.setIfInBounds_toArray, List.set_cons_zero, List.set_cons_succ]
    refine take_nil (.tmp 4) ⟨B + 3, 0, none⟩ rfl rfl rfl ?_
    simp only [Act.put, List.setIfInBounds_toArray, List.set_cons_zero, List.set_cons_succ]
    refine take_one (.pointer (some ⟨B + 3, 5, none⟩)) rfl (fun u _ => by go_simp) ?_
    simp only [Act.put, List.setIfInBounds_toArray, List.set_cons_zero, List.set_cons_succ]
    refine take_done ?_
    have h3 := h2.putV (.slice a9 L.length cap9)
    refine midk_store 129 (.tmp 10) (.tmp 7) _ _ rfl rfl rfl rfl (store_grps (h2.c3 5) (row_free h2.b3 5)) ⟨h3.c4, h3.c6⟩ ?_
    simp only [Act.put]
    refine midk_one (.int .i64 0) rfl rfl ⟨h3.c4, h3.c6⟩ ?_
    simp only [Act.put, List.setIfInBounds_toArray, List.set_cons_zero, List.set_cons_succ]
    refine midk_end ?_
    have hb : Turns (OpT B) W (w1.setCell ⟨B + 3, 5, none⟩ (.slice a9 L.length cap9)) := (((Turns.refl (OpT B) W).drew).trans (Turns.of_new h1 _) (fun _ _ e => e)).set (B + 3) 5 _ (fun _ => ⟨by omega, by omega⟩)
    have Hb := Lib.hid hb; clear hb
    have H3 := Lib.hid h3; clear h3
    have hb3 := row_lt H.out.b3
    have hrow2 : GRows (fun j => W.heap.size ≤ j ∧ j < (w1.setCell ⟨B + 3, 5, none⟩ (.slice a9 L.length cap9)).heap.size) (.slice a9 L.length cap9) L (w1.setCell ⟨B + 3, 5, none⟩ (.slice a9 L.length cap9)) := by
      have hq := hrow.keeps (T := fun j => j = B + 3) ((Turns.refl _ w1).set (B + 3) 5 (.slice a9 L.length cap9) (fun _ => rfl)) (fun j hj e => by have := hj.1; simp at this; omega)
      have hsz : (w1.setCell ⟨B + 3, 5, none⟩ (.slice a9 L.length cap9)).heap.size = w1.heap.size := by simp [World.setCell]
      rw [hsz]; exact hq
    have Hrow2 := Lib.hid hrow2; clear hrow2
    clear hrow
    clear h1 h2
    go_wp2_with fail
    go_ret
    exact ⟨by rw [hn]; rfl, Hb.out, _, H3.out, fun L' hL => by rw [hn] at hL; cases hL; exact Hrow2.out⟩
end
end Go.Proofs.YtalklpnekbfehaaGreat

/-
  What Open returns.
-/
set_option linter.unusedVariables false
set_option maxRecDepth 100000
namespace Go.Proofs.YtalklpnekbfehaaGreat
open Go.RowKit

theorem open_nil (from_ n : Int) (w : World) : Calls Tryz.prog 47 #[.pointer none, .int .i64 from_, .int .i64 n] w fun e w' => e = .returned (.tuple #[.pointer none, .int .i64 1]) ∧ Below w.heap.size w w' := by
  go_enter Tryz.func47, Tryz.ntmps47
  go_wp2
  go_ret2
  refine ⟨rfl, ?_⟩
  exact (((Below.refl _ w).alloc (Nat.le_refl _) _).alloc (by simp) _).alloc (by simp; omega) _

section
variable {S : Nat → Prop} {p : Nat} {d : Dsk.St} {w : World}
theorem open_arg (h : DiskAt S p d w) (from_ n : Int) (hf : -9223372036854775808 ≤ from_ ∧ from_ ≤ 9223372036854775807) (hn : -9223372036854775808 ≤ n ∧ n ≤ 9223372036854775807) (hb : n < 2 ∨ ¬ (0 ≤ from_ ∧ n ≤ (d.n : Int) - from_)) :
    Calls Tryz.prog 47 #[.pointer (some ⟨p, 0, none⟩), .int .i64 from_, .int .i64 n] w fun e w' => e = .returned (.tuple #[.pointer none, .int .i64 2]) ∧ Below w.heap.size w w' := by
  have hbel : ∀ x y z : Obj, Below w.heap.size w (((w.alloc x).alloc y).alloc z) := fun x y z => (((Below.refl _ w).alloc (Nat.le_refl _) _).alloc (by simp) _).alloc (by simp; omega) _
  have Hbel := Lib.hid hbel; clear hbel
  by_cases h2 : n < 2
  · have hx : decide (n < 2) = true := decide_eq_true h2
    clear h hb
    go_enter Tryz.func47, Tryz.ntmps47
    go_wp2
    go_ret2
    exact ⟨rfl, Hbel.out _ _ _⟩
  · have hx : decide (n < 2) = false := decide_eq_false h2
    have hb2 : ¬ (0 ≤ from_ ∧ n ≤ (d.n : Int) - from_) := by
      rcases hb with hb | hb
      · exact absurd hb h2
      · exact hb
    have hh := fun (u : World) (hu : DiskAt S p d u) => walHas_any hu from_ n hf hn
    have hc := hh _ (h.new (Hbel.out (.cells #[.pointer (some ⟨p, 0, none⟩)] 34) (.cells #[.int .i64 from_] 3) (.cells #[.int .i64 n] 3)))
    rw [decide_eq_false hb2] at hc
    have Hc := Lib.hid hc; clear hc
    clear h hb hh hb2
    go_enter Tryz.func47, Tryz.ntmps47
    go_wp2_with fail
    refine Hc.out.mono ?_; rintro e w1 ⟨rfl, rfl⟩
    go_wp2_with fail
    go_ret2
    exact ⟨rfl, Hbel.out _ _ _⟩

end

/-! what Open's steps come to -/
def opG : Nat → Nat
  | 0 => 72
  | 1 => 73
  | 2 => 75
  | _ => 76
def opL (B : Nat) : Nat → Array Value
  | 0 => #[.pointer (some ⟨B, 0, none⟩), .pointer (some ⟨B + 1, 0, none⟩), .pointer (some ⟨B + 5, 0, none⟩)]
  | 1 => #[.pointer (some ⟨B + 5, 0, none⟩), .pointer (some ⟨B + 2, 0, none⟩), .pointer (some ⟨B + 4, 0, none⟩)]
  | 2 => #[.pointer (some ⟨B, 0, none⟩), .pointer (some ⟨B + 1, 0, none⟩), .pointer (some ⟨B + 4, 0, none⟩), .pointer (some ⟨B + 6, 0, none⟩)]
  | _ => #[.pointer (some ⟨B + 6, 0, none⟩), .pointer (some ⟨B + 4, 0, none⟩)]
section
variable (d : Dsk.St) (k n : Nat)
def opHd : ByteArray := ba (Dsk.read d (k : Int) 1).1
def opM : Option (Nat × Nat) := Wal.readMark (opHd d k).data.toList (n - 1)
def opGen : Nat := ((opM d k n).getD (0, 0)).1
def opU : Nat := ((opM d k n).getD (0, 0)).2
def opBd : ByteArray := ba (Dsk.read d ((k : Int) + 1) (opU d k n : Int)).1
def opR : Option (List Wal.Grp) := Wal.readGroups (64 * opU d k n) (opBd d k n).data.toList
def opE : Nat → Int
  | 0 => (Dsk.read d (k : Int) 1).2
  | 1 => markE (opM d k n)
  | 2 => (Dsk.read d ((k : Int) + 1) (opU d k n : Int)).2
  | _ => grpsE (opR d k n)
variable {d k n}
theorem read_fit (h2 : k + n ≤ d.n) : (d.down = true ∧ Dsk.read d (k : Int) (n : Int) = ([], 40)) ∨ (d.down = false ∧ Dsk.read d (k : Int) (n : Int) = (Dsk.rd d k n, 0)) := by
  unfold Dsk.read
  cases hd : d.down with
  | true => exact .inl ⟨rfl, by simp⟩
  | false =>
    refine .inr ⟨rfl, ?_⟩
    rw [if_neg (by simp), if_pos ⟨by omega, by omega, by omega⟩]
    simp
theorem opU_le (h2 : 2 ≤ n) : opU d k n ≤ n - 1 ∧ (∀ x, opM d k n = some x → x = (opGen d k n, opU d k n)) := by
  unfold opU opGen
  cases hm : opM d k n with
  | none => exact ⟨by simp, fun x hx => by cases hx⟩
  | some x =>
    obtain ⟨g, u⟩ := x
    have := Wal.readMark_le (s := (opHd d k).data.toList) hm
    exact ⟨this.1, fun y hy => by cases hy; rfl⟩
theorem open_eval (h2 : 2 ≤ n) (hfit : k + n ≤ d.n) :
    (opE d k n 0 ≠ 0 → Wal.open_ d (k : Int) (n : Int) = (none, opE d k n 0)) ∧
    (opE d k n 0 = 0 → opE d k n 1 ≠ 0 → Wal.open_ d (k : Int) (n : Int) = (none, opE d k n 1)) ∧
    (opE d k n 0 = 0 → opE d k n 2 = 0 ∧ d.down = false ∧ (opHd d k) = ba (Dsk.rd d k 1) ∧ opBd d k n = ba (Dsk.rd d (k + 1) (opU d k n))) ∧
    (opE d k n 0 = 0 → opE d k n 1 = 0 → opE d k n 3 ≠ 0 → Wal.open_ d (k : Int) (n : Int) = (none, opE d k n 3)) ∧
    (opE d k n 0 = 0 → opE d k n 1 = 0 → opE d k n 3 = 0 → ∃ L, opR d k n = some L ∧ Wal.open_ d (k : Int) (n : Int) = (some ⟨opGen d k n, opU d k n, k, n, L, 0⟩, 0)) := by
  have r1 := read_fit (d := d) (k := k) (n := 1) (by omega)
  have hu := opU_le (d := d) (k := k) h2
  have r2 := read_fit (d := d) (k := k + 1) (n := opU d k n) (by omega)
  have e1 : ((k + 1 : Nat) : Int) = (k : Int) + 1 := by omega
  rw [e1] at r2
  have hr : ¬ ((n : Int) < 2 ∨ ¬ (0 ≤ (k : Int) ∧ (k : Int) + (n : Int) ≤ (d.n : Int))) := by omega
  have ho : Wal.open_ d (k : Int) (n : Int) = if d.down = true then ((none, 40) : Option Wal.St × Int) else match Wal.readMark (Dsk.rd d k 1) (n - 1) with
    | none => ((none, 50) : Option Wal.St × Int)
    | some (g, u) => match Wal.readGroups (64 * u) (Dsk.rd d (k + 1) u) with
      | none => ((none, 50) : Option Wal.St × Int)
      | some L => (some ⟨g, u, k, n, L, 0⟩, 0) := by
    unfold Wal.open_
    rw [if_neg hr]
    rfl
  have q1 : (Dsk.read d (k : Int) 1) = (Dsk.read d (k : Int) ((1 : Nat) : Int)) := rfl
  rcases r1 with ⟨hd, r1⟩ | ⟨hd, r1⟩
  · have h0 : opE d k n 0 = 40 := by show (Dsk.read d (k : Int) 1).2 = 40; rw [q1, r1]
    rw [h0, ho, if_pos hd]
    exact ⟨fun _ => rfl, fun h => absurd h (by decide), fun h => absurd h (by decide), fun h => absurd h (by decide), fun h => absurd h (by decide)⟩
  · have h0 : opE d k n 0 = 0 := by show (Dsk.read d (k : Int) 1).2 = 0; rw [q1, r1]
    have hhd : opHd d k = ba (Dsk.rd d k 1) := by show ba (Dsk.read d (k : Int) 1).1 = _; rw [q1, r1]
    have r2' : Dsk.read d ((k : Int) + 1) (opU d k n : Int) = (Dsk.rd d (k + 1) (opU d k n), 0) := by
      rcases r2 with ⟨hd2, _⟩ | ⟨_, r2⟩
      · rw [hd] at hd2; cases hd2
      · exact r2
    have hbd : opBd d k n = ba (Dsk.rd d (k + 1) (opU d k n)) := by show ba (Dsk.read d ((k : Int) + 1) (opU d k n : Int)).1 = _; rw [r2']
    have h2' : opE d k n 2 = 0 := by show (Dsk.read d ((k : Int) + 1) (opU d k n : Int)).2 = 0; rw [r2']
    have hm : Wal.readMark (Dsk.rd d k 1) (n - 1) = opM d k n := by unfold opM; rw [hhd, ba_list]
    have hg : Wal.readGroups (64 * opU d k n) (Dsk.rd d (k + 1) (opU d k n)) = opR d k n := by unfold opR; rw [hbd, ba_list]
    rw [ho, if_neg (by rw [hd]; decide), hm]
    have E1 : opE d k n 1 = markE (opM d k n) := rfl
    have E3 : opE d k n 3 = grpsE (opR d k n) := rfl
    refine ⟨fun h => absurd h0 h, fun _ h1 => ?_, fun _ => ⟨h2', hd, hhd, hbd⟩, fun _ h1 h3 => ?_, fun _ h1 h3 => ?_⟩
    · rw [E1] at h1 ⊢
      cases hc : opM d k n with
      | none => rfl
      | some x => rw [hc] at h1; exact absurd rfl h1
    · rw [E1] at h1
      cases hc : opM d k n with
      | none => rw [hc] at h1; exact absurd h1 (by decide)
      | some x =>
        obtain rfl := hu.2 x hc
        simp only []
        rw [hg, E3]
        rw [E3] at h3
        cases hq : opR d k n with
        | none => rfl
        | some L => rw [hq] at h3; exact absurd rfl h3
    · rw [E1] at h1
      cases hc : opM d k n with
      | none => rw [hc] at h1; exact absurd h1 (by decide)
      | some x =>
        obtain rfl := hu.2 x hc
        simp only []
        rw [hg]
        rw [E3] at h3
        cases hq : opR d k n with
        | none => rw [hq] at h3; exact absurd h3 (by decide)
        | some L => exact ⟨L, rfl, rfl⟩
end

/-- what Open's steps keep -/
def OpI (S : Nat → Prop) (p : Nat) (d : Dsk.St) (B k n : Nat) (w0 : World) (j : Nat) (W : World) : Prop :=
  Turns (OpT B) w0 W ∧ (match j with
    | 0 => Opn S p d B k n 0 0 (.slice none 0 0) ⟨#[]⟩ ⟨#[]⟩ W
    | 1 => Opn S p d B k n 0 0 (.slice none 0 0) (opHd d k) ⟨#[]⟩ W
    | 2 => Opn S p d B k n (opGen d k n) (opU d k n) (.slice none 0 0) (opHd d k) ⟨#[]⟩ W
    | 3 => Opn S p d B k n (opGen d k n) (opU d k n) (.slice none 0 0) (opHd d k) (opBd d k n) W
    | _ => ∃ v, Opn S p d B k n (opGen d k n) (opU d k n) v (opHd d k) (opBd d k n) W ∧ ∀ L, opR d k n = some L → GRows (fun i => B + 7 ≤ i ∧ i < W.heap.size) v L W)

def opFuncs (B : Nat) : Array Value := #[.func (.func 72) #[] (opL B 0), .func (.func 73) #[] (opL B 1), .func (.func 75) #[] (opL B 2), .func (.func 76) #[] (opL B 3)]
theorem alloc_at (w : World) (o : Obj) (j : Nat) (h : w.heap.size = j) : (w.alloc o).heap[j]? = some o := by subst h; exact heap_alloc_new w o
theorem op_eg (i : Nat) (args : Array Value) (w : World) : (callFunc (opG i) args).run Tryz.prog w = .ok (.enter (opG i) args) w := by
  match i with
  | 0 => exact enters_of Tryz.func72 (by kernel_rfl) rfl args w
  | 1 => exact enters_of Tryz.func73 (by kernel_rfl) rfl args w
  | 2 => exact enters_of Tryz.func75 (by kernel_rfl) rfl args w
  | (j + 3) => exact enters_of Tryz.func76 (by kernel_rfl) rfl args w

theorem op_follow {S : Nat → Prop} {p : Nat} {d : Dsk.St} {B k n : Nat} (h2 : 2 ≤ n) (hfit : k + n ≤ d.n) (hdn : d.n ≤ 16384) (hok : d.Ok) (w0 : World) (h0 : Opn S p d B k n 0 0 (.slice none 0 0) ⟨#[]⟩ ⟨#[]⟩ w0)
    (hf : w0.heap[B + 7]? = some (.cells (opFuncs B) 33 (0, 0))) :
    Calls Tryz.prog 33 #[.slice (some ⟨B + 7, 0, none⟩) 4 4] w0 (Went 4 (opE d k n) (OpI S p d B k n w0)) := by
  have hu := opU_le (d := d) (k := k) h2
  obtain ⟨_, _, o3, _, _⟩ := open_eval (d := d) (k := k) h2 hfit
  have hB7 := row_lt hf
  refine follow_any (B + 7) 4 opG (opL B) (fun i _ => op_eg i) (opE d k n) (OpI S p d B k n w0) (by omega) w0 ?_ ?_ ⟨Turns.refl _ _, h0⟩
  · intro j W hI i hi
    have hrow := hI.1.same hf (by unfold OpT; omega)
    rw [cell_of_row _ _ i _ _ _ hrow]
    match i, hi with
    | 0, _ => rfl
    | 1, _ => rfl
    | 2, _ => rfl
    | 3, _ => rfl
    | (m + 4), h => exact absurd h (by omega)
  · intro j W hj hz ⟨hT, hI⟩
    match j, hj, hz, hI with
    | 0, _, _, hI => exact (open1_any hI (by omega)).mono fun e W' ⟨h1, h2, h3⟩ => ⟨h1, hT.trans h3 (fun _ _ e => e), h2⟩
    | 1, _, hz, hI =>
      obtain ⟨_, hd, hhd, _⟩ := o3 (hz 0 (by omega))
      exact (open2_any hI (by rw [hhd, ba_size, Dsk.rd_length hok]) (by omega) (by omega)).mono fun e W' ⟨h1, h2, h3⟩ => ⟨h1, hT.trans h3 (fun _ _ e => e), h2⟩
    | 2, _, _, hI => exact (open3_any hI (by omega) (by omega)).mono fun e W' ⟨h1, h2, h3⟩ => ⟨h1, hT.trans h3 (fun _ _ e => e), h2⟩
    | 3, _, hz, hI =>
      obtain ⟨_, hd, _, hbd⟩ := o3 (hz 0 (by omega))
      have hsz := hT.size
      exact (open4_any hI (by rw [hbd, ba_size, Dsk.rd_length hok]) (by omega)).mono fun e W' ⟨h1, h2, v', h3, h4⟩ => ⟨h1, hT.trans h2 (fun _ _ e => e), v', h3, fun L hL => (h4 L hL).grow (fun i hi => ⟨by omega, hi.2⟩) (fun i hi => hi.2)⟩
    | (m + 4), h, _, _ => exact absurd h (by omega)
end Go.Proofs.YtalklpnekbfehaaGreat

/-
  What Open returns: the log that is there, or none.
-/
set_option linter.unusedVariables false
set_option maxRecDepth 100000
namespace Go.Proofs.YtalklpnekbfehaaGreat
open Go.RowKit

/-- what was opened: no log and an error, or a log, whose blocks are new -/
def OpenR (r : Option Wal.St × Int) (p : Nat) (w : World) (e : Ending) (w' : World) : Prop :=
  Below w.heap.size w w' ∧ ((r.1 = none ∧ r.2 ≠ 0 ∧ e = .returned (.tuple #[.pointer none, .int .i64 r.2])) ∨
    ∃ s R q, r.1 = some s ∧ r.2 = 0 ∧ e = .returned (.tuple #[.pointer (some ⟨q, 0, none⟩), .int .i64 0]) ∧ WalAt R q p s w' ∧ ∀ j, R j → w.heap.size ≤ j)

theorem below_turns {w w0 w' : World} (hb : Below w.heap.size w w0) (ht : Turns (OpT w.heap.size) w0 w') : Below w.heap.size w w' :=
  ⟨ht.os.trans hb.os, ht.tape.trans hb.tape, ht.output.trans hb.output, Nat.le_trans hb.size ht.size, fun j hj => by
    rw [ht.block j (Nat.lt_of_lt_of_le hj hb.size) (by unfold OpT; omega)]; exact hb.block j hj⟩

section
variable {S : Nat → Prop} {p : Nat} {d : Dsk.St} {w : World}
theorem open_any (h : DiskAt S p d w) (k n : Nat) (h2 : 2 ≤ n) (hfit : k + n ≤ d.n) :
    Calls Tryz.prog 47 #[.pointer (some ⟨p, 0, none⟩), .int .i64 (k : Int), .int .i64 (n : Int)] w (OpenR (Wal.open_ d (k : Int) (n : Int)) p w) := by
  have hbel : ∀ x y z : Obj, Below w.heap.size w (((w.alloc x).alloc y).alloc z) := fun x y z => (((Below.refl _ w).alloc (Nat.le_refl _) _).alloc (by simp) _).alloc (by simp; omega) _
  have Hbel := Lib.hid hbel; clear hbel
  have hx : decide ((n : Int) < 2) = false := decide_eq_false (by omega)
  have hdn := h.ok.hi
  have hok := h.ok
  have hh := fun (u : World) (hu : DiskAt S p d u) => walHas_any hu (k : Int) (n : Int) ⟨by omega, by omega⟩ ⟨by omega, by omega⟩
  have hc := hh _ (h.new (Hbel.out (.cells #[.pointer (some ⟨p, 0, none⟩)] 34) (.cells #[.int .i64 (k : Int)] 3) (.cells #[.int .i64 (n : Int)] 3)))
  rw [decide_eq_true (show 0 ≤ (k : Int) ∧ (n : Int) ≤ (d.n : Int) - (k : Int) by omega)] at hc
  have Hc := Lib.hid hc; clear hc
  have H := Lib.hid h; clear h
  have Hok := Lib.hid hok; clear hok
  clear hh
  obtain ⟨B, hBw⟩ : ∃ B, w.heap.size = B := ⟨_, rfl⟩
  have HB := Lib.hid hBw
  obtain ⟨W0, hW0⟩ : ∃ W0, W0 = (((((((w.alloc (.cells #[.pointer (some ⟨p, 0, none⟩)] 34)).alloc (.cells #[.int .i64 (k : Int)] 3)).alloc (.cells #[.int .i64 (n : Int)] 3)).alloc
    (.cells (opcells p k n 0 0 (.slice none 0 0)) 131)).alloc (.cells #[.pointer (some ⟨B + 3, 0, none⟩)] 72)).alloc (.cells #[.string ⟨#[]⟩] 9)).alloc (.cells #[.string ⟨#[]⟩] 9)).alloc (.cells (opFuncs B) 33) := ⟨_, rfl⟩
  have hb0 : Below B w W0 := by
    rw [hW0]
    have hz := hBw
    exact (((((((((Below.refl B w).alloc (by omega) _).alloc (by simp; omega) _).alloc (by simp; omega) _).alloc (by simp; omega) _).alloc (by simp; omega) _).alloc (by simp; omega) _).alloc (by simp; omega) _).alloc (by simp; omega) _)
  have hO : Opn S p d B k n 0 0 (.slice none 0 0) ⟨#[]⟩ ⟨#[]⟩ W0 := by
    refine ⟨H.out.new (by rw [hBw]; exact hb0), fun j hj => by rw [← hBw]; exact H.out.lt j hj, ?_, ?_, ?_, ?_, ?_, ?_, ?_⟩
    all_goals rw [hW0]
    · exact row_alloc (row_alloc (row_alloc (row_alloc (row_alloc (row_alloc (row_alloc (alloc_at _ _ _ hBw) _) _) _) _) _) _) _
    · exact row_alloc (row_alloc (row_alloc (row_alloc (row_alloc (row_alloc (alloc_at _ _ _ (by simp [hBw])) _) _) _) _) _) _
    · exact row_alloc (row_alloc (row_alloc (row_alloc (row_alloc (alloc_at _ _ _ (by simp [hBw])) _) _) _) _) _
    · exact row_alloc (row_alloc (row_alloc (row_alloc (alloc_at _ _ _ (by simp [hBw])) _) _) _) _
    · exact row_alloc (row_alloc (row_alloc (alloc_at _ _ _ (by simp [hBw])) _) _) _
    · exact row_alloc (row_alloc (alloc_at _ _ _ (by simp [hBw])) _) _
    · exact row_alloc (alloc_at _ _ _ (by simp [hBw])) _
  have hF : W0.heap[B + 7]? = some (.cells (opFuncs B) 33 (0, 0)) := by rw [hW0]; exact alloc_at _ _ _ (by simp [hBw])
  have hfo := op_follow h2 hfit hdn Hok.out W0 hO hF
  have HW := Lib.hid hW0; clear hW0
  have HO := Lib.hid hO; clear hO
  have Hb0 := Lib.hid hb0; clear hb0
  have HF := Lib.hid hF; clear hF
  have Hfo := Lib.hid hfo; clear hfo
  clear hBw
  go_enter Tryz.func47, Tryz.ntmps47
  go_wp2_with fail
  refine Hc.out.mono ?_; rintro e w1 ⟨rfl, rfl⟩
  go_wp2_with fail
  have hbe := HB.out
  subst hbe
  have hw := HW.out
  clear HW
  subst hw
  refine Calls.mono Hfo.out ?_
  rintro e W ⟨m, hm, hz, hcase⟩
  obtain ⟨o0, o1, o2, o3, o4⟩ := open_eval (d := d) (k := k) h2 hfit
  rcases hcase with ⟨rfl, rfl, hT, v, hI, hG⟩ | ⟨hlt, hne, rfl, hT, hI⟩
  · have hbw := below_turns Hb0.out hT
    have z0 := hz 0 (by omega)
    have z1 := hz 1 (by omega)
    have z3 := hz 3 (by omega)
    obtain ⟨L, hL, ho⟩ := o4 z0 z1 z3
    have hgr := hG L hL
    have hres : OpenR (Wal.open_ d (k : Int) (n : Int)) p w (.returned (.tuple #[.pointer (some ⟨w.heap.size + 3, 0, none⟩), .int .i64 0])) W := by
      refine ⟨hbw, .inr ⟨⟨opGen d k n, opU d k n, k, n, L, 0⟩, fun j => w.heap.size ≤ j ∧ j < W.heap.size, w.heap.size + 3, by rw [ho], by rw [ho], rfl, ⟨v, ⟨by omega, row_lt hI.b3⟩, hI.b3, hgr.grow (fun j hj => ⟨by omega, hj.2⟩) (fun j hj => hj.2)⟩, fun j hj => hj.1⟩⟩
    have c4 := hI.c4
    have Hres := Lib.hid hres; clear hres
    clear hI hG hgr hT hbw o0 o1 o2 o3 o4 hz z0 z1 z3 ho hL hdn
    go_wp2_with fail
    go_ret2
    exact Hres.out
  · have hbw : Below w.heap.size w W := below_turns Hb0.out hT
    have hres : OpenR (Wal.open_ d (k : Int) (n : Int)) p w (.returned (.tuple #[.pointer none, .int .i64 (opE d k n m)])) W := by
      have ho : Wal.open_ d (k : Int) (n : Int) = (none, opE d k n m) := by
        match m, hlt, hz, hne with
        | 0, _, _, hne => exact o0 hne
        | 1, _, hz, hne => exact o1 (hz 0 (by omega)) hne
        | 2, _, hz, hne => exact absurd (o2 (hz 0 (by omega))).1 hne
        | 3, _, hz, hne => exact o3 (hz 0 (by omega)) (hz 1 (by omega)) hne
        | (q + 4), h, _, _ => exact absurd h (by omega)
      exact ⟨hbw, .inl ⟨by rw [ho], by rw [ho]; exact hne, by rw [ho]⟩⟩
    have hx2 : (opE d k n m != 0) = true := by rw [bne_iff_ne]; exact hne
    generalize opE d k n m = E at *
    have Hres := Lib.hid hres; clear hres
    clear hI hT hbw o0 o1 o2 o3 o4 hz hdn hne
    go_wp2_with fail
    go_ret2
    exact Hres.out
end
end Go.Proofs.YtalklpnekbfehaaGreat

/-
  What lies in memory while a log is appended to, or reset.
-/
set_option linter.unusedVariables false
set_option maxRecDepth 100000
namespace Go.Proofs.YtalklpnekbfehaaGreat
open Go.RowKit

/-- a log and its disk, and blocks that stay as they are, in a world that came of w; there the disk had S0, the log R0 -/
structure Apn (w : World) (S0 R0 : Nat → Prop) (kept : List (Nat × Obj)) (S R : Nat → Prop) (p q : Nat) (d : Dsk.St) (s : Wal.St) (W : World) : Prop where
  disk : DiskAt S q d W
  wal : WalAt R p q s W
  apart : ∀ j, S j → ¬ R j
  rows : ∀ x ∈ kept, W.heap[x.1]? = some x.2 ∧ ¬ S x.1 ∧ ¬ R x.1
  loS : ∀ j, S j → S0 j ∨ w.heap.size ≤ j
  loR : ∀ j, R j → R0 j ∨ w.heap.size ≤ j
  turns : Turns (fun j => S0 j ∨ R0 j) w W

section
variable {w : World} {S0 R0 : Nat → Prop} {kept : List (Nat × Obj)} {S R : Nat → Prop} {p q : Nat} {d : Dsk.St} {s : Wal.St} {W W' : World}
theorem Apn.start (hd : DiskAt S0 q d w) (hw : WalAt R0 p q s w) (ha : ∀ j, S0 j → ¬ R0 j) : Apn w S0 R0 [] S0 R0 p q d s w :=
  ⟨hd, hw, ha, fun x hx => by simp at hx, fun j hj => .inl hj, fun j hj => .inl hj, Turns.refl _ _⟩
theorem Apn.new (h : Apn w S0 R0 kept S R p q d s W) (hb : Below W.heap.size W W') : Apn w S0 R0 kept S R p q d s W' :=
  ⟨h.disk.new hb, h.wal.new hb, h.apart, fun x hx => ⟨by rw [hb.block _ (row_lt (h.rows x hx).1)]; exact (h.rows x hx).1, (h.rows x hx).2⟩, h.loS, h.loR, h.turns.trans (Turns.of_new hb (fun _ => False)) (fun _ _ e => e.elim)⟩
/-- a block more, that is new to both -/
theorem Apn.add (h : Apn w S0 R0 kept S R p q d s W) (x : Nat × Obj) (hx : W.heap[x.1]? = some x.2) (hS : ¬ S x.1) (hR : ¬ R x.1) : Apn w S0 R0 (x :: kept) S R p q d s W :=
  ⟨h.disk, h.wal, h.apart, fun y hy => by
    rcases List.mem_cons.1 hy with rfl | hy
    · exact ⟨hx, hS, hR⟩
    · exact h.rows y hy, h.loS, h.loR, h.turns⟩
theorem Apn.box (h : Apn w S0 R0 kept S R p q d s W) (o : Obj) (b : Nat) (hb : W.heap.size = b) : Apn w S0 R0 ((b, o) :: kept) S R p q d s (W.alloc o) := by
  subst hb
  refine (h.new ((Below.refl _ W).alloc (Nat.le_refl _) o)).add (W.heap.size, o) (heap_alloc_new W o) (fun e => ?_) (fun e => ?_)
  · exact absurd (h.disk.lt _ e) (by simp)
  · exact absurd (h.wal.lt _ e) (by simp)
theorem Apn.row (h : Apn w S0 R0 kept S R p q d s W) {b : Nat} {o : Obj} (hm : (b, o) ∈ kept) : W.heap[b]? = some o := (h.rows _ hm).1
/-- the disk has turned -/
theorem Apn.turnDisk (h : Apn w S0 R0 kept S R p q d s W) {S' : Nat → Prop} {d' : Dsk.St} (ht : Turns S W W') (hS : ∀ j, S' j → S j ∨ W.heap.size ≤ j) (hd : DiskAt S' q d' W') : Apn w S0 R0 kept S' R p q d' s W' := by
  have hsz := h.turns.size
  refine ⟨hd, h.wal.keeps ht (fun j hr hs => h.apart j hs hr), fun j hj hr => ?_, fun x hx => ?_, fun j hj => ?_, h.loR, h.turns.trans ht (fun j hj hs => ?_)⟩
  · rcases hS j hj with e | e
    · exact h.apart j e hr
    · have := h.wal.lt j hr; omega
  · obtain ⟨h1, h2, h3⟩ := h.rows x hx
    refine ⟨ht.same h1 h2, fun e => ?_, h3⟩
    rcases hS _ e with e | e
    · exact h2 e
    · have := row_lt h1; omega
  · rcases hS j hj with e | e
    · exact h.loS j e
    · exact .inr (by omega)
  · rcases h.loS j hs with e | e
    · exact .inl e
    · omega
/-- the log has turned -/
theorem Apn.turnWal (h : Apn w S0 R0 kept S R p q d s W) {R' : Nat → Prop} {s' : Wal.St} (ht : Turns R W W') (hR : ∀ j, R' j → R j ∨ W.heap.size ≤ j) (hw : WalAt R' p q s' W') : Apn w S0 R0 kept S R' p q d s' W' := by
  have hsz := h.turns.size
  refine ⟨h.disk.keeps ht (fun j hs hr => h.apart j hs hr), hw, fun j hj hr => ?_, fun x hx => ?_, h.loS, fun j hj => ?_, h.turns.trans ht (fun j hj hs => ?_)⟩
  · rcases hR j hr with e | e
    · exact h.apart j hj e
    · have := h.disk.lt j hj; omega
  · obtain ⟨h1, h2, h3⟩ := h.rows x hx
    refine ⟨ht.same h1 h3, h2, fun e => ?_⟩
    rcases hR _ e with e | e
    · exact h3 e
    · have := row_lt h1; omega
  · rcases hR j hj with e | e
    · exact h.loR j e
    · exact .inr (by omega)
  · rcases h.loR j hs with e | e
    · exact .inr e
    · omega
/-- texts that lie apart -/
theorem Strs.turns {T : Nat → Prop} {a : Option Addr} {len : Nat} {l : List ByteArray} (h : Strs a len l w) (ht : Turns T w W) (hn : ∀ b off, 0 < len → a = some ⟨b, off, none⟩ → ¬ T b) : Strs a len l W := by
  refine ⟨h.1, fun j hj => ?_⟩
  obtain ⟨b, off, rfl, hc⟩ := h.2 j hj
  exact ⟨b, off, rfl, by rw [World.cell?_of_block (ht.block b (cell_lt hc) (hn b off (by omega) rfl))]; exact hc⟩
end
end Go.Proofs.YtalklpnekbfehaaGreat

/-
  The steps of Append and of Reset.
-/
set_option linter.unusedVariables false
set_option maxRecDepth 100000
namespace Go.Proofs.YtalklpnekbfehaaGreat
open Go.RowKit

def boxW (p : Nat) : Obj := .cells #[.pointer (some ⟨p, 0, none⟩)] 72 (0, 0)
def boxM (g u : Nat) : Obj := .cells #[.int .u64 (g : Int), .int .i64 (u : Int)] 128 (0, 0)
def boxI (n : Int) : Obj := .cells #[.int .i64 n] 3 (0, 0)
def boxS (s : ByteArray) : Obj := .cells #[.string s] 9 (0, 0)
def boxL (a : Option Addr) (len cap : Nat) : Obj := .cells #[.slice a len cap] 29 (0, 0)

section
variable {w : World} {S0 R0 : Nat → Prop} {kept : List (Nat × Obj)} {S R : Nat → Prop} {p q : Nat} {d : Dsk.St} {s : Wal.St} {W W' : World}
theorem Apn.cB (h : Apn w S0 R0 kept S R p q d s W) {B : Nat} (hB : (B, boxW p) ∈ kept) : W.cell? ⟨B, 0, none⟩ = some (.pointer (some ⟨p, 0, none⟩)) := by rw [cell_of_row _ _ 0 _ _ _ (h.row hB)]; rfl
theorem Apn.cD (h : Apn w S0 R0 kept S R p q d s W) : W.cell? ⟨p, 2, none⟩ = some (.pointer (some ⟨q, 0, none⟩)) := by obtain ⟨v, hv⟩ := h.wal; exact hv.c2
theorem Apn.cF (h : Apn w S0 R0 kept S R p q d s W) : W.cell? ⟨p, 3, none⟩ = some (.int .i64 (s.from_ : Int)) := by obtain ⟨v, hv⟩ := h.wal; exact hv.c3
theorem Apn.cI (h : Apn w S0 R0 kept S R p q d s W) {b : Nat} {n : Int} (hB : (b, boxI n) ∈ kept) : W.cell? ⟨b, 0, none⟩ = some (.int .i64 n) := by rw [cell_of_row _ _ 0 _ _ _ (h.row hB)]; rfl
theorem Apn.cS (h : Apn w S0 R0 kept S R p q d s W) {b : Nat} {x : ByteArray} (hB : (b, boxS x) ∈ kept) : W.cell? ⟨b, 0, none⟩ = some (.string x) := by rw [cell_of_row _ _ 0 _ _ _ (h.row hB)]; rfl
theorem Apn.cL (h : Apn w S0 R0 kept S R p q d s W) {b : Nat} {a : Option Addr} {len cap : Nat} (hB : (b, boxL a len cap) ∈ kept) : W.cell? ⟨b, 0, none⟩ = some (.slice a len cap) := by rw [cell_of_row _ _ 0 _ _ _ (h.row hB)]; rfl
theorem load_mark {u : World} {b g x : Nat} (h : u.heap[b]? = some (boxM g x)) : (Instr.loadAt 128 (.pointer (some ⟨b, 0, none⟩))).run Tryz.prog u = .ok (markV g x) u :=
  load_row (P := Tryz.prog) u b 128 128 _ (0, 0) _ h Tryz.underlying128 rfl (by kernel_rfl)

theorem ap2_any (h : Apn w S0 R0 kept S R p q d s W) {B : Nat} (hB : (B, boxW p) ∈ kept) (hops : d.ops ≤ 1099511627776) :
    Calls Tryz.prog 91 #[.pointer (some ⟨B, 0, none⟩)] W fun e W' => e = .returned (.int .i64 (Dsk.flush d).2) ∧ ∃ S', Apn w S0 R0 kept S' R p q (Dsk.flush d).1 s W' := by
  have c0 := h.cB hB
  have c2 := h.cD
  have hf := flush_all h.disk hops
  generalize (Dsk.flush d).2 = E at *
  have Hf := Lib.hid hf; clear hf
  have H := Lib.hid h; clear h
  clear hB
  go_enter Tryz.func91, Tryz.ntmps91
  go_wp2_with fail
  refine Hf.out.mono ?_; rintro e w1 ⟨rfl, ht, S', hS, hd⟩
  have h1 := H.out.turnDisk ht hS hd
  have H1 := Lib.hid h1; clear h1
  clear ht hd c0 c2
  go_wp2_with fail
  go_ret
  exact ⟨rfl, S', H1.out⟩

theorem ap4_any (h : Apn w S0 R0 kept S R p q d s W) {B : Nat} (hB : (B, boxW p) ∈ kept) (hops : d.ops ≤ 1099511627776) :
    Calls Tryz.prog 95 #[.pointer (some ⟨B, 0, none⟩)] W fun e W' => e = .returned (.int .i64 (Dsk.flush d).2) ∧ ∃ S', Apn w S0 R0 kept S' R p q (Dsk.flush d).1 s W' := by
  have c0 := h.cB hB
  have c2 := h.cD
  have hf := flush_all h.disk hops
  generalize (Dsk.flush d).2 = E at *
  have Hf := Lib.hid hf; clear hf
  have H := Lib.hid h; clear h
  clear hB
  go_enter Tryz.func95, Tryz.ntmps95
  go_wp2_with fail
  refine Hf.out.mono ?_; rintro e w1 ⟨rfl, ht, S', hS, hd⟩
  have h1 := H.out.turnDisk ht hS hd
  have H1 := Lib.hid h1; clear h1
  clear ht hd c0 c2
  go_wp2_with fail
  go_ret
  exact ⟨rfl, S', H1.out⟩

theorem re2_any (h : Apn w S0 R0 kept S R p q d s W) {B : Nat} (hB : (B, boxW p) ∈ kept) (hops : d.ops ≤ 1099511627776) :
    Calls Tryz.prog 126 #[.pointer (some ⟨B, 0, none⟩)] W fun e W' => e = .returned (.int .i64 (Dsk.flush d).2) ∧ ∃ S', Apn w S0 R0 kept S' R p q (Dsk.flush d).1 s W' := by
  have c0 := h.cB hB
  have c2 := h.cD
  have hf := flush_all h.disk hops
  generalize (Dsk.flush d).2 = E at *
  have Hf := Lib.hid hf; clear hf
  have H := Lib.hid h; clear h
  clear hB
  go_enter Tryz.func126, Tryz.ntmps126
  go_wp2_with fail
  refine Hf.out.mono ?_; rintro e w1 ⟨rfl, ht, S', hS, hd⟩
  have h1 := H.out.turnDisk ht hS hd
  have H1 := Lib.hid h1; clear h1
  clear ht hd c0 c2
  go_wp2_with fail
  go_ret
  exact ⟨rfl, S', H1.out⟩

theorem ap1_any (h : Apn w S0 R0 kept S R p q d s W) {B ta rb at_ : Nat} {row : ByteArray} (hB : (B, boxW p) ∈ kept) (hta : (ta, boxI (at_ : Int)) ∈ kept) (hrb : (rb, boxS row) ∈ kept) (hat : at_ ≤ 16384) (hrow : row.size ≤ 1048576) (hops : d.ops ≤ 1099511500000) :
    Calls Tryz.prog 88 #[.pointer (some ⟨B, 0, none⟩), .pointer (some ⟨ta, 0, none⟩), .pointer (some ⟨rb, 0, none⟩)] W fun e W' => e = .returned (.int .i64 (Dsk.write d (at_ : Int) (Wal.grp row.data.toList)).2) ∧ ∃ S', Apn w S0 R0 kept S' R p q (Dsk.write d (at_ : Int) (Wal.grp row.data.toList)).1 s W' := by
  have hg := fun x => groupText_any row (by omega) x
  have hsz : (ba (Wal.grp row.data.toList)).size ≤ 1048704 := by
    rw [ba_size, Wal.grp_length]
    have := Wal.whole_hi (4 + row.data.toList.length)
    rw [ba_len] at this
    unfold Wal.secs
    rw [ba_len]; omega
  have hw := fun (x : World) (hx : DiskAt S q d x) => write_all hx (at_ : Int) ⟨by omega, by omega⟩ (ba (Wal.grp row.data.toList)) (by omega) (by omega)
  rw [ba_list] at hw
  generalize ba (Wal.grp row.data.toList) = G at *
  generalize (Dsk.write d (at_ : Int) (Wal.grp row.data.toList)).2 = E at *
  have HG := Lib.hid hg; clear hg
  have HW := Lib.hid hw; clear hw
  have H := Lib.hid h; clear h
  go_enter Tryz.func88, Tryz.ntmps88
  go_wp2_with fail
  refine wp_region_phases [([0, 1, 2, 3, 4, 5], [6, 7, 8])] (by kernel_rfl) (by kernel_rfl) (fun z => z.cell? ⟨B, 0, none⟩ = some (.pointer (some ⟨p, 0, none⟩)) ∧ z.cell? ⟨p, 2, none⟩ = some (.pointer (some ⟨q, 0, none⟩)) ∧ z.cell? ⟨ta, 0, none⟩ = some (.int .i64 (at_ : Int)) ∧ z.cell? ⟨rb, 0, none⟩ = some (.string row)) ⟨H.out.cB hB, H.out.cD, H.out.cI hta, H.out.cS hrb⟩ ?_
  simp only [wpPhases, pick, List.filterMap_cons, List.filterMap_nil, List.getElem?_toArray, List.getElem?_cons_zero, List.getElem?_cons_succ]
  refine take_load 72 (.tmp 0) ⟨B, 0, none⟩ (.pointer (some ⟨p, 0, none⟩)) rfl rfl rfl (fun u hu => load_any Tryz.underlying72 Tryz.isAgg72 hu.1) ?_
  simp only [Act.put, List.setIfInBounds_toArray, List.set_cons_zero, List.set_cons_succ]
  refine take_nil (.tmp 4) ⟨p, 0, none⟩ rfl rfl rfl ?_
  simp only [Act.put, List.setIfInBounds_toArray, List.set_cons_zero, List.set_cons_succ]
  refine take_one (.pointer (some ⟨p, 2, none⟩)) rfl (fun u _ => by go_simp) ?_
  simp only [Act.put, List.setIfInBounds_toArray, List.set_cons_zero, List.set_cons_succ]
  refine take_load 34 (.tmp 6) ⟨p, 2, none⟩ (.pointer (some ⟨q, 0, none⟩)) rfl rfl rfl (fun u hu => load_any Tryz.underlying34 Tryz.isAgg34 hu.2.1) ?_
  simp only [Act.put, List.setIfInBounds_toArray, List.set_cons_zero, List.set_cons_succ]
  refine take_load 3 (.tmp 1) ⟨ta, 0, none⟩ (.int .i64 (at_ : Int)) rfl rfl rfl (fun u hu => load_any Tryz.underlying3 Tryz.isAgg3 hu.2.2.1) ?_
  simp only [Act.put, List.setIfInBounds_toArray, List.set_cons_zero, List.set_cons_succ]
  refine take_load 9 (.tmp 2) ⟨rb, 0, none⟩ (.string row) rfl rfl rfl (fun u hu => load_any Tryz.underlying9 Tryz.isAgg9 hu.2.2.2) ?_
  simp only [Act.put, List.setIfInBounds_toArray, List.set_cons_zero, List.set_cons_succ]
  refine take_done ?_
  refine midk_wp rfl (call_wp 90 [.tmp 9] #[9] #[.string row] rfl rfl rfl ?_)
  refine (HG.out _).mono ?_; rintro e w1 ⟨rfl, h1⟩
  have h2 := (H.out.new ((Below.refl _ W).drew)).new h1
  refine ⟨_, rfl, ⟨h2.cB hB, h2.cD, h2.cI hta, h2.cS hrb⟩, ?_⟩
  simp only [Act.put, List.setIfInBounds_toArray, List.set_cons_zero, List.set_cons_succ]
  refine midk_wp rfl (call_wp 89 [.tmp 7, .tmp 8, .tmp 10] #[34, 3, 9] #[.pointer (some ⟨q, 0, none⟩), .int .i64 (at_ : Int), .string G] rfl rfl rfl ?_)
  refine (HW.out _ h2.disk).mono ?_; rintro e w2 ⟨rfl, ht, S', hS, hd⟩
  have h3 := h2.turnDisk ht hS hd
  refine ⟨_, rfl, ⟨h3.cB hB, h3.cD, h3.cI hta, h3.cS hrb⟩, ?_⟩
  simp only [Act.put, List.setIfInBounds_toArray, List.set_cons_zero, List.set_cons_succ]
  refine midk_one (.int .i64 E) rfl rfl ⟨h3.cB hB, h3.cD, h3.cI hta, h3.cS hrb⟩ ?_
  simp only [Act.put, List.setIfInBounds_toArray, List.set_cons_zero, List.set_cons_succ]
  refine midk_end ?_
  have H3 := Lib.hid h3; clear h3
  clear h1 h2 ht hd hB hta hrb
  go_wp2_with fail
  go_ret
  exact ⟨rfl, S', H3.out⟩

theorem ap3_any (h : Apn w S0 R0 kept S R p q d s W) {B na g u : Nat} (hB : (B, boxW p) ∈ kept) (hna : (na, boxM g u) ∈ kept) (hf : s.from_ ≤ 16384) (hg : g < 18446744073709551616) (hu : u < 4294967296) (hops : d.ops ≤ 1099511600000) :
    Calls Tryz.prog 93 #[.pointer (some ⟨B, 0, none⟩), .pointer (some ⟨na, 0, none⟩)] W fun e W' => e = .returned (.int .i64 (Dsk.write d (s.from_ : Int) (Wal.mark g u)).2) ∧ ∃ S', Apn w S0 R0 kept S' R p q (Dsk.write d (s.from_ : Int) (Wal.mark g u)).1 s W' := by
  have hh := fun x => header_any g u hg hu x
  have hsz : (ba (Wal.mark g u)).size = 64 := by rw [ba_size, Wal.mark_length]
  have hw := fun (x : World) (hx : DiskAt S q d x) => write_all hx (s.from_ : Int) ⟨by omega, by omega⟩ (ba (Wal.mark g u)) (by omega) (by omega)
  rw [ba_list] at hw
  generalize ba (Wal.mark g u) = M at *
  generalize (Dsk.write d (s.from_ : Int) (Wal.mark g u)).2 = E at *
  have HH := Lib.hid hh; clear hh
  have HW := Lib.hid hw; clear hw
  have H := Lib.hid h; clear h
  go_enter Tryz.func93, Tryz.ntmps93
  go_wp2_with fail
  refine wp_region_phases [([0, 1, 2, 3, 4, 5, 6, 7, 8], [9, 10, 11])] (by kernel_rfl) (by kernel_rfl) (fun z => z.cell? ⟨B, 0, none⟩ = some (.pointer (some ⟨p, 0, none⟩)) ∧ z.cell? ⟨p, 2, none⟩ = some (.pointer (some ⟨q, 0, none⟩)) ∧ z.cell? ⟨p, 3, none⟩ = some (.int .i64 (s.from_ : Int)) ∧ z.heap[na]? = some (boxM g u)) ⟨H.out.cB hB, H.out.cD, H.out.cF, H.out.row hna⟩ ?_
  simp only [wpPhases, pick, List.filterMap_cons, List.filterMap_nil, List.getElem?_toArray, List.getElem?_cons_zero, List.getElem?_cons_succ]
  refine take_load 72 (.tmp 0) ⟨B, 0, none⟩ (.pointer (some ⟨p, 0, none⟩)) rfl rfl rfl (fun u hu => load_any Tryz.underlying72 Tryz.isAgg72 hu.1) ?_
  simp only [Act.put, List.setIfInBounds_toArray, List.set_cons_zero, List.set_cons_succ]
  refine take_nil (.tmp 3) ⟨p, 0, none⟩ rfl rfl rfl ?_
  simp only [Act.put, List.setIfInBounds_toArray, List.set_cons_zero, List.set_cons_succ]
  refine take_one (.pointer (some ⟨p, 2, none⟩)) rfl (fun u _ => by go_simp) ?_
  simp only [Act.put, List.setIfInBounds_toArray, List.set_cons_zero, List.set_cons_succ]
  refine take_load 34 (.tmp 5) ⟨p, 2, none⟩ (.pointer (some ⟨q, 0, none⟩)) rfl rfl rfl (fun u hu => load_any Tryz.underlying34 Tryz.isAgg34 hu.2.1) ?_
  simp only [Act.put, List.setIfInBounds_toArray, List.set_cons_zero, List.set_cons_succ]
  refine take_load 72 (.tmp 0) ⟨B, 0, none⟩ (.pointer (some ⟨p, 0, none⟩)) rfl rfl rfl (fun u hu => load_any Tryz.underlying72 Tryz.isAgg72 hu.1) ?_
  simp only [Act.put, List.setIfInBounds_toArray, List.set_cons_zero, List.set_cons_succ]
  refine take_nil (.tmp 7) ⟨p, 0, none⟩ rfl rfl rfl ?_
  simp only [Act.put, List.setIfInBounds_toArray, List.set_cons_zero, List.set_cons_succ]
  refine take_one (.pointer (some ⟨p, 3, none⟩)) rfl (fun u _ => by go_simp) ?_
  simp only [Act.put, List.setIfInBounds_toArray, List.set_cons_zero, List.set_cons_succ]
  refine take_load 3 (.tmp 9) ⟨p, 3, none⟩ (.int .i64 (s.from_ : Int)) rfl rfl rfl (fun u hu => load_any Tryz.underlying3 Tryz.isAgg3 hu.2.2.1) ?_
  simp only [Act.put, List.setIfInBounds_toArray, List.set_cons_zero, List.set_cons_succ]
  refine take_load 128 (.tmp 1) ⟨na, 0, none⟩ (markV g u) rfl rfl rfl (fun u hu => load_mark hu.2.2.2) ?_
  simp only [Act.put, List.setIfInBounds_toArray, List.set_cons_zero, List.set_cons_succ]
  refine take_done ?_
  refine midk_wp rfl (call_wp 94 [.tmp 11] #[128] #[markV g u] rfl rfl rfl ?_)
  refine (HH.out _).mono ?_; rintro e w1 ⟨rfl, h1⟩
  have h2 := (H.out.new ((Below.refl _ W).drew)).new h1
  refine ⟨_, rfl, ⟨h2.cB hB, h2.cD, h2.cF, h2.row hna⟩, ?_⟩
  simp only [Act.put, List.setIfInBounds_toArray, List.set_cons_zero, List.set_cons_succ]
  refine midk_wp rfl (call_wp 89 [.tmp 6, .tmp 10, .tmp 12] #[34, 3, 9] #[.pointer (some ⟨q, 0, none⟩), .int .i64 (s.from_ : Int), .string M] rfl rfl rfl ?_)
  refine (HW.out _ h2.disk).mono ?_; rintro e w2 ⟨rfl, ht, S', hS, hd⟩
  have h3 := h2.turnDisk ht hS hd
  refine ⟨_, rfl, ⟨h3.cB hB, h3.cD, h3.cF, h3.row hna⟩, ?_⟩
  simp only [Act.put, List.setIfInBounds_toArray, List.set_cons_zero, List.set_cons_succ]
  refine midk_one (.int .i64 E) rfl rfl ⟨h3.cB hB, h3.cD, h3.cF, h3.row hna⟩ ?_
  simp only [Act.put, List.setIfInBounds_toArray, List.set_cons_zero, List.set_cons_succ]
  refine midk_end ?_
  have H3 := Lib.hid h3; clear h3
  clear h1 h2 ht hd hB hna
  go_wp2_with fail
  go_ret
  exact ⟨rfl, S', H3.out⟩

theorem re1_any (h : Apn w S0 R0 kept S R p q d s W) {B na g u : Nat} (hB : (B, boxW p) ∈ kept) (hna : (na, boxM g u) ∈ kept) (hf : s.from_ ≤ 16384) (hg : g < 18446744073709551616) (hu : u < 4294967296) (hops : d.ops ≤ 1099511600000) :
    Calls Tryz.prog 125 #[.pointer (some ⟨B, 0, none⟩), .pointer (some ⟨na, 0, none⟩)] W fun e W' => e = .returned (.int .i64 (Dsk.write d (s.from_ : Int) (Wal.mark g u)).2) ∧ ∃ S', Apn w S0 R0 kept S' R p q (Dsk.write d (s.from_ : Int) (Wal.mark g u)).1 s W' := by
  have hh := fun x => header_any g u hg hu x
  have hsz : (ba (Wal.mark g u)).size = 64 := by rw [ba_size, Wal.mark_length]
  have hw := fun (x : World) (hx : DiskAt S q d x) => write_all hx (s.from_ : Int) ⟨by omega, by omega⟩ (ba (Wal.mark g u)) (by omega) (by omega)
  rw [ba_list] at hw
  generalize ba (Wal.mark g u) = M at *
  generalize (Dsk.write d (s.from_ : Int) (Wal.mark g u)).2 = E at *
  have HH := Lib.hid hh; clear hh
  have HW := Lib.hid hw; clear hw
  have H := Lib.hid h; clear h
  go_enter Tryz.func125, Tryz.ntmps125
  go_wp2_with fail
  refine wp_region_phases [([0, 1, 2, 3, 4, 5, 6, 7, 8], [9, 10, 11])] (by kernel_rfl) (by kernel_rfl) (fun z => z.cell? ⟨B, 0, none⟩ = some (.pointer (some ⟨p, 0, none⟩)) ∧ z.cell? ⟨p, 2, none⟩ = some (.pointer (some ⟨q, 0, none⟩)) ∧ z.cell? ⟨p, 3, none⟩ = some (.int .i64 (s.from_ : Int)) ∧ z.heap[na]? = some (boxM g u)) ⟨H.out.cB hB, H.out.cD, H.out.cF, H.out.row hna⟩ ?_
  simp only [wpPhases, pick, List.filterMap_cons, List.filterMap_nil, List.getElem?_toArray, List.getElem?_cons_zero, List.getElem?_cons_succ]
  refine take_load 72 (.tmp 0) ⟨B, 0, none⟩ (.pointer (some ⟨p, 0, none⟩)) rfl rfl rfl (fun u hu => load_any Tryz.underlying72 Tryz.isAgg72 hu.1) ?_
  simp only [Act.put, List.setIfInBounds_toArray, List.set_cons_zero, List.set_cons_succ]
  refine take_nil (.tmp 3) ⟨p, 0, none⟩ rfl rfl rfl ?_
  simp only [Act.put, List.setIfInBounds_toArray, List.set_cons_zero, List.set_cons_succ]
  refine take_one (.pointer (some ⟨p, 2, none⟩)) rfl (fun u _ => by go_simp) ?_
  simp only [Act.put, List.setIfInBounds_toArray, List.set_cons_zero, List.set_cons_succ]
  refine take_load 34 (.tmp 5) ⟨p, 2, none⟩ (.pointer (some ⟨q, 0, none⟩)) rfl rfl rfl (fun u hu => load_any Tryz.underlying34 Tryz.isAgg34 hu.2.1) ?_
  simp only [Act.put, List.setIfInBounds_toArray, List.set_cons_zero, List.set_cons_succ]
  refine take_load 72 (.tmp 0) ⟨B, 0, none⟩ (.pointer (some ⟨p, 0, none⟩)) rfl rfl rfl (fun u hu => load_any Tryz.underlying72 Tryz.isAgg72 hu.1) ?_
  simp only [Act.put, List.setIfInBounds_toArray, List.set_cons_zero, List.set_cons_succ]
  refine take_nil (.tmp 7) ⟨p, 0, none⟩ rfl rfl rfl ?_
  simp only [Act.put, List.setIfInBounds_toArray, List.set_cons_zero, List.set_cons_succ]
  refine take_one (.pointer (some ⟨p, 3, none⟩)) rfl (fun u _ => by go_simp) ?_
  simp only [Act.put, List.setIfInBounds_toArray, List.set_cons_zero, List.set_cons_succ]
  refine take_load 3 (.tmp 9) ⟨p, 3, none⟩ (.int .i64 (s.from_ : Int)) rfl rfl rfl (fun u hu => load_any Tryz.underlying3 Tryz.isAgg3 hu.2.2.1) ?_
  simp only [Act.put, List.setIfInBounds_toArray, List.set_cons_zero, List.set_cons_succ]
  refine take_load 128 (.tmp 1) ⟨na, 0, none⟩ (markV g u) rfl rfl rfl (fun u hu => load_mark hu.2.2.2) ?_
  simp only [Act.put, List.setIfInBounds_toArray, List.set_cons_zero, List.set_cons_succ]
  refine take_done ?_
  refine midk_wp rfl (call_wp 94 [.tmp 11] #[128] #[markV g u] rfl rfl rfl ?_)
  refine (HH.out _).mono ?_; rintro e w1 ⟨rfl, h1⟩
  have h2 := (H.out.new ((Below.refl _ W).drew)).new h1
  refine ⟨_, rfl, ⟨h2.cB hB, h2.cD, h2.cF, h2.row hna⟩, ?_⟩
  simp only [Act.put, List.setIfInBounds_toArray, List.set_cons_zero, List.set_cons_succ]
  refine midk_wp rfl (call_wp 89 [.tmp 6, .tmp 10, .tmp 12] #[34, 3, 9] #[.pointer (some ⟨q, 0, none⟩), .int .i64 (s.from_ : Int), .string M] rfl rfl rfl ?_)
  refine (HW.out _ h2.disk).mono ?_; rintro e w2 ⟨rfl, ht, S', hS, hd⟩
  have h3 := h2.turnDisk ht hS hd
  refine ⟨_, rfl, ⟨h3.cB hB, h3.cD, h3.cF, h3.row hna⟩, ?_⟩
  simp only [Act.put, List.setIfInBounds_toArray, List.set_cons_zero, List.set_cons_succ]
  refine midk_one (.int .i64 E) rfl rfl ⟨h3.cB hB, h3.cD, h3.cF, h3.row hna⟩ ?_
  simp only [Act.put, List.setIfInBounds_toArray, List.set_cons_zero, List.set_cons_succ]
  refine midk_end ?_
  have H3 := Lib.hid h3; clear h3
  clear h1 h2 ht hd hB hna
  go_wp2_with fail
  go_ret
  exact ⟨rfl, S', H3.out⟩
end
end Go.Proofs.YtalklpnekbfehaaGreat

/-
  A log's own cells, and its row of groups, turned.
-/
set_option linter.unusedVariables false
set_option maxRecDepth 100000
namespace Go.Proofs.YtalklpnekbfehaaGreat
open Go.RowKit

theorem slice_grp (a : Option Addr) (n c : Nat) (w : World) : (Instr.buildSlice 129 1 #[(0, .slice a n c)]).run Tryz.prog w = .ok (.slice (some ⟨w.heap.size, 0, none⟩) 1 1) (w.alloc (.cells #[.slice a n c] 29)) := by
  obtain ⟨i, hi, h0, h1, h2⟩ := info_parts grp_info
  have hf := Great.fill_whole (s := 1) (by omega) [.slice a n c] ((Array.range (1 * 1)).map ((Value.slice none 0 0).cells[· % (Value.slice none 0 0).cells.size]!)) (fun v hv => by simp at hv; subst hv; rfl) (by simp)
  refine run_buildSlice w 129 29 1 _ #[.slice a n c] i _ Tryz.underlying129 hi h0 (by rw [h1]; decide) (by rw [h1]; decide) ?_
  rw [h1]
  have e : ([Value.slice a n c].flatMap fun v => v.cells.toList).toArray = #[.slice a n c] := by simp [Value.cells]
  rw [e] at hf
  exact hf

section
variable {P : Program} {Q : Exit → Act → World → Prop}
theorem store_wp {K : Act → World → Prop} {o : Oper} {a : Act} {w w' : World} (ty : TypeId) (x y : Operand) (pv vv : Value) (ho : o.op = .store ty x y) (hx : a.eval x = pv) (hy : a.eval y = vv)
    (h : (Instr.storeAt ty pv vv).run P w = .ok () w') (hK : K (a.put o.dst undef) w') : o.wp P a w K Q := by
  unfold Oper.wp execOp
  simp only [ho, hx, hy, h, Sem.run_bind, Sem.run_pure, Result.andThen_ok]
  exact hK
end

section
variable {R : Nat → Prop} {p q : Nat} {s : Wal.St} {w w' : World} {v : Value}
theorem wal_ty1 : 131 ≠ 29 := by decide
theorem wal_ty2 : 131 ≠ 9 := by decide
theorem WalIn.lt (h : WalIn R p q s w v) : ∀ k, R k → k < w.heap.size := h.rows.1
theorem WalIn.putMark (h : WalIn R p q s w v) (g u : Nat) : WalIn R p q { s with gen := g, used := u } ((w.setCell ⟨p, 0, none⟩ (.int .u64 (g : Int))).setCell ⟨p, 1, none⟩ (.int .i64 (u : Int))) v := by
  have h1 : (w.setCell ⟨p, 0, none⟩ (.int .u64 (g : Int))).heap[p]? = some (.cells (wlcells { s with gen := g } q v) 131 (0, 0)) := by rw [heap_setCell_same w p 0 _ _ _ h.row]; rfl
  refine ⟨h.hp, by rw [heap_setCell_same _ p 1 _ _ _ h1]; rfl, ?_⟩
  exact h.rows.beside h.row wal_ty1 wal_ty2 (((Turns.refl (fun k => k = p) w).set p 0 _ (fun _ => rfl)).set p 1 _ (fun _ => rfl))
theorem WalIn.putErr (h : WalIn R p q s w v) (E : Int) : WalIn R p q { s with err := E } (w.setCell ⟨p, 6, none⟩ (.int .i64 E)) v := by
  refine ⟨h.hp, by rw [heap_setCell_same w p 6 _ _ _ h.row]; rfl, ?_⟩
  exact h.rows.beside h.row wal_ty1 wal_ty2 ((Turns.refl (fun k => k = p) w).set p 6 _ (fun _ => rfl))
/-- other groups -/
theorem WalIn.putRow (h : WalIn R p q s w v) {R' : Nat → Prop} {v' : Value} {L : List Wal.Grp} (hR : R' p) (hr : GRows R' v' L w) : WalIn R' p q { s with L := L } (w.setCell ⟨p, 5, none⟩ v') v' := by
  refine ⟨hR, by rw [heap_setCell_same w p 5 _ _ _ h.row]; rfl, ?_⟩
  exact hr.beside h.row wal_ty1 wal_ty2 ((Turns.refl (fun k => k = p) w).set p 5 _ (fun _ => rfl))
theorem GRows.more {R : Nat → Prop} {v v' u : Value} {L : List Wal.Grp} {l : Wal.Grp} {vs : List Value} {w w3 w4 : World}
    (h1 : w.ownsRow 0 29 1 v L.length vs) (h2 : ∀ k, v.ownBlock = some k → R k) (h3 : Grps R vs L w) (h0 : ∀ k, R k → k < w.heap.size)
    (hb : Below w.heap.size w w3) (hu : Own w.heap.size u (bas l) w3) (h4 : w4.ownsRow 0 29 1 v' (L.length + 1) (vs ++ [u])) (hg : w3.grownBy w4 v.ownBlock) (hv : v'.ownBlock = v.ownBlock ∨ v'.ownBlock = some w3.heap.size) :
    GRows (fun k => R k ∨ (w.heap.size ≤ k ∧ k < w4.heap.size)) v' (L ++ [l]) w4 := by
  have hs3 := hb.size
  have hs4 := hg.size
  have hv0 : w3.ownsRow 0 29 1 v L.length vs := ownsRow_same h1 fun g hg => hb.block g (h1.lt g hg).2
  have hno : ∀ (x : Value) (y : List ByteArray) (b : Nat), w3.ownsRow b 9 1 x y.length (y.map Value.string) → x.ownBlock = none ∨ x.ownBlock ≠ v.ownBlock := by
    intro x y b hx
    cases hxo : x.ownBlock with
    | none => exact .inl rfl
    | some k =>
      refine .inr fun e => ?_
      obtain ⟨c1, e1⟩ := ownsRow_block hx hxo
      obtain ⟨c2, e2⟩ := ownsRow_block hv0 e.symm
      rw [e1] at e2
      simp only [Option.some.injEq, Obj.cells.injEq] at e2
      exact absurd e2.2.1 (by decide)
  refine ⟨fun k hk => ?_, vs ++ [u], by rw [List.length_append]; exact h4, fun k hk => ?_, ?_⟩
  · rcases hk with hk | hk
    · have := h0 k hk; omega
    · exact hk.2
  · rcases hv with e | e
    · exact .inl (h2 k (by rw [← e]; exact hk))
    · have := (World.ownsRow.lt h4 k hk).2
      rw [e] at hk; simp only [Option.some.injEq] at hk; exact .inr ⟨by omega, by omega⟩
  · refine Grps.snoc ⟨h3.1, fun i x hx => ?_⟩ ?_
    · obtain ⟨y, hy, ho, hk⟩ := h3.2 i x hx
      have ho3 := ownsRow_same (w' := w3) ho fun g hg => hb.block g (ho.lt g hg).2
      exact ⟨y, hy, World.ownsRow.kept ho3 hg (hno _ _ _ ho3), fun k hk2 => .inl (hk k hk2)⟩
    · refine ⟨World.ownsRow.mono (World.ownsRow.kept hu hg (hno _ _ _ hu)) (Nat.zero_le _), fun k hk => ?_⟩
      have := World.ownsRow.lt hu k hk
      exact .inr (by omega)
end
end Go.Proofs.YtalklpnekbfehaaGreat

/-
  The last steps of Append and of Reset: the log itself is turned.
-/
set_option linter.unusedVariables false
set_option maxRecDepth 100000
namespace Go.Proofs.YtalklpnekbfehaaGreat
open Go.RowKit

section
variable {w : World} {S0 R0 : Nat → Prop} {kept : List (Nat × Obj)} {S R : Nat → Prop} {p q : Nat} {d : Dsk.St} {s : Wal.St} {W W' : World}
theorem Apn.marked (h : Apn w S0 R0 kept S R p q d s W) (g u : Nat) : Apn w S0 R0 kept S R p q d { s with gen := g, used := u } ((W.setCell ⟨p, 0, none⟩ (.int .u64 (g : Int))).setCell ⟨p, 1, none⟩ (.int .i64 (u : Int))) := by
  obtain ⟨v, hv⟩ := h.wal
  exact h.turnWal (((Turns.refl R W).set p 0 _ (fun _ => hv.hp)).set p 1 _ (fun _ => hv.hp)) (fun j hj => .inl hj) ⟨v, hv.putMark g u⟩
theorem Apn.faulted (h : Apn w S0 R0 kept S R p q d s W) (E : Int) : Apn w S0 R0 kept S R p q d { s with err := E } (W.setCell ⟨p, 6, none⟩ (.int .i64 E)) := by
  obtain ⟨v, hv⟩ := h.wal
  exact h.turnWal ((Turns.refl R W).set p 6 _ (fun _ => hv.hp)) (fun j hj => .inl hj) ⟨v, hv.putErr E⟩
theorem Apn.emptied (h : Apn w S0 R0 kept S R p q d s W) : Apn w S0 R0 kept S R p q d { s with L := [] } (W.setCell ⟨p, 5, none⟩ (.slice none 0 0)) := by
  obtain ⟨v, hv⟩ := h.wal
  exact h.turnWal ((Turns.refl R W).set p 5 _ (fun _ => hv.hp)) (fun j hj => .inl hj) ⟨_, hv.putRow hv.hp (GRows.nil R W hv.lt)⟩

theorem re3_any (h : Apn w S0 R0 kept S R p q d s W) {B na g u : Nat} (hB : (B, boxW p) ∈ kept) (hna : (na, boxM g u) ∈ kept) :
    Calls Tryz.prog 127 #[.pointer (some ⟨na, 0, none⟩), .pointer (some ⟨B, 0, none⟩)] W fun e W' => e = .returned (.int .i64 0) ∧ Apn w S0 R0 kept S R p q d { s with gen := g, used := u, L := [] } W' := by
  have H := Lib.hid h; clear h
  go_enter Tryz.func127, Tryz.ntmps127
  go_wp2_with fail
  refine wp_region_phases [([0, 1, 2], [3, 4, 5, 6, 7, 8])] (by kernel_rfl) (by kernel_rfl) (fun z => z.cell? ⟨B, 0, none⟩ = some (.pointer (some ⟨p, 0, none⟩)) ∧ z.heap[na]? = some (boxM g u)) ⟨H.out.cB hB, H.out.row hna⟩ ?_
  simp only [wpPhases, pick, List.filterMap_cons, List.filterMap_nil, List.getElem?_toArray, List.getElem?_cons_zero, List.getElem?_cons_succ]
  refine take_load 72 (.tmp 1) ⟨B, 0, none⟩ (.pointer (some ⟨p, 0, none⟩)) rfl rfl rfl (fun u hu => load_any Tryz.underlying72 Tryz.isAgg72 hu.1) ?_
  simp only [Act.put, List.setIfInBounds_toArray, List.set_cons_zero, List.set_cons_succ]
  refine take_load 72 (.tmp 1) ⟨B, 0, none⟩ (.pointer (some ⟨p, 0, none⟩)) rfl rfl rfl (fun u hu => load_any Tryz.underlying72 Tryz.isAgg72 hu.1) ?_
  simp only [Act.put, List.setIfInBounds_toArray, List.set_cons_zero, List.set_cons_succ]
  refine take_load 128 (.tmp 0) ⟨na, 0, none⟩ (markV g u) rfl rfl rfl (fun u hu => load_mark hu.2) ?_
  simp only [Act.put, List.setIfInBounds_toArray, List.set_cons_zero, List.set_cons_succ]
  refine take_done ?_
  have h2 := H.out.new ((Below.refl _ W).drew)
  obtain ⟨v, hv⟩ := h2.wal
  refine midk_one (.pointer (some ⟨p, 0, none⟩)) rfl rfl ⟨h2.cB hB, h2.row hna⟩ ?_
  simp only [Act.put, List.setIfInBounds_toArray, List.set_cons_zero, List.set_cons_succ]
  refine midk_one (.pointer (some ⟨p, 0, none⟩)) rfl (by go_simp) ⟨h2.cB hB, h2.row hna⟩ ?_
  simp only [Act.put, List.setIfInBounds_toArray, List.set_cons_zero, List.set_cons_succ]
  have h3 := h2.marked g u
  refine midk_store 128 (.tmp 7) (.tmp 5) _ _ rfl rfl rfl rfl (store_mark (g : Int) (u : Int) hv.c0 hv.c1 (hv.free 0) (hv.free 1)) ⟨h3.cB hB, h3.row hna⟩ ?_
  simp only [Act.put]
  refine midk_one (.pointer (some ⟨p, 0, none⟩)) rfl rfl ⟨h3.cB hB, h3.row hna⟩ ?_
  simp only [Act.put, List.setIfInBounds_toArray, List.set_cons_zero, List.set_cons_succ]
  refine midk_one (.pointer (some ⟨p, 5, none⟩)) rfl (by go_simp) ⟨h3.cB hB, h3.row hna⟩ ?_
  simp only [Act.put, List.setIfInBounds_toArray, List.set_cons_zero, List.set_cons_succ]
  have h4 := h3.emptied
  obtain ⟨v3, hv3⟩ := h3.wal
  refine midk_store 129 (.tmp 9) (.const (.slice none 0 0)) _ _ rfl rfl rfl rfl (store_grps hv3.c5 (hv3.free 5)) ⟨h4.cB hB, h4.row hna⟩ ?_
  simp only [Act.put]
  refine midk_end ?_
  have H4 := Lib.hid h4; clear h4
  clear h2 h3 hv hv3 hB hna
  go_wp2_with fail
  go_ret
  exact ⟨rfl, H4.out⟩

set_option maxHeartbeats 400000 in
theorem ap5_any (h : Apn w S0 R0 kept S R p q d s W) {B C na g u : Nat} {a : Option Addr} {len cap : Nat} {l : Wal.Grp} (hB : (B, boxW p) ∈ kept) (hna : (na, boxM g u) ∈ kept) (hC : (C, boxL a len cap) ∈ kept) (hs : Strs a len (bas l) W)
    (hz : Slim l) (hm : s.L.length ≤ 1048576) :
    Calls Tryz.prog 96 #[.pointer (some ⟨na, 0, none⟩), .pointer (some ⟨B, 0, none⟩), .pointer (some ⟨C, 0, none⟩)] W fun e W' => e = .returned (.int .i64 0) ∧ ∃ R', Apn w S0 R0 kept S R' p q d { s with gen := g, used := u, L := s.L ++ [l] } W' := by
  obtain ⟨i0, hi, hz0, hz1, hz2⟩ := info_parts grp_info
  have hlen : len = l.length := by rw [← hs.1, bas_length]
  have hcp := fun (z : World) (hz' : Strs a len (bas l) z) => copiedStrs_any a len cap (bas l) z hz' (by have := hz.1; omega) (fun j => by have := hz.get j; omega)
  have Hcp := Lib.hid hcp; clear hcp
  have Hs := Lib.hid hs; clear hs
  obtain ⟨v, hv⟩ := h.wal
  have H := Lib.hid h; clear h
  obtain ⟨ag, capg, hvv, hcl, hcm, _⟩ := hv.rows.form
  have Hv := Lib.hid hv; clear hv
  have Hvv := Lib.hid hvv; clear hvv
  go_enter Tryz.func96, Tryz.ntmps96
  go_wp2_with fail
  refine wp_region_text [0, 1, 2, 3, 4, 5, 6, 7] [8, 9, 10, 11, 12, 13] [14, 15, 16] (by kernel_rfl) (by kernel_rfl) (fun z => z.cell? ⟨B, 0, none⟩ = some (.pointer (some ⟨p, 0, none⟩)) ∧ z.heap[na]? = some (boxM g u) ∧ z.cell? ⟨C, 0, none⟩ = some (.slice a len cap) ∧ z.cell? ⟨p, 5, none⟩ = some v) ⟨H.out.cB hB, H.out.row hna, H.out.cL hC, Hv.out.c5⟩ ?_
  simp only [pick, List.filterMap_cons, List.filterMap_nil, List.getElem?_toArray, List.getElem?_cons_zero, List.getElem?_cons_succ]
  refine take_load 72 (.tmp 1) ⟨B, 0, none⟩ (.pointer (some ⟨p, 0, none⟩)) rfl rfl rfl (fun u hu => load_any Tryz.underlying72 Tryz.isAgg72 hu.1) ?_
  simp only [Act.put, List.setIfInBounds_toArray, List.set_cons_zero, List.set_cons_succ]
  refine take_load 72 (.tmp 1) ⟨B, 0, none⟩ (.pointer (some ⟨p, 0, none⟩)) rfl rfl rfl (fun u hu => load_any Tryz.underlying72 Tryz.isAgg72 hu.1) ?_
  simp only [Act.put, List.setIfInBounds_toArray, List.set_cons_zero, List.set_cons_succ]
  refine take_load 128 (.tmp 0) ⟨na, 0, none⟩ (markV g u) rfl rfl rfl (fun u hu => load_mark hu.2.1) ?_
  simp only [Act.put, List.setIfInBounds_toArray, List.set_cons_zero, List.set_cons_succ]
  refine take_load 72 (.tmp 1) ⟨B, 0, none⟩ (.pointer (some ⟨p, 0, none⟩)) rfl rfl rfl (fun u hu => load_any Tryz.underlying72 Tryz.isAgg72 hu.1) ?_
  simp only [Act.put, List.setIfInBounds_toArray, List.set_cons_zero, List.set_cons_succ]
  refine take_nil (.tmp 7) ⟨p, 0, none⟩ rfl rfl rfl ?_
  simp only [Act.put, List.setIfInBounds_toArray, List.set_cons_zero, List.set_cons_succ]
  refine take_one (.pointer (some ⟨p, 5, none⟩)) rfl (fun u _ => by go_simp) ?_
  simp only [Act.put, List.setIfInBounds_toArray, List.set_cons_zero, List.set_cons_succ]
  refine take_load 129 (.tmp 9) ⟨p, 5, none⟩ v rfl rfl rfl (fun u hu => load_any Tryz.underlying129 Tryz.isAgg129 hu.2.2.2) ?_
  simp only [Act.put, List.setIfInBounds_toArray, List.set_cons_zero, List.set_cons_succ]
  refine take_load 29 (.tmp 2) ⟨C, 0, none⟩ (.slice a len cap) rfl rfl rfl (fun u hu => load_any Tryz.underlying29 Tryz.isAgg29 hu.2.2.1) ?_
  simp only [Act.put, List.setIfInBounds_toArray, List.set_cons_zero, List.set_cons_succ]
  refine take_done ?_
  have h2 := H.out.new ((Below.refl _ W).drew)
  have hv2 : WalIn R p q s W.drew v := Hv.out.keeps (Turns.of_new ((Below.refl _ W).drew) (fun _ => False)) (fun _ _ => id)
  refine mid_wp rfl (call_wp 97 [.tmp 11, .func 38] #[29, 88] #[.slice a len cap, .func (.func 38) #[] #[]] rfl rfl rfl ?_)
  refine (Hcp.out _ (Hs.out.keep ((Below.refl _ W).drew))).mono ?_; rintro e w1 ⟨h1, u9, rfl, ho⟩
  have h3 := h2.new h1
  have hv3 : WalIn R p q s w1 v := hv2.keeps (Turns.of_new h1 (fun _ => False)) (fun _ _ => id)
  refine ⟨_, rfl, ⟨h3.cB hB, h3.row hna, h3.cL hC, hv3.c5⟩, ?_⟩
  simp only [Act.put, List.setIfInBounds_toArray, List.set_cons_zero, List.set_cons_succ]
  obtain ⟨a9, cap9, hv9, _⟩ := ho.strs
  have hsA : (w1.alloc (.cells #[.slice a9 (bas l).length cap9] 29)).heap.size = w1.heap.size + 1 := by simp
  have hbA : Below w1.heap.size w1 (w1.alloc (.cells #[.slice a9 (bas l).length cap9] 29)) := (Below.refl _ w1).alloc (Nat.le_refl _) _
  have h4 := h3.new hbA
  have hv4 : WalIn R p q s (w1.alloc (.cells #[.slice a9 (bas l).length cap9] 29)) v := hv3.keeps (Turns.of_new hbA (fun _ => False)) (fun _ _ => id)
  subst hv9
  refine mid_one (w' := w1.alloc (.cells #[.slice a9 (bas l).length cap9] 29)) (.slice (some ⟨w1.heap.size, 0, none⟩) 1 1) rfl (run_slice_op 129 1 [(0, .tmp 12)] rfl (slice_grp _ _ _ w1)) ⟨h4.cB hB, h4.row hna, h4.cL hC, hv4.c5⟩ ?_
  simp only [Act.put, List.setIfInBounds_toArray, List.set_cons_zero, List.set_cons_succ]
  obtain ⟨hr0, vs, hr1, hr2, hr3⟩ := hv2.rows
  have hr1A : (w1.alloc (.cells #[.slice a9 (bas l).length cap9] 29)).ownsRow 0 29 1 v s.L.length vs := ownsRow_same (ownsRow_same hr1 fun g hg => h1.block g (hr1.lt g hg).2) fun g hg => hbA.block g (Nat.lt_of_lt_of_le (hr1.lt g hg).2 h1.size)
  refine mid_wp rfl (wp_append_row (.tmp 10) (.tmp 13) 129 rfl 0 29 i0 (.slice none 0 0) 1 24 Tryz.underlying129 hi hz0 hz1 hz2 rfl (by decide) v s.L.length vs rfl hr1A 0 (.slice (some ⟨w1.heap.size, 0, none⟩) 1 1) 1 [.slice a9 (bas l).length cap9] rfl (World.ownsRow_lit (e := 29) (size := 1) w1 #[.slice a9 (bas l).length cap9] 1 (Nat.zero_le _) (by decide) rfl) (by intro x hx; simp at hx; subst hx; rfl) (by unfold maxLen; omega) (by omega) (Nat.zero_le _) ?_)
  intro v' w5 hown5 hg5 hvb5
  have hs1 := h1.size
  have hs5 := hg5.size
  rw [hsA] at hs5
  have hb2A : Below W.drew.heap.size W.drew (w1.alloc (.cells #[.slice a9 (bas l).length cap9] 29)) := h1.trans (hbA.mono hs1)
  have hgr := GRows.more (v' := v') (u := .slice a9 (bas l).length cap9) hr1 hr2 hr3 hr0 hb2A (Own.new ho hbA) hown5 hg5 hvb5
  obtain ⟨av, capv, hvv'', _⟩ := hgr.form
  have hvv' : v' = .slice av (s.L.length + 1) capv := by simpa using hvv''
  clear hvv''
  have ht5 : Turns R (w1.alloc (.cells #[.slice a9 (bas l).length cap9] 29)) w5 := (Turns.of_grown hg5).mono (fun j _ e => hr2 j e)
  have hnp : ∀ k, v.ownBlock = some k → k ≠ p := fun k hk e => hv2.rows.vp hv2.row wal_ty1 (by rw [hk, e])
  have hrow5 : w5.heap[p]? = some (.cells (wlcells s q v) 131 (0, 0)) := (Turns.of_grown hg5).same hv4.row (fun e => hnp p e rfl)
  have hgr2 : GRows (fun k => R k ∨ (W.heap.size ≤ k ∧ k < w5.heap.size)) v' (s.L ++ [l]) w5 := hgr
  have hw5 : WalAt (fun k => R k ∨ (W.heap.size ≤ k ∧ k < w5.heap.size)) p q { s with L := s.L ++ [l] } (w5.setCell ⟨p, 5, none⟩ v') := ⟨v', .inl hv4.hp, by rw [heap_setCell_same w5 p 5 _ _ _ hrow5]; rfl, hgr2.beside hrow5 wal_ty1 wal_ty2 ((Turns.refl (fun k => k = p) w5).set p 5 _ (fun _ => rfl))⟩
  have e0 : w5.cell? ⟨p, 0, none⟩ = some (.int .u64 (s.gen : Int)) := by rw [cell_of_row w5 p 0 _ _ _ hrow5]; rfl
  have e1 : w5.cell? ⟨p, 1, none⟩ = some (.int .i64 (s.used : Int)) := by rw [cell_of_row w5 p 1 _ _ _ hrow5]; rfl
  have e5 : w5.cell? ⟨p, 5, none⟩ = some v := by rw [cell_of_row w5 p 5 _ _ _ hrow5]; rfl
  have hK5 : ∀ x ∈ kept, w5.heap[x.1]? = some x.2 := fun x hx => ht5.same (h4.rows x hx).1 (h4.rows x hx).2.2
  have cB5 : w5.cell? ⟨B, 0, none⟩ = some (.pointer (some ⟨p, 0, none⟩)) := by rw [cell_of_row w5 B 0 _ _ _ (hK5 _ hB)]; rfl
  have cC5 : w5.cell? ⟨C, 0, none⟩ = some (.slice a len cap) := by rw [cell_of_row w5 C 0 _ _ _ (hK5 _ hC)]; rfl
  refine ⟨⟨cB5, hK5 _ hna, cC5, e5⟩, ?_⟩
  simp only [Act.put, List.setIfInBounds_toArray, List.set_cons_zero, List.set_cons_succ]
  refine mid_one (.pointer (some ⟨p, 0, none⟩)) rfl rfl ⟨cB5, hK5 _ hna, cC5, e5⟩ ?_
  simp only [Act.put, List.setIfInBounds_toArray, List.set_cons_zero, List.set_cons_succ]
  refine mid_one (.pointer (some ⟨p, 0, none⟩)) rfl (by go_simp) ⟨cB5, hK5 _ hna, cC5, e5⟩ ?_
  simp only [Act.put, List.setIfInBounds_toArray, List.set_cons_zero, List.set_cons_succ]
  have nB : B ≠ p := fun e => (h4.rows _ hB).2.2 (by rw [e]; exact hv4.hp)
  have nC : C ≠ p := fun e => (h4.rows _ hC).2.2 (by rw [e]; exact hv4.hp)
  have nN : na ≠ p := fun e => (h4.rows _ hna).2.2 (by rw [e]; exact hv4.hp)
  have hrow6 : ((w5.setCell ⟨p, 0, none⟩ (.int .u64 (g : Int))).setCell ⟨p, 1, none⟩ (.int .i64 (u : Int))).heap[p]? = some (.cells (wlcells { s with gen := g, used := u } q v) 131 (0, 0)) := by
    have q1 : (w5.setCell ⟨p, 0, none⟩ (.int .u64 (g : Int))).heap[p]? = some (.cells (wlcells { s with gen := g } q v) 131 (0, 0)) := by rw [heap_setCell_same w5 p 0 _ _ _ hrow5]; rfl
    rw [heap_setCell_same _ p 1 _ _ _ q1]; rfl
  have cB6 : ((w5.setCell ⟨p, 0, none⟩ (.int .u64 (g : Int))).setCell ⟨p, 1, none⟩ (.int .i64 (u : Int))).cell? ⟨B, 0, none⟩ = some (.pointer (some ⟨p, 0, none⟩)) := by rw [cell_of_row _ B 0 _ _ _ (other_row (other_row (hK5 _ hB) nB) nB)]; rfl
  have cC6 : ((w5.setCell ⟨p, 0, none⟩ (.int .u64 (g : Int))).setCell ⟨p, 1, none⟩ (.int .i64 (u : Int))).cell? ⟨C, 0, none⟩ = some (.slice a len cap) := by rw [cell_of_row _ C 0 _ _ _ (other_row (other_row (hK5 _ hC) nC) nC)]; rfl
  have e65 : ((w5.setCell ⟨p, 0, none⟩ (.int .u64 (g : Int))).setCell ⟨p, 1, none⟩ (.int .i64 (u : Int))).cell? ⟨p, 5, none⟩ = some v := by rw [cell_of_row _ p 5 _ _ _ hrow6]; rfl
  refine mid_wp rfl (store_wp 128 (.tmp 16) (.tmp 6) (.pointer (some ⟨p, 0, none⟩)) (markV g u) rfl rfl rfl (store_mark (g : Int) (u : Int) e0 e1 (row_free hrow5 0) (row_free hrow5 1)) ⟨⟨cB6, other_row (other_row (hK5 _ hna) nN) nN, cC6, e65⟩, ?_⟩)
  simp only [Act.put]
  refine mid_list ?_
  have f6 := row_free hrow6 5
  have ht6 : Turns R (w1.alloc (.cells #[.slice a9 (bas l).length cap9] 29)) (((w5.setCell ⟨p, 0, none⟩ (.int .u64 (g : Int))).setCell ⟨p, 1, none⟩ (.int .i64 (u : Int))).setCell ⟨p, 5, none⟩ v') := ((ht5.set p 0 _ (fun _ => hv4.hp)).set p 1 _ (fun _ => hv4.hp)).set p 5 _ (fun _ => hv4.hp)
  have hsz6 : (((w5.setCell ⟨p, 0, none⟩ (.int .u64 (g : Int))).setCell ⟨p, 1, none⟩ (.int .i64 (u : Int))).setCell ⟨p, 5, none⟩ v').heap.size = w5.heap.size := by simp [World.setCell]
  have hw6 : WalAt (fun k => R k ∨ (W.heap.size ≤ k ∧ k < w5.heap.size)) p q { s with gen := g, used := u, L := s.L ++ [l] } (((w5.setCell ⟨p, 0, none⟩ (.int .u64 (g : Int))).setCell ⟨p, 1, none⟩ (.int .i64 (u : Int))).setCell ⟨p, 5, none⟩ v') :=
    ⟨v', .inl hv4.hp, by rw [heap_setCell_same _ p 5 _ _ _ hrow6]; rfl, (hgr2.beside hrow5 wal_ty1 wal_ty2 ((((Turns.refl (fun k => k = p) w5).set p 0 _ (fun _ => rfl)).set p 1 _ (fun _ => rfl)).set p 5 _ (fun _ => rfl)))⟩
  have hdk : ∀ j, (fun k => R k ∨ (W.heap.size ≤ k ∧ k < w5.heap.size)) j → R j ∨ (w1.alloc (.cells #[.slice a9 (bas l).length cap9] 29)).heap.size ≤ j ∨ W.heap.size ≤ j := fun j hj => by
    rcases hj with hj | hj
    · exact .inl hj
    · exact .inr (.inr hj.1)
  have hfin : Apn w S0 R0 kept S (fun k => R k ∨ (W.heap.size ≤ k ∧ k < w5.heap.size)) p q d { s with gen := g, used := u, L := s.L ++ [l] } (((w5.setCell ⟨p, 0, none⟩ (.int .u64 (g : Int))).setCell ⟨p, 1, none⟩ (.int .i64 (u : Int))).setCell ⟨p, 5, none⟩ v') := by
    refine H.out.turnWal (W' := ((w5.setCell ⟨p, 0, none⟩ (.int .u64 (g : Int))).setCell ⟨p, 1, none⟩ (.int .i64 (u : Int))).setCell ⟨p, 5, none⟩ v') ?_ (fun j hj => ?_) hw6
    · exact (((Turns.refl R W).drew).trans (Turns.of_new hb2A R) (fun _ _ e => e)).trans ht6 (fun _ _ e => e)
    · rcases hj with hj | hj
      · exact .inl hj
      · exact .inr hj.1
  have Hfin := Lib.hid hfin; clear hfin
  have hvq := Hvv.out
  clear hw5 hw6 hgr hgr2 hdk ht6 ht5 h2 h3 h4 hv2 hv3 hv4 hown5 hg5 hvb5 hr1A hr0 hr1 hr2 hr3 hb2A hbA ho h1 hK5 e0 e1 e5 cB5 cC5 hnp cC6 hsz6
  clear Hv H Hs Hcp Hvv
  subst hvv'
  go_wp2_with fail
  apply NoPanic.normal
  go_wp2_with fail
  go_ret
  exact ⟨rfl, _, Hfin.out⟩
end
end Go.Proofs.YtalklpnekbfehaaGreat

/-
  What Reset does.
-/
set_option linter.unusedVariables false
set_option maxRecDepth 100000
namespace Go.Proofs.YtalklpnekbfehaaGreat
open Go.RowKit

theorem fn_info : (Tryz.prog.info? 33).map (fun i => (i.zero, i.size, i.bytes)) = some (some .nilFunc, 1, 8) := by kernel_rfl
theorem fn_u : Tryz.prog.underlying 111 = some (.slice 33) := Tryz.underlying111
def fnv (x : Nat × Array Value) : Value := .func (.func x.1) #[] x.2
theorem slice_fn3 (x y z : Nat × Array Value) (w : World) : (Instr.buildSlice 111 3 #[(0, fnv x), (1, fnv y), (2, fnv z)]).run Tryz.prog w = .ok (.slice (some ⟨w.heap.size, 0, none⟩) 3 3) (w.alloc (.cells #[fnv x, fnv y, fnv z] 33)) := by
  obtain ⟨i, hi, h0, h1, h2⟩ := info_parts fn_info
  have hf := Great.fill_whole (s := 1) (by omega) [fnv x, fnv y, fnv z] ((Array.range (3 * 1)).map (Value.nilFunc.cells[· % Value.nilFunc.cells.size]!)) (fun v hv => by simp at hv; rcases hv with rfl | rfl | rfl <;> rfl) (by simp)
  refine run_buildSlice w 111 33 3 _ #[fnv x, fnv y, fnv z] i _ fn_u hi h0 (by rw [h1]; decide) (by rw [h1]; decide) ?_
  rw [h1]
  have e : ([fnv x, fnv y, fnv z].flatMap fun v => v.cells.toList).toArray = #[fnv x, fnv y, fnv z] := by simp [Value.cells, fnv]
  rw [e] at hf
  exact hf
theorem slice_fn5 (x y z x2 y2 : Nat × Array Value) (w : World) : (Instr.buildSlice 111 5 #[(0, fnv x), (1, fnv y), (2, fnv z), (3, fnv x2), (4, fnv y2)]).run Tryz.prog w = .ok (.slice (some ⟨w.heap.size, 0, none⟩) 5 5) (w.alloc (.cells #[fnv x, fnv y, fnv z, fnv x2, fnv y2] 33)) := by
  obtain ⟨i, hi, h0, h1, h2⟩ := info_parts fn_info
  have hf := Great.fill_whole (s := 1) (by omega) [fnv x, fnv y, fnv z, fnv x2, fnv y2] ((Array.range (5 * 1)).map (Value.nilFunc.cells[· % Value.nilFunc.cells.size]!)) (fun v hv => by simp at hv; rcases hv with rfl | rfl | rfl | rfl | rfl <;> rfl) (by simp)
  refine run_buildSlice w 111 33 5 _ #[fnv x, fnv y, fnv z, fnv x2, fnv y2] i _ fn_u hi h0 (by rw [h1]; decide) (by rw [h1]; decide) ?_
  rw [h1]
  have e : ([fnv x, fnv y, fnv z, fnv x2, fnv y2].flatMap fun v => v.cells.toList).toArray = #[fnv x, fnv y, fnv z, fnv x2, fnv y2] := by simp [Value.cells, fnv]
  rw [e] at hf
  exact hf
theorem store_err {w : World} {b o : Nat} {x' : Value} {x : Int} (h0 : w.cell? ⟨b, o, none⟩ = some x') (f0 : w.frozen? ⟨b, o, none⟩ = false) :
    (Instr.storeAt 27 (.pointer (some ⟨b, o, none⟩)) (.int .i64 x)).run Tryz.prog w = .ok () (w.setCell ⟨b, o, none⟩ (.int .i64 x)) := by
  have hz := Tryz.sizeOf27
  simp [Instr.storeAt, go_sem, hz, h0, f0]

namespace Wal
section
variable (d : Dsk.St) (s : St)
def rsW : Dsk.St × Int := Dsk.write d (s.from_ : Int) (mark (up s.gen) 0)
def rsF : Dsk.St × Int := Dsk.flush (rsW d s).1
def rsE : Nat → Int
  | 0 => (rsW d s).2
  | 1 => (rsF d s).2
  | _ => 0
def rsD : Nat → Dsk.St
  | 0 => d
  | 1 => (rsW d s).1
  | _ => (rsF d s).1
def rsS : Nat → St
  | 3 => { s with gen := up s.gen, used := 0, L := [] }
  | _ => s
theorem steps2 : ((rsW d s).2 ≠ 0 → steps (resetOps s) d = rsW d s) ∧ ((rsW d s).2 = 0 → (rsF d s).2 ≠ 0 → steps (resetOps s) d = rsF d s) ∧ ((rsW d s).2 = 0 → (rsF d s).2 = 0 → steps (resetOps s) d = ((rsF d s).1, 0)) := by
  have e : steps (resetOps s) d = if (rsW d s).2 = 0 then (if (rsF d s).2 = 0 then ((rsF d s).1, 0) else rsF d s) else rsW d s := rfl
  rw [e]
  refine ⟨fun h => if_neg h, fun h h2 => ?_, fun h h2 => ?_⟩
  · rw [if_pos h, if_neg h2]
  · rw [if_pos h, if_pos h2]
end
end Wal

section
variable {w : World} {S0 R0 : Nat → Prop} {p q : Nat} {d : Dsk.St} {s : Wal.St}
def rsG : Nat → Nat
  | 0 => 125
  | 1 => 126
  | _ => 127
def rsL (B na : Nat) : Nat → Array Value
  | 0 => #[.pointer (some ⟨B, 0, none⟩), .pointer (some ⟨na, 0, none⟩)]
  | 1 => #[.pointer (some ⟨B, 0, none⟩)]
  | _ => #[.pointer (some ⟨na, 0, none⟩), .pointer (some ⟨B, 0, none⟩)]
def rsObj (B na : Nat) : Obj := .cells #[fnv (rsG 0, rsL B na 0), fnv (rsG 1, rsL B na 1), fnv (rsG 2, rsL B na 2)] 33 (0, 0)
theorem rs_eg (i : Nat) (args : Array Value) (w : World) : (callFunc (rsG i) args).run Tryz.prog w = .ok (.enter (rsG i) args) w := by
  match i with
  | 0 => exact enters_of Tryz.func125 (by kernel_rfl) rfl args w
  | 1 => exact enters_of Tryz.func126 (by kernel_rfl) rfl args w
  | (j + 2) => exact enters_of Tryz.func127 (by kernel_rfl) rfl args w
theorem up_lt (g : Nat) : Wal.up g < 18446744073709551616 := Nat.mod_lt _ (by decide)

theorem rs_follow {kept : List (Nat × Obj)} {S R : Nat → Prop} {W : World} {B na fb m : Nat} (h : Apn w S0 R0 kept S R p q d s W) (hs : s.Ok m) (hops : d.ops ≤ 1099511500000)
    (hB : (B, boxW p) ∈ kept) (hna : (na, boxM (Wal.up s.gen) 0) ∈ kept) (hfb : (fb, rsObj B na) ∈ kept) :
    Calls Tryz.prog 33 #[.slice (some ⟨fb, 0, none⟩) 3 3] W (Went 3 (Wal.rsE d s) (fun j W' => ∃ S', Apn w S0 R0 kept S' R p q (Wal.rsD d s j) (Wal.rsS s j) W')) := by
  have hi := hs.hi
  have hm := hs.m
  have hn := hs.lo
  have ho1 : (Wal.rsW d s).1.ops ≤ 1099511600000 := by
    have := Dsk.write_ops d (s.from_ : Int) (Wal.mark (Wal.up s.gen) 0)
    rw [Wal.mark_length] at this
    show (Dsk.write d (s.from_ : Int) (Wal.mark (Wal.up s.gen) 0)).1.ops ≤ _
    omega
  refine follow_any fb 3 rsG (rsL B na) (fun i _ => rs_eg i) (Wal.rsE d s) _ (by omega) W ?_ ?_ ⟨S, h⟩
  · rintro j W' ⟨S', hI⟩ i hi
    rw [cell_of_row _ _ i _ _ _ (hI.row hfb)]
    match i, hi with
    | 0, _ => rfl
    | 1, _ => rfl
    | 2, _ => rfl
    | (m + 3), h => exact absurd h (by omega)
  · rintro j W' hj hz ⟨S', hI⟩
    match j, hj, hz, hI with
    | 0, _, _, hI => exact (re1_any hI hB hna (by show s.from_ ≤ 16384; omega) (up_lt _) (by omega) (by show d.ops ≤ _; omega)).mono fun e W2 ⟨h1, S2, h2⟩ => ⟨h1, S2, h2⟩
    | 1, _, _, hI => exact (re2_any hI hB (by show (Wal.rsW d s).1.ops ≤ _; omega)).mono fun e W2 ⟨h1, S2, h2⟩ => ⟨h1, S2, h2⟩
    | 2, _, _, hI => exact (re3_any hI hB hna).mono fun e W2 ⟨h1, h2⟩ => ⟨h1, S', h2⟩
    | (m + 3), h, _, _ => exact absurd h (by omega)

theorem reset_nil (w : World) : Calls Tryz.prog 81 #[.pointer none] w fun e w' => e = .returned (.int .i64 1) ∧ Below w.heap.size w w' := by
  go_enter Tryz.func81, Tryz.ntmps81
  go_wp2
  go_ret
  exact ⟨rfl, (Below.refl _ w).alloc (Nat.le_refl _) _⟩

theorem reset_any {m : Nat} (hd : DiskAt S0 q d w) (hw : WalAt R0 p q s w) (ha : ∀ j, S0 j → ¬ R0 j) (hs : s.Ok m) (hops : d.ops ≤ 1099511500000) :
    Calls Tryz.prog 81 #[.pointer (some ⟨p, 0, none⟩)] w fun e w' => e = .returned (.int .i64 (Wal.reset d s).2.2) ∧ ∃ S R, Apn w S0 R0 [] S R p q (Wal.reset d s).1 (Wal.reset d s).2.1 w' := by
  have h0 := Apn.start hd hw ha
  have h1 := h0.box (.cells #[.pointer (some ⟨p, 0, none⟩)] 72) w.heap.size rfl
  obtain ⟨v1, hv1⟩ := h1.wal
  have c0 := hv1.c0
  have c6 := hv1.c6
  unfold Wal.reset
  by_cases he : s.err = 0
  · rw [if_neg (by simpa using he)]
    obtain ⟨SF, hSF⟩ : ∃ SF : Wal.St, SF = (if (Wal.steps (Wal.resetOps s) d).2 = 0 then { s with gen := Wal.up s.gen, used := 0, L := [] } else { s with err := (Wal.steps (Wal.resetOps s) d).2 }) := ⟨_, rfl⟩
    show Calls Tryz.prog 81 #[.pointer (some ⟨p, 0, none⟩)] w fun e w' => e = .returned (.int .i64 (Wal.steps (Wal.resetOps s) d).2) ∧ ∃ S R, Apn w S0 R0 [] S R p q (Wal.steps (Wal.resetOps s) d).1 (if (Wal.steps (Wal.resetOps s) d).2 = 0 then { s with gen := Wal.up s.gen, used := 0, L := [] } else { s with err := (Wal.steps (Wal.resetOps s) d).2 }) w'
    rw [← hSF]
    have HSF := Lib.hid hSF; clear hSF
    have h2 := h1.box (.cells #[.int .u64 (Wal.up s.gen : Int), .int .i64 0] 128) (w.heap.size + 1) (by simp)
    have hg := hs.gen
    have hup : IntKind.u64.wrap ((s.gen : Int) + 1) = ((Wal.up s.gen : Nat) : Int) := by
      rw [IntKind.wrap_u64]; unfold Wal.up; omega
    have hst := Wal.steps_err (Wal.resetOps s) d
    have hs2 := Wal.steps2 d s
    rw [he] at c6
    have H2 := Lib.hid h2; clear h2
    have He := Lib.hid he; clear he
    have Hs := Lib.hid hs; clear hs
    have Hs2 := Lib.hid hs2; clear hs2
    have H1 := Lib.hid h1; clear h1
    clear hv1 h0 hd hw
    go_enter Tryz.func81, Tryz.ntmps81
    go_wp2_with fail
    have h3 := H2.out.new ((Below.refl _ _).drew)
    refine wp_region_phases [([0, 1, 2, 3], [4, 5, 6, 7, 8])] (by kernel_rfl) (by kernel_rfl) (fun z => z.cell? ⟨w.heap.size, 0, none⟩ = some (.pointer (some ⟨p, 0, none⟩))) (h3.cB (by simp [boxW])) ?_
    simp only [wpPhases, pick, List.filterMap_cons, List.filterMap_nil, List.getElem?_toArray, List.getElem?_cons_zero, List.getElem?_cons_succ]
    refine take_load 72 (.tmp 1) ⟨w.heap.size, 0, none⟩ (.pointer (some ⟨p, 0, none⟩)) rfl rfl rfl (fun u hu => load_any Tryz.underlying72 Tryz.isAgg72 hu) ?_
    simp only [Act.put, List.setIfInBounds_toArray, List.set_cons_zero, List.set_cons_succ]
    refine take_one (fnv (rsG 0, rsL w.heap.size (w.heap.size + 1) 0)) rfl (fun u _ => by simp only [fnv, rsG, rsL]; go_simp) ?_
    simp only [Act.put, List.setIfInBounds_toArray, List.set_cons_zero, List.set_cons_succ]
    refine take_one (fnv (rsG 1, rsL w.heap.size (w.heap.size + 1) 1)) rfl (fun u _ => by simp only [fnv, rsG, rsL]; go_simp) ?_
    simp only [Act.put, List.setIfInBounds_toArray, List.set_cons_zero, List.set_cons_succ]
    refine take_one (fnv (rsG 2, rsL w.heap.size (w.heap.size + 1) 2)) rfl (fun u _ => by simp only [fnv, rsG, rsL]; go_simp) ?_
    simp only [Act.put, List.setIfInBounds_toArray, List.set_cons_zero, List.set_cons_succ]
    refine take_done ?_
    generalize hWd : World.drew _ = Wd at h3 ⊢
    have h4 := h3.box (rsObj w.heap.size (w.heap.size + 1)) Wd.heap.size rfl
    refine midk_one (w' := Wd.alloc (rsObj w.heap.size (w.heap.size + 1))) (.slice (some ⟨Wd.heap.size, 0, none⟩) 3 3) rfl (run_slice_op 111 3 [(0, .tmp 25), (1, .tmp 26), (2, .tmp 27)] rfl (slice_fn3 _ _ _ Wd)) (h4.cB (by simp [boxW])) ?_
    simp only [Act.put, List.setIfInBounds_toArray, List.set_cons_zero, List.set_cons_succ]
    have hfo := rs_follow (B := w.heap.size) (na := w.heap.size + 1) (fb := Wd.heap.size) h4 Hs.out hops (by simp [boxW]) (by simp [boxM]) (by simp)
    refine midk_wp rfl (call_wp 33 [.tmp 28] #[111] #[.slice (some ⟨Wd.heap.size, 0, none⟩) 3 3] rfl rfl rfl ?_)
    refine hfo.mono ?_
    rintro e w5 ⟨k, hk, hz, hcase⟩
    obtain ⟨q1, q2, q3⟩ := Hs2.out
    have key : ∃ (E : Int) (S5 : Nat → Prop) (D5 : Dsk.St) (s5 : Wal.St), e = .returned (.int .i64 E) ∧ Apn w S0 R0 ((Wd.heap.size, rsObj w.heap.size (w.heap.size + 1)) :: [(w.heap.size + 1, .cells #[.int .u64 (Wal.up s.gen : Int), .int .i64 0] 128), (w.heap.size, .cells #[.pointer (some ⟨p, 0, none⟩)] 72)]) S5 R0 p q D5 s5 w5 ∧
        Wal.steps (Wal.resetOps s) d = (D5, E) ∧ { s5 with err := E } = (if E = 0 then { s with gen := Wal.up s.gen, used := 0, L := [] } else { s with err := E }) := by
      rcases hcase with ⟨rfl, rfl, S5, h5⟩ | ⟨hlt, hne, rfl, S5, h5⟩
      · refine ⟨0, S5, _, _, rfl, h5, q3 (hz 0 (by omega)) (hz 1 (by omega)), ?_⟩
        rw [if_pos rfl]
        show ({ s with gen := Wal.up s.gen, used := 0, L := [], err := 0 } : Wal.St) = { s with gen := Wal.up s.gen, used := 0, L := [] }
        rw [← He.out]
      · match k, hlt, hz, hne, h5 with
        | 0, _, _, hne, h5 => exact ⟨_, S5, _, _, rfl, h5, by rw [q1 hne]; rfl, by rw [if_neg hne]; rfl⟩
        | 1, _, hz, hne, h5 => exact ⟨_, S5, _, _, rfl, h5, by rw [q2 (hz 0 (by omega)) hne]; rfl, by rw [if_neg hne]; rfl⟩
        | 2, _, _, hne, _ => exact absurd rfl hne
        | (j + 3), h, _, _, _ => exact absurd h (by omega)
    obtain ⟨E, S5, D5, s5, rfl, h5, hst5, hse⟩ := key
    refine ⟨_, rfl, h5.cB (by simp [boxW]), ?_⟩
    simp only [Act.put, List.setIfInBounds_toArray, List.set_cons_zero, List.set_cons_succ]
    refine midk_one (.pointer (some ⟨p, 0, none⟩)) rfl rfl (h5.cB (by simp [boxW])) ?_
    simp only [Act.put, List.setIfInBounds_toArray, List.set_cons_zero, List.set_cons_succ]
    refine midk_one (.pointer (some ⟨p, 6, none⟩)) rfl (by go_simp) (h5.cB (by simp [boxW])) ?_
    simp only [Act.put, List.setIfInBounds_toArray, List.set_cons_zero, List.set_cons_succ]
    have h6 := h5.faulted E
    obtain ⟨v5, hv5⟩ := h5.wal
    refine midk_store 27 (.tmp 31) (.tmp 29) _ _ rfl rfl rfl rfl (store_err hv5.c6 (hv5.free 6)) (h6.cB (by simp [boxW])) ?_
    simp only [Act.put]
    refine midk_end ?_
    have hfin : Apn w S0 R0 [] S5 R0 p q D5 (if E = 0 then { s with gen := Wal.up s.gen, used := 0, L := [] } else { s with err := E }) (w5.setCell ⟨p, 6, none⟩ (.int .i64 E)) := by
      rw [← hse]
      exact ⟨h6.disk, h6.wal, h6.apart, fun x hx => by simp at hx, h6.loS, h6.loR, h6.turns⟩
    have cb := h6.cB (B := w.heap.size) (by simp [boxW])
    obtain ⟨v6, hv6⟩ := h6.wal
    have c66 := hv6.c6
    have hgoal : Ending.returned (.int .i64 E) = .returned (.int .i64 (Wal.steps (Wal.resetOps s) d).2) ∧ ∃ S R, Apn w S0 R0 [] S R p q (Wal.steps (Wal.resetOps s) d).1 SF (w5.setCell ⟨p, 6, none⟩ (.int .i64 E)) := by
      have hq := HSF.out
      rw [hst5] at hq
      exact ⟨by rw [hst5], S5, R0, by rw [hst5, hq]; exact hfin⟩
    have Hgoal := Lib.hid hgoal; clear hgoal
    clear hfin h6 hv6 h5 hv5 hse hst5 hfo h4 h3 hWd q1 q2 q3 hz hcase hst hup c0 c6
    go_wp2_with fail
    go_ret
    obtain ⟨g1, S9, R9, g2⟩ := Hgoal.out
    exact ⟨g1, S9, R9, g2⟩
  · rw [if_pos (by simpa using he)]
    have hx : (s.err != 0) = true := by rw [bne_iff_ne]; exact he
    have H1 := Lib.hid h1; clear h1
    clear hv1 h0 hd hw hs
    go_enter Tryz.func81, Tryz.ntmps81
    go_wp2_with fail
    go_ret
    exact ⟨rfl, S0, R0, ⟨H1.out.disk, H1.out.wal, H1.out.apart, fun x hx => by simp at hx, H1.out.loS, H1.out.loR, H1.out.turns⟩⟩
end
end Go.Proofs.YtalklpnekbfehaaGreat

/-
  What Append does.
-/
set_option linter.unusedVariables false
set_option maxRecDepth 100000
namespace Go.Proofs.YtalklpnekbfehaaGreat
open Go.RowKit

namespace Wal
theorem slim_of_row {l : Grp} (h : (Oct.row l).2 = 0) : Slim l := by
  unfold Oct.row at h
  split at h
  · rename_i h1; exact h1
  · exact absurd h (by decide)
theorem row_short {l : Grp} : (Oct.row l).1.length ≤ 8589934592 := by
  unfold Oct.row
  split
  · rename_i h1
    have := Oct.body_length l h1.2
    rw [List.length_append, Oct.le_length]
    omega
  · simp
end Wal

section
variable {w : World} {S0 R0 : Nat → Prop} {p q : Nat} {d : Dsk.St} {s : Wal.St}
theorem append_nil (a : Option Addr) (len cap : Nat) (w : World) : Calls Tryz.prog 59 #[.pointer none, .slice a len cap] w fun e w' => e = .returned (.int .i64 1) ∧ Below w.heap.size w w' := by
  go_enter Tryz.func59, Tryz.ntmps59
  go_wp2
  go_ret
  exact ⟨rfl, ((Below.refl _ w).alloc (Nat.le_refl _) _).alloc (by simp) _⟩

/-- what an append leaves: its answer, and both, apart from what was there -/
def AppR (w : World) (S0 R0 : Nat → Prop) (p q : Nat) (x : Dsk.St × Wal.St × Int) (e : Ending) (w' : World) : Prop :=
  e = .returned (.int .i64 x.2.2) ∧ ∃ S R, Apn w S0 R0 [] S R p q x.1 x.2.1 w'
theorem Apn.bare {kept : List (Nat × Obj)} {S R : Nat → Prop} {W : World} (h : Apn w S0 R0 kept S R p q d s W) : Apn w S0 R0 [] S R p q d s W :=
  ⟨h.disk, h.wal, h.apart, fun x hx => by simp at hx, h.loS, h.loR, h.turns⟩

theorem append_err {m : Nat} (hd : DiskAt S0 q d w) (hw : WalAt R0 p q s w) (ha : ∀ j, S0 j → ¬ R0 j) (a : Option Addr) (len cap : Nat) (he : s.err ≠ 0) :
    Calls Tryz.prog 59 #[.pointer (some ⟨p, 0, none⟩), .slice a len cap] w (AppR w S0 R0 p q (d, s, s.err)) := by
  have h1 := (Apn.start hd hw ha).box (.cells #[.pointer (some ⟨p, 0, none⟩)] 72) w.heap.size rfl
  have h2 := h1.box (.cells #[.slice a len cap] 29) (w.heap.size + 1) (by simp)
  obtain ⟨v2, hv2⟩ := h2.wal
  have c6 := hv2.c6
  have hx : (s.err != 0) = true := by rw [bne_iff_ne]; exact he
  have H2 := Lib.hid h2.bare; clear h2
  clear hv2 h1 hd hw he
  generalize hE : s.err = E at *
  go_enter Tryz.func59, Tryz.ntmps59
  go_wp2_with fail
  go_ret
  exact ⟨rfl, S0, R0, H2.out⟩

set_option maxHeartbeats 600000 in
theorem append_row {m : Nat} (hd : DiskAt S0 q d w) (hw : WalAt R0 p q s w) (ha : ∀ j, S0 j → ¬ R0 j) (hs : s.Ok m) (a : Option Addr) (len cap : Nat) (l : Wal.Grp) (hst : Strs a len (bas l) w) (hlen : len ≤ 140737488355328) (hz : ∀ j, ((bas l).getD j .empty).size ≤ 9223372036854700000)
    (he : s.err = 0) (hr : (Oct.row l).2 ≠ 0 ∨ s.n - 1 - s.used < Wal.secs (Oct.row l).1) :
    Calls Tryz.prog 59 #[.pointer (some ⟨p, 0, none⟩), .slice a len cap] w (AppR w S0 R0 p q (d, s, if (Oct.row l).2 ≠ 0 then (Oct.row l).2 else 4)) := by
  have h1 := (Apn.start hd hw ha).box (.cells #[.pointer (some ⟨p, 0, none⟩)] 72) w.heap.size rfl
  have h2 := h1.box (.cells #[.slice a len cap] 29) (w.heap.size + 1) (by simp)
  obtain ⟨v2, hv2⟩ := h2.wal
  have c6 := hv2.c6
  rw [he] at c6
  have hst2 : Strs a len (bas l) ((w.alloc (.cells #[.pointer (some ⟨p, 0, none⟩)] 72)).alloc (.cells #[.slice a len cap] 29)) := hst.keep (((Below.refl _ w).alloc (Nat.le_refl _) _).alloc (by simp) _)
  have hrow := octRow_any a len cap (bas l) _ hst2 hlen hz
  rw [lists_bas] at hrow
  have hrs := Wal.row_short (l := l)
  have hgs := fun x => groupSectors_any (ba (Oct.row l).1) (by rw [ba_size]; omega) x
  rw [ba_list] at hgs
  have hrow2 : Calls Tryz.prog 85 #[.slice a len cap] ((w.alloc (.cells #[.pointer (some ⟨p, 0, none⟩)] 72)).alloc (.cells #[.slice a len cap] 29)) fun e w' => e = .returned (.tuple #[.string (ba (Oct.row l).1), .int .i64 (Oct.row l).2]) ∧ Below ((w.alloc (.cells #[.pointer (some ⟨p, 0, none⟩)] 72)).alloc (.cells #[.slice a len cap] 29)).heap.size ((w.alloc (.cells #[.pointer (some ⟨p, 0, none⟩)] 72)).alloc (.cells #[.slice a len cap] 29)) w' := hrow
  clear hrow
  generalize ba (Oct.row l).1 = row at *
  generalize Wal.secs (Oct.row l).1 = k at *
  generalize (Oct.row l).2 = E at *
  have Hrow := Lib.hid hrow2; clear hrow2
  have Hgs := Lib.hid hgs; clear hgs
  have H2 := Lib.hid h2; clear h2
  have Hs := Lib.hid hs; clear hs
  clear hv2 h1 hd hw he hst hst2 hrs hz
  by_cases h0 : E = 0
  · subst h0
    rw [if_neg (by decide)]
    have hk : s.n - 1 - s.used < k := by
      rcases hr with hr | hr
      · exact absurd rfl hr
      · exact hr
    have hx : decide (((s.n - 1 - s.used : Nat) : Int) < (k : Int)) = true := decide_eq_true (by omega)
    clear hr
    go_enter Tryz.func59, Tryz.ntmps59
    go_wp2_with fail
    refine Hrow.out.mono ?_; rintro e w3 ⟨rfl, h3⟩
    have h3' := H2.out.new h3
    have h4 := h3'.box (.cells #[.string row] 9) w3.heap.size rfl
    have cb := h4.cB (B := w.heap.size) (by simp [boxW])
    have H4 := Lib.hid h4; clear h4
    clear h3' h3
    go_wp2_with fail
    refine (Hgs.out _).mono ?_; rintro e w4 ⟨rfl, rfl⟩
    go_wp2_with fail
    refine (room_any H4.out.wal Hs.out).mono ?_; rintro e w5 ⟨rfl, j, rfl⟩
    go_wp2_with fail
    go_ret
    exact ⟨rfl, S0, R0, (H4.out.new (drewN_below (Below.refl _ _) j)).bare⟩
  · rw [if_pos h0]
    have hx : (E != 0) = true := by rw [bne_iff_ne]; exact h0
    clear hr h0
    go_enter Tryz.func59, Tryz.ntmps59
    go_wp2_with fail
    refine Hrow.out.mono ?_; rintro e w3 ⟨rfl, h3⟩
    have h3' := H2.out.new h3
    have h4 := h3'.box (.cells #[.string row] 9) w3.heap.size rfl
    have H4 := Lib.hid h4.bare; clear h4
    clear h3' h3
    go_wp2_with fail
    go_ret
    exact ⟨rfl, S0, R0, H4.out⟩
end
end Go.Proofs.YtalklpnekbfehaaGreat

/-
  What Append does where there is room.
-/
set_option linter.unusedVariables false
set_option maxRecDepth 100000
namespace Go.Proofs.YtalklpnekbfehaaGreat
open Go.RowKit

namespace Wal
section
variable (d : Dsk.St) (s : St) (r : Txt)
def apW1 : Dsk.St × Int := Dsk.write d ((s.from_ + 1 + s.used : Nat) : Int) (grp r)
def apF1 : Dsk.St × Int := Dsk.flush (apW1 d s r).1
def apW2 : Dsk.St × Int := Dsk.write (apF1 d s r).1 (s.from_ : Int) (mark s.gen (s.used + secs r))
def apF2 : Dsk.St × Int := Dsk.flush (apW2 d s r).1
def apE : Nat → Int
  | 0 => (apW1 d s r).2
  | 1 => (apF1 d s r).2
  | 2 => (apW2 d s r).2
  | 3 => (apF2 d s r).2
  | _ => 0
def apD : Nat → Dsk.St
  | 0 => d
  | 1 => (apW1 d s r).1
  | 2 => (apF1 d s r).1
  | 3 => (apW2 d s r).1
  | _ => (apF2 d s r).1
def apS (l : Grp) : Nat → St
  | 5 => { s with used := s.used + secs r, L := s.L ++ [l] }
  | _ => s
theorem steps4 : ((apW1 d s r).2 ≠ 0 → steps (appendOps s r) d = apW1 d s r) ∧ ((apW1 d s r).2 = 0 → (apF1 d s r).2 ≠ 0 → steps (appendOps s r) d = apF1 d s r) ∧
    ((apW1 d s r).2 = 0 → (apF1 d s r).2 = 0 → (apW2 d s r).2 ≠ 0 → steps (appendOps s r) d = apW2 d s r) ∧
    ((apW1 d s r).2 = 0 → (apF1 d s r).2 = 0 → (apW2 d s r).2 = 0 → (apF2 d s r).2 ≠ 0 → steps (appendOps s r) d = apF2 d s r) ∧
    ((apW1 d s r).2 = 0 → (apF1 d s r).2 = 0 → (apW2 d s r).2 = 0 → (apF2 d s r).2 = 0 → steps (appendOps s r) d = ((apF2 d s r).1, 0)) := by
  have e : steps (appendOps s r) d = if (apW1 d s r).2 = 0 then (if (apF1 d s r).2 = 0 then (if (apW2 d s r).2 = 0 then (if (apF2 d s r).2 = 0 then ((apF2 d s r).1, 0) else apF2 d s r) else apW2 d s r) else apF1 d s r) else apW1 d s r := rfl
  rw [e]
  refine ⟨fun h => if_neg h, fun h h2 => ?_, fun h h2 h3 => ?_, fun h h2 h3 h4 => ?_, fun h h2 h3 h4 => ?_⟩
  · rw [if_pos h, if_neg h2]
  · rw [if_pos h, if_pos h2, if_neg h3]
  · rw [if_pos h, if_pos h2, if_pos h3, if_neg h4]
  · rw [if_pos h, if_pos h2, if_pos h3, if_pos h4]
end
end Wal

section
variable {w : World} {S0 R0 : Nat → Prop} {p q : Nat} {d : Dsk.St} {s : Wal.St}
def apG : Nat → Nat
  | 0 => 88
  | 1 => 91
  | 2 => 93
  | 3 => 95
  | _ => 96
def apL (B C rb ta na : Nat) : Nat → Array Value
  | 0 => #[.pointer (some ⟨B, 0, none⟩), .pointer (some ⟨ta, 0, none⟩), .pointer (some ⟨rb, 0, none⟩)]
  | 1 => #[.pointer (some ⟨B, 0, none⟩)]
  | 2 => #[.pointer (some ⟨B, 0, none⟩), .pointer (some ⟨na, 0, none⟩)]
  | 3 => #[.pointer (some ⟨B, 0, none⟩)]
  | _ => #[.pointer (some ⟨na, 0, none⟩), .pointer (some ⟨B, 0, none⟩), .pointer (some ⟨C, 0, none⟩)]
def apObj (B C rb ta na : Nat) : Obj := .cells #[fnv (apG 0, apL B C rb ta na 0), fnv (apG 1, apL B C rb ta na 1), fnv (apG 2, apL B C rb ta na 2), fnv (apG 3, apL B C rb ta na 3), fnv (apG 4, apL B C rb ta na 4)] 33 (0, 0)
theorem ap_eg (i : Nat) (args : Array Value) (w : World) : (callFunc (apG i) args).run Tryz.prog w = .ok (.enter (apG i) args) w := by
  match i with
  | 0 => exact enters_of Tryz.func88 (by kernel_rfl) rfl args w
  | 1 => exact enters_of Tryz.func91 (by kernel_rfl) rfl args w
  | 2 => exact enters_of Tryz.func93 (by kernel_rfl) rfl args w
  | 3 => exact enters_of Tryz.func95 (by kernel_rfl) rfl args w
  | (j + 4) => exact enters_of Tryz.func96 (by kernel_rfl) rfl args w

theorem ap_follow {kept : List (Nat × Obj)} {S R : Nat → Prop} {W : World} {B C rb ta na fb m : Nat} {a : Option Addr} {len cap : Nat} {l : Wal.Grp} {row : ByteArray} (h : Apn w S0 R0 kept S R p q d s W) (hs : s.Ok m) (hops : d.ops ≤ 1099511400000)
    (hrow : row.data.toList = (Oct.row l).1) (hfit : Wal.secs (Oct.row l).1 ≤ s.n - 1 - s.used) (hsl : Slim l) (hst : Strs a len (bas l) w) (hap : ∀ b off, 0 < len → a = some ⟨b, off, none⟩ → ¬ (S0 b ∨ R0 b))
    (hB : (B, boxW p) ∈ kept) (hC : (C, boxL a len cap) ∈ kept) (hrb : (rb, boxS row) ∈ kept) (hta : (ta, boxI ((s.from_ + 1 + s.used : Nat) : Int)) ∈ kept) (hna : (na, boxM s.gen (s.used + Wal.secs (Oct.row l).1)) ∈ kept) (hfb : (fb, apObj B C rb ta na) ∈ kept) :
    Calls Tryz.prog 33 #[.slice (some ⟨fb, 0, none⟩) 5 5] W (Went 5 (Wal.apE d s (Oct.row l).1) (fun j W' => ∃ S' R', Apn w S0 R0 kept S' R' p q (Wal.apD d s (Oct.row l).1 j) (Wal.apS s (Oct.row l).1 l j) W')) := by
  have hi := hs.hi
  have hm := hs.m
  have hn := hs.lo
  have hu := hs.used
  have hg := hs.gen
  have hll := hs.len
  have hgl := Wal.grp_length (Oct.row l).1
  have hwl := Wal.whole_lo (4 + (Oct.row l).1.length)
  have hsec : Wal.secs (Oct.row l).1 = Wal.whole (4 + (Oct.row l).1.length) := rfl
  have hrs : row.size ≤ 1048576 := by rw [← ba_len, hrow]; omega
  have o1 : (Wal.apW1 d s (Oct.row l).1).1.ops ≤ 1099511500000 := by
    have := Dsk.write_ops d ((s.from_ + 1 + s.used : Nat) : Int) (Wal.grp (Oct.row l).1)
    rw [hgl] at this
    show (Dsk.write d ((s.from_ + 1 + s.used : Nat) : Int) (Wal.grp (Oct.row l).1)).1.ops ≤ _
    omega
  have o2 : (Wal.apF1 d s (Oct.row l).1).1.ops ≤ 1099511500000 := by
    have := Dsk.flush_ops (Wal.apW1 d s (Oct.row l).1).1
    show (Dsk.flush (Wal.apW1 d s (Oct.row l).1).1).1.ops ≤ _
    omega
  have o3 : (Wal.apW2 d s (Oct.row l).1).1.ops ≤ 1099511600000 := by
    have := Dsk.write_ops (Wal.apF1 d s (Oct.row l).1).1 (s.from_ : Int) (Wal.mark s.gen (s.used + Wal.secs (Oct.row l).1))
    rw [Wal.mark_length] at this
    show (Dsk.write (Wal.apF1 d s (Oct.row l).1).1 (s.from_ : Int) (Wal.mark s.gen (s.used + Wal.secs (Oct.row l).1))).1.ops ≤ _
    omega
  refine follow_any fb 5 apG (apL B C rb ta na) (fun i _ => ap_eg i) (Wal.apE d s (Oct.row l).1) _ (by omega) W ?_ ?_ ⟨S, R, h⟩
  · rintro j W' ⟨S', R', hI⟩ i hi
    rw [cell_of_row _ _ i _ _ _ (hI.row hfb)]
    match i, hi with
    | 0, _ => rfl
    | 1, _ => rfl
    | 2, _ => rfl
    | 3, _ => rfl
    | 4, _ => rfl
    | (m + 5), h => exact absurd h (by omega)
  · rintro j W' hj hz ⟨S', R', hI⟩
    match j, hj, hz, hI with
    | 0, _, _, hI =>
      have := ap1_any hI hB hta hrb (by omega) hrs (by show d.ops ≤ _; omega)
      rw [hrow] at this
      exact this.mono fun e W2 ⟨h1, S2, h2⟩ => ⟨h1, S2, R', h2⟩
    | 1, _, _, hI => exact (ap2_any hI hB (by show (Wal.apW1 d s (Oct.row l).1).1.ops ≤ _; omega)).mono fun e W2 ⟨h1, S2, h2⟩ => ⟨h1, S2, R', h2⟩
    | 2, _, _, hI => exact (ap3_any hI hB hna (by show s.from_ ≤ _; omega) hg (by omega) (by show (Wal.apF1 d s (Oct.row l).1).1.ops ≤ _; omega)).mono fun e W2 ⟨h1, S2, h2⟩ => ⟨h1, S2, R', h2⟩
    | 3, _, _, hI => exact (ap4_any hI hB (by show (Wal.apW2 d s (Oct.row l).1).1.ops ≤ _; omega)).mono fun e W2 ⟨h1, S2, h2⟩ => ⟨h1, S2, R', h2⟩
    | 4, _, _, hI => exact (ap5_any hI hB hna hC (hst.turns hI.turns hap) hsl (by show s.L.length ≤ _; omega)).mono fun e W2 ⟨h1, R2, h2⟩ => ⟨h1, S', R2, h2⟩
    | (m + 5), h, _, _ => exact absurd h (by omega)

theorem Apn.turnNew {kept : List (Nat × Obj)} {S R : Nat → Prop} {W W' : World} (h : Apn w S0 R0 kept S R p q d s W) {b : Nat} {o : Obj} (ht : Turns (fun j => j = b) W W') (hb : w.heap.size ≤ b) (hS : ¬ S b) (hR : ¬ R b) (hk : ∀ y ∈ kept, y.1 ≠ b) (ho : W'.heap[b]? = some o) :
    Apn w S0 R0 ((b, o) :: kept) S R p q d s W' :=
  ⟨h.disk.keeps ht (fun j hj e => hS (by rw [← e]; exact hj)), h.wal.keeps ht (fun j hj e => hR (by rw [← e]; exact hj)), h.apart, fun y hy => by
    rcases List.mem_cons.1 hy with rfl | hy
    · exact ⟨ho, hS, hR⟩
    · exact ⟨ht.same (h.rows y hy).1 (hk y hy), (h.rows y hy).2⟩, h.loS, h.loR, h.turns.trans ht (fun j hj e => by omega)⟩
theorem store_int {w : World} {b o : Nat} {x' : Value} {x : Int} (h0 : w.cell? ⟨b, o, none⟩ = some x') (f0 : w.frozen? ⟨b, o, none⟩ = false) :
    (Instr.storeAt 3 (.pointer (some ⟨b, o, none⟩)) (.int .i64 x)).run Tryz.prog w = .ok () (w.setCell ⟨b, o, none⟩ (.int .i64 x)) := by
  have hz := Tryz.sizeOf3
  simp [Instr.storeAt, go_sem, hz, h0, f0]
/-- both variables have been made and set, in either order -/
theorem two_vars {kept : List (Nat × Obj)} {S R : Nat → Prop} {W : World} (h : Apn w S0 R0 kept S R p q d s W) (hk : ∀ y ∈ kept, y.1 < W.heap.size) (at_ : Int) (g u ta na : Nat) (W3 : World) (hb : Below W.heap.size W W3) (hne : ta ≠ na) (h1 : W.heap.size ≤ ta) (h2 : W.heap.size ≤ na)
    {x0 y0 z0 : Value} (ht : W3.heap[ta]? = some (.cells #[x0] 3 (0, 0))) (hn : W3.heap[na]? = some (.cells #[y0, z0] 128 (0, 0))) :
    Apn w S0 R0 ((na, boxM g u) :: (ta, boxI at_) :: kept) S R p q d s (((W3.setCell ⟨ta, 0, none⟩ (.int .i64 at_)).setCell ⟨na, 0, none⟩ (.int .u64 (g : Int))).setCell ⟨na, 1, none⟩ (.int .i64 (u : Int))) := by
  have hsz := h.turns.size
  have hlS := h.disk.lt
  have hlR := h.wal.lt
  have h3 := (h.new hb).turnNew (b := ta) (o := boxI at_) ((Turns.refl (fun j => j = ta) W3).set ta 0 (.int .i64 at_) (fun _ => rfl)) (by omega) (fun e => by have := hlS _ e; omega) (fun e => by have := hlR _ e; omega) (fun y hy e => by have := hk y hy; omega) (by rw [heap_setCell_same W3 ta 0 _ _ _ ht]; rfl)
  refine h3.turnNew (b := na) (o := boxM g u) (((Turns.refl (fun j => j = na) _).set na 0 _ (fun _ => rfl)).set na 1 _ (fun _ => rfl)) (by omega) (fun e => by have := hlS _ e; omega) (fun e => by have := hlR _ e; omega) (fun y hy e => ?_) (two_set (other_row hn (fun e => hne e.symm)) _ _)
  rcases List.mem_cons.1 hy with rfl | hy
  · exact hne e
  · have := hk y hy; omega
end
end Go.Proofs.YtalklpnekbfehaaGreat

/-
  What Append does.
-/
set_option linter.unusedVariables false
set_option maxRecDepth 100000
namespace Go.Proofs.YtalklpnekbfehaaGreat
open Go.RowKit

section
variable {w : World} {S0 R0 : Nat → Prop} {p q : Nat} {d : Dsk.St} {s : Wal.St}
set_option maxHeartbeats 1600000 in
theorem append_go {m : Nat} (hd : DiskAt S0 q d w) (hw : WalAt R0 p q s w) (ha : ∀ j, S0 j → ¬ R0 j) (hs : s.Ok m) (hops : d.ops ≤ 1099511400000) (a : Option Addr) (len cap : Nat) (l : Wal.Grp) (hst : Strs a len (bas l) w) (hap : ∀ b off, 0 < len → a = some ⟨b, off, none⟩ → ¬ (S0 b ∨ R0 b))
    (hlen : len ≤ 140737488355328) (hz : ∀ j, ((bas l).getD j .empty).size ≤ 9223372036854700000) (he : s.err = 0) (h0 : (Oct.row l).2 = 0) (hfit : Wal.secs (Oct.row l).1 ≤ s.n - 1 - s.used) :
    Calls Tryz.prog 59 #[.pointer (some ⟨p, 0, none⟩), .slice a len cap] w (AppR w S0 R0 p q
      ((Wal.steps (Wal.appendOps s (Oct.row l).1) d).1, (if (Wal.steps (Wal.appendOps s (Oct.row l).1) d).2 = 0 then { s with used := s.used + Wal.secs (Oct.row l).1, L := s.L ++ [l] } else { s with err := (Wal.steps (Wal.appendOps s (Oct.row l).1) d).2 }), (Wal.steps (Wal.appendOps s (Oct.row l).1) d).2)) := by
  have hsl := Wal.slim_of_row h0
  obtain ⟨SF, hSF⟩ : ∃ SF : Wal.St, SF = (if (Wal.steps (Wal.appendOps s (Oct.row l).1) d).2 = 0 then { s with used := s.used + Wal.secs (Oct.row l).1, L := s.L ++ [l] } else { s with err := (Wal.steps (Wal.appendOps s (Oct.row l).1) d).2 }) := ⟨_, rfl⟩
  rw [← hSF]
  have HSF := Lib.hid hSF; clear hSF
  have h1 := (Apn.start hd hw ha).box (.cells #[.pointer (some ⟨p, 0, none⟩)] 72) w.heap.size rfl
  have h2 := h1.box (.cells #[.slice a len cap] 29) (w.heap.size + 1) (by simp)
  obtain ⟨v2, hv2⟩ := h2.wal
  have c6 := hv2.c6
  rw [he] at c6
  have hst2 : Strs a len (bas l) ((w.alloc (.cells #[.pointer (some ⟨p, 0, none⟩)] 72)).alloc (.cells #[.slice a len cap] 29)) := hst.keep (((Below.refl _ w).alloc (Nat.le_refl _) _).alloc (by simp) _)
  have hrow := octRow_any a len cap (bas l) _ hst2 hlen hz
  rw [lists_bas, h0] at hrow
  have hrs := Wal.row_short (l := l)
  have hgs := fun x => groupSectors_any (ba (Oct.row l).1) (by rw [ba_size]; omega) x
  rw [ba_list] at hgs
  have hrow2 : Calls Tryz.prog 85 #[.slice a len cap] ((w.alloc (.cells #[.pointer (some ⟨p, 0, none⟩)] 72)).alloc (.cells #[.slice a len cap] 29)) fun e w' => e = .returned (.tuple #[.string (ba (Oct.row l).1), .int .i64 0]) ∧ Below ((w.alloc (.cells #[.pointer (some ⟨p, 0, none⟩)] 72)).alloc (.cells #[.slice a len cap] 29)).heap.size ((w.alloc (.cells #[.pointer (some ⟨p, 0, none⟩)] 72)).alloc (.cells #[.slice a len cap] 29)) w' := hrow
  clear hrow
  have hrl : (ba (Oct.row l).1).data.toList = (Oct.row l).1 := ba_list _
  have hst4 := Wal.steps4 d s (Oct.row l).1
  have u1 := hs.used
  have u2 := hs.lo
  have u3 := hs.hi
  have u4 := hs.m
  have u5 := hs.gen
  have Hfit := Lib.hid hfit
  have hkb : Wal.secs (Oct.row l).1 ≤ 16384 := by omega
  have hx : decide (((s.n - 1 - s.used : Nat) : Int) < ((Wal.secs (Oct.row l).1 : Nat) : Int)) = false := decide_eq_false (by omega)
  generalize hrow0 : ba (Oct.row l).1 = row at *
  obtain ⟨k, hk⟩ : ∃ k, Wal.secs (Oct.row l).1 = k := ⟨_, rfl⟩
  rw [hk] at hx hgs hkb hfit
  have Hk := Lib.hid hk; clear hk
  have Hrow := Lib.hid hrow2; clear hrow2
  have Hgs := Lib.hid hgs; clear hgs
  have H2 := Lib.hid h2; clear h2
  have Hs := Lib.hid hs; clear hs
  have Hst4 := Lib.hid hst4; clear hst4
  have Hst := Lib.hid hst; clear hst
  have Hap := Lib.hid hap; clear hap
  have Hrl := Lib.hid hrl; clear hrl
  have Hsl := Lib.hid hsl; clear hsl
  have He := Lib.hid he; clear he
  clear hv2 h1 hd hw hst2 hrs hz h0 hrow0
  go_enter Tryz.func59, Tryz.ntmps59
  go_wp2_with fail
  refine Hrow.out.mono ?_; rintro e w3 ⟨rfl, h3⟩
  have h3' := H2.out.new h3
  have h4 := h3'.box (.cells #[.string row] 9) w3.heap.size rfl
  have cb := h4.cB (B := w.heap.size) (by simp [boxW])
  have hsz3 := h3.size
  have H4 := Lib.hid h4; clear h4
  clear h3' h3
  go_wp2_with fail
  refine (Hgs.out _).mono ?_; rintro e w4 ⟨rfl, rfl⟩
  go_wp2_with fail
  refine (room_any H4.out.wal Hs.out).mono ?_; rintro e w5 ⟨rfl, j, rfl⟩
  have h5 := H4.out.new (drewN_below (Below.refl _ _) j)
  have hkl : ∀ y ∈ [(w3.heap.size, Obj.cells #[.string row] 9 (0, 0)), (w.heap.size + 1, .cells #[.slice a len cap] 29 (0, 0)), (w.heap.size, .cells #[.pointer (some ⟨p, 0, none⟩)] 72 (0, 0))], y.1 < (World.drewN (w3.alloc (.cells #[.string row] 9)) j).heap.size := fun y hy => row_lt (h5.rows y hy).1
  generalize World.drewN _ j = W5 at *
  have H5 := Lib.hid h5; clear h5
  have Hkl := Lib.hid hkl; clear hkl
  clear cb H4 H2
  have cb := H5.out.cB (B := w.heap.size) (by simp [boxW])
  go_upto_region 11 with fail
  go_cut [8, 9] from 37 to 60 (fun s8 s9 wx => ∃ ta na, s8 = .pointer (some ⟨ta, 0, none⟩) ∧ s9 = .pointer (some ⟨na, 0, none⟩) ∧ Apn w S0 R0 ((na, boxM s.gen (s.used + k)) :: (ta, boxI ((s.from_ + 1 + s.used : Nat) : Int)) ::
     [(w3.heap.size, .cells #[.string row] 9), (w.heap.size + 1, .cells #[.slice a len cap] 29), (w.heap.size, .cells #[.pointer (some ⟨p, 0, none⟩)] 72)]) S0 R0 p q d s wx)
  case first =>
    have h6 := H5.out.new ((Below.refl _ W5).drew)
    obtain ⟨v6, hv6⟩ := h6.wal
    refine wp_region_two [0, 1, 2, 3, 4, 5, 6, 7, 8, 9, 10, 11, 12, 13, 14, 15, 16, 17, 18, 19, 20, 21, 22, 23] 24 25 [26, 27] [] (by kernel_rfl) (by kernel_rfl) (fun z => z.cell? ⟨w.heap.size, 0, none⟩ = some (.pointer (some ⟨p, 0, none⟩)) ∧ z.cell? ⟨p, 3, none⟩ = some (.int .i64 (s.from_ : Int)) ∧ z.cell? ⟨p, 1, none⟩ = some (.int .i64 (s.used : Int)) ∧ z.cell? ⟨p, 0, none⟩ = some (.int .u64 (s.gen : Int))) ⟨h6.cB (by simp [boxW]), hv6.c3, hv6.c1, hv6.c0⟩ ?_
    simp only [pick, List.filterMap_cons, List.filterMap_nil, List.getElem?_toArray, List.getElem?_cons_zero, List.getElem?_cons_succ]
    refine take_load 72 (.tmp 2) ⟨w.heap.size, 0, none⟩ (.pointer (some ⟨p, 0, none⟩)) rfl rfl rfl (fun u hu => load_any Tryz.underlying72 Tryz.isAgg72 hu.1) ?_
    simp only [Act.put, List.setIfInBounds_toArray, List.set_cons_zero, List.set_cons_succ]
    refine take_nil (.tmp 37) ⟨p, 0, none⟩ rfl rfl rfl ?_
    simp only [Act.put, List.setIfInBounds_toArray, List.set_cons_zero, List.set_cons_succ]
    refine take_one (.pointer (some ⟨p, 3, none⟩)) rfl (fun u _ => by go_simp) ?_
    simp only [Act.put, List.setIfInBounds_toArray, List.set_cons_zero, List.set_cons_succ]
    refine take_load 3 (.tmp 39) ⟨p, 3, none⟩ (.int .i64 (s.from_ : Int)) rfl rfl rfl (fun u hu => load_any Tryz.underlying3 Tryz.isAgg3 hu.2.1) ?_
    simp only [Act.put, List.setIfInBounds_toArray, List.set_cons_zero, List.set_cons_succ]
    refine take_one (.int .i64 ((s.from_ : Int) + 1)) rfl (fun u _ => by go_simp; exact IntWalk.i64_in _ (by omega)) ?_
    simp only [Act.put, List.setIfInBounds_toArray, List.set_cons_zero, List.set_cons_succ]
    refine take_load 72 (.tmp 2) ⟨w.heap.size, 0, none⟩ (.pointer (some ⟨p, 0, none⟩)) rfl rfl rfl (fun u hu => load_any Tryz.underlying72 Tryz.isAgg72 hu.1) ?_
    simp only [Act.put, List.setIfInBounds_toArray, List.set_cons_zero, List.set_cons_succ]
    refine take_nil (.tmp 42) ⟨p, 0, none⟩ rfl rfl rfl ?_
    simp only [Act.put, List.setIfInBounds_toArray, List.set_cons_zero, List.set_cons_succ]
    refine take_one (.pointer (some ⟨p, 0, none⟩)) rfl (fun u _ => by go_simp) ?_
    simp only [Act.put, List.setIfInBounds_toArray, List.set_cons_zero, List.set_cons_succ]
    refine take_one (.pointer (some ⟨p, 1, none⟩)) rfl (fun u _ => by go_simp) ?_
    simp only [Act.put, List.setIfInBounds_toArray, List.set_cons_zero, List.set_cons_succ]
    refine take_load 3 (.tmp 45) ⟨p, 1, none⟩ (.int .i64 (s.used : Int)) rfl rfl rfl (fun u hu => load_any Tryz.underlying3 Tryz.isAgg3 hu.2.2.1) ?_
    simp only [Act.put, List.setIfInBounds_toArray, List.set_cons_zero, List.set_cons_succ]
    refine take_one (.int .i64 ((s.from_ : Int) + 1 + (s.used : Int))) rfl (fun u _ => by go_simp; exact IntWalk.i64_in _ (by omega)) ?_
    simp only [Act.put, List.setIfInBounds_toArray, List.set_cons_zero, List.set_cons_succ]
    refine take_load 72 (.tmp 2) ⟨w.heap.size, 0, none⟩ (.pointer (some ⟨p, 0, none⟩)) rfl rfl rfl (fun u hu => load_any Tryz.underlying72 Tryz.isAgg72 hu.1) ?_
    simp only [Act.put, List.setIfInBounds_toArray, List.set_cons_zero, List.set_cons_succ]
    refine take_nil (.tmp 48) ⟨p, 0, none⟩ rfl rfl rfl ?_
    simp only [Act.put, List.setIfInBounds_toArray, List.set_cons_zero, List.set_cons_succ]
    refine take_one (.pointer (some ⟨p, 0, none⟩)) rfl (fun u _ => by go_simp) ?_
    simp only [Act.put, List.setIfInBounds_toArray, List.set_cons_zero, List.set_cons_succ]
    refine take_one (.pointer (some ⟨p, 0, none⟩)) rfl (fun u _ => by go_simp) ?_
    simp only [Act.put, List.setIfInBounds_toArray, List.set_cons_zero, List.set_cons_succ]
    refine take_load 64 (.tmp 51) ⟨p, 0, none⟩ (.int .u64 (s.gen : Int)) rfl rfl rfl (fun u hu => load_any Tryz.underlying64 Tryz.isAgg64 hu.2.2.2) ?_
    simp only [Act.put, List.setIfInBounds_toArray, List.set_cons_zero, List.set_cons_succ]
    refine take_load 72 (.tmp 2) ⟨w.heap.size, 0, none⟩ (.pointer (some ⟨p, 0, none⟩)) rfl rfl rfl (fun u hu => load_any Tryz.underlying72 Tryz.isAgg72 hu.1) ?_
    simp only [Act.put, List.setIfInBounds_toArray, List.set_cons_zero, List.set_cons_succ]
    refine take_nil (.tmp 53) ⟨p, 0, none⟩ rfl rfl rfl ?_
    simp only [Act.put, List.setIfInBounds_toArray, List.set_cons_zero, List.set_cons_succ]
    refine take_one (.pointer (some ⟨p, 0, none⟩)) rfl (fun u _ => by go_simp) ?_
    simp only [Act.put, List.setIfInBounds_toArray, List.set_cons_zero, List.set_cons_succ]
    refine take_one (.pointer (some ⟨p, 1, none⟩)) rfl (fun u _ => by go_simp) ?_
    simp only [Act.put, List.setIfInBounds_toArray, List.set_cons_zero, List.set_cons_succ]
    refine take_load 3 (.tmp 56) ⟨p, 1, none⟩ (.int .i64 (s.used : Int)) rfl rfl rfl (fun u hu => load_any Tryz.underlying3 Tryz.isAgg3 hu.2.2.1) ?_
    simp only [Act.put, List.setIfInBounds_toArray, List.set_cons_zero, List.set_cons_succ]
    refine take_move (.tmp 7) (.int .i64 (k : Int)) rfl rfl rfl ?_
    simp only [Act.put, List.setIfInBounds_toArray, List.set_cons_zero, List.set_cons_succ]
    refine take_one (.int .i64 ((s.used : Int) + (k : Int))) rfl (fun u _ => by go_simp; exact IntWalk.i64_in _ (by omega)) ?_
    simp only [Act.put, List.setIfInBounds_toArray, List.set_cons_zero, List.set_cons_succ]
    refine take_one (.agg #[.int .u64 (s.gen : Int), .int .i64 ((s.used : Int) + (k : Int))]) rfl (fun u _ => by go_simp) ?_
    simp only [Act.put, List.setIfInBounds_toArray, List.set_cons_zero, List.set_cons_succ]
    refine take_done ?_
    have hat : ((s.from_ + 1 + s.used : Nat) : Int) = (s.from_ : Int) + 1 + (s.used : Int) := by omega
    have huk : ((s.used + k : Nat) : Int) = (s.used : Int) + (k : Int) := by omega
    have hkl6 : ∀ y ∈ [(w3.heap.size, Obj.cells #[.string row] 9 (0, 0)), (w.heap.size + 1, .cells #[.slice a len cap] 29 (0, 0)), (w.heap.size, .cells #[.pointer (some ⟨p, 0, none⟩)] 72 (0, 0))], y.1 < W5.drew.heap.size := Hkl.out
    have hwb : w.heap.size < W5.drew.heap.size := row_lt (h6.row (b := w.heap.size) (o := boxW p) (by simp [boxW]))
    have hpb : p < W5.drew.heap.size := hv6.lt p hv6.hp
    generalize W5.drew = W6 at *
    have hS : ∀ z, Below W6.heap.size W6 z → (z.cell? ⟨w.heap.size, 0, none⟩ = some (.pointer (some ⟨p, 0, none⟩)) ∧ z.cell? ⟨p, 3, none⟩ = some (.int .i64 (s.from_ : Int)) ∧ z.cell? ⟨p, 1, none⟩ = some (.int .i64 (s.used : Int)) ∧ z.cell? ⟨p, 0, none⟩ = some (.int .u64 (s.gen : Int))) := fun z hb => by
      have h9 := h6.new hb
      have hv9 : WalIn R0 p q s z v6 := hv6.keeps (Turns.of_new hb (fun _ => False)) (fun _ _ => id)
      exact ⟨h9.cB (by simp [boxW]), hv9.c3, hv9.c1, hv9.c0⟩
    constructor
    · have b1 : Below W6.heap.size W6 (W6.alloc (.cells #[.int .i64 0] 3)) := (Below.refl _ W6).alloc (Nat.le_refl _) _
      have b2 : Below W6.heap.size W6 ((W6.alloc (.cells #[.int .i64 0] 3)).alloc (.cells #[.int .u64 0, .int .i64 0] 128)) := b1.alloc (by simp) _
      refine mid_wp rfl (run_wp (v := .pointer (some ⟨W6.heap.size, 0, none⟩)) (w' := W6.alloc (.cells #[.int .i64 0] 3)) (by go_simp) ⟨hS _ b1, ?_⟩)
      simp only [Act.put, List.setIfInBounds_toArray, List.set_cons_zero, List.set_cons_succ]
      refine mid_wp rfl (run_wp (v := .pointer (some ⟨W6.heap.size + 1, 0, none⟩)) (w' := (W6.alloc (.cells #[.int .i64 0] 3)).alloc (.cells #[.int .u64 0, .int .i64 0] 128)) (by go_simp) ⟨hS _ b2, ?_⟩)
      simp only [Act.put, List.setIfInBounds_toArray, List.set_cons_zero, List.set_cons_succ]
      have r1 : ((W6.alloc (.cells #[.int .i64 0] 3)).alloc (.cells #[.int .u64 0, .int .i64 0] 128)).heap[W6.heap.size]? = some (.cells #[.int .i64 0] 3) := row_alloc (heap_alloc_new W6 _) _
      have r2 : ((W6.alloc (.cells #[.int .i64 0] 3)).alloc (.cells #[.int .u64 0, .int .i64 0] 128)).heap[W6.heap.size + 1]? = some (.cells #[.int .u64 0, .int .i64 0] 128) := alloc_at _ _ _ (by simp)
      generalize (W6.alloc (.cells #[.int .i64 0] 3)).alloc (.cells #[.int .u64 0, .int .i64 0] 128) = W7 at *
      have hfin := two_vars h6 hkl6 ((s.from_ + 1 + s.used : Nat) : Int) s.gen (s.used + k) (W6.heap.size) (W6.heap.size + 1) W7 b2 (by omega) (by omega) (by omega) r1 r2
      have b3 : Below W6.heap.size W6 (W7.setCell ⟨W6.heap.size, 0, none⟩ (.int .i64 ((s.from_ : Int) + 1 + (s.used : Int)))) := b2.setCell (p := ⟨W6.heap.size, 0, none⟩) (by show W6.heap.size ≤ W6.heap.size; omega) _
      refine mid_wp rfl (store_wp 3 (.tmp 8) (.tmp 47) (.pointer (some ⟨W6.heap.size, 0, none⟩)) (.int .i64 ((s.from_ : Int) + 1 + (s.used : Int))) rfl rfl rfl (store_int (by rw [cell_of_row _ _ 0 _ _ _ r1]; rfl) (row_free r1 0)) ⟨hS _ b3, ?_⟩)
      simp only [Act.put]
      have r3 : (W7.setCell ⟨W6.heap.size, 0, none⟩ (.int .i64 ((s.from_ : Int) + 1 + (s.used : Int)))).heap[W6.heap.size + 1]? = some (.cells #[.int .u64 0, .int .i64 0] 128) := other_row r2 (by omega)
      have b4 := (b3.setCell (p := ⟨W6.heap.size + 1, 0, none⟩) (by show W6.heap.size ≤ W6.heap.size + 1; omega) (.int .u64 (s.gen : Int))).setCell (p := ⟨W6.heap.size + 1, 1, none⟩) (by show W6.heap.size ≤ W6.heap.size + 1; omega) (.int .i64 ((s.used : Int) + (k : Int)))
      refine mid_wp rfl (store_wp 128 (.tmp 9) (.tmp 60) (.pointer (some ⟨W6.heap.size + 1, 0, none⟩)) (.agg #[.int .u64 (s.gen : Int), .int .i64 ((s.used : Int) + (k : Int))]) rfl rfl rfl (store_mark (s.gen : Int) ((s.used : Int) + (k : Int)) (by rw [cell_of_row _ _ 0 _ _ _ r3]; rfl) (by rw [cell_of_row _ _ 1 _ _ _ r3]; rfl) (row_free r3 0) (row_free r3 1)) ⟨hS _ b4, ?_⟩)
      simp only [Act.put]
      refine mid_list ?_
      rw [hat, huk] at hfin
      have Hfin := Lib.hid hfin; clear hfin
      clear b1 b2 b3 b4 r1 r2 r3 hS h6 hv6
      go_wp2_with fail
      apply NoPanic.normal
      go_wp2_with fail
      go_meet
      case rel => exact ⟨_, _, rfl, rfl, by rw [hat]; unfold boxM; rw [huk]; exact Hfin.out⟩
    · have b1 : Below W6.heap.size W6 (W6.alloc (.cells #[.int .u64 0, .int .i64 0] 128)) := (Below.refl _ W6).alloc (Nat.le_refl _) _
      have b2 : Below W6.heap.size W6 ((W6.alloc (.cells #[.int .u64 0, .int .i64 0] 128)).alloc (.cells #[.int .i64 0] 3)) := b1.alloc (by simp) _
      refine mid_wp rfl (run_wp (v := .pointer (some ⟨W6.heap.size, 0, none⟩)) (w' := W6.alloc (.cells #[.int .u64 0, .int .i64 0] 128)) (by go_simp) ⟨hS _ b1, ?_⟩)
      simp only [Act.put, List.setIfInBounds_toArray, List.set_cons_zero, List.set_cons_succ]
      refine mid_wp rfl (run_wp (v := .pointer (some ⟨W6.heap.size + 1, 0, none⟩)) (w' := (W6.alloc (.cells #[.int .u64 0, .int .i64 0] 128)).alloc (.cells #[.int .i64 0] 3)) (by go_simp) ⟨hS _ b2, ?_⟩)
      simp only [Act.put, List.setIfInBounds_toArray, List.set_cons_zero, List.set_cons_succ]
      have r1 : ((W6.alloc (.cells #[.int .u64 0, .int .i64 0] 128)).alloc (.cells #[.int .i64 0] 3)).heap[W6.heap.size]? = some (.cells #[.int .u64 0, .int .i64 0] 128) := row_alloc (heap_alloc_new W6 _) _
      have r2 : ((W6.alloc (.cells #[.int .u64 0, .int .i64 0] 128)).alloc (.cells #[.int .i64 0] 3)).heap[W6.heap.size + 1]? = some (.cells #[.int .i64 0] 3) := alloc_at _ _ _ (by simp)
      generalize (W6.alloc (.cells #[.int .u64 0, .int .i64 0] 128)).alloc (.cells #[.int .i64 0] 3) = W7 at *
      have hfin := two_vars h6 hkl6 ((s.from_ + 1 + s.used : Nat) : Int) s.gen (s.used + k) (W6.heap.size + 1) (W6.heap.size) W7 b2 (by omega) (by omega) (by omega) r2 r1
      have b3 : Below W6.heap.size W6 (W7.setCell ⟨W6.heap.size + 1, 0, none⟩ (.int .i64 ((s.from_ : Int) + 1 + (s.used : Int)))) := b2.setCell (p := ⟨W6.heap.size + 1, 0, none⟩) (by show W6.heap.size ≤ W6.heap.size + 1; omega) _
      refine mid_wp rfl (store_wp 3 (.tmp 8) (.tmp 47) (.pointer (some ⟨W6.heap.size + 1, 0, none⟩)) (.int .i64 ((s.from_ : Int) + 1 + (s.used : Int))) rfl rfl rfl (store_int (by rw [cell_of_row _ _ 0 _ _ _ r2]; rfl) (row_free r2 0)) ⟨hS _ b3, ?_⟩)
      simp only [Act.put]
      have r3 : (W7.setCell ⟨W6.heap.size + 1, 0, none⟩ (.int .i64 ((s.from_ : Int) + 1 + (s.used : Int)))).heap[W6.heap.size]? = some (.cells #[.int .u64 0, .int .i64 0] 128) := other_row r1 (by omega)
      have b4 := (b3.setCell (p := ⟨W6.heap.size, 0, none⟩) (by show W6.heap.size ≤ W6.heap.size; omega) (.int .u64 (s.gen : Int))).setCell (p := ⟨W6.heap.size, 1, none⟩) (by show W6.heap.size ≤ W6.heap.size; omega) (.int .i64 ((s.used : Int) + (k : Int)))
      refine mid_wp rfl (store_wp 128 (.tmp 9) (.tmp 60) (.pointer (some ⟨W6.heap.size, 0, none⟩)) (.agg #[.int .u64 (s.gen : Int), .int .i64 ((s.used : Int) + (k : Int))]) rfl rfl rfl (store_mark (s.gen : Int) ((s.used : Int) + (k : Int)) (by rw [cell_of_row _ _ 0 _ _ _ r3]; rfl) (by rw [cell_of_row _ _ 1 _ _ _ r3]; rfl) (row_free r3 0) (row_free r3 1)) ⟨hS _ b4, ?_⟩)
      simp only [Act.put]
      refine mid_list ?_
      rw [hat, huk] at hfin
      have Hfin := Lib.hid hfin; clear hfin
      clear b1 b2 b3 b4 r1 r2 r3 hS h6 hv6
      go_wp2_with fail
      apply NoPanic.normal
      go_wp2_with fail
      go_meet
      case rel => exact ⟨_, _, rfl, rfl, by rw [hat]; unfold boxM; rw [huk]; exact Hfin.out⟩
  case rest =>
    obtain ⟨ta, na, rfl, rfl, h7⟩ := hcut
    have hwk : k = Wal.secs (Oct.row l).1 := Hk.out.symm
    rw [hwk] at h7
    have H7 := Lib.hid h7; clear h7
    have cb := H7.out.cB (B := w.heap.size) (by simp [boxW, boxM, boxI])
    go_upto_region 12 with fail
    have h8 := H7.out.new ((Below.refl _ wc).drew)
    refine wp_region_phases [([0, 1, 2, 3, 4, 5], [6, 7, 8, 9, 10])] (by kernel_rfl) (by kernel_rfl) (fun z => z.cell? ⟨w.heap.size, 0, none⟩ = some (.pointer (some ⟨p, 0, none⟩))) (h8.cB (by simp [boxW, boxM, boxI])) ?_
    simp only [wpPhases, pick, List.filterMap_cons, List.filterMap_nil, List.getElem?_toArray, List.getElem?_cons_zero, List.getElem?_cons_succ]
    refine take_load 72 (.tmp 2) ⟨w.heap.size, 0, none⟩ (.pointer (some ⟨p, 0, none⟩)) rfl rfl rfl (fun u hu => load_any Tryz.underlying72 Tryz.isAgg72 hu) ?_
    simp only [Act.put, List.setIfInBounds_toArray, List.set_cons_zero, List.set_cons_succ]
    refine take_one (fnv (apG 0, apL w.heap.size (w.heap.size + 1) w3.heap.size ta na 0)) rfl (fun u _ => by simp only [fnv, apG, apL]; go_simp) ?_
    simp only [Act.put, List.setIfInBounds_toArray, List.set_cons_zero, List.set_cons_succ]
    refine take_one (fnv (apG 1, apL w.heap.size (w.heap.size + 1) w3.heap.size ta na 1)) rfl (fun u _ => by simp only [fnv, apG, apL]; go_simp) ?_
    simp only [Act.put, List.setIfInBounds_toArray, List.set_cons_zero, List.set_cons_succ]
    refine take_one (fnv (apG 2, apL w.heap.size (w.heap.size + 1) w3.heap.size ta na 2)) rfl (fun u _ => by simp only [fnv, apG, apL]; go_simp) ?_
    simp only [Act.put, List.setIfInBounds_toArray, List.set_cons_zero, List.set_cons_succ]
    refine take_one (fnv (apG 3, apL w.heap.size (w.heap.size + 1) w3.heap.size ta na 3)) rfl (fun u _ => by simp only [fnv, apG, apL]; go_simp) ?_
    simp only [Act.put, List.setIfInBounds_toArray, List.set_cons_zero, List.set_cons_succ]
    refine take_one (fnv (apG 4, apL w.heap.size (w.heap.size + 1) w3.heap.size ta na 4)) rfl (fun u _ => by simp only [fnv, apG, apL]; go_simp) ?_
    simp only [Act.put, List.setIfInBounds_toArray, List.set_cons_zero, List.set_cons_succ]
    refine take_done ?_
    generalize wc.drew = Wd at h8 ⊢
    have h9 := h8.box (apObj w.heap.size (w.heap.size + 1) w3.heap.size ta na) Wd.heap.size rfl
    refine midk_one (w' := Wd.alloc (apObj w.heap.size (w.heap.size + 1) w3.heap.size ta na)) (.slice (some ⟨Wd.heap.size, 0, none⟩) 5 5) rfl (run_slice_op 111 5 [(0, .tmp 62), (1, .tmp 63), (2, .tmp 64), (3, .tmp 65), (4, .tmp 66)] rfl (slice_fn5 _ _ _ _ _ Wd)) (h9.cB (by simp [boxW, boxM, boxI])) ?_
    simp only [Act.put, List.setIfInBounds_toArray, List.set_cons_zero, List.set_cons_succ]
    have hfo := ap_follow (B := w.heap.size) (C := w.heap.size + 1) (rb := w3.heap.size) (ta := ta) (na := na) (fb := Wd.heap.size) (a := a) (len := len) (cap := cap) (l := l) (row := row) h9 Hs.out hops Hrl.out Hfit.out Hsl.out Hst.out Hap.out (by simp [boxW]) (by simp [boxL]) (by simp [boxS]) (by simp) (by simp) (by simp)
    refine midk_wp rfl (call_wp 33 [.tmp 67] #[111] #[.slice (some ⟨Wd.heap.size, 0, none⟩) 5 5] rfl rfl rfl ?_)
    refine hfo.mono ?_
    rintro e w5 ⟨kk, hkk, hz, hcase⟩
    obtain ⟨q1, q2, q3, q4, q5⟩ := Hst4.out
    have key : ∃ (E : Int) (S5 R5 : Nat → Prop) (D5 : Dsk.St) (s5 : Wal.St) (kept : List (Nat × Obj)), e = .returned (.int .i64 E) ∧ Apn w S0 R0 kept S5 R5 p q D5 s5 w5 ∧ (w.heap.size, boxW p) ∈ kept ∧
        Wal.steps (Wal.appendOps s (Oct.row l).1) d = (D5, E) ∧ { s5 with err := E } = (if E = 0 then { s with used := s.used + Wal.secs (Oct.row l).1, L := s.L ++ [l] } else { s with err := E }) := by
      rcases hcase with ⟨rfl, rfl, S5, R5, h5⟩ | ⟨hlt, hne, rfl, S5, R5, h5⟩
      · refine ⟨0, S5, R5, _, _, _, rfl, h5, by simp [boxW], q5 (hz 0 (by omega)) (hz 1 (by omega)) (hz 2 (by omega)) (hz 3 (by omega)), ?_⟩
        rw [if_pos rfl]
        show ({ s with used := s.used + Wal.secs (Oct.row l).1, L := s.L ++ [l], err := 0 } : Wal.St) = { s with used := s.used + Wal.secs (Oct.row l).1, L := s.L ++ [l] }
        rw [← He.out]
      · match kk, hlt, hz, hne, h5 with
        | 0, _, _, hne, h5 => exact ⟨_, S5, R5, _, _, _, rfl, h5, by simp [boxW], by rw [q1 hne]; rfl, by rw [if_neg hne]; rfl⟩
        | 1, _, hz, hne, h5 => exact ⟨_, S5, R5, _, _, _, rfl, h5, by simp [boxW], by rw [q2 (hz 0 (by omega)) hne]; rfl, by rw [if_neg hne]; rfl⟩
        | 2, _, hz, hne, h5 => exact ⟨_, S5, R5, _, _, _, rfl, h5, by simp [boxW], by rw [q3 (hz 0 (by omega)) (hz 1 (by omega)) hne]; rfl, by rw [if_neg hne]; rfl⟩
        | 3, _, hz, hne, h5 => exact ⟨_, S5, R5, _, _, _, rfl, h5, by simp [boxW], by rw [q4 (hz 0 (by omega)) (hz 1 (by omega)) (hz 2 (by omega)) hne]; rfl, by rw [if_neg hne]; rfl⟩
        | 4, _, _, hne, _ => exact absurd rfl hne
        | (j + 5), h, _, _, _ => exact absurd h (by omega)
    obtain ⟨E, S5, R5, D5, s5, kept, rfl, h5, hmb, hst5, hse⟩ := key
    refine ⟨_, rfl, h5.cB hmb, ?_⟩
    simp only [Act.put, List.setIfInBounds_toArray, List.set_cons_zero, List.set_cons_succ]
    refine midk_one (.pointer (some ⟨p, 0, none⟩)) rfl rfl (h5.cB hmb) ?_
    simp only [Act.put, List.setIfInBounds_toArray, List.set_cons_zero, List.set_cons_succ]
    refine midk_one (.pointer (some ⟨p, 6, none⟩)) rfl (by go_simp) (h5.cB hmb) ?_
    simp only [Act.put, List.setIfInBounds_toArray, List.set_cons_zero, List.set_cons_succ]
    have h6 := h5.faulted E
    obtain ⟨v5, hv5⟩ := h5.wal
    refine midk_store 27 (.tmp 70) (.tmp 68) _ _ rfl rfl rfl rfl (store_err hv5.c6 (hv5.free 6)) (h6.cB hmb) ?_
    simp only [Act.put]
    refine midk_end ?_
    have hfin : Apn w S0 R0 [] S5 R5 p q D5 (if E = 0 then { s with used := s.used + Wal.secs (Oct.row l).1, L := s.L ++ [l] } else { s with err := E }) (w5.setCell ⟨p, 6, none⟩ (.int .i64 E)) := by
      rw [← hse]
      exact h6.bare
    have cb := h6.cB (B := w.heap.size) hmb
    obtain ⟨v6, hv6⟩ := h6.wal
    have c66 := hv6.c6
    have hgoal : Ending.returned (.int .i64 E) = .returned (.int .i64 (Wal.steps (Wal.appendOps s (Oct.row l).1) d).2) ∧ ∃ S R, Apn w S0 R0 [] S R p q (Wal.steps (Wal.appendOps s (Oct.row l).1) d).1 SF (w5.setCell ⟨p, 6, none⟩ (.int .i64 E)) := by
      have hq := HSF.out
      rw [hst5] at hq
      exact ⟨by rw [hst5], S5, R5, by rw [hst5, hq]; exact hfin⟩
    have Hgoal := Lib.hid hgoal; clear hgoal
    clear hfin h6 hv6 h5 hv5 hse hst5 hfo h9 h8 q1 q2 q3 q4 q5 hz hcase c6
    go_wp2_with fail
    go_ret
    obtain ⟨g1, S9, R9, g2⟩ := Hgoal.out
    exact ⟨g1, S9, R9, g2⟩
end
end Go.Proofs.YtalklpnekbfehaaGreat

/-
  Plain mathematics: wherever the disk stands still, and whatever a crash keeps, the log that is opened again is the one that was told.
-/
set_option linter.unusedVariables false
namespace Go.Proofs.YtalklpnekbfehaaGreat
namespace Dsk
theorem lay_other {L : List (Nat × Sec)} {k : Nat} (h : ∀ x ∈ L, x.1 ≠ k) (f : Nat → Sec) : lay L f k = f k := by
  induction L generalizing f with
  | nil => rfl
  | cons x r ih =>
    rw [lay, ih (fun y hy => h y (List.mem_cons_of_mem _ hy)), upd_other (fun e => h x List.mem_cons_self e.symm)]
theorem flatMap_congr' {α : Type} {l : List Nat} {f g : Nat → List α} (h : ∀ x ∈ l, f x = g x) : l.flatMap f = l.flatMap g := by
  induction l with
  | nil => rfl
  | cons x r ih => rw [List.flatMap_cons, List.flatMap_cons, h x List.mem_cons_self, ih (fun y hy => h y (List.mem_cons_of_mem _ hy))]
theorem kept_mem {keep : List UInt8} {L : List (Nat × Sec)} {x : Nat × Sec} (h : x ∈ kept keep L) : x ∈ L := by
  unfold kept at h
  split at h
  · simp at h
  · exact keptF_mem h
/-- the writes of a text's sectors -/
def nws (s : List UInt8) (a i m : Nat) : List (Nat × Sec) := (List.range m).map fun j => (a + (i + j), sect s (i + j))
theorem nws_succ (s : List UInt8) (a i m : Nat) : nws s a i (m + 1) = (a + i, sect s i) :: nws s a (i + 1) m := by
  unfold nws
  rw [List.range_succ_eq_map]
  simp only [List.map_cons, List.map_map, Nat.add_zero]
  congr 1
  apply List.map_congr_left
  intro j _
  simp only [Function.comp]
  rw [show i + 1 + j = i + (j + 1) by omega]
theorem wr_nws (s : List UInt8) (k : Nat) : ∀ (m i : Nat) (d : St), d.down = false → ∃ m', m' ≤ m ∧ (wr s k m i d).L = d.L ++ nws s k i m' ∧ (wr s k m i d).fl = d.fl ∧ ((wr s k m i d).down = false → m' = m) ∧ ((wr s k m i d).down = true → m' < m)
  | 0, i, d, hd => ⟨0, Nat.le_refl _, by simp [wr, nws], rfl, fun _ => rfl, fun h => by rw [show (wr s k 0 i d).down = d.down from rfl, hd] at h; cases h⟩
  | m + 1, i, d, hd => by
    unfold wr
    split
    · exact ⟨0, Nat.zero_le _, by simp [nws], rfl, fun h => by simp at h, fun _ => by omega⟩
    · obtain ⟨m', h1, h2, h3, h4, h5⟩ := wr_nws s k m (i + 1) (put { d with fuse := if 0 < d.fuse then d.fuse - 1 else d.fuse } (k + i) (sect s i)) hd
      refine ⟨m' + 1, by omega, ?_, h3, fun h => by rw [h4 h], fun h => by have := h5 h; omega⟩
      rw [h2, nws_succ]
      simp [put]
theorem nws_at {s : List UInt8} {a i m : Nat} {x : Nat × Sec} (h : x ∈ nws s a i m) : a + i ≤ x.1 ∧ x.1 < a + i + m := by
  obtain ⟨j, hj, rfl⟩ := List.mem_map.1 h
  have := List.mem_range.1 hj
  show a + i ≤ a + (i + j) ∧ a + (i + j) < a + i + m
  omega
theorem lay_nws (s : List UInt8) (a : Nat) (f : Nat → Sec) : ∀ (m i j : Nat), i ≤ j → j < i + m → lay (nws s a i m) f (a + j) = sect s j
  | 0, i, j, h1, h2 => by omega
  | m + 1, i, j, h1, h2 => by
    rw [nws_succ, lay]
    by_cases e : i = j
    · subst e
      rw [lay_other (fun x hx => by have := (nws_at hx).1; omega), upd_same]
    · have key : ∀ g, lay (nws s a (i + 1) m) g (a + j) = sect s j := fun g => by
        have := lay_nws s a g m (i + 1) j (by omega) (by omega)
        exact this
      exact key _
theorem sect_all (s : List UInt8) : ∀ m, (List.range m).flatMap (sect s) = s.take (64 * m)
  | 0 => by simp
  | m + 1 => by
    rw [List.range_succ, List.flatMap_append, sect_all s m]
    simp only [List.flatMap_cons, List.flatMap_nil, List.append_nil, sect]
    rw [show 64 * (m + 1) = 64 * m + 64 by omega, List.take_add]
/-- a write where there is room -/
theorem write_room {d : St} {a m : Nat} {s : List UInt8} (hd : d.down = false) (hs : s.length = 64 * m) (hfit : a + m ≤ d.n) :
    ∃ m', m' ≤ m ∧ (write d (a : Int) s).1.L = d.L ++ nws s a 0 m' ∧ (write d (a : Int) s).1.fl = d.fl ∧
      (((write d (a : Int) s).2 = 0 ∧ m' = m ∧ (write d (a : Int) s).1.down = false) ∨ ((write d (a : Int) s).2 = 40 ∧ m' < m)) := by
  have hq : s.length / 64 = m := by omega
  have e : write d (a : Int) s = (wr s a m 0 d, if (wr s a m 0 d).down = true then 40 else 0) := by
    unfold write
    rw [if_neg (by rw [hd]; decide), if_neg (by omega), hq]
    simp
  obtain ⟨m', h1, h2, h3, h4, h5⟩ := wr_nws s a m 0 d hd
  rw [e]
  refine ⟨m', h1, h2, h3, ?_⟩
  cases hdn : (wr s a m 0 d).down with
  | true => exact .inr ⟨by simp, h5 hdn⟩
  | false => exact .inl ⟨by simp, h4 hdn, rfl⟩
theorem flush_up {d : St} (hd : d.down = false) : (flush d).2 = 0 ∧ (flush d).1.fl = lay d.L d.fl ∧ (flush d).1.L = [] ∧ (flush d).1.down = false ∧ (flush d).1.n = d.n := by
  unfold flush
  rw [if_neg (by rw [hd]; decide)]
  exact ⟨rfl, by show lay (kept [1] d.L) d.fl = _; rw [kept_one], rfl, hd, rfl⟩
end Dsk

namespace Wal
open Dsk
/-- a log lies in these sectors -/
structure Has (f : Nat → Sec) (k g u : Nat) (L : List Grp) : Prop where
  head : f k = mark g u ∨ (nought (f k) ∧ g = 0 ∧ u = 0)
  body : (List.range u).flatMap (fun j => f (k + 1 + j)) = cat L
theorem Has.congr {f f' : Nat → Sec} {k g u : Nat} {L : List Grp} (h : Has f k g u L) (he : ∀ j, k ≤ j → j < k + 1 + u → f' j = f j) : Has f' k g u L := by
  refine ⟨by rw [he k (Nat.le_refl _) (by omega)]; exact h.head, ?_⟩
  rw [← h.body]
  apply flatMap_congr'
  intro j hj
  have := List.mem_range.1 hj
  exact he _ (by omega) (by omega)
/-- a log, and the disk below it -/
structure Good (d : Dsk.St) (s : St) : Prop where
  has : Has d.fl s.from_ s.gen s.used s.L
  loose : ∀ x ∈ d.L, s.from_ + 1 + s.used ≤ x.1
  live : s.err = 0 → d.L = [] ∧ d.down = false
  err : s.err = 0 ∨ s.err = 40
  ok : s.Ok d.n
theorem rd_fl {d : Dsk.St} (h : d.L = []) (k n : Nat) : rd d k n = (List.range n).flatMap fun j => d.fl (k + j) := by
  unfold rd now; rw [h]; rfl
theorem open_good {d : Dsk.St} {s : St} (h : Good d s) (hL : d.L = []) (hd : d.down = false) (he : s.err = 0) : open_ d (s.from_ : Int) (s.n : Int) = (some s, 0) := by
  have o := h.ok
  have h1 := o.lo
  have h2 := o.hi
  have h3 := o.used
  have h4 := o.m
  unfold open_
  rw [if_neg (by omega), if_neg (by rw [hd]; decide)]
  simp only [Int.toNat_natCast]
  have e1 : rd d s.from_ 1 = d.fl s.from_ := by rw [rd_fl hL]; simp
  have e2 : rd d (s.from_ + 1) s.used = cat s.L := by rw [rd_fl hL]; exact h.has.body
  have em : readMark (rd d s.from_ 1) (s.n - 1) = some (s.gen, s.used) := by
    rw [e1]
    rcases h.has.head with hh | ⟨hh, hg, hu⟩
    · rw [hh]; exact readMark_mark _ _ _ o.gen (by omega) h3
    · unfold readMark; rw [if_pos hh, hg, hu]
  rw [em]
  simp only []
  rw [e2, readGroups_cat s.L o.fine (64 * s.used) (by have := o.len; omega)]
  simp only [Prod.mk.injEq, and_true, Option.some.injEq]
  rw [← he]
theorem fuse_good {d : Dsk.St} {s : St} (h : Good d s) (n : Int) : Good { d with fuse := n } s := ⟨h.has, h.loose, h.live, h.err, h.ok⟩
theorem crash_good {d : Dsk.St} {s : St} (h : Good d s) (keep : List UInt8) : Good (Dsk.crash d keep) { s with err := 0 } ∧ open_ (Dsk.crash d keep) (s.from_ : Int) (s.n : Int) = (some { s with err := 0 }, 0) := by
  have o := h.ok
  have hg : Good (Dsk.crash d keep) { s with err := 0 } := by
    refine ⟨?_, fun x hx => by simp [Dsk.crash, Dsk.settle] at hx, fun _ => ⟨rfl, rfl⟩, .inl rfl, ⟨o.gen, o.used, o.lo, o.hi, o.m, o.len, o.fine, .inl rfl⟩⟩
    refine h.has.congr fun j h1 h2 => ?_
    show lay (kept keep d.L) d.fl j = d.fl j
    refine lay_other (fun x hx => ?_) _
    have := h.loose x (kept_mem hx)
    omega
  exact ⟨hg, open_good hg rfl rfl rfl⟩
theorem new_good {n : Nat} (h1 : 2 ≤ n) (h2 : n ≤ 16384) : Good (Dsk.new n) ⟨0, 0, 0, n, [], 0⟩ :=
  ⟨⟨.inr ⟨by unfold nought; simp [Dsk.new, Dsk.zer], rfl, rfl⟩, rfl⟩, fun x hx => by simp [Dsk.new] at hx, fun _ => ⟨rfl, rfl⟩, .inl rfl, ⟨by show (0 : Nat) < _; omega, by show (0 : Nat) ≤ _; omega, h1, by show 0 + n ≤ n; omega, h2, by simp, fun l hl => by simp at hl, .inl rfl⟩⟩

/-- what an append comes to -/
theorem append_good {d : Dsk.St} {s : St} (h : Good d s) (l : Grp) : Good (append d s l).1 (append d s l).2.1 ∧
    (((append d s l).2.2 = 0 ∧ s.err = 0 ∧ (append d s l).2.1.err = 0 ∧ (append d s l).2.1.L = s.L ++ [l] ∧ (append d s l).2.1.gen = s.gen ∧ (append d s l).2.1.from_ = s.from_ ∧ (append d s l).2.1.n = s.n) ∨
     ((append d s l).2.2 ≠ 0 ∧ (append d s l).2.1.L = s.L ∧ (append d s l).2.1.gen = s.gen ∧ (append d s l).2.1.from_ = s.from_ ∧ (append d s l).2.1.n = s.n)) := by
  have o := h.ok
  unfold append
  by_cases he : s.err = 0
  · rw [if_neg (by simpa using he)]
    by_cases hr : (Oct.row l).2 = 0
    · rw [if_neg (by simpa using hr)]
      by_cases hf : s.n - 1 - s.used < secs (Oct.row l).1
      · rw [if_pos hf]
        exact ⟨h, .inr ⟨by show (4 : Int) ≠ 0; decide, rfl, rfl, rfl, rfl⟩⟩
      · rw [if_neg hf]
        obtain ⟨hL, hd⟩ := h.live he
        have o1 := o.used
        have o2 := o.lo
        have o3 := o.hi
        have o4 := o.m
        have o5 := o.gen
        have hsp := secs_pos (Oct.row l).1
        have hgl := grp_length (Oct.row l).1
        obtain ⟨m1, hm1, hL1, hf1, hc1⟩ := write_room (d := d) (a := s.from_ + 1 + s.used) (m := secs (Oct.row l).1) (s := grp (Oct.row l).1) hd (by omega) (by omega)
        have hn1 := write_n d ((s.from_ + 1 + s.used : Nat) : Int) (grp (Oct.row l).1)
        have eS : steps (appendOps s (Oct.row l).1) d = if (write d ((s.from_ + 1 + s.used : Nat) : Int) (grp (Oct.row l).1)).2 = 0 then
            steps [.fl, .wr s.from_ (mark s.gen (s.used + secs (Oct.row l).1)), .fl] (write d ((s.from_ + 1 + s.used : Nat) : Int) (grp (Oct.row l).1)).1 else write d ((s.from_ + 1 + s.used : Nat) : Int) (grp (Oct.row l).1) := rfl
        generalize write d ((s.from_ + 1 + s.used : Nat) : Int) (grp (Oct.row l).1) = W1 at *
        rw [hL] at hL1
        simp only [List.nil_append] at hL1
        rcases hc1 with ⟨hz1, rfl, hd1⟩ | ⟨hz1, hlt1⟩
        · rw [if_pos hz1] at eS
          obtain ⟨z2, f2, L2, d2, n2⟩ := flush_up (d := W1.1) hd1
          have eS2 : steps [.fl, .wr s.from_ (mark s.gen (s.used + secs (Oct.row l).1)), .fl] W1.1 = if (flush W1.1).2 = 0 then steps [.wr s.from_ (mark s.gen (s.used + secs (Oct.row l).1)), .fl] (flush W1.1).1 else flush W1.1 := rfl
          rw [if_pos z2] at eS2
          generalize (flush W1.1).1 = D2 at *
          obtain ⟨m3, hm3, hL3, hf3, hc3⟩ := write_room (d := D2) (a := s.from_) (m := 1) (s := mark s.gen (s.used + secs (Oct.row l).1)) d2 (by rw [mark_length]) (by omega)
          have hn3 := write_n D2 (s.from_ : Int) (mark s.gen (s.used + secs (Oct.row l).1))
          have eS3 : steps [.wr s.from_ (mark s.gen (s.used + secs (Oct.row l).1)), .fl] D2 = if (write D2 (s.from_ : Int) (mark s.gen (s.used + secs (Oct.row l).1))).2 = 0 then steps [.fl] (write D2 (s.from_ : Int) (mark s.gen (s.used + secs (Oct.row l).1))).1 else write D2 (s.from_ : Int) (mark s.gen (s.used + secs (Oct.row l).1)) := rfl
          have hlayold : ∀ j, s.from_ ≤ j → j < s.from_ + 1 + s.used → D2.fl j = d.fl j := fun j h1 h2 => by
            rw [f2, hL1, hf1]
            exact lay_other (fun x hx => by have := (nws_at hx).1; omega) _
          generalize write D2 (s.from_ : Int) (mark s.gen (s.used + secs (Oct.row l).1)) = W3 at *
          rw [L2] at hL3
          simp only [List.nil_append] at hL3
          rcases hc3 with ⟨hz3, rfl, hd3⟩ | ⟨hz3, hlt3⟩
          · rw [if_pos hz3] at eS3
            obtain ⟨z4, f4, L4, d4, n4⟩ := flush_up (d := W3.1) hd3
            have eS4 : steps [.fl] W3.1 = if (flush W3.1).2 = 0 then ((flush W3.1).1, 0) else flush W3.1 := rfl
            rw [if_pos z4] at eS4
            have eF : steps (appendOps s (Oct.row l).1) d = ((flush W3.1).1, 0) := by rw [eS, eS2, eS3, eS4]
            generalize (flush W3.1).1 = D4 at *
            rw [eF]
            rw [if_pos (show ((D4, (0 : Int)).2 = 0) from rfl)]
            have hnd : D4.n = d.n := by omega
            have hfine : Fine l := ⟨hr, by
              have := whole_lo (4 + (Oct.row l).1.length)
              have e : secs (Oct.row l).1 = whole (4 + (Oct.row l).1.length) := rfl
              omega⟩
            have hfl : ∀ j, D4.fl j = if j = s.from_ then mark s.gen (s.used + secs (Oct.row l).1) else lay (nws (grp (Oct.row l).1) (s.from_ + 1 + s.used) 0 (secs (Oct.row l).1)) d.fl j := fun j => by
              have e1 : nws (mark s.gen (s.used + secs (Oct.row l).1)) s.from_ 0 1 = [(s.from_, mark s.gen (s.used + secs (Oct.row l).1))] := by
                have : sect (mark s.gen (s.used + secs (Oct.row l).1)) 0 = mark s.gen (s.used + secs (Oct.row l).1) := by
                  unfold sect
                  rw [List.drop_zero, List.take_of_length_le (by rw [mark_length]; exact Nat.le_refl _)]
                simp [nws, this]
              rw [f4, hL3, e1, hf3, f2, hL1, hf1]
              show upd _ _ _ j = _
              unfold upd
              rfl
            refine ⟨⟨⟨.inl ?_, ?_⟩, fun x hx => by rw [L4] at hx; simp at hx, fun _ => ⟨L4, d4⟩, .inl he, ⟨o5, ?_, o2, by rw [hnd]; exact o3, by rw [hnd]; exact o4, ?_, ?_, .inl he⟩⟩, .inl ⟨rfl, he, he, rfl, rfl, rfl, rfl⟩⟩
            · rw [hfl, if_pos rfl]
            · show (List.range (s.used + secs (Oct.row l).1)).flatMap (fun j => D4.fl (s.from_ + 1 + j)) = cat (s.L ++ [l])
              rw [cat_append, ← h.has.body, List.range_add, List.flatMap_append]
              congr 1
              · apply flatMap_congr'
                intro j hj
                have := List.mem_range.1 hj
                rw [hfl, if_neg (by omega)]
                exact lay_other (fun x hx => by have := (nws_at hx).1; omega) _
              · rw [List.flatMap_map]
                have : ∀ j ∈ List.range (secs (Oct.row l).1), D4.fl (s.from_ + 1 + (s.used + j)) = sect (grp (Oct.row l).1) j := fun j hj => by
                  have := List.mem_range.1 hj
                  rw [hfl, if_neg (by omega), ← Nat.add_assoc]
                  exact lay_nws _ _ _ _ 0 j (Nat.zero_le _) (by omega)
                rw [flatMap_congr' this, sect_all, List.take_of_length_le (by omega)]
                simp [cat]
            · show s.used + secs (Oct.row l).1 ≤ s.n - 1; omega
            · show (s.L ++ [l]).length ≤ s.used + secs (Oct.row l).1
              have := o.len
              rw [List.length_append]; simp; omega
            · intro x hx
              rcases List.mem_append.1 hx with hx | hx
              · exact o.fine x hx
              · simp at hx; subst hx; exact hfine
          · have eF : steps (appendOps s (Oct.row l).1) d = W3 := by rw [eS, eS2, eS3, if_neg (by omega)]
            rw [eF, if_neg (by omega)]
            have hm30 : ∀ x ∈ W3.1.L, s.from_ + 1 + s.used ≤ x.1 := fun x hx => by
              obtain rfl : m3 = 0 := by omega
              rw [hL3] at hx; simp [nws] at hx
            refine ⟨⟨?_, hm30, fun hx => by rw [show W3.2 = 40 from hz3] at hx; simp at hx, .inr hz3, ⟨o5, o1, o2, by rw [hn3, n2, hn1]; exact o3, by rw [hn3, n2, hn1]; exact o4, o.len, o.fine, .inr (.inr hz3)⟩⟩, .inr ⟨by show W3.2 ≠ 0; omega, rfl, rfl, rfl, rfl⟩⟩
            show Has W3.1.fl s.from_ s.gen s.used s.L
            rw [hf3]
            exact h.has.congr hlayold
        · have eF : steps (appendOps s (Oct.row l).1) d = W1 := by rw [eS, if_neg (by omega)]
          rw [eF, if_neg (by omega)]
          refine ⟨⟨?_, fun x hx => ?_, fun hx => by rw [show W1.2 = 40 from hz1] at hx; simp at hx, .inr hz1, ⟨o5, o1, o2, by rw [hn1]; exact o3, by rw [hn1]; exact o4, o.len, o.fine, .inr (.inr hz1)⟩⟩, .inr ⟨by show W1.2 ≠ 0; omega, rfl, rfl, rfl, rfl⟩⟩
          · show Has W1.1.fl s.from_ s.gen s.used s.L
            rw [hf1]; exact h.has
          · rw [hL1] at hx
            exact (nws_at hx).1
    · rw [if_pos (by simpa using hr)]
      exact ⟨h, .inr ⟨by simpa using hr, rfl, rfl, rfl, rfl⟩⟩
  · rw [if_pos (by simpa using he)]
    exact ⟨h, .inr ⟨by simpa using he, rfl, rfl, rfl, rfl⟩⟩

/-- what a reset comes to -/
theorem reset_good {d : Dsk.St} {s : St} (h : Good d s) : Good (reset d s).1 (reset d s).2.1 ∧
    (((reset d s).2.2 = 0 ∧ s.err = 0 ∧ (reset d s).2.1.err = 0 ∧ (reset d s).2.1.L = [] ∧ (reset d s).2.1.gen = up s.gen ∧ (reset d s).2.1.from_ = s.from_ ∧ (reset d s).2.1.n = s.n) ∨
     ((reset d s).2.2 ≠ 0 ∧ (reset d s).2.1.L = s.L ∧ (reset d s).2.1.gen = s.gen ∧ (reset d s).2.1.from_ = s.from_ ∧ (reset d s).2.1.n = s.n)) := by
  have o := h.ok
  unfold reset
  by_cases he : s.err = 0
  · rw [if_neg (by simpa using he)]
    obtain ⟨hL, hd⟩ := h.live he
    have o1 := o.used
    have o2 := o.lo
    have o3 := o.hi
    have o4 := o.m
    have o5 := o.gen
    obtain ⟨m3, hm3, hL3, hf3, hc3⟩ := write_room (d := d) (a := s.from_) (m := 1) (s := mark (up s.gen) 0) hd (by rw [mark_length]) (by omega)
    have hn3 := write_n d (s.from_ : Int) (mark (up s.gen) 0)
    have eS3 : steps (resetOps s) d = if (write d (s.from_ : Int) (mark (up s.gen) 0)).2 = 0 then steps [.fl] (write d (s.from_ : Int) (mark (up s.gen) 0)).1 else write d (s.from_ : Int) (mark (up s.gen) 0) := rfl
    generalize write d (s.from_ : Int) (mark (up s.gen) 0) = W3 at *
    rw [hL] at hL3
    simp only [List.nil_append] at hL3
    rcases hc3 with ⟨hz3, rfl, hd3⟩ | ⟨hz3, hlt3⟩
    · rw [if_pos hz3] at eS3
      obtain ⟨z4, f4, L4, d4, n4⟩ := flush_up (d := W3.1) hd3
      have eS4 : steps [.fl] W3.1 = if (flush W3.1).2 = 0 then ((flush W3.1).1, 0) else flush W3.1 := rfl
      rw [if_pos z4] at eS4
      have eF : steps (resetOps s) d = ((flush W3.1).1, 0) := by rw [eS3, eS4]
      generalize (flush W3.1).1 = D4 at *
      rw [eF]
      rw [if_pos (show ((D4, (0 : Int)).2 = 0) from rfl)]
      have hnd : D4.n = d.n := by omega
      have hfl : D4.fl s.from_ = mark (up s.gen) 0 := by
        have e1 : nws (mark (up s.gen) 0) s.from_ 0 1 = [(s.from_, mark (up s.gen) 0)] := by
          have : sect (mark (up s.gen) 0) 0 = mark (up s.gen) 0 := by
            unfold sect
            rw [List.drop_zero, List.take_of_length_le (by rw [mark_length]; exact Nat.le_refl _)]
          simp [nws, this]
        rw [f4, hL3, e1]
        exact upd_same _ _ _
      have hup : up s.gen < 18446744073709551616 := Nat.mod_lt _ (by decide)
      exact ⟨⟨⟨.inl hfl, rfl⟩, fun x hx => by rw [L4] at hx; simp at hx, fun _ => ⟨L4, d4⟩, .inl he, ⟨hup, Nat.zero_le _, o2, by rw [hnd]; exact o3, by rw [hnd]; exact o4, Nat.le_refl _, fun x hx => by simp at hx, .inl he⟩⟩, .inl ⟨rfl, he, he, rfl, rfl, rfl, rfl⟩⟩
    · have eF : steps (resetOps s) d = W3 := by rw [eS3, if_neg (by omega)]
      rw [eF, if_neg (by omega)]
      refine ⟨⟨?_, fun x hx => ?_, fun hx => by rw [show W3.2 = 40 from hz3] at hx; simp at hx, .inr hz3, ⟨o5, o1, o2, by rw [hn3]; exact o3, by rw [hn3]; exact o4, o.len, o.fine, .inr (.inr hz3)⟩⟩, .inr ⟨by show W3.2 ≠ 0; omega, rfl, rfl, rfl, rfl⟩⟩
      · show Has W3.1.fl s.from_ s.gen s.used s.L
        rw [hf3]; exact h.has
      · obtain rfl : m3 = 0 := by omega
        rw [hL3] at hx; simp [nws] at hx
  · rw [if_pos (by simpa using he)]
    exact ⟨h, .inr ⟨by simpa using he, rfl, rfl, rfl, rfl⟩⟩

def Op.size : Op → Nat
  | .wr _ t => t.length / 64
  | .fl => 0
theorem one_ops (d : Dsk.St) (o : Op) : (one d o).1.ops ≤ d.ops + o.size := by
  cases o with
  | wr a t => exact write_ops d a t
  | fl => exact Nat.le_of_eq (flush_ops d)
theorem steps_ops : ∀ (L : List Op) (d : Dsk.St), (steps L d).1.ops ≤ d.ops + (L.map Op.size).sum
  | [], d => by simp [steps]
  | o :: r, d => by
    have h1 := one_ops d o
    unfold steps
    simp only [List.map_cons, List.sum_cons]
    split
    · have := steps_ops r (one d o).1; omega
    · omega
theorem append_ops {d : Dsk.St} {s : St} {m : Nat} (h : s.Ok m) (l : Grp) : (append d s l).1.ops ≤ d.ops + 16385 := by
  have o1 := h.used
  have o3 := h.hi
  have o4 := h.m
  unfold append
  split
  · show d.ops ≤ _; omega
  · split
    · show d.ops ≤ _; omega
    · split
      · show d.ops ≤ _; omega
      · have := steps_ops (appendOps s (Oct.row l).1) d
        have hg := grp_length (Oct.row l).1
        have e : ((appendOps s (Oct.row l).1).map Op.size).sum = secs (Oct.row l).1 + 1 := by
          simp only [appendOps, List.map_cons, List.map_nil, Op.size, List.sum_cons, List.sum_nil, mark_length, hg]
          omega
        rw [e] at this
        show (steps (appendOps s (Oct.row l).1) d).1.ops ≤ _
        omega
theorem reset_ops (d : Dsk.St) (s : St) : (reset d s).1.ops ≤ d.ops + 1 := by
  unfold reset
  split
  · show d.ops ≤ _; omega
  · have := steps_ops (resetOps s) d
    have e : ((resetOps s).map Op.size).sum = 1 := by
      simp [resetOps, Op.size, mark_length]
    rw [e] at this
    exact this
end Wal
end Go.Proofs.YtalklpnekbfehaaGreat

/-
  What the document's Same says of two rows of the same groups.
-/
set_option linter.unusedVariables false
set_option maxRecDepth 100000
namespace Go.Proofs.YtalklpnekbfehaaGreat
open Go.RowKit

theorem load_one {w : World} {t : TypeId} {b o : Nat} {x : Value} {D : TypeDesc} (hu : Tryz.prog.underlying t = some D) (ha : ∀ w, (isAgg t).run Tryz.prog w = .ok false w) (h : w.cell? ⟨b, o, none⟩ = some x) :
    (Instr.loadAt t (.pointer (some ⟨b, o, none⟩))).run Tryz.prog w = .ok x w := by
  simp [Instr.loadAt, go_sem, ha, h]

end Go.Proofs.YtalklpnekbfehaaGreat

/-
  The chapter's example holds; how a log and its disk go on.
-/
set_option linter.unusedVariables false
set_option maxRecDepth 100000
namespace Go.Proofs.YtalklpnekbfehaaGreat
open Go.RowKit

section
variable {w : World} {S0 R0 : Nat → Prop} {kept : List (Nat × Obj)} {S R : Nat → Prop} {p q : Nat} {d : Dsk.St} {s : Wal.St} {W W' : World}
theorem append_any {m : Nat} (hd : DiskAt S0 q d w) (hw : WalAt R0 p q s w) (ha : ∀ j, S0 j → ¬ R0 j) (hs : s.Ok m) (hops : d.ops ≤ 1099511400000) (a : Option Addr) (len cap : Nat) (l : Wal.Grp) (hst : Strs a len (bas l) w) (hap : ∀ b off, 0 < len → a = some ⟨b, off, none⟩ → ¬ (S0 b ∨ R0 b))
    (hlen : len ≤ 140737488355328) (hz : ∀ j, ((bas l).getD j .empty).size ≤ 9223372036854700000) :
    Calls Tryz.prog 59 #[.pointer (some ⟨p, 0, none⟩), .slice a len cap] w (AppR w S0 R0 p q (Wal.append d s l)) := by
  unfold Wal.append
  by_cases he : s.err = 0
  · rw [if_neg (by simpa using he)]
    by_cases hr : (Oct.row l).2 = 0
    · rw [if_neg (by simpa using hr)]
      by_cases hf : s.n - 1 - s.used < Wal.secs (Oct.row l).1
      · rw [if_pos hf]
        have := append_row hd hw ha hs a len cap l hst hlen hz he (.inr hf)
        rw [if_neg (by simpa using hr)] at this
        exact this
      · rw [if_neg hf]
        exact append_go hd hw ha hs hops a len cap l hst hap hlen hz he hr (by omega)
    · rw [if_pos (by simpa using hr)]
      have := append_row hd hw ha hs a len cap l hst hlen hz he (.inl hr)
      rw [if_pos (by simpa using hr)] at this
      exact this
  · rw [if_pos (by simpa using he)]
    exact append_err (m := m) hd hw ha a len cap he
theorem Apn.comp {S' R' : Nat → Prop} {d' : Dsk.St} {s' : Wal.St} (h : Apn w S0 R0 kept S R p q d s W) (k : Apn W S R [] S' R' p q d' s' W') : Apn w S0 R0 kept S' R' p q d' s' W' := by
  have hsz := h.turns.size
  refine ⟨k.disk, k.wal, k.apart, fun x hx => ?_, fun j hj => ?_, fun j hj => ?_, h.turns.trans k.turns (fun j hj e => ?_)⟩
  · obtain ⟨h1, h2, h3⟩ := h.rows x hx
    have hlt := row_lt h1
    refine ⟨k.turns.same h1 (fun e => e.elim h2 h3), fun e => ?_, fun e => ?_⟩
    · rcases k.loS _ e with e | e
      · exact h2 e
      · omega
    · rcases k.loR _ e with e | e
      · exact h3 e
      · omega
  · rcases k.loS j hj with e | e
    · exact h.loS j e
    · exact .inr (by omega)
  · rcases k.loR j hj with e | e
    · exact h.loR j e
    · exact .inr (by omega)
  · rcases e with e | e
    · rcases h.loS j e with e | e
      · exact .inl e
      · omega
    · rcases h.loR j e with e | e
      · exact .inr e
      · omega
/-- another log has been opened on the disk -/
theorem Apn.reopen {R' : Nat → Prop} {p' : Nat} {s' : Wal.St} (h : Apn w S0 R0 kept S R p q d s W) (hb : Below W.heap.size W W') (hw : WalAt R' p' q s' W') (hR : ∀ j, R' j → W.heap.size ≤ j) : Apn w S0 R0 kept S R' p' q d s' W' := by
  have h1 := h.new hb
  have hsz := h.turns.size
  refine ⟨h1.disk, hw, fun j hj hr => ?_, fun x hx => ⟨(h1.rows x hx).1, (h1.rows x hx).2.1, fun e => ?_⟩, h.loS, fun j hj => .inr (by have := hR j hj; omega), h1.turns⟩
  · have := h.disk.lt j hj; have := hR j hr; omega
  · have := row_lt (h.rows x hx).1; have := hR _ e; omega
end
theorem Apn.below {w W : World} {kept : List (Nat × Obj)} {S R : Nat → Prop} {p q : Nat} {d : Dsk.St} {s : Wal.St} (h : Apn w (fun _ => False) (fun _ => False) kept S R p q d s W) : Below w.heap.size w W :=
  h.turns.below (Nat.le_refl _) (fun j hj e => by rcases e with e | e <;> exact e.elim)

namespace Wal
def alL : Grp := [[97], [98]]
def alX : Grp := [Dsk.round [120] 256]
def alS0 : St := ⟨0, 0, 0, 4, [], 0⟩
def alS1 : St := ⟨0, 1, 0, 4, [alL], 0⟩
def alS2 : St := ⟨1, 0, 0, 4, [], 0⟩
def alD1 : Dsk.St := (append (Dsk.new 4) alS0 alL).1
theorem al1 : (append (Dsk.new 4) alS0 alL).2.2 = 0 ∧ (append (Dsk.new 4) alS0 alL).2.1 = alS1 := by
  constructor
  · decide +kernel
  · kernel_rfl
theorem al2 : append alD1 alS1 alX = (alD1, alS1, 4) := by
  unfold append
  rw [if_neg (by decide), if_neg (by decide +kernel), if_pos (by decide +kernel)]
theorem al3 : (reset alD1 alS1).2.2 = 0 ∧ (reset alD1 alS1).2.1 = alS2 := by
  constructor
  · decide +kernel
  · kernel_rfl
theorem al4 : (Oct.row alL).2 = 0 ∧ secs (Oct.row alL).1 = 1 := by decide +kernel
theorem alG : Good alD1 alS1 := by
  have := (append_good (new_good (n := 4) (by decide) (by decide)) alL).1
  have e := al1.2
  unfold alS0 at e
  rw [e] at this
  exact this
theorem alO : open_ alD1 0 4 = (some alS1, 0) := open_good alG (alG.live rfl).1 (alG.live rfl).2 rfl
theorem alO0 : open_ (Dsk.new 4) 0 4 = (some alS0, 0) := by
  have g := new_good (n := 4) (by decide) (by decide)
  exact open_good g (g.live rfl).1 (g.live rfl).2 rfl
theorem alOps : alD1.ops ≤ 100 := by decide +kernel
end Wal

theorem strs_two {g : Nat} {x y : ByteArray} {T : TypeId} {w : World} (h : w.heap[g]? = some (.cells #[.string x, .string y] T (0, 0))) : Strs (some ⟨g, 0, none⟩) 2 [x, y] w :=
  ⟨rfl, fun j hj => ⟨g, 0, rfl, by
    rw [cell_of_row _ _ _ _ _ _ h]
    match j, hj with
    | 0, _ => rfl
    | 1, _ => rfl
    | (k + 2), h => exact absurd h (by omega)⟩⟩
theorem strs_one {g : Nat} {x : ByteArray} {T : TypeId} {w : World} (h : w.heap[g]? = some (.cells #[.string x] T (0, 0))) : Strs (some ⟨g, 0, none⟩) 1 [x] w :=
  ⟨rfl, fun j hj => ⟨g, 0, rfl, by
    rw [cell_of_row _ _ _ _ _ _ h]
    match j, hj with
    | 0, _ => rfl
    | (k + 1), h => exact absurd h (by omega)⟩⟩
theorem lit_rows {g g2 : Nat} {w : World} (h : w.heap[g]? = some (.cells #[.string ⟨#[97]⟩, .string ⟨#[98]⟩] 9 (0, 0))) (h2 : w.heap[g2]? = some (.cells #[.slice (some ⟨g, 0, none⟩) 2 2] 29 (0, 0))) :
    GRows (fun j => j = g ∨ j = g2) (.slice (some ⟨g2, 0, none⟩) 1 1) [Wal.alL] w := by
  refine ⟨fun k hk => ?_, [.slice (some ⟨g, 0, none⟩) 2 2], ⟨rfl, .inr ⟨g2, 1, _, rfl, Nat.zero_le _, h2, Nat.le_refl _, by decide, rfl, rfl⟩⟩, fun k hk => ?_, rfl, fun i l hl => ?_⟩
  · rcases hk with rfl | rfl
    · exact row_lt h
    · exact row_lt h2
  · simp only [Value.ownBlock, Option.some.injEq] at hk; exact .inr hk.symm
  · match i, hl with
    | 0, hl =>
      simp at hl; subst hl
      refine ⟨_, rfl, ⟨rfl, .inr ⟨g, 2, _, rfl, Nat.zero_le _, h, Nat.le_refl _, by decide, rfl, rfl⟩⟩, fun k hk => ?_⟩
      simp only [Value.ownBlock, Option.some.injEq] at hk; exact .inl hk.symm
    | (k + 1), hl => simp at hl
theorem Apn.make {w W : World} {S R : Nat → Prop} {p q : Nat} {d : Dsk.St} {s : Wal.St} (hb : Below w.heap.size w W) (hd : DiskAt S q d W) (hw : WalAt R p q s W) (ha : ∀ j, S j → ¬ R j) (hS : ∀ j, S j → w.heap.size ≤ j) (hR : ∀ j, R j → w.heap.size ≤ j) :
    Apn w (fun _ => False) (fun _ => False) [] S R p q d s W :=
  ⟨hd, hw, ha, fun x hx => by simp at hx, fun j hj => .inr (hS j hj), fun j hj => .inr (hR j hj), Turns.of_new hb _⟩
theorem alSlim : ∀ l ∈ [Wal.alL], Slim l := by intro l hl; simp at hl; subst hl; exact ⟨by decide, by decide⟩

theorem open_is {S : Nat → Prop} {p : Nat} {d : Dsk.St} {w : World} (h : DiskAt S p d w) (k n : Nat) (h2 : 2 ≤ n) (hfit : k + n ≤ d.n) (s : Wal.St) (ho : Wal.open_ d (k : Int) (n : Int) = (some s, 0)) :
    Calls Tryz.prog 47 #[.pointer (some ⟨p, 0, none⟩), .int .i64 (k : Int), .int .i64 (n : Int)] w fun e w' => Below w.heap.size w w' ∧ ∃ R q, e = .returned (.tuple #[.pointer (some ⟨q, 0, none⟩), .int .i64 0]) ∧ WalAt R q p s w' ∧ ∀ j, R j → w.heap.size ≤ j :=
  (open_any h k n h2 hfit).mono fun e w' ⟨hb, hc⟩ => by
    rw [ho] at hc
    rcases hc with ⟨hn, _⟩ | ⟨s', R, q, hs, _, he, hw, hR⟩
    · cases hn
    · obtain rfl : s = s' := by simpa using hs
      exact ⟨hb, R, q, he, hw, hR⟩

end Go.Proofs.YtalklpnekbfehaaGreat
