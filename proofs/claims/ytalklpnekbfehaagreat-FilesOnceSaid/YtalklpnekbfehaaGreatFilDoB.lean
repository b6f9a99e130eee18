/- Put together of: FilDoc4 FilDoc5 FilDoc6 -/
import Derived.Test.YtalklpnekbfehaaGreatFilDoA
set_option maxRecDepth 100000
/-
  The document's put.
-/
set_option linter.unusedVariables false
set_option maxRecDepth 100000
namespace Go.Proofs.YtalklpnekbfehaaGreat
open Go.RowKit
theorem beq_dec (a b : List UInt8) : (a == b) = decide (a = b) := by
  by_cases h : a = b
  · rw [h, decide_eq_true rfl, beq_self_eq_true]
  · rw [decide_eq_false h]; exact beq_eq_false_iff_ne.2 h
set_option maxHeartbeats 2000000 in
theorem docPut_any {a : Option Addr} {cap N : Nat} {l : List (ByteArray × ByteArray)} {w : World} (hfl : FlsAt a N l w) (n d : ByteArray) (g : Bool) (hN : N ≤ 1000000000) :
    Calls Tryz.prog 83 #[.slice a N cap, .agg #[.string n, .string d, .bool g]] w fun e w' => ∃ v, e = .returned v ∧ FOwn w.heap.size v (dput n d l g) w' ∧ Below w.heap.size w w' := by
  obtain ⟨i0, hi, hz0, hz1, hz2⟩ := info_parts file_info
  obtain ⟨W1, hW1⟩ : ∃ W1, W1 = w.alloc (.cells #[.string n, .string d, .bool g] 58) := ⟨_, rfl⟩
  have hb1 : Below w.heap.size w W1 := by rw [hW1]; exact (Below.refl _ w).alloc (Nat.le_refl _) _
  have hr1 : W1.heap[w.heap.size]? = some (.cells #[.string n, .string d, .bool g] 58 (0, 0)) := by rw [hW1]; exact heap_alloc_new w _
  have hfl1 := hfl.keep hb1
  have hs1 : w.heap.size < W1.heap.size := row_lt hr1
  have hWr : w.alloc (.cells #[.string n, .string d, .bool g] 58) = W1 := hW1.symm
  have cg : W1.cell? ⟨w.heap.size, 2, none⟩ = some (.bool g) := by rw [cell_of_row _ _ 2 _ _ _ hr1]; rfl
  have hll := hfl.1
  obtain ⟨X, hX⟩ : ∃ X, X = dput n d l g := ⟨_, rfl⟩
  rw [← hX]
  have HX := Lib.hid hX; clear hX
  have Hfl := Lib.hid hfl1; clear hfl1 hfl
  have Hb1 := Lib.hid hb1; clear hb1
  have Hr1 := Lib.hid hr1; clear hr1
  have Hs1 := Lib.hid hs1; clear hs1
  have HW := Lib.hid hW1; clear hW1
  have Hll := Lib.hid hll; clear hll
  have hbf := build_file n d
  go_enter Tryz.func83, Tryz.ntmps83
  go_wp2_with fail
  go_loopw [5, 6, 7] (fun s5 s6 i wr => ∃ (k : Nat) (o : List (ByteArray × ByteArray)) (dn : Bool), k ≤ N ∧ s6 = .bool dn ∧ i = .int .i64 (k : Int) ∧ FOwn W1.heap.size s5 o wr ∧ o ++ dput n d (l.drop k) dn = X ∧ o.length ≤ 2 * k ∧ Below W1.heap.size W1 wr) (fun _ _ i _ => N - (intOf i).toNat)
  case atStart => exact ⟨0, [], g, by omega, rfl, rfl, World.ownsRow_nil _ _ _ _, HX.out.symm, by simp, Below.refl _ _⟩
  case round =>
    obtain ⟨k, o, dn, hk, rfl, rfl, hown, hinv, hol, hb⟩ := hrel
    have Hinv := Lib.hid hinv; clear hinv
    have Hb := Lib.hid hb; clear hb
    have hrC : wr.heap[w.heap.size]? = some (.cells #[.string n, .string d, .bool g] 58 (0, 0)) := by rw [Hb.out.block _ (row_lt Hr1.out)]; exact Hr1.out
    have cn : wr.cell? ⟨w.heap.size, 0, none⟩ = some (.string n) := by rw [cell_of_row _ _ 0 _ _ _ hrC]; rfl
    have cd : wr.cell? ⟨w.heap.size, 1, none⟩ = some (.string d) := by rw [cell_of_row _ _ 1 _ _ _ hrC]; rfl
    clear hrC
    have hown : wr.ownsRow W1.heap.size 104 2 _ o.length (o.flatMap flCells) := hown
    by_cases hlt : k < N
    · have hlt2 : (k : Int) < (N : Int) := by omega
      obtain ⟨b, off, rfl, c1, c2⟩ := (Hfl.out.keep Hb.out).2 k hlt
      obtain ⟨y1, hy1⟩ : ∃ y, y = (l.getD k (.empty, .empty)).1 := ⟨_, rfl⟩
      obtain ⟨y2, hy2⟩ : ∃ y, y = (l.getD k (.empty, .empty)).2 := ⟨_, rfl⟩
      rw [← hy1] at c1
      rw [← hy2] at c2
      have hdr : l.drop k = (y1, y2) :: l.drop (k + 1) := by
        have hkl : k < l.length := by rw [Hll.out]; exact hlt
        rw [List.drop_eq_getElem_cons hkl, hy1, hy2, List.getD_eq_getElem?_getD, List.getElem?_eq_getElem hkl]
        rfl
      have hinv2 := Hinv.out
      rw [hdr, dput] at hinv2
      have hld := load_file wr b (off + k * 2) y1 y2 c1 c2
      have hlb : Op.bytesLess y1.toList n.toList = bytesBefore y1.data.toList n.data.toList := by rw [Lib.toList_data, Lib.toList_data]; exact less_before _ _
      have heq : (y1.toList == n.toList) = (decide (y1.data.toList = n.data.toList)) := by rw [Lib.toList_data, Lib.toList_data]; exact beq_dec _ _
      have HY1 := Lib.hid hy1; clear hy1
      have HY2 := Lib.hid hy2; clear hy2
      clear hdr
      cases dn with
      | true =>
        rw [if_neg (by simp)] at hinv2
        by_cases hq : y1.data.toList = n.data.toList
        · rw [if_pos hq] at hinv2
          rw [decide_eq_true hq] at heq
          have Hi2 := Lib.hid hinv2; clear hinv2
          clear hq
          go_wp2_with fail
          go_region
          go_wp2_with fail
          go_region
          go_wp2_with fail
          go_roundw
          case rel => exact ⟨k + 1, o, true, by omega, rfl, by go_num, hown, Hi2.out, by omega, Hb.out.drew.drew⟩
          case measure => simp [intOf]; omega
        · rw [if_neg hq] at hinv2
          rw [decide_eq_false hq] at heq
          have Hi2 := Lib.hid hinv2; clear hinv2
          clear hq
          go_wp2_with fail
          go_region
          go_wp2_with fail
          go_region
          have hownD : wr.drew.drew.ownsRow W1.heap.size 104 2 u5 o.length (o.flatMap flCells) := ownsRow_new hown (((Below.refl _ wr).drew).drew)
          have HbD : Hid (Below W1.heap.size W1 wr.drew.drew) := Lib.hid (Hb.out.drew.drew)
          have hldD := load_file wr.drew.drew b (off + k * 2) y1 y2 c1 c2
          go_wp2_with (at_builtin; go_loud (refine wpList_append_own_at _ rfl _ _ 51 rfl W1.heap.size 104 i0 (.agg #[.string ⟨#[]⟩, .string ⟨#[]⟩]) 2 32 Tryz.underlying51 hi hz0 hz1 hz2 rfl (by decide) _ _ _ rfl (hownD.alloc _) ⟨wr.drew.drew.heap.size, 0, none⟩ 1 1 [.string y1, .string y2] rfl rfl (cell_row_new wr.drew.drew [.string y1, .string y2] 104) ?c2 ?c3 ?c4 ?c5 ?_))
          case c2 => first | (intro z hz; simp at hz; rcases hz with rfl | rfl <;> rfl) | exact ⟨rfl, rfl⟩
          case c3 => unfold maxLen; omega
          case c4 => omega
          case c5 => have := HbD.out.size; simp at this ⊢; omega
          intro pv wA po pg _ _
          have ps := HbD.out.size
          have pgs := pg.size
          have pA : (wr.drew.drew.alloc (.cells #[.string y1, .string y2] 104)).heap.size = wr.drew.drew.heap.size + 1 := by simp
          have pb : Below W1.heap.size W1 wA := (HbD.out.alloc ps _).grown pg (by omega) (fun b' h => (World.ownsRow.lt hownD b' h).1)
          have pw : FOwn W1.heap.size pv (o ++ [(y1, y2)]) wA := by
            unfold FOwn
            rw [List.length_append, List.flatMap_append]
            exact po
          have PW := Lib.hid pw; clear pw
          have PB := Lib.hid pb; clear pb
          clear po pg pgs ps pA
          go_wp2_with fail
          go_roundw
          case rel => exact ⟨k + 1, o ++ [(y1, y2)], true, by omega, rfl, by go_num, PW.out, by rw [List.append_assoc]; exact Hi2.out, by rw [List.length_append]; simp; omega, PB.out⟩
          case measure => simp [intOf]; omega
      | false =>
        by_cases hle : bytesBefore y1.data.toList n.data.toList = true
        · have hq : ¬ y1.data.toList = n.data.toList := fun e => by rw [e, WideAt.bytes_irrefl] at hle; cases hle
          rw [if_neg (fun e => by rw [hle] at e; cases e.2), if_neg hq] at hinv2
          rw [decide_eq_false hq] at heq
          rw [hle] at hlb
          have Hi2 := Lib.hid hinv2; clear hinv2
          clear hq hle
          go_wp2_with fail
          go_region
          go_wp2_with fail
          go_region
          have hownD : wr.drew.drew.ownsRow W1.heap.size 104 2 u5 o.length (o.flatMap flCells) := ownsRow_new hown (((Below.refl _ wr).drew).drew)
          have HbD : Hid (Below W1.heap.size W1 wr.drew.drew) := Lib.hid (Hb.out.drew.drew)
          have hldD := load_file wr.drew.drew b (off + k * 2) y1 y2 c1 c2
          go_wp2_with (at_builtin; go_loud (refine wpList_append_own_at _ rfl _ _ 51 rfl W1.heap.size 104 i0 (.agg #[.string ⟨#[]⟩, .string ⟨#[]⟩]) 2 32 Tryz.underlying51 hi hz0 hz1 hz2 rfl (by decide) _ _ _ rfl (hownD.alloc _) ⟨wr.drew.drew.heap.size, 0, none⟩ 1 1 [.string y1, .string y2] rfl rfl (cell_row_new wr.drew.drew [.string y1, .string y2] 104) ?c2 ?c3 ?c4 ?c5 ?_))
          case c2 => first | (intro z hz; simp at hz; rcases hz with rfl | rfl <;> rfl) | exact ⟨rfl, rfl⟩
          case c3 => unfold maxLen; omega
          case c4 => omega
          case c5 => have := HbD.out.size; simp at this ⊢; omega
          intro pv wA po pg _ _
          have ps := HbD.out.size
          have pgs := pg.size
          have pA : (wr.drew.drew.alloc (.cells #[.string y1, .string y2] 104)).heap.size = wr.drew.drew.heap.size + 1 := by simp
          have pb : Below W1.heap.size W1 wA := (HbD.out.alloc ps _).grown pg (by omega) (fun b' h => (World.ownsRow.lt hownD b' h).1)
          have pw : FOwn W1.heap.size pv (o ++ [(y1, y2)]) wA := by
            unfold FOwn
            rw [List.length_append, List.flatMap_append]
            exact po
          have PW := Lib.hid pw; clear pw
          have PB := Lib.hid pb; clear pb
          clear po pg pgs ps pA
          go_wp2_with fail
          go_roundw
          case rel => exact ⟨k + 1, o ++ [(y1, y2)], false, by omega, rfl, by go_num, PW.out, by rw [List.append_assoc]; exact Hi2.out, by rw [List.length_append]; simp; omega, PB.out⟩
          case measure => simp [intOf]; omega
        · have hle' : bytesBefore y1.data.toList n.data.toList = false := by simpa using hle
          rw [if_pos ⟨rfl, hle'⟩] at hinv2
          rw [hle'] at hlb
          clear hle hle'
          go_wp2_with fail
          go_region
          have hownD : wr.drew.ownsRow W1.heap.size 104 2 u5 o.length (o.flatMap flCells) := ownsRow_new hown ((Below.refl _ wr).drew)
          have HbD : Hid (Below W1.heap.size W1 wr.drew) := Lib.hid (Hb.out.drew)
          go_wp2_with (at_builtin; go_loud (refine wpList_append_own_at _ rfl _ _ 51 rfl W1.heap.size 104 i0 (.agg #[.string ⟨#[]⟩, .string ⟨#[]⟩]) 2 32 Tryz.underlying51 hi hz0 hz1 hz2 rfl (by decide) _ _ _ rfl (hownD.alloc _) ⟨wr.drew.heap.size, 0, none⟩ 1 1 [.string n, .string d] rfl rfl (cell_row_new wr.drew [.string n, .string d] 104) ?c2 ?c3 ?c4 ?c5 ?_))
          case c2 => first | (intro z hz; simp at hz; rcases hz with rfl | rfl <;> rfl) | exact ⟨rfl, rfl⟩
          case c3 => unfold maxLen; omega
          case c4 => omega
          case c5 => have := HbD.out.size; simp at this ⊢; omega
          intro pv wA po pg _ _
          have ps := HbD.out.size
          have pgs := pg.size
          have pA : (wr.drew.alloc (.cells #[.string n, .string d] 104)).heap.size = wr.drew.heap.size + 1 := by simp
          have pb : Below W1.heap.size W1 wA := (HbD.out.alloc ps _).grown pg (by omega) (fun b' h => (World.ownsRow.lt hownD b' h).1)
          have pw : FOwn W1.heap.size pv (o ++ [(n, d)]) wA := by
            unfold FOwn
            rw [List.length_append, List.flatMap_append]
            exact po
          have PB := Lib.hid pb; clear pb
          clear pg pgs ps pA
          have hrA : wA.heap[w.heap.size]? = some (.cells #[.string n, .string d, .bool g] 58 (0, 0)) := by rw [PB.out.block _ (row_lt Hr1.out)]; exact Hr1.out
          have cnA : wA.cell? ⟨w.heap.size, 0, none⟩ = some (.string n) := by rw [cell_of_row _ _ 0 _ _ _ hrA]; rfl
          obtain ⟨b2, off2, e2, c1A, c2A⟩ := (Hfl.out.keep PB.out).2 k hlt
          obtain ⟨rfl, rfl⟩ : b = b2 ∧ off = off2 := by simpa using e2
          rw [← HY1.out] at c1A
          rw [← HY2.out] at c2A
          clear hrA e2 cn cd c1 c2 hld
          by_cases hq : y1.data.toList = n.data.toList
          · rw [if_pos hq] at hinv2
            rw [decide_eq_true hq] at heq
            have Hi2 := Lib.hid hinv2; clear hinv2
            have PW := Lib.hid pw; clear pw po
            clear hq
            go_wp2_with fail
            go_region
            go_wp2_with fail
            go_roundw
            case rel => exact ⟨k + 1, o ++ [(n, d)], true, by omega, rfl, by go_num, ownsRow_new PW.out ((Below.refl _ wA).drew), by rw [List.append_assoc]; exact Hi2.out, by rw [List.length_append]; simp; omega, PB.out.drew⟩
            case measure => simp [intOf]; omega
          · rw [if_neg hq] at hinv2
            rw [decide_eq_false hq] at heq
            have Hi2 := Lib.hid hinv2; clear hinv2
            clear hq
            go_wp2_with fail
            go_region
            obtain ⟨o2, ho2⟩ : ∃ o2, o2 = o ++ [(n, d)] := ⟨_, rfl⟩
            have hlo : o2.length ≤ o.length + 1 := by rw [ho2]; simp
            rw [← ho2] at pw
            have Ho2 := Lib.hid ho2; clear ho2 po
            have pw' : wA.ownsRow W1.heap.size 104 2 pv o2.length (o2.flatMap flCells) := pw
            have hownE : wA.drew.ownsRow W1.heap.size 104 2 pv o2.length (o2.flatMap flCells) := ownsRow_new pw' ((Below.refl _ wA).drew)
            have HbE : Hid (Below W1.heap.size W1 wA.drew) := Lib.hid (PB.out.drew)
            have hldE := load_file wA.drew b (off + k * 2) y1 y2 c1A c2A
            go_wp2_with (at_builtin; go_loud (refine wpList_append_own_at _ rfl _ _ 51 rfl W1.heap.size 104 i0 (.agg #[.string ⟨#[]⟩, .string ⟨#[]⟩]) 2 32 Tryz.underlying51 hi hz0 hz1 hz2 rfl (by decide) _ _ _ rfl (hownE.alloc _) ⟨wA.drew.heap.size, 0, none⟩ 1 1 [.string y1, .string y2] rfl rfl (cell_row_new wA.drew [.string y1, .string y2] 104) ?c2 ?c3 ?c4 ?c5 ?_))
            case c2 => first | (intro z hz; simp at hz; rcases hz with rfl | rfl <;> rfl) | exact ⟨rfl, rfl⟩
            case c3 => unfold maxLen; omega
            case c4 => omega
            case c5 => have := HbE.out.size; simp at this ⊢; omega
            intro qv wB qo qg _ _
            have qs := HbE.out.size
            have qgs := qg.size
            have qA : (wA.drew.alloc (.cells #[.string y1, .string y2] 104)).heap.size = wA.drew.heap.size + 1 := by simp
            have qb : Below W1.heap.size W1 wB := (HbE.out.alloc qs _).grown qg (by omega) (fun b' h => (World.ownsRow.lt hownE b' h).1)
            have qw : FOwn W1.heap.size qv (o2 ++ [(y1, y2)]) wB := by
              unfold FOwn
              rw [List.length_append, List.flatMap_append]
              exact qo
            have QW := Lib.hid qw; clear qw
            have QB := Lib.hid qb; clear qb
            clear qo qg qgs qs qA pw pw'
            go_wp2_with fail
            go_roundw
            case rel => exact ⟨k + 1, o2 ++ [(y1, y2)], true, by omega, rfl, by go_num, QW.out, by rw [Ho2.out, List.append_assoc, List.append_assoc]; exact Hi2.out, by rw [List.length_append]; simp; omega, QB.out⟩
            case measure => simp [intOf]; omega
    · obtain rfl : k = N := by omega
      have hlt2 : ¬ (k : Int) < (k : Int) := by omega
      have hnil : l.drop k = [] := List.drop_eq_nil_of_le (by rw [Hll.out]; exact Nat.le_refl _)
      have hinv2 := Hinv.out
      rw [hnil, dput] at hinv2
      have hbw := Hb1.out.trans (Hb.out.mono (Nat.le_of_lt Hs1.out))
      have Hbw := Lib.hid hbw; clear hbw
      clear hnil
      cases dn with
      | true =>
        rw [if_pos rfl, List.append_nil] at hinv2
        have Hi2 := Lib.hid hinv2; clear hinv2
        go_wp2_with fail
        go_ret
        refine ⟨_, rfl, ?_, Hbw.out⟩
        rw [← Hi2.out]
        exact World.ownsRow.mono hown (Nat.le_of_lt Hs1.out)
      | false =>
        rw [if_neg (by decide)] at hinv2
        have Hi2 := Lib.hid hinv2; clear hinv2
        go_wp2_with (at_builtin; go_loud (refine wpList_append_own_at _ rfl _ _ 51 rfl W1.heap.size 104 i0 (.agg #[.string ⟨#[]⟩, .string ⟨#[]⟩]) 2 32 Tryz.underlying51 hi hz0 hz1 hz2 rfl (by decide) _ _ _ rfl (hown.alloc _) ⟨wr.heap.size, 0, none⟩ 1 1 [.string n, .string d] rfl rfl (cell_row_new wr [.string n, .string d] 104) ?c2 ?c3 ?c4 ?c5 ?_))
        case c2 => first | (intro z hz; simp at hz; rcases hz with rfl | rfl <;> rfl) | exact ⟨rfl, rfl⟩
        case c3 => unfold maxLen; omega
        case c4 => omega
        case c5 => have := Hb.out.size; simp at this ⊢; omega
        intro pv wA po pg _ _
        have ps := Hb.out.size
        have pgs := pg.size
        have pA : (wr.alloc (.cells #[.string n, .string d] 104)).heap.size = wr.heap.size + 1 := by simp
        have pb : Below W1.heap.size W1 wA := (Hb.out.alloc ps _).grown pg (by omega) (fun b' h => (World.ownsRow.lt hown b' h).1)
        have pw : FOwn W1.heap.size pv (o ++ [(n, d)]) wA := by
          unfold FOwn
          rw [List.length_append, List.flatMap_append]
          exact po
        have PW := Lib.hid pw; clear pw
        have PB := Lib.hid pb; clear pb
        clear po pg pgs ps pA
        go_wp2_with fail
        go_ret
        refine ⟨_, rfl, ?_, Hb1.out.trans (PB.out.mono (Nat.le_of_lt Hs1.out))⟩
        rw [← Hi2.out]
        exact World.ownsRow.mono PW.out (Nat.le_of_lt Hs1.out)
end Go.Proofs.YtalklpnekbfehaaGreat

/-
  The document's With.
-/
set_option linter.unusedVariables false
set_option maxRecDepth 100000
namespace Go.Proofs.YtalklpnekbfehaaGreat
open Go.RowKit
def dputs (l : List (ByteArray × ByteArray)) (L : List Chb) : List (ByteArray × ByteArray) := L.foldl (fun r x => dput x.n x.d r x.g) l
theorem dput_length (n d : ByteArray) : ∀ (r : List (ByteArray × ByteArray)) (dn : Bool), (dput n d r dn).length ≤ r.length + (if dn = true then 0 else 1)
  | [], dn => by cases dn <;> simp [dput]
  | x :: r, dn => by
    have h1 := dput_length n d r true
    have h2 := dput_length n d r dn
    rw [if_pos rfl] at h1
    rw [dput]
    by_cases hd : dn = true
    · rw [if_pos hd] at h2 ⊢
      rw [if_neg (by simp [hd])]
      split
      · simp only [List.length_cons]; omega
      · simp only [List.length_cons]; omega
    · rw [if_neg hd] at h2 ⊢
      split
      · split
        · simp only [List.length_cons]; omega
        · simp only [List.length_cons]; omega
      · split
        · simp only [List.length_cons]; omega
        · simp only [List.length_cons]; omega
theorem dput_length1 (n d : ByteArray) (r : List (ByteArray × ByteArray)) (dn : Bool) : (dput n d r dn).length ≤ r.length + 1 := by
  have := dput_length n d r dn
  split at this <;> omega
theorem fls_puts : ∀ (L : List Chb) (l : List (ByteArray × ByteArray)), Fil.Sorted (fls l) → fls (dputs l L) = Fil.puts (fls l) (chs L)
  | [], l, _ => rfl
  | x :: L, l, h => by
    have e := fls_put l h x
    show fls (dputs (dput x.n x.d l x.g) L) = Fil.puts (Fil.put1 (fls l) x.c) (chs L)
    rw [fls_puts L _ (by rw [e]; exact h.puts [x.c]), e]
theorem load_chd (u : World) (b o : Nat) (x : Chb) (h : ChgAt u b o x) : (Instr.loadAt 58 (.pointer (some ⟨b, o, none⟩))).run Tryz.prog u = .ok (.agg #[.string x.n, .string x.d, .bool x.g]) u := by
  have := run_loadAt_mid (P := Tryz.prog) u b o 58 [.string x.n, .string x.d, .bool x.g] _ (fun j v hv => by
    match j, hv with
    | 0, hv => cases hv; exact h.n
    | 1, hv => cases hv; exact h.d
    | 2, hv => cases hv; exact h.g
    | _ + 3, hv => simp at hv) Tryz.underlying58 rfl (by kernel_rfl)
  exact this
set_option maxHeartbeats 800000 in
theorem docWith_any {p n : Nat} {l : List (ByteArray × ByteArray)} {w : World} {a0 : Option Addr} {cap0 : Nat} (hrow : w.heap[p]? = some (docF (.slice a0 l.length cap0) n)) (hfl : FlsAt a0 l.length l w) (hll : l.length ≤ 100000000) (a : Option Addr) (len cap : Nat) (L : List Chb) (hL : Chgs a len L w) (hlen : len ≤ 100000000) :
    Calls Tryz.prog 54 #[.pointer (some ⟨p, 0, none⟩), .slice a len cap] w fun e w' => ∃ a' cap', e = .returned (.slice a' (dputs l L).length cap') ∧ FlsAt a' (dputs l L).length (dputs l L) w' ∧ Below w.heap.size w w' ∧ ((a' = a0 ∧ dputs l L = l) ∨ ∀ b off, a' = some ⟨b, off, none⟩ → w.heap.size ≤ b) := by
  have c0 : w.cell? ⟨p, 0, none⟩ = some (.slice a0 l.length cap0) := by rw [cell_of_row _ _ 0 _ _ _ hrow]; rfl
  have hLl := hL.1
  obtain ⟨X, hX⟩ : ∃ X, X = dputs l L := ⟨_, rfl⟩
  rw [← hX]
  have HX := Lib.hid hX; clear hX
  have Hfl := Lib.hid hfl; clear hfl
  have HL := Lib.hid hL; clear hL
  have HLl := Lib.hid hLl; clear hLl
  clear hrow
  go_enter Tryz.func54, Tryz.ntmps54
  go_wp2_with fail
  go_loopw [5, 6] (fun s5 i wr => ∃ (k : Nat) (a' : Option Addr) (cap' : Nat) (r : List (ByteArray × ByteArray)), k ≤ len ∧ s5 = .slice a' r.length cap' ∧ i = .int .i64 (k : Int) ∧ FlsAt a' r.length r wr ∧ r = dputs l (L.take k) ∧ r.length ≤ l.length + k ∧ Below w.heap.size w wr ∧ ((a' = a0 ∧ r = l) ∨ ∀ b off, a' = some ⟨b, off, none⟩ → w.heap.size ≤ b)) (fun _ i _ => len - (intOf i).toNat)
  case atStart => exact ⟨0, a0, cap0, l, by omega, rfl, rfl, Hfl.out, rfl, by omega, Below.refl _ _, .inl ⟨rfl, rfl⟩⟩
  case round =>
    obtain ⟨k, a', cap', r, hk, rfl, rfl, hr, hrl, hrn, hb, hfr⟩ := hrel
    have Hfr := Lib.hid hfr; clear hfr
    have Hr := Lib.hid hr; clear hr
    have Hrl := Lib.hid hrl; clear hrl
    have Hb := Lib.hid hb; clear hb
    by_cases hlt : k < len
    · have hlt2 : (k : Int) < (len : Int) := by omega
      obtain ⟨b, off, rfl, hch⟩ := (HL.out.keep Hb.out).2 k hlt
      have hld := load_chd wr b (off + k * 3) _ hch
      obtain ⟨x, hx⟩ : ∃ x, x = L.getD k default := ⟨_, rfl⟩
      rw [← hx] at hld hch
      have c1 := hch.n
      have c2 := hch.d
      have c3 := hch.g
      have Hx := Lib.hid hx; clear hx
      have hpt := docPut_any (cap := cap') Hr.out x.n x.d x.g (by omega)
      have Hpt := Lib.hid hpt; clear hpt hch
      go_wp2_with fail
      refine Hpt.out.mono ?_; rintro e w2 ⟨v, rfl, hov, hb2⟩
      obtain ⟨a2, cap2, rfl, hf2, hfresh⟩ := hov.fls
      have Hfresh := Lib.hid (show ∀ b off, a2 = some ⟨b, off, none⟩ → w.heap.size ≤ b from fun b off e => Nat.le_trans Hb.out.size (hfresh b off e).1); clear hfresh
      have hln := dput_length1 x.n x.d r x.g
      have hlk : k < L.length := by rw [HLl.out]; exact hlt
      have htk : dput x.n x.d r x.g = dputs l (L.take (k + 1)) := by
        rw [Hrl.out, List.take_add_one, List.getElem?_eq_getElem hlk]
        unfold dputs
        rw [List.foldl_append, Hx.out, List.getD_eq_getElem?_getD, List.getElem?_eq_getElem hlk]
        rfl
      have hB := Hb.out.trans (hb2.mono Hb.out.size)
      have Hf2 := Lib.hid hf2; clear hf2 hov
      have Htk := Lib.hid htk; clear htk
      have Hln := Lib.hid hln; clear hln
      have HB := Lib.hid hB; clear hB hb2
      go_wp2_with fail
      go_roundw
      case rel => exact ⟨k + 1, a2, cap2, dput x.n x.d r x.g, by omega, rfl, by go_num, Hf2.out, Htk.out, by have := Hln.out; omega, HB.out, .inr Hfresh.out⟩
      case measure => simp [intOf]; omega
    · obtain rfl : k = len := by omega
      have hlt2 : ¬ (k : Int) < (k : Int) := by omega
      go_wp2_with fail
      go_ret
      have e : r = X := by rw [Hrl.out, HX.out, List.take_of_length_le (by rw [HLl.out]; exact Nat.le_refl _)]
      subst e
      first
        | exact ⟨a', cap', rfl, Hr.out, Hb.out, Hfr.out⟩
        | exact ⟨a', ⟨cap', rfl⟩, Hr.out, Hb.out, Hfr.out⟩
end Go.Proofs.YtalklpnekbfehaaGreat

/-
  What the document's Names and Commit return.
-/
set_option linter.unusedVariables false
set_option maxRecDepth 100000
namespace Go.Proofs.YtalklpnekbfehaaGreat
open Go.RowKit

/-- names of the document's files -/
def flNames (l : List (ByteArray × ByteArray)) : List ByteArray := l.map (·.1)
theorem flNames_take (l : List (ByteArray × ByteArray)) (k : Nat) (h : k < l.length) : flNames (l.take (k + 1)) = flNames (l.take k) ++ [(l.getD k (.empty, .empty)).1] := by
  unfold flNames
  rw [List.take_add_one, List.getElem?_eq_getElem h, List.map_append]
  simp [List.getD_eq_getElem?_getD, h]
theorem info_str : (Tryz.prog.info? 9).map (fun i => (i.zero, i.size, i.bytes)) = some (some (.string ⟨#[]⟩), 1, 16) := by kernel_rfl

set_option maxHeartbeats 1000000 in
theorem docNames_any {p n : Nat} {l : List (ByteArray × ByteArray)} {w : World} (h : DocAt p n l w) (hll : l.length ≤ 1099511627) :
    Calls Tryz.prog 51 #[.pointer (some ⟨p, 0, none⟩)] w fun e w' => ∃ v, e = .returned v ∧ Own w.heap.size v (flNames l) w' ∧ Below w.heap.size w w' := by
  obtain ⟨a, cap, hrow, hfl⟩ := h.row
  have hpl := row_lt hrow
  obtain ⟨i0, hi, hz0, hz1, hz2⟩ := info_parts info_str
  have Hrow := Lib.hid hrow; clear hrow
  have Hfl := Lib.hid hfl; clear hfl
  obtain ⟨N, hN⟩ : ∃ N, N = l.length := ⟨_, rfl⟩
  rw [← hN] at Hrow Hfl hll
  have HN := Lib.hid hN; clear hN
  obtain ⟨X, hX⟩ : ∃ X, X = flNames l := ⟨_, rfl⟩
  rw [← hX]
  have HX := Lib.hid hX; clear hX
  clear h
  go_enter Tryz.func51, Tryz.ntmps51
  go_wp2_with fail
  go_loopw [3, 4] (fun vv iv wr => ∃ (k : Nat) (v : Value), v = vv ∧ k ≤ N ∧ iv = .int .i64 (k : Int) ∧ Own w.heap.size v (flNames (l.take k)) wr ∧ Below w.heap.size w wr) (fun _ iv _ => N - (intOf iv).toNat)
  case atStart => exact ⟨0, _, rfl, by omega, rfl, World.ownsRow_nil w w.heap.size 9 1, Below.refl _ _⟩
  case round =>
    obtain ⟨k, v, rfl, hk, rfl, hown, hb⟩ := hrel
    have hrw : wr.heap[p]? = some (docF (.slice a N cap) n) := by rw [hb.block p hpl]; exact Hrow.out
    have c0 : wr.cell? ⟨p, 0, none⟩ = some (.slice a N cap) := by rw [cell_of_row _ _ 0 _ _ _ hrw]; rfl
    have hlen : (flNames (l.take k)).length = k := by simp [flNames]; have := HN.out; omega
    clear hrw
    by_cases hlt : k < N
    · have hlt2 : (k : Int) < (N : Int) := by omega
      obtain ⟨b, off, rfl, c1, _⟩ := (Hfl.out.keep hb).2 k hlt
      have htk := flNames_take l k (by rw [← HN.out]; exact hlt)
      obtain ⟨y, hy⟩ : ∃ y, y = (l.getD k (.empty, .empty)).1 := ⟨_, rfl⟩
      rw [← hy] at c1 htk
      have hown2 : wr.ownsRow w.heap.size 9 1 v k ((flNames (l.take k)).map Value.string) := by
        have h2 := hown; unfold Own at h2; rw [hlen] at h2; exact h2
      have Hb := Lib.hid hb; clear hb
      have Htk := Lib.hid htk; clear htk
      have Hlen := Lib.hid hlen; clear hlen
      clear hy hown
      go_wp2_with (at_builtin; go_loud (refine wpList_append_own_at _ rfl _ _ 29 rfl w.heap.size 9 i0 (.string ⟨#[]⟩) 1 16 Tryz.underlying29 hi hz0 hz1 hz2 rfl (by decide) _ _ _ rfl (hown2.alloc _) ⟨wr.heap.size, 0, none⟩ 1 1 [.string y] rfl rfl (cell_row_new wr [.string y] 9) ?c2 ?c3 ?c4 ?c5 ?_))
      case c2 => first | (intro z hz; simp at hz; subst hz; rfl) | rfl | exact ⟨rfl, rfl⟩ | trivial
      case c3 => unfold maxLen; omega
      case c4 => omega
      case c5 => have := Hb.out.size; simp at this ⊢; omega
      intro pv wA po pg _ _
      have ps := Hb.out.size
      have pgs := pg.size
      have pA : (wr.alloc (.cells #[.string y] 9)).heap.size = wr.heap.size + 1 := by simp
      have pb : Below w.heap.size w wA := (Hb.out.alloc ps _).grown pg (by omega) (fun b' h => (World.ownsRow.lt hown2 b' h).1)
      have pw : Own w.heap.size pv (flNames (l.take (k + 1))) wA := by
        rw [Htk.out]
        unfold Own
        rw [List.length_append, Hlen.out, List.map_append]
        exact po
      have PW := Lib.hid pw; clear pw
      have PB := Lib.hid pb; clear pb
      clear po pg pgs ps pA hown2
      go_wp2_with fail
      go_roundw
      case rel => exact ⟨k + 1, _, rfl, by omega, by go_num, PW.out, PB.out⟩
      case measure => simp [intOf]; omega
    · obtain rfl : k = N := by omega
      have hlt2 : ¬ (k : Int) < (k : Int) := by omega
      have e : flNames (l.take k) = X := by rw [HX.out, List.take_of_length_le (by rw [HN.out]; exact Nat.le_refl _)]
      rw [e] at hown
      have Hown := Lib.hid hown; clear hown
      have Hb := Lib.hid hb; clear hb
      clear hlen e
      go_wp2_with fail
      go_ret
      first
        | exact ⟨v, rfl, Hown.out, Hb.out⟩
        | exact ⟨Hown.out, Hb.out⟩

theorem DocAt.new {p n : Nat} {l : List (ByteArray × ByteArray)} {w w' : World} (h : DocAt p n l w) (hb : Below w.heap.size w w') : DocAt p n l w' := by
  obtain ⟨a, cap, h1, h2⟩ := h.row
  exact ⟨⟨a, cap, by rw [hb.block p (row_lt h1)]; exact h1, h2.keep hb⟩⟩
/-- what a Commit of the document's comes to -/
def docCm (n : Nat) (l : List (ByteArray × ByteArray)) (L : List Chb) : List (ByteArray × ByteArray) × Int :=
  if L.any Chb.bad = true then (l, 2) else if Fil.arN n * 64 - 4 < Fil.used (fls (dputs l L)) then (l, 4) else (dputs l L, 0)
theorem FlsAt.apart {p n : Nat} {v : Value} {a : Option Addr} {len : Nat} {l : List (ByteArray × ByteArray)} {w : World} (h : FlsAt a len l w) (hp : w.heap[p]? = some (docF v n)) (hv : ∀ s, v ≠ .string s) : ∀ b off, 0 < len → a = some ⟨b, off, none⟩ → b ≠ p := by
  intro b off h0 ha e
  subst e
  obtain ⟨b2, o2, e2, c1, _⟩ := h.2 0 h0
  rw [ha] at e2
  obtain ⟨rfl, rfl⟩ : b = b2 ∧ off = o2 := by simpa using e2
  rw [cell_of_row _ _ _ _ _ _ hp] at c1
  match off, c1 with
  | 0, c1 => simp at c1; exact hv _ c1
  | 1, c1 => simp at c1
  | o + 2, c1 => simp at c1

/-- the document's files are X now; their row is the one ahead, or was made anew -/
def DocTo (p n : Nat) (aD : Option Addr) (l X : List (ByteArray × ByteArray)) (w w' : World) : Prop :=
  ∃ a' cap', w'.heap[p]? = some (docF (.slice a' X.length cap') n) ∧ FlsAt a' X.length X w' ∧ ((a' = aD ∧ X = l) ∨ ∀ b off, a' = some ⟨b, off, none⟩ → w.heap.size ≤ b)
set_option maxHeartbeats 1000000 in
theorem docCommit_at {p n : Nat} {l : List (ByteArray × ByteArray)} {w : World} {aD : Option Addr} {capD : Nat} (hrowD : w.heap[p]? = some (docF (.slice aD l.length capD) n)) (hflD : FlsAt aD l.length l w) (h8 : 8 ≤ n) (hn : n ≤ 16384) (hll : l.length ≤ 100000000) (a : Option Addr) (len cap : Nat) (L : List Chb) (hL : Chgs a len L w) (hlen : len ≤ 100000000)
    (hsum : ¬ L.any Chb.bad = true → Fil.sum (fls (dputs l L)) ≤ 1099511627) :
    Calls Tryz.prog 21 #[.pointer (some ⟨p, 0, none⟩), .slice a len cap] w fun e w' => e = .returned (.int .i64 (docCm n l L).2) ∧ DocTo p n aD l (docCm n l L).1 w w' ∧ Turns (fun j => j = p) w w' := by
  have hLl := hL.1
  have hN : 1 ≤ Fil.arN n ∧ Fil.arN n ≤ 16384 := by unfold Fil.arN Fil.arAt Fil.logN; omega
  obtain ⟨E, hE⟩ : ∃ E, E = docCm n l L := ⟨_, rfl⟩
  rw [← hE]
  have HE := Lib.hid hE; clear hE
  have HL := Lib.hid hL; clear hL
  have HrD := Lib.hid hrowD; clear hrowD
  have HfD := Lib.hid hflD; clear hflD
  have HLl := Lib.hid hLl; clear hLl
  have Hsum := Lib.hid hsum; clear hsum
  go_enter Tryz.func21, Tryz.ntmps21
  go_wp2_with fail
  go_loopw [5] (fun i wr => ∃ k : Nat, k ≤ len ∧ i = .int .i64 (k : Int) ∧ (L.take k).any Chb.bad = false ∧ Below w.heap.size w wr) (fun i _ => len - (intOf i).toNat)
  case atStart => exact ⟨0, by omega, rfl, rfl, Below.refl _ _⟩
  case round =>
    obtain ⟨k, hk, rfl, hgo, hb⟩ := hrel
    have Hb := Lib.hid hb; clear hb
    by_cases hlt : k < len
    · have hlt2 : (k : Int) < (len : Int) := by omega
      obtain ⟨b, off, rfl, hch⟩ := (HL.out.keep Hb.out).2 k hlt
      obtain ⟨x, hx⟩ : ∃ x, x = L.getD k default := ⟨_, rfl⟩
      rw [← hx] at hch
      have k1 := hch.n
      have k2 := hch.d
      have k3 := hch.g
      have htk : (L.take (k + 1)).any Chb.bad = x.bad := by
        rw [List.take_add_one, List.getElem?_eq_getElem (by rw [HLl.out]; exact hlt), List.any_append, hgo, hx, List.getD_eq_getElem?_getD, List.getElem?_eq_getElem (by rw [HLl.out]; exact hlt)]
        simp
      have hin : x.bad = true → L.any Chb.bad = true := fun hb => by
        rw [← List.take_append_drop (k + 1) L, List.any_append, htk, hb]; rfl
      have hm := fun u => docMay_any x u
      have Hm := Lib.hid hm; clear hm hch hx
      have Hin := Lib.hid hin; clear hin
      have Htk := Lib.hid htk; clear htk
      cases hxb : x.bad with
      | true =>
        rw [hxb] at Hm
        have he : E = (l, 2) := by rw [HE.out]; unfold docCm; rw [if_pos (Hin.out hxb)]
        subst he
        clear hxb
        go_wp2_with fail
        refine (Hm.out _).mono ?_; rintro e w2 ⟨rfl, hb2⟩
        have HB := Lib.hid (Hb.out.trans (hb2.mono Hb.out.size)); clear hb2
        go_wp2_with fail
        go_ret
        exact ⟨rfl, ⟨aD, capD, by rw [HB.out.block p (row_lt HrD.out)]; exact HrD.out, HfD.out.keep HB.out, .inl ⟨rfl, rfl⟩⟩, Turns.of_new HB.out _⟩
      | false =>
        rw [hxb] at Hm Htk
        clear hxb
        go_wp2_with fail
        refine (Hm.out _).mono ?_; rintro e w2 ⟨rfl, hb2⟩
        have HB := Lib.hid (Hb.out.trans (hb2.mono Hb.out.size)); clear hb2
        go_wp2_with fail
        go_roundw
        case rel => exact ⟨k + 1, by omega, by go_num, Htk.out, HB.out⟩
        case measure => simp [intOf]; omega
    · obtain rfl : k = len := by omega
      have hlt2 : ¬ (k : Int) < (k : Int) := by omega
      rw [List.take_of_length_le (by rw [HLl.out]; exact Nat.le_refl _)] at hgo
      have hs := Hsum.out (by rw [hgo]; decide)
      have hwith := docWith_any (show wr.heap[p]? = some (docF (.slice aD l.length capD) n) by rw [Hb.out.block p (row_lt HrD.out)]; exact HrD.out) (HfD.out.keep Hb.out) hll a k cap L (HL.out.keep Hb.out) hlen
      have he : E = if Fil.arN n * 64 - 4 < Fil.used (fls (dputs l L)) then (l, 4) else (dputs l L, 0) := by rw [HE.out]; unfold docCm; rw [if_neg (by rw [hgo]; decide)]
      have He := Lib.hid he; clear he HE
      obtain ⟨X, hX⟩ : ∃ X, X = dputs l L := ⟨_, rfl⟩
      rw [← hX] at hs hwith He
      have hXl : True := trivial
      have Hw := Lib.hid hwith; clear hwith
      clear hX hgo Hsum hXl
      go_wp2_with fail
      refine Hw.out.mono ?_; rintro e w2 ⟨a', cap', rfl, hf2, hb2, hfr⟩
      have Hfr := Lib.hid hfr; clear hfr
      have HB := Lib.hid (Hb.out.trans (hb2.mono Hb.out.size)); clear hb2
      have Hf2 := Lib.hid hf2; clear hf2
      have hrow : w2.heap[p]? = some (docF (.slice aD l.length capD) n) := by rw [HB.out.block p (row_lt HrD.out)]; exact HrD.out
      have hus := docUsed_any (cap := cap') Hf2.out hs
      have Hus := Lib.hid hus; clear hus
      have c1 : w2.drew.cell? ⟨p, 1, none⟩ = some (.int .i64 ((Fil.arN n : Int) * 64 - 4)) := by
        have := cell_of_row w2 p 1 _ _ _ hrow
        exact this
      have Hrow := Lib.hid hrow; clear hrow
      go_wp2_with fail
      obtain ⟨B, hBe⟩ : ∃ B : Bool, B = decide ((Fil.arN n : Int) * 64 - 4 < ((Fil.used (fls X) : Nat) : Int)) := ⟨_, rfl⟩
      have HBv := Lib.hid hBe.symm
      have HBe := Lib.hid hBe; clear hBe
      refine wp_region_phases [([0, 2, 3, 4, 5], [1, 6])] (by kernel_rfl) (by kernel_rfl) (fun z => z.cell? ⟨p, 1, none⟩ = some (.int .i64 ((Fil.arN n : Int) * 64 - 4))) c1 ?_
      simp only [wpPhases, pick, List.filterMap_cons, List.filterMap_nil, List.getElem?_toArray, List.getElem?_cons_zero, List.getElem?_cons_succ]
      refine take_move (.tmp 6) (.slice a' X.length cap') rfl rfl rfl ?_
      simp only [Act.put, List.setIfInBounds_toArray, List.set_cons_zero, List.set_cons_succ]
      refine take_move (.tmp 0) (.pointer (some ⟨p, 0, none⟩)) rfl rfl rfl ?_
      simp only [Act.put, List.setIfInBounds_toArray, List.set_cons_zero, List.set_cons_succ]
      refine take_nil (.tmp 24) ⟨p, 0, none⟩ rfl rfl rfl ?_
      simp only [Act.put, List.setIfInBounds_toArray, List.set_cons_zero, List.set_cons_succ]
      refine take_one (.pointer (some ⟨p, 1, none⟩)) rfl (fun u _ => by go_simp) ?_
      simp only [Act.put, List.setIfInBounds_toArray, List.set_cons_zero, List.set_cons_succ]
      refine take_load 3 (.tmp 26) ⟨p, 1, none⟩ (.int .i64 ((Fil.arN n : Int) * 64 - 4)) rfl rfl rfl (fun u hu => load_any Tryz.underlying3 Tryz.isAgg3 hu) ?_
      simp only [Act.put, List.setIfInBounds_toArray, List.set_cons_zero, List.set_cons_succ]
      refine take_done ?_
      refine midk_wp rfl (call_wp 55 [.tmp 22] #[51] #[.slice a' X.length cap'] rfl rfl rfl ?_)
      refine (docUsed_any (cap := cap') (Hf2.out.keep ((Below.refl _ w2).drew)) hs).mono ?_
      rintro e w3 ⟨rfl, hb3⟩
      have hc3 : w3.cell? ⟨p, 1, none⟩ = some (.int .i64 ((Fil.arN n : Int) * 64 - 4)) := by rw [World.cell?_of_block (hb3.block p (cell_lt c1))]; exact c1
      refine ⟨_, rfl, hc3, ?_⟩
      simp only [Act.put, List.setIfInBounds_toArray, List.set_cons_zero, List.set_cons_succ]
      refine midk_one (.bool B) rfl (by go_simp; exact HBv.out) hc3 ?_
      refine midk_end ?_
      have HB3 := Lib.hid (HB.out.trans ((((Below.refl _ w2).drew).trans hb3).mono HB.out.size))
      have hb23 : Below w2.heap.size w2 w3 := ((Below.refl _ w2).drew).trans hb3
      have hrow3 : w3.heap[p]? = some (docF (.slice aD l.length capD) n) := by rw [hb23.block p (row_lt Hrow.out)]; exact Hrow.out
      have Hf3 := Lib.hid (Hf2.out.keep hb23)
      have Hrow3 := Lib.hid hrow3; clear hrow3
      clear hb3 hb23 c1 Hrow Hf2 Hus hc3
      cases hB : B with
      | true =>
        have hc : Fil.arN n * 64 - 4 < Fil.used (fls X) := by
          have := HBe.out; rw [hB] at this; have := of_decide_eq_true this.symm; omega
        rw [if_pos hc] at He
        have he := He.out
        subst he
        clear He hB
        go_wp2_with fail
        go_ret
        exact ⟨rfl, ⟨aD, capD, Hrow3.out, HfD.out.keep HB3.out, .inl ⟨rfl, rfl⟩⟩, Turns.of_new HB3.out _⟩
      | false =>
        have hc : ¬ Fil.arN n * 64 - 4 < Fil.used (fls X) := by
          have := HBe.out; rw [hB] at this; have := of_decide_eq_false this.symm; omega
        rw [if_neg hc] at He
        have he := He.out
        subst he
        clear He hB
        have c0 : w3.cell? ⟨p, 0, none⟩ = some (.slice aD l.length capD) := by rw [cell_of_row _ _ 0 _ _ _ Hrow3.out]; rfl
        have f0 : w3.frozen? ⟨p, 0, none⟩ = false := row_free Hrow3.out 0
        have hap := Hf3.out.apart Hrow3.out (fun s e => by cases e)
        have hrow4 : (w3.setCell ⟨p, 0, none⟩ (.slice a' X.length cap')).heap[p]? = some (docF (.slice a' X.length cap') n) := by rw [heap_setCell_same _ _ 0 _ _ _ Hrow3.out]; rfl
        have hf4 : FlsAt a' X.length X (w3.setCell ⟨p, 0, none⟩ (.slice a' X.length cap')) := by
          refine ⟨rfl, fun j hj => ?_⟩
          obtain ⟨b, off, e, d1, d2⟩ := Hf3.out.2 j hj
          have hne := hap b off (by omega) e
          exact ⟨b, off, e, by rw [World.cell?_setCell_other _ _ _ _ (by intro c; exact hne (Addr.mk.inj c).1.symm)]; exact d1, by rw [World.cell?_setCell_other _ _ _ _ (by intro c; exact hne (Addr.mk.inj c).1.symm)]; exact d2⟩
        have hd := And.intro hrow4 hf4
        have hfr2 : (a' = aD ∧ X = l) ∨ ∀ b off, a' = some ⟨b, off, none⟩ → w.heap.size ≤ b := by
          rcases Hfr.out with e | e
          · exact .inl e
          · exact .inr (fun b off h => Nat.le_trans Hb.out.size (e b off h))
        have Hfr2 := Lib.hid hfr2; clear hfr2
        have ht : Turns (fun j => j = p) w (w3.setCell ⟨p, 0, none⟩ (.slice a' X.length cap')) := (Turns.of_new HB3.out _).set p 0 _ (fun _ => rfl)
        have Hd := Lib.hid hd; clear hd
        have Ht := Lib.hid ht; clear ht
        clear hrow4 hf4 hap
        go_wp2_with fail
        go_ret
        exact ⟨rfl, ⟨a', cap', Hd.out.1, Hd.out.2, Hfr2.out⟩, Ht.out⟩
theorem docCommit_any {p n : Nat} {l : List (ByteArray × ByteArray)} {w : World} (h : DocAt p n l w) (h8 : 8 ≤ n) (hn : n ≤ 16384) (hll : l.length ≤ 100000000) (a : Option Addr) (len cap : Nat) (L : List Chb) (hL : Chgs a len L w) (hlen : len ≤ 100000000)
    (hsum : ¬ L.any Chb.bad = true → Fil.sum (fls (dputs l L)) ≤ 1099511627) :
    Calls Tryz.prog 21 #[.pointer (some ⟨p, 0, none⟩), .slice a len cap] w fun e w' => e = .returned (.int .i64 (docCm n l L).2) ∧ DocAt p n (docCm n l L).1 w' ∧ Turns (fun j => j = p) w w' := by
  obtain ⟨aD, capD, h1, h2⟩ := h.row
  exact (docCommit_at h1 h2 h8 hn hll a len cap L hL hlen hsum).mono fun e w' ⟨he, ⟨a', cap', g1, g2, _⟩, ht⟩ => ⟨he, ⟨⟨a', cap', g1, g2⟩⟩, ht⟩
end Go.Proofs.YtalklpnekbfehaaGreat
