/-
  What readGroups returns.
-/
import Derived.Test.YtalklpnekbfehaaGreatWalA
import Derived.Test.YtalklpnekbfehaaGreatGoAll
import Derived.Deep.LoopGhost
set_option linter.unusedVariables false
set_option maxRecDepth 100000
namespace Go.Proofs.YtalklpnekbfehaaGreat
open Go.RowKit

theorem grp_info : (Tryz.prog.info? 29).map (fun i => (i.zero, i.size, i.bytes)) = some (some (.slice none 0 0), 1, 24) := by kernel_rfl

/-- a row of groups has grown by one, of texts that are new -/
theorem GRows.grown {B : Nat} {v v' u : Value} {L : List Wal.Grp} {l : Wal.Grp} {vs : List Value} {w w3 w4 : World}
    (h1 : w.ownsRow 0 29 1 v L.length vs) (h2 : ∀ k, v.ownBlock = some k → B ≤ k ∧ k < w.heap.size) (h3 : Grps (fun k => B ≤ k ∧ k < w.heap.size) vs L w)
    (hb : Below w.heap.size w w3) (hu : Own B u (bas l) w3) (h4 : w4.ownsRow 0 29 1 v' (L.length + 1) (vs ++ [u])) (hg : w3.grownBy w4 v.ownBlock) (hv : v'.ownBlock = v.ownBlock ∨ v'.ownBlock = some w3.heap.size) (hlt : ∀ k, v'.ownBlock = some k → k < w4.heap.size) (hB : B ≤ w.heap.size) :
    GRows (fun k => B ≤ k ∧ k < w4.heap.size) v' (L ++ [l]) w4 := by
  have hs3 := hb.size
  have hs4 := hg.size
  have hv0 : w3.ownsRow 0 29 1 v L.length vs := ownsRow_same h1 fun g hg => hb.block g (h1.lt g hg).2
  have hno : ∀ (x : Value) (y : List ByteArray) (b : Nat), w3.ownsRow b 9 1 x y.length (y.map Value.string) → x.ownBlock = none ∨ x.ownBlock ≠ v.ownBlock := by
    intro x y b hx
    cases hxo : x.ownBlock with
    | none => exact .inl rfl
    | some k =>
      refine .inr fun e => ?_
      obtain ⟨c1, e1⟩ := ownsRow_block hx hxo
      obtain ⟨c2, e2⟩ := ownsRow_block hv0 e.symm
      rw [e1] at e2
      simp only [Option.some.injEq, Obj.cells.injEq] at e2
      exact absurd e2.2.1 (by decide)
  refine ⟨fun k hk => hk.2, vs ++ [u], by rw [List.length_append]; exact h4, fun k hk => ⟨?_, hlt k hk⟩, ?_⟩
  · rcases hv with e | e
    · exact (h2 k (by rw [← e]; exact hk)).1
    · rw [e] at hk; simp only [Option.some.injEq] at hk; omega
  · refine Grps.snoc ⟨h3.1, fun i x hx => ?_⟩ ?_
    · obtain ⟨y, hy, ho, hk⟩ := h3.2 i x hx
      have ho3 := ownsRow_same (w' := w3) ho fun g hg => hb.block g (ho.lt g hg).2
      exact ⟨y, hy, World.ownsRow.kept ho3 hg (hno _ _ _ ho3), fun k hk2 => by have := hk k hk2; omega⟩
    · refine ⟨World.ownsRow.mono (World.ownsRow.kept hu hg (hno _ _ _ hu)) (Nat.zero_le _), fun k hk => ?_⟩
      have := World.ownsRow.lt hu k hk
      omega

/-- what is read of sectors: an error, or groups, whose texts are new -/
def GroupsR (r : Option (List Wal.Grp)) (w : World) (e : Ending) (w' : World) : Prop :=
  Below w.heap.size w w' ∧ ((r = none ∧ e = .returned (.tuple #[.slice none 0 0, .int .i64 50])) ∨
    ∃ L v, r = some L ∧ e = .returned (.tuple #[v, .int .i64 0]) ∧ GRows (fun k => w.heap.size ≤ k ∧ k < w'.heap.size) v L w')

theorem ba_empty (r : ByteArray) (h : r.data.toList ≠ []) : r.toList.isEmpty = false := by
  rw [Lib.toList_data]; simpa using h

def strSize : Value → Nat
  | .string r => r.size
  | _ => 0
set_option maxHeartbeats 1000000 in
theorem readGroups_any (s : ByteArray) (u : Nat) (hs : s.size = 64 * u) (hu : u ≤ 16384) (w : World) :
    Calls Tryz.prog 77 #[.string s] w (GroupsR (Wal.readGroups (64 * u) s.data.toList) w) := by
  obtain ⟨i0, hi, hz0, hz1, hz2⟩ := info_parts grp_info
  go_enter Tryz.func77, Tryz.ntmps77
  go_wp2
  go_loopw [0, 4] (fun s0 s4 wr => ∃ (r : ByteArray) (acc : List Wal.Grp), s0 = .string r ∧ r.size % 64 = 0 ∧ r.size + 64 * acc.length ≤ 64 * u ∧ Below w.heap.size w wr ∧ GRows (fun k => w.heap.size ≤ k ∧ k < wr.heap.size) s4 acc wr ∧
    Wal.readGroups (64 * u) s.data.toList = (Wal.readGroups (64 * u - acc.length) r.data.toList).map (acc ++ ·)) (fun s0 _ _ => strSize s0)
  case atStart =>
    refine ⟨s, [], rfl, by omega, by simp [hs], Below.refl _ _, GRows.nil _ _ (fun k hk => hk.2), ?_⟩
    simp
  case round =>
    obtain ⟨r, acc, rfl, hm, hle, hb, hat, hrel⟩ := hrel
    by_cases hr : r.data.toList = []
    · have hE : Wal.readGroups (64 * u) s.data.toList = some acc := by
        rw [hrel, hr]
        cases hq : 64 * u - acc.length <;> simp [Wal.readGroups]
      have hre : r = ⟨#[]⟩ := by rw [← ba_of r, hr]; rfl
      subst hre
      have HE := Lib.hid hE; clear hE
      have Hat := Lib.hid hat; clear hat
      clear hrel hr hm hle
      go_wp2_with fail
      go_ret2
      exact ⟨hb, .inr ⟨acc, _, HE.out, rfl, Hat.out⟩⟩
    · have hne := ba_empty r hr
      have hpos : 0 < r.size := by rw [← ba_len]; exact List.length_pos_iff.2 hr
      have hG := fun x => readGroup_any r (by omega) (by omega) x
      have hstep : Wal.readGroups (64 * u - acc.length) r.data.toList = match Wal.readGroup r.data.toList with
        | none => none
        | some (l, n) => (Wal.readGroups (64 * u - (acc.length + 1)) (r.data.toList.drop n)).map (l :: ·) := by
        rw [show 64 * u - acc.length = (64 * u - (acc.length + 1)) + 1 by omega, Wal.readGroups, if_neg hr]
        cases Wal.readGroup r.data.toList <;> rfl
      rw [hstep] at hrel
      have Hrel := Lib.hid hrel; clear hrel
      have HG := Lib.hid hG; clear hG
      have Hat := Lib.hid hat; clear hat
      have Hr := Lib.hid hr; clear hr
      clear hstep
      go_wp2_with fail
      refine (HG.out _).mono ?_; rintro e w2 ⟨h2, ⟨hn, rfl⟩ | ⟨l, n, u8, hn, rfl, ho⟩⟩
      · have Hn := Lib.hid hn; clear hn
        go_wp2_with fail
        go_ret2
        refine ⟨hb.trans (h2.mono hb.size), .inl ⟨?_, rfl⟩⟩
        have := Hrel.out
        rw [Hn.out] at this
        exact this
      · have Hn := Lib.hid hn; clear hn
        have Ho := Lib.hid ho; clear ho
        obtain ⟨hf, hnl, hsp, hn2⟩ := Wal.readGroup_is (by rw [ba_len]; omega) Hn.out
        rw [Wal.grp_length] at hnl
        have hsec := Wal.secs_pos (Oct.row l).1
        rw [ba_len] at hn2
        have hn3 : (n : Int) ≤ (r.size : Int) := by omega
        have hn4 : (0 : Int) ≤ (n : Int) := by omega
        have Hsp := Lib.hid hsp; clear hsp
        have hnm : n % 64 = 0 := by omega
        have hn64 : 64 ≤ n := by omega
        clear hnl hsec hf
        obtain ⟨hat1, vs, hat2, hat3, hat4⟩ := Hat.out
        have Hat2 := Lib.hid hat2; clear hat2
        have Hat3 := Lib.hid hat3; clear hat3
        have Hat4 := Lib.hid hat4; clear hat4
        have hown3 : w2.ownsRow 0 29 1 u4 acc.length vs := ownsRow_same Hat2.out fun g hg => h2.block g (Hat2.out.lt g hg).2
        clear hat1
        obtain ⟨a8, cap8, hv8, _⟩ := Ho.out.strs
        have Hv8 := Lib.hid hv8
        subst hv8
        go_wp2_with (at_builtin; go_loud (refine wpList_append_own_at _ rfl _ _ 129 rfl 0 29 i0 (.slice none 0 0) 1 24 Tryz.underlying129 hi hz0 hz1 hz2 rfl (by decide) _ _ _ rfl (hown3.alloc _) ⟨w2.heap.size, 0, none⟩ 1 1 [.slice a8 (bas l).length cap8] rfl rfl ?c1 ?c2 ?c3 ?c4 ?c5 ?_))
        case c1 => exact cell_one_new _ _ _
        case c2 => intro z hz; simp at hz; subst hz; rfl
        case c3 => unfold maxLen; omega
        case c4 => omega
        case c5 => omega
        intro v' w4 hown4 hgrow _ hvb
        have hs2 := h2.size
        have hsA : (w2.alloc (.cells #[.slice a8 (bas l).length cap8] 29)).heap.size = w2.heap.size + 1 := by simp
        have hs4 := hgrow.size
        rw [hsA] at hs4
        have hbA : Below w2.heap.size w2 (w2.alloc (.cells #[.slice a8 (bas l).length cap8] 29)) := (Below.refl _ w2).alloc (Nat.le_refl _) _
        have hb3 : Below wr.heap.size wr (w2.alloc (.cells #[.slice a8 (bas l).length cap8] 29)) := h2.trans (hbA.mono hs2)
        have hrow4 : GRows (fun k => w.heap.size ≤ k ∧ k < w4.heap.size) v' (acc ++ [l]) w4 :=
          GRows.grown (u := .slice a8 (bas l).length cap8) Hat2.out Hat3.out Hat4.out hb3 ((Own.low Ho.out hb.size).new hbA) hown4 hgrow (by rw [hsA]; exact hvb) (fun k hk => (World.ownsRow.lt hown4 k hk).2) hb.size
        have hb4 : Below w.heap.size w w4 := (hb.trans (hb3.mono hb.size)).grown hgrow (by have := hb.size; omega) (fun b' h => (Hat3.out b' h).1)
        have Hrow4 := Lib.hid hrow4; clear hrow4
        have Hb4 := Lib.hid hb4; clear hb4
        clear hown4 hgrow hvb hb3 hbA hown3 hsA hs4
        go_wp2_with fail
        go_roundw
        case rel =>
          refine ⟨r.extract n r.size, acc ++ [l], rfl, ?_, ?_, Hb4.out, Hrow4.out, ?_⟩
          · rw [ByteArray.size_extract]; omega
          · rw [ByteArray.size_extract, List.length_append]; simp; omega
          · have h := Hrel.out
            rw [Hn.out] at h
            simp only [Option.map_map] at h
            rw [h, show (r.extract n r.size).data.toList = r.data.toList.drop n from by
              rw [ByteArray.data_extract, Array.toList_extract, List.extract_eq_take_drop, List.take_of_length_le (by rw [List.length_drop, ba_len]; exact Nat.le_refl _)], List.length_append]
            congr 1
            funext x
            simp
        case measure => simp only [strSize, ByteArray.size_extract]; omega
end Go.Proofs.YtalklpnekbfehaaGreat
