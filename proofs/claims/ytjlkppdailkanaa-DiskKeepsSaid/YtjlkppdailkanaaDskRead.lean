/-
  Read: sectors, one behind the other. Builder.Write of a slice that the call made.
-/
import Derived.Test.YtjlkppdailkanaaDskGet
import Derived.Test.YtjlkppdailkanaaShelf
import Derived.Shelf.Strings.Builder1
import Derived.Shelf.Strings.Builder2
import Derived.Deep.AppendLies
import Derived.OwnWalk
set_option linter.unusedVariables false
namespace Go.Proofs.Ytjlkppdailkanaa
namespace Dsk
/-- so many sectors, from sector k on -/
def rd (d : St) (k n : Nat) : List UInt8 := (List.range n).flatMap fun j => now d (k + j)
theorem rd_succ (d : St) (k n : Nat) : rd d k (n + 1) = rd d k n ++ now d (k + n) := by simp [rd, List.range_succ]
theorem rd_length {d : St} (h : d.Ok) (k n : Nat) : (rd d k n).length = 64 * n := by
  induction n with
  | zero => rfl
  | succ n ih => rw [rd_succ, List.length_append, ih, now_length h]; omega
end Dsk
open Go.RowKit

theorem check_used (b : Nat) (w : World) (h0 : w.cell? ⟨b, 0, none⟩ = some (.pointer (some ⟨b, 0, none⟩))) :
    Calls Try.prog 46 #[.pointer (some ⟨b, 0, none⟩)] w fun e w' => e = .returned (.tuple #[]) ∧ w = w' := by
  obtain ⟨j, hj, _⟩ := Option.map_eq_some_iff.1 (show (Try.prog.info? 76).map (·.size) = some 2 by kernel_rfl)
  have hq := Lib.run_neq_ptr_same w ⟨b, 0, none⟩ Try.underlying74 hj
  have Hq := Lib.hid hq; clear hq
  clear hj
  go_enter Try.func46, Try.ntmps46
  go_wp2
  rw [Hq.out]
  go_wp2
  go_end0
  exact ⟨rfl, rfl⟩

theorem byte_info : (Try.prog.info? 5).map (fun i => (i.zero, i.size, i.bytes)) = some (some (.int .u8 0), 1, 1) := by kernel_rfl

set_option maxHeartbeats 1000000 in
theorem bwrite_any (B b : Nat) (bs : List Value) (w : World) (h : Lib.BuilderAt 76 5 B b (.pointer (some ⟨b, 0, none⟩)) bs w) (g : Nat) (x : List UInt8) (T : TypeId) (hg : w.heap[g]? = some (.cells (u8s x) T (0, 0))) (hx : x.length = 64) (hlen : bs.length ≤ 1099511627776) (hBw : B ≤ w.heap.size) :
    Calls Try.prog 40 #[.pointer (some ⟨b, 0, none⟩), .slice (some ⟨g, 0, none⟩) 64 64] w fun e w' => e = .returned (.tuple #[.int .i64 64, .nilIface]) ∧ Lib.BuilderAt 76 5 B b (.pointer (some ⟨b, 0, none⟩)) (bs ++ (u8s x).toList) w' ∧ Below B w w' := by
  obtain ⟨hBb, v, hrow, hown, hne⟩ := h
  obtain ⟨i0, hi, hi0, hi1, hi2⟩ := info_parts byte_info
  have c0 : w.cell? ⟨b, 0, none⟩ = some (.pointer (some ⟨b, 0, none⟩)) := by rw [cell_of_row w b 0 _ _ _ hrow]; rfl
  have c1 : w.cell? ⟨b, 1, none⟩ = some v := by rw [cell_of_row w b 1 _ _ _ hrow]; rfl
  have f1 := row_free hrow 1
  have hck := check_used b w c0
  have hnews := World.news_of_block hg
  have hone : ∀ u ∈ (u8s x).toList, u.oneCell' = true := fun u hu => by
    have := u8s_one x
    rw [Array.all_eq_true_iff_forall_mem] at this
    exact this u (by simpa using hu)
  have hxl : (u8s x).toList.length = 64 * 1 := by simp [hx]
  have hbl := row_lt hrow
  clear c0
  have Hck := Lib.hid hck; clear hck
  have Hown := Lib.hid hown; clear hown
  have Hrow := Lib.hid hrow; clear hrow
  have Hnews := Lib.hid hnews; clear hnews
  have Hone := Lib.hid hone; clear hone
  have Hxl := Lib.hid hxl; clear hxl
  have Hi := Lib.hid hi; clear hi
  have Hi0 := Lib.hid hi0; clear hi0
  have Hi1 := Lib.hid hi1; clear hi1
  have Hi2 := Lib.hid hi2; clear hi2
  have Hne := Lib.hid hne; clear hne
  clear hg hx
  go_enter Try.func40, Try.ntmps40
  go_wp2_with fail
  refine Hck.out.mono ?_; rintro e w' ⟨rfl, rfl⟩
  go_wp2_with (at_builtin; refine wpList_append_lies _ rfl (.tmp 12) (.tmp 13) 70 rfl B 5 i0 _ 1 1 Try.underlying70 Hi.out Hi0.out Hi1.out Hi2.out rfl (by decide) v bs.length bs rfl Hown.out ⟨g, 0, none⟩ 64 64 (u8s x).toList rfl Hxl.out Hnews.out Hone.out (by decide) (by unfold maxLen; omega) (by omega) hBw w.heap.size rfl ?_)
  intro g2 cap w2 hown2 hg2 hat hlt
  have r2 : w2.heap[b]? = some (.cells #[.pointer (some ⟨b, 0, none⟩), v] 76 (0, 0)) := by rw [hg2.block b hbl (fun e => Hne.out e.symm)]; exact Hrow.out
  have c2 : w2.cell? ⟨b, 1, none⟩ = some v := by rw [cell_of_row w2 b 1 _ _ _ r2]; rfl
  have f2 := row_free r2 1
  have hgb : g2 ≠ b := fun e => by
    rcases hat with h | h
    · exact Hne.out (by rw [h, e])
    · omega
  have hB2 : Below B w w2 := (Below.refl B w).grown hg2 hBw (fun k hk => (World.ownsRow.lt Hown.out k hk).1)
  have hfin : Lib.BuilderAt 76 5 B b (.pointer (some ⟨b, 0, none⟩)) (bs ++ (u8s x).toList) (w2.setCell ⟨b, 1, none⟩ (.slice (some ⟨g2, 0, none⟩) (bs.length + 64) cap)) ∧ Below B w (w2.setCell ⟨b, 1, none⟩ (.slice (some ⟨g2, 0, none⟩) (bs.length + 64) cap)) := by
    have hl : (bs ++ (u8s x).toList).length = bs.length + 64 := by rw [List.length_append, Hxl.out]
    refine ⟨⟨hBb, .slice (some ⟨g2, 0, none⟩) (bs.length + 64) cap, ?_, ?_, ?_⟩, hB2.setCell (p := ⟨b, 1, none⟩) hBb _⟩
    · rw [heap_setCell_same w2 b 1 _ _ _ r2]; rfl
    · rw [hl]
      exact ownsRow_same hown2 (fun j hj => by
        have : j = g2 := by simpa [Value.ownBlock] using hj.symm
        subst this
        exact heap_setCell_other _ _ _ _ hgb)
    · simp [Value.ownBlock, hgb]
  have Hfin := Lib.hid hfin; clear hfin
  clear hg2 hat hlt hown2 r2 hgb hB2 c1 f1
  go_wp2_with fail
  go_ret2
  exact ⟨rfl, Hfin.out⟩


theorem builder_new {B b : Nat} {q : Value} {bs : List Value} {w w' : World} (h : Lib.BuilderAt 76 5 B b q bs w) (hb : Below w.heap.size w w') : Lib.BuilderAt 76 5 B b q bs w' := by
  obtain ⟨h1, v, h2, h3, h4⟩ := h
  exact ⟨h1, v, row_below h2 hb (row_lt h2), ownsRow_same h3 (fun g hg => hb.block g (World.ownsRow.lt h3 g hg).2), h4⟩
theorem u8s_app (a b : List UInt8) : (u8s a).toList ++ (u8s b).toList = (u8s (a ++ b)).toList := by simp [u8s]

section
variable {S : Nat → Prop} {p : Nat} {d : Dsk.St} {w : World}
theorem read_down (h : DiskAt S p d w) (hd : d.down = true) (at_ n : Int) : Calls Try.prog 25 #[.pointer (some ⟨p, 0, none⟩), .int .i64 at_, .int .i64 n] w fun e w' => e = .returned (.tuple #[.string ⟨#[]⟩, .int .i64 40]) ∧ w = w' := by
  obtain ⟨bF, bM, v, nf, DF, h⟩ := h
  have c5 := h.c5
  rw [hd] at c5
  clear h hd
  go_enter Try.func25, Try.ntmps25
  go_wp2
  go_ret2
  exact ⟨rfl, rfl⟩
theorem read_bad (h : DiskAt S p d w) (hd : d.down = false) (at_ n : Int) (ha : -9223372036854775808 ≤ at_ ∧ at_ ≤ 9223372036854775807) (hn : -9223372036854775808 ≤ n ∧ n ≤ 9223372036854775807) (hb : ¬ (0 ≤ at_ ∧ 0 ≤ n ∧ at_ + n ≤ (d.n : Int))) :
    Calls Try.prog 25 #[.pointer (some ⟨p, 0, none⟩), .int .i64 at_, .int .i64 n] w fun e w' => e = .returned (.tuple #[.string ⟨#[]⟩, .int .i64 2]) ∧ w = w' := by
  have hhas := has_any h at_ n ha hn
  rw [decide_eq_false hb] at hhas
  obtain ⟨bF, bM, v, nf, DF, h⟩ := h
  have c5 := h.c5
  rw [hd] at c5
  have Hhas := Lib.hid hhas; clear hhas
  clear h hd hb ha hn
  go_enter Try.func25, Try.ntmps25
  go_wp2_with fail
  refine Hhas.out.mono ?_; rintro e w' ⟨rfl, rfl⟩
  go_wp2_with fail
  go_ret2
  exact ⟨rfl, rfl⟩

set_option maxRecDepth 20000 in
set_option maxHeartbeats 1000000 in
theorem read_good (h : DiskAt S p d w) (hd : d.down = false) (k n : Nat) (hfit : k + n ≤ d.n) :
    Calls Try.prog 25 #[.pointer (some ⟨p, 0, none⟩), .int .i64 (k : Int), .int .i64 (n : Int)] w fun e w' => e = .returned (.tuple #[.string ⟨(Dsk.rd d k n).toArray⟩, .int .i64 0]) ∧ Below w.heap.size w w' := by
  have ho := h.ok
  have hhi := ho.hi
  have hhas := has_any h (k : Int) (n : Int) ⟨by omega, by omega⟩ ⟨by omega, by omega⟩
  rw [show decide (0 ≤ (k : Int) ∧ 0 ≤ (n : Int) ∧ (k : Int) + (n : Int) ≤ (d.n : Int)) = true by rw [decide_eq_true_iff]; omega] at hhas
  have hin := h
  obtain ⟨bF, bM, v, nf, DF, h⟩ := h
  have c5 := h.c5
  rw [hd] at c5
  have hnb : n ≤ 16384 := by omega
  obtain ⟨w1, hw1⟩ : ∃ w1, w1 = w.alloc (.cells #[.pointer none, .slice none 0 0] 76) := ⟨_, rfl⟩
  have hb1 : Below w.heap.size w w1 := by rw [hw1]; exact (Below.refl _ w).alloc (Nat.le_refl _) _
  have hgr := Try.Builder_Grow_fresh w.heap.size w.heap.size (n * 64) w1 (Nat.le_refl _) (by rw [hw1]; exact heap_alloc_new w _) hb1.size (by omega)
  rw [show ((n * 64 : Nat) : Int) = (n : Int) * 64 by omega, hw1] at hgr
  rw [hw1] at hb1
  have Hgr := Lib.hid hgr; clear hgr
  have Hb1 := Lib.hid hb1; clear hb1
  have Hin := Lib.hid hin; clear hin
  have Hhas := Lib.hid hhas; clear hhas
  have Ho := Lib.hid ho; clear ho
  clear h hd hw1 w1
  go_enter Try.func25, Try.ntmps25
  go_wp2_with fail
  refine Hhas.out.mono ?_; rintro e w' ⟨rfl, rfl⟩
  go_wp2_with fail
  refine Hgr.out.mono ?_; rintro e w2 ⟨rfl, hbu, hb2⟩
  have hb3 : Below w.heap.size w w2 := Hb1.out.trans hb2
  have Hbu := Lib.hid hbu; clear hbu
  have Hb3 := Lib.hid hb3; clear hb3
  clear hb2 Hb1
  go_wp2_with fail
  go_loopw [29] (fun c wr => ∃ i, i ≤ n ∧ c = .int .i64 (i : Int) ∧ Lib.BuilderAt 76 5 w.heap.size w.heap.size (.pointer (some ⟨w.heap.size, 0, none⟩)) (u8s (Dsk.rd d k i)).toList wr ∧ Below w.heap.size w wr) (fun c _ => n - (intOf c).toNat)
  case atStart => exact ⟨0, by omega, rfl, Hbu.out, Hb3.out⟩
  case round =>
    clear Hbu Hb3 c5
    obtain ⟨i, hi, rfl, hbu, hbl⟩ := hrel
    have hat := Hin.out.new hbl
    have Hbu := Lib.hid hbu; clear hbu
    have Hbl := Lib.hid hbl; clear hbl
    have Hat := Lib.hid hat; clear hat
    by_cases hlt : i < n
    · have hget := get_any Hat.out (k + i) (by omega)
      rw [Int.natCast_add] at hget
      have hnl := Dsk.now_length Ho.out (k + i)
      have hz := zero_sec
      have hzs := zer_size
      have hi64 : (Try.prog.info? 63).map (·.size) = some 64 := by kernel_rfl
      have hns : (u8s (Dsk.now d (k + i))).size = 64 := by rw [u8s_size, hnl]
      have hone := u8s_one (Dsk.now d (k + i))
      have hrd := Dsk.rd_succ d k i
      generalize hx : Dsk.now d (k + i) = x at *
      clear hx
      generalize hZ : u8s Dsk.zer = Z at *
      clear hZ
      have hsz : (Try.prog.info? 63).map (·.size) = some (u8s x).size := by rw [hns]; exact hi64
      have hss : Z.size = (u8s x).size := by rw [hzs, hns]
      have Hget := Lib.hid hget; clear hget
      have Hnl := Lib.hid hnl; clear hnl
      have Hsz := Lib.hid hsz; clear hsz
      have Hss := Lib.hid hss; clear hss
      have Hone := Lib.hid hone; clear hone
      have Hrd := Lib.hid hrd; clear hrd
      clear hzs hi64 hns
      go_wp2_with fail
      refine Hget.out.mono ?_; rintro e w3 ⟨rfl, hb3⟩
      have hb4 : Below w.heap.size w w3 := Hbl.out.trans (hb3.mono Hbl.out.size)
      have hbu3 : Lib.BuilderAt 76 5 w.heap.size w.heap.size (.pointer (some ⟨w.heap.size, 0, none⟩)) (u8s (Dsk.rd d k i)).toList w3 := builder_new Hbu.out hb3
      have Hb4 := Lib.hid hb4; clear hb4
      have Hbu3 := Lib.hid hbu3; clear hbu3
      clear hb3
      go_wp2_with (refine wpList_store_whole rfl 63 (.tmp 10) (.tmp 36) rfl w3.heap.size (u8s x) rfl rfl _ Z (heap_alloc_new _ _) Hsz.out Hss.out Hone.out ?_; rw [World.setRow_alloc_new])
      have hbu4 := builder_new Hbu3.out ((Below.refl w3.heap.size w3).alloc (Nat.le_refl _) (.cells (u8s x) 63))
      have hb5 : Below w.heap.size w (w3.alloc (.cells (u8s x) 63)) := Hb4.out.alloc Hb4.out.size _
      have hrl := Dsk.rd_length Ho.out k i
      have hwr := bwrite_any w.heap.size w.heap.size (u8s (Dsk.rd d k i)).toList _ hbu4 w3.heap.size x 63 (heap_alloc_new w3 _) Hnl.out (by simp [hrl]; omega) hb5.size
      have Hwr := Lib.hid hwr; clear hwr
      have Hb5 := Lib.hid hb5; clear hb5
      clear hbu4 hrl
      refine Hwr.out.mono ?_; rintro e w4 ⟨rfl, hbu5, hb6⟩
      have hb7 := Hb5.out.trans hb6
      rw [u8s_app, ← Hrd.out] at hbu5
      have Hbu5 := Lib.hid hbu5; clear hbu5
      have Hb7 := Lib.hid hb7; clear hb7
      clear hb6
      go_wp2_with fail
      go_roundw
      case rel => exact ⟨i + 1, by omega, by go_num, Hbu5.out, Hb7.out⟩
      case measure => simp [intOf]; omega
    · obtain rfl : i = n := by omega
      have hst := Try.Builder_String_any w.heap.size w.heap.size (Dsk.rd d k i) wr (.inr Hbu.out) Hbl.out.size
      have Hst := Lib.hid hst; clear hst
      go_wp2_with fail
      refine Hst.out.mono ?_; rintro e w4 ⟨rfl, hb4⟩
      go_wp2_with fail
      go_ret2
      exact ⟨rfl, Hbl.out.trans hb4⟩
end
end Go.Proofs.Ytjlkppdailkanaa
