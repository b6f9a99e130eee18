/-
  What the method Sum and the function Sum return: the digest.
-/
import Derived.Test.YtdlcdbpigcmnbaaDoorShaIter
set_option linter.unusedVariables false
namespace Go.Proofs.YtdlcdbpigcmnbaaDoor
open Go.RowKit

def zcells : Array Value := hcells ⟨0, 0, 0, 0, 0, 0, 0, 0⟩ (Sha.zer 64) 0
theorem zcells_size : zcells.size = 73 := by kernel_rfl

/-- a hash to which l has been written -/
def HashAt (b : Nat) (l : List UInt8) (w : World) : Prop := b ≠ 0 ∧ ∃ rest, w.heap[b]? = some (.cells (hcells (Sha.full l) rest l.length) 57 (0, 0)) ∧ Sha.Left rest l

set_option maxRecDepth 100000 in
set_option maxHeartbeats 1000000 in
theorem hsum_any (b : Nat) (l : List UInt8) (w : World) (hK : Kw w) (hb : HashAt b l w) (hlen : l.length ≤ 9223372036854770000) :
    Calls Tryd.prog 16 #[.pointer (some ⟨b, 0, none⟩)] w fun e w' => e = .returned (.string ⟨(Sha.digest l).toArray⟩) ∧ Below w.heap.size w w' := by
  obtain ⟨hb0, rest, hrow, hleft⟩ := hb
  have hz : ∀ w, (zeroValue 57).run Tryd.prog w = .ok (.agg zcells) w := fun _ => by kernel_rfl
  have hzs := zcells_size
  have hcs := hcells_size (Sha.full l) rest l.length hleft.len
  have hlast := hcells_last (Sha.full l) rest l.length hleft.len
  have hbl := row_lt hrow
  generalize zcells = Z at *
  have hi57 : (Tryd.prog.info? 57).map (·.size) = some 73 := by kernel_rfl
  have c72 : w.cell? ⟨b, 72, none⟩ = some (.int .u64 (l.length : Int)) := by rw [cell_of_row w b _ _ _ _ hrow, hlast]
  have hone : (hcells (Sha.full l) rest l.length).all (·.oneCell') = true := by
    rw [Array.all_eq_true_iff_forall_mem]
    intro v hv
    simp only [hcells, Array.mem_append] at hv
    rcases hv with hv | hv | hv
    · exact Array.all_eq_true_iff_forall_mem.1 (u32s_one _) v hv
    · exact Array.all_eq_true_iff_forall_mem.1 (u8s_one _) v hv
    · simp at hv; rw [hv]; rfl
  obtain ⟨cs, hcsd⟩ : ∃ cs, cs = hcells (Sha.full l) rest l.length := ⟨_, rfl⟩
  rw [← hcsd] at hrow hcs hone
  have hsz : (Tryd.prog.info? 57).map (·.size) = some cs.size := by rw [hcs]; exact hi57
  have hzz : Z.size = cs.size := by rw [hcs, hzs]
  have hpc := fun u => padding_any l.length (by omega) u
  have hpl := Sha.pad_length l.length
  have hpb := Sha.padLen_bd l.length
  have Hrow := Lib.hid hrow; clear hrow
  have Hsz := Lib.hid hsz; clear hsz
  have Hzz := Lib.hid hzz; clear hzz
  have Hcsd := Lib.hid hcsd; clear hcsd
  have Hcs := Lib.hid hcs; clear hcs
  have Hone := Lib.hid hone; clear hone
  have Hpc := Lib.hid hpc; clear hpc
  have Hpl := Lib.hid hpl; clear hpl
  have Hlast := Lib.hid hlast; clear hlast
  have HK := Lib.hid hK; clear hK
  clear hi57 hzs
  go_enter Tryd.func16, Tryd.ntmps16
  go_wp2_with (first | (with_reducible refine wpList_load_row rfl 57 (.tmp 7) rfl b rfl _ cs _ _ Hrow.out Tryd.underlying57 rfl Hsz.out ?_) | (with_reducible refine wpList_store_whole rfl 57 (.tmp 3) (.tmp 8) rfl w.heap.size cs rfl rfl _ Z (heap_alloc_new _ _) Hsz.out Hzz.out Hone.out ?_; rw [World.setRow_alloc_new]) | (go_at_call 26; refine (Hpc.out _).mono ?_; rintro e w2 ⟨rfl, h2⟩))
  have h2' : Below (w.heap.size + 1) (w.alloc (.cells cs 57)) w2 := by simpa using h2
  have hbw2 : Below w.heap.size w w2 := ((Below.refl _ w).alloc (Nat.le_refl _) _).trans (h2'.mono (by omega))
  have hrow2 : w2.heap[w.heap.size]? = some (.cells (hcells (Sha.full l) rest l.length) 57 (0, 0)) := by
    rw [← Hcsd.out]; exact row_below (heap_alloc_new w _) h2' (by omega)
  have hK2 := HK.out.below hbw2
  have hwr := write_any w.heap.size l rest ⟨(Sha.pad l.length).toArray⟩ w2 hK2 (by omega) hrow2 hleft (by rw [Lib.size_eq]; simp only []; rw [Hpl.out]; omega)
  have Hwr := Lib.hid hwr; clear hwr
  have Hbw2 := Lib.hid hbw2; clear hbw2
  clear h2 h2' hrow2 hK2 c72
  refine Hwr.out.mono ?_
  rintro e w3 ⟨rfl, hg3, rest3, hrow3, hleft3⟩
  have htx := text_any w.heap.size 57 (0, 0) _ (Sha.full_ok (l ++ Sha.pad l.length)) _ w3 hrow3
  have hd : (Sha.full (l ++ Sha.pad l.length)).text = Sha.digest l := rfl
  rw [hd] at htx
  have hb3 := below_grown Hbw2.out hg3 Hbw2.out.size (Nat.le_refl _)
  have Htx := Lib.hid htx; clear htx
  have Hb3 := Lib.hid hb3; clear hb3
  clear hrow3 hleft3 hd hg3
  go_wp2_with fail
  refine Htx.out.mono ?_
  rintro e w4 ⟨rfl, h4⟩
  go_wp2_with fail
  go_ret
  exact ⟨rfl, Hb3.out.trans (h4.mono Hb3.out.size)⟩

theorem hsum_nil (w : World) : Calls Tryd.prog 16 #[.pointer none] w fun e w' => e = .returned (.string ⟨#[]⟩) ∧ w = w' := by
  go_enter Tryd.func16, Tryd.ntmps16
  go_wp2
  go_ret
  exact ⟨rfl, rfl⟩

theorem write_nil (s : ByteArray) (w : World) : Calls Tryd.prog 17 #[.pointer none, .string s] w fun e w' => e = .returned (.int .i64 1) ∧ Below w.heap.size w w' := by
  go_enter Tryd.func17, Tryd.ntmps17
  go_wp2
  go_ret
  exact ⟨rfl, (Below.refl _ w).alloc (Nat.le_refl _) _⟩

theorem write_at (b : Nat) (l : List UInt8) (s : ByteArray) (w : World) (hK : Kw w) (hb : HashAt b l w) (hlen : l.length + s.size ≤ 9223372036854775807) :
    Calls Tryd.prog 17 #[.pointer (some ⟨b, 0, none⟩), .string s] w fun e w' => e = .returned (.int .i64 0) ∧ w.grownBy w' (some b) ∧ HashAt b (l ++ s.data.toList) w' := by
  obtain ⟨hb0, rest, hrow, hleft⟩ := hb
  exact (write_any b l rest s w hK hb0 hrow hleft hlen).mono fun e w' ⟨he, hg, r, h1, h2⟩ => ⟨he, hg, hb0, r, h1, h2⟩

theorem HashAt.start (w : World) (h0 : w.heap.size ≠ 0) : HashAt w.heap.size [] (w.alloc (.cells initCells 57)) :=
  ⟨h0, Sha.zer 64, heap_alloc_new w _, Sha.left_start⟩
theorem HashAt.lt {b : Nat} {l : List UInt8} {w : World} (h : HashAt b l w) : b < w.heap.size := by obtain ⟨_, r, h1, _⟩ := h; exact row_lt h1
theorem HashAt.below {b B : Nat} {l : List UInt8} {w w' : World} (h : HashAt b l w) (hb : Below B w w') (hB : b < B) : HashAt b l w' := by
  obtain ⟨h0, r, h1, h2⟩ := h; exact ⟨h0, r, row_below h1 hb hB, h2⟩
theorem HashAt.other {b c : Nat} {l : List UInt8} {w w' : World} (h : HashAt b l w) (hg : w.grownBy w' (some c)) (hne : b ≠ c) : HashAt b l w' := by
  obtain ⟨h0, r, h1, h2⟩ := h; exact ⟨h0, r, grown_row h1 hg hne, h2⟩
theorem Kw.pos {w : World} (h : Kw w) : w.heap.size ≠ 0 := by
  have := block_lt_of_cell (h 0 (by decide))
  simp at this; omega
theorem Kw.grown {w w' : World} {b : Nat} (h : Kw w) (hg : w.grownBy w' (some b)) (hb0 : b ≠ 0) : Kw w' := fun j hj => by
  have hlt := block_lt_of_cell (h j hj)
  rw [World.cell?_of_block (w := w) (hg.block 0 hlt (fun e => hb0 (by cases e; rfl)))]
  exact h j hj

set_option maxHeartbeats 1000000 in
theorem sum_any (s : ByteArray) (w : World) (hK : Kw w) (hs : s.size ≤ 9223372036854770000) :
    Calls Tryd.prog 8 #[.string s] w fun e w' => e = .returned (.string ⟨(Sha.digest s.data.toList).toArray⟩) ∧ Below w.heap.size w w' := by
  have h1 := HashAt.start w hK.pos
  have hb1 : Below w.heap.size w (w.alloc (.cells initCells 57)) := (Below.refl _ w).alloc (Nat.le_refl _) _
  have hK1 := hK.below hb1
  have hw := write_at w.heap.size [] s _ hK1 h1 (by simp; omega)
  have hn := new_any w
  have hp := hK.pos
  generalize w.alloc (.cells initCells 57) = w1 at *
  rw [List.nil_append] at hw
  have Hw := Lib.hid hw; clear hw
  have Hn := Lib.hid hn; clear hn
  have HK1 := Lib.hid hK1; clear hK1
  have Hb1 := Lib.hid hb1; clear hb1
  clear h1
  go_enter Tryd.func8, Tryd.ntmps8
  go_wp2_with fail
  refine Hn.out.mono ?_; rintro e w' ⟨rfl, rfl⟩
  go_wp2_with fail
  refine Hw.out.mono ?_; rintro e w2 ⟨rfl, hg2, hat2⟩
  have hK2 := HK1.out.grown hg2 hp
  have hb2 := below_grown Hb1.out hg2 Hb1.out.size (Nat.le_refl _)
  have hd := hsum_any w.heap.size s.data.toList w2 hK2 hat2 (by rw [ba_len]; exact hs)
  have Hd := Lib.hid hd; clear hd
  have Hb2 := Lib.hid hb2; clear hb2
  clear hg2 hat2 hK2
  go_wp2_with fail
  refine Hd.out.mono ?_; rintro e w3 ⟨rfl, h3⟩
  go_wp2_with fail
  go_ret
  exact ⟨rfl, Hb2.out.trans (h3.mono Hb2.out.size)⟩
end Go.Proofs.YtdlcdbpigcmnbaaDoor
