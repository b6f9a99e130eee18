/-
  What Append does.
-/
import Derived.Test.YtjmpagbjkehebaaWalReset
set_option linter.unusedVariables false
set_option maxRecDepth 100000
namespace Go.Proofs.Ytjmpagbjkehebaa
open Go.RowKit

namespace Wal
theorem slim_of_row {l : Grp} (h : (Oct.row l).2 = 0) : Slim l := by
  unfold Oct.row at h
  split at h
  · rename_i h1; exact h1
  · exact absurd h (by decide)
theorem row_short {l : Grp} : (Oct.row l).1.length ≤ 8589934592 := by
  unfold Oct.row
  split
  · rename_i h1
    have := Oct.body_length l h1.2
    rw [List.length_append, Oct.le_length]
    omega
  · simp
end Wal

section
variable {w : World} {S0 R0 : Nat → Prop} {p q : Nat} {d : Dsk.St} {s : Wal.St}
theorem append_nil (a : Option Addr) (len cap : Nat) (w : World) : Calls Try.prog 9 #[.pointer none, .slice a len cap] w fun e w' => e = .returned (.int .i64 1) ∧ Below w.heap.size w w' := by
  go_enter Try.func9, Try.ntmps9
  go_wp2
  go_ret
  exact ⟨rfl, ((Below.refl _ w).alloc (Nat.le_refl _) _).alloc (by simp) _⟩

/-- what an append leaves: its answer, and both, apart from what was there -/
def AppR (w : World) (S0 R0 : Nat → Prop) (p q : Nat) (x : Dsk.St × Wal.St × Int) (e : Ending) (w' : World) : Prop :=
  e = .returned (.int .i64 x.2.2) ∧ ∃ S R, Apn w S0 R0 [] S R p q x.1 x.2.1 w'
theorem Apn.bare {kept : List (Nat × Obj)} {S R : Nat → Prop} {W : World} (h : Apn w S0 R0 kept S R p q d s W) : Apn w S0 R0 [] S R p q d s W :=
  ⟨h.disk, h.wal, h.apart, fun x hx => by simp at hx, h.loS, h.loR, h.turns⟩

theorem append_err {m : Nat} (hd : DiskAt S0 q d w) (hw : WalAt R0 p q s w) (ha : ∀ j, S0 j → ¬ R0 j) (a : Option Addr) (len cap : Nat) (he : s.err ≠ 0) :
    Calls Try.prog 9 #[.pointer (some ⟨p, 0, none⟩), .slice a len cap] w (AppR w S0 R0 p q (d, s, s.err)) := by
  have h1 := (Apn.start hd hw ha).box (.cells #[.pointer (some ⟨p, 0, none⟩)] 29) w.heap.size rfl
  have h2 := h1.box (.cells #[.slice a len cap] 34) (w.heap.size + 1) (by simp)
  obtain ⟨v2, hv2⟩ := h2.wal
  have c6 := hv2.c6
  have hx : (s.err != 0) = true := by rw [bne_iff_ne]; exact he
  have H2 := Lib.hid h2.bare; clear h2
  clear hv2 h1 hd hw he
  generalize hE : s.err = E at *
  go_enter Try.func9, Try.ntmps9
  go_wp2_with fail
  go_ret
  exact ⟨rfl, S0, R0, H2.out⟩

set_option maxHeartbeats 600000 in
theorem append_row {m : Nat} (hd : DiskAt S0 q d w) (hw : WalAt R0 p q s w) (ha : ∀ j, S0 j → ¬ R0 j) (hs : s.Ok m) (a : Option Addr) (len cap : Nat) (l : Wal.Grp) (hst : Strs a len (bas l) w) (hlen : len ≤ 140737488355328) (hz : ∀ j, ((bas l).getD j .empty).size ≤ 9223372036854700000)
    (he : s.err = 0) (hr : (Oct.row l).2 ≠ 0 ∨ s.n - 1 - s.used < Wal.secs (Oct.row l).1) :
    Calls Try.prog 9 #[.pointer (some ⟨p, 0, none⟩), .slice a len cap] w (AppR w S0 R0 p q (d, s, if (Oct.row l).2 ≠ 0 then (Oct.row l).2 else 4)) := by
  have h1 := (Apn.start hd hw ha).box (.cells #[.pointer (some ⟨p, 0, none⟩)] 29) w.heap.size rfl
  have h2 := h1.box (.cells #[.slice a len cap] 34) (w.heap.size + 1) (by simp)
  obtain ⟨v2, hv2⟩ := h2.wal
  have c6 := hv2.c6
  rw [he] at c6
  have hst2 : Strs a len (bas l) ((w.alloc (.cells #[.pointer (some ⟨p, 0, none⟩)] 29)).alloc (.cells #[.slice a len cap] 34)) := hst.keep (((Below.refl _ w).alloc (Nat.le_refl _) _).alloc (by simp) _)
  have hrow := octRow_any a len cap (bas l) _ hst2 hlen hz
  rw [lists_bas] at hrow
  have hrs := Wal.row_short (l := l)
  have hgs := fun x => groupSectors_any (ba (Oct.row l).1) (by rw [ba_size]; omega) x
  rw [ba_list] at hgs
  have hrow2 : Calls Try.prog 28 #[.slice a len cap] ((w.alloc (.cells #[.pointer (some ⟨p, 0, none⟩)] 29)).alloc (.cells #[.slice a len cap] 34)) fun e w' => e = .returned (.tuple #[.string (ba (Oct.row l).1), .int .i64 (Oct.row l).2]) ∧ Below ((w.alloc (.cells #[.pointer (some ⟨p, 0, none⟩)] 29)).alloc (.cells #[.slice a len cap] 34)).heap.size ((w.alloc (.cells #[.pointer (some ⟨p, 0, none⟩)] 29)).alloc (.cells #[.slice a len cap] 34)) w' := hrow
  clear hrow
  generalize ba (Oct.row l).1 = row at *
  generalize Wal.secs (Oct.row l).1 = k at *
  generalize (Oct.row l).2 = E at *
  have Hrow := Lib.hid hrow2; clear hrow2
  have Hgs := Lib.hid hgs; clear hgs
  have H2 := Lib.hid h2; clear h2
  have Hs := Lib.hid hs; clear hs
  clear hv2 h1 hd hw he hst hst2 hrs hz
  by_cases h0 : E = 0
  · subst h0
    rw [if_neg (by decide)]
    have hk : s.n - 1 - s.used < k := by
      rcases hr with hr | hr
      · exact absurd rfl hr
      · exact hr
    have hx : decide (((s.n - 1 - s.used : Nat) : Int) < (k : Int)) = true := decide_eq_true (by omega)
    clear hr
    go_enter Try.func9, Try.ntmps9
    go_wp2_with fail
    refine Hrow.out.mono ?_; rintro e w3 ⟨rfl, h3⟩
    have h3' := H2.out.new h3
    have h4 := h3'.box (.cells #[.string row] 9) w3.heap.size rfl
    have cb := h4.cB (B := w.heap.size) (by simp [boxW])
    have H4 := Lib.hid h4; clear h4
    clear h3' h3
    go_wp2_with fail
    refine (Hgs.out _).mono ?_; rintro e w4 ⟨rfl, rfl⟩
    go_wp2_with fail
    refine (room_any H4.out.wal Hs.out).mono ?_; rintro e w5 ⟨rfl, j, rfl⟩
    go_wp2_with fail
    go_ret
    exact ⟨rfl, S0, R0, (H4.out.new (drewN_below (Below.refl _ _) j)).bare⟩
  · rw [if_pos h0]
    have hx : (E != 0) = true := by rw [bne_iff_ne]; exact h0
    clear hr h0
    go_enter Try.func9, Try.ntmps9
    go_wp2_with fail
    refine Hrow.out.mono ?_; rintro e w3 ⟨rfl, h3⟩
    have h3' := H2.out.new h3
    have h4 := h3'.box (.cells #[.string row] 9) w3.heap.size rfl
    have H4 := Lib.hid h4.bare; clear h4
    clear h3' h3
    go_wp2_with fail
    go_ret
    exact ⟨rfl, S0, R0, H4.out⟩
end
end Go.Proofs.Ytjmpagbjkehebaa
