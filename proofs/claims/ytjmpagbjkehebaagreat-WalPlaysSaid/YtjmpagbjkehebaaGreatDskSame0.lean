/-
  Same: a disk and the document's one, that are the same, are found the same.
-/
import Derived.Test.YtjmpagbjkehebaaGreatRefAll
import Derived.BigQuiet
set_option linter.unusedVariables false
namespace Go.Proofs.YtjmpagbjkehebaaGreat
open Go.RowKit

set_option maxRecDepth 20000 in
set_option maxHeartbeats 2000000 in
theorem dskSame_any {S T : Nat → Prop} {p q : Nat} {d : Dsk.St} {w : World} (h : DiskAt S p d w) (g : RefAt T q d w) (hops : d.ops ≤ 1099511627776) :
    Calls Tryz.prog 25 #[.pointer (some ⟨p, 0, none⟩), .pointer (some ⟨q, 0, none⟩)] w fun e w' => e = .returned (.bool true) ∧ Below w.heap.size w w' := by
  have hhi := h.ok.hi
  have hn : ∀ m, DiskAt S p d (w.drewN m) := fun m => h.new (drewN_below (Below.refl _ w) m)
  have hlo := fun m => (loose_any (hn m)).mono fun e w' (x : e = .returned (.int .i64 (d.L.length : Int)) ∧ w.drewN m = w') => (⟨x.1, x.2.symm⟩ : e = .returned (.int .i64 (d.L.length : Int)) ∧ w' = w.drewN m)
  have hdo := fun m => (down_any (hn m)).mono fun e w' (x : e = .returned (.bool d.down) ∧ w.drewN m = w') => (⟨x.1, x.2.symm⟩ : e = .returned (.bool d.down) ∧ w' = w.drewN m)
  have hse := fun m => (sectors_any (hn m)).mono fun e w' (x : e = .returned (.int .i64 (d.n : Int)) ∧ w.drewN m = w') => (⟨x.1, x.2.symm⟩ : e = .returned (.int .i64 (d.n : Int)) ∧ w' = w.drewN m)
  have hrd := fun m => read_all (hn m) 0 (d.n : Int) ⟨by omega, by omega⟩ ⟨by omega, by omega⟩
  have hG : ∀ u, Below w.heap.size w u → RefAt T q d u := fun u hu => g.new hu
  have hgr := fun u hu => refRead_all (hG u hu) hops 0 (d.n : Int) ⟨by omega, by omega⟩ ⟨by omega, by omega⟩
  obtain ⟨vB, vL, g⟩ := g
  obtain ⟨gb, cap, rfl⟩ := g.formB
  have hc0 : ∀ u, Below w.heap.size w u → u.cell? ⟨q, 0, none⟩ = some (.slice (some ⟨gb, 0, none⟩) d.n cap) := fun u hu => (g.new hu).c0
  have c0 := g.c0
  have c1 := g.c1
  have c3 := g.c3
  have hsh := g.formL
  have Hlo := Lib.hid hlo; clear hlo
  have Hdo := Lib.hid hdo; clear hdo
  have Hse := Lib.hid hse; clear hse
  have Hrd := Lib.hid hrd; clear hrd
  have Hgr := Lib.hid hgr; clear hgr
  have Hc0 := Lib.hid hc0; clear hc0
  clear h g hn hG
  obtain ⟨l, hl⟩ : ∃ l, l = d.L.length := ⟨_, rfl⟩
  have hvl : ∃ a c, vL = .slice a l c := by
    rcases hsh with ⟨hL0, rfl⟩ | ⟨gl, capl, rfl, _⟩
    · rw [hL0] at hl; rw [hl]; exact ⟨_, _, rfl⟩
    · rw [hl]; exact ⟨_, _, rfl⟩
  rw [← hl] at Hlo
  obtain ⟨al, cl, rfl⟩ := hvl
  obtain ⟨dn, hdn⟩ : ∃ dn, dn = d.down := ⟨_, rfl⟩
  rw [← hdn] at Hdo c3
  obtain ⟨n, hn⟩ : ∃ n, n = d.n := ⟨_, rfl⟩
  rw [← hn] at Hse c0 Hc0 Hrd Hgr
  obtain ⟨R, hR⟩ : ∃ R, R = Dsk.read d 0 (n : Int) := ⟨_, rfl⟩
  rw [← hR] at Hrd Hgr
  clear hsh hl hn hR hdn
  cases dn
  all_goals
    go_enter Tryz.func25, Tryz.ntmps25
    go_wp2
    go_quiet ((first | exact Calls.quiet_of_same (Hlo.out _) | exact Calls.quiet_of_same (Hdo.out _) | exact Calls.quiet_of_same (Hse.out _)))
    go_wp2_with fail
    refine (Hrd.out _).mono ?_; rintro e w2 ⟨rfl, hb2⟩
    have hb2' : Below w.heap.size w w2 := (drewN_below (Below.refl _ w) _).trans hb2
    have c0' := Hc0.out w2 hb2'
    have hg2 := Hgr.out w2 hb2'
    have Hg2 := Lib.hid hg2; clear hg2
    have Hb2 := Lib.hid hb2'; clear hb2'
    clear hb2
    go_wp2_with fail
    refine Hg2.out.mono ?_; rintro e w3 ⟨rfl, hb3⟩
    have hb3' := Hb2.out.trans (hb3.mono Hb2.out.size)
    have Hb3 := Lib.hid hb3'; clear hb3'
    clear hb3 c0'
    go_wp2_with fail
    go_ret
    exact ⟨by simp, Hb3.out⟩
end Go.Proofs.YtjmpagbjkehebaaGreat
