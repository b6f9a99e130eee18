/-
  The document's disk: what is read of all sectors.
-/
import Derived.Test.YtjlkppdailkanaaRefSmall
import Derived.Test.YtjlkppdailkanaaDskCopy
import Derived.StillTailTactics
set_option linter.unusedVariables false
namespace Go.Proofs.Ytjlkppdailkanaa
open Go.RowKit

theorem str_info : (Try.prog.info? 9).map (fun i => (i.zero, i.size, i.bytes)) = some (some (.string .empty), 1, 16) := by kernel_rfl
theorem lay_take {L : List (Nat × Dsk.Sec)} {k : Nat} {x : Nat × Dsk.Sec} (h : L[k]? = some x) (f : Nat → Dsk.Sec) : Dsk.lay (L.take (k + 1)) f = Dsk.upd (Dsk.lay (L.take k) f) x.1 x.2 := by
  rw [List.take_add_one, h, Option.toList_some, Dsk.lay_snoc]

set_option maxHeartbeats 1000000 in
theorem refNow_any {S : Nat → Prop} {q : Nat} {d : Dsk.St} {w : World} (h : RefAt S q d w) (hops : d.ops ≤ 1099511627776) :
    Calls Try.prog 45 #[.pointer (some ⟨q, 0, none⟩)] w fun e w' => ∃ g cap, e = .returned (.slice (some ⟨g, 0, none⟩) d.n cap) ∧ w'.ownsRow w.heap.size 9 1 (.slice (some ⟨g, 0, none⟩) d.n cap) d.n (secs (Dsk.now d) d.n) ∧ Below w.heap.size w w' := by
  obtain ⟨vB, vL, h⟩ := h
  obtain ⟨g, cap, rfl⟩ := h.formB
  have c0 := h.c0
  have hn1 := h.ok.lo
  have hn2 := h.ok.hi
  have hcnt := h.cnt
  have hown0 : w.ownsRow w.heap.size 9 1 (.slice none 0 0) 0 [] := World.ownsRow_nil _ _ _ _
  obtain ⟨i0, hi, hi0, hi1, hi2⟩ := info_parts str_info
  have hnews : ∀ j u, (secs d.fl d.n)[j]? = some u → w.cell? ((⟨g, 0, none⟩ : Addr).add j) = some u := World.ownsRow.cells h.rB rfl
  have hl : (secs d.fl d.n).length = d.n * 1 := by rw [secs_length, Nat.mul_one]
  have hone := secs_one d.fl d.n
  have Hnews := Lib.hid hnews; clear hnews
  have Hown0 := Lib.hid hown0; clear hown0
  have Hi := Lib.hid hi; clear hi
  have Hi0 := Lib.hid hi0; clear hi0
  have Hi1 := Lib.hid hi1; clear hi1
  have Hi2 := Lib.hid hi2; clear hi2
  have Hl := Lib.hid hl; clear hl
  have Hone := Lib.hid hone; clear hone
  have H := Lib.hid h; clear h
  go_enter Try.func45, Try.ntmps45
  go_wp2_with (at_builtin; refine wpList_append_at _ rfl (.const (.slice none 0 0)) (.tmp 8) 45 rfl w.heap.size 9 i0 _ 1 16 Try.underlying45 Hi.out Hi0.out Hi1.out Hi2.out rfl (by decide) (.slice none 0 0) 0 [] rfl Hown0.out ⟨g, 0, none⟩ d.n cap (secs d.fl d.n) rfl Hl.out Hnews.out Hone.out (by unfold maxLen; omega) (by omega) (Nat.le_refl _) ?_)
  intro v2 w2 hown2 hg2 hat
  have hb : Below w.heap.size w w2 := below_of_grown hg2 (fun k hk => by cases hk)
  obtain ⟨g2, cap2, hv2⟩ : ∃ g2 cap2, v2 = .slice (some ⟨g2, 0, none⟩) d.n cap2 := by
    obtain ⟨_, h2⟩ := hown2
    rcases h2 with ⟨rfl, h0⟩ | ⟨g2, cap2, cur, rfl, _⟩
    · omega
    · exact ⟨_, _, rfl⟩
  subst hv2
  have Hb := Lib.hid hb; clear hb
  have Hown2 := Lib.hid hown2; clear hown2
  clear hg2 hat c0
  go_wp2
  go_loopw [4] (fun i wr => ∃ k : Nat, k ≤ d.L.length ∧ i = .int .i64 (k : Int) ∧ wr.ownsRow w.heap.size 9 1 (.slice (some ⟨g2, 0, none⟩) d.n cap2) d.n (secs (Dsk.lay (d.L.take k) d.fl) d.n) ∧ Below w.heap.size w wr) (fun i _ => d.L.length - (intOf i).toNat)
  case atStart => exact ⟨0, by omega, rfl, by rw [List.take_zero]; exact Hown2.out, Hb.out⟩
  case round =>
    obtain ⟨k, hk, rfl, hown, hbel⟩ := hrel
    have hr := H.out.new hbel
    have c1 := hr.c1
    have Hown := Lib.hid hown; clear hown
    have Hbel := Lib.hid hbel; clear hbel
    have Hr := Lib.hid hr; clear hr
    rcases H.out.formL with ⟨hL0, rfl⟩ | ⟨gl, capl, rfl, hcl⟩
    · have hk0 : k = 0 := by rw [hL0] at hk; simpa using hk
      subst hk0
      have hfin := Hown.out
      rw [List.take_zero] at hfin
      have hnow : Dsk.now d = Dsk.lay [] d.fl := by unfold Dsk.now; rw [hL0]
      rw [← hnow] at hfin
      have Hfin := Lib.hid hfin; clear hfin
      clear hL0 hnow
      go_wp2
      go_ret
      exact ⟨_, _, rfl, Hfin.out, Hbel.out⟩
    · by_cases hlt : k < d.L.length
      · obtain ⟨x, hx⟩ : ∃ x, d.L[k]? = some x := ⟨d.L[k], List.getElem?_eq_getElem hlt⟩
        have hxn : x.1 < d.n := Hr.out.ok.at_ x (List.mem_of_getElem? hx)
        obtain ⟨p0, p1⟩ := puts_get hx
        have a0 := ownsRow_cell Hr.out.rL p0
        have a1 := ownsRow_cell Hr.out.rL p1
        rw [Nat.mul_comm 2 k] at a0 a1
        have hset := World.ownsRow.stored Hown.out x.1 (secv x.2)
        rw [secs_set, ← lay_take hx] at hset
        obtain ⟨hs1, _⟩ := hset
        have b0 : wr.cell? ⟨g2, x.1, none⟩ = some (secv (Dsk.lay (d.L.take k) d.fl x.1)) := by
          rw [World.ownsRow.cellAt Hown.out x.1 (by omega), secs_get _ hxn]
        have b1 := World.ownsRow.frozenAt Hown.out x.1
        have hg2b := (World.ownsRow.lt Hown.out g2 rfl).1
        obtain ⟨y, hy⟩ : ∃ y, secv x.2 = .string y := ⟨_, rfl⟩
        rw [hy] at a1 hs1
        obtain ⟨j, hj⟩ : ∃ j, j = x.1 := ⟨_, rfl⟩
        rw [← hj] at a0 hxn hs1 b0 b1
        have b0d : wr.drew.cell? ⟨g2, j, none⟩ = some (secv (Dsk.lay (d.L.take k) d.fl j)) := b0
        have b1d : wr.drew.frozen? ⟨g2, j, none⟩ = false := b1
        have hs1d : (wr.drew.setCell ⟨g2, j, none⟩ (.string y)).ownsRow w.heap.size 9 1 (.slice (some ⟨g2, 0, none⟩) d.n cap2) d.n (secs (Dsk.lay (d.L.take (k + 1)) d.fl) d.n) := hs1
        have hs2d : Below w.heap.size w (wr.drew.setCell ⟨g2, j, none⟩ (.string y)) := (Hbel.out.drew).setCell (p := ⟨g2, j, none⟩) hg2b _
        have Hs1 := Lib.hid hs1d; clear hs1d
        have Hs2 := Lib.hid hs2d; clear hs2d
        clear hs1 b0 b1
        have Hx := Lib.hid hx; clear hx
        clear p0 p1 hy hj
        go_wp2
        go_still_tail 18, (by kernel_rfl)
        go_wp2
        go_roundw
        case rel => exact ⟨k + 1, by omega, by go_num, Hs1.out, Hs2.out⟩
        case measure => simp [intOf]; omega
      · obtain rfl : k = d.L.length := by omega
        have hfin := Hown.out
        rw [List.take_length] at hfin
        have Hfin := Lib.hid hfin; clear hfin
        go_wp2
        go_ret
        exact ⟨_, _, rfl, Hfin.out, Hbel.out⟩
end Go.Proofs.Ytjlkppdailkanaa
