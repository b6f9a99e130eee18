/-
  DiskKeeps: behind a crash each sector is one that was written to it, whole, or all 0, and what was flushed is there, unless a loose write that stays was laid over it: for every number of sectors, every script, every text that says what is kept.
  Conditions: none.
-/
import Derived.Test.YtjlkppdailkanaaKeepPlay
import Derived.Test.YtjlkppdailkanaaDskAlive
import Derived.ProofKit
import Derived.OpenShut
import Derived.ShutString
import Derived.ChangeOld
import Derived.SizedLaws
namespace Go.Proofs.Ytjlkppdailkanaa.lawKeeps
open Go.ChangeShapes Go.WideShapes Go.ChangeAt Go.RowKit
open Go.ChangeMaps (open_string shut_string)
set_option linter.unusedVariables false

theorem own : ownKnob Try.prog.godebug = none := by kernel_rfl
theorem laidOut : laidOutB Try.prog = true := by kernel_rfl
def fE : ByteArray := ⟨Dsk.zer.toArray⟩
theorem fill_e (w : World) : Calls Try.prog 14 #[.string ⟨#[]⟩, .int .i64 1] w fun e w' => e = .returned (.string fE) ∧ Below w.heap.size w w' := by
  have h := fill_pos ⟨#[]⟩ (by decide) 1 (by decide) w
  rw [show (⟨#[]⟩ : ByteArray).data.toList = [] from rfl, Dsk.round_nil] at h
  exact h
def xrow (x : Stp) : Array Value := #[.int .i64 x.d, .int .i64 x.at_, .int .i64 x.n, .string x.s, .bool x.raw]
/-- the books, of which the first k rows are laid -/
abbrev Init (R : Nat → Prop) (ba bk n k : Nat) : World → Prop := Book R 1 ba bk n k (fun _ => Dsk.zer) (fun _ => Dsk.zer)
theorem init_next {R : Nat → Prop} {ba bk n k : Nat} {w w2 : World} (h : Init R ba bk n k w) (hk : k < n) (hb : Below w.heap.size w w2) (X : Nat) (hX : X = w2.heap.size) :
    Init (fun j => R j ∨ j = X) ba bk n (k + 1) (((w2.alloc (.cells #[Value.string fE] 9)).setCell ⟨ba, k, none⟩ (.slice (some ⟨X, 0, none⟩) 1 1)).setCell ⟨bk, k, none⟩ (.slice (some ⟨X, 0, none⟩) 1 1)) := by
  subst hX
  have hb3 : Below w.heap.size w (w2.alloc (.cells #[Value.string fE] 9)) := hb.alloc hb.size _
  have h1 : Init (fun j => R j ∨ j = w2.heap.size) ba bk n k (w2.alloc (.cells #[Value.string fE] 9)) :=
    (h.keep (fun j hj => hb3.block j (h.lt j hj)) hb3.size).relax (fun j hj => .inl hj) (fun j hj => by
      have := hb.size
      rcases hj with hj | hj
      · have := h.lt j hj; simp; omega
      · simp; omega) (Nat.le_refl _)
  have hX : (w2.alloc (.cells #[Value.string fE] 9)).heap[w2.heap.size]? = some (.cells #[Value.string fE] 9 (0, 0)) := heap_alloc_new w2 _
  have hL : LastAt (fun j => R j ∨ j = w2.heap.size) 1 (.slice (some ⟨w2.heap.size, 0, none⟩) 1 1) Dsk.zer (w2.alloc (.cells #[Value.string fE] 9)) :=
    ⟨w2.heap.size, 0, 1, [], rfl, Nat.le_refl _, by decide, .inr rfl, ⟨_, _, hX⟩, fun j u hu => by
      rw [Nat.zero_add, cell_of_row _ _ j _ _ _ hX]
      match j, hu with
      | 0, hu => simpa [strvs, fE] using hu
      | j + 1, hu => simp [strvs] at hu, Nat.le_refl _⟩
  have hu : Dsk.upd (fun _ => Dsk.zer) k Dsk.zer = fun _ => Dsk.zer := by funext j; unfold Dsk.upd; split <;> rfl
  obtain ⟨ca, e1, e2, e3⟩ := h1.a.row
  have ra := h1.a.set hk hL (m' := k + 1) (fun j hj => by omega)
  have rk := h1.k.other h1.a h1.ne.symm k (.slice (some ⟨w2.heap.size, 0, none⟩) 1 1)
  have hL2 := hL.set e1 k (.slice (some ⟨w2.heap.size, 0, none⟩) 1 1)
  rw [hu] at ra
  have rk2 := rk.set hk hL2 (m' := k + 1) (fun j hj => by omega)
  rw [hu] at rk2
  exact ⟨fun j hj => by have := h1.lt j hj; simpa [World.setCell] using this, h1.ne, ra.other rk h1.ne k _, rk2⟩

set_option maxRecDepth 100000 in
set_option maxHeartbeats 8000000 in
theorem walk (n0 : Int) (a1 : Option Addr) (len1 cap1 : Nat) (l1 : List Stp) (s2 : ByteArray) (W : World) (hn0 : (Lit.int .i64 n0).wf = true) (hst1 : Stps a1 len1 l1 W) (hok1 : ∀ y ∈ l1, y.Ok) (hll1 : len1 ≤ 2932031007402) (z2 : s2.size ≤ 140737488351232) :
    Calls Try.prog 4 #[.int .i64 n0, .slice a1 len1 cap1, .string s2] W fun e w' => e = .returned (.bool true) ∧ Below W.heap.size W w' := by
  have hi0 := wf_i64 hn0
  have hhv := heavy_any n0 hi0 a1 len1 cap1 l1 W hst1 hok1 hll1
  unfold I64 at hi0
  have Hhv := Lib.hid hhv; clear hhv
  have Hst := Lib.hid hst1; clear hst1
  have Hok := Lib.hid hok1; clear hok1
  clear hn0
  have hq : ∀ Q : Ending → World → Prop, (∀ b : Bool, (b = false → Dsk.Light n0 l1) → Q (.returned (.bool b)) W) → Calls Try.prog 7 #[.int .i64 n0, .slice a1 len1 cap1] W Q := fun Q h => Hhv.out.mono fun e w' ⟨b, he, hb, hw⟩ => by subst he; subst hw; exact h b hb
  have Hq := Lib.hid hq; clear hq
  clear Hhv
  have hend : ∀ u, Below W.heap.size W u → Calls Try.prog 8 #[] u fun e w' => e = .returned (.bool true) ∧ Below W.heap.size W w' := fun u hu => (alive_any u).mono fun e w' ⟨h1, h2⟩ => ⟨h1, hu.trans (h2.mono hu.size)⟩
  have Hend := Lib.hid hend; clear hend
  go_enter Try.func4, Try.ntmps4
  go_wp2_with fail
  refine Hq.out _ ?_
  intro b hb
  have Hb := Lib.hid hb; clear hb
  cases b with
  | true =>
    go_wp2_with fail
    refine (Hend.out _ (Below.refl _ _)).mono ?_; rintro e w1 ⟨rfl, hw1⟩
    go_wp2_with fail
    go_ret
    exact ⟨rfl, hw1⟩
  | false =>
  have hli := Hb.out rfl
  clear Hb
  by_cases hs200 : 200 < n0
  · have d200 : decide (200 < n0) = true := decide_eq_true hs200
    go_wp2_with fail
    refine (Hend.out _ (Below.refl _ _)).mono ?_; rintro e w1 ⟨rfl, hw1⟩
    go_wp2_with fail
    go_ret
    exact ⟨rfl, hw1⟩
  have d200 : decide (200 < n0) = false := decide_eq_false hs200
  by_cases hk1024 : 1024 < s2.size
  · have dk : decide ((1024 : Int) < (s2.size : Int)) = true := decide_eq_true (by omega)
    go_wp2_with fail
    refine (Hend.out _ (Below.refl _ _)).mono ?_; rintro e w1 ⟨rfl, hw1⟩
    go_wp2_with fail
    go_ret
    exact ⟨rfl, hw1⟩
  have dk : decide ((1024 : Int) < (s2.size : Int)) = false := decide_eq_false (by omega)
  by_cases hlo : n0 < 1
  · have hnb := fun u => new_bad n0 (.inl hlo) u
    have Hnb := Lib.hid hnb; clear hnb
    go_wp2_with fail
    refine (Hnb.out _).mono ?_; rintro e w1 ⟨rfl, rfl⟩
    go_wp2_with fail
    refine (Hend.out _ (Below.refl _ _)).mono ?_; rintro e w1 ⟨rfl, hw1⟩
    go_wp2_with fail
    go_ret
    exact ⟨rfl, hw1⟩
  obtain ⟨n, rfl⟩ := Int.eq_ofNat_of_zero_le (show 0 ≤ n0 by omega)
  have hn1 : 1 ≤ n := by omega
  have hn2 : n ≤ 200 := by omega
  have hnw := fun u => new_any n hn1 (by omega) u
  have Hnw := Lib.hid hnw; clear hnw
  have hpl := Plays.of hli Hok.out
  have Hpl := Lib.hid hpl; clear hpl
  have hlen : l1.length ≤ 80 := hli.len
  have hll : l1.length = len1 := Hst.out.1
  have Hll := Lib.hid hll
  have hlen1 : len1 ≤ 80 := by omega
  have hks : s2.size ≤ 1024 := by omega
  clear hli hll hlen hlo hs200 hk1024
  have hmk := fun u => make_rows n (by omega) u
  have Hmk := Lib.hid hmk; clear hmk
  go_wp2_with fail
  refine (Hnw.out _).mono ?_; rintro e w1 ⟨rfl, hb1, hd1⟩
  have hp1 : Play W.heap.size W (NewS W) (W.heap.size + 2) (Dsk.new n) (fun _ => False) (fun _ => True) w1 := Play.alone hd1 (fun j h => h.1) hb1 hb1.size
  generalize W.heap.size + 2 = p at *
  obtain ⟨ba, hba⟩ : ∃ ba, ba = w1.heap.size := ⟨_, rfl⟩
  obtain ⟨w3, hw3⟩ : ∃ w3, (w1.alloc (.cells (Array.replicate n (.slice none 0 0)) 45)).alloc (.cells (Array.replicate n (.slice none 0 0)) 45) = w3 := ⟨_, rfl⟩
  have hp3 : Play W.heap.size W (NewS W) p (Dsk.new n) (fun j => j = ba ∨ j = ba + 1) (Init (fun j => j = ba ∨ j = ba + 1) ba (ba + 1) n 0) w3 := by
    have ha : (w1.alloc (.cells (Array.replicate n (.slice none 0 0)) 45)).heap[ba]? = some (.cells (Array.replicate n (.slice none 0 0)) 45 (0, 0)) := by rw [hba]; exact heap_alloc_new w1 _
    have hs : (w1.alloc (.cells (Array.replicate n (.slice none 0 0)) 45)).heap.size = ba + 1 := by rw [hba]; simp
    have hb13 : Below w1.heap.size w1 w3 := by rw [← hw3]; exact ((Below.refl _ w1).alloc (Nat.le_refl _) _).alloc (by simp) _
    have hn := hp1.new hb13
    have hA : w3.heap[ba]? = some (.cells (Array.replicate n (.slice none 0 0)) 45 (0, 0)) := by rw [← hw3]; exact row_alloc ha _
    have hK : w3.heap[ba + 1]? = some (.cells (Array.replicate n (.slice none 0 0)) 45 (0, 0)) := by rw [← hw3, ← hs]; exact heap_alloc_new _ _
    refine ⟨hn.disk, ⟨fun j hj => ?_, by omega, ⟨.inl rfl, _, hA, by simp, fun k hk => by omega⟩, ⟨.inr rfl, _, hK, by simp, fun k hk => by omega⟩⟩, Book.held _ _ _ _ _ _ _ _, fun j a c => ?_, hn.loS, fun j hj => ?_, hn.below, hn.size⟩
    · rcases hj with rfl | rfl
      · exact row_lt hA
      · exact row_lt hK
    · have := hp1.disk.lt j a; omega
    · have := hp1.size; omega
  have HP3 := Lib.hid hp3; clear hp3
  have Hw3 := Lib.hid hw3; clear hw3
  have Hba := Lib.hid hba; clear hba
  clear hb1 hd1
  go_wp2_with (rw [Hmk.out]; simp only [Result.andThen]; rw [Oper.upon_value])
  rw [Hw3.out, ← Hba.out]
  obtain ⟨bk, hbk⟩ : ∃ bk, bk = ba + 1 := ⟨_, rfl⟩
  rw [← hbk] at HP3 ⊢
  clear Hw3 Hba hbk hp1
  go_loopw [11] (fun c wr => ∃ k R, k ≤ n ∧ c = .int .i64 (k : Int) ∧ Play W.heap.size W (NewS W) p (Dsk.new n) R (Init R ba bk n k) wr) (fun c _ => n - (intOf c).toNat)
  case atStart => exact ⟨0, _, by omega, rfl, HP3.out⟩
  case round =>
    obtain ⟨k, R, hk, rfl, hpl⟩ := hrel
    have HP := Lib.hid hpl; clear hpl
    by_cases hlt : k < n
    · go_wp2_with fail
      refine (fill_e _).mono ?_; rintro e w4 ⟨rfl, hb4⟩
      obtain ⟨X, hX⟩ : ∃ X, X = w4.heap.size := ⟨_, rfl⟩
      have hR := HP.out.rest
      have hnx := init_next hR hlt hb4 X hX
      have hnew := HP.out.new hb4
      have hszX := hb4.size
      have hb5 : Below wr.heap.size wr (w4.alloc (.cells #[.string fE] 9)) := hb4.alloc hb4.size _
      have hbalt := hR.lt ba hR.a.hb
      have hbklt := hR.lt bk hR.k.hb
      obtain ⟨va, hva⟩ := hR.a.here hlt
      obtain ⟨vk, hvk⟩ := hR.k.here hlt
      have c1 : (w4.alloc (.cells #[.string fE] 9)).cell? ⟨ba, k, none⟩ = some va := by rw [World.cell?_of_block (hb5.block ba hbalt)]; exact hva
      have f1 : (w4.alloc (.cells #[.string fE] 9)).frozen? ⟨ba, k, none⟩ = false := by rw [World.frozen?_of_block (hb5.block ba hbalt)]; exact hR.a.free k
      have hne := hR.ne
      have e6 := heap_setCell_other (w4.alloc (.cells #[.string fE] 9)) ⟨ba, k, none⟩ bk (.slice (some ⟨X, 0, none⟩) 1 1) (fun e => hne e.symm)
      have c2 : ((w4.alloc (.cells #[.string fE] 9)).setCell ⟨ba, k, none⟩ (.slice (some ⟨X, 0, none⟩) 1 1)).cell? ⟨bk, k, none⟩ = some vk := by rw [World.cell?_of_block e6, World.cell?_of_block (hb5.block bk hbklt)]; exact hvk
      have f2 : ((w4.alloc (.cells #[.string fE] 9)).setCell ⟨ba, k, none⟩ (.slice (some ⟨X, 0, none⟩) 1 1)).frozen? ⟨bk, k, none⟩ = false := by rw [World.frozen?_of_block e6, World.frozen?_of_block (hb5.block bk hbklt)]; exact hR.k.free k
      have hfin : Play W.heap.size W (NewS W) p (Dsk.new n) (fun j => R j ∨ j = X) (Init (fun j => R j ∨ j = X) ba bk n (k + 1)) (((w4.alloc (.cells #[.string fE] 9)).setCell ⟨ba, k, none⟩ (.slice (some ⟨X, 0, none⟩) 1 1)).setCell ⟨bk, k, none⟩ (.slice (some ⟨X, 0, none⟩) 1 1)) := by
        refine HP.out.rebook hb5 (((Turns.refl R (w4.alloc (.cells #[.string fE] 9))).set ba k _ (fun _ => hR.a.hb)).set bk k _ (fun _ => hR.k.hb)) hnx (Book.held _ _ _ _ _ _ _ _) (fun j hj => ?_)
        rcases hj with hj | hj
        · exact .inl hj
        · exact .inr (by omega)
      have c1' : ((w4.alloc (.cells #[.string fE] 9)).setCell ⟨ba, k, none⟩ (.slice (some ⟨X, 0, none⟩) 1 1)).cell? ⟨ba, k, none⟩ = some (.slice (some ⟨X, 0, none⟩) 1 1) := by
        obtain ⟨_, ca, g1, g2, _⟩ := (HP.out.new hb5).rest.a
        rw [cell_of_row _ ba k _ _ _ (heap_setCell_same _ ba k _ _ _ g1), Array.getElem?_setIfInBounds_self_of_lt (by omega)]
      have Hfin := Lib.hid hfin; clear hfin
      rw [hX] at c1' c2 f2 Hfin
      clear hX
      clear hnx hnew hszX hb5 hva hvk e6 hb4
      go_wp2_with fail
      go_roundw
      case rel => exact ⟨k + 1, _, by omega, by go_num, Hfin.out⟩
      case measure => simp [intOf]; omega
    · have hkn : k = n := by omega
      have hp4 := HP.out
      rw [hkn] at hp4 ⊢
      have HP4 := Lib.hid hp4; clear hp4
      clear HP HP3 hkn hk hlt Hmk
      go_wp2_with fail
      go_loopw [12] (fun c wr => ∃ k d S R M, k ≤ len1 ∧ c = .int .i64 (k : Int) ∧ d.n = n ∧ d.ops ≤ 512 * k ∧ M ≤ 1 + 1024 * k ∧ Play W.heap.size W S p d R (Book R M ba bk n n (Dsk.now d) (Dsk.aft s2.data.toList d)) wr) (fun c _ => len1 - (intOf c).toNat)
      case atStart => exact ⟨0, Dsk.new n, NewS W, R, 1, by omega, rfl, rfl, Nat.le_refl _, by omega, by rw [Dsk.now_new, Dsk.aft_new]; exact HP4.out⟩
      case round =>
        clear HP4 R
        obtain ⟨k, d, S, R, M, hk, rfl, hdn, hops, hM, hpl⟩ := hrel
        have HP := Lib.hid hpl; clear hpl
        have Hdn := Lib.hid hdn; clear hdn
        by_cases hlt : k < len1
        · obtain ⟨b, off, rfl, hst0⟩ := Hst.out.2 k hlt
          have hx : Plays (l1.getD k default) := Hpl.out _ (by
            rw [List.getD_eq_getElem?_getD, List.getElem?_eq_getElem (by rw [Hll.out]; exact hlt)]
            exact List.getElem_mem _)
          generalize l1.getD k default = x at *
          have hbW : b < W.heap.size := cell_lt hst0.d
          obtain ⟨xd, xa, xn, xs, xr⟩ := x
          obtain ⟨k0, k1, k2, k3, k4⟩ : StpAt wr b (off + k * 5) ⟨xd, xa, xn, xs, xr⟩ := hst0.same (HP.out.below.block b hbW)
          simp only at k0 k1 k2 k3 k4
          have Hx := Lib.hid hx; clear hx
          have Hst0 := Lib.hid hst0; clear hst0
          have hz : ∀ u, (zeroValue 33).run Try.prog u = .ok (.agg #[.int .i64 0, .int .i64 0, .int .i64 0, .string .empty, .bool false]) u := fun _ => by kernel_rfl
          have hsz : (Try.prog.info? 33).map (·.size) = some (#[.int .i64 xd, .int .i64 xa, .int .i64 xn, .string xs, .bool xr] : Array Value).size := by kernel_rfl
          have Hsz := Lib.hid hsz; clear hsz
          go_wp2_with (refine wpList_store_whole rfl 33 (.tmp 13) (.tmp 79) rfl wr.heap.size #[.int .i64 xd, .int .i64 xa, .int .i64 xn, .string xs, .bool xr] rfl rfl _ #[.int .i64 0, .int .i64 0, .int .i64 0, .string .empty, .bool false] (heap_alloc_new _ _) Hsz.out rfl rfl ?_; rw [World.setRow_alloc_new])
          clear k0 k1 k2 k3 k4 hz Hsz
          obtain ⟨hpx, hRX⟩ := HP.out.withX rfl (.cells #[.int .i64 xd, .int .i64 xa, .int .i64 xn, .string xs, .bool xr] 33)
          have hbx : b < wr.heap.size := Nat.lt_of_lt_of_le hbW HP.out.below.size
          generalize wr.alloc (.cells #[.int .i64 xd, .int .i64 xa, .int .i64 xn, .string xs, .bool xr] 33) = w1 at *
          generalize wr.heap.size = X at *
          have x0 : w1.cell? ⟨X, 0, none⟩ = some (.int .i64 xd) := by rw [cell_of_row w1 X 0 _ _ _ hpx.rest.2]; rfl
          have x1 : w1.cell? ⟨X, 1, none⟩ = some (.int .i64 xa) := by rw [cell_of_row w1 X 1 _ _ _ hpx.rest.2]; rfl
          have x2 : w1.cell? ⟨X, 2, none⟩ = some (.int .i64 xn) := by rw [cell_of_row w1 X 2 _ _ _ hpx.rest.2]; rfl
          have x4 : w1.cell? ⟨X, 4, none⟩ = some (.bool xr) := by rw [cell_of_row w1 X 4 _ _ _ hpx.rest.2]; rfl
          have hlo := loose_any hpx.disk
          have Hlo := Lib.hid hlo; clear hlo
          have HPX := Lib.hid hpx; clear hpx
          have HRX := Lib.hid hRX; clear hRX
          refine Hlo.out.mono ?_; rintro e w' ⟨rfl, rfl⟩
          obtain ⟨l0, hl0⟩ : ∃ l0, d.L.length = l0 := ⟨_, rfl⟩
          rw [hl0]
          have hl0b : l0 ≤ 65536 := by have := HPX.out.disk.cnt; omega
          have Hl0 := Lib.hid hl0; clear hl0
          clear Hlo
          by_cases h0 : xd = 0
          · have e0 : (xd == 0) = true := by rw [beq_iff_eq]; exact h0
            have H0 := Lib.hid h0; clear h0
            cases xr with
            | true =>
              go_wp2_with fail
              go_roundw
              case rel => exact ⟨k + 1, d, S, R, M, by omega, by go_num, Hdn.out, by omega, by omega, HPX.out.noX⟩
              case measure => simp [intOf]; omega
            | false =>
              as_aux_lemma =>
                have htx := fun u => text_any ⟨xd, xa, xn, xs, false⟩ Hx.out (Hx.out.n H0.out) u
                have hts := Hx.out.text H0.out
                have htz := textOf_size ⟨xd, xa, xn, xs, false⟩ rfl
                have hxa := Hx.out.ok.at_
                unfold agg at htx
                generalize textOf ⟨xd, xa, xn, xs, false⟩ = tx at *
                simp only at htx htz hxa
                have Htx := Lib.hid htx; clear htx
                have Htz := Lib.hid htz; clear htz
                have Hxa := Lib.hid hxa; clear hxa
                have hld := fun (u : World) (h : u.heap[X]? = some (.cells #[.int .i64 xd, .int .i64 xa, .int .i64 xn, .string xs, .bool false] 33)) => load_row (P := Try.prog) u X 33 33 _ (0, 0) _ h Try.underlying33 rfl (by kernel_rfl)
                have Hld := Lib.hid hld; clear hld
                clear x1 x2
                go_wp2_with fail
                clear x0 x4
                refine wp_region_text [0, 1, 2, 3] [4, 5] [] (by kernel_rfl) (by kernel_rfl) (fun u => u.heap[X]? = some (.cells #[.int .i64 xd, .int .i64 xa, .int .i64 xn, .string xs, .bool false] 33)) HPX.out.rest.2 ?_
                simp only [pick, List.filterMap_cons, List.filterMap_nil, List.getElem?_toArray, List.getElem?_cons_zero, List.getElem?_cons_succ]
                refine take_move (.tmp 7) (.pointer (some ⟨p, 0, none⟩)) rfl rfl rfl ?_
                simp only [Act.put, List.setIfInBounds_toArray, List.set_cons_zero, List.set_cons_succ]
                refine take_one (.pointer (some ⟨X, 1, none⟩)) rfl (fun u hu => by go_simp) ?_
                simp only [Act.put, List.setIfInBounds_toArray, List.set_cons_zero, List.set_cons_succ]
                refine take_load 3 (.tmp 89) ⟨X, 1, none⟩ (.int .i64 xa) rfl rfl rfl (fun u hu => load_int _ _ _ _ (by rw [cell_of_row u X 1 _ _ _ hu]; rfl)) ?_
                simp only [Act.put, List.setIfInBounds_toArray, List.set_cons_zero, List.set_cons_succ]
                refine take_load 33 (.tmp 13) ⟨X, 0, none⟩ (.agg #[.int .i64 xd, .int .i64 xa, .int .i64 xn, .string xs, .bool false]) rfl rfl rfl (fun u hu => Hld.out u hu) ?_
                simp only [Act.put, List.setIfInBounds_toArray, List.set_cons_zero, List.set_cons_succ]
                refine take_done ?_
                refine mid_wp rfl (call_wp 23 [.tmp 91] #[33] #[.agg #[.int .i64 xd, .int .i64 xa, .int .i64 xn, .string xs, .bool false]] rfl rfl rfl ?_)
                refine (Htx.out _).mono ?_; rintro e w2 ⟨rfl, hb2⟩
                have hp2 := HPX.out.new (((Below.refl _ w1).drew).trans hb2)
                refine ⟨_, rfl, hp2.rest.2, ?_⟩
                simp only [Act.put, List.setIfInBounds_toArray, List.set_cons_zero, List.set_cons_succ]
                refine mid_wp rfl (call_wp 13 [.tmp 88, .tmp 90, .tmp 92] #[25, 3, 9] #[.pointer (some ⟨p, 0, none⟩), .int .i64 xa, .string tx] rfl rfl rfl ?_)
                refine (write_all hp2.disk xa Hxa.out tx (by omega) (by omega)).mono ?_; rintro e w3 ⟨rfl, ht3, S3, hS3, hd3⟩
                have hp3 := hp2.turn ht3 hS3 hd3
                refine ⟨_, rfl, hp3.rest.2, ?_⟩
                simp only [Act.put, List.setIfInBounds_toArray, List.set_cons_zero, List.set_cons_succ]
                refine mid_list ?_
                obtain ⟨m, a, hmL, hmf, hma⟩ := Dsk.write_ext d xa tx.data.toList
                have hon := Dsk.write_n d xa tx.data.toList
                have hoo := Dsk.write_ops d xa tx.data.toList
                rw [ba_len] at hoo hma
                generalize (Dsk.write d xa tx.data.toList).1 = d1 at *
                have hl1 : d1.L.length = l0 + m := by rw [hmL, ← Hl0.out]; simp [Dsk.ext, Dsk.news_length]
                obtain ⟨l1v, hl1v⟩ : ∃ l1v, d1.L.length = l1v := ⟨_, rfl⟩
                have hl1n : l1v = l0 + m := by rw [← hl1v, hl1]
                have hmb : m ≤ 512 := by
                  rcases Nat.eq_zero_or_pos m with h | h
                  · omega
                  · have := (hma h).2.2; omega
                rw [Hdn.out] at hon hma
                have Hmf := Lib.hid hmf; clear hmf
                have HmL := Lib.hid hmL; clear hmL
                have Hma := Lib.hid hma; clear hma
                have Hon := Lib.hid hon; clear hon
                have Hl1v := Lib.hid hl1v; clear hl1v
                have HP3 := Lib.hid hp3; clear hp3
                clear hl1 ht3 hS3 hd3 hp2 hb2
                obtain ⟨i0, hi, hi0', hi1, hi2⟩ := info_parts str_info
                have Hi := Lib.hid hi; clear hi
                have Hi0 := Lib.hid hi0'; clear hi0'
                have Hi1 := Lib.hid hi1; clear hi1
                have Hi2 := Lib.hid hi2; clear hi2
                go_wp2_with fail
                apply NoPanic.normal
                go_wp2_with fail
                go_loopw [15] (fun c wr => ∃ j R M2, j ≤ m ∧ c = .int .i64 (j : Int) ∧ M2 ≤ M + 2 * j ∧ ¬ R X ∧ Play W.heap.size W S3 p d1 (fun i => R i ∨ i = X) (BookX R M2 ba bk n (Dsk.now (Dsk.ext d tx.data.toList a j)) (Dsk.aft s2.data.toList (Dsk.ext d tx.data.toList a j)) X (.cells #[.int .i64 xd, .int .i64 xa, .int .i64 xn, .string xs, .bool false] 33)) wr) (fun c _ => m - (intOf c).toNat)
                case atStart => exact ⟨0, R, M, by omega, rfl, by omega, HRX.out, by rw [Dsk.ext_zero]; exact HP3.out⟩
                case round =>
                  clear HP3 HRX
                  obtain ⟨j, R2, M2, hj, rfl, hM2, hRX, hpl⟩ := hrel
                  have HPJ := Lib.hid hpl; clear hpl
                  have HRX := Lib.hid hRX; clear hRX
                  have hlo := loose_any HPJ.out.disk
                  rw [Hl1v.out] at hlo
                  have Hlo := Lib.hid hlo; clear hlo
                  go_wp2_with fail
                  refine Hlo.out.mono ?_; rintro e w' ⟨rfl, rfl⟩
                  clear Hlo
                  by_cases hjm : j < m
                  · obtain ⟨hxaa, han, h64⟩ := Hma.out (by omega)
                    subst hxaa
                    have hxn : (j : Int) < xn := by have := Htz.out; omega
                    have e1 : decide ((j : Int) < (l1v : Int) - (l0 : Int)) = true := decide_eq_true (by omega)
                    have e2 : decide ((j : Int) < xn) = true := decide_eq_true hxn
                    have e4 : decide ((a : Int) + (j : Int) < (n : Int)) = true := decide_eq_true (by omega)
                    have x0 : wr.cell? ⟨X, 0, none⟩ = some (.int .i64 xd) := by rw [cell_of_row wr X 0 _ _ _ HPJ.out.rest.2]; rfl
                    have x1 : wr.cell? ⟨X, 1, none⟩ = some (.int .i64 (a : Int)) := by rw [cell_of_row wr X 1 _ _ _ HPJ.out.rest.2]; rfl
                    have x2 : wr.cell? ⟨X, 2, none⟩ = some (.int .i64 xn) := by rw [cell_of_row wr X 2 _ _ _ HPJ.out.rest.2]; rfl
                    have x3 : wr.cell? ⟨X, 3, none⟩ = some (.string xs) := by rw [cell_of_row wr X 3 _ _ _ HPJ.out.rest.2]; rfl
                    have x4 : wr.cell? ⟨X, 4, none⟩ = some (.bool false) := by rw [cell_of_row wr X 4 _ _ _ HPJ.out.rest.2]; rfl
                    have y0 : 0 ≤ (j : Int) * 64 := by omega
                    have y1 : (j : Int) * 64 ≤ ((j : Int) + 1) * 64 := by omega
                    have y2 : ((j : Int) + 1) * 64 ≤ (tx.size : Int) := by omega
                    go_wp2_with fail
                    refine (Htx.out _).mono ?_; rintro e w4 ⟨rfl, hb4⟩
                    have hp4 := HPJ.out.new hb4
                    clear x0 x1 x2 x3 x4 e1 e2 e4 hb4 HPJ
                    have HP4 := Lib.hid hp4; clear hp4
                    go_wp2_with fail
                    clear y0 y1 y2
                    have hsv := sect_bytes tx j
                    generalize tx.extract (j * 64) ((j + 1) * 64) = sv at *
                    have hsv2 : (.string sv : Value) = secv (Dsk.sect tx.data.toList j) := by rw [← hsv]; unfold secv; rw [ba_eta]
                    have Hsv := Lib.hid hsv2; clear hsv2 hsv
                    obtain ⟨t, ht⟩ : ∃ t : Nat, (a : Int) + (j : Int) = (t : Int) := ⟨a + j, by omega⟩
                    have htn : t < n := by omega
                    have ht2 : a + j = t := by omega
                    have Ht := Lib.hid ht; clear ht
                    have Ht2 := Lib.hid ht2; clear ht2
                    go_cut [] from 94 to 177 (fun wx => ∃ R3, ¬ R3 X ∧ Play W.heap.size W S3 p d1 (fun i => R3 i ∨ i = X) (BookX R3 (M2 + 1) ba bk n (Dsk.now (Dsk.ext d tx.data.toList a (j + 1))) (Dsk.aft s2.data.toList (Dsk.ext d tx.data.toList a j)) X (.cells #[.int .i64 xd, .int .i64 (a : Int), .int .i64 xn, .string xs, .bool false] 33)) wx)
                    case first =>
                      as_aux_lemma =>
                        have hp4 := HP4.out
                        obtain ⟨v, hv, g, o, cap, ts, hL⟩ := hp4.rest.1.a.cell htn
                        obtain rfl := hL.hv
                        have hfr := hp4.rest.1.a.free t
                        have hc := hL.hc
                        have hm := hL.hm
                        have hln := hL.len
                        have hgl := hp4.rest.1.lt g hL.hg
                        have hcells := hL.cells
                        generalize hlst : (Dsk.now (Dsk.ext d tx.data.toList a j)) t = lst at *
                        have hfin : ∀ (w6 : World) (g6 cap6 : Nat), Below w4.heap.size w4 w6 → w6.ownsRow w4.heap.size 9 1 (.slice (some ⟨g6, 0, none⟩) (ts.length + 1 + 1) cap6) (ts.length + 1 + 1) (strvs (ts ++ [⟨lst.toArray⟩]) ++ [.string sv]) → ∃ R3, ¬ R3 X ∧ Play W.heap.size W S3 p d1 (fun i => R3 i ∨ i = X) (BookX R3 (M2 + 1) ba bk n (Dsk.now (Dsk.ext d tx.data.toList a (j + 1))) (Dsk.aft s2.data.toList (Dsk.ext d tx.data.toList a j)) X (.cells #[.int .i64 xd, .int .i64 (a : Int), .int .i64 xn, .string xs, .bool false] 33)) (w6.setCell ⟨ba, t, none⟩ (.slice (some ⟨g6, 0, none⟩) (ts.length + 1 + 1) cap6)) := fun w6 g6 cap6 hb6 hown6 => by
                          obtain ⟨R3, hR3, hp3⟩ := Play.setA hp4 HRX.out hb6 htn (show M2 ≤ M2 + 1 by omega) (v := .slice (some ⟨g6, 0, none⟩) (ts.length + 1 + 1) cap6) (s := Dsk.sect tx.data.toList j) (fun R' hR' => LastAt.own (B := w4.heap.size) (ts := ts ++ [⟨lst.toArray⟩]) (by rw [List.length_append]; rw [Hsv.out] at hown6; exact hown6) (fun i h1 h2 => hR' i (.inr ⟨h1, h2⟩)) (by rw [List.length_append]; simp; omega))
                          refine ⟨R3, hR3, ?_⟩
                          rw [Dsk.now_ext_succ, Ht2.out]
                          exact hp3
                        have Hfin := Lib.hid hfin; clear hfin
                        have Hlst := Lib.hid hlst; clear hlst
                        clear hL
                        have hbl := hp4.rest.1.lt ba hp4.rest.1.a.hb
                        have hXl := row_lt hp4.rest.2
                        have hvd : w4.cell? ⟨ba, t, none⟩ = some (.slice (some ⟨g, o, none⟩) (ts.length + 1) cap) := hv
                        refine wp_region_two [0, 1, 2, 3, 4, 5, 6, 7, 8, 9, 10, 11, 13] 12 14 [15] [16, 17] (by kernel_rfl) (by kernel_rfl) (fun u => u.heap[X]? = some (.cells #[.int .i64 xd, .int .i64 (a : Int), .int .i64 xn, .string xs, .bool false] 33) ∧ u.heap[ba]? = w4.heap[ba]?) ⟨hp4.rest.2, rfl⟩ ?_
                        simp only [pick, List.filterMap_cons, List.filterMap_nil, List.getElem?_toArray, List.getElem?_cons_zero, List.getElem?_cons_succ]
                        refine take_move (.tmp 9) (.slice (some ⟨ba, 0, none⟩) n n) rfl rfl rfl ?_
                        simp only [Act.put, List.setIfInBounds_toArray, List.set_cons_zero, List.set_cons_succ]
                        refine take_one (.pointer (some ⟨X, 1, none⟩)) rfl (fun u hu => by go_simp) ?_
                        simp only [Act.put, List.setIfInBounds_toArray, List.set_cons_zero, List.set_cons_succ]
                        refine take_load 3 (.tmp 130) ⟨X, 1, none⟩ (.int .i64 (a : Int)) rfl rfl rfl (fun u hu => load_int _ _ _ _ (by rw [cell_of_row u X 1 _ _ _ hu.1]; rfl)) ?_
                        simp only [Act.put, List.setIfInBounds_toArray, List.set_cons_zero, List.set_cons_succ]
                        refine take_move (.tmp 15) (.int .i64 (j : Int)) rfl rfl rfl ?_
                        simp only [Act.put, List.setIfInBounds_toArray, List.set_cons_zero, List.set_cons_succ]
                        refine take_one (.int .i64 (t : Int)) rfl (fun u hu => by go_simp; rw [Ht.out]; exact IntWalk.i64_in _ (by omega)) ?_
                        simp only [Act.put, List.setIfInBounds_toArray, List.set_cons_zero, List.set_cons_succ]
                        refine take_move (.tmp 9) (.slice (some ⟨ba, 0, none⟩) n n) rfl rfl rfl ?_
                        simp only [Act.put, List.setIfInBounds_toArray, List.set_cons_zero, List.set_cons_succ]
                        refine take_one (.pointer (some ⟨X, 1, none⟩)) rfl (fun u hu => by go_simp) ?_
                        simp only [Act.put, List.setIfInBounds_toArray, List.set_cons_zero, List.set_cons_succ]
                        refine take_load 3 (.tmp 135) ⟨X, 1, none⟩ (.int .i64 (a : Int)) rfl rfl rfl (fun u hu => load_int _ _ _ _ (by rw [cell_of_row u X 1 _ _ _ hu.1]; rfl)) ?_
                        simp only [Act.put, List.setIfInBounds_toArray, List.set_cons_zero, List.set_cons_succ]
                        refine take_move (.tmp 15) (.int .i64 (j : Int)) rfl rfl rfl ?_
                        simp only [Act.put, List.setIfInBounds_toArray, List.set_cons_zero, List.set_cons_succ]
                        refine take_one (.int .i64 (t : Int)) rfl (fun u hu => by go_simp; rw [Ht.out]; exact IntWalk.i64_in _ (by omega)) ?_
                        simp only [Act.put, List.setIfInBounds_toArray, List.set_cons_zero, List.set_cons_succ]
                        refine take_one (.pointer (some ⟨ba, t, none⟩)) rfl (fun u hu => by go_simp) ?_
                        simp only [Act.put, List.setIfInBounds_toArray, List.set_cons_zero, List.set_cons_succ]
                        refine take_load 45 (.tmp 139) ⟨ba, t, none⟩ (.slice (some ⟨g, o, none⟩) (ts.length + 1) cap) rfl rfl rfl (fun u hu => load_strs _ _ _ _ (by rw [World.cell?_of_block hu.2]; exact hv)) ?_
                        simp only [Act.put, List.setIfInBounds_toArray, List.set_cons_zero, List.set_cons_succ]
                        refine take_move (.tmp 16) (.string sv) rfl rfl rfl ?_
                        simp only [Act.put, List.setIfInBounds_toArray, List.set_cons_zero, List.set_cons_succ]
                        refine take_done ⟨?_, ?_⟩
                        · refine mid_wp rfl (wp_append_at (.const (.slice none 0 0)) (.tmp 140) 45 rfl w4.heap.size 9 i0 _ 1 16 Try.underlying45 Hi.out Hi0.out Hi1.out Hi2.out (by rfl) (by decide) (.slice none 0 0) 0 [] rfl (World.ownsRow_nil _ _ _ _) ⟨g, o, none⟩ (ts.length + 1) cap (strvs (ts ++ [⟨lst.toArray⟩])) rfl (by rw [strvs_length]; simp) (fun i u hu => by rw [add_off]; exact hcells i u hu) (strvs_one _) (by unfold maxLen; omega) (by omega) (Nat.le_refl _) ?_)
                          intro v5 w5 hown5 hg5
                          have hb5 : Below w4.heap.size w4 w5 := ((Below.refl _ w4).drew).grown hg5 (Nat.le_refl _) (fun i hi => by cases hi)
                          clear hg5
                          rw [List.nil_append, Nat.zero_add] at hown5
                          have hs5 := hb5.size
                          refine ⟨⟨row_below hp4.rest.2 hb5 hXl, hb5.block ba hbl⟩, ?_⟩
                          simp only [Act.put, List.setIfInBounds_toArray, List.set_cons_zero, List.set_cons_succ]
                          have hb5' : Below w4.heap.size w4 (w5.alloc (.cells #[.string sv] 9)) := hb5.alloc hs5 _
                          refine mid_one (w' := w5.alloc (.cells #[.string sv] 9)) (.slice (some ⟨w5.heap.size, 0, none⟩) 1 1) rfl (run_slice_op 45 1 [(0, .tmp 142)] rfl (slice_str _ w5)) ⟨row_below hp4.rest.2 hb5' hXl, hb5'.block ba hbl⟩ ?_
                          simp only [Act.put, List.setIfInBounds_toArray, List.set_cons_zero, List.set_cons_succ]
                          refine mid_wp rfl (wp_append_lies _ (.tmp 141) (.tmp 143) 45 rfl w4.heap.size 9 i0 _ 1 16 Try.underlying45 Hi.out Hi0.out Hi1.out Hi2.out (by rfl) (by decide) v5 (ts.length + 1) (strvs (ts ++ [⟨lst.toArray⟩])) rfl (hown5.alloc _) ⟨w5.heap.size, 0, none⟩ 1 1 [.string sv] rfl rfl (World.news_of_block (cs := #[.string sv]) (heap_alloc_new w5 _)) (by intro u hu; simp at hu; subst hu; rfl) (by decide) (by unfold maxLen; omega) (by omega) (by simp; omega) (w5.heap.size + 1) (by simp) ?_)
                          intro g6 cap6 w6 hown6 hg6 hat6 hgl6
                          have hb6 : Below w4.heap.size w4 w6 := hb5'.grown hg6 (by simp; omega) (fun i hi => (World.ownsRow.lt hown5 i hi).1)
                          refine ⟨⟨row_below hp4.rest.2 hb6 hXl, hb6.block ba hbl⟩, mid_list ?_⟩
                          have y6 : w6.cell? ⟨ba, t, none⟩ = some (.slice (some ⟨g, o, none⟩) (ts.length + 1) cap) := by rw [World.cell?_of_block (hb6.block ba hbl)]; exact hv
                          have z6 : w6.frozen? ⟨ba, t, none⟩ = false := by rw [World.frozen?_of_block (hb6.block ba hbl)]; exact hfr
                          have hend6 := Hfin.out w6 g6 cap6 hb6 hown6
                          have Hend6 := Lib.hid hend6; clear hend6
                          clear hown5 hs5 hb5 hb5' hown6 hg6 hat6 hgl6 hb6 hv hvd hbl hXl
                          go_wp2_with fail
                          apply NoPanic.normal
                          go_wp2_with fail
                          go_meet
                          case rel => exact Hend6.out
                        · have hs5 : w4.heap.size < (w4.drew.alloc (.cells #[.string sv] 9)).heap.size := by simp
                          have hb5 : Below w4.heap.size w4 (w4.drew.alloc (.cells #[.string sv] 9)) := ((Below.refl _ w4).drew).alloc (Nat.le_refl _) _
                          have hrow5 : (w4.drew.alloc (.cells #[.string sv] 9)).heap[w4.heap.size]? = some (.cells #[.string sv] 9 (0, 0)) := heap_alloc_new w4.drew _
                          refine mid_one (w' := w4.drew.alloc (.cells #[.string sv] 9)) (.slice (some ⟨w4.heap.size, 0, none⟩) 1 1) rfl (run_slice_op 45 1 [(0, .tmp 142)] rfl (slice_str _ w4.drew)) ⟨row_below hp4.rest.2 hb5 hXl, hb5.block ba hbl⟩ ?_
                          simp only [Act.put, List.setIfInBounds_toArray, List.set_cons_zero, List.set_cons_succ]
                          generalize w4.drew.alloc (.cells #[.string sv] 9) = w5 at *
                          refine mid_wp rfl (wp_append_at (.const (.slice none 0 0)) (.tmp 140) 45 rfl w4.heap.size 9 i0 _ 1 16 Try.underlying45 Hi.out Hi0.out Hi1.out Hi2.out (by rfl) (by decide) (.slice none 0 0) 0 [] rfl (World.ownsRow_nil _ _ _ _) ⟨g, o, none⟩ (ts.length + 1) cap (strvs (ts ++ [⟨lst.toArray⟩])) rfl (by rw [strvs_length]; simp) (fun i u hu => by rw [add_off, World.cell?_of_block (hb5.block g hgl)]; exact hcells i u hu) (strvs_one _) (by unfold maxLen; omega) (by omega) (by omega) ?_)
                          intro v6 w6 hown6 hg6
                          have hb56 : Below w5.heap.size w5 w6 := (Below.refl _ w5).grown hg6 (Nat.le_refl _) (fun i hi => by cases hi)
                          have hb6 : Below w4.heap.size w4 w6 := hb5.trans (hb56.mono (by omega))
                          clear hg6
                          rw [List.nil_append, Nat.zero_add] at hown6
                          have hrow6 := row_below hrow5 hb56 hs5
                          refine ⟨⟨row_below hp4.rest.2 hb6 hXl, hb6.block ba hbl⟩, ?_⟩
                          simp only [Act.put, List.setIfInBounds_toArray, List.set_cons_zero, List.set_cons_succ]
                          have hs6 := hb6.size
                          refine mid_wp rfl (wp_append_lies _ (.tmp 141) (.tmp 143) 45 rfl w4.heap.size 9 i0 _ 1 16 Try.underlying45 Hi.out Hi0.out Hi1.out Hi2.out (by rfl) (by decide) v6 (ts.length + 1) (strvs (ts ++ [⟨lst.toArray⟩])) rfl hown6 ⟨w4.heap.size, 0, none⟩ 1 1 [.string sv] rfl rfl (World.news_of_block (cs := #[.string sv]) hrow6) (by intro u hu; simp at hu; subst hu; rfl) (by decide) (by unfold maxLen; omega) (by omega) hs6 w6.heap.size rfl ?_)
                          intro g6 cap6 w7 hown7 hg7 hat7 hgl7
                          have hb7 : Below w4.heap.size w4 w7 := hb6.grown hg7 hs6 (fun i hi => (World.ownsRow.lt hown6 i hi).1)
                          refine ⟨⟨row_below hp4.rest.2 hb7 hXl, hb7.block ba hbl⟩, mid_list ?_⟩
                          have y6 : w7.cell? ⟨ba, t, none⟩ = some (.slice (some ⟨g, o, none⟩) (ts.length + 1) cap) := by rw [World.cell?_of_block (hb7.block ba hbl)]; exact hv
                          have z6 : w7.frozen? ⟨ba, t, none⟩ = false := by rw [World.frozen?_of_block (hb7.block ba hbl)]; exact hfr
                          have hend6 := Hfin.out w7 g6 cap6 hb7 hown7
                          have Hend6 := Lib.hid hend6; clear hend6
                          clear hs5 hb5 hrow5 hown6 hb56 hb6 hrow6 hs6 hown7 hg7 hat7 hgl7 hb7 hv hvd hbl hXl
                          go_wp2_with fail
                          apply NoPanic.normal
                          go_wp2_with fail
                          go_meet
                          case rel => exact Hend6.out
                    case rest =>
                     as_aux_lemma =>
                      obtain ⟨R3, hR3, hp5⟩ := hcut
                      have HR3 := Lib.hid hR3; clear hR3
                      have HP5 := Lib.hid hp5; clear hp5
                      clear HP4
                      have hnk : ¬ (s2.data.toList ≠ [] ∧ Dsk.odd s2.data.toList (d.L.length + j) = true) → ∃ R6 M6, M6 ≤ M + 2 * (j + 1) ∧ ¬ R6 X ∧ Play W.heap.size W S3 p d1 (fun i => R6 i ∨ i = X) (BookX R6 M6 ba bk n (Dsk.now (Dsk.ext d tx.data.toList a (j + 1))) (Dsk.aft s2.data.toList (Dsk.ext d tx.data.toList a (j + 1))) X (.cells #[.int .i64 xd, .int .i64 (a : Int), .int .i64 xn, .string xs, .bool false] 33)) wc := fun h => ⟨R3, M2 + 1, by omega, HR3.out, by rw [Dsk.aft_ext_succ, if_neg h]; exact HP5.out⟩
                      rw [Hl0.out] at hnk
                      have Hnk := Lib.hid hnk; clear hnk
                      by_cases hks0 : s2.size = 0
                      · have hemp := Hnk.out (fun h => h.1 (List.eq_nil_of_length_eq_zero (by rw [ba_len]; exact hks0)))
                        have Hemp := Lib.hid hemp; clear hemp
                        go_wp2_with fail
                        go_roundw
                        case rel =>
                          obtain ⟨R6, M6, h1, h2, h3⟩ := Hemp.out
                          exact ⟨j + 1, R6, M6, by omega, by go_num, h1, h2, h3⟩
                        case measure => simp [intOf]; omega
                      · have hkp : 0 < s2.size := by omega
                        have hkne : s2.data.toList ≠ [] := fun e => hks0 (by rw [← ba_len, e]; rfl)
                        obtain ⟨r, hrq⟩ : ∃ r, r = (l0 + j) % s2.size := ⟨_, rfl⟩
                        have hqs : r < s2.size := by rw [hrq]; exact Nat.mod_lt _ hkp
                        have hodd : Dsk.odd s2.data.toList (l0 + j) = (s2[r].toNat % 2 == 1) := by
                          unfold Dsk.odd
                          rw [ba_len, ← hrq, List.getD_eq_getElem?_getD, List.getElem?_eq_getElem (by rw [ba_len]; exact hqs), Option.getD_some, ba_get s2 r hqs]
                        have hqt : Int.tmod ((l0 : Int) + (j : Int)) (s2.size : Int) = (r : Int) := by rw [Int.tmod_eq_emod_of_nonneg (by omega), hrq, Int.natCast_emod, Int.natCast_add]
                        have hk0 : ¬ ((s2.size : Nat) : Int) = 0 := by omega
                        have hw3 : IntKind.i64.wrap (r : Int) = (r : Int) := IntWalk.i64_in _ (by omega)
                        have htq : ((r : Int)).toNat = r := by omega
                        have q0 : (0 : Int) ≤ (r : Int) := by omega
                        have q1 : (r : Int) < (s2.size : Int) := by omega
                        have Hrq := Lib.hid hrq; clear hrq
                        have Hodd := Lib.hid hodd; clear hodd
                        have Hkne := Lib.hid hkne; clear hkne
                        cases ho : Dsk.odd s2.data.toList (l0 + j) with
                        | true =>
                          have hob : (((s2[r].toNat : Nat) : Int) % 2 == 1) = true := by
                            have h1 := Hodd.out
                            rw [ho] at h1
                            have h2 : s2[r].toNat % 2 = 1 := by simpa using h1.symm
                            rw [beq_iff_eq]; omega
                          have hkeep : s2.data.toList ≠ [] ∧ Dsk.odd s2.data.toList (d.L.length + j) = true := ⟨Hkne.out, by rw [Hl0.out]; exact ho⟩
                          have Hkeep := Lib.hid hkeep; clear hkeep
                          have Ho := Lib.hid ho; clear ho
                          go_wp2_with fail
                          clear hqt hk0 hw3
                          as_aux_lemma =>
                            obtain ⟨v, hv, g, o, cap, ts, hL⟩ := HP5.out.rest.1.k.cell htn
                            obtain rfl := hL.hv
                            have hfr := HP5.out.rest.1.k.free t
                            have hc := hL.hc
                            have hm := hL.hm
                            have hln := hL.len
                            have hgl := HP5.out.rest.1.lt g hL.hg
                            have hcells := hL.cells
                            generalize hlst : (Dsk.aft s2.data.toList (Dsk.ext d tx.data.toList a j)) t = lst at *
                            have hfin : ∀ (w6 : World) (g6 cap6 : Nat), Below wc.heap.size wc w6 → w6.ownsRow wc.heap.size 9 1 (.slice (some ⟨g6, 0, none⟩) (ts.length + 1 + 1) cap6) (ts.length + 1 + 1) (strvs (ts ++ [⟨lst.toArray⟩]) ++ [.string sv]) → ∃ R3, ¬ R3 X ∧ Play W.heap.size W S3 p d1 (fun i => R3 i ∨ i = X) (BookX R3 ((M2 + 1) + 1) ba bk n (Dsk.now (Dsk.ext d tx.data.toList a (j + 1))) (Dsk.aft s2.data.toList (Dsk.ext d tx.data.toList a (j + 1))) X (.cells #[.int .i64 xd, .int .i64 (a : Int), .int .i64 xn, .string xs, .bool false] 33)) (w6.setCell ⟨bk, t, none⟩ (.slice (some ⟨g6, 0, none⟩) (ts.length + 1 + 1) cap6)) := fun w6 g6 cap6 hb6 hown6 => by
                              obtain ⟨R3, hR3, hp3⟩ := Play.setK HP5.out HR3.out hb6 htn (show (M2 + 1) ≤ (M2 + 1) + 1 by omega) (v := .slice (some ⟨g6, 0, none⟩) (ts.length + 1 + 1) cap6) (s := Dsk.sect tx.data.toList j) (fun R' hR' => LastAt.own (B := wc.heap.size) (ts := ts ++ [⟨lst.toArray⟩]) (by rw [List.length_append]; rw [Hsv.out] at hown6; exact hown6) (fun i h1 h2 => hR' i (.inr ⟨h1, h2⟩)) (by rw [List.length_append]; simp; omega))
                              refine ⟨R3, hR3, ?_⟩
                              rw [Dsk.aft_ext_succ, if_pos Hkeep.out, Ht2.out]
                              exact hp3
                            have Hfin := Lib.hid hfin; clear hfin
                            have Hlst := Lib.hid hlst; clear hlst
                            clear hL
                            have hbl := HP5.out.rest.1.lt bk HP5.out.rest.1.k.hb
                            have hXl := row_lt HP5.out.rest.2
                            have hvd : wc.cell? ⟨bk, t, none⟩ = some (.slice (some ⟨g, o, none⟩) (ts.length + 1) cap) := hv
                            refine wp_region_two [0, 1, 2, 3, 4, 5, 6, 7, 8, 9, 10, 11, 13] 12 14 [15] [16, 17] (by kernel_rfl) (by kernel_rfl) (fun u => u.heap[X]? = some (.cells #[.int .i64 xd, .int .i64 (a : Int), .int .i64 xn, .string xs, .bool false] 33) ∧ u.heap[bk]? = wc.heap[bk]?) ⟨HP5.out.rest.2, rfl⟩ ?_
                            simp only [pick, List.filterMap_cons, List.filterMap_nil, List.getElem?_toArray, List.getElem?_cons_zero, List.getElem?_cons_succ]
                            refine take_move (.tmp 10) (.slice (some ⟨bk, 0, none⟩) n n) rfl rfl rfl ?_
                            simp only [Act.put, List.setIfInBounds_toArray, List.set_cons_zero, List.set_cons_succ]
                            refine take_one (.pointer (some ⟨X, 1, none⟩)) rfl (fun u hu => by go_simp) ?_
                            simp only [Act.put, List.setIfInBounds_toArray, List.set_cons_zero, List.set_cons_succ]
                            refine take_load 3 (.tmp 162) ⟨X, 1, none⟩ (.int .i64 (a : Int)) rfl rfl rfl (fun u hu => load_int _ _ _ _ (by rw [cell_of_row u X 1 _ _ _ hu.1]; rfl)) ?_
                            simp only [Act.put, List.setIfInBounds_toArray, List.set_cons_zero, List.set_cons_succ]
                            refine take_move (.tmp 15) (.int .i64 (j : Int)) rfl rfl rfl ?_
                            simp only [Act.put, List.setIfInBounds_toArray, List.set_cons_zero, List.set_cons_succ]
                            refine take_one (.int .i64 (t : Int)) rfl (fun u hu => by go_simp; rw [Ht.out]; exact IntWalk.i64_in _ (by omega)) ?_
                            simp only [Act.put, List.setIfInBounds_toArray, List.set_cons_zero, List.set_cons_succ]
                            refine take_move (.tmp 10) (.slice (some ⟨bk, 0, none⟩) n n) rfl rfl rfl ?_
                            simp only [Act.put, List.setIfInBounds_toArray, List.set_cons_zero, List.set_cons_succ]
                            refine take_one (.pointer (some ⟨X, 1, none⟩)) rfl (fun u hu => by go_simp) ?_
                            simp only [Act.put, List.setIfInBounds_toArray, List.set_cons_zero, List.set_cons_succ]
                            refine take_load 3 (.tmp 167) ⟨X, 1, none⟩ (.int .i64 (a : Int)) rfl rfl rfl (fun u hu => load_int _ _ _ _ (by rw [cell_of_row u X 1 _ _ _ hu.1]; rfl)) ?_
                            simp only [Act.put, List.setIfInBounds_toArray, List.set_cons_zero, List.set_cons_succ]
                            refine take_move (.tmp 15) (.int .i64 (j : Int)) rfl rfl rfl ?_
                            simp only [Act.put, List.setIfInBounds_toArray, List.set_cons_zero, List.set_cons_succ]
                            refine take_one (.int .i64 (t : Int)) rfl (fun u hu => by go_simp; rw [Ht.out]; exact IntWalk.i64_in _ (by omega)) ?_
                            simp only [Act.put, List.setIfInBounds_toArray, List.set_cons_zero, List.set_cons_succ]
                            refine take_one (.pointer (some ⟨bk, t, none⟩)) rfl (fun u hu => by go_simp) ?_
                            simp only [Act.put, List.setIfInBounds_toArray, List.set_cons_zero, List.set_cons_succ]
                            refine take_load 45 (.tmp 171) ⟨bk, t, none⟩ (.slice (some ⟨g, o, none⟩) (ts.length + 1) cap) rfl rfl rfl (fun u hu => load_strs _ _ _ _ (by rw [World.cell?_of_block hu.2]; exact hv)) ?_
                            simp only [Act.put, List.setIfInBounds_toArray, List.set_cons_zero, List.set_cons_succ]
                            refine take_move (.tmp 16) (.string sv) rfl rfl rfl ?_
                            simp only [Act.put, List.setIfInBounds_toArray, List.set_cons_zero, List.set_cons_succ]
                            refine take_done ⟨?_, ?_⟩
                            · refine mid_wp rfl (wp_append_at (.const (.slice none 0 0)) (.tmp 172) 45 rfl wc.heap.size 9 i0 _ 1 16 Try.underlying45 Hi.out Hi0.out Hi1.out Hi2.out (by rfl) (by decide) (.slice none 0 0) 0 [] rfl (World.ownsRow_nil _ _ _ _) ⟨g, o, none⟩ (ts.length + 1) cap (strvs (ts ++ [⟨lst.toArray⟩])) rfl (by rw [strvs_length]; simp) (fun i u hu => by rw [add_off]; exact hcells i u hu) (strvs_one _) (by unfold maxLen; omega) (by omega) (Nat.le_refl _) ?_)
                              intro v5 w5 hown5 hg5
                              have hb5 : Below wc.heap.size wc w5 := ((Below.refl _ wc).drew).grown hg5 (Nat.le_refl _) (fun i hi => by cases hi)
                              clear hg5
                              rw [List.nil_append, Nat.zero_add] at hown5
                              have hs5 := hb5.size
                              refine ⟨⟨row_below HP5.out.rest.2 hb5 hXl, hb5.block bk hbl⟩, ?_⟩
                              simp only [Act.put, List.setIfInBounds_toArray, List.set_cons_zero, List.set_cons_succ]
                              have hb5' : Below wc.heap.size wc (w5.alloc (.cells #[.string sv] 9)) := hb5.alloc hs5 _
                              refine mid_one (w' := w5.alloc (.cells #[.string sv] 9)) (.slice (some ⟨w5.heap.size, 0, none⟩) 1 1) rfl (run_slice_op 45 1 [(0, .tmp 174)] rfl (slice_str _ w5)) ⟨row_below HP5.out.rest.2 hb5' hXl, hb5'.block bk hbl⟩ ?_
                              simp only [Act.put, List.setIfInBounds_toArray, List.set_cons_zero, List.set_cons_succ]
                              refine mid_wp rfl (wp_append_lies _ (.tmp 173) (.tmp 175) 45 rfl wc.heap.size 9 i0 _ 1 16 Try.underlying45 Hi.out Hi0.out Hi1.out Hi2.out (by rfl) (by decide) v5 (ts.length + 1) (strvs (ts ++ [⟨lst.toArray⟩])) rfl (hown5.alloc _) ⟨w5.heap.size, 0, none⟩ 1 1 [.string sv] rfl rfl (World.news_of_block (cs := #[.string sv]) (heap_alloc_new w5 _)) (by intro u hu; simp at hu; subst hu; rfl) (by decide) (by unfold maxLen; omega) (by omega) (by simp; omega) (w5.heap.size + 1) (by simp) ?_)
                              intro g6 cap6 w6 hown6 hg6 hat6 hgl6
                              have hb6 : Below wc.heap.size wc w6 := hb5'.grown hg6 (by simp; omega) (fun i hi => (World.ownsRow.lt hown5 i hi).1)
                              refine ⟨⟨row_below HP5.out.rest.2 hb6 hXl, hb6.block bk hbl⟩, mid_list ?_⟩
                              have y6 : w6.cell? ⟨bk, t, none⟩ = some (.slice (some ⟨g, o, none⟩) (ts.length + 1) cap) := by rw [World.cell?_of_block (hb6.block bk hbl)]; exact hv
                              have z6 : w6.frozen? ⟨bk, t, none⟩ = false := by rw [World.frozen?_of_block (hb6.block bk hbl)]; exact hfr
                              have hend6 := Hfin.out w6 g6 cap6 hb6 hown6
                              have Hend6 := Lib.hid hend6; clear hend6
                              clear hown5 hs5 hb5 hb5' hown6 hg6 hat6 hgl6 hb6 hv hvd hbl hXl
                              go_wp2_with fail
                              apply NoPanic.normal
                              go_wp2_with fail
                              go_roundw
                              case rel =>
                                obtain ⟨R6, hR6, hp6⟩ := Hend6.out
                                exact ⟨j + 1, R6, M2 + 2, by omega, by go_num, by omega, hR6, hp6⟩
                              case measure => simp [intOf]; omega
                            · have hs5 : wc.heap.size < (wc.drew.alloc (.cells #[.string sv] 9)).heap.size := by simp
                              have hb5 : Below wc.heap.size wc (wc.drew.alloc (.cells #[.string sv] 9)) := ((Below.refl _ wc).drew).alloc (Nat.le_refl _) _
                              have hrow5 : (wc.drew.alloc (.cells #[.string sv] 9)).heap[wc.heap.size]? = some (.cells #[.string sv] 9 (0, 0)) := heap_alloc_new wc.drew _
                              refine mid_one (w' := wc.drew.alloc (.cells #[.string sv] 9)) (.slice (some ⟨wc.heap.size, 0, none⟩) 1 1) rfl (run_slice_op 45 1 [(0, .tmp 174)] rfl (slice_str _ wc.drew)) ⟨row_below HP5.out.rest.2 hb5 hXl, hb5.block bk hbl⟩ ?_
                              simp only [Act.put, List.setIfInBounds_toArray, List.set_cons_zero, List.set_cons_succ]
                              generalize wc.drew.alloc (.cells #[.string sv] 9) = w5 at *
                              refine mid_wp rfl (wp_append_at (.const (.slice none 0 0)) (.tmp 172) 45 rfl wc.heap.size 9 i0 _ 1 16 Try.underlying45 Hi.out Hi0.out Hi1.out Hi2.out (by rfl) (by decide) (.slice none 0 0) 0 [] rfl (World.ownsRow_nil _ _ _ _) ⟨g, o, none⟩ (ts.length + 1) cap (strvs (ts ++ [⟨lst.toArray⟩])) rfl (by rw [strvs_length]; simp) (fun i u hu => by rw [add_off, World.cell?_of_block (hb5.block g hgl)]; exact hcells i u hu) (strvs_one _) (by unfold maxLen; omega) (by omega) (by omega) ?_)
                              intro v6 w6 hown6 hg6
                              have hb56 : Below w5.heap.size w5 w6 := (Below.refl _ w5).grown hg6 (Nat.le_refl _) (fun i hi => by cases hi)
                              have hb6 : Below wc.heap.size wc w6 := hb5.trans (hb56.mono (by omega))
                              clear hg6
                              rw [List.nil_append, Nat.zero_add] at hown6
                              have hrow6 := row_below hrow5 hb56 hs5
                              refine ⟨⟨row_below HP5.out.rest.2 hb6 hXl, hb6.block bk hbl⟩, ?_⟩
                              simp only [Act.put, List.setIfInBounds_toArray, List.set_cons_zero, List.set_cons_succ]
                              have hs6 := hb6.size
                              refine mid_wp rfl (wp_append_lies _ (.tmp 173) (.tmp 175) 45 rfl wc.heap.size 9 i0 _ 1 16 Try.underlying45 Hi.out Hi0.out Hi1.out Hi2.out (by rfl) (by decide) v6 (ts.length + 1) (strvs (ts ++ [⟨lst.toArray⟩])) rfl hown6 ⟨wc.heap.size, 0, none⟩ 1 1 [.string sv] rfl rfl (World.news_of_block (cs := #[.string sv]) hrow6) (by intro u hu; simp at hu; subst hu; rfl) (by decide) (by unfold maxLen; omega) (by omega) hs6 w6.heap.size rfl ?_)
                              intro g6 cap6 w7 hown7 hg7 hat7 hgl7
                              have hb7 : Below wc.heap.size wc w7 := hb6.grown hg7 hs6 (fun i hi => (World.ownsRow.lt hown6 i hi).1)
                              refine ⟨⟨row_below HP5.out.rest.2 hb7 hXl, hb7.block bk hbl⟩, mid_list ?_⟩
                              have y6 : w7.cell? ⟨bk, t, none⟩ = some (.slice (some ⟨g, o, none⟩) (ts.length + 1) cap) := by rw [World.cell?_of_block (hb7.block bk hbl)]; exact hv
                              have z6 : w7.frozen? ⟨bk, t, none⟩ = false := by rw [World.frozen?_of_block (hb7.block bk hbl)]; exact hfr
                              have hend6 := Hfin.out w7 g6 cap6 hb7 hown7
                              have Hend6 := Lib.hid hend6; clear hend6
                              clear hs5 hb5 hrow5 hown6 hb56 hb6 hrow6 hs6 hown7 hg7 hat7 hgl7 hb7 hv hvd hbl hXl
                              go_wp2_with fail
                              apply NoPanic.normal
                              go_wp2_with fail
                              go_roundw
                              case rel =>
                                obtain ⟨R6, hR6, hp6⟩ := Hend6.out
                                exact ⟨j + 1, R6, M2 + 2, by omega, by go_num, by omega, hR6, hp6⟩
                              case measure => simp [intOf]; omega
                        | false =>
                          have hob : (((s2[r].toNat : Nat) : Int) % 2 == 1) = false := by
                            have h1 := Hodd.out
                            rw [ho] at h1
                            have h2 : ¬ s2[r].toNat % 2 = 1 := by simpa using h1.symm
                            rw [beq_eq_false_iff_ne]; omega
                          have hemp := Hnk.out (fun h => by rw [ho] at h; exact Bool.noConfusion h.2)
                          have Hemp := Lib.hid hemp; clear hemp
                          have Ho := Lib.hid ho; clear ho
                          go_wp2_with fail
                          go_roundw
                          case rel =>
                            obtain ⟨R6, M6, h1, h2, h3⟩ := Hemp.out
                            exact ⟨j + 1, R6, M6, by omega, by go_num, h1, h2, h3⟩
                          case measure => simp [intOf]; omega
                  · have hjm2 : j = m := by omega
                    have e1 : decide ((j : Int) < (l1v : Int) - (l0 : Int)) = false := decide_eq_false (by omega)
                    have hfin := HPJ.out.noX
                    rw [hjm2] at hfin
                    rw [Dsk.now_of (e := d1) HmL.out.symm Hmf.out.symm, Dsk.aft_of s2.data.toList (e := d1) HmL.out.symm Hmf.out.symm] at hfin
                    have Hfin := Lib.hid hfin; clear hfin
                    clear hjm2
                    go_wp2_with fail
                    go_roundw
                    case rel => exact ⟨k + 1, d1, S3, R2, M2, by omega, by go_num, Hon.out, by omega, by omega, Hfin.out⟩
                    case measure => simp [intOf]; omega
          · have e0 : (xd == 0) = false := by rw [beq_eq_false_iff_ne]; exact h0
            clear x4
            by_cases h2 : xd = 2
            · have e2 : (xd == 2) = true := by rw [beq_iff_eq]; exact h2
              clear x1 x2
              as_aux_lemma =>
                by_cases hd : d.down = true
                · have hfl := flush_down HPX.out.disk hd
                  have Hfl := Lib.hid hfl; clear hfl
                  have H0 := Lib.hid h0; clear h0
                  have H2 := Lib.hid h2; clear h2
                  go_wp2_with fail
                  refine Hfl.out.mono ?_; rintro e w' ⟨rfl, rfl⟩
                  go_wp2_with fail
                  go_roundw
                  case rel => exact ⟨k + 1, d, S, R, M, by omega, by go_num, Hdn.out, by omega, by omega, HPX.out.noX⟩
                  case measure => simp [intOf]; omega
                · have hfl := flush_any HPX.out.disk (by simpa using hd) (by omega)
                  have Hfl := Lib.hid hfl; clear hfl
                  have H0 := Lib.hid h0; clear h0
                  have H2 := Lib.hid h2; clear h2
                  have Hd := Lib.hid hd; clear hd
                  go_wp2_with fail
                  refine Hfl.out.mono ?_; rintro e w2 ⟨rfl, ht2, S2, hS2, hd2⟩
                  have hp2 := HPX.out.turn ht2 hS2 hd2
                  have HP2 := Lib.hid hp2; clear hp2
                  clear ht2 hS2 hd2 x0
                  go_wp2_with fail
                  go_loopw [17] (fun c wr => ∃ j R, j ≤ n ∧ c = .int .i64 (j : Int) ∧ ¬ R X ∧ Play W.heap.size W S2 p (Dsk.settle d [1]) (fun i => R i ∨ i = X) (BookX R M ba bk n (Dsk.now d) (Dsk.mix (Dsk.now d) (Dsk.aft s2.data.toList d) j) X (.cells #[.int .i64 xd, .int .i64 xa, .int .i64 xn, .string xs, .bool xr] 33)) wr) (fun c _ => n - (intOf c).toNat)
                  case atStart => exact ⟨0, R, by omega, rfl, HRX.out, by rw [Dsk.mix_zero]; exact HP2.out⟩
                  case round =>
                    clear HP2 HRX
                    obtain ⟨j, R2, hj, rfl, hRX, hpl⟩ := hrel
                    have HPJ := Lib.hid hpl; clear hpl
                    have HRX := Lib.hid hRX; clear hRX
                    by_cases hjn : j < n
                    · obtain ⟨v, hv, g, o, cap, ts, hL⟩ := HPJ.out.rest.1.a.cell hjn
                      obtain rfl := hL.hv
                      obtain ⟨vk, hvk⟩ := HPJ.out.rest.1.k.here hjn
                      have hc := hL.hc
                      have hm := hL.hm
                      have hln := hL.len
                      have htl := hL.tail
                      have hfa := HPJ.out.rest.1.a.free j
                      have hfk := HPJ.out.rest.1.k.free j
                      have hne := HPJ.out.rest.1.ne
                      have hbw : Below wr.heap.size wr wr.drew := (Below.refl _ wr).drew
                      obtain ⟨R3, hR3, hp3⟩ := HPJ.out.setA HRX.out hbw hjn (Nat.le_refl M) (v := .slice (some ⟨g, o + ts.length, none⟩) 1 (cap - ts.length)) (s := Dsk.now d j) (fun R' hR' => (htl.keep (fun i hi => hbw.block i (HPJ.out.rest.1.lt i hi))).relax (fun i hi => hR' i (.inl hi)) (Nat.le_refl _))
                      rw [upd_id] at hp3
                      obtain ⟨ca, g1, g2, _⟩ := HPJ.out.rest.1.a.row
                      have ca3 : (wr.drew.setCell ⟨ba, j, none⟩ (.slice (some ⟨g, o + ts.length, none⟩) 1 (cap - ts.length))).cell? ⟨ba, j, none⟩ = some (.slice (some ⟨g, o + ts.length, none⟩) 1 (cap - ts.length)) := by
                        rw [cell_of_row _ ba j _ _ _ (heap_setCell_same wr.drew ba j _ _ _ g1), Array.getElem?_setIfInBounds_self_of_lt (by omega)]
                      obtain ⟨u, hu, hLu⟩ := hp3.rest.1.a.cell hjn
                      rw [ca3] at hu
                      obtain rfl := Option.some.inj hu
                      obtain ⟨R4, hR4, hp4⟩ := hp3.setK hR3 (Below.refl _ _) hjn (Nat.le_refl M) (fun R' hR' => hLu.relax (fun i hi => hR' i (.inl hi)) (Nat.le_refl _))
                      rw [← Dsk.mix_succ] at hp4
                      have e6 := heap_setCell_other wr.drew ⟨ba, j, none⟩ bk (.slice (some ⟨g, o + ts.length, none⟩) 1 (cap - ts.length)) (fun e => hne e.symm)
                      have ck3 : (wr.drew.setCell ⟨ba, j, none⟩ (.slice (some ⟨g, o + ts.length, none⟩) 1 (cap - ts.length))).cell? ⟨bk, j, none⟩ = some vk := by rw [World.cell?_of_block e6]; exact hvk
                      have fk3 : (wr.drew.setCell ⟨ba, j, none⟩ (.slice (some ⟨g, o + ts.length, none⟩) 1 (cap - ts.length))).frozen? ⟨bk, j, none⟩ = false := by rw [World.frozen?_of_block e6]; exact hfk
                      have hvd : wr.drew.cell? ⟨ba, j, none⟩ = some (.slice (some ⟨g, o, none⟩) (ts.length + 1) cap) := hv
                      have hfd : wr.drew.frozen? ⟨ba, j, none⟩ = false := hfa
                      have ca5 : (wr.setCell ⟨ba, j, none⟩ (.slice (some ⟨g, o + ts.length, none⟩) 1 (cap - ts.length))).cell? ⟨ba, j, none⟩ = some (.slice (some ⟨g, o + ts.length, none⟩) 1 (cap - ts.length)) := ca3
                      have ck5 : (wr.setCell ⟨ba, j, none⟩ (.slice (some ⟨g, o + ts.length, none⟩) 1 (cap - ts.length))).cell? ⟨bk, j, none⟩ = some vk := ck3
                      have fk5 : (wr.setCell ⟨ba, j, none⟩ (.slice (some ⟨g, o + ts.length, none⟩) 1 (cap - ts.length))).frozen? ⟨bk, j, none⟩ = false := fk3
                      clear ca3 ck3 fk3
                      have HP4 := Lib.hid hp4; clear hp4
                      have HR4 := Lib.hid hR4; clear hR4
                      clear hL htl hbw hp3 hR3 g1 g2 hu hLu e6 hvk hfa hfk
                      generalize ts.length = q at *
                      go_wp2_with fail
                      refine wp_region_text [0, 1, 2, 3, 4, 5, 6, 7, 8, 9, 10, 11, 12] [] [13, 14] (by kernel_rfl) (by kernel_rfl) (fun u => u.heap[ba]? = wr.heap[ba]?) rfl ?_
                      simp only [pick, List.filterMap_cons, List.filterMap_nil, List.getElem?_toArray, List.getElem?_cons_zero, List.getElem?_cons_succ]
                      refine take_move (.tmp 9) (.slice (some ⟨ba, 0, none⟩) n n) rfl rfl rfl ?_
                      simp only [Act.put, List.setIfInBounds_toArray, List.set_cons_zero, List.set_cons_succ]
                      refine take_move (.tmp 17) (.int .i64 (j : Int)) rfl rfl rfl ?_
                      simp only [Act.put, List.setIfInBounds_toArray, List.set_cons_zero, List.set_cons_succ]
                      refine take_move (.tmp 9) (.slice (some ⟨ba, 0, none⟩) n n) rfl rfl rfl ?_
                      simp only [Act.put, List.setIfInBounds_toArray, List.set_cons_zero, List.set_cons_succ]
                      refine take_move (.tmp 17) (.int .i64 (j : Int)) rfl rfl rfl ?_
                      simp only [Act.put, List.setIfInBounds_toArray, List.set_cons_zero, List.set_cons_succ]
                      refine take_one (.pointer (some ⟨ba, j, none⟩)) rfl (fun u hu => by go_simp) ?_
                      simp only [Act.put, List.setIfInBounds_toArray, List.set_cons_zero, List.set_cons_succ]
                      refine take_load 45 (.tmp 192) ⟨ba, j, none⟩ (.slice (some ⟨g, o, none⟩) (q + 1) cap) rfl rfl rfl (fun u hu => load_strs _ _ _ _ (by rw [World.cell?_of_block hu]; exact hv)) ?_
                      simp only [Act.put, List.setIfInBounds_toArray, List.set_cons_zero, List.set_cons_succ]
                      refine take_move (.tmp 9) (.slice (some ⟨ba, 0, none⟩) n n) rfl rfl rfl ?_
                      simp only [Act.put, List.setIfInBounds_toArray, List.set_cons_zero, List.set_cons_succ]
                      refine take_move (.tmp 17) (.int .i64 (j : Int)) rfl rfl rfl ?_
                      simp only [Act.put, List.setIfInBounds_toArray, List.set_cons_zero, List.set_cons_succ]
                      refine take_one (.pointer (some ⟨ba, j, none⟩)) rfl (fun u hu => by go_simp) ?_
                      simp only [Act.put, List.setIfInBounds_toArray, List.set_cons_zero, List.set_cons_succ]
                      refine take_load 45 (.tmp 196) ⟨ba, j, none⟩ (.slice (some ⟨g, o, none⟩) (q + 1) cap) rfl rfl rfl (fun u hu => load_strs _ _ _ _ (by rw [World.cell?_of_block hu]; exact hv)) ?_
                      simp only [Act.put, List.setIfInBounds_toArray, List.set_cons_zero, List.set_cons_succ]
                      refine take_one (.int .i64 ((q : Int) + 1)) rfl (fun u hu => by go_simp) ?_
                      simp only [Act.put, List.setIfInBounds_toArray, List.set_cons_zero, List.set_cons_succ]
                      refine take_one (.int .i64 (q : Int)) rfl (fun u hu => by go_simp; exact IntWalk.i64_in _ (by omega)) ?_
                      simp only [Act.put, List.setIfInBounds_toArray, List.set_cons_zero, List.set_cons_succ]
                      refine take_one (.slice (some ⟨g, o + q, none⟩) 1 (cap - q)) rfl (fun u hu => by go_simp; rw [if_pos (by omega), if_neg (by omega)]) ?_
                      simp only [Act.put, List.setIfInBounds_toArray, List.set_cons_zero, List.set_cons_succ]
                      refine take_done ?_
                      refine mid_list ?_
                      clear hv
                      go_wp2_with fail
                      apply NoPanic.normal
                      go_wp2_with fail
                      go_roundw
                      case rel => exact ⟨j + 1, R4, by omega, by go_num, HR4.out, HP4.out⟩
                      case measure => simp [intOf]; omega
                    · have hjn2 : j = n := by omega
                      rw [hjn2] at HPJ ⊢
                      clear hjn hj hjn2
                      have hfin := HPJ.out.noX.congr (f' := Dsk.now (Dsk.settle d [1])) (g' := Dsk.aft s2.data.toList (Dsk.settle d [1])) (fun i _ => by rw [Dsk.now_settle]) (fun i hi => by rw [Dsk.aft_settle]; unfold Dsk.mix; rw [if_pos hi])
                      have Hfin := Lib.hid hfin; clear hfin
                      go_wp2_with fail
                      go_roundw
                      case rel => exact ⟨k + 1, Dsk.settle d [1], S2, R2, M, by omega, by go_num, Hdn.out, by show d.ops ≤ _; omega, by omega, Hfin.out⟩
                      case measure => simp [intOf]; omega
            · have e2 : (xd == 2) = false := by rw [beq_eq_false_iff_ne]; exact h2
              by_cases h3 : xd = 3
              · have e3 : (xd == 3) = true := by rw [beq_iff_eq]; exact h3
                have hfu := fuse_any HPX.out.disk xn Hx.out.ok.n
                have Hfu := Lib.hid hfu; clear hfu
                have H0 := Lib.hid h0; clear h0
                have H2 := Lib.hid h2; clear h2
                have H3 := Lib.hid h3; clear h3
                clear x1
                go_wp2_with fail
                refine Hfu.out.mono ?_; rintro e w2 ⟨rfl, ht2, hd2⟩
                have hp2 := HPX.out.turn (ht2.mono (fun j _ (e : j = p) => by rw [e]; exact HPX.out.disk.hp)) (fun j hj => .inl hj) hd2
                have HP2 := Lib.hid hp2; clear hp2
                clear ht2 hd2 x0 x2
                go_wp2_with fail
                go_roundw
                case rel => exact ⟨k + 1, { d with fuse := xn }, S, R, M, by omega, by go_num, Hdn.out, by show d.ops ≤ _; omega, by omega, HP2.out.noX⟩
                case measure => simp [intOf]; omega
              · have e3 : (xd == 3) = false := by rw [beq_eq_false_iff_ne]; exact h3
                have H0 := Lib.hid h0; clear h0
                have H2 := Lib.hid h2; clear h2
                have H3 := Lib.hid h3; clear h3
                clear x1 x2
                go_wp2_with fail
                go_roundw
                case rel => exact ⟨k + 1, d, S, R, M, by omega, by go_num, Hdn.out, by omega, by omega, HPX.out.noX⟩
                case measure => simp [intOf]; omega
        · have hkl : k = len1 := by omega
          as_aux_lemma =>
            rw [hkl] at hops hM ⊢
            clear hkl hlt hk
            have hdw := down_any HP.out.disk
            obtain ⟨dn, hdn2⟩ : ∃ dn, d.down = dn := ⟨_, rfl⟩
            rw [hdn2] at hdw
            have Hdw := Lib.hid hdw; clear hdw
            have Hdn2 := Lib.hid hdn2; clear hdn2
            go_wp2_with fail
            refine Hdw.out.mono ?_; rintro e w' ⟨rfl, rfl⟩
            clear Hdw
            cases dn with
            | true =>
              have HPT := HP
              clear HP
              as_aux_lemma =>
                have hcr := crash_any HPT.out.disk s2 (by omega) (by omega)
                have Hcr := Lib.hid hcr; clear hcr
                go_wp2_with fail
                refine Hcr.out.mono ?_; rintro e w2 ⟨rfl, ht2, S2, hS2, hd2⟩
                have hp2 := HPT.out.turn ht2 hS2 hd2
                have HPC := Lib.hid hp2; clear hp2
                clear ht2 hS2 hd2
                go_wp2_with fail
                go_loopw [21] (fun c wr => ∃ j, j ≤ n ∧ c = .int .i64 (j : Int) ∧ Play W.heap.size W S2 p (Dsk.crash d s2.data.toList) R (Book R M ba bk n n (Dsk.now d) (Dsk.aft s2.data.toList d)) wr) (fun c _ => n - (intOf c).toNat)
                case atStart => exact ⟨0, by omega, rfl, HPC.out⟩
                case round =>
                  clear HPC
                  obtain ⟨j, hj, rfl, hpl⟩ := hrel
                  have HPJ := Lib.hid hpl; clear hpl
                  by_cases hjn : j < n
                  · have hrd := read_good HPJ.out.disk rfl j 1 (by show j + 1 ≤ d.n; have := Hdn.out; omega)
                    obtain ⟨z, hz⟩ : ∃ z : ByteArray, z = ⟨(Dsk.aft s2.data.toList d j).toArray⟩ := ⟨_, rfl⟩
                    rw [rd_one, Dsk.now_crash, ← hz] at hrd
                    have Hz := Lib.hid hz; clear hz
                    have Hrd := Lib.hid hrd; clear hrd
                    go_wp2_with fail
                    refine Hrd.out.mono ?_; rintro e w3 ⟨rfl, hb3⟩
                    have hp3 := HPJ.out.new hb3
                    obtain ⟨v, hv, g, o, cap, ts, hL⟩ := hp3.rest.k.cell hjn
                    obtain rfl := hL.hv
                    have hlc := hL.lastCell
                    rw [show secv (Dsk.aft s2.data.toList d j) = .string z by rw [Hz.out]; rfl] at hlc
                    have hc := hL.hc
                    have hm := hL.hm
                    have hln := hL.len
                    have HP3 := Lib.hid hp3; clear hp3
                    clear hL hb3
                    generalize ts.length = q at *
                    go_wp2_with fail
                    go_quiet (fail)
                    go_wp2_with fail
                    go_roundw
                    case rel => exact ⟨j + 1, by omega, by go_num, HP3.out.new (drewN_below (Below.refl _ w3) _)⟩
                    case measure => simp [intOf]; omega
                  · have hlo := loose_any HPJ.out.disk
                    rw [show (Dsk.crash d s2.data.toList).L.length = 0 from rfl] at hlo
                    have hdo := down_any HPJ.out.disk
                    rw [show (Dsk.crash d s2.data.toList).down = false from rfl] at hdo
                    have Hlo := Lib.hid hlo; clear hlo
                    have Hdo := Lib.hid hdo; clear hdo
                    go_wp2_with fail
                    refine Hlo.out.mono ?_; rintro e w' ⟨rfl, rfl⟩
                    go_wp2_with fail
                    refine Hdo.out.mono ?_; rintro e w' ⟨rfl, rfl⟩
                    go_wp2_with fail
                    refine (Hend.out _ HPJ.out.below).mono ?_; rintro e wz ⟨rfl, hwz⟩
                    go_wp2_with fail
                    go_ret
                    exact ⟨rfl, hwz⟩
            | false =>
              go_wp2_with fail
              go_loopw [18] (fun c wr => ∃ j, j ≤ n ∧ c = .int .i64 (j : Int) ∧ Play W.heap.size W S p d R (Book R M ba bk n n (Dsk.now d) (Dsk.aft s2.data.toList d)) wr) (fun c _ => n - (intOf c).toNat)
              case atStart => exact ⟨0, by omega, rfl, HP.out⟩
              case round =>
                clear HP
                obtain ⟨j, hj, rfl, hpl⟩ := hrel
                have HPJ := Lib.hid hpl; clear hpl
                by_cases hjn : j < n
                · have hrd := read_good HPJ.out.disk Hdn2.out j 1 (by have := Hdn.out; omega)
                  obtain ⟨z, hz⟩ : ∃ z : ByteArray, z = ⟨(Dsk.now d j).toArray⟩ := ⟨_, rfl⟩
                  rw [rd_one, ← hz] at hrd
                  have Hz := Lib.hid hz; clear hz
                  have Hrd := Lib.hid hrd; clear hrd
                  go_wp2_with fail
                  refine Hrd.out.mono ?_; rintro e w3 ⟨rfl, hb3⟩
                  have hp3 := HPJ.out.new hb3
                  obtain ⟨v, hv, g, o, cap, ts, hL⟩ := hp3.rest.a.cell hjn
                  obtain rfl := hL.hv
                  have hlc := hL.lastCell
                  rw [show secv (Dsk.now d j) = .string z by rw [Hz.out]; rfl] at hlc
                  have hc := hL.hc
                  have hm := hL.hm
                  have hln := hL.len
                  have HP3 := Lib.hid hp3; clear hp3
                  clear hL hb3
                  generalize ts.length = q at *
                  go_wp2_with fail
                  go_quiet (fail)
                  go_wp2_with fail
                  go_roundw
                  case rel => exact ⟨j + 1, by omega, by go_num, HP3.out.new (drewN_below (Below.refl _ w3) _)⟩
                  case measure => simp [intOf]; omega
                · have HPT := HPJ
                  clear HPJ
                  as_aux_lemma =>
                    have hcr := crash_any HPT.out.disk s2 (by omega) (by omega)
                    have Hcr := Lib.hid hcr; clear hcr
                    go_wp2_with fail
                    refine Hcr.out.mono ?_; rintro e w2 ⟨rfl, ht2, S2, hS2, hd2⟩
                    have hp2 := HPT.out.turn ht2 hS2 hd2
                    have HPC := Lib.hid hp2; clear hp2
                    clear ht2 hS2 hd2
                    go_wp2_with fail
                    go_loopw [21] (fun c wr => ∃ j, j ≤ n ∧ c = .int .i64 (j : Int) ∧ Play W.heap.size W S2 p (Dsk.crash d s2.data.toList) R (Book R M ba bk n n (Dsk.now d) (Dsk.aft s2.data.toList d)) wr) (fun c _ => n - (intOf c).toNat)
                    case atStart => exact ⟨0, by omega, rfl, HPC.out⟩
                    case round =>
                      clear HPC
                      obtain ⟨j, hj, rfl, hpl⟩ := hrel
                      have HPJ := Lib.hid hpl; clear hpl
                      by_cases hjn : j < n
                      · have hrd := read_good HPJ.out.disk rfl j 1 (by show j + 1 ≤ d.n; have := Hdn.out; omega)
                        obtain ⟨z, hz⟩ : ∃ z : ByteArray, z = ⟨(Dsk.aft s2.data.toList d j).toArray⟩ := ⟨_, rfl⟩
                        rw [rd_one, Dsk.now_crash, ← hz] at hrd
                        have Hz := Lib.hid hz; clear hz
                        have Hrd := Lib.hid hrd; clear hrd
                        go_wp2_with fail
                        refine Hrd.out.mono ?_; rintro e w3 ⟨rfl, hb3⟩
                        have hp3 := HPJ.out.new hb3
                        obtain ⟨v, hv, g, o, cap, ts, hL⟩ := hp3.rest.k.cell hjn
                        obtain rfl := hL.hv
                        have hlc := hL.lastCell
                        rw [show secv (Dsk.aft s2.data.toList d j) = .string z by rw [Hz.out]; rfl] at hlc
                        have hc := hL.hc
                        have hm := hL.hm
                        have hln := hL.len
                        have HP3 := Lib.hid hp3; clear hp3
                        clear hL hb3
                        generalize ts.length = q at *
                        go_wp2_with fail
                        go_quiet (fail)
                        go_wp2_with fail
                        go_roundw
                        case rel => exact ⟨j + 1, by omega, by go_num, HP3.out.new (drewN_below (Below.refl _ w3) _)⟩
                        case measure => simp [intOf]; omega
                      · have hlo := loose_any HPJ.out.disk
                        rw [show (Dsk.crash d s2.data.toList).L.length = 0 from rfl] at hlo
                        have hdo := down_any HPJ.out.disk
                        rw [show (Dsk.crash d s2.data.toList).down = false from rfl] at hdo
                        have Hlo := Lib.hid hlo; clear hlo
                        have Hdo := Lib.hid hdo; clear hdo
                        go_wp2_with fail
                        refine Hlo.out.mono ?_; rintro e w' ⟨rfl, rfl⟩
                        go_wp2_with fail
                        refine Hdo.out.mono ?_; rintro e w' ⟨rfl, rfl⟩
                        go_wp2_with fail
                        refine (Hend.out _ HPJ.out.below).mono ?_; rintro e wz ⟨rfl, hwz⟩
                        go_wp2_with fail
                        go_ret
                        exact ⟨rfl, hwz⟩

theorem contract (H : Type) (enc : TypeId × Value → H) (W : World) (base : Nat) (args : Array Value) (ds gs : List (DataW H)) (before : List MemPlace)
    (hval : ∀ (j : Nat) t v, Try.f4.params[j]? = some t → args[j]? = some v → Value.okWide Try.prog W .any base t v)
    (hW : DataW.Whole enc Try.prog Try.f4.params.toList Rows.diskKeepsSpec.vars false W args.toList ds gs before)
    (hsz : (DataW.weightsEach Try.prog (Try.f4.params.toList ++ Rows.diskKeepsSpec.plain.varTypes Try.prog) (ds ++ gs)).all (· ≤ reachBytes) = true) :
    Calls Try.prog 4 args W fun e W' => ∃ v, e = .returned v ∧ Rows.diskKeepsSpec.post enc Try.prog Try.f4 false true false false W args v W' := by
  have hW' := hW
  obtain ⟨p, q, hA0, hV, rfl, hfz, hnd⟩ := hW
  have hA : DataW.TrodAll enc Try.prog W 0 (fun _ => true) true Try.f4.params.toList args.toList ds p := hA0
  rw [Try.params4] at hA hval hsz
  obtain ⟨v0, vs0, d0, ds0, p0, q0, hargs, rfl, rfl, h0, r0⟩ := trodAll_cons hA
  obtain ⟨v1, vs1, d1, ds1, p1, q1, rfl, rfl, rfl, h1, r1⟩ := trodAll_cons r0
  obtain ⟨v2, vs2, d2, ds2, p2, q2, rfl, rfl, rfl, h2, r2⟩ := trodAll_cons r1
  obtain ⟨rfl, rfl, rfl⟩ := trodAll_nil r2
  obtain rfl : args = #[v0, v1, v2] := by cases args; simp_all
  obtain ⟨rfl, rfl⟩ := trodVars_none hV
  obtain ⟨n0, rfl, rfl, rfl, w0⟩ := open_int Try.underlying3 (hval 0 3 v0 rfl rfl) h0
  obtain ⟨a1, len1, cap1, rfl⟩ := okWide_slice Try.underlying22 (hval 1 22 v1 rfl rfl)
  have k1 := h1
  have lt1 : ∀ x ∈ p1, x.block < W.heap.size := by obtain ⟨m, hm⟩ := k1; exact DataW.trod_lt m _ _ _ hm
  obtain ⟨fuel1, hf1⟩ := h1
  obtain ⟨l1, hst1, hok1, hll1, hnil1⟩ := open_steps Try.underlying22 Try.underlying33 rfl rfl rfl rfl rfl Try.underlying3 Try.underlying9 Try.underlying4 (by kernel_rfl) (by kernel_rfl) (by kernel_rfl) hf1 (fun n hn => by
    have := List.all_eq_true.1 hsz n (by
      simp only [List.cons_append, DataW.weightsEach]
      exact List.mem_append_right _ (List.mem_append_left _ hn))
    simpa using this)
  obtain ⟨s2, rfl, rfl, rfl, m2⟩ := open_string Try.underlying9 (hval 2 9 v2 rfl rfl) h2
  clear hA0
  have z2 : s2.size ≤ 140737488351232 := by
    have := List.all_eq_true.1 hsz s2.data.toList.length (by simp [DataW.weightsEach, DataW.weights])
    rw [ba_len] at this
    exact of_decide_eq_true this
  refine (walk n0 a1 len1 cap1 l1 s2 W w0 hst1 hok1 hll1 z2).mono fun e W' ⟨he, bel⟩ => ?_
  subst he
  exact ⟨_, rfl, _, _, _, [], _, [], hW', trodAll_mk1 (shut_bool Try.underlying4 _), (trodAll_cons_mk (shut_int Try.underlying3 w0) (trodAll_cons_mk (Below.trod laidOut (by kernel_rfl) (of_decide_eq_true (by kernel_rfl)) k1 bel lt1) (trodAll_cons_mk (shut_string Try.underlying9 m2) trodAll_mk0))), rfl, bel.frame _, fun h => by cases h⟩

set_option maxRecDepth 100000 in
theorem lifted (os : Os) (started : os.Started) (H : Type) (enc : TypeId × Value → H) :
    ReturnsInHanded {} Try.checked os 4 .any (Rows.diskKeepsSpec.pre6 enc Try.prog Try.f4 Rows.diskKeepsRow.domain false) (Rows.diskKeepsSpec.post enc Try.prog Try.f4 false true false false) := by
  refine returnsInHanded_of_change_sized (C := Try.checked) own started (by kernel_rfl) Try.func4
    (ChangeSpec.witness6 (enc := enc) (C := Try.checked) false ⟨#[], #[.int .i64 0, .slice none 0 0, .string .empty], []⟩ 8 (by kernel_rfl) (by kernel_rfl) (by kernel_rfl) (by kernel_rfl)) ?_
  intro W base args ds gs before hval hW hcnd hsz _
  exact contract H enc W base args ds gs before hval hW hsz

theorem over : Rows.diskKeepsRow.holds Try.pinned (OpenSpec.ofChange Rows.diskKeepsSpec) :=
  OpenClaim.holds_of_wide 4 Try.f4 rfl rfl rfl rfl rfl rfl rfl ⟨rfl, rfl, rfl, rfl, rfl⟩ rfl rfl rfl rfl rfl (by kernel_rfl) Try.func4 (by kernel_rfl)
    (of_decide_eq_true (by kernel_rfl)) (by unfold Func.isWrapper; first | (rw [if_pos (by decide +kernel)]; kernel_rfl) | (rw [if_neg (by decide +kernel)]; exact ⟨rfl, rfl⟩))
    (fun os started H enc _ => lifted os started H enc)

theorem proved : Rows.DiskKeepsSaid := over

end Go.Proofs.Ytjlkppdailkanaa.lawKeeps
