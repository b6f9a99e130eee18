/-
  get: what was written to a sector last.
-/
import Derived.Test.YtjlkppdailkanaaDskSmall
import Derived.Deep.MidRow
import Derived.Deep.WholeRow
import Derived.Maps.OwnOps
set_option linter.unusedVariables false
namespace Go.Proofs.Ytjlkppdailkanaa
open Go.RowKit

theorem key_wf (k : Nat) (hk : k ≤ 9223372036854775807) : (Lit.int .i64 (k : Int)).wf = true := by
  simp [Lit.wf]
  exact ⟨by show (-9223372036854775808 : Int) ≤ (k : Int); omega, by omega⟩
theorem keyed : Maps.Keyed Try.prog 3 := Maps.int_keyed Try.underlying3
theorem key_of (k : Nat) (hk : k ≤ 9223372036854775807) : keyOf Try.prog 3 (.int .i64 (k : Int)) = some (Dsk.key k) := Maps.keyOf_int_mk Try.underlying3 (key_wf k hk)
theorem zero_int (w : World) : (zeroValue 3).run Try.prog w = .ok (.int .i64 0) w := by kernel_rfl
theorem zero_sec (w : World) : (zeroValue 63).run Try.prog w = .ok (.agg (u8s Dsk.zer)) w := by kernel_rfl

section
variable {S : Nat → Prop} {p : Nat} {d : Dsk.St} {w : World} {bF bM : Nat} {v : Value} {nf : Nat} {DF : DataW Unit}
theorem DiskIn.lookM (h : DiskIn S p d w bF bM v nf DF) (k : Nat) (hk : k ≤ 9223372036854775807) : ∃ c : Int,
    (Instr.lookup 53 (.map (some bM)) (.int .i64 (k : Int)) true).run Try.prog w = .ok (.tuple #[.int .i64 c, .bool (Maps.has (Dsk.lastD d.L) (Dsk.key k))]) w ∧
    (Dsk.lastD d.L).atKey (Dsk.key k) (.lit (.int .i64 0)) = .lit (.int .i64 c) := by
  obtain ⟨x, ps, hrun, hv⟩ := h.mM.look_ok keyed Try.underlying53 (zero_int w) (plainElem_int Try.underlying3 (by decide)) (key_of k hk)
  obtain ⟨c, rfl, hc, _⟩ := plainElem_int_inv Try.underlying3 hv
  exact ⟨c, hrun, congrArg Prod.fst hc⟩
theorem DiskIn.lookF (h : DiskIn S p d w bF bM v nf DF) (k : Nat) (hk : k ≤ 9223372036854775807) :
    (Instr.lookup 52 (.map (some bF)) (.int .i64 (k : Int)) false).run Try.prog w = .ok (.agg (u8s (d.fl k))) w := by
  obtain ⟨x, ps, hrun, hv⟩ := h.mF.lookup keyed Try.underlying52 (zero_sec w) (secElem_mk Dsk.zer_length) (key_of k hk)
  obtain ⟨rfl, _⟩ := secElem_inv hv (h.rF.2 k)
  exact hrun
theorem DiskIn.rangeL (h : DiskIn S p d w bF bM v nf DF) {g : Nat} (hg : v.ownBlock = some g) {i : Nat} {x : Nat × List UInt8} (hi : d.L[i]? = some x) : w.rangeAt g (i * 65) (wcells x) := by
  intro j u hu
  have h1 := World.ownsRow.cells h.rL hg (i * 65 + j) u (by rw [Nat.mul_comm]; exact lcells_get h.ok.sz hi j u hu)
  have ea : (⟨g, 0, none⟩ : Addr).add (i * 65 + j) = ⟨g, i * 65 + j, none⟩ := by unfold Addr.add; split <;> simp_all
  rw [ea] at h1
  exact h1
end

theorem zer_size : (u8s Dsk.zer).size = 64 := by rw [u8s_size, Dsk.zer_length]
theorem get_any {S : Nat → Prop} {p : Nat} {d : Dsk.St} {w : World} (h : DiskAt S p d w) (k : Nat) (hk : k < d.n) :
    Calls Try.prog 39 #[.pointer (some ⟨p, 0, none⟩), .int .i64 (k : Int)] w fun e w' => e = .returned (.agg (u8s (Dsk.now d k))) ∧ Below w.heap.size w w' := by
  obtain ⟨bF, bM, v, nf, DF, h⟩ := h
  have hd := h.ok.hi
  have hbl : Below w.heap.size w (w.alloc (.cells (u8s Dsk.zer) 63)) := (Below.refl _ w).alloc (Nat.le_refl _) _
  have h1 : DiskIn S p d (w.alloc (.cells (u8s Dsk.zer) 63)) bF bM v nf DF := h.keeps (Turns.of_new hbl (fun _ => False)) (fun _ _ => id)
  obtain ⟨c, hM, hat⟩ := h1.lookM k (by omega)
  have hF := h1.lookF k (by omega)
  have c1 := h1.c1
  have c2 := h1.c2
  have c3 := h1.c3
  have hz := zero_sec
  have hzs := zer_size
  have hi : (Try.prog.info? 63).map (·.size) = some 64 := by kernel_rfl
  have hnl := Dsk.now_length h.ok k
  have hfl := h.ok.fl k
  have hone := u8s_one (Dsk.now d k)
  have hns : (u8s (Dsk.now d k)).size = 64 := by rw [u8s_size, hnl]
  have hnow : Dsk.now d k = Dsk.lay d.L d.fl k := rfl
  have hlook := Dsk.last_look d.L k
  have hrange : ∀ i s g, v.ownBlock = some g → d.L[i]? = some (k, s) → (w.alloc (.cells (u8s Dsk.zer) 63)).rangeAt g (i * 65) (wcells (k, s)) := fun i s g hg hi => h1.rangeL hg hi
  have hvl := h.vlen
  have hpl := row_lt h.row
  clear h h1 hbl hd
  generalize hZ : u8s Dsk.zer = Z at *
  clear hZ
  rcases hlook with ⟨hh, hl⟩ | ⟨hh, i, s, hi1, hi2, hi3, hi4⟩
  · rw [hh] at hM
    have he : Dsk.now d k = d.fl k := by rw [hnow, hl]
    rw [he] at hone hns ⊢
    clear hnow hl hh hat hrange hvl hnl hk he
    have hsz : (Try.prog.info? 63).map (·.size) = some (u8s (d.fl k)).size := by rw [hns]; exact hi
    have hss : Z.size = (u8s (d.fl k)).size := by rw [hzs, hns]
    have Hsz := Lib.hid hsz; clear hsz
    have Hss := Lib.hid hss; clear hss
    have Hone := Lib.hid hone; clear hone
    clear hi hns hzs hfl
    have HM := Lib.hid hM; clear hM
    have HF := Lib.hid hF; clear hF
    go_enter Try.func39, Try.ntmps39
    go_wp2_with (first | (rw [HM.out]; simp only [Result.andThen]; rw [Oper.upon_value]) | (rw [HF.out]; simp only [Result.andThen]; rw [Oper.upon_value]) | (refine wpList_store_whole rfl 63 (.tmp 4) (.tmp 30) rfl w.heap.size (u8s (d.fl k)) rfl rfl _ Z (heap_alloc_new _ _) Hsz.out Hss.out Hone.out ?_; rw [World.setRow_alloc_new]))
    refine bodyPost_ret (v := .agg (u8s (d.fl k))) (results_cell_row (P := Try.prog) rfl _ _ w.heap.size _ (u8s (d.fl k)) (0, 0) _ rfl (heap_alloc_new _ _) Try.underlying63 rfl Hsz.out) rfl ?_
    exact ⟨rfl, (Below.refl _ w).alloc (Nat.le_refl _) _⟩
  · rw [hh] at hM
    have hci : c = (i : Int) := by
      have := hi3 (.lit (.int .i64 0))
      rw [hat] at this
      simpa [Dsk.num] using this
    rw [hci] at hM
    have he : Dsk.now d k = s := by rw [hnow, hi4]
    rcases hvl with ⟨h0, _⟩ | ⟨g, cap, rfl, hcap⟩
    · rw [h0] at hi1; simp at hi1
    · have hr := hrange i s g rfl hi2
      have hr2 : (w.alloc (.cells Z 63)).rangeAt g (i * 65 + 1) (u8s s).toList := fun j u hu => by
        have := hr (j + 1) u (by simpa [wcells] using hu)
        rw [show i * 65 + 1 + j = i * 65 + (j + 1) by omega]
        exact this
      rw [he] at hone hns ⊢
      generalize d.L.length = n at *
      have hsz : (Try.prog.info? 63).map (·.size) = some (u8s s).size := by rw [hns]; exact hi
      have hsl : (Try.prog.info? 63).map (·.size) = some (u8s s).toList.length := by rw [Array.length_toList]; exact hsz
      have hss : Z.size = (u8s s).size := by rw [hzs, hns]
      have Hsz := Lib.hid hsz; clear hsz
      have Hsl := Lib.hid hsl; clear hsl
      have Hss := Lib.hid hss; clear hss
      have Hone := Lib.hid hone; clear hone
      have Hr := Lib.hid hr2; clear hr2
      clear hi hns hzs hfl hnow hi4 hi3 hi2 hat hr hrange hnl hF he hh hci hcap hk
      have i0 : (0 : Int) ≤ (i : Int) := by omega
      have HM := Lib.hid hM; clear hM
      go_enter Try.func39, Try.ntmps39
      go_wp2_with (first | (rw [HM.out]; simp only [Result.andThen]; rw [Oper.upon_value]) | (refine wpList_load_mid rfl 63 (.tmp 23) rfl g (i * 65 + 1) rfl (u8s s).toList _ Hr.out Try.underlying63 rfl Hsl.out ?_) | (refine wpList_store_whole rfl 63 (.tmp 4) (.tmp 24) rfl w.heap.size (u8s s) rfl rfl _ Z (heap_alloc_new _ _) Hsz.out Hss.out Hone.out ?_; rw [World.setRow_alloc_new]))
      trace_state
      refine bodyPost_ret (v := .agg (u8s s)) (results_cell_row (P := Try.prog) rfl _ _ w.heap.size _ (u8s s) (0, 0) _ rfl (heap_alloc_new _ _) Try.underlying63 rfl Hsz.out) rfl ?_
      exact ⟨rfl, (Below.refl _ w).alloc (Nat.le_refl _) _⟩
end Go.Proofs.Ytjlkppdailkanaa
