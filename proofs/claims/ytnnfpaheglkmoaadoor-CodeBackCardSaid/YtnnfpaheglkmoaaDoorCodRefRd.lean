/-
  The document's Read: by trying all.
-/
import Derived.Test.YtnnfpaheglkmoaaDoorCodRefLn
set_option linter.unusedVariables false
set_option maxRecDepth 100000
namespace Go.Proofs.YtnnfpaheglkmoaaDoor
open Go.RowKit

theorem rread_results (tmps : Array Value) (g : Nat) (x y e : Value) (W : World) (h2 : tmps.getD 2 undef = .pointer (some ⟨g, 0, none⟩)) (h3 : tmps.getD 3 undef = e) (hg : W.heap[g]? = some (.cells #[x, y] 39 (0, 0))) :
    (results Tryd.f19 tmps).run Tryd.prog W = .ok (.tuple #[.agg #[x, y], e]) W := by
  rw [results_cell_tmp (p := 2) (u := 3) rfl, h2, h3]
  simp [asAddr, run_loadVar_row W g _ 39 #[x, y] _ _ hg Tryd.underlying39 rfl (by kernel_rfl)]
/-- where the search stands -/
def Past (s : List UInt8) (k a : Nat) : Prop := ∀ y, Cod.IsLine s y → k < y.1.toNat ∨ k = y.1.toNat ∧ a ≤ y.2.toNat
theorem Past.start (s : List UInt8) : Past s 1 0 := fun y hy => by have := (Cod.ins_op hy.1).1; omega
theorem Past.step {s : List UInt8} {k a : Nat} (h : Past s k a) (hk : k < 256) (ha : a < 256) (hn : ¬ Cod.IsLine s (Cod.b8 k, Cod.b8 a)) : Past s k (a + 1) := fun y hy => by
  rcases h y hy with h1 | ⟨h1, h2⟩
  · exact .inl h1
  · refine .inr ⟨h1, ?_⟩
    by_cases e : a = y.2.toNat
    · exfalso
      apply hn
      have : y = (Cod.b8 k, Cod.b8 a) := Prod.ext (UInt8.toNat_inj.1 (by rw [Cod.b8_nat (by omega), h1])) (UInt8.toNat_inj.1 (by rw [Cod.b8_nat (by omega), e]))
      rw [← this]
      exact hy
    · omega
theorem Past.next {s : List UInt8} {k : Nat} (h : Past s k 256) : Past s (k + 1) 0 := fun y hy => by
  have := y.2.toNat_lt
  rcases h y hy with h1 | ⟨h1, h2⟩ <;> omega
theorem Past.none {s : List UInt8} (h : Past s 24 0) : ∀ x, ¬ Cod.IsLine s x := fun y hy => by
  have := (Cod.ins_op hy.1).2
  rcases h y hy with h1 | ⟨h1, h2⟩ <;> omega

set_option maxHeartbeats 4000000 in
theorem refRead12_any (s : ByteArray) (w : World) (h : Kn w) : Calls Tryd.prog 19 #[.string s] w fun e w' => ReadR s e ∧ Below w.heap.size w w' := by
  have hb0 := obj_below w (.cells #[.int .u8 0, .int .u8 0] 39)
  have hr0 := heap_alloc_new w (.cells #[.int .u8 0, .int .u8 0] 39)
  have hk0 := h.keep hb0
  have hp0 := Past.start s.data.toList
  have Hb0 := Lib.hid hb0; clear hb0
  have Hr0 := Lib.hid hr0; clear hr0
  have Hk0 := Lib.hid hk0; clear hk0 h
  have Hp0 := Lib.hid hp0; clear hp0
  go_enter Tryd.func19, Tryd.ntmps19
  go_wp2_with fail
  go_loopw [4] (fun i wr => ∃ k : Nat, 1 ≤ k ∧ k ≤ 24 ∧ i = .int .u8 (k : Int) ∧ Past s.data.toList k 0 ∧ Kn wr ∧ Below w.heap.size w wr ∧ wr.heap[w.heap.size]? = some (.cells #[.int .u8 0, .int .u8 0] 39 (0, 0))) (fun i _ => 24 - (intOf i).toNat)
  case atStart => exact ⟨1, Nat.le_refl _, by omega, rfl, Hp0.out, Hk0.out, Hb0.out, Hr0.out⟩
  case round =>
    clear Hp0 Hk0 Hb0 Hr0
    obtain ⟨k, hk1, hk, rfl, hp, hkn, hb, hr⟩ := hrel
    have Hp := Lib.hid hp; clear hp
    have Hkn := Lib.hid hkn; clear hkn
    have Hb := Lib.hid hb; clear hb
    have Hr := Lib.hid hr; clear hr
    obtain ⟨wo, rfl⟩ : ∃ wo : World, wo = wr := ⟨_, rfl⟩
    by_cases hlt : k ≤ 23
    · have d1 : decide ((k : Int) ≤ (23 : Int)) = true := decide_eq_true (by omega)
      have Hk1 := Lib.hid hk1; clear hk1 hk
      have Hlt := Lib.hid hlt; clear hlt
      go_wp2_with fail
      go_loopw [5] (fun i wr => ∃ a : Nat, a ≤ 256 ∧ i = .int .i64 (a : Int) ∧ Past s.data.toList k a ∧ Kn wr ∧ Below w.heap.size w wr ∧ wr.heap[w.heap.size]? = some (.cells #[.int .u8 0, .int .u8 0] 39 (0, 0))) (fun i _ => 256 - (intOf i).toNat)
      case atStart => exact ⟨0, by omega, rfl, Hp.out, Hkn.out, Hb.out, Hr.out⟩
      case round =>
        clear Hp Hkn Hb Hr
        obtain ⟨a, ha, rfl, hp, hkn, hb, hr⟩ := hrel
        have Hp := Lib.hid hp; clear hp
        have Hb := Lib.hid hb; clear hb
        by_cases hla : a < 256
        · have d2 : decide ((a : Int) < (256 : Int)) = true := decide_eq_true (by omega)
          have hwa : IntKind.u8.wrap (a : Int) = (a : Int) := by simp only [IntKind.wrap_u8]; omega
          have hwa1 : IntKind.i64.wrap ((a : Int) + 1) = ((a + 1 : Nat) : Int) := by simp only [IntKind.wrap_i64]; omega
          have hx1 : (Cod.b8 k).toNat = k := Cod.b8_nat (by have := Hlt.out; omega)
          have hx2 : (Cod.b8 a).toNat = a := Cod.b8_nat (by omega)
          have hst := fun hn => Past.step Hp.out (by have := Hlt.out; omega) hla hn
          obtain ⟨x, hx⟩ : ∃ x : Cod.In, x = (Cod.b8 k, Cod.b8 a) := ⟨_, rfl⟩
          have hi := fun u => refIns_any x u
          have hl := fun u h => refLine_any x u h
          have hv : insV x = .agg #[.int .u8 (k : Int), .int .u8 (a : Int)] := by
            unfold insV; rw [hx]; simp only; rw [hx1, hx2]
          rw [← hx] at hst
          rw [hv] at hi hl
          have Hv := Lib.hid hv; clear hv
          have Hst := Lib.hid hst; clear hst
          clear hx hx1 hx2
          have hbx := obj_below wr (.cells #[.int .u8 (k : Int), .int .u8 (a : Int)] 39)
          have hrx := heap_alloc_new wr (.cells #[.int .u8 (k : Int), .int .u8 (a : Int)] 39)
          have Hkx := Lib.hid (hkn.keep hbx); clear hkn
          have Hrx := Lib.hid hrx; clear hrx
          have hr2 := row_below hr hbx (row_lt hr)
          have Hr2 := Lib.hid hr2; clear hr2 hr
          have Hbx := Lib.hid (Hb.out.trans (hbx.mono Hb.out.size)); clear hbx
          have Hl := Lib.hid hl; clear hl
          have Hla := Lib.hid hla; clear hla ha
          cases hins : Cod.ins x with
          | false =>
            rw [hins] at hi
            have Hi := Lib.hid hi; clear hi
            have hn : ¬ Cod.IsLine s.data.toList x := fun c => by have := c.1; rw [hins] at this; cases this
            have Hn := Lib.hid hn; clear hn hins
            go_wp2_with fail
            refine (Hi.out _).mono ?_; rintro e w2 ⟨rfl, h2⟩
            have hk2 := Hkx.out.keep h2
            have hr3 := row_below Hr2.out h2 (row_lt Hr2.out)
            have hb3 := Hbx.out.trans (h2.mono Hbx.out.size)
            have Hk2 := Lib.hid hk2; clear hk2
            have Hr3 := Lib.hid hr3; clear hr3
            have Hb3 := Lib.hid hb3; clear hb3 h2
            go_wp2_with fail
            go_roundw
            case rel => exact ⟨a + 1, by have := Hla.out; omega, by go_num, Hst.out Hn.out, Hk2.out, Hb3.out, Hr3.out⟩
            case measure => have := Hla.out; simp [intOf]; omega
          | true =>
            rw [hins] at hi
            have Hi := Lib.hid hi; clear hi
            go_wp2_with fail
            refine (Hi.out _).mono ?_; rintro e w2 ⟨rfl, h2⟩
            have hk2 := Hkx.out.keep h2
            have hr3 := row_below Hr2.out h2 (row_lt Hr2.out)
            have hrx3 := row_below Hrx.out h2 (row_lt Hrx.out)
            have hb3 := Hbx.out.trans (h2.mono Hbx.out.size)
            have c0 : w2.cell? ⟨wr.heap.size, 0, none⟩ = some (.int .u8 (k : Int)) := by rw [cell_of_row _ _ 0 _ _ _ hrx3]; rfl
            have c1 : w2.cell? ⟨wr.heap.size, 1, none⟩ = some (.int .u8 (a : Int)) := by rw [cell_of_row _ _ 1 _ _ _ hrx3]; rfl
            have Hk2 := Lib.hid hk2; clear hk2
            have Hr3 := Lib.hid hr3; clear hr3
            have Hrx3 := Lib.hid hrx3; clear hrx3
            have Hb3 := Lib.hid hb3; clear hb3 h2
            have Hins := Lib.hid hins; clear hins
            go_wp2_with fail
            refine (Hl.out _ Hk2.out).mono ?_; rintro e w3 ⟨rfl, h3⟩
            have hk3 := Hk2.out.keep h3
            have hr4 := row_below Hr3.out h3 (row_lt Hr3.out)
            have hrx4 := row_below Hrx3.out h3 (row_lt Hrx3.out)
            have hb4 := Hb3.out.trans (h3.mono Hb3.out.size)
            have Hk3 := Lib.hid hk3; clear hk3
            have Hb4 := Lib.hid hb4; clear hb4 h3
            clear c0 c1
            by_cases hln : Cod.line x = s.data.toList
            · have hls : (⟨(Cod.line x).toArray⟩ : ByteArray) = s := by rw [hln, ba_eta]
              rw [hls]
              have hil : Cod.IsLine s.data.toList x := ⟨Hins.out, hln⟩
              have Hil := Lib.hid hil; clear hil hls hln
              have c0 : w3.cell? ⟨wr.heap.size, 0, none⟩ = some (.int .u8 (k : Int)) := by rw [cell_of_row _ _ 0 _ _ _ hrx4]; rfl
              have c1 : w3.cell? ⟨wr.heap.size, 1, none⟩ = some (.int .u8 (a : Int)) := by rw [cell_of_row _ _ 1 _ _ _ hrx4]; rfl
              have a0 : w3.cell? ⟨w.heap.size, 0, none⟩ = some (.int .u8 0) := by rw [cell_of_row _ _ 0 _ _ _ hr4]; rfl
              have a1 : w3.cell? ⟨w.heap.size, 1, none⟩ = some (.int .u8 0) := by rw [cell_of_row _ _ 1 _ _ _ hr4]; rfl
              have f0 := row_free hr4 0
              have f1 := row_free hr4 1
              have Hr4 := Lib.hid hr4; clear hr4 hrx4
              go_wp2_with fail
              refine bodyPost_ret (rread_results _ w.heap.size _ _ _ _ rfl rfl (set_two Hr4.out)) rfl ?_
              exact ⟨.inl ⟨x, Hil.out, by rw [Hv.out]; rfl⟩, (Hb4.out.setCell (Nat.le_refl _) _).setCell (Nat.le_refl _) _⟩
            · have heq : ((⟨(Cod.line x).toArray⟩ : ByteArray).toList == s.toList) = false := by
                refine beq_eq_false_iff_ne.2 (fun e => hln ?_)
                rw [← ba_toList_inj e]
              have hn : ¬ Cod.IsLine s.data.toList x := fun c => hln c.2
              have Hn := Lib.hid hn; clear hn hln
              have Hr4 := Lib.hid hr4; clear hr4 hrx4
              generalize (⟨(Cod.line x).toArray⟩ : ByteArray) = L at *
              go_wp2_with fail
              go_roundw
              case rel => exact ⟨a + 1, by have := Hla.out; omega, by go_num, Hst.out Hn.out, Hk3.out, Hb4.out, Hr4.out⟩
              case measure => have := Hla.out; simp [intOf]; omega
        · obtain rfl : a = 256 := by omega
          have Hkn := Lib.hid hkn; clear hkn
          have Hr := Lib.hid hr; clear hr
          have hwk : IntKind.u8.wrap ((k : Int) + 1) = ((k + 1 : Nat) : Int) := by have := Hlt.out; simp only [IntKind.wrap_u8]; omega
          clear hla ha
          go_wp2_with fail
          go_roundw
          case rel => exact ⟨k + 1, by omega, by have := Hlt.out; omega, by go_num, Hp.out.next, Hkn.out, Hb.out, Hr.out⟩
          case measure => have := Hlt.out; simp [intOf]; omega
    · obtain rfl : k = 24 := by omega
      have hno := Hp.out.none
      have Hno := Lib.hid hno; clear hno
      have hr := Hr.out
      have a0 : wo.cell? ⟨w.heap.size, 0, none⟩ = some (.int .u8 0) := by rw [cell_of_row _ _ 0 _ _ _ hr]; rfl
      have a1 : wo.cell? ⟨w.heap.size, 1, none⟩ = some (.int .u8 0) := by rw [cell_of_row _ _ 1 _ _ _ hr]; rfl
      have f0 := row_free hr 0
      have f1 := row_free hr 1
      clear hr hlt hk hk1
      go_wp2_with fail
      refine bodyPost_ret (rread_results _ w.heap.size _ _ _ _ rfl rfl (set_two Hr.out)) rfl ?_
      exact ⟨.inr ⟨Hno.out, rfl⟩, (Hb.out.setCell (Nat.le_refl _) _).setCell (Nat.le_refl _) _⟩
end Go.Proofs.YtnnfpaheglkmoaaDoor
