/-
  Whether two programs are the same, by the document.
-/
import Derived.Test.YtolldoclnfnceaaDoorCodMay
import Derived.Test.YtolldoclnfnceaaDoorGoTxt
set_option linter.unusedVariables false
set_option maxRecDepth 100000
namespace Go.Proofs.YtolldoclnfnceaaDoor
open Go.RowKit

theorem same_iff {α : Type} {d : α} (a b : List α) (h : a.length = b.length) : a = b ↔ ∀ j, j < a.length → a.getD j d = b.getD j d := by
  constructor
  · rintro rfl; exact fun _ _ => rfl
  · intro hj
    apply List.ext_getElem h
    intro i h1 h2
    have := hj i h1
    rw [List.getD_eq_getElem?_getD, List.getD_eq_getElem?_getD, List.getElem?_eq_getElem h1, List.getElem?_eq_getElem h2] at this
    exact this
theorem BoxAt.new2 (w : World) (x y : Pv) (T : TypeId) : BoxAt w.heap.size x ((w.alloc (.cells #[.slice x.a x.n x.c, .slice x.b x.m x.d] T)).alloc (.cells #[.slice y.a y.n y.c, .slice y.b y.m y.d] T)) ∧ BoxAt (w.heap.size + 1) y ((w.alloc (.cells #[.slice x.a x.n x.c, .slice x.b x.m x.d] T)).alloc (.cells #[.slice y.a y.n y.c, .slice y.b y.m y.d] T)) := by
  refine ⟨(BoxAt.new w x T).keep (obj_below _ _), ?_⟩
  have := BoxAt.new (w.alloc (.cells #[.slice x.a x.n x.c, .slice x.b x.m x.d] T)) y T
  rwa [show (w.alloc (.cells #[.slice x.a x.n x.c, .slice x.b x.m x.d] T)).heap.size = w.heap.size + 1 by simp] at this

set_option maxHeartbeats 4000000 in
theorem refSame12_any {x y : Pv} {ts us : List ByteArray} {cs ds : List Cod.In} {w : World} (hx : PrAt x ts cs w) (hy : PrAt y us ds w) (hn : x.n ≤ 140737488355328) (hm : x.m ≤ 140737488355328) :
    Calls Tryd.prog 15 #[x.v, y.v] w fun e w' => e = .returned (.bool (decide (ts = us ∧ cs = ds))) ∧ Below w.heap.size w w' := by
  obtain ⟨R, hR⟩ : ∃ R, R = decide (ts = us ∧ cs = ds) := ⟨_, rfl⟩
  rw [← hR]
  have hs1 := same_iff (d := ByteArray.empty) ts us
  have hs2 := same_iff (d := ((0, 0) : Cod.In)) cs ds
  have hl1 : ts = us → ts.length = us.length := fun e => by rw [e]
  have hl2 : cs = ds → cs.length = ds.length := fun e => by rw [e]
  rw [hx.n, hy.n] at hs1 hl1
  rw [hx.m, hy.m] at hs2 hl2
  have ht := hx.t
  have hi := hx.i
  have kt := hy.t
  have ki := hy.i
  clear hx hy
  obtain ⟨xa, xn, xc, xb, xm, xd⟩ := x
  obtain ⟨ya, yn, yc, yb, ym, yd⟩ := y
  simp only at hn hm ht hi kt ki hs1 hs2 hl1 hl2
  unfold Pv.v
  have hb := (obj_below w (.cells #[.slice xa xn xc, .slice xb xm xd] 25)).trans ((obj_below (w.alloc (.cells #[.slice xa xn xc, .slice xb xm xd] 25)) (.cells #[.slice ya yn yc, .slice yb ym yd] 25)).mono (obj_below w _).size)
  have hbx := BoxAt.new2 w ⟨xa, xn, xc, xb, xm, xd⟩ ⟨ya, yn, yc, yb, ym, yd⟩ 25
  simp only at hbx
  have HB0 := Lib.hid hbx; clear hbx
  have Hb := Lib.hid hb; clear hb
  have HR := Lib.hid hR; clear hR
  have Ht := Lib.hid ht; clear ht
  have Hi := Lib.hid hi; clear hi
  have Kt := Lib.hid kt; clear kt
  have Ki := Lib.hid ki; clear ki
  have Hs1 := Lib.hid hs1; clear hs1
  have Hs2 := Lib.hid hs2; clear hs2
  have Hl1 := Lib.hid hl1; clear hl1
  have Hl2 := Lib.hid hl2; clear hl2
  by_cases g1 : xn = yn
  · subst g1
    by_cases g2 : xm = ym
    · subst g2
      go_enter Tryd.func15, Tryd.ntmps15
      go_wp2_with fail
      go_loopw [5] (fun i wr => ∃ k : Nat, k ≤ xn ∧ i = .int .i64 (k : Int) ∧ (∀ j, j < k → ts.getD j .empty = us.getD j .empty) ∧ Below w.heap.size w wr ∧ BoxAt w.heap.size ⟨xa, xn, xc, xb, xm, xd⟩ wr ∧ BoxAt (w.heap.size + 1) ⟨ya, xn, yc, yb, xm, yd⟩ wr) (fun i _ => xn - (intOf i).toNat)
      case atStart => exact ⟨0, Nat.zero_le _, rfl, fun j hj => by omega, Hb.out, HB0.out.1, HB0.out.2⟩
      case round =>
        clear HB0 Hb
        obtain ⟨k, hk, rfl, hz, hb, hbx, hby⟩ := hrel
        have Hz := Lib.hid hz; clear hz
        have Hb := Lib.hid hb; clear hb
        have cx0 := hbx.c0
        have cx1 := hbx.c1
        have cy0 := hby.c0
        have cy1 := hby.c1
        simp only at cx0 cx1 cy0 cy1
        have Hbx := Lib.hid hbx; clear hbx
        have Hby := Lib.hid hby; clear hby
        by_cases hlt : k < xn
        · have hlt2 : (k : Int) < (xn : Int) := by omega
          obtain ⟨b1, o1, rfl, c1⟩ := (Ht.out.keep Hb.out).2 k hlt
          obtain ⟨b2, o2, rfl, c2⟩ := (Kt.out.keep Hb.out).2 k hlt
          obtain ⟨y1, hy1⟩ : ∃ y, y = ts.getD k .empty := ⟨_, rfl⟩
          obtain ⟨y2, hy2⟩ : ∃ y, y = us.getD k .empty := ⟨_, rfl⟩
          rw [← hy1] at c1
          rw [← hy2] at c2
          by_cases he : y1 = y2
          · have heq : (y1.toList == y2.toList) = true := by rw [he]; exact beq_self_eq_true _
            have Hq : ts.getD k .empty = us.getD k .empty := by rw [← hy1, ← hy2, he]
            have HQ := Lib.hid Hq; clear Hq hy1 hy2 he
            go_wp2_with fail
            go_region
            go_wp2_with fail
            go_roundw
            case rel => exact ⟨k + 1, by omega, by go_num, fun j hj => by
              by_cases e : j = k
              · subst e; exact HQ.out
              · exact Hz.out j (by omega), Hb.out.drew, Hbx.out.keep ((Below.refl _ _).drew), Hby.out.keep ((Below.refl _ _).drew)⟩
            case measure => simp [intOf]; omega
          · have heq : (y1.toList == y2.toList) = false := beq_eq_false_iff_ne.2 (fun e => he (ba_toList_inj e))
            have hr : R = false := by
              rw [HR.out]
              refine decide_eq_false (fun c => he ?_)
              rw [hy1, hy2, c.1]
            subst hr
            clear he hy1 hy2
            go_wp2_with fail
            go_region
            go_wp2_with fail
            go_ret
            exact ⟨rfl, Hb.out.drew⟩
        · obtain rfl : k = xn := by omega
          have hlt2 : ¬ (k : Int) < (k : Int) := by omega
          have hts : ts = us := (Hs1.out trivial).2 Hz.out
          have Hts := Lib.hid hts; clear hts
          obtain ⟨wo, rfl⟩ : ∃ wo : World, wo = wr := ⟨_, rfl⟩
          clear hlt hk
          go_wp2_with fail
          clear cx0 cx1 cy0 cy1
          go_loopw [6] (fun i wr => ∃ j : Nat, j ≤ xm ∧ i = .int .i64 (j : Int) ∧ (∀ t, t < j → cs.getD t (0, 0) = ds.getD t (0, 0)) ∧ Below w.heap.size w wr ∧ BoxAt w.heap.size ⟨xa, k, xc, xb, xm, xd⟩ wr ∧ BoxAt (w.heap.size + 1) ⟨ya, k, yc, yb, xm, yd⟩ wr) (fun i _ => xm - (intOf i).toNat)
          case atStart => exact ⟨0, Nat.zero_le _, rfl, fun j hj => by omega, Hb.out, Hbx.out, Hby.out⟩
          case round =>
            clear Hb Hbx Hby
            obtain ⟨j, hj, rfl, hzi, hb, hbx, hby⟩ := hrel
            have Hzi := Lib.hid hzi; clear hzi
            have Hb := Lib.hid hb; clear hb
            have cx1 := hbx.c1
            have cy1 := hby.c1
            simp only at cx1 cy1
            have Hbx := Lib.hid hbx; clear hbx
            have Hby := Lib.hid hby; clear hby
            by_cases hlj : j < xm
            · have hlj2 : (j : Int) < (xm : Int) := by omega
              obtain ⟨b1, o1, rfl, c1, c2⟩ := (Hi.out.keep Hb.out).2 j hlj
              obtain ⟨b2, o2, rfl, e1, e2⟩ := (Ki.out.keep Hb.out).2 j hlj
              obtain ⟨y1, hy1⟩ : ∃ y, y = cs.getD j (0, 0) := ⟨_, rfl⟩
              obtain ⟨y2, hy2⟩ : ∃ y, y = ds.getD j (0, 0) := ⟨_, rfl⟩
              rw [← hy1] at c1 c2
              rw [← hy2] at e1 e2
              by_cases he : y1 = y2
              · have Hq : cs.getD j (0, 0) = ds.getD j (0, 0) := by rw [← hy1, ← hy2, he]
                have HQ := Lib.hid Hq; clear Hq hy1 hy2
                subst he
                obtain ⟨p1, p2⟩ := y1
                simp only at c1 c2 e1 e2
                generalize p1.toNat = P1 at *
                generalize p2.toNat = P2 at *
                go_wp2_with fail
                go_region
                go_wp2_with fail
                go_roundw
                case rel => exact ⟨j + 1, by omega, by go_num, fun t ht => by
                  by_cases e : t = j
                  · subst e; exact HQ.out
                  · exact Hzi.out t (by omega), Hb.out.drew, Hbx.out.keep ((Below.refl _ _).drew), Hby.out.keep ((Below.refl _ _).drew)⟩
                case measure => simp [intOf]; omega
              · have hr : R = false := by
                  rw [HR.out]
                  refine decide_eq_false (fun c => he ?_)
                  rw [hy1, hy2, c.2]
                subst hr
                clear hy1 hy2
                obtain ⟨p1, p2⟩ := y1
                obtain ⟨q1, q2⟩ := y2
                simp only at c1 c2 e1 e2
                have hne : p1.toNat ≠ q1.toNat ∨ p2.toNat ≠ q2.toNat := by
                  by_cases e : p1.toNat = q1.toNat
                  · refine .inr (fun e' => he ?_)
                    rw [UInt8.toNat_inj.1 e, UInt8.toNat_inj.1 e']
                  · exact .inl e
                clear he
                generalize p1.toNat = P1 at *
                generalize p2.toNat = P2 at *
                generalize q1.toNat = Q1 at *
                generalize q2.toNat = Q2 at *
                by_cases hp : P1 = Q1
                · have hp2 : P2 ≠ Q2 := hne.resolve_left (fun c => c hp)
                  subst hp
                  have d2 : ((P2 : Int) == (Q2 : Int)) = false := beq_eq_false_iff_ne.2 (by omega)
                  have d3 : decide ((P2 : Int) = (Q2 : Int)) = false := decide_eq_false (by omega)
                  clear hne
                  go_wp2_with fail
                  go_region
                  go_wp2_with fail
                  go_ret
                  exact ⟨rfl, Hb.out.drew⟩
                · have d2 : ((P1 : Int) == (Q1 : Int)) = false := beq_eq_false_iff_ne.2 (by omega)
                  have d3 : decide ((P1 : Int) = (Q1 : Int)) = false := decide_eq_false (by omega)
                  clear hne
                  go_wp2_with fail
                  go_region
                  go_wp2_with fail
                  go_ret
                  exact ⟨rfl, Hb.out.drew⟩
            · obtain rfl : j = xm := by omega
              have hlj2 : ¬ (j : Int) < (j : Int) := by omega
              have hcs : cs = ds := (Hs2.out trivial).2 Hzi.out
              have hr : R = true := by rw [HR.out]; exact decide_eq_true ⟨Hts.out, hcs⟩
              subst hr
              clear hcs
              go_wp2_with fail
              go_ret
              exact ⟨rfl, Hb.out⟩
    · have hr : R = false := by rw [HR.out]; exact decide_eq_false (fun c => g2 (Hl2.out c.2))
      subst hr
      have hne : ((xm : Int) == (ym : Int)) = false := beq_eq_false_iff_ne.2 (by omega)
      have hne2 : decide ((xm : Int) = (ym : Int)) = false := decide_eq_false (by omega)
      go_enter Tryd.func15, Tryd.ntmps15
      go_wp2_with fail
      go_ret
      exact ⟨rfl, Hb.out⟩
  · have hr : R = false := by rw [HR.out]; exact decide_eq_false (fun c => g1 (Hl1.out c.1))
    subst hr
    have hne : ((xn : Int) == (yn : Int)) = false := beq_eq_false_iff_ne.2 (by omega)
    have hne2 : decide ((xn : Int) = (yn : Int)) = false := decide_eq_false (by omega)
    go_enter Tryd.func15, Tryd.ntmps15
    go_wp2_with fail
    go_ret
    exact ⟨rfl, Hb.out⟩
end Go.Proofs.YtolldoclnfnceaaDoor
