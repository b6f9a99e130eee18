/-
  VerifyStraight: of two programs that are let be for RoleMap, one behind the other, the program is let be.
  Conditions: none.
-/
import Derived.Test.YtolldoclnfnceaaDoorVerLawC
import Derived.Test.YtolldoclnfnceaaDoorCards
import Derived.Test.YtolldoclnfnceaaDoorTie
import Derived.SevenTiedAt
import Derived.ProofKit
import Derived.OpenShut
import Derived.ShutString
import Derived.ChangeOld
namespace Go.Proofs.YtolldoclnfnceaaDoor.verifyStraight
open Go.ChangeShapes Go.WideShapes Go.ChangeAt Go.RowKit
open Go.ChangeMaps (open_string shut_string)
set_option linter.unusedVariables false
set_option maxRecDepth 100000

/-- what stays from call to call -/
structure S2 (w : World) (x : Pv) (tx : List ByteArray) (cs : List Cod.In) (y : Pv) (ux : List ByteArray) (ds : List Cod.In) (W : World) : Prop where
  v : V2 w x y W
  k : Kn W
  p : PrAt x tx cs W
  q : PrAt y ux ds W
section
variable {w : World} {x : Pv} {tx : List ByteArray} {cs : List Cod.In} {y : Pv} {ux : List ByteArray} {ds : List Cod.In} {W W' : World}
theorem S2.new (h : S2 w x tx cs y ux ds W) (hb : Below W.heap.size W W') : S2 w x tx cs y ux ds W' := ⟨h.v.new hb, h.k.keep hb, h.p.keep hb, h.q.keep hb⟩
theorem S2.p0 (h : S2 w x tx cs y ux ds W) : W.cell? ⟨w.heap.size, 0, none⟩ = some (.slice x.a x.n x.c) := by rw [cell_at h.v.p]; rfl
theorem S2.p1 (h : S2 w x tx cs y ux ds W) : W.cell? ⟨w.heap.size, 1, none⟩ = some (.slice x.b x.m x.d) := by rw [cell_at h.v.p]; rfl
theorem S2.q0 (h : S2 w x tx cs y ux ds W) : W.cell? ⟨w.heap.size + 1, 0, none⟩ = some (.slice y.a y.n y.c) := by rw [cell_at h.v.q]; rfl
theorem S2.q1 (h : S2 w x tx cs y ux ds W) : W.cell? ⟨w.heap.size + 1, 1, none⟩ = some (.slice y.b y.m y.d) := by rw [cell_at h.v.q]; rfl
end
/-- both programs together, of the call's own, in their box -/
structure Bo (w : World) (x : Pv) (y : Pv) (b : Nat) (ts : List ByteArray) (cs : List Cod.In) (z : Pv) (W : World) : Prop where
  v : V2 w x y W
  o : PrOwn w.heap.size z ts cs W
  r : W.heap[b]? = some (.cells #[.slice z.a z.n z.c, .slice z.b z.m z.d] 25 (0, 0))
  n : z.n = ts.length
  m : z.m = cs.length
section
variable {w : World} {x y z : Pv} {b : Nat} {ts : List ByteArray} {cs : List Cod.In} {W W' : World}
theorem Bo.new (h : Bo w x y b ts cs z W) (hb : Below W.heap.size W W') : Bo w x y b ts cs z W' := ⟨h.v.new hb, h.o.new hb, row_below h.r hb (row_lt h.r), h.n, h.m⟩
/-- the row of texts is appended to -/
theorem Bo.texts (h : Bo w x y b ts cs z W) (hb : w.heap.size + 1 < b) {ls : List ByteArray} {a : Option Addr} {n c : Nat} (hg : W.grownBy W' (Value.slice z.a z.n z.c).ownBlock) (ht : TOwn w.heap.size (.slice a n c) (ts ++ ls) W') (hn : n = (ts ++ ls).length) :
    Bo w x y b (ts ++ ls) cs ⟨a, n, c, z.b, z.m, z.d⟩ (W'.setCell ⟨b, 0, none⟩ (.slice a n c)) := by
  have hr : W'.heap[b]? = some (.cells #[.slice z.a z.n z.c, .slice z.b z.m z.d] 25 (0, 0)) := by rw [hg.block b (row_lt h.r) (fun e => h.o.t.off (by decide) h.r e.symm)]; exact h.r
  have hi : XOwn w.heap.size (.slice z.b z.m z.d) cs W' := ownsRow_same h.o.i fun g hg' => hg.block g (World.ownsRow.lt h.o.i g hg').2 (fun e => by
    obtain ⟨cur, hcur⟩ := ownsRow_block h.o.i hg'
    exact h.o.t.off (by decide) hcur e.symm)
  have hv : V2 w x y W' := h.v.turns (Turns.of_grown hg) (fun j hj => by
    have h1 := (World.ownsRow.lt h.o.t j hj).1
    have h2 : j ≠ w.heap.size := fun e => h.o.t.off (by decide) h.v.p (by rw [hj, e])
    have h3 : j ≠ w.heap.size + 1 := fun e => h.o.t.off (by decide) h.v.q (by rw [hj, e])
    omega)
  have hs := grown_set W' b 0 (.slice a n c)
  exact ⟨hv.turns (Turns.of_grown hs) (fun j hj => by have e : b = j := Option.some.inj hj; rw [← e]; exact hb), ⟨ht.turned hs (ht.off (by decide) hr), hi.turned hs (hi.off (by decide) hr)⟩, by rw [heap_setCell_same W' b 0 _ _ _ hr]; rfl, hn, h.m⟩
/-- the row of instructions is appended to -/
theorem Bo.ins (h : Bo w x y b ts cs z W) (hb : w.heap.size + 1 < b) {ds : List Cod.In} {a : Option Addr} {n c : Nat} (hg : W.grownBy W' (Value.slice z.b z.m z.d).ownBlock) (ht : XOwn w.heap.size (.slice a n c) ds W') (hn : n = ds.length) :
    Bo w x y b ts ds ⟨z.a, z.n, z.c, a, n, c⟩ (W'.setCell ⟨b, 1, none⟩ (.slice a n c)) := by
  have hr : W'.heap[b]? = some (.cells #[.slice z.a z.n z.c, .slice z.b z.m z.d] 25 (0, 0)) := by rw [hg.block b (row_lt h.r) (fun e => h.o.i.off (by decide) h.r e.symm)]; exact h.r
  have hi : TOwn w.heap.size (.slice z.a z.n z.c) ts W' := ownsRow_same h.o.t fun g hg' => hg.block g (World.ownsRow.lt h.o.t g hg').2 (fun e => by
    obtain ⟨cur, hcur⟩ := ownsRow_block h.o.t hg'
    exact h.o.i.off (by decide) hcur e.symm)
  have hv : V2 w x y W' := h.v.turns (Turns.of_grown hg) (fun j hj => by
    have h1 := (World.ownsRow.lt h.o.i j hj).1
    have h2 : j ≠ w.heap.size := fun e => h.o.i.off (by decide) h.v.p (by rw [hj, e])
    have h3 : j ≠ w.heap.size + 1 := fun e => h.o.i.off (by decide) h.v.q (by rw [hj, e])
    omega)
  have hs := grown_set W' b 1 (.slice a n c)
  exact ⟨hv.turns (Turns.of_grown hs) (fun j hj => by have e : b = j := Option.some.inj hj; rw [← e]; exact hb), ⟨hi.turned hs (hi.off (by decide) hr), ht.turned hs (ht.off (by decide) hr)⟩, by rw [heap_setCell_same W' b 1 _ _ _ hr]; rfl, h.n, hn⟩
theorem Bo.b0 (h : Bo w x y b ts cs z W) : W.cell? ⟨b, 0, none⟩ = some (.slice z.a z.n z.c) := by rw [cell_at h.r]; rfl
theorem Bo.b1 (h : Bo w x y b ts cs z W) : W.cell? ⟨b, 1, none⟩ = some (.slice z.b z.m z.d) := by rw [cell_at h.r]; rfl
end
theorem shift_take (n k : Nat) (ds : List Cod.In) (h : k < ds.length) : (ds.take (k + 1)).map (Ver.shift n) = (ds.take k).map (Ver.shift n) ++ [Ver.shift n (ds.getD k (0, 0))] := by
  rw [List.take_succ_eq_append_getElem h, List.map_append, List.getD_eq_getElem?_getD, List.getElem?_eq_getElem h]
  rfl

set_option maxHeartbeats 8000000 in
theorem walk (x : Pv) (tx : List ByteArray) (cs : List Cod.In) (y : Pv) (ux : List ByteArray) (ds : List Cod.In) (w : World) (hk : Kn w) (hp : PrAt x tx cs w) (hz : ∀ t ∈ tx, t.size ≤ 140737488351232) (hn : x.n ≤ 8796093022208) (hm : x.m ≤ 70368744177664)
    (hq : PrAt y ux ds w) (kz : ∀ t ∈ ux, t.size ≤ 140737488351232) (kn : y.n ≤ 8796093022208) (km : y.m ≤ 70368744177664) : Calls Tryd.prog 6 #[x.v, y.v] w fun e w' => e = .returned (.bool true) ∧ Below w.heap.size w w' := by
  have cL := fun u (h : PrAt x tx cs u) => large_any h (by omega) (by omega) (fun y hy => by have := hz y hy; omega)
  have cL2 := fun u (h : PrAt y ux ds u) => large_any h (by omega) (by omega) (fun y hy => by have := kz y hy; omega)
  have cK := fun u (h : PrAt x tx cs u) (k : Kn u) => vcheck_any h k 1 (by omega) (by omega)
  have cK2 := fun u (h : PrAt y ux ds u) (k : Kn u) => vcheck_any h k 1 (by omega) (by omega)
  have cA := fun u (k : Kn u) => alive_any u k
  have cC := fun u (h : PrAt x tx cs u) (hm' : x.m ≤ 8796093022208) => refCopy12_own h hn hm'
  have hS : S2 w x tx cs y ux ds ((w.alloc (.cells #[.slice x.a x.n x.c, .slice x.b x.m x.d] 25)).alloc (.cells #[.slice y.a y.n y.c, .slice y.b y.m y.d] 25)) := by
    have hv := V2.start w x y
    have h1 := obj_below w (.cells #[.slice x.a x.n x.c, .slice x.b x.m x.d] 25)
    exact ⟨hv, hk.keep hv.b, hp.keep hv.b, hq.keep hv.b⟩
  have hlx := hp.n
  have hly := hq.n
  have hmx := hp.m
  have hmy := hq.m
  obtain ⟨LP, hLP⟩ : ∃ LP, LP = largeB tx cs.length := ⟨_, rfl⟩
  obtain ⟨LQ, hLQ⟩ : ∃ LQ, LQ = largeB ux ds.length := ⟨_, rfl⟩
  obtain ⟨A1, hA1⟩ : ∃ A1, A1 = vAt (Ver.check (prog tx cs) 1) := ⟨_, rfl⟩
  obtain ⟨R1, hR1⟩ : ∃ R1, R1 = vErr (Ver.check (prog tx cs) 1) := ⟨_, rfl⟩
  obtain ⟨A2, hA2⟩ : ∃ A2, A2 = vAt (Ver.check (prog ux ds) 1) := ⟨_, rfl⟩
  obtain ⟨R2, hR2⟩ : ∃ R2, R2 = vErr (Ver.check (prog ux ds) 1) := ⟨_, rfl⟩
  rw [← hLP] at cL
  rw [← hLQ] at cL2
  rw [← hA1, ← hR1] at cK
  rw [← hA2, ← hR2] at cK2
  obtain ⟨xa, xn, xc, xb, xm, xd⟩ := x
  obtain ⟨ya, yn, yc, yb, ym, yd⟩ := y
  simp only at hn hm kn km hlx hly hmx hmy
  unfold Pv.v at cL cL2 cK cK2 cC ⊢
  simp only at cL cL2 cK cK2 cC hS ⊢
  have HS := Lib.hid hS; clear hS
  have HCL := Lib.hid cL; clear cL
  have HCL2 := Lib.hid cL2; clear cL2
  have HCK := Lib.hid cK; clear cK
  have HCK2 := Lib.hid cK2; clear cK2
  have HCA := Lib.hid cA; clear cA
  have HCC := Lib.hid cC; clear cC
  have HLP := Lib.hid hLP; clear hLP
  have HLQ := Lib.hid hLQ; clear hLQ
  have HR1 := Lib.hid hR1; clear hR1 hA1
  have HR2 := Lib.hid hR2; clear hR2 hA2
  have HLX := Lib.hid hlx; clear hlx
  have HLY := Lib.hid hly; clear hly
  have HMX := Lib.hid hmx; clear hmx
  have HMY := Lib.hid hmy; clear hmy
  have HQ := Lib.hid hq; clear hq
  have HKN := Lib.hid hk; clear hk
  clear hp hz kz
  go_enter Tryd.func6, Tryd.ntmps6
  go_wp2_with fail
  refine (HCL.out _ HS.out.p).mono ?_; rintro e w1 ⟨rfl, b1⟩
  have H1 := Lib.hid (HS.out.new b1); clear b1 HS
  have p0 := H1.out.p0
  have p1 := H1.out.p1
  have q0 := H1.out.q0
  have q1 := H1.out.q1
  simp only at p0 p1 q0 q1
  cases LP with
  | true =>
    clear p0 p1 q0 q1
    go_wp2_with fail
    refine (HCA.out _ H1.out.k).mono ?_; rintro e wz ⟨rfl, bz⟩
    have HZ := Lib.hid (H1.out.v.b.trans (bz.mono H1.out.v.b.size)); clear bz
    go_wp2_with fail
    go_ret
    exact ⟨rfl, HZ.out⟩
  | false =>
    go_wp2_with fail
    refine (HCL2.out _ H1.out.q).mono ?_; rintro e w2 ⟨rfl, b2⟩
    clear p0 p1 q0 q1
    have H2 := Lib.hid (H1.out.new b2); clear b2 H1
    have p0 := H2.out.p0
    have p1 := H2.out.p1
    have q0 := H2.out.q0
    have q1 := H2.out.q1
    simp only at p0 p1 q0 q1
    cases LQ with
    | true =>
      clear p0 p1 q0 q1
      go_wp2_with fail
      refine (HCA.out _ H2.out.k).mono ?_; rintro e wz ⟨rfl, bz⟩
      have HZ := Lib.hid (H2.out.v.b.trans (bz.mono H2.out.v.b.size)); clear bz
      go_wp2_with fail
      go_ret
      exact ⟨rfl, HZ.out⟩
    | false =>
      have hx1 := largeB_false HLP.out.symm
      have hy1 := largeB_false HLQ.out.symm
      have hxm : xm ≤ 4000 := by have := HMX.out; omega
      have hym : ym ≤ 4000 := by have := HMY.out; omega
      have hxn : xn ≤ 40 := by have := HLX.out; omega
      have hyn : yn ≤ 40 := by have := HLY.out; omega
      clear hx1 hy1
      by_cases g1 : 256 < xm + ym
      · have d1 : decide ((256 : Int) < (xm : Int) + (ym : Int)) = true := decide_eq_true (by omega)
        have d2 : (256 : Int) < (xm : Int) + (ym : Int) := by omega
        go_wp2_with fail
        refine (HCA.out _ H2.out.k).mono ?_; rintro e wz ⟨rfl, bz⟩
        have HZ := Lib.hid (H2.out.v.b.trans (bz.mono H2.out.v.b.size)); clear bz
        go_wp2_with fail
        go_ret
        exact ⟨rfl, HZ.out⟩
      have d1 : decide ((256 : Int) < (xm : Int) + (ym : Int)) = false := decide_eq_false (by omega)
      have d2 : ¬ (256 : Int) < (xm : Int) + (ym : Int) := by omega
      by_cases g2 : 16 < xn + yn
      · have d3 : decide ((16 : Int) < (xn : Int) + (yn : Int)) = true := decide_eq_true (by omega)
        have d4 : (16 : Int) < (xn : Int) + (yn : Int) := by omega
        go_wp2_with fail
        refine (HCA.out _ H2.out.k).mono ?_; rintro e wz ⟨rfl, bz⟩
        have HZ := Lib.hid (H2.out.v.b.trans (bz.mono H2.out.v.b.size)); clear bz
        go_wp2_with fail
        go_ret
        exact ⟨rfl, HZ.out⟩
      have d3 : decide ((16 : Int) < (xn : Int) + (yn : Int)) = false := decide_eq_false (by omega)
      have d4 : ¬ (16 : Int) < (xn : Int) + (yn : Int) := by omega
      go_wp2_with fail
      refine (HCK.out _ H2.out.p H2.out.k).mono ?_; rintro e w3 ⟨rfl, b3⟩
      clear p0 p1 q0 q1
      have H3 := Lib.hid (H2.out.new b3); clear b3 H2
      have p0 := H3.out.p0
      have p1 := H3.out.p1
      have q0 := H3.out.q0
      have q1 := H3.out.q1
      simp only at p0 p1 q0 q1
      go_wp2_with fail
      refine (HCK2.out _ H3.out.q H3.out.k).mono ?_; rintro e w4 ⟨rfl, b4⟩
      clear p0 p1 q0 q1
      have H4 := Lib.hid (H3.out.new b4); clear b4 H3
      have p0 := H4.out.p0
      have p1 := H4.out.p1
      have q0 := H4.out.q0
      have q1 := H4.out.q1
      simp only at p0 p1 q0 q1
      go_wp2_with fail
      refine (HCC.out _ H4.out.p (show xm ≤ 8796093022208 by omega)).mono ?_; rintro e w5 ⟨z, rfl, ho5, b5⟩
      clear p0 p1 q0 q1
      have h5 := H4.out.new b5
      have ho5 : PrOwn w.heap.size z tx cs w5 := ⟨ho5.t.base H4.out.v.b.size, ho5.i.base H4.out.v.b.size⟩
      clear b5 H4
      have hzn : z.n = tx.length := (ho5.at_).n.symm
      have hzm : z.m = cs.length := (ho5.at_).m.symm
      have hb6 := obj_below w5 (.cells #[.slice z.a z.n z.c, .slice z.b z.m z.d] 25)
      have h6 := h5.new hb6
      have hB6 : Bo w ⟨xa, xn, xc, xb, xm, xd⟩ ⟨ya, yn, yc, yb, ym, yd⟩ w5.heap.size tx cs z (w5.alloc (.cells #[.slice z.a z.n z.c, .slice z.b z.m z.d] 25)) := ⟨h6.v, ho5.new hb6, alloc_at rfl, hzn, hzm⟩
      obtain ⟨b9, hb9⟩ : ∃ b9, b9 = w5.heap.size := ⟨_, rfl⟩
      have hb9w : w.heap.size + 1 < b9 := by rw [hb9]; exact row_lt h5.v.q
      obtain ⟨zt, W7, hr7, ho7, hg7, _⟩ := hB6.o.t.appS h6.q.t h6.q.zt (by have := HLX.out; omega) (by simp only; omega) h6.v.b.size
      obtain ⟨ta, tc, hzt⟩ := ho7.form
      obtain ⟨TL, hTL⟩ : ∃ TL, TL = (tx ++ ux).length := ⟨_, rfl⟩
      rw [← hTL] at hzt
      subst hzt
      rw [← hb9] at hB6
      have hB7 := hB6.texts hb9w hg7 ho7 hTL
      have q0 := h6.q0
      have e0 := hB6.b0
      have hr9 : W7.heap[b9]? = some (.cells #[.slice z.a z.n z.c, .slice z.b z.m z.d] 25 (0, 0)) := by rw [hg7.block b9 (row_lt hB6.r) (fun e => hB6.o.t.off (by decide) hB6.r e.symm)]; exact hB6.r
      have e0' : W7.cell? ⟨b9, 0, none⟩ = some (.slice z.a z.n z.c) := by rw [cell_at hr9]; rfl
      have f0' : W7.frozen? ⟨b9, 0, none⟩ = false := row_free hr9 0
      simp only at q0 hr7
      obtain ⟨za, zn, zc, zb, zm, zd⟩ := z
      simp only at hzn hzm e0 e0' hr7 hB7
      have HB7 := Lib.hid hB7; clear hB7
      have HR7 := Lib.hid hr7; clear hr7
      have HZM := Lib.hid hzm; clear hzm hzn
      have HTL := Lib.hid hTL; clear hTL
      have Hb9 := Lib.hid hb9
      clear hB6 ho7 hg7 hr9 ho5 hb6 h6 h5
      subst hb9
      go_wp2_with (at_builtin; refine Edt.append_hap rfl (.tmp 54) (.tmp 56) 22 rfl (.slice za zn zc) (.slice ya yn yc) _ W7 rfl rfl HR7.out ?_)
      obtain ⟨b9, hb9⟩ : ∃ b9, b9 = w5.heap.size := ⟨_, rfl⟩
      rw [← hb9] at HB7 hb9w ⊢
      obtain ⟨W8, hW8⟩ : ∃ W8, W8 = W7.setCell ⟨b9, 0, none⟩ (.slice ta TL tc) := ⟨_, rfl⟩
      rw [← hW8] at HB7 ⊢
      clear hW8 HR7 q0 e0 e0' f0' Hb9 hb9
      obtain ⟨TS, hTS⟩ : ∃ TS, TS = tx ++ ux := ⟨_, rfl⟩
      rw [← hTS] at HB7
      have HTS := Lib.hid hTS; clear hTS
      clear HTL HCL HCL2 HCK HCK2 HCC
      go_loopw [10] (fun i wr => ∃ (k : Nat) (z : Pv), k ≤ ym ∧ i = .int .i64 (k : Int) ∧ Bo w ⟨xa, xn, xc, xb, xm, xd⟩ ⟨ya, yn, yc, yb, ym, yd⟩ b9 TS (cs ++ (ds.take k).map (Ver.shift tx.length)) z wr) (fun i _ => ym - (intOf i).toNat)
      case atStart => exact ⟨0, _, Nat.zero_le _, rfl, by rw [List.take_zero, List.map_nil, List.append_nil]; exact HB7.out⟩
      case round =>
        clear HB7
        obtain ⟨k, z, hkm, rfl, hB⟩ := hrel
        have q1 : wr.cell? ⟨w.heap.size + 1, 1, none⟩ = some (.slice yb ym yd) := by rw [cell_at hB.v.q]; rfl
        have p0 : wr.cell? ⟨w.heap.size, 0, none⟩ = some (.slice xa xn xc) := by rw [cell_at hB.v.p]; rfl
        by_cases hlt : k < ym
        · have hlt2 : (k : Int) < (ym : Int) := by omega
          have hgl : decide (k < ym) = true := decide_eq_true hlt
          obtain ⟨cb, off, rfl, ca, cb2⟩ := (HQ.out.keep hB.v.b).i.2 k hlt
          obtain ⟨X, hX⟩ : ∃ X, X = ds.getD k (0, 0) := ⟨_, rfl⟩
          rw [← hX] at ca cb2
          have hst := shift_take tx.length k ds (by rw [HMY.out]; exact hlt)
          rw [← hX] at hst
          have hx1 := X.1.toNat_lt
          have hx2 := X.2.toNat_lt
          have hB1 := hB.new (obj_below wr (.cells #[.int .u8 (X.1.toNat : Int), .int .u8 (X.2.toNat : Int)] 48))
          obtain ⟨Y, hY⟩ : ∃ Y, Y = Ver.shift tx.length X := ⟨_, rfl⟩
          rw [← hY] at hst
          have hbb : b9 < wr.heap.size := row_lt hB.r
          have hB2 := hB.new (obj_below wr (.cells #[.int .u8 (Y.1.toNat : Int), .int .u8 (Y.2.toNat : Int)] 48))
          have hl9 : (cs ++ (ds.take k).map (Ver.shift tx.length)).length ≤ 1000000 := by
            rw [List.length_append, List.length_map, List.length_take, HMX.out]; omega
          obtain ⟨zt, W9, hr9, ho9, hg9, _⟩ := hB2.o.i.app1 Y hl9 hB2.v.b.size
          obtain ⟨ia, ic, hzt⟩ := ho9.form
          obtain ⟨IL, hIL⟩ : ∃ IL, IL = ((cs ++ (ds.take k).map (Ver.shift tx.length)) ++ [Y]).length := ⟨_, rfl⟩
          rw [← hIL] at hzt
          subst hzt
          have hb10 := obj_below (wr.alloc (.cells #[.int .u8 (Y.1.toNat : Int), .int .u8 (Y.2.toNat : Int)] 48)) (.cells #[.int .u8 (Y.1.toNat : Int), .int .u8 (Y.2.toNat : Int)] 48)
          have hB3 := hB2.new hb10
          have hB4 := hB3.ins hb9w hg9 ho9 hIL
          rw [List.append_assoc, ← hst] at hB4
          rw [alloc_size] at hr9
          have e1 : (wr.alloc (.cells #[.int .u8 (X.1.toNat : Int), .int .u8 (X.2.toNat : Int)] 48)).cell? ⟨b9, 1, none⟩ = some (.slice z.b z.m z.d) := hB1.b1
          have e2 : (wr.alloc (.cells #[.int .u8 (Y.1.toNat : Int), .int .u8 (Y.2.toNat : Int)] 48)).cell? ⟨b9, 1, none⟩ = some (.slice z.b z.m z.d) := hB2.b1
          have p0' : (wr.alloc (.cells #[.int .u8 (X.1.toNat : Int), .int .u8 (X.2.toNat : Int)] 48)).cell? ⟨w.heap.size, 0, none⟩ = some (.slice xa xn xc) := by rw [cell_at hB1.v.p]; rfl
          have hr10 : W9.heap[b9]? = some (.cells #[.slice z.a z.n z.c, .slice z.b z.m z.d] 25 (0, 0)) := by rw [hg9.block b9 (row_lt hB3.r) (fun e => hB3.o.i.off (by decide) hB3.r e.symm)]; exact hB3.r
          have e9 : W9.cell? ⟨b9, 1, none⟩ = some (.slice z.b z.m z.d) := by rw [cell_at hr10]; rfl
          have f9 : W9.frozen? ⟨b9, 1, none⟩ = false := row_free hr10 1
          have HB4 := Lib.hid hB4; clear hB4 hB3 hB2 hB1
          have HR9 := Lib.hid hr9; clear hr9
          have HB := Lib.hid hB; clear hB
          have HIL := Lib.hid hIL; clear hIL
          clear ho9 hg9 hb10 hr10 hl9 hst hX
          obtain ⟨za, zn, zc, zb, zm, zd⟩ := z
          simp only at e1 e2 e9 HR9 HB4
          by_cases hop : X.1.toNat = 1
          · have hX1 : X.1 = 1 := UInt8.toNat_inj.1 hop
            have hY1 : Y.1.toNat = 1 := by rw [hY]; unfold Ver.shift; rw [if_pos hX1]; exact hop
            have hY2 : Y.2.toNat = (X.2.toNat + xn) % 256 := by
              rw [hY]; unfold Ver.shift; rw [if_pos hX1]
              simp only [UInt8.toNat_add]
              rw [Cod.b8_nat (by rw [HLX.out]; omega), HLX.out]
            rw [hY1] at e2 HR9
            rw [hop] at ca e1 p0'
            obtain ⟨a, ha⟩ : ∃ a, a = X.2.toNat := ⟨_, rfl⟩
            obtain ⟨a', ha'⟩ : ∃ a', a' = Y.2.toNat := ⟨_, rfl⟩
            rw [← ha] at cb2 hx2 hY2 e1 p0'
            rw [← ha'] at hY2 e2 HR9
            have hw1 : IntKind.u8.wrap (xn : Int) = (xn : Int) := by simp only [IntKind.wrap_u8]; omega
            have hw2 : IntKind.u8.wrap ((a : Int) + (xn : Int)) = (a' : Int) := by simp only [IntKind.wrap_u8]; omega
            have p0q : (wr.alloc (.cells #[.int .u8 1, .int .u8 (a : Int)] 48)).cell? ⟨w.heap.size, 0, none⟩ = some (.slice xa xn xc) := p0'
            have e1q : (wr.alloc (.cells #[.int .u8 1, .int .u8 (a : Int)] 48)).cell? ⟨b9, 1, none⟩ = some (.slice zb zm zd) := e1
            have e2q : (wr.alloc (.cells #[.int .u8 1, .int .u8 (a' : Int)] 48)).cell? ⟨b9, 1, none⟩ = some (.slice zb zm zd) := e2
            have hrq : (Builtin.append_ #[23, 23] 23 #[.slice zb zm zd, .slice (some ⟨wr.heap.size + 1, 0, none⟩) 1 1]).run Tryd.prog ((wr.alloc (.cells #[.int .u8 1, .int .u8 (a' : Int)] 48)).alloc (.cells #[.int .u8 1, .int .u8 (a' : Int)] 48)) = .ok (.slice ia IL ic) W9 := HR9.out
            have caq : wr.cell? ⟨cb, off + k * 2, none⟩ = some (.int .u8 1) := ca
            have HRQ := Lib.hid hrq; clear hrq
            clear hop hX1 hY1 hY2 hY ha ha' hx1 hx2 p0' e1 e2 ca HR9
            go_wp2_with (at_builtin; refine Edt.append_hap rfl (.tmp 83) (.tmp 85) 23 rfl (.slice zb zm zd) (.slice (some ⟨wr.heap.size + 1, 0, none⟩) 1 1) _ W9 rfl rfl HRQ.out ?_)
            go_roundw
            case rel => exact ⟨k + 1, _, by omega, by go_num, HB4.out⟩
            case measure => simp [intOf]; omega
          · have hY' : Y = X := by
              rw [hY]; unfold Ver.shift; rw [if_neg (fun e => hop (by rw [e]; rfl))]
            rw [hY'] at e2 HR9
            obtain ⟨o, ho⟩ : ∃ o, o = X.1.toNat := ⟨_, rfl⟩
            obtain ⟨a, ha⟩ : ∃ a, a = X.2.toNat := ⟨_, rfl⟩
            rw [← ho] at ca e1 e2 p0' HR9 hop
            rw [← ha] at cb2 e1 e2 p0' HR9
            have do1 : ((o : Int) == 1) = false := beq_eq_false_iff_ne.2 (by omega)
            clear hop hY hY' ho ha hx1 hx2
            go_wp2_with (at_builtin; refine Edt.append_hap rfl (.tmp 83) (.tmp 85) 23 rfl (.slice zb zm zd) (.slice (some ⟨wr.heap.size + 1, 0, none⟩) 1 1) _ W9 rfl rfl HR9.out ?_)
            go_roundw
            case rel => exact ⟨k + 1, _, by omega, by go_num, HB4.out⟩
            case measure => simp [intOf]; omega
        · obtain rfl : k = ym := by omega
          have hgl : decide (k < k) = false := decide_eq_false (by omega)
          have hnl : ¬ (k : Int) < (k : Int) := by omega
          have hall : (ds.take k).map (Ver.shift tx.length) = ds.map (Ver.shift tx.length) := by rw [List.take_of_length_le (by rw [HMY.out]; exact Nat.le_refl _)]
          rw [hall] at hB
          have hpz := hB.o.at_
          have hkr := HKN.out.keep hB.v.b
          have hzn : z.n ≤ 100000 := by rw [hB.n, HTS.out, List.length_append, HLX.out, HLY.out]; omega
          have hzm : z.m ≤ 100000 := by rw [hB.m, List.length_append, List.length_map, HMX.out, HMY.out]; omega
          have hck := vcheck_any hpz hkr 1 (by omega) (by omega)
          have hfin : R1 = 0 → R2 = 0 → vAt (Ver.check (prog TS (cs ++ ds.map (Ver.shift tx.length))) 1) = 0 ∧ vErr (Ver.check (prog TS (cs ++ ds.map (Ver.shift tx.length))) 1) = 0 := fun h1 h2 => by
            rw [HTS.out]
            exact vstraight (by rw [← HR1.out]; exact h1) (by rw [← HR2.out]; exact h2) (by rw [HLX.out, HLY.out]; omega) (by rw [HMX.out, HMY.out]; omega)
          obtain ⟨A3, hA3⟩ : ∃ A3, A3 = vAt (Ver.check (prog TS (cs ++ ds.map (Ver.shift tx.length))) 1) := ⟨_, rfl⟩
          obtain ⟨R3, hR3⟩ : ∃ R3, R3 = vErr (Ver.check (prog TS (cs ++ ds.map (Ver.shift tx.length))) 1) := ⟨_, rfl⟩
          rw [← hA3, ← hR3] at hck hfin
          have e0 : wr.cell? ⟨b9, 0, none⟩ = some (.slice z.a z.n z.c) := hB.b0
          have e1 : wr.cell? ⟨b9, 1, none⟩ = some (.slice z.b z.m z.d) := hB.b1
          obtain ⟨za, zn, zc, zb, zm, zd⟩ := z
          simp only at e0 e1
          unfold Pv.v at hck
          have HB := Lib.hid hB; clear hB
          have HCK3 := Lib.hid hck; clear hck
          have HFI := Lib.hid hfin; clear hfin
          have HKR := Lib.hid hkr; clear hkr
          clear hpz hall hA3 hR3
          go_wp2_with fail
          refine HCK3.out.mono ?_; rintro e w10 ⟨rfl, b10⟩
          have HB10 := Lib.hid (HB.out.v.b.trans (b10.mono HB.out.v.b.size))
          have HK10 := Lib.hid (HKR.out.keep b10); clear b10
          clear e0 e1 p0 q1
          by_cases r1 : R1 = 0
          · subst r1
            by_cases r2 : R2 = 0
            · subst r2
              obtain ⟨h3, h4⟩ := HFI.out rfl rfl
              subst h3
              subst h4
              go_wp2_with fail
              refine (HCA.out _ HK10.out).mono ?_; rintro e wz ⟨rfl, bz⟩
              have HZ := Lib.hid (HB10.out.trans (bz.mono HB10.out.size)); clear bz
              go_wp2_with fail
              go_ret
              exact ⟨rfl, HZ.out⟩
            · have dr : ((R2 : Int) == 0) = false := beq_eq_false_iff_ne.2 (by omega)
              go_wp2_with fail
              refine (HCA.out _ HK10.out).mono ?_; rintro e wz ⟨rfl, bz⟩
              have HZ := Lib.hid (HB10.out.trans (bz.mono HB10.out.size)); clear bz
              go_wp2_with fail
              go_ret
              exact ⟨rfl, HZ.out⟩
          · have dr : ((R1 : Int) == 0) = false := beq_eq_false_iff_ne.2 (by omega)
            go_wp2_with fail
            refine (HCA.out _ HK10.out).mono ?_; rintro e wz ⟨rfl, bz⟩
            have HZ := Lib.hid (HB10.out.trans (bz.mono HB10.out.size)); clear bz
            go_wp2_with fail
            go_ret
            exact ⟨rfl, HZ.out⟩

set_option maxRecDepth 100000 in
theorem lifted (os : Os) (started : os.Started) (H : Type) (enc : TypeId × Value → H) :
    ReturnsInHanded {} Tryd.checked os 6 .any (fun w args => (Rows.verifyStraightSpec.pre enc Tryd.prog Tryd.f6 [] false w args ∧ laidMetH Tryd.prog laidList w) ∧ sizedMet enc Tryd.prog Tryd.f6 (OpenSpec.ofChange Rows.verifyStraightSpec) false w args)
      (Rows.verifyStraightSpec.post enc Tryd.prog Tryd.f6 false true false false) := by
  refine returnsInHanded_of_change_sh (C := Tryd.checked) (X := fun w _ => laidMetH Tryd.prog laidList w) (fun _ _ _ hh h => h.of_heap hh) own started (by kernel_rfl) Tryd.func6
    (ChangeSpec.witness_shaped (enc := enc) (C := Tryd.checked) (os := os) (X := fun w _ => laidMetH Tryd.prog laidList w) false (World.laidAll Tryd.prog os laidList) #[.agg #[.slice none 0 0, .slice none 0 0], .agg #[.slice none 0 0, .slice none 0 0]] 8 (World.laidAll_os _ _ _) (World.shaped_of_ZipB (by kernel_rfl) (by kernel_rfl)) (by kernel_rfl) (by kernel_rfl) (by kernel_rfl) (door_met os _)) ?_
  intro W base args ds gs before hval0 hW _ hsz hL hsh _
  have hval : ∀ (j : Nat) t v, Tryd.f6.params[j]? = some t → args[j]? = some v → Value.okWide Tryd.prog W .any base t v := hval0
  have hW' := hW
  obtain ⟨p, q, hA0, hV, rfl, hfz, hnd⟩ := hW
  have hA : DataW.TrodAll enc Tryd.prog W 0 (fun _ => true) true Tryd.f6.params.toList args.toList ds p := hA0
  rw [Tryd.params6] at hA hval hsz
  obtain ⟨v0, vs0, d0, ds0, p0, q0, hargs, rfl, rfl, h0, r0⟩ := trodAll_cons hA
  obtain ⟨v1, vs1, d1, ds1, p1, q1, rfl, rfl, rfl, h1, r1⟩ := trodAll_cons r0
  obtain ⟨rfl, rfl, rfl⟩ := trodAll_nil r1
  obtain rfl : args = #[v0, v1] := Array.ext' hargs
  obtain ⟨rfl, rfl⟩ := trodVars_none hV
  have k0 := h0
  have lt0 : ∀ x ∈ p0, x.block < W.heap.size := by obtain ⟨m, hm⟩ := k0; exact DataW.trod_lt m _ _ _ hm
  obtain ⟨x0, tx0, cs0, rfl, hp0, hz0, hn0, hm0⟩ := open_prog Tryd.underlying25 rfl rfl Tryd.underlying22 Tryd.underlying9 (by kernel_rfl) (by kernel_rfl) Tryd.underlying23 Tryd.underlying48 rfl rfl Tryd.underlying5 (by kernel_rfl) (by kernel_rfl) (by kernel_rfl) (by kernel_rfl) (by kernel_rfl) (hval 0 25 v0 rfl rfl) h0 (fun n hn => by
    have := List.all_eq_true.1 hsz n (by
      simp only [List.cons_append, DataW.weightsEach]
      exact List.mem_append_left _ hn)
    simpa using this)
  have k1 := h1
  have lt1 : ∀ x ∈ p1, x.block < W.heap.size := by obtain ⟨m, hm⟩ := k1; exact DataW.trod_lt m _ _ _ hm
  obtain ⟨x1, tx1, cs1, rfl, hp1, hz1, hn1, hm1⟩ := open_prog Tryd.underlying25 rfl rfl Tryd.underlying22 Tryd.underlying9 (by kernel_rfl) (by kernel_rfl) Tryd.underlying23 Tryd.underlying48 rfl rfl Tryd.underlying5 (by kernel_rfl) (by kernel_rfl) (by kernel_rfl) (by kernel_rfl) (by kernel_rfl) (hval 1 25 v1 rfl rfl) h1 (fun n hn => by
    have := List.all_eq_true.1 hsz n (by
      simp only [List.cons_append, DataW.weightsEach]
      exact List.mem_append_right _ (List.mem_append_left _ hn))
    simpa using this)
  clear hA0 hval0
  refine (walk x0 tx0 cs0 x1 tx1 cs1 W (kn_of_laid hL hsh) hp0 hz0 hn0 hm0 hp1 hz1 hn1 hm1).mono fun e W' ⟨he, bel⟩ => ?_
  subst he
  exact ⟨_, rfl, _, _, _, [], _, [], hW', trodAll_mk1 (shut_bool Tryd.underlying4 _), (trodAll_cons_mk (Below.trod laidOut (by kernel_rfl) (of_decide_eq_true (by kernel_rfl)) k0 bel lt0) (trodAll_cons_mk (Below.trod laidOut (by kernel_rfl) (of_decide_eq_true (by kernel_rfl)) k1 bel lt1) trodAll_mk0)), rfl, bel.frame _, fun h => by cases h⟩

theorem over : Rows.VerifyStraightSaid :=
  OpenClaim.holds_of_wide 6 Tryd.f6 rfl rfl rfl rfl rfl rfl rfl ⟨rfl, rfl, rfl, rfl, rfl⟩ rfl rfl rfl rfl rfl (by kernel_rfl) Tryd.func6 (by kernel_rfl)
    (of_decide_eq_true (by kernel_rfl)) (by unfold Func.isWrapper; first | (rw [if_pos (by decide +kernel)]; kernel_rfl) | (rw [if_neg (by decide +kernel)]; exact ⟨rfl, rfl⟩))
    (fun os started H enc _ => lifted os started H enc)

theorem proved : Rows.VerifyStraightCardSaid :=
  Claim7.holds_tied_plain_at .later [] [.data, .data, .pinned] true (true, "50b2c3491813eace00d4f3d2c32a93119e2c541e682bd2132fd38ade77fbbf74") false
    over (fun _ h => by cases h) (by kernel_rfl) (fun _ h => by cases h) verifyStraight_row_tie rfl ⟨rfl, rfl⟩ (by kernel_rfl) rfl
    (fun f fn hf hfn => by
      obtain rfl : f = 6 := Option.some.inj ((show Tryd.prog.funcNamed "maslin/maslinlaw13.VerifyStraight" = some 6 by kernel_rfl).symm.trans hf) |>.symm
      obtain rfl : fn = Tryd.f6 := (Option.some.inj (Tryd.func6.symm.trans hfn)).symm
      exact ⟨by kernel_rfl, fun j t ht => by
        rw [Tryd.params6] at ht
        have hm : t ∈ [25, 25] := by simpa using Array.mem_of_getElem? ht
        have hall : ([25, 25].all fun u => !Tryd.prog.wantsStandIn u) = true := by kernel_rfl
        exact (show Tryd.prog.wantsStandIn t = false by simpa using List.all_eq_true.1 hall t hm)⟩)
    (by kernel_rfl)


end Go.Proofs.YtolldoclnfnceaaDoor.verifyStraight
