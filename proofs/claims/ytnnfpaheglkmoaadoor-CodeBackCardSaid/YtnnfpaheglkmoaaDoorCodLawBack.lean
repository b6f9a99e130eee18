/-
  CodeBack: what was put is got, and what is got is put as it stood; unlike programs have unlike bytes; and so it is of lines.
  Conditions: none.
-/
import Derived.Test.YtnnfpaheglkmoaaDoorCodLawC
import Derived.Test.YtnnfpaheglkmoaaDoorCards
import Derived.Test.YtnnfpaheglkmoaaDoorTie
import Derived.SevenTiedAt
import Derived.ProofKit
import Derived.OpenShut
import Derived.ShutString
import Derived.ChangeOld
namespace Go.Proofs.YtnnfpaheglkmoaaDoor.codeBack
open Go.ChangeShapes Go.WideShapes Go.ChangeAt Go.RowKit
open Go.ChangeMaps (open_string shut_string)
set_option linter.unusedVariables false
set_option maxRecDepth 100000

theorem text_of {s : ByteArray} {l : List UInt8} (h : l = s.data.toList) : (⟨l.toArray⟩ : ByteArray) = s := by rw [h, ba_eta]
theorem back_put {s : ByteArray} {y : Pv} {us : List ByteArray} {ds : List Cod.In} {n : Int} {w : World} (h : Got s.data.toList y us ds n w) (hz : Cod.get s.data.toList = some (prog us ds)) :
    Calls Tryd.prog 11 #[y.v] w fun e w' => e = .returned (.tuple #[.string s, .int .i64 0]) ∧ Below w.heap.size w w' := by
  obtain ⟨hm, hp⟩ := Cod.put_get hz
  have := put_any h.p (by have := h.n16; omega) (by have := h.m256; omega)
  rw [putS_yes hm, chk_yes hm, text_of hp] at this
  exact this
theorem got_back {x : Pv} {tx : List ByteArray} {cs : List Cod.In} (hM : (prog tx cs).May) (u : World) :
    Calls Tryd.prog 12 #[.string ⟨(Cod.put (prog tx cs)).toArray⟩] u fun e w' => ∃ y : Pv, e = .returned (.tuple #[y.v, .int .i64 0]) ∧ PrAt y tx cs w' ∧ (y.n ≤ 16 ∧ y.m ≤ 256) ∧ Below u.heap.size u w' := by
  have hs : (⟨(Cod.put (prog tx cs)).toArray⟩ : ByteArray).size = (Cod.put (prog tx cs)).length := by rw [← ba_len]
  refine (get_any _ (by have := put_size hM; omega) u).mono fun e w' hh => ?_
  obtain ⟨y, us, ds, n, he, hg⟩ := getR_got hh.1
  obtain ⟨e1, rfl⟩ := hg.some (Cod.get_put hM)
  obtain ⟨rfl, rfl⟩ := prog_inj e1
  exact ⟨y, he, hg.p, ⟨hg.n16, hg.m256⟩, hh.2⟩
theorem line_size {x : Cod.In} (h : Cod.ins x = true) : (⟨(Cod.line x).toArray⟩ : ByteArray).size ≤ 1000 := by
  have e : (⟨(Cod.line x).toArray⟩ : ByteArray).size = (Cod.line x).length := by rw [← ba_len]
  have h1 := nm_len _ (ins_lt h)
  have h2 := dec_len _ x.2.toNat_lt
  rw [e]
  unfold Cod.line Cod.name
  split
  · rw [List.length_append, List.length_cons]; omega
  · omega
theorem read_back {x : Cod.In} (h : Cod.ins x = true) (u : World) (k : Kn u) :
    Calls Tryd.prog 18 #[.string ⟨(Cod.line x).toArray⟩] u fun e w' => e = .returned (.tuple #[insV x, .int .i64 0]) ∧ Below u.heap.size u w' := by
  have hx : Cod.IsLine (⟨(Cod.line x).toArray⟩ : ByteArray).data.toList x := ⟨h, rfl⟩
  refine (read_any _ (line_size h) u k).mono fun e w' hh => ⟨?_, hh.2⟩
  rcases hh.1 with ⟨y, hy, rfl⟩ | ⟨hn, rfl⟩
  · rw [hy.one hx]
  · exact (hn _ hx).elim
theorem line_back {t : ByteArray} {z : Cod.In} (h : Cod.IsLine t.data.toList z) (u : World) (k : Kn u) :
    Calls Tryd.prog 17 #[insV z] u fun e w' => e = .returned (.tuple #[.string t, .int .i64 0]) ∧ Below u.heap.size u w' := by
  have := line_any z u k
  rw [lineS_yes h.1, lineE_yes h.1, text_of h.2] at this
  exact this
theorem same_put {tx ux : List ByteArray} {cs ds : List Cod.In} (h1 : (prog tx cs).May) (h2 : (prog ux ds).May) : decide ((⟨(Cod.put (prog tx cs)).toArray⟩ : ByteArray) = ⟨(Cod.put (prog ux ds)).toArray⟩) = decide (tx = ux ∧ cs = ds) := by
  rw [Bool.eq_iff_iff, decide_eq_true_eq, decide_eq_true_eq]
  constructor
  · intro e
    have e2 : Cod.put (prog tx cs) = Cod.put (prog ux ds) := by
      have := congrArg (fun s : ByteArray => s.data.toList) e
      simpa using this
    exact prog_inj (Cod.put_inj h1 h2 e2)
  · rintro ⟨rfl, rfl⟩; rfl
theorem Two.three (w : World) (a b c d e f : Value) (T S R : TypeId) :
    Two w.heap.size a b (((w.alloc (.cells #[a, b] T)).alloc (.cells #[c, d] S)).alloc (.cells #[e, f] R)) ∧ Two (w.heap.size + 1) c d (((w.alloc (.cells #[a, b] T)).alloc (.cells #[c, d] S)).alloc (.cells #[e, f] R)) ∧
    Two (w.heap.size + 1 + 1) e f (((w.alloc (.cells #[a, b] T)).alloc (.cells #[c, d] S)).alloc (.cells #[e, f] R)) := by
  have s1 : (w.alloc (.cells #[a, b] T)).heap.size = w.heap.size + 1 := by simp
  have s2 : ((w.alloc (.cells #[a, b] T)).alloc (.cells #[c, d] S)).heap.size = w.heap.size + 1 + 1 := by simp
  have h1 := Two.new w a b T
  have h2 := Two.new (w.alloc (.cells #[a, b] T)) c d S
  have h3 := Two.new ((w.alloc (.cells #[a, b] T)).alloc (.cells #[c, d] S)) e f R
  rw [s1] at h2
  rw [s2] at h3
  exact ⟨(h1.keep (obj_below _ _)).keep (obj_below _ _), h2.keep (obj_below _ _), h3⟩

set_option maxHeartbeats 40000000 in
theorem walk (x : Pv) (tx : List ByteArray) (cs : List Cod.In) (y : Pv) (ux : List ByteArray) (ds : List Cod.In) (s : ByteArray) (i : Cod.In) (t : ByteArray) (w : World) (hK : Kn w)
    (hp : PrAt x tx cs w) (hz : ∀ v ∈ tx, v.size ≤ 140737488351232) (hn : x.n ≤ 8796093022208) (hm : x.m ≤ 70368744177664) (kp : PrAt y ux ds w) (kz : ∀ v ∈ ux, v.size ≤ 140737488351232) (kn : y.n ≤ 8796093022208) (km : y.m ≤ 70368744177664)
    (hs : s.size ≤ 140737488351232) (ht : t.size ≤ 140737488351232) :
    Calls Tryd.prog 5 #[x.v, y.v, .string s, insV i, .string t] w fun e w' => e = .returned (.bool true) ∧ Below w.heap.size w w' := by
  obtain ⟨LB, hLB⟩ : ∃ LB, LB = largeB tx cs.length := ⟨_, rfl⟩
  obtain ⟨MB, hMB⟩ : ∃ MB, MB = largeB ux ds.length := ⟨_, rfl⟩
  have cL := fun u (h : PrAt x tx cs u) => large_any h (by omega) (by omega) (fun y hy => by have := hz y hy; omega)
  have cL2 := fun u (h : PrAt y ux ds u) => large_any h (by omega) (by omega) (fun y hy => by have := kz y hy; omega)
  rw [← hLB] at cL
  rw [← hMB] at cL2
  have hb0 := ((obj_below w (.cells #[.slice x.a x.n x.c, .slice x.b x.m x.d] 25)).trans ((obj_below (w.alloc (.cells #[.slice x.a x.n x.c, .slice x.b x.m x.d] 25)) (.cells #[.slice y.a y.n y.c, .slice y.b y.m y.d] 25)).mono (obj_below w _).size)).trans
    ((obj_below ((w.alloc (.cells #[.slice x.a x.n x.c, .slice x.b x.m x.d] 25)).alloc (.cells #[.slice y.a y.n y.c, .slice y.b y.m y.d] 25)) (.cells #[.int .u8 (i.1.toNat : Int), .int .u8 (i.2.toNat : Int)] 39)).mono (Nat.le_trans (obj_below w _).size (obj_below _ _).size))
  have ht0 := Two.three w (.slice x.a x.n x.c) (.slice x.b x.m x.d) (.slice y.a y.n y.c) (.slice y.b y.m y.d) (.int .u8 (i.1.toNat : Int)) (.int .u8 (i.2.toNat : Int)) 25 25 39
  have hpk := fun u (hb : Below w.heap.size w u) => hp.keep hb
  have kpk := fun u (hb : Below w.heap.size w u) => kp.keep hb
  have CL := Lib.hid cL; clear cL
  have CL2 := Lib.hid cL2; clear cL2
  have Hpk := Lib.hid hpk; clear hpk
  have Kpk := Lib.hid kpk; clear kpk
  have HK := Lib.hid hK; clear hK
  have Hb0 := Lib.hid hb0; clear hb0
  have Ht0 := Lib.hid ht0.1
  have Hu0 := Lib.hid ht0.2.1
  have Hi0 := Lib.hid ht0.2.2; clear ht0
  by_cases hg : LB = true ∨ MB = true ∨ 4096 < s.size ∨ 100 < t.size
  · have HG := Lib.hid hg; clear hg hLB hMB hz hn hm hs ht kz kn km hp kp
    obtain ⟨xa, xn, xc, xb, xm, xd⟩ := x
    obtain ⟨ya, yn, yc, yb, ym, yd⟩ := y
    unfold Pv.v insV at *
    simp only at Hpk Kpk Hb0 Ht0 Hu0 Hi0 CL CL2
    generalize i.1.toNat = I1 at *
    generalize i.2.toNat = I2 at *
    go_enter Tryd.func5, Tryd.ntmps5
    go_wp2_with fail
    refine (CL.out _ (Hpk.out _ Hb0.out)).mono ?_; rintro e w1 ⟨rfl, h1⟩
    have Hb1 := Lib.hid (Hb0.out.trans (h1.mono Hb0.out.size))
    cases LB with
    | true =>
      clear h1
      go_wp2_with fail
      refine (alive_any _ (HK.out.keep Hb1.out)).mono ?_; rintro e w2 ⟨rfl, h2⟩
      have Hb2 := Lib.hid (Hb1.out.trans (h2.mono Hb1.out.size)); clear h2
      go_wp2_with fail
      go_ret
      exact ⟨rfl, Hb2.out⟩
    | false =>
      have hu := Hu0.out.keep h1
      have u0 := hu.c0
      have u1 := hu.c1
      clear h1 hu
      go_wp2_with fail
      refine (CL2.out _ (Kpk.out _ Hb1.out)).mono ?_; rintro e w2 ⟨rfl, h2⟩
      have Hb2 := Lib.hid (Hb1.out.trans (h2.mono Hb1.out.size)); clear h2 u0 u1
      have fin : ∀ hc : decide ((4096 : Int) < (s.size : Int)) = false, MB = false → decide ((100 : Int) < (t.size : Int)) = true := fun hc hm => decide_eq_true (by
        have := of_decide_eq_false hc
        rcases HG.out with h | h | h | h
        · cases h
        · rw [hm] at h; cases h
        · omega
        · omega)
      have Fin := Lib.hid fin; clear fin HG
      cases MB with
      | true =>
        go_wp2_with fail
        refine (alive_any _ (HK.out.keep Hb2.out)).mono ?_; rintro e w3 ⟨rfl, h3⟩
        have Hb3 := Lib.hid (Hb2.out.trans (h3.mono Hb2.out.size)); clear h3
        go_wp2_with fail
        go_ret
        exact ⟨rfl, Hb3.out⟩
      | false =>
        cases hd : decide ((4096 : Int) < (s.size : Int)) with
        | true =>
          go_wp2_with fail
          refine (alive_any _ (HK.out.keep Hb2.out)).mono ?_; rintro e w3 ⟨rfl, h3⟩
          have Hb3 := Lib.hid (Hb2.out.trans (h3.mono Hb2.out.size)); clear h3
          go_wp2_with fail
          go_ret
          exact ⟨rfl, Hb3.out⟩
        | false =>
          have hd2 := Fin.out hd rfl
          go_wp2_with fail
          refine (alive_any _ (HK.out.keep Hb2.out)).mono ?_; rintro e w3 ⟨rfl, h3⟩
          have Hb3 := Lib.hid (Hb2.out.trans (h3.mono Hb2.out.size)); clear h3
          go_wp2_with fail
          go_ret
          exact ⟨rfl, Hb3.out⟩
  have hlf : LB = false := by cases LB; rfl; exact (hg (.inl rfl)).elim
  have hmf : MB = false := by cases MB; rfl; exact (hg (.inr (.inl rfl))).elim
  have hs4 : s.size ≤ 4096 := by have : ¬ 4096 < s.size := fun h => hg (.inr (.inr (.inl h))); omega
  have ht1 : t.size ≤ 100 := by have : ¬ 100 < t.size := fun h => hg (.inr (.inr (.inr h))); omega
  subst hlf
  subst hmf
  have hd1 : decide ((4096 : Int) < (s.size : Int)) = false := decide_eq_false (by omega)
  have hd2 : decide ((100 : Int) < (t.size : Int)) = false := decide_eq_false (by omega)
  have hlf := largeB_false hLB.symm
  have hmf := largeB_false hMB.symm
  have hx1 : x.n ≤ 40 := by rw [← hp.n]; exact hlf.1
  have hx2 : x.m ≤ 4000 := by rw [← hp.m]; have := hlf.2; omega
  have hy1 : y.n ≤ 40 := by rw [← kp.n]; exact hmf.1
  have hy2 : y.m ≤ 4000 := by rw [← kp.m]; have := hmf.2; omega
  have cP := fun u (h : PrAt x tx cs u) => put_any h (by omega) (by omega)
  have cQ := fun u (h : PrAt y ux ds u) => put_any h (by omega) (by omega)
  have cG := fun u => get_any s (by omega) u
  have cT := fun u k => read_any t (by omega) u k
  have cI := fun u k => line_any i u k
  have cE := fun u k => read_any ⟨#[]⟩ (by decide) u k
  have cB := fun hM u => @got_back x tx cs hM u
  have cS := fun (g : Pv) u (h : PrAt g tx cs u) (hb : g.n ≤ 16 ∧ g.m ≤ 256) (k : PrAt x tx cs u) => refSame12_any h k (by omega) (by omega)
  rw [show decide (tx = tx ∧ cs = cs) = true from decide_eq_true ⟨rfl, rfl⟩] at cS
  have cU := fun u (h : PrAt x tx cs u) (k : PrAt y ux ds u) => refSame12_any h k (by omega) (by omega)
  have hsp := @same_put tx ux cs ds
  have ckY := @chk_yes tx cs
  have ckN := @chk_no tx cs
  have ptY := @putS_yes tx cs
  have kkY := @chk_yes ux ds
  have kkN := @chk_no ux ds
  have qtY := @putS_yes ux ds
  have hlY := @lineS_yes i
  have heY := @lineE_yes i
  have heN := @lineE_no i
  have hlN : ¬ Cod.ins i = true → lineS i = ⟨#[]⟩ := fun h => if_neg h
  have crb := @read_back i
  generalize (⟨(Cod.put (prog tx cs)).toArray⟩ : ByteArray) = Z1 at *
  generalize (⟨(Cod.put (prog ux ds)).toArray⟩ : ByteArray) = Z2 at *
  generalize decide (tx = ux ∧ cs = ds) = SM at *
  generalize (prog tx cs).May = M1 at *
  generalize (prog ux ds).May = M2 at *
  generalize chk tx cs = K1 at *
  generalize chk ux ds = K2 at *
  generalize putS tx cs = A1 at *
  generalize putS ux ds = A2 at *
  generalize (⟨(Cod.line i).toArray⟩ : ByteArray) = L at *
  generalize lineS i = LS at *
  generalize lineE i = LE at *
  generalize Cod.ins i = II at *
  have CP' := Lib.hid cP; clear cP
  have CQ' := Lib.hid cQ; clear cQ
  have CG' := Lib.hid cG; clear cG
  have CT' := Lib.hid cT; clear cT
  have CI' := Lib.hid cI; clear cI
  have CE' := Lib.hid cE; clear cE
  have CB' := Lib.hid cB; clear cB
  have CS' := Lib.hid cS; clear cS
  have CU' := Lib.hid cU; clear cU
  have Hsp' := Lib.hid hsp; clear hsp
  have CkY' := Lib.hid ckY; clear ckY
  have CkN' := Lib.hid ckN; clear ckN
  have PtY' := Lib.hid ptY; clear ptY
  have KkY' := Lib.hid kkY; clear kkY
  have KkN' := Lib.hid kkN; clear kkN
  have QtY' := Lib.hid qtY; clear qtY
  have HlY' := Lib.hid hlY; clear hlY
  have HeY' := Lib.hid heY; clear heY
  have HeN' := Lib.hid heN; clear heN
  have HlN' := Lib.hid hlN; clear hlN
  have Crb' := Lib.hid crb; clear crb
  clear hg hLB hMB hz hn hm hs ht kz kn km hp kp hlf hmf hs4 ht1 hx1 hx2 hy1 hy2
  obtain ⟨xa, xn, xc, xb, xm, xd⟩ := x
  obtain ⟨ya, yn, yc, yb, ym, yd⟩ := y
  unfold Pv.v insV at *
  simp only at Hpk Kpk Hb0 Ht0 Hu0 Hi0 CL CL2 CP' CQ' CS' CU'
  go_enter Tryd.func5, Tryd.ntmps5
  go_wp2_with fail
  refine (CL.out _ (Hpk.out _ Hb0.out)).mono ?_; rintro e w1 ⟨rfl, h1⟩
  have Hb1 := Lib.hid (Hb0.out.trans (h1.mono Hb0.out.size))
  have Ht1 := Lib.hid (Ht0.out.keep h1)
  have hu1 := Hu0.out.keep h1
  have Hi1 := Lib.hid (Hi0.out.keep h1)
  have u0 := hu1.c0
  have u1 := hu1.c1
  have Hu1 := Lib.hid hu1; clear h1 hu1 Hb0 Ht0 Hu0 Hi0
  go_wp2_with fail
  refine (CL2.out _ (Kpk.out _ Hb1.out)).mono ?_; rintro e w2 ⟨rfl, h2⟩
  have Hb2 := Lib.hid (Hb1.out.trans (h2.mono Hb1.out.size))
  have ht2 := Ht1.out.keep h2
  have Hu2 := Lib.hid (Hu1.out.keep h2)
  have Hi2 := Lib.hid (Hi1.out.keep h2)
  clear u0 u1
  have x0 := ht2.c0
  have x1 := ht2.c1
  have Ht2 := Lib.hid ht2; clear ht2 h2 Hb1 Ht1 Hu1 Hi1 CL CL2
  go_wp2_with fail
  refine (CP'.out _ (Hpk.out _ Hb2.out)).mono ?_; rintro e w3 ⟨rfl, h3⟩
  have Hb3 := Lib.hid (Hb2.out.trans (h3.mono Hb2.out.size))
  have Ht3 := Lib.hid (Ht2.out.keep h3)
  have hu3 := Hu2.out.keep h3
  have Hi3 := Lib.hid (Hi2.out.keep h3)
  clear x0 x1
  have u0 := hu3.c0
  have u1 := hu3.c1
  have Hu3 := Lib.hid hu3; clear hu3 h3 Hb2 Ht2 Hu2 Hi2
  go_wp2_with fail
  refine (CQ'.out _ (Kpk.out _ Hb3.out)).mono ?_; rintro e w4 ⟨rfl, h4⟩
  have Hb4 := Lib.hid (Hb3.out.trans (h4.mono Hb3.out.size))
  have Ht4 := Lib.hid (Ht3.out.keep h4)
  have Hu4 := Lib.hid (Hu3.out.keep h4)
  have Hi4 := Lib.hid (Hi3.out.keep h4)
  clear u0 u1 h4 Hb3 Ht3 Hu3 Hi3 CP' CQ'
  by_cases hM1 : M1
  · obtain rfl := CkY'.out hM1
    obtain rfl := PtY'.out hM1
    have cb := CB'.out hM1
    have CB := Lib.hid cb; clear cb CB'
    go_wp2_with fail
    refine (CB.out _).mono ?_; rintro e w5 ⟨g, rfl, hg, hgb, h5⟩
    have hbg := obj_below w5 (.cells #[.slice g.a g.n g.c, .slice g.b g.m g.d] 25)
    have h6 := h5.trans (hbg.mono h5.size)
    have Hb6 := Lib.hid (Hb4.out.trans (h6.mono Hb4.out.size))
    have ht6 := Ht4.out.keep h6
    have x0 := ht6.c0
    have x1 := ht6.c1
    have Ht6 := Lib.hid ht6
    have Hu6 := Lib.hid (Hu4.out.keep h6)
    have Hi6 := Lib.hid (Hi4.out.keep h6)
    have cs6 := CS'.out g _ (hg.keep hbg) hgb (Hpk.out _ Hb6.out)
    have CS6 := Lib.hid cs6; clear cs6 ht6 h5 h6 hbg hg hgb Hb4 Ht4 Hu4 Hi4 CS' CB
    obtain ⟨ga, gn, gc, gb, gm, gd⟩ := g
    try unfold Pv.v at *
    simp only at CS6 Hb6 x0 x1 Ht6 Hu6 Hi6
    go_wp2_with fail
    refine CS6.out.mono ?_; rintro e w7 ⟨rfl, h7⟩
    have Hb7 := Lib.hid (Hb6.out.trans (h7.mono Hb6.out.size))
    have ht7 := Ht6.out.keep h7
    have hu7 := Hu6.out.keep h7
    have Hi7 := Lib.hid (Hi6.out.keep h7)
    clear x0 x1 h7 Hb6 Ht6 Hu6 Hi6 CS6
    by_cases hM2 : M2
    · obtain rfl := KkY'.out hM2
      obtain rfl := QtY'.out hM2
      have hs := Hsp'.out hM1 hM2
      have hs2 : (A1.toList == A2.toList) = SM := by
        rw [← hs, Bool.eq_iff_iff, beq_iff_eq, decide_eq_true_eq]
        exact ⟨fun h => ba_toList_inj h, fun h => by rw [h]⟩
      have x0 := ht7.c0
      have x1 := ht7.c1
      have u0 := hu7.c0
      have u1 := hu7.c1
      clear ht7 hu7 Hsp' CkY' CkN' PtY' KkY' KkN' QtY' hM1 hM2
      go_wp2_with fail
      refine (CU'.out _ (Hpk.out _ Hb7.out) (Kpk.out _ Hb7.out)).mono ?_; rintro e w8 ⟨rfl, h8⟩
      have Hb8 := Lib.hid (Hb7.out.trans (h8.mono Hb7.out.size))
      have Hi8 := Lib.hid (Hi7.out.keep h8)
      clear x0 x1 u0 u1 h8 Hb7 Hi7 CU' Hpk Kpk
      go_wp2_with fail
      refine (CG'.out _).mono ?_; rintro e v1 ⟨hr, h1⟩
      obtain ⟨g, us, es, gn, rfl, hg⟩ := getR_got hr
      clear hr
      have hbg := obj_below v1 (.cells #[.slice g.a g.n g.c, .slice g.b g.m g.d] 25)
      have h2 := h1.trans (hbg.mono h1.size)
      have HB1 := Lib.hid (Hb8.out.trans (h2.mono Hb8.out.size))
      have hi1 := Hi8.out.keep h2
      have HG := Lib.hid (hg.keep hbg)
      have hgi := Lib.hid hg.is
      clear h1 h2 hbg hg Hb8 Hi8
      rcases hgi.out with ⟨hnone, rfl, -, -⟩ | ⟨hsome, rfl⟩
      · clear hnone hgi HG
        have i0 := hi1.c0
        have i1 := hi1.c1
        have HI1 := Lib.hid hi1; clear hi1
        obtain ⟨ga, gn, gc, gb, gm, gd⟩ := g
        try unfold Pv.v
        go_wp2_with fail
        refine (CI'.out _ (HK.out.keep HB1.out)).mono ?_; rintro e z1 ⟨rfl, q1⟩
        have QB1 := Lib.hid (HB1.out.trans (q1.mono HB1.out.size))
        have QI1 := Lib.hid (HI1.out.keep q1)
        clear q1 HB1 HI1 i0 i1
        cases II with
        | true =>
          obtain rfl := HlY'.out rfl
          obtain rfl := HeY'.out rfl
          have crd := Lib.hid (Crb'.out (by trivial) _ (HK.out.keep QB1.out))
          clear HlY' HeY' HlN' HeN' Crb'
          go_wp2_with fail
          refine crd.out.mono ?_; rintro e z2 ⟨rfl, q2⟩
          clear crd
          have q3 := q2.trans ((obj_below z2 (.cells #[(.int .u8 (i.1.toNat : Int)), (.int .u8 (i.2.toNat : Int))] 39)).mono q2.size)
          have QB2 := Lib.hid (QB1.out.trans (q3.mono QB1.out.size))
          have qi2 := QI1.out.keep q3
          have i0 := qi2.c0
          have i1 := qi2.c1
          have QZ2 := Lib.hid (Two.new z2 (.int .u8 (i.1.toNat : Int)) (.int .u8 (i.2.toNat : Int)) 39)
          have QR2 := Lib.hid (heap_alloc_new z2 (.cells #[(.int .u8 (i.1.toNat : Int)), (.int .u8 (i.2.toNat : Int))] 39))
          have QL2 := Lib.hid QB1.out.size
          clear qi2 q3 QI1
          have QS2 := Lib.hid (Nat.le_trans QB1.out.size q2.size)
          clear q2 QB1 QL2
          go_wp2_with fail
          refine (CT'.out _ (HK.out.keep QB2.out)).mono ?_; rintro e z3 ⟨hr, q4⟩
          have QB3 := Lib.hid (QB2.out.trans (q4.mono QB2.out.size))
          have qz3 := QZ2.out.keep q4
          have r0 := qz3.c0
          have r1 := qz3.c1
          have qr3 := row_below QR2.out q4 (row_lt QR2.out)
          have f0 := row_free qr3 0
          have f1 := row_free qr3 1
          clear qz3 q4 QB2 QZ2 i0 i1 QR2
          rcases hr with ⟨j, hj, rfl⟩ | ⟨_, rfl⟩
          · have cln := line_back hj
            unfold insV at cln
            have CLN := Lib.hid cln; clear cln hj
            have QB4 : Below w.heap.size w ((z3.setCell ⟨z2.heap.size, 0, none⟩ (.int .u8 (j.1.toNat : Int))).setCell ⟨z2.heap.size, 1, none⟩ (.int .u8 (j.2.toNat : Int))) := (QB3.out.setCell QS2.out _).setCell QS2.out _
            have QB5 := Lib.hid QB4; clear QB4 QB3 QS2
            unfold insV
            go_wp2_with fail
            refine (CLN.out _ (HK.out.keep QB5.out)).mono ?_; rintro e z4 ⟨rfl, q5⟩
            have QB6 := Lib.hid (QB5.out.trans (q5.mono QB5.out.size))
            clear q5 QB5 r0 r1 f0 f1 qr3
            go_wp2_with fail
            refine (alive_any _ (HK.out.keep QB6.out)).mono ?_; rintro e z5 ⟨rfl, q6⟩
            have QB7 := Lib.hid (QB6.out.trans (q6.mono QB6.out.size))
            clear q6 QB6
            go_wp2_with fail
            go_ret
            exact ⟨rfl, QB7.out⟩
          · obtain ⟨j, hj⟩ : ∃ j : Cod.In, j = (0, 0) := ⟨_, rfl⟩
            rw [← hj]
            have cln := line_any j
            unfold insV at cln
            have CLN := Lib.hid cln; clear cln hj
            have QB4 : Below w.heap.size w ((z3.setCell ⟨z2.heap.size, 0, none⟩ (.int .u8 (j.1.toNat : Int))).setCell ⟨z2.heap.size, 1, none⟩ (.int .u8 (j.2.toNat : Int))) := (QB3.out.setCell QS2.out _).setCell QS2.out _
            have QB5 := Lib.hid QB4; clear QB4 QB3 QS2
            unfold insV
            go_wp2_with fail
            refine (CLN.out _ (HK.out.keep QB5.out)).mono ?_; rintro e z4 ⟨rfl, q5⟩
            have QB6 := Lib.hid (QB5.out.trans (q5.mono QB5.out.size))
            clear q5 QB5 r0 r1 f0 f1 qr3
            go_wp2_with fail
            refine (alive_any _ (HK.out.keep QB6.out)).mono ?_; rintro e z5 ⟨rfl, q6⟩
            have QB7 := Lib.hid (QB6.out.trans (q6.mono QB6.out.size))
            clear q6 QB6
            go_wp2_with fail
            go_ret
            exact ⟨rfl, QB7.out⟩
        | false =>
          obtain rfl := HlN'.out (by simp)
          obtain rfl := HeN'.out (by simp)
          clear HlY' HeY' HlN' HeN' Crb'
          go_wp2_with fail
          refine (CE'.out _ (HK.out.keep QB1.out)).mono ?_; rintro e z2 ⟨hr, q2⟩
          obtain ⟨k, kn, rfl⟩ : ∃ (k : Cod.In) (kn : Int), e = .returned (.tuple #[.agg #[.int .u8 (k.1.toNat : Int), .int .u8 (k.2.toNat : Int)], .int .i64 kn]) := by
            rcases hr with ⟨k, _, rfl⟩ | ⟨_, rfl⟩
            · exact ⟨k, 0, rfl⟩
            · exact ⟨(0, 0), 7, rfl⟩
          clear hr
          have q3 := q2.trans ((obj_below z2 (.cells #[(.int .u8 (k.1.toNat : Int)), (.int .u8 (k.2.toNat : Int))] 39)).mono q2.size)
          have QB2 := Lib.hid (QB1.out.trans (q3.mono QB1.out.size))
          have qi2 := QI1.out.keep q3
          have i0 := qi2.c0
          have i1 := qi2.c1
          have QZ2 := Lib.hid (Two.new z2 (.int .u8 (k.1.toNat : Int)) (.int .u8 (k.2.toNat : Int)) 39)
          have QR2 := Lib.hid (heap_alloc_new z2 (.cells #[(.int .u8 (k.1.toNat : Int)), (.int .u8 (k.2.toNat : Int))] 39))
          have QL2 := Lib.hid QB1.out.size
          clear qi2 q3 QI1
          have QS2 := Lib.hid (Nat.le_trans QB1.out.size q2.size)
          clear q2 QB1 QL2
          go_wp2_with fail
          refine (CT'.out _ (HK.out.keep QB2.out)).mono ?_; rintro e z3 ⟨hr, q4⟩
          have QB3 := Lib.hid (QB2.out.trans (q4.mono QB2.out.size))
          have qz3 := QZ2.out.keep q4
          have r0 := qz3.c0
          have r1 := qz3.c1
          have qr3 := row_below QR2.out q4 (row_lt QR2.out)
          have f0 := row_free qr3 0
          have f1 := row_free qr3 1
          clear qz3 q4 QB2 QZ2 i0 i1 QR2
          rcases hr with ⟨j, hj, rfl⟩ | ⟨_, rfl⟩
          · have cln := line_back hj
            unfold insV at cln
            have CLN := Lib.hid cln; clear cln hj
            have QB4 : Below w.heap.size w ((z3.setCell ⟨z2.heap.size, 0, none⟩ (.int .u8 (j.1.toNat : Int))).setCell ⟨z2.heap.size, 1, none⟩ (.int .u8 (j.2.toNat : Int))) := (QB3.out.setCell QS2.out _).setCell QS2.out _
            have QB5 := Lib.hid QB4; clear QB4 QB3 QS2
            unfold insV
            go_wp2_with fail
            refine (CLN.out _ (HK.out.keep QB5.out)).mono ?_; rintro e z4 ⟨rfl, q5⟩
            have QB6 := Lib.hid (QB5.out.trans (q5.mono QB5.out.size))
            clear q5 QB5 r0 r1 f0 f1 qr3
            go_wp2_with fail
            refine (alive_any _ (HK.out.keep QB6.out)).mono ?_; rintro e z5 ⟨rfl, q6⟩
            have QB7 := Lib.hid (QB6.out.trans (q6.mono QB6.out.size))
            clear q6 QB6
            go_wp2_with fail
            go_ret
            exact ⟨rfl, QB7.out⟩
          · obtain ⟨j, hj⟩ : ∃ j : Cod.In, j = (0, 0) := ⟨_, rfl⟩
            rw [← hj]
            have cln := line_any j
            unfold insV at cln
            have CLN := Lib.hid cln; clear cln hj
            have QB4 : Below w.heap.size w ((z3.setCell ⟨z2.heap.size, 0, none⟩ (.int .u8 (j.1.toNat : Int))).setCell ⟨z2.heap.size, 1, none⟩ (.int .u8 (j.2.toNat : Int))) := (QB3.out.setCell QS2.out _).setCell QS2.out _
            have QB5 := Lib.hid QB4; clear QB4 QB3 QS2
            unfold insV
            go_wp2_with fail
            refine (CLN.out _ (HK.out.keep QB5.out)).mono ?_; rintro e z4 ⟨rfl, q5⟩
            have QB6 := Lib.hid (QB5.out.trans (q5.mono QB5.out.size))
            clear q5 QB5 r0 r1 f0 f1 qr3
            go_wp2_with fail
            refine (alive_any _ (HK.out.keep QB6.out)).mono ?_; rintro e z5 ⟨rfl, q6⟩
            have QB7 := Lib.hid (QB6.out.trans (q6.mono QB6.out.size))
            clear q6 QB6
            go_wp2_with fail
            go_ret
            exact ⟨rfl, QB7.out⟩
      · have hpt := back_put HG.out hsome
        have HP := Lib.hid hpt; clear hpt hsome hgi HG
        obtain ⟨ga, gn, gc, gb, gm, gd⟩ := g
        unfold Pv.v at HP
        simp only at HP hi1 HB1
        have HI1 := Lib.hid hi1; clear hi1
        try unfold Pv.v
        go_wp2_with fail
        refine HP.out.mono ?_; rintro e v2 ⟨rfl, h3⟩
        have HB2 := Lib.hid (HB1.out.trans (h3.mono HB1.out.size))
        have hi2 := HI1.out.keep h3
        have i0 := hi2.c0
        have i1 := hi2.c1
        have HI2 := Lib.hid hi2; clear hi2 h3 HB1 HI1 HP
        go_wp2_with fail
        refine (CI'.out _ (HK.out.keep HB2.out)).mono ?_; rintro e z1 ⟨rfl, q1⟩
        have QB1 := Lib.hid (HB2.out.trans (q1.mono HB2.out.size))
        have QI1 := Lib.hid (HI2.out.keep q1)
        clear q1 HB2 HI2 i0 i1
        cases II with
        | true =>
          obtain rfl := HlY'.out rfl
          obtain rfl := HeY'.out rfl
          have crd := Lib.hid (Crb'.out (by trivial) _ (HK.out.keep QB1.out))
          clear HlY' HeY' HlN' HeN' Crb'
          go_wp2_with fail
          refine crd.out.mono ?_; rintro e z2 ⟨rfl, q2⟩
          clear crd
          have q3 := q2.trans ((obj_below z2 (.cells #[(.int .u8 (i.1.toNat : Int)), (.int .u8 (i.2.toNat : Int))] 39)).mono q2.size)
          have QB2 := Lib.hid (QB1.out.trans (q3.mono QB1.out.size))
          have qi2 := QI1.out.keep q3
          have i0 := qi2.c0
          have i1 := qi2.c1
          have QZ2 := Lib.hid (Two.new z2 (.int .u8 (i.1.toNat : Int)) (.int .u8 (i.2.toNat : Int)) 39)
          have QR2 := Lib.hid (heap_alloc_new z2 (.cells #[(.int .u8 (i.1.toNat : Int)), (.int .u8 (i.2.toNat : Int))] 39))
          have QL2 := Lib.hid QB1.out.size
          clear qi2 q3 QI1
          have QS2 := Lib.hid (Nat.le_trans QB1.out.size q2.size)
          clear q2 QB1 QL2
          go_wp2_with fail
          refine (CT'.out _ (HK.out.keep QB2.out)).mono ?_; rintro e z3 ⟨hr, q4⟩
          have QB3 := Lib.hid (QB2.out.trans (q4.mono QB2.out.size))
          have qz3 := QZ2.out.keep q4
          have r0 := qz3.c0
          have r1 := qz3.c1
          have qr3 := row_below QR2.out q4 (row_lt QR2.out)
          have f0 := row_free qr3 0
          have f1 := row_free qr3 1
          clear qz3 q4 QB2 QZ2 i0 i1 QR2
          rcases hr with ⟨j, hj, rfl⟩ | ⟨_, rfl⟩
          · have cln := line_back hj
            unfold insV at cln
            have CLN := Lib.hid cln; clear cln hj
            have QB4 : Below w.heap.size w ((z3.setCell ⟨z2.heap.size, 0, none⟩ (.int .u8 (j.1.toNat : Int))).setCell ⟨z2.heap.size, 1, none⟩ (.int .u8 (j.2.toNat : Int))) := (QB3.out.setCell QS2.out _).setCell QS2.out _
            have QB5 := Lib.hid QB4; clear QB4 QB3 QS2
            unfold insV
            go_wp2_with fail
            refine (CLN.out _ (HK.out.keep QB5.out)).mono ?_; rintro e z4 ⟨rfl, q5⟩
            have QB6 := Lib.hid (QB5.out.trans (q5.mono QB5.out.size))
            clear q5 QB5 r0 r1 f0 f1 qr3
            go_wp2_with fail
            refine (alive_any _ (HK.out.keep QB6.out)).mono ?_; rintro e z5 ⟨rfl, q6⟩
            have QB7 := Lib.hid (QB6.out.trans (q6.mono QB6.out.size))
            clear q6 QB6
            go_wp2_with fail
            go_ret
            exact ⟨rfl, QB7.out⟩
          · obtain ⟨j, hj⟩ : ∃ j : Cod.In, j = (0, 0) := ⟨_, rfl⟩
            rw [← hj]
            have cln := line_any j
            unfold insV at cln
            have CLN := Lib.hid cln; clear cln hj
            have QB4 : Below w.heap.size w ((z3.setCell ⟨z2.heap.size, 0, none⟩ (.int .u8 (j.1.toNat : Int))).setCell ⟨z2.heap.size, 1, none⟩ (.int .u8 (j.2.toNat : Int))) := (QB3.out.setCell QS2.out _).setCell QS2.out _
            have QB5 := Lib.hid QB4; clear QB4 QB3 QS2
            unfold insV
            go_wp2_with fail
            refine (CLN.out _ (HK.out.keep QB5.out)).mono ?_; rintro e z4 ⟨rfl, q5⟩
            have QB6 := Lib.hid (QB5.out.trans (q5.mono QB5.out.size))
            clear q5 QB5 r0 r1 f0 f1 qr3
            go_wp2_with fail
            refine (alive_any _ (HK.out.keep QB6.out)).mono ?_; rintro e z5 ⟨rfl, q6⟩
            have QB7 := Lib.hid (QB6.out.trans (q6.mono QB6.out.size))
            clear q6 QB6
            go_wp2_with fail
            go_ret
            exact ⟨rfl, QB7.out⟩
        | false =>
          obtain rfl := HlN'.out (by simp)
          obtain rfl := HeN'.out (by simp)
          clear HlY' HeY' HlN' HeN' Crb'
          go_wp2_with fail
          refine (CE'.out _ (HK.out.keep QB1.out)).mono ?_; rintro e z2 ⟨hr, q2⟩
          obtain ⟨k, kn, rfl⟩ : ∃ (k : Cod.In) (kn : Int), e = .returned (.tuple #[.agg #[.int .u8 (k.1.toNat : Int), .int .u8 (k.2.toNat : Int)], .int .i64 kn]) := by
            rcases hr with ⟨k, _, rfl⟩ | ⟨_, rfl⟩
            · exact ⟨k, 0, rfl⟩
            · exact ⟨(0, 0), 7, rfl⟩
          clear hr
          have q3 := q2.trans ((obj_below z2 (.cells #[(.int .u8 (k.1.toNat : Int)), (.int .u8 (k.2.toNat : Int))] 39)).mono q2.size)
          have QB2 := Lib.hid (QB1.out.trans (q3.mono QB1.out.size))
          have qi2 := QI1.out.keep q3
          have i0 := qi2.c0
          have i1 := qi2.c1
          have QZ2 := Lib.hid (Two.new z2 (.int .u8 (k.1.toNat : Int)) (.int .u8 (k.2.toNat : Int)) 39)
          have QR2 := Lib.hid (heap_alloc_new z2 (.cells #[(.int .u8 (k.1.toNat : Int)), (.int .u8 (k.2.toNat : Int))] 39))
          have QL2 := Lib.hid QB1.out.size
          clear qi2 q3 QI1
          have QS2 := Lib.hid (Nat.le_trans QB1.out.size q2.size)
          clear q2 QB1 QL2
          go_wp2_with fail
          refine (CT'.out _ (HK.out.keep QB2.out)).mono ?_; rintro e z3 ⟨hr, q4⟩
          have QB3 := Lib.hid (QB2.out.trans (q4.mono QB2.out.size))
          have qz3 := QZ2.out.keep q4
          have r0 := qz3.c0
          have r1 := qz3.c1
          have qr3 := row_below QR2.out q4 (row_lt QR2.out)
          have f0 := row_free qr3 0
          have f1 := row_free qr3 1
          clear qz3 q4 QB2 QZ2 i0 i1 QR2
          rcases hr with ⟨j, hj, rfl⟩ | ⟨_, rfl⟩
          · have cln := line_back hj
            unfold insV at cln
            have CLN := Lib.hid cln; clear cln hj
            have QB4 : Below w.heap.size w ((z3.setCell ⟨z2.heap.size, 0, none⟩ (.int .u8 (j.1.toNat : Int))).setCell ⟨z2.heap.size, 1, none⟩ (.int .u8 (j.2.toNat : Int))) := (QB3.out.setCell QS2.out _).setCell QS2.out _
            have QB5 := Lib.hid QB4; clear QB4 QB3 QS2
            unfold insV
            go_wp2_with fail
            refine (CLN.out _ (HK.out.keep QB5.out)).mono ?_; rintro e z4 ⟨rfl, q5⟩
            have QB6 := Lib.hid (QB5.out.trans (q5.mono QB5.out.size))
            clear q5 QB5 r0 r1 f0 f1 qr3
            go_wp2_with fail
            refine (alive_any _ (HK.out.keep QB6.out)).mono ?_; rintro e z5 ⟨rfl, q6⟩
            have QB7 := Lib.hid (QB6.out.trans (q6.mono QB6.out.size))
            clear q6 QB6
            go_wp2_with fail
            go_ret
            exact ⟨rfl, QB7.out⟩
          · obtain ⟨j, hj⟩ : ∃ j : Cod.In, j = (0, 0) := ⟨_, rfl⟩
            rw [← hj]
            have cln := line_any j
            unfold insV at cln
            have CLN := Lib.hid cln; clear cln hj
            have QB4 : Below w.heap.size w ((z3.setCell ⟨z2.heap.size, 0, none⟩ (.int .u8 (j.1.toNat : Int))).setCell ⟨z2.heap.size, 1, none⟩ (.int .u8 (j.2.toNat : Int))) := (QB3.out.setCell QS2.out _).setCell QS2.out _
            have QB5 := Lib.hid QB4; clear QB4 QB3 QS2
            unfold insV
            go_wp2_with fail
            refine (CLN.out _ (HK.out.keep QB5.out)).mono ?_; rintro e z4 ⟨rfl, q5⟩
            have QB6 := Lib.hid (QB5.out.trans (q5.mono QB5.out.size))
            clear q5 QB5 r0 r1 f0 f1 qr3
            go_wp2_with fail
            refine (alive_any _ (HK.out.keep QB6.out)).mono ?_; rintro e z5 ⟨rfl, q6⟩
            have QB7 := Lib.hid (QB6.out.trans (q6.mono QB6.out.size))
            clear q6 QB6
            go_wp2_with fail
            go_ret
            exact ⟨rfl, QB7.out⟩
    · obtain rfl := KkN'.out hM2
      clear ht7 hu7 Hsp' CkY' CkN' PtY' KkY' KkN' QtY' hM1 hM2 CU' Hpk Kpk
      go_wp2_with fail
      refine (CG'.out _).mono ?_; rintro e v1 ⟨hr, h1⟩
      obtain ⟨g, us, es, gn, rfl, hg⟩ := getR_got hr
      clear hr
      have hbg := obj_below v1 (.cells #[.slice g.a g.n g.c, .slice g.b g.m g.d] 25)
      have h2 := h1.trans (hbg.mono h1.size)
      have HB1 := Lib.hid (Hb7.out.trans (h2.mono Hb7.out.size))
      have hi1 := Hi7.out.keep h2
      have HG := Lib.hid (hg.keep hbg)
      have hgi := Lib.hid hg.is
      clear h1 h2 hbg hg Hb7 Hi7
      rcases hgi.out with ⟨hnone, rfl, -, -⟩ | ⟨hsome, rfl⟩
      · clear hnone hgi HG
        have i0 := hi1.c0
        have i1 := hi1.c1
        have HI1 := Lib.hid hi1; clear hi1
        obtain ⟨ga, gn, gc, gb, gm, gd⟩ := g
        try unfold Pv.v
        go_wp2_with fail
        refine (CI'.out _ (HK.out.keep HB1.out)).mono ?_; rintro e z1 ⟨rfl, q1⟩
        have QB1 := Lib.hid (HB1.out.trans (q1.mono HB1.out.size))
        have QI1 := Lib.hid (HI1.out.keep q1)
        clear q1 HB1 HI1 i0 i1
        cases II with
        | true =>
          obtain rfl := HlY'.out rfl
          obtain rfl := HeY'.out rfl
          have crd := Lib.hid (Crb'.out (by trivial) _ (HK.out.keep QB1.out))
          clear HlY' HeY' HlN' HeN' Crb'
          go_wp2_with fail
          refine crd.out.mono ?_; rintro e z2 ⟨rfl, q2⟩
          clear crd
          have q3 := q2.trans ((obj_below z2 (.cells #[(.int .u8 (i.1.toNat : Int)), (.int .u8 (i.2.toNat : Int))] 39)).mono q2.size)
          have QB2 := Lib.hid (QB1.out.trans (q3.mono QB1.out.size))
          have qi2 := QI1.out.keep q3
          have i0 := qi2.c0
          have i1 := qi2.c1
          have QZ2 := Lib.hid (Two.new z2 (.int .u8 (i.1.toNat : Int)) (.int .u8 (i.2.toNat : Int)) 39)
          have QR2 := Lib.hid (heap_alloc_new z2 (.cells #[(.int .u8 (i.1.toNat : Int)), (.int .u8 (i.2.toNat : Int))] 39))
          have QL2 := Lib.hid QB1.out.size
          clear qi2 q3 QI1
          have QS2 := Lib.hid (Nat.le_trans QB1.out.size q2.size)
          clear q2 QB1 QL2
          go_wp2_with fail
          refine (CT'.out _ (HK.out.keep QB2.out)).mono ?_; rintro e z3 ⟨hr, q4⟩
          have QB3 := Lib.hid (QB2.out.trans (q4.mono QB2.out.size))
          have qz3 := QZ2.out.keep q4
          have r0 := qz3.c0
          have r1 := qz3.c1
          have qr3 := row_below QR2.out q4 (row_lt QR2.out)
          have f0 := row_free qr3 0
          have f1 := row_free qr3 1
          clear qz3 q4 QB2 QZ2 i0 i1 QR2
          rcases hr with ⟨j, hj, rfl⟩ | ⟨_, rfl⟩
          · have cln := line_back hj
            unfold insV at cln
            have CLN := Lib.hid cln; clear cln hj
            have QB4 : Below w.heap.size w ((z3.setCell ⟨z2.heap.size, 0, none⟩ (.int .u8 (j.1.toNat : Int))).setCell ⟨z2.heap.size, 1, none⟩ (.int .u8 (j.2.toNat : Int))) := (QB3.out.setCell QS2.out _).setCell QS2.out _
            have QB5 := Lib.hid QB4; clear QB4 QB3 QS2
            unfold insV
            go_wp2_with fail
            refine (CLN.out _ (HK.out.keep QB5.out)).mono ?_; rintro e z4 ⟨rfl, q5⟩
            have QB6 := Lib.hid (QB5.out.trans (q5.mono QB5.out.size))
            clear q5 QB5 r0 r1 f0 f1 qr3
            go_wp2_with fail
            refine (alive_any _ (HK.out.keep QB6.out)).mono ?_; rintro e z5 ⟨rfl, q6⟩
            have QB7 := Lib.hid (QB6.out.trans (q6.mono QB6.out.size))
            clear q6 QB6
            go_wp2_with fail
            go_ret
            exact ⟨rfl, QB7.out⟩
          · obtain ⟨j, hj⟩ : ∃ j : Cod.In, j = (0, 0) := ⟨_, rfl⟩
            rw [← hj]
            have cln := line_any j
            unfold insV at cln
            have CLN := Lib.hid cln; clear cln hj
            have QB4 : Below w.heap.size w ((z3.setCell ⟨z2.heap.size, 0, none⟩ (.int .u8 (j.1.toNat : Int))).setCell ⟨z2.heap.size, 1, none⟩ (.int .u8 (j.2.toNat : Int))) := (QB3.out.setCell QS2.out _).setCell QS2.out _
            have QB5 := Lib.hid QB4; clear QB4 QB3 QS2
            unfold insV
            go_wp2_with fail
            refine (CLN.out _ (HK.out.keep QB5.out)).mono ?_; rintro e z4 ⟨rfl, q5⟩
            have QB6 := Lib.hid (QB5.out.trans (q5.mono QB5.out.size))
            clear q5 QB5 r0 r1 f0 f1 qr3
            go_wp2_with fail
            refine (alive_any _ (HK.out.keep QB6.out)).mono ?_; rintro e z5 ⟨rfl, q6⟩
            have QB7 := Lib.hid (QB6.out.trans (q6.mono QB6.out.size))
            clear q6 QB6
            go_wp2_with fail
            go_ret
            exact ⟨rfl, QB7.out⟩
        | false =>
          obtain rfl := HlN'.out (by simp)
          obtain rfl := HeN'.out (by simp)
          clear HlY' HeY' HlN' HeN' Crb'
          go_wp2_with fail
          refine (CE'.out _ (HK.out.keep QB1.out)).mono ?_; rintro e z2 ⟨hr, q2⟩
          obtain ⟨k, kn, rfl⟩ : ∃ (k : Cod.In) (kn : Int), e = .returned (.tuple #[.agg #[.int .u8 (k.1.toNat : Int), .int .u8 (k.2.toNat : Int)], .int .i64 kn]) := by
            rcases hr with ⟨k, _, rfl⟩ | ⟨_, rfl⟩
            · exact ⟨k, 0, rfl⟩
            · exact ⟨(0, 0), 7, rfl⟩
          clear hr
          have q3 := q2.trans ((obj_below z2 (.cells #[(.int .u8 (k.1.toNat : Int)), (.int .u8 (k.2.toNat : Int))] 39)).mono q2.size)
          have QB2 := Lib.hid (QB1.out.trans (q3.mono QB1.out.size))
          have qi2 := QI1.out.keep q3
          have i0 := qi2.c0
          have i1 := qi2.c1
          have QZ2 := Lib.hid (Two.new z2 (.int .u8 (k.1.toNat : Int)) (.int .u8 (k.2.toNat : Int)) 39)
          have QR2 := Lib.hid (heap_alloc_new z2 (.cells #[(.int .u8 (k.1.toNat : Int)), (.int .u8 (k.2.toNat : Int))] 39))
          have QL2 := Lib.hid QB1.out.size
          clear qi2 q3 QI1
          have QS2 := Lib.hid (Nat.le_trans QB1.out.size q2.size)
          clear q2 QB1 QL2
          go_wp2_with fail
          refine (CT'.out _ (HK.out.keep QB2.out)).mono ?_; rintro e z3 ⟨hr, q4⟩
          have QB3 := Lib.hid (QB2.out.trans (q4.mono QB2.out.size))
          have qz3 := QZ2.out.keep q4
          have r0 := qz3.c0
          have r1 := qz3.c1
          have qr3 := row_below QR2.out q4 (row_lt QR2.out)
          have f0 := row_free qr3 0
          have f1 := row_free qr3 1
          clear qz3 q4 QB2 QZ2 i0 i1 QR2
          rcases hr with ⟨j, hj, rfl⟩ | ⟨_, rfl⟩
          · have cln := line_back hj
            unfold insV at cln
            have CLN := Lib.hid cln; clear cln hj
            have QB4 : Below w.heap.size w ((z3.setCell ⟨z2.heap.size, 0, none⟩ (.int .u8 (j.1.toNat : Int))).setCell ⟨z2.heap.size, 1, none⟩ (.int .u8 (j.2.toNat : Int))) := (QB3.out.setCell QS2.out _).setCell QS2.out _
            have QB5 := Lib.hid QB4; clear QB4 QB3 QS2
            unfold insV
            go_wp2_with fail
            refine (CLN.out _ (HK.out.keep QB5.out)).mono ?_; rintro e z4 ⟨rfl, q5⟩
            have QB6 := Lib.hid (QB5.out.trans (q5.mono QB5.out.size))
            clear q5 QB5 r0 r1 f0 f1 qr3
            go_wp2_with fail
            refine (alive_any _ (HK.out.keep QB6.out)).mono ?_; rintro e z5 ⟨rfl, q6⟩
            have QB7 := Lib.hid (QB6.out.trans (q6.mono QB6.out.size))
            clear q6 QB6
            go_wp2_with fail
            go_ret
            exact ⟨rfl, QB7.out⟩
          · obtain ⟨j, hj⟩ : ∃ j : Cod.In, j = (0, 0) := ⟨_, rfl⟩
            rw [← hj]
            have cln := line_any j
            unfold insV at cln
            have CLN := Lib.hid cln; clear cln hj
            have QB4 : Below w.heap.size w ((z3.setCell ⟨z2.heap.size, 0, none⟩ (.int .u8 (j.1.toNat : Int))).setCell ⟨z2.heap.size, 1, none⟩ (.int .u8 (j.2.toNat : Int))) := (QB3.out.setCell QS2.out _).setCell QS2.out _
            have QB5 := Lib.hid QB4; clear QB4 QB3 QS2
            unfold insV
            go_wp2_with fail
            refine (CLN.out _ (HK.out.keep QB5.out)).mono ?_; rintro e z4 ⟨rfl, q5⟩
            have QB6 := Lib.hid (QB5.out.trans (q5.mono QB5.out.size))
            clear q5 QB5 r0 r1 f0 f1 qr3
            go_wp2_with fail
            refine (alive_any _ (HK.out.keep QB6.out)).mono ?_; rintro e z5 ⟨rfl, q6⟩
            have QB7 := Lib.hid (QB6.out.trans (q6.mono QB6.out.size))
            clear q6 QB6
            go_wp2_with fail
            go_ret
            exact ⟨rfl, QB7.out⟩
      · have hpt := back_put HG.out hsome
        have HP := Lib.hid hpt; clear hpt hsome hgi HG
        obtain ⟨ga, gn, gc, gb, gm, gd⟩ := g
        unfold Pv.v at HP
        simp only at HP hi1 HB1
        have HI1 := Lib.hid hi1; clear hi1
        try unfold Pv.v
        go_wp2_with fail
        refine HP.out.mono ?_; rintro e v2 ⟨rfl, h3⟩
        have HB2 := Lib.hid (HB1.out.trans (h3.mono HB1.out.size))
        have hi2 := HI1.out.keep h3
        have i0 := hi2.c0
        have i1 := hi2.c1
        have HI2 := Lib.hid hi2; clear hi2 h3 HB1 HI1 HP
        go_wp2_with fail
        refine (CI'.out _ (HK.out.keep HB2.out)).mono ?_; rintro e z1 ⟨rfl, q1⟩
        have QB1 := Lib.hid (HB2.out.trans (q1.mono HB2.out.size))
        have QI1 := Lib.hid (HI2.out.keep q1)
        clear q1 HB2 HI2 i0 i1
        cases II with
        | true =>
          obtain rfl := HlY'.out rfl
          obtain rfl := HeY'.out rfl
          have crd := Lib.hid (Crb'.out (by trivial) _ (HK.out.keep QB1.out))
          clear HlY' HeY' HlN' HeN' Crb'
          go_wp2_with fail
          refine crd.out.mono ?_; rintro e z2 ⟨rfl, q2⟩
          clear crd
          have q3 := q2.trans ((obj_below z2 (.cells #[(.int .u8 (i.1.toNat : Int)), (.int .u8 (i.2.toNat : Int))] 39)).mono q2.size)
          have QB2 := Lib.hid (QB1.out.trans (q3.mono QB1.out.size))
          have qi2 := QI1.out.keep q3
          have i0 := qi2.c0
          have i1 := qi2.c1
          have QZ2 := Lib.hid (Two.new z2 (.int .u8 (i.1.toNat : Int)) (.int .u8 (i.2.toNat : Int)) 39)
          have QR2 := Lib.hid (heap_alloc_new z2 (.cells #[(.int .u8 (i.1.toNat : Int)), (.int .u8 (i.2.toNat : Int))] 39))
          have QL2 := Lib.hid QB1.out.size
          clear qi2 q3 QI1
          have QS2 := Lib.hid (Nat.le_trans QB1.out.size q2.size)
          clear q2 QB1 QL2
          go_wp2_with fail
          refine (CT'.out _ (HK.out.keep QB2.out)).mono ?_; rintro e z3 ⟨hr, q4⟩
          have QB3 := Lib.hid (QB2.out.trans (q4.mono QB2.out.size))
          have qz3 := QZ2.out.keep q4
          have r0 := qz3.c0
          have r1 := qz3.c1
          have qr3 := row_below QR2.out q4 (row_lt QR2.out)
          have f0 := row_free qr3 0
          have f1 := row_free qr3 1
          clear qz3 q4 QB2 QZ2 i0 i1 QR2
          rcases hr with ⟨j, hj, rfl⟩ | ⟨_, rfl⟩
          · have cln := line_back hj
            unfold insV at cln
            have CLN := Lib.hid cln; clear cln hj
            have QB4 : Below w.heap.size w ((z3.setCell ⟨z2.heap.size, 0, none⟩ (.int .u8 (j.1.toNat : Int))).setCell ⟨z2.heap.size, 1, none⟩ (.int .u8 (j.2.toNat : Int))) := (QB3.out.setCell QS2.out _).setCell QS2.out _
            have QB5 := Lib.hid QB4; clear QB4 QB3 QS2
            unfold insV
            go_wp2_with fail
            refine (CLN.out _ (HK.out.keep QB5.out)).mono ?_; rintro e z4 ⟨rfl, q5⟩
            have QB6 := Lib.hid (QB5.out.trans (q5.mono QB5.out.size))
            clear q5 QB5 r0 r1 f0 f1 qr3
            go_wp2_with fail
            refine (alive_any _ (HK.out.keep QB6.out)).mono ?_; rintro e z5 ⟨rfl, q6⟩
            have QB7 := Lib.hid (QB6.out.trans (q6.mono QB6.out.size))
            clear q6 QB6
            go_wp2_with fail
            go_ret
            exact ⟨rfl, QB7.out⟩
          · obtain ⟨j, hj⟩ : ∃ j : Cod.In, j = (0, 0) := ⟨_, rfl⟩
            rw [← hj]
            have cln := line_any j
            unfold insV at cln
            have CLN := Lib.hid cln; clear cln hj
            have QB4 : Below w.heap.size w ((z3.setCell ⟨z2.heap.size, 0, none⟩ (.int .u8 (j.1.toNat : Int))).setCell ⟨z2.heap.size, 1, none⟩ (.int .u8 (j.2.toNat : Int))) := (QB3.out.setCell QS2.out _).setCell QS2.out _
            have QB5 := Lib.hid QB4; clear QB4 QB3 QS2
            unfold insV
            go_wp2_with fail
            refine (CLN.out _ (HK.out.keep QB5.out)).mono ?_; rintro e z4 ⟨rfl, q5⟩
            have QB6 := Lib.hid (QB5.out.trans (q5.mono QB5.out.size))
            clear q5 QB5 r0 r1 f0 f1 qr3
            go_wp2_with fail
            refine (alive_any _ (HK.out.keep QB6.out)).mono ?_; rintro e z5 ⟨rfl, q6⟩
            have QB7 := Lib.hid (QB6.out.trans (q6.mono QB6.out.size))
            clear q6 QB6
            go_wp2_with fail
            go_ret
            exact ⟨rfl, QB7.out⟩
        | false =>
          obtain rfl := HlN'.out (by simp)
          obtain rfl := HeN'.out (by simp)
          clear HlY' HeY' HlN' HeN' Crb'
          go_wp2_with fail
          refine (CE'.out _ (HK.out.keep QB1.out)).mono ?_; rintro e z2 ⟨hr, q2⟩
          obtain ⟨k, kn, rfl⟩ : ∃ (k : Cod.In) (kn : Int), e = .returned (.tuple #[.agg #[.int .u8 (k.1.toNat : Int), .int .u8 (k.2.toNat : Int)], .int .i64 kn]) := by
            rcases hr with ⟨k, _, rfl⟩ | ⟨_, rfl⟩
            · exact ⟨k, 0, rfl⟩
            · exact ⟨(0, 0), 7, rfl⟩
          clear hr
          have q3 := q2.trans ((obj_below z2 (.cells #[(.int .u8 (k.1.toNat : Int)), (.int .u8 (k.2.toNat : Int))] 39)).mono q2.size)
          have QB2 := Lib.hid (QB1.out.trans (q3.mono QB1.out.size))
          have qi2 := QI1.out.keep q3
          have i0 := qi2.c0
          have i1 := qi2.c1
          have QZ2 := Lib.hid (Two.new z2 (.int .u8 (k.1.toNat : Int)) (.int .u8 (k.2.toNat : Int)) 39)
          have QR2 := Lib.hid (heap_alloc_new z2 (.cells #[(.int .u8 (k.1.toNat : Int)), (.int .u8 (k.2.toNat : Int))] 39))
          have QL2 := Lib.hid QB1.out.size
          clear qi2 q3 QI1
          have QS2 := Lib.hid (Nat.le_trans QB1.out.size q2.size)
          clear q2 QB1 QL2
          go_wp2_with fail
          refine (CT'.out _ (HK.out.keep QB2.out)).mono ?_; rintro e z3 ⟨hr, q4⟩
          have QB3 := Lib.hid (QB2.out.trans (q4.mono QB2.out.size))
          have qz3 := QZ2.out.keep q4
          have r0 := qz3.c0
          have r1 := qz3.c1
          have qr3 := row_below QR2.out q4 (row_lt QR2.out)
          have f0 := row_free qr3 0
          have f1 := row_free qr3 1
          clear qz3 q4 QB2 QZ2 i0 i1 QR2
          rcases hr with ⟨j, hj, rfl⟩ | ⟨_, rfl⟩
          · have cln := line_back hj
            unfold insV at cln
            have CLN := Lib.hid cln; clear cln hj
            have QB4 : Below w.heap.size w ((z3.setCell ⟨z2.heap.size, 0, none⟩ (.int .u8 (j.1.toNat : Int))).setCell ⟨z2.heap.size, 1, none⟩ (.int .u8 (j.2.toNat : Int))) := (QB3.out.setCell QS2.out _).setCell QS2.out _
            have QB5 := Lib.hid QB4; clear QB4 QB3 QS2
            unfold insV
            go_wp2_with fail
            refine (CLN.out _ (HK.out.keep QB5.out)).mono ?_; rintro e z4 ⟨rfl, q5⟩
            have QB6 := Lib.hid (QB5.out.trans (q5.mono QB5.out.size))
            clear q5 QB5 r0 r1 f0 f1 qr3
            go_wp2_with fail
            refine (alive_any _ (HK.out.keep QB6.out)).mono ?_; rintro e z5 ⟨rfl, q6⟩
            have QB7 := Lib.hid (QB6.out.trans (q6.mono QB6.out.size))
            clear q6 QB6
            go_wp2_with fail
            go_ret
            exact ⟨rfl, QB7.out⟩
          · obtain ⟨j, hj⟩ : ∃ j : Cod.In, j = (0, 0) := ⟨_, rfl⟩
            rw [← hj]
            have cln := line_any j
            unfold insV at cln
            have CLN := Lib.hid cln; clear cln hj
            have QB4 : Below w.heap.size w ((z3.setCell ⟨z2.heap.size, 0, none⟩ (.int .u8 (j.1.toNat : Int))).setCell ⟨z2.heap.size, 1, none⟩ (.int .u8 (j.2.toNat : Int))) := (QB3.out.setCell QS2.out _).setCell QS2.out _
            have QB5 := Lib.hid QB4; clear QB4 QB3 QS2
            unfold insV
            go_wp2_with fail
            refine (CLN.out _ (HK.out.keep QB5.out)).mono ?_; rintro e z4 ⟨rfl, q5⟩
            have QB6 := Lib.hid (QB5.out.trans (q5.mono QB5.out.size))
            clear q5 QB5 r0 r1 f0 f1 qr3
            go_wp2_with fail
            refine (alive_any _ (HK.out.keep QB6.out)).mono ?_; rintro e z5 ⟨rfl, q6⟩
            have QB7 := Lib.hid (QB6.out.trans (q6.mono QB6.out.size))
            clear q6 QB6
            go_wp2_with fail
            go_ret
            exact ⟨rfl, QB7.out⟩
  · obtain rfl := CkN'.out hM1
    clear Hsp' CkY' CkN' PtY' KkY' KkN' QtY' hM1 CU' CS' CB' Hpk Kpk Ht4 Hu4
    go_wp2_with fail
    refine (CG'.out _).mono ?_; rintro e v1 ⟨hr, h1⟩
    obtain ⟨g, us, es, gn, rfl, hg⟩ := getR_got hr
    clear hr
    have hbg := obj_below v1 (.cells #[.slice g.a g.n g.c, .slice g.b g.m g.d] 25)
    have h2 := h1.trans (hbg.mono h1.size)
    have HB1 := Lib.hid (Hb4.out.trans (h2.mono Hb4.out.size))
    have hi1 := Hi4.out.keep h2
    have HG := Lib.hid (hg.keep hbg)
    have hgi := Lib.hid hg.is
    clear h1 h2 hbg hg Hb4 Hi4
    rcases hgi.out with ⟨hnone, rfl, -, -⟩ | ⟨hsome, rfl⟩
    · clear hnone hgi HG
      have i0 := hi1.c0
      have i1 := hi1.c1
      have HI1 := Lib.hid hi1; clear hi1
      obtain ⟨ga, gn, gc, gb, gm, gd⟩ := g
      try unfold Pv.v
      go_wp2_with fail
      refine (CI'.out _ (HK.out.keep HB1.out)).mono ?_; rintro e z1 ⟨rfl, q1⟩
      have QB1 := Lib.hid (HB1.out.trans (q1.mono HB1.out.size))
      have QI1 := Lib.hid (HI1.out.keep q1)
      clear q1 HB1 HI1 i0 i1
      cases II with
      | true =>
        obtain rfl := HlY'.out rfl
        obtain rfl := HeY'.out rfl
        have crd := Lib.hid (Crb'.out (by trivial) _ (HK.out.keep QB1.out))
        clear HlY' HeY' HlN' HeN' Crb'
        go_wp2_with fail
        refine crd.out.mono ?_; rintro e z2 ⟨rfl, q2⟩
        clear crd
        have q3 := q2.trans ((obj_below z2 (.cells #[(.int .u8 (i.1.toNat : Int)), (.int .u8 (i.2.toNat : Int))] 39)).mono q2.size)
        have QB2 := Lib.hid (QB1.out.trans (q3.mono QB1.out.size))
        have qi2 := QI1.out.keep q3
        have i0 := qi2.c0
        have i1 := qi2.c1
        have QZ2 := Lib.hid (Two.new z2 (.int .u8 (i.1.toNat : Int)) (.int .u8 (i.2.toNat : Int)) 39)
        have QR2 := Lib.hid (heap_alloc_new z2 (.cells #[(.int .u8 (i.1.toNat : Int)), (.int .u8 (i.2.toNat : Int))] 39))
        have QL2 := Lib.hid QB1.out.size
        clear qi2 q3 QI1
        have QS2 := Lib.hid (Nat.le_trans QB1.out.size q2.size)
        clear q2 QB1 QL2
        go_wp2_with fail
        refine (CT'.out _ (HK.out.keep QB2.out)).mono ?_; rintro e z3 ⟨hr, q4⟩
        have QB3 := Lib.hid (QB2.out.trans (q4.mono QB2.out.size))
        have qz3 := QZ2.out.keep q4
        have r0 := qz3.c0
        have r1 := qz3.c1
        have qr3 := row_below QR2.out q4 (row_lt QR2.out)
        have f0 := row_free qr3 0
        have f1 := row_free qr3 1
        clear qz3 q4 QB2 QZ2 i0 i1 QR2
        rcases hr with ⟨j, hj, rfl⟩ | ⟨_, rfl⟩
        · have cln := line_back hj
          unfold insV at cln
          have CLN := Lib.hid cln; clear cln hj
          have QB4 : Below w.heap.size w ((z3.setCell ⟨z2.heap.size, 0, none⟩ (.int .u8 (j.1.toNat : Int))).setCell ⟨z2.heap.size, 1, none⟩ (.int .u8 (j.2.toNat : Int))) := (QB3.out.setCell QS2.out _).setCell QS2.out _
          have QB5 := Lib.hid QB4; clear QB4 QB3 QS2
          unfold insV
          go_wp2_with fail
          refine (CLN.out _ (HK.out.keep QB5.out)).mono ?_; rintro e z4 ⟨rfl, q5⟩
          have QB6 := Lib.hid (QB5.out.trans (q5.mono QB5.out.size))
          clear q5 QB5 r0 r1 f0 f1 qr3
          go_wp2_with fail
          refine (alive_any _ (HK.out.keep QB6.out)).mono ?_; rintro e z5 ⟨rfl, q6⟩
          have QB7 := Lib.hid (QB6.out.trans (q6.mono QB6.out.size))
          clear q6 QB6
          go_wp2_with fail
          go_ret
          exact ⟨rfl, QB7.out⟩
        · obtain ⟨j, hj⟩ : ∃ j : Cod.In, j = (0, 0) := ⟨_, rfl⟩
          rw [← hj]
          have cln := line_any j
          unfold insV at cln
          have CLN := Lib.hid cln; clear cln hj
          have QB4 : Below w.heap.size w ((z3.setCell ⟨z2.heap.size, 0, none⟩ (.int .u8 (j.1.toNat : Int))).setCell ⟨z2.heap.size, 1, none⟩ (.int .u8 (j.2.toNat : Int))) := (QB3.out.setCell QS2.out _).setCell QS2.out _
          have QB5 := Lib.hid QB4; clear QB4 QB3 QS2
          unfold insV
          go_wp2_with fail
          refine (CLN.out _ (HK.out.keep QB5.out)).mono ?_; rintro e z4 ⟨rfl, q5⟩
          have QB6 := Lib.hid (QB5.out.trans (q5.mono QB5.out.size))
          clear q5 QB5 r0 r1 f0 f1 qr3
          go_wp2_with fail
          refine (alive_any _ (HK.out.keep QB6.out)).mono ?_; rintro e z5 ⟨rfl, q6⟩
          have QB7 := Lib.hid (QB6.out.trans (q6.mono QB6.out.size))
          clear q6 QB6
          go_wp2_with fail
          go_ret
          exact ⟨rfl, QB7.out⟩
      | false =>
        obtain rfl := HlN'.out (by simp)
        obtain rfl := HeN'.out (by simp)
        clear HlY' HeY' HlN' HeN' Crb'
        go_wp2_with fail
        refine (CE'.out _ (HK.out.keep QB1.out)).mono ?_; rintro e z2 ⟨hr, q2⟩
        obtain ⟨k, kn, rfl⟩ : ∃ (k : Cod.In) (kn : Int), e = .returned (.tuple #[.agg #[.int .u8 (k.1.toNat : Int), .int .u8 (k.2.toNat : Int)], .int .i64 kn]) := by
          rcases hr with ⟨k, _, rfl⟩ | ⟨_, rfl⟩
          · exact ⟨k, 0, rfl⟩
          · exact ⟨(0, 0), 7, rfl⟩
        clear hr
        have q3 := q2.trans ((obj_below z2 (.cells #[(.int .u8 (k.1.toNat : Int)), (.int .u8 (k.2.toNat : Int))] 39)).mono q2.size)
        have QB2 := Lib.hid (QB1.out.trans (q3.mono QB1.out.size))
        have qi2 := QI1.out.keep q3
        have i0 := qi2.c0
        have i1 := qi2.c1
        have QZ2 := Lib.hid (Two.new z2 (.int .u8 (k.1.toNat : Int)) (.int .u8 (k.2.toNat : Int)) 39)
        have QR2 := Lib.hid (heap_alloc_new z2 (.cells #[(.int .u8 (k.1.toNat : Int)), (.int .u8 (k.2.toNat : Int))] 39))
        have QL2 := Lib.hid QB1.out.size
        clear qi2 q3 QI1
        have QS2 := Lib.hid (Nat.le_trans QB1.out.size q2.size)
        clear q2 QB1 QL2
        go_wp2_with fail
        refine (CT'.out _ (HK.out.keep QB2.out)).mono ?_; rintro e z3 ⟨hr, q4⟩
        have QB3 := Lib.hid (QB2.out.trans (q4.mono QB2.out.size))
        have qz3 := QZ2.out.keep q4
        have r0 := qz3.c0
        have r1 := qz3.c1
        have qr3 := row_below QR2.out q4 (row_lt QR2.out)
        have f0 := row_free qr3 0
        have f1 := row_free qr3 1
        clear qz3 q4 QB2 QZ2 i0 i1 QR2
        rcases hr with ⟨j, hj, rfl⟩ | ⟨_, rfl⟩
        · have cln := line_back hj
          unfold insV at cln
          have CLN := Lib.hid cln; clear cln hj
          have QB4 : Below w.heap.size w ((z3.setCell ⟨z2.heap.size, 0, none⟩ (.int .u8 (j.1.toNat : Int))).setCell ⟨z2.heap.size, 1, none⟩ (.int .u8 (j.2.toNat : Int))) := (QB3.out.setCell QS2.out _).setCell QS2.out _
          have QB5 := Lib.hid QB4; clear QB4 QB3 QS2
          unfold insV
          go_wp2_with fail
          refine (CLN.out _ (HK.out.keep QB5.out)).mono ?_; rintro e z4 ⟨rfl, q5⟩
          have QB6 := Lib.hid (QB5.out.trans (q5.mono QB5.out.size))
          clear q5 QB5 r0 r1 f0 f1 qr3
          go_wp2_with fail
          refine (alive_any _ (HK.out.keep QB6.out)).mono ?_; rintro e z5 ⟨rfl, q6⟩
          have QB7 := Lib.hid (QB6.out.trans (q6.mono QB6.out.size))
          clear q6 QB6
          go_wp2_with fail
          go_ret
          exact ⟨rfl, QB7.out⟩
        · obtain ⟨j, hj⟩ : ∃ j : Cod.In, j = (0, 0) := ⟨_, rfl⟩
          rw [← hj]
          have cln := line_any j
          unfold insV at cln
          have CLN := Lib.hid cln; clear cln hj
          have QB4 : Below w.heap.size w ((z3.setCell ⟨z2.heap.size, 0, none⟩ (.int .u8 (j.1.toNat : Int))).setCell ⟨z2.heap.size, 1, none⟩ (.int .u8 (j.2.toNat : Int))) := (QB3.out.setCell QS2.out _).setCell QS2.out _
          have QB5 := Lib.hid QB4; clear QB4 QB3 QS2
          unfold insV
          go_wp2_with fail
          refine (CLN.out _ (HK.out.keep QB5.out)).mono ?_; rintro e z4 ⟨rfl, q5⟩
          have QB6 := Lib.hid (QB5.out.trans (q5.mono QB5.out.size))
          clear q5 QB5 r0 r1 f0 f1 qr3
          go_wp2_with fail
          refine (alive_any _ (HK.out.keep QB6.out)).mono ?_; rintro e z5 ⟨rfl, q6⟩
          have QB7 := Lib.hid (QB6.out.trans (q6.mono QB6.out.size))
          clear q6 QB6
          go_wp2_with fail
          go_ret
          exact ⟨rfl, QB7.out⟩
    · have hpt := back_put HG.out hsome
      have HP := Lib.hid hpt; clear hpt hsome hgi HG
      obtain ⟨ga, gn, gc, gb, gm, gd⟩ := g
      unfold Pv.v at HP
      simp only at HP hi1 HB1
      have HI1 := Lib.hid hi1; clear hi1
      try unfold Pv.v
      go_wp2_with fail
      refine HP.out.mono ?_; rintro e v2 ⟨rfl, h3⟩
      have HB2 := Lib.hid (HB1.out.trans (h3.mono HB1.out.size))
      have hi2 := HI1.out.keep h3
      have i0 := hi2.c0
      have i1 := hi2.c1
      have HI2 := Lib.hid hi2; clear hi2 h3 HB1 HI1 HP
      go_wp2_with fail
      refine (CI'.out _ (HK.out.keep HB2.out)).mono ?_; rintro e z1 ⟨rfl, q1⟩
      have QB1 := Lib.hid (HB2.out.trans (q1.mono HB2.out.size))
      have QI1 := Lib.hid (HI2.out.keep q1)
      clear q1 HB2 HI2 i0 i1
      cases II with
      | true =>
        obtain rfl := HlY'.out rfl
        obtain rfl := HeY'.out rfl
        have crd := Lib.hid (Crb'.out (by trivial) _ (HK.out.keep QB1.out))
        clear HlY' HeY' HlN' HeN' Crb'
        go_wp2_with fail
        refine crd.out.mono ?_; rintro e z2 ⟨rfl, q2⟩
        clear crd
        have q3 := q2.trans ((obj_below z2 (.cells #[(.int .u8 (i.1.toNat : Int)), (.int .u8 (i.2.toNat : Int))] 39)).mono q2.size)
        have QB2 := Lib.hid (QB1.out.trans (q3.mono QB1.out.size))
        have qi2 := QI1.out.keep q3
        have i0 := qi2.c0
        have i1 := qi2.c1
        have QZ2 := Lib.hid (Two.new z2 (.int .u8 (i.1.toNat : Int)) (.int .u8 (i.2.toNat : Int)) 39)
        have QR2 := Lib.hid (heap_alloc_new z2 (.cells #[(.int .u8 (i.1.toNat : Int)), (.int .u8 (i.2.toNat : Int))] 39))
        have QL2 := Lib.hid QB1.out.size
        clear qi2 q3 QI1
        have QS2 := Lib.hid (Nat.le_trans QB1.out.size q2.size)
        clear q2 QB1 QL2
        go_wp2_with fail
        refine (CT'.out _ (HK.out.keep QB2.out)).mono ?_; rintro e z3 ⟨hr, q4⟩
        have QB3 := Lib.hid (QB2.out.trans (q4.mono QB2.out.size))
        have qz3 := QZ2.out.keep q4
        have r0 := qz3.c0
        have r1 := qz3.c1
        have qr3 := row_below QR2.out q4 (row_lt QR2.out)
        have f0 := row_free qr3 0
        have f1 := row_free qr3 1
        clear qz3 q4 QB2 QZ2 i0 i1 QR2
        rcases hr with ⟨j, hj, rfl⟩ | ⟨_, rfl⟩
        · have cln := line_back hj
          unfold insV at cln
          have CLN := Lib.hid cln; clear cln hj
          have QB4 : Below w.heap.size w ((z3.setCell ⟨z2.heap.size, 0, none⟩ (.int .u8 (j.1.toNat : Int))).setCell ⟨z2.heap.size, 1, none⟩ (.int .u8 (j.2.toNat : Int))) := (QB3.out.setCell QS2.out _).setCell QS2.out _
          have QB5 := Lib.hid QB4; clear QB4 QB3 QS2
          unfold insV
          go_wp2_with fail
          refine (CLN.out _ (HK.out.keep QB5.out)).mono ?_; rintro e z4 ⟨rfl, q5⟩
          have QB6 := Lib.hid (QB5.out.trans (q5.mono QB5.out.size))
          clear q5 QB5 r0 r1 f0 f1 qr3
          go_wp2_with fail
          refine (alive_any _ (HK.out.keep QB6.out)).mono ?_; rintro e z5 ⟨rfl, q6⟩
          have QB7 := Lib.hid (QB6.out.trans (q6.mono QB6.out.size))
          clear q6 QB6
          go_wp2_with fail
          go_ret
          exact ⟨rfl, QB7.out⟩
        · obtain ⟨j, hj⟩ : ∃ j : Cod.In, j = (0, 0) := ⟨_, rfl⟩
          rw [← hj]
          have cln := line_any j
          unfold insV at cln
          have CLN := Lib.hid cln; clear cln hj
          have QB4 : Below w.heap.size w ((z3.setCell ⟨z2.heap.size, 0, none⟩ (.int .u8 (j.1.toNat : Int))).setCell ⟨z2.heap.size, 1, none⟩ (.int .u8 (j.2.toNat : Int))) := (QB3.out.setCell QS2.out _).setCell QS2.out _
          have QB5 := Lib.hid QB4; clear QB4 QB3 QS2
          unfold insV
          go_wp2_with fail
          refine (CLN.out _ (HK.out.keep QB5.out)).mono ?_; rintro e z4 ⟨rfl, q5⟩
          have QB6 := Lib.hid (QB5.out.trans (q5.mono QB5.out.size))
          clear q5 QB5 r0 r1 f0 f1 qr3
          go_wp2_with fail
          refine (alive_any _ (HK.out.keep QB6.out)).mono ?_; rintro e z5 ⟨rfl, q6⟩
          have QB7 := Lib.hid (QB6.out.trans (q6.mono QB6.out.size))
          clear q6 QB6
          go_wp2_with fail
          go_ret
          exact ⟨rfl, QB7.out⟩
      | false =>
        obtain rfl := HlN'.out (by simp)
        obtain rfl := HeN'.out (by simp)
        clear HlY' HeY' HlN' HeN' Crb'
        go_wp2_with fail
        refine (CE'.out _ (HK.out.keep QB1.out)).mono ?_; rintro e z2 ⟨hr, q2⟩
        obtain ⟨k, kn, rfl⟩ : ∃ (k : Cod.In) (kn : Int), e = .returned (.tuple #[.agg #[.int .u8 (k.1.toNat : Int), .int .u8 (k.2.toNat : Int)], .int .i64 kn]) := by
          rcases hr with ⟨k, _, rfl⟩ | ⟨_, rfl⟩
          · exact ⟨k, 0, rfl⟩
          · exact ⟨(0, 0), 7, rfl⟩
        clear hr
        have q3 := q2.trans ((obj_below z2 (.cells #[(.int .u8 (k.1.toNat : Int)), (.int .u8 (k.2.toNat : Int))] 39)).mono q2.size)
        have QB2 := Lib.hid (QB1.out.trans (q3.mono QB1.out.size))
        have qi2 := QI1.out.keep q3
        have i0 := qi2.c0
        have i1 := qi2.c1
        have QZ2 := Lib.hid (Two.new z2 (.int .u8 (k.1.toNat : Int)) (.int .u8 (k.2.toNat : Int)) 39)
        have QR2 := Lib.hid (heap_alloc_new z2 (.cells #[(.int .u8 (k.1.toNat : Int)), (.int .u8 (k.2.toNat : Int))] 39))
        have QL2 := Lib.hid QB1.out.size
        clear qi2 q3 QI1
        have QS2 := Lib.hid (Nat.le_trans QB1.out.size q2.size)
        clear q2 QB1 QL2
        go_wp2_with fail
        refine (CT'.out _ (HK.out.keep QB2.out)).mono ?_; rintro e z3 ⟨hr, q4⟩
        have QB3 := Lib.hid (QB2.out.trans (q4.mono QB2.out.size))
        have qz3 := QZ2.out.keep q4
        have r0 := qz3.c0
        have r1 := qz3.c1
        have qr3 := row_below QR2.out q4 (row_lt QR2.out)
        have f0 := row_free qr3 0
        have f1 := row_free qr3 1
        clear qz3 q4 QB2 QZ2 i0 i1 QR2
        rcases hr with ⟨j, hj, rfl⟩ | ⟨_, rfl⟩
        · have cln := line_back hj
          unfold insV at cln
          have CLN := Lib.hid cln; clear cln hj
          have QB4 : Below w.heap.size w ((z3.setCell ⟨z2.heap.size, 0, none⟩ (.int .u8 (j.1.toNat : Int))).setCell ⟨z2.heap.size, 1, none⟩ (.int .u8 (j.2.toNat : Int))) := (QB3.out.setCell QS2.out _).setCell QS2.out _
          have QB5 := Lib.hid QB4; clear QB4 QB3 QS2
          unfold insV
          go_wp2_with fail
          refine (CLN.out _ (HK.out.keep QB5.out)).mono ?_; rintro e z4 ⟨rfl, q5⟩
          have QB6 := Lib.hid (QB5.out.trans (q5.mono QB5.out.size))
          clear q5 QB5 r0 r1 f0 f1 qr3
          go_wp2_with fail
          refine (alive_any _ (HK.out.keep QB6.out)).mono ?_; rintro e z5 ⟨rfl, q6⟩
          have QB7 := Lib.hid (QB6.out.trans (q6.mono QB6.out.size))
          clear q6 QB6
          go_wp2_with fail
          go_ret
          exact ⟨rfl, QB7.out⟩
        · obtain ⟨j, hj⟩ : ∃ j : Cod.In, j = (0, 0) := ⟨_, rfl⟩
          rw [← hj]
          have cln := line_any j
          unfold insV at cln
          have CLN := Lib.hid cln; clear cln hj
          have QB4 : Below w.heap.size w ((z3.setCell ⟨z2.heap.size, 0, none⟩ (.int .u8 (j.1.toNat : Int))).setCell ⟨z2.heap.size, 1, none⟩ (.int .u8 (j.2.toNat : Int))) := (QB3.out.setCell QS2.out _).setCell QS2.out _
          have QB5 := Lib.hid QB4; clear QB4 QB3 QS2
          unfold insV
          go_wp2_with fail
          refine (CLN.out _ (HK.out.keep QB5.out)).mono ?_; rintro e z4 ⟨rfl, q5⟩
          have QB6 := Lib.hid (QB5.out.trans (q5.mono QB5.out.size))
          clear q5 QB5 r0 r1 f0 f1 qr3
          go_wp2_with fail
          refine (alive_any _ (HK.out.keep QB6.out)).mono ?_; rintro e z5 ⟨rfl, q6⟩
          have QB7 := Lib.hid (QB6.out.trans (q6.mono QB6.out.size))
          clear q6 QB6
          go_wp2_with fail
          go_ret
          exact ⟨rfl, QB7.out⟩

set_option maxRecDepth 100000 in
theorem lifted (os : Os) (started : os.Started) (H : Type) (enc : TypeId × Value → H) :
    ReturnsInHanded {} Tryd.checked os 5 .any (fun w args => (Rows.codeBackSpec.pre enc Tryd.prog Tryd.f5 [] false w args ∧ laidMetH Tryd.prog laidList w) ∧ sizedMet enc Tryd.prog Tryd.f5 (OpenSpec.ofChange Rows.codeBackSpec) false w args)
      (Rows.codeBackSpec.post enc Tryd.prog Tryd.f5 false true false false) := by
  refine returnsInHanded_of_change_and (C := Tryd.checked) (X := fun w _ => laidMetH Tryd.prog laidList w) (fun _ _ _ hh h => h.of_heap hh) own started (by kernel_rfl) Tryd.func5
    (ChangeSpec.witness_shaped (enc := enc) (C := Tryd.checked) (os := os) (X := fun w _ => laidMetH Tryd.prog laidList w) false (World.doorLaid Tryd.prog 400 os) #[.agg #[.slice none 0 0, .slice none 0 0], .agg #[.slice none 0 0, .slice none 0 0], .string .empty, .agg #[.int .u8 0, .int .u8 0], .string .empty] 8 rfl (World.shaped_of_RefB (by kernel_rfl) (by kernel_rfl)) (by kernel_rfl) (by kernel_rfl) (by kernel_rfl) (door_met os _)) ?_
  intro W base args ds gs before hval0 hW _ hsz hL _
  have hval : ∀ (j : Nat) t v, Tryd.f5.params[j]? = some t → args[j]? = some v → Value.okWide Tryd.prog W .any base t v := hval0
  have hW' := hW
  obtain ⟨p, q, hA0, hV, rfl, hfz, hnd⟩ := hW
  have hA : DataW.TrodAll enc Tryd.prog W 0 (fun _ => true) true Tryd.f5.params.toList args.toList ds p := hA0
  rw [Tryd.params5] at hA hval hsz
  obtain ⟨v0, vs0, d0, ds0, p0, q0, hargs, rfl, rfl, h0, r0⟩ := trodAll_cons hA
  obtain ⟨v1, vs1, d1, ds1, p1, q1, rfl, rfl, rfl, h1, r1⟩ := trodAll_cons r0
  obtain ⟨v2, vs2, d2, ds2, p2, q2, rfl, rfl, rfl, h2, r2⟩ := trodAll_cons r1
  obtain ⟨v3, vs3, d3, ds3, p3, q3, rfl, rfl, rfl, h3, r3⟩ := trodAll_cons r2
  obtain ⟨v4, vs4, d4, ds4, p4, q4, rfl, rfl, rfl, h4, r4⟩ := trodAll_cons r3
  obtain ⟨rfl, rfl, rfl⟩ := trodAll_nil r4
  obtain rfl : args = #[v0, v1, v2, v3, v4] := Array.ext' hargs
  obtain ⟨rfl, rfl⟩ := trodVars_none hV
  have k0 := h0
  have lt0 : ∀ x ∈ p0, x.block < W.heap.size := by obtain ⟨m, hm⟩ := k0; exact DataW.trod_lt m _ _ _ hm
  obtain ⟨x0, tx0, cs0, rfl, hp0, hz0, hn0, hm0⟩ := open_prog Tryd.underlying25 rfl rfl Tryd.underlying22 Tryd.underlying9 (by kernel_rfl) (by kernel_rfl) Tryd.underlying23 Tryd.underlying39 rfl rfl Tryd.underlying5 (by kernel_rfl) (by kernel_rfl) (by kernel_rfl) (by kernel_rfl) (by kernel_rfl) (hval 0 25 v0 rfl rfl) h0 (fun n hn => by
    have := List.all_eq_true.1 hsz n (by
      simp only [List.cons_append, DataW.weightsEach]
      exact List.mem_append_left _ hn)
    simpa using this)
  have k1 := h1
  have lt1 : ∀ x ∈ p1, x.block < W.heap.size := by obtain ⟨m, hm⟩ := k1; exact DataW.trod_lt m _ _ _ hm
  obtain ⟨x1, tx1, cs1, rfl, hp1, hz1, hn1, hm1⟩ := open_prog Tryd.underlying25 rfl rfl Tryd.underlying22 Tryd.underlying9 (by kernel_rfl) (by kernel_rfl) Tryd.underlying23 Tryd.underlying39 rfl rfl Tryd.underlying5 (by kernel_rfl) (by kernel_rfl) (by kernel_rfl) (by kernel_rfl) (by kernel_rfl) (hval 1 25 v1 rfl rfl) h1 (fun n hn => by
    have := List.all_eq_true.1 hsz n (by
      simp only [List.cons_append, DataW.weightsEach]
      exact List.mem_append_right _ (List.mem_append_left _ hn))
    simpa using this)
  obtain ⟨s2, rfl, rfl, rfl, m2⟩ := open_string Tryd.underlying9 (hval 2 9 v2 rfl rfl) h2
  have k3 := h3
  have lt3 : ∀ x ∈ p3, x.block < W.heap.size := by obtain ⟨m, hm⟩ := k3; exact DataW.trod_lt m _ _ _ hm
  obtain ⟨y3, rfl⟩ := open_instr Tryd.underlying39 rfl rfl Tryd.underlying5 (by kernel_rfl) (by kernel_rfl) (hval 3 39 v3 rfl rfl) h3
  obtain ⟨s4, rfl, rfl, rfl, m4⟩ := open_string Tryd.underlying9 (hval 4 9 v4 rfl rfl) h4
  clear hA0 hval0
  have z2 : s2.size ≤ 140737488351232 := by
    have := List.all_eq_true.1 hsz s2.data.toList.length (by simp [DataW.weightsEach, DataW.weights])
    rw [ba_len] at this
    exact of_decide_eq_true this
  have z4 : s4.size ≤ 140737488351232 := by
    have := List.all_eq_true.1 hsz s4.data.toList.length (by simp [DataW.weightsEach, DataW.weights])
    rw [ba_len] at this
    exact of_decide_eq_true this
  refine (walk x0 tx0 cs0 x1 tx1 cs1 s2 y3 s4 W (kn_of_laid hL) hp0 hz0 hn0 hm0 hp1 hz1 hn1 hm1 z2 z4).mono fun e W' ⟨he, bel⟩ => ?_
  subst he
  exact ⟨_, rfl, _, _, _, [], _, [], hW', trodAll_mk1 (shut_bool Tryd.underlying4 _), (trodAll_cons_mk (Below.trod laidOut (by kernel_rfl) (of_decide_eq_true (by kernel_rfl)) k0 bel lt0) (trodAll_cons_mk (Below.trod laidOut (by kernel_rfl) (of_decide_eq_true (by kernel_rfl)) k1 bel lt1) (trodAll_cons_mk (shut_string Tryd.underlying9 m2) (trodAll_cons_mk (Below.trod laidOut (by kernel_rfl) (of_decide_eq_true (by kernel_rfl)) k3 bel lt3) (trodAll_cons_mk (shut_string Tryd.underlying9 m4) trodAll_mk0))))), rfl, bel.frame _, fun h => by cases h⟩

theorem over : Rows.CodeBackSaid :=
  OpenClaim.holds_of_wide 5 Tryd.f5 rfl rfl rfl rfl rfl rfl rfl ⟨rfl, rfl, rfl, rfl, rfl⟩ rfl rfl rfl rfl rfl (by kernel_rfl) Tryd.func5 (by kernel_rfl)
    (of_decide_eq_true (by kernel_rfl)) (by unfold Func.isWrapper; first | (rw [if_pos (by decide +kernel)]; kernel_rfl) | (rw [if_neg (by decide +kernel)]; exact ⟨rfl, rfl⟩))
    (fun os started H enc _ => lifted os started H enc)

theorem proved : Rows.CodeBackCardSaid :=
  Claim7.holds_tied_plain_at .later [] [.data, .data, .data, .sentinel, .sentinel, .data] true (true, "2de14e119a99bd7d62ecb69984659d0c0f63684b708a2311cf1fd744a6a11253") true
    over (fun _ h => by cases h) (by kernel_rfl) (fun _ h => by cases h) codeBack_row_tie rfl ⟨rfl, rfl⟩ (by kernel_rfl) rfl
    (fun f fn hf hfn => by
      obtain rfl : f = 5 := Option.some.inj ((show Tryd.prog.funcNamed "maslin/maslinlaw12.CodeBack" = some 5 by kernel_rfl).symm.trans hf) |>.symm
      obtain rfl : fn = Tryd.f5 := (Option.some.inj (Tryd.func5.symm.trans hfn)).symm
      exact ⟨by kernel_rfl, fun j t ht => by
        rw [Tryd.params5] at ht
        have hm : t ∈ [25, 25, 9, 39, 9] := by simpa using Array.mem_of_getElem? ht
        have hall : ([25, 25, 9, 39, 9].all fun u => !Tryd.prog.wantsStandIn u) = true := by kernel_rfl
        exact (show Tryd.prog.wantsStandIn t = false by simpa using List.all_eq_true.1 hall t hm)⟩)
    (by kernel_rfl)
end Go.Proofs.YtnnfpaheglkmoaaDoor.codeBack
