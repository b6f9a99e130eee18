/-
  What chunk.Cut returns.
-/
import Derived.Test.YtofiimkpbbiegaaChuCutI
import Derived.Test.YtofiimkpbbiegaaChuColl
set_option linter.unusedVariables false
set_option maxRecDepth 100000
namespace Go.Proofs.Ytofiimkpbbiegaa
open Go.RowKit
attribute [local go_sem] Oper.semAt_some

def cutAct (c : Ctr) (s : ByteArray) (B b k E : Nat) (Ds : List Nat) (u11 u22 u23 u24 u25 u26 u27 u28 u29 u30 u31 u32 u33 u34 u35 u36 u37 u38 u39 u40 u45 u46 u47 : Value) : Act :=
  { tmps := #[.agg #[.int .u64 c.p, .int .i64 c.n, .int .i64 c.mn, .int .i64 c.mx, .int .i64 c.b], .string s, .pointer (some ⟨B, 0, none⟩), undef, .slice none 0 0, .int .i64 0, .pointer (some ⟨E, 0, none⟩), .int .i64 0, .pointer (some ⟨E + 1, 0, none⟩), .pointer (some ⟨E + 1 + 1, 0, none⟩), .pointer (some ⟨E + 1 + 1 + 1, 0, none⟩), u11, undef, .tuple #[.agg #[.pointer (some ⟨b, 0, none⟩), .int .u64 ((2 ^ k - 1 : Nat) : Int)], .int .i64 0], .agg #[.int .u64 c.p, .int .i64 c.n, .int .i64 c.mn, .int .i64 c.mx, .int .i64 c.b], .tuple #[.agg #[.pointer (some ⟨b, 0, none⟩), .int .u64 ((2 ^ k - 1 : Nat) : Int)], .int .i64 0], .agg #[.pointer (some ⟨b, 0, none⟩), .int .u64 ((2 ^ k - 1 : Nat) : Int)], .int .i64 0, .int .i64 0, .bool false, undef, cutF E, u22, u23, u24, u25, u26, u27, u28, u29, u30, u31, u32, u33, u34, u35, u36, u37, u38, u39, u40, undef, undef, undef, undef, u45, u46, u47, undef], defers := Ds.map markD }
def cutMu (E len : Nat) (_ : Act) (W : World) : Nat := len - (intOf ((W.cell? ⟨E + 1 + 1, 0, none⟩).getD undef)).toNat
/-- how far the loop is -/
def CutL (c : Ctr) (s : ByteArray) (w : World) (b k E : Nat) (Z : List Pc) (x : Act) (W : World) : Prop :=
  ∃ a ps Ds u11 u22 u23 u24 u25 u26 u27 u28 u29 u30 u31 u32 u33 u34 u35 u36 u37 u38 u39 u40 u45 u46 u47, a ≤ s.size ∧ Z = ps ++ Chu.pcs a (Chu.ends (c.isMk s.data.toList) c.mn.toNat c.mx.toNat s.size s.size a) ∧ ps.length ≤ a ∧ x = cutAct c s w.heap.size b k E Ds u11 u22 u23 u24 u25 u26 u27 u28 u29 u30 u31 u32 u33 u34 u35 u36 u37 u38 u39 u40 u45 u46 u47 ∧ CtI c w E b k ps a Ds W ∧ (∃ G, RolG b c.p c.n.toNat G W) ∧ Ds.Nodup ∧ ∀ D ∈ Ds, E + 4 ≤ D

/-- on the way out -/
theorem cut_leave {c : Ctr} {w W : World} {b k E a : Nat} {ps : List Pc} {Ds : List Nat} {tmps : Array Value} {v : Value} {R : List Pc} (h4 : tmps.getD 4 undef = v) (h5 : tmps.getD 5 undef = .int .i64 0) (hi : CtI c w E b k ps a Ds W) (hv : POwn (E + 4) v ps W) (hn : Ds.Nodup) (hD : ∀ D ∈ Ds, E + 4 ≤ D) (hR : R = ps) :
    LeavesInM Fence.wide 5 Try.prog Try.f10 tmps (fun e w' => Below w.heap.size w w' ∧ ∃ v, e = .returned (.tuple #[v, .int .i64 0]) ∧ POwn w.heap.size v R w') (Ds.map markD) .returning W := by
  subst hR
  refine leaves_ds (.tuple #[v, .int .i64 0]) Ds W hn hi.mks (fun w' h1 h2 h3 hs hk => ?_)
  have hE := hi.wE
  have hnD : ∀ j, j < E + 4 → j ∉ Ds := fun j hj hd => by have := hD j hd; omega
  refine ⟨by rw [results_tmp2 rfl]; simp only [h4, h5], ⟨h1.trans hi.be.os, h2.trans hi.be.tape, h3.trans hi.be.output, by rw [hs]; exact hi.be.size, fun j hj => (hk j (hnD j (by omega))).trans (hi.be.block j hj)⟩, v, rfl, ?_⟩
  refine (hv.same (fun g _ _ ⟨cs, hcs⟩ => hk g (fun hd => ?_))).base (by omega)
  rw [hi.mks g hd] at hcs
  cases hcs

theorem Chu.cut_step {mk : Nat → Bool} {mn mx len a r : Nat} {ps Z : List (Nat × Nat)} (h1 : 1 ≤ mn) (h2 : mn ≤ mx) (h : a < len) (hr : Chu.nxt mk mn mx len a = r) (hz : Z = ps ++ Chu.pcs a (Chu.ends mk mn mx len len a)) : Z = (ps ++ [(a, r - a)]) ++ Chu.pcs r (Chu.ends mk mn mx len len r) := by
  rw [hz, Chu.ends_next h1 h2 h, hr]
  simp [Chu.pcs]
/-- no mark so far -/
def CutC (c : Ctr) (w : World) (E b k : Nat) (ps : List Pc) (a : Nat) (Ds : List Nat) (mk : Nat → Bool) (f i : Nat) (V : World) : Prop := (∀ j, f ≤ j → j < i → mk j = false) ∧ CtI c w E b k ps a Ds V
/-- cut at the first mark -/
def CutS (c : Ctr) (w : World) (E b k : Nat) (ps : List Pc) (a : Nat) (Ds : List Nat) (mk : Nat → Bool) (f t i : Nat) (V : World) : Prop := (f ≤ i ∧ i ≤ t ∧ mk i = true ∧ ∀ j, f ≤ j → j < i → mk j = false) ∧ (∃ G, RolG b c.p c.n.toNat G V) ∧ CtI c w E b k (ps ++ [(a, i - a)]) i Ds V

set_option maxHeartbeats 1000000 in
theorem chCut_may (c : Ctr) (hp : c.p < 18446744073709551616) (hm : c.May) (s : ByteArray) (hsz : s.size ≤ 1099511627776) (w : World) :
    Calls Try.prog 10 #[c.v, .string s] w fun e w' => Below w.heap.size w w' ∧ ∃ v, e = .returned (.tuple #[v, .int .i64 0]) ∧ POwn w.heap.size v (c.cut s.data.toList) w' := by
  have cf := fun u => callsIn_wide (n := 4).2 (finder_any c hp u)
  simp only [if_pos hm] at cf
  have hb0 := hm.2.2.2.1
  have hb1 := hm.2.2.2.2
  obtain ⟨k, hk⟩ : ∃ k : Nat, c.b = (k : Int) := ⟨c.b.toNat, by omega⟩
  have hk16 : k ≤ 16 := by omega
  have hkb : c.b.toNat = k := by omega
  have hfine := hm.1.1
  obtain ⟨mn, hmn⟩ : ∃ mn : Nat, c.mn = (mn : Int) := ⟨c.mn.toNat, by have := hm.1.2.1; have := hm.2.1.1; omega⟩
  obtain ⟨mx, hmx⟩ : ∃ mx : Nat, c.mx = (mx : Int) := ⟨c.mx.toNat, by have := hm.2.2.1.1; omega⟩
  have hmn1 : 1 ≤ mn := by have := hm.1.2.1; have := hm.2.1.1; omega
  have hmm : mn ≤ mx := by have := hm.2.1.2; omega
  have hmx4 : mx ≤ 4096 := by have := hm.2.2.1.2; omega
  obtain ⟨Z, hZ⟩ : ∃ Z, Z = c.cut s.data.toList := ⟨_, rfl⟩
  have hZ0 : Z = [] ++ Chu.pcs 0 (Chu.ends (c.isMk s.data.toList) c.mn.toNat c.mx.toNat s.size s.size 0) := by
    rw [hZ]; unfold Ctr.cut Ctr.ends; rw [ba_len]; rfl
  rw [← hZ]
  rw [hkb] at cf
  have HZ0 := Lib.hid hZ0; clear hZ0 hZ
  have hmk : c.isMk s.data.toList = Chu.mark c.p c.n.toNat k s.data.toList := by unfold Ctr.isMk; rw [hkb]
  have Hmk := Lib.hid hmk; clear hmk
  have Hmn := Lib.hid hmn; clear hmn
  have Hmx := Lib.hid hmx; clear hmx
  clear hk hkb
  refine (callsIn_wide (n := 5)).1 ?_
  refine callsIn_of_wp_marks Try.func10 rfl trivial ?_ rfl
  simp only [Try.ntmps10, List.size_toArray, List.length_cons, List.length_nil, Nat.reduceAdd, Nat.reduceSub, Array.replicate_succ, Array.replicate_zero, List.push_toArray, List.append_toArray, List.nil_append, List.cons_append]
  have hbw := box_below w (.cells #[.int .u64 c.p, .int .i64 c.n, .int .i64 c.mn, .int .i64 c.mx, .int .i64 c.b] 24)
  have hbox := CtrAt.box c w
  unfold Ctr.v finV at *
  have Cf := Lib.hid cf; clear cf
  have Hbw := Lib.hid hbw; clear hbw
  have Hbox := Lib.hid hbox; clear hbox
  have Hm := Lib.hid hm; clear hm
  clear hb0 hb1
  gi_wp2_with fail
  refine wpIn_scope_wide ?_
  gi_wp2_with fail
  refine ⟨trivial, (Cf.out _).mono ?_⟩; rintro e w1 ⟨h1, b, hb, rfl, hg⟩
  have Hbox1 := Lib.hid (Hbox.out.new h1); clear Hbox
  have Hbe1 := Lib.hid (Hbw.out.trans (h1.mono Hbw.out.size))
  have hwb : w.heap.size < b := by have := hb; simp only [World.size_alloc] at this; omega
  have hbE : b < w1.heap.size := hg.lt
  have Hg := Lib.hid hg; clear hg
  clear h1 hb Hbw
  gi_wp2_with fail
  refine wpIn_label ?_
  gi_wp2_with fail
  obtain ⟨E, hE⟩ : ∃ E, E = w1.heap.size := ⟨_, rfl⟩
  obtain ⟨w2, hw2⟩ : ∃ w2, w2 = (((w1.alloc (.cells #[.pointer (some ⟨b, 0, none⟩), .int .u64 ((2 ^ k - 1 : Nat) : Int)] 54)).alloc (.cells #[.slice none 0 0] 31)).alloc (.cells #[.int .i64 0] 3)).alloc (.cells #[cutF w1.heap.size] 61) := ⟨_, rfl⟩
  have hw2' := hw2
  unfold cutF at hw2'
  rw [← hw2']
  have hbw2 : Below w1.heap.size w1 w2 := by rw [hw2]; exact ((((Below.refl _ w1).alloc (Nat.le_refl _) _).alloc (by simp) _).alloc (by simp; omega) _).alloc (by simp; omega) _
  have hci : CtI c w E b k [] 0 [] w2 := by
    have hs := Hbe1.out.size
    refine ⟨Hbe1.out.trans (hbw2.mono hs), Hbox1.out.new hbw2, ?_, ⟨.slice none 0 0, ?_, World.ownsRow_nil _ _ 45 2, ?_⟩, ?_, fun D hD => by simp at hD, ?_, by omega⟩
    · rw [hw2, hE]; exact row_alloc (row_alloc (row_alloc (heap_alloc_new _ _) _) _) _
    · rw [hw2, hE]
      refine row_alloc (row_alloc ?_ _) _
      have := heap_alloc_new (w1.alloc (.cells #[.pointer (some ⟨b, 0, none⟩), .int .u64 ((2 ^ k - 1 : Nat) : Int)] 54)) (.cells #[.slice none 0 0] 31)
      simp only [World.size_alloc] at this; exact this
    · rw [hw2, hE]
      refine row_alloc ?_ _
      have := heap_alloc_new ((w1.alloc (.cells #[.pointer (some ⟨b, 0, none⟩), .int .u64 ((2 ^ k - 1 : Nat) : Int)] 54)).alloc (.cells #[.slice none 0 0] 31)) (.cells #[.int .i64 0] 3)
      simp only [World.size_alloc] at this; exact this
    · rw [hw2, hE]
      have := heap_alloc_new (((w1.alloc (.cells #[.pointer (some ⟨b, 0, none⟩), .int .u64 ((2 ^ k - 1 : Nat) : Int)] 54)).alloc (.cells #[.slice none 0 0] 31)).alloc (.cells #[.int .i64 0] 3)) (.cells #[cutF w1.heap.size] 61)
      simp only [World.size_alloc] at this; exact this
    · rw [hw2, hE]; simp
  have hg2 := Hg.out.new hbw2
  rw [← hE] at hbE ⊢
  have Hci := Lib.hid hci; clear hci
  have Hg2 := Lib.hid hg2; clear hg2 Hg Hbe1 Hbox1 Cf
  have HE := Lib.hid hE
  clear hw2 hw2' hbw2 hE
  refine wpIn_loop (CutL c s w b k E Z) (cutMu E s.size) ?_ ?_
  · exact ⟨0, [], [], _, _, _, _, _, _, _, _, _, _, _, _, _, _, _, _, _, _, _, _, _, _, _, Nat.zero_le _, HZ0.out, Nat.le_refl _, rfl, Hci.out, ⟨_, Hg2.out⟩, List.nodup_nil, fun D hD => by simp at hD⟩
  · rintro x W ⟨a, ps, Ds, u11, u22, u23, u24, u25, u26, u27, u28, u29, u30, u31, u32, u33, u34, u35, u36, u37, u38, u39, u40, u45, u46, u47, ha, hz, hpl, rfl, hi, ⟨G, hgl⟩, hnd, hD4⟩
    obtain ⟨v, hcut⟩ := hi.cut
    have hbox := hi.box
    have c2 := hbox.c2
    have c3 := hbox.c3
    rw [Hmn.out] at c2
    rw [Hmx.out] at c3
    have ca := cell_of_one hcut.a
    have cl := cell_of_one hcut.l
    have cf := cell_of_one hi.fn
    have e0 : W.cell? ⟨E, 0, none⟩ = some (.pointer (some ⟨b, 0, none⟩)) := cell_of_row _ _ 0 _ _ _ hi.fin
    have e1 : W.cell? ⟨E, 1, none⟩ = some (.int .u64 ((2 ^ k - 1 : Nat) : Int)) := cell_of_row _ _ 1 _ _ _ hi.fin
    have Hi := Lib.hid hi; clear hi
    have Hcut := Lib.hid hcut; clear hcut
    have Hz := Lib.hid hz; clear hz
    have Hgl := Lib.hid hgl; clear hgl
    have Hnd := Lib.hid hnd; clear hnd
    have HD4 := Lib.hid hD4; clear hD4 hbox
    by_cases hlt : a < s.size
    · obtain ⟨t, ht⟩ : ∃ t, t = min (a + mx) s.size := ⟨_, rfl⟩
      have htm : min ((a : Int) + (mx : Int)) (s.size : Int) = (t : Int) := by omega
      have hts : t ≤ s.size := by omega
      have hat : a < t := by omega
      have Ht := Lib.hid ht; clear ht
      have cm := fun u => callsIn_wide (n := 4).2 (cmarks_any b k s ((a : Int) + (mn : Int)) (t : Int) u)
      unfold finV mkF at cm
      have Cm := Lib.hid cm; clear cm
      unfold cutAct cutF
      unfold cutF at cf
      gi_wp2_with fail
      refine ⟨trivial, (Cm.out _).mono ?_⟩; rintro e W2 ⟨rfl, hbx, hbn⟩
      have hB : b < W.heap.size := by have := Hi.out.sz; omega
      have hi2 := Hi.out.new hbn
      have hg2 := Hgl.out.new hbn
      have hfe : ((a + mn : Nat) : Int) = (a : Int) + (mn : Int) := by omega
      rw [← hfe] at hbx
      have hwW2 : w.heap.size ≤ W2.heap.size := by have := Hi.out.be.size; have := hbn.size; omega
      have hDW2 : ∀ D ∈ Ds, D < W2.heap.size := fun D hD => by have := row_lt (Hi.out.mks D hD); have := hbn.size; omega
      have Hi2 := Lib.hid hi2; clear hi2
      have Hgn := Lib.hid hg2; clear hg2
      have Hbx := Lib.hid hbx; clear hbx
      have Hbn := Lib.hid hbn; clear hbn
      have HW2 := Lib.hid hwW2; clear hwW2
      have HDW := Lib.hid hDW2; clear hDW2
      have HB := Lib.hid hB; clear hB
      clear hfe Cm
      gi_wp2_with fail
      have hwW2 := HW2.out
      have hDW2 := HDW.out
      refine rangeFunc_out 1 rfl (by decide) (gf := 34) (lb := #[.pointer (some ⟨W.heap.size + 2, 0, none⟩), .pointer (some ⟨W.heap.size + 3, 0, none⟩), .pointer (some ⟨W.heap.size, 0, none⟩), .pointer (some ⟨W.heap.size + 1, 0, none⟩)]) rfl trivial (enters_of Try.func34 (by kernel_rfl) rfl)
        (α := Nat) (fun i => #[.int .i64 (i : Int)]) (fun _ => rfl)
        (fun V => MkAny b c.p c.n.toNat k s ((a + mn : Nat) : Int) t W.heap.size V ∧ CtI c w E b k ps a Ds V)
        (fun V => MkAny b c.p c.n.toNat k s ((a + mn : Nat) : Int) t W.heap.size V ∧ CutC c w E b k ps a Ds (c.isMk s.data.toList) (a + mn) (max (a + mn) (t + 1)) V)
        (fun V => ∃ i, CutS c w E b k ps a Ds (c.isMk s.data.toList) (a + mn) t i V)
        (fun i V => (a + mn ≤ i ∧ i ≤ t ∧ c.isMk s.data.toList i = true) ∧ MkOwn b c.p c.n.toNat k s ((a + mn : Nat) : Int) t W.heap.size i V ∧ CutC c w E b k ps a Ds (c.isMk s.data.toList) (a + mn) i V)
        (fun _ _ => False)
        (fun i V => CutS c w E b k ps a Ds (c.isMk s.data.toList) (a + mn) t i V)
        (fun i a₁ V => (a + mn ≤ i ∧ i ≤ t ∧ c.isMk s.data.toList i = true) ∧ (MkOwn b c.p c.n.toNat k s ((a + mn : Nat) : Int) t W.heap.size i V ∧ CutC c w E b k ps a Ds (c.isMk s.data.toList) (a + mn) i V) ∧
          a₁ = { tmps := #[.agg #[.int .u64 c.p, .int .i64 c.n, .int .i64 c.mn, .int .i64 c.mx, .int .i64 c.b], .string s, .pointer (some ⟨w.heap.size, 0, none⟩), undef, .slice none 0 0, .int .i64 0, .pointer (some ⟨E, 0, none⟩), .int .i64 0, .pointer (some ⟨E + 1, 0, none⟩), .pointer (some ⟨E + 1 + 1, 0, none⟩), .pointer (some ⟨E + 1 + 1 + 1, 0, none⟩), .int .i64 (t : Int), .int .i64 (i : Int), .tuple #[.agg #[.pointer (some ⟨b, 0, none⟩), .int .u64 ((2 ^ k - 1 : Nat) : Int)], .int .i64 0], .agg #[.int .u64 c.p, .int .i64 c.n, .int .i64 c.mn, .int .i64 c.mx, .int .i64 c.b], .tuple #[.agg #[.pointer (some ⟨b, 0, none⟩), .int .u64 ((2 ^ k - 1 : Nat) : Int)], .int .i64 0], .agg #[.pointer (some ⟨b, 0, none⟩), .int .u64 ((2 ^ k - 1 : Nat) : Int)], .int .i64 0, .int .i64 0, .bool false, undef, .func (.func 26) #[] #[.pointer (some ⟨E + 1, 0, none⟩), .pointer (some ⟨E + 1 + 1, 0, none⟩)], .int .i64 (a : Int), .string s, .int .i64 (s.size : Int), .bool true, .int .i64 (a : Int), .pointer (some ⟨w.heap.size, 3, none⟩), .int .i64 (mx : Int), .int .i64 ((a : Int) + (mx : Int)), .string s, .int .i64 (s.size : Int), .int .i64 (t : Int), .agg #[.pointer (some ⟨b, 0, none⟩), .int .u64 ((2 ^ k - 1 : Nat) : Int)], .string s, .int .i64 (a : Int), .pointer (some ⟨w.heap.size, 2, none⟩), .int .i64 (mn : Int), .int .i64 ((a : Int) + (mn : Int)), .int .i64 (t : Int), .func (.func 34) #[] #[.pointer (some ⟨W.heap.size + 2, 0, none⟩), .pointer (some ⟨W.heap.size + 3, 0, none⟩), .pointer (some ⟨W.heap.size, 0, none⟩), .pointer (some ⟨W.heap.size + 1, 0, none⟩)], .int .i64 (i : Int), undef, undef, undef, u45, u46, u47, undef], defers := [] })
        ?sEnd ?sStop ?sOut ?sRet ?sMid ?h0 ?hiter ?hassign ?hbody ?hdone ?hstop
      case sEnd => exact fun V l o o' hl ho hc ⟨⟨⟨G, h1⟩, h2⟩, h3⟩ => ⟨⟨⟨G, RolG.stays V l o o' hl ho hc h1⟩, MkBox.stays V l o o' hl ho hc h2⟩, h3.1, CtI.stays hwW2 hDW2 V l o o' hl ho hc h3.2⟩
      case sStop => exact fun V l o o' hl ho hc ⟨i, h1, ⟨G, h2⟩, h3⟩ => ⟨i, h1, ⟨G, RolG.stays V l o o' hl ho hc h2⟩, CtI.stays hwW2 hDW2 V l o o' hl ho hc h3⟩
      case sOut => exact fun i V l o o' hl ho hc h => h
      case sRet => exact fun i V l o o' hl ho hc ⟨h1, ⟨G, h2⟩, h3⟩ => ⟨h1, ⟨G, RolG.stays V l o o' hl ho hc h2⟩, CtI.stays hwW2 hDW2 V l o o' hl ho hc h3⟩
      case sMid => exact fun i a₁ V l o o' hl ho hc ⟨h0, ⟨⟨h1, h2⟩, h3⟩, h4⟩ => ⟨h0, ⟨⟨RolG.stays V l o o' hl ho hc h1, MkBox.stays V l o o' hl ho hc h2⟩, h3.1, CtI.stays hwW2 hDW2 V l o o' hl ho hc h3.2⟩, h4⟩
      case h0 =>
        intro o o'
        have hbb : Below W2.heap.size W2 ((W2.alloc o).alloc o') := ((Below.refl _ _).alloc (Nat.le_refl _) _).alloc (by simp) _
        exact ⟨⟨⟨G, Hgn.out.new hbb⟩, Hbx.out.new hbb⟩, Hi2.out.new hbb⟩
      case hiter =>
        intro ly Book BookS V1 hBk hBs hly hbk hj0 hY
        refine (mkIter_any (b := b) (p := c.p) (n := c.n.toNat) (k := k) (B := W.heap.size) (f := a + mn) (t := t) (s := s) (by omega) hts hk16 hfine (by omega) HB.out (C := CutC c w E b k ps a Ds (c.isMk s.data.toList) (a + mn)) (CS := CutS c w E b k ps a Ds (c.isMk s.data.toList) (a + mn) t) (W1 := V1)
          (fun i V V' h ht => ⟨h.1, h.2.turn hwb hbE HD4.out ht⟩) (fun i V h1 h2 hm h => ⟨fun j x y => ?_, h.2⟩) hj0.1 ⟨fun j x y => by omega, hj0.2⟩ ly Book BookS hBk hbk ?_).mono ?_
        · rcases Nat.lt_or_ge j i with hji | hji
          · exact h.1 j x hji
          · obtain rfl : j = i := by omega
            rw [Hmk.out]; exact hm
        · intro i V h1 h2 hm hb ho hc
          rw [← Hmk.out] at hm
          exact yield_imp (hY i V hb ⟨⟨h1, h2, hm⟩, ho, hc⟩) (fun e w hh => by
            rcases hh with ⟨x, y, z⟩ | ⟨x, y, z⟩
            · exact z.elim
            · exact .inr ⟨x, y, z⟩)
        · rintro e V ⟨hv, h⟩
          rcases h with ⟨h1, h2, h3⟩ | ⟨i, _, _, h1, h2⟩
          · exact ⟨hv, .inl ⟨h1, h2, h3⟩⟩
          · exact ⟨hv, .inr ⟨h1, i, h2⟩⟩
      case hassign =>
        intro ly i V K hly hin hK
        have Hin := Lib.hid hin; clear hin
        have HK := Lib.hid hK; clear hK
        gi_wp2_with fail
        exact HK.out _ _ (KeepsOthers.refl _) ⟨Hin.out.1, Hin.out.2, rfl⟩
      case hbody =>
        rintro ly i a₁ V hly ⟨hi3, ⟨ho, hc⟩, rfl⟩
        obtain ⟨v3, hcut3⟩ := hc.2.cut
        have cf3 := cell_of_one hc.2.fn
        unfold cutF at cf3
        have c1 := cut1_any (i := i) hcut3 (by omega) hc.2.sz (by omega) (by omega)
        have C1 := Lib.hid c1; clear c1
        have Hc := Lib.hid hc; clear hc
        have Hi3 := Lib.hid hi3; clear hi3
        have Ho := Lib.hid ho; clear ho
        have Hcut3 := Lib.hid hcut3; clear hcut3
        clear hwW2 hDW2 c2 c3 ca cl cf e0 e1
        gi_wp2_with fail
        refine ⟨trivial, (CallsIn.inRound ly (callsIn_wide.2 C1.out)).mono ?_⟩; rintro e V2 ⟨rfl, hn, ht⟩
        have hko := Hcut3.out.others ht
        have hfin : CutS c w E b k ps a Ds (c.isMk s.data.toList) (a + mn) t i V2 := ⟨⟨Hi3.out.1, Hi3.out.2.1, Hi3.out.2.2, Hc.out.1⟩, ⟨_, Hcut3.out.roller ht hbE Ho.out.1⟩, Hc.out.2.step Hcut3.out hn ht⟩
        have Hko := Lib.hid hko; clear hko
        have Hfin := Lib.hid hfin; clear hfin
        clear hn ht
        gi_wp2_with fail
        exact ⟨rfl, Hko.out, Hfin.out⟩
      case hdone =>
        rintro D V hD ⟨⟨⟨G2, hg3⟩, hbx3⟩, hc⟩ hK2
        obtain ⟨v3, hcut3⟩ := hc.2.cut
        have cf3 := cell_of_one hc.2.fn
        unfold cutF at cf3
        have c1 := cut1_any (i := t) hcut3 (by omega) hc.2.sz (by omega) (by omega)
        have hnx : Chu.nxt (c.isMk s.data.toList) mn mx s.size a = t := by
          have := Ht.out
          exact Chu.nxt_eq (by omega) (.inl this) (fun j x y => hc.1 j x (by omega))
        have hz2 := Chu.cut_step (Z := Z) (ps := ps) hmn1 hmm hlt hnx (by have := Hz.out; simp only [Hmn.out, Hmx.out, Int.toNat_natCast] at this; exact this)
        have hnd2 : (D :: Ds).Nodup := List.nodup_cons.2 ⟨fun e => by have := hDW2 D e; omega, Hnd.out⟩
        have hD5 : ∀ D' ∈ D :: Ds, E + 4 ≤ D' := fun D' hD' => by
          rcases List.mem_cons.1 hD' with rfl | hD'
          · have := Hi.out.sz; have := Hbn.out.size; omega
          · exact HD4.out D' hD'
        have hmu : ∀ x x' : Act, ∀ V2 : World, V2.cell? ⟨E + 1 + 1, 0, none⟩ = some (.int .i64 (t : Int)) → cutMu E s.size x' V2 < cutMu E s.size x W := fun x x' V2 h => by
          unfold cutMu
          rw [h, ca]
          simp [intOf]
          omega
        have C1 := Lib.hid c1; clear c1
        have Hc := Lib.hid hc; clear hc
        have Hcut3 := Lib.hid hcut3; clear hcut3
        have Hg3 := Lib.hid hg3; clear hg3
        have HK2 := Lib.hid hK2; clear hK2
        have Hz2 := Lib.hid hz2; clear hz2
        have Hnd2 := Lib.hid hnd2; clear hnd2
        have HD5 := Lib.hid hD5; clear hD5
        have Hmu := Lib.hid hmu; clear hmu
        clear hwW2 hDW2 c2 c3 ca cl cf e0 e1 hnx hbx3
        gi_wp2_with fail
        refine ⟨trivial, (callsIn_wide.2 C1.out).mono ?_⟩; rintro e V2 ⟨rfl, hn, ht⟩
        have hi4 := (Hc.out.2.mark HK2.out).step Hcut3.out hn ht
        have hg4 := Hcut3.out.roller ht hbE Hg3.out
        obtain ⟨v4, hcut4⟩ := hn
        have ca4 := cell_of_one hcut4.a
        have Hi4 := Lib.hid hi4; clear hi4
        have Hg4 := Lib.hid hg4; clear hg4
        have Hca4 := Lib.hid ca4; clear ca4
        clear ht hcut4
        gi_wp2_with fail
        refine ⟨⟨t, ps ++ [(a, t - a)], D :: Ds, _, _, _, _, _, _, _, _, _, _, _, _, _, _, _, _, _, _, _, _, _, _, _, hts, ?_, by rw [List.length_append]; exact (by omega : ps.length + 1 ≤ t), rfl, Hi4.out, ⟨_, Hg4.out⟩, Hnd2.out, HD5.out⟩, Hmu.out _ _ _ Hca4.out⟩
        rw [Hmn.out, Hmx.out, Int.toNat_natCast, Int.toNat_natCast]
        exact Hz2.out
      case hstop =>
        rintro D V hD ⟨i, hi3, hg3, hc⟩ hK2
        have hnx : Chu.nxt (c.isMk s.data.toList) mn mx s.size a = i := by
          have := Ht.out
          exact Chu.nxt_eq (by omega) (.inr ⟨hi3.1, hi3.2.2.1⟩) hi3.2.2.2
        have hz2 := Chu.cut_step (Z := Z) (ps := ps) hmn1 hmm hlt hnx (by have := Hz.out; simp only [Hmn.out, Hmx.out, Int.toNat_natCast] at this; exact this)
        have hnd2 : (D :: Ds).Nodup := List.nodup_cons.2 ⟨fun e => by have := hDW2 D e; omega, Hnd.out⟩
        have hD5 : ∀ D' ∈ D :: Ds, E + 4 ≤ D' := fun D' hD' => by
          rcases List.mem_cons.1 hD' with rfl | hD'
          · have := Hi.out.sz; have := Hbn.out.size; omega
          · exact HD4.out D' hD'
        have hi1 := hi3.1
        have hi2 := hi3.2.1
        obtain ⟨v4, hcut4⟩ := hc.cut
        have ca4 := cell_of_one hcut4.a
        have hmu : ∀ x x' : Act, cutMu E s.size x' V < cutMu E s.size x W := fun x x' => by
          unfold cutMu
          rw [ca4, ca]
          simp [intOf]
          omega
        have hi4 := hc.mark hK2
        have Hi4 := Lib.hid hi4; clear hi4 hc
        have Hg4 := Lib.hid hg3; clear hg3
        have Hz2 := Lib.hid hz2; clear hz2
        have Hnd2 := Lib.hid hnd2; clear hnd2
        have HD5 := Lib.hid hD5; clear hD5
        have Hmu := Lib.hid hmu; clear hmu
        clear hwW2 hDW2 c2 c3 ca cl cf e0 e1 hnx hK2 hcut4 ca4 hi3
        gi_wp2_with fail
        refine ⟨⟨i, ps ++ [(a, i - a)], D :: Ds, _, _, _, _, _, _, _, _, _, _, _, _, _, _, _, _, _, _, _, _, _, _, _, by omega, ?_, by rw [List.length_append]; exact (by omega : ps.length + 1 ≤ i), rfl, Hi4.out, Hg4.out, Hnd2.out, HD5.out⟩, Hmu.out _ _⟩
        rw [Hmn.out, Hmx.out, Int.toNat_natCast, Int.toNat_natCast]
        exact Hz2.out
    · have hae : a = s.size := by omega
      have hge : decide (a < s.size) = false := decide_eq_false hlt
      have hzz : Z = ps := by
        rw [Hz.out, hae, Chu.ends_done _ _ _ _ _ _ (Nat.le_refl _)]
        simp [Chu.pcs]
      obtain ⟨va, vcap, hvf⟩ := Hcut.out.o.form
      obtain ⟨nps, hnps⟩ : ∃ nps, nps = ps.length := ⟨_, rfl⟩
      rw [← hnps] at hvf
      rw [hvf] at cl
      have Hvf := Lib.hid hvf; clear hvf hnps
      have Hzz := Lib.hid hzz; clear hzz hae
      unfold cutAct cutF
      gi_wp2_with fail
      exact cut_leave (k := k) (E := E) (a := a) (b := b) rfl rfl Hi.out (by rw [← Hvf.out]; exact Hcut.out.o) Hnd.out HD4.out Hzz.out

theorem chCut_any (c : Ctr) (hp : c.p < 18446744073709551616) (s : ByteArray) (hsz : s.size ≤ 1099511627776) (w : World) :
    Calls Try.prog 10 #[c.v, .string s] w fun e w' => Below w.heap.size w w' ∧ if c.May then ∃ v, e = .returned (.tuple #[v, .int .i64 0]) ∧ POwn w.heap.size v (c.cut s.data.toList) w' else e = .returned (.tuple #[.slice none 0 0, .int .i64 2]) := by
  by_cases hm : c.May
  · simp only [if_pos hm]
    exact chCut_may c hp hm s hsz w
  · have cf := fun u => callsIn_wide (n := 4).2 (finder_any c hp u)
    simp only [if_neg hm] at cf ⊢
    have hbw := box_below w (.cells #[.int .u64 c.p, .int .i64 c.n, .int .i64 c.mn, .int .i64 c.mx, .int .i64 c.b] 24)
    refine (callsIn_wide (n := 5)).1 ?_
    refine callsIn_of_wp_marks Try.func10 rfl trivial ?_ rfl
    simp only [Try.ntmps10, List.size_toArray, List.length_cons, List.length_nil, Nat.reduceAdd, Nat.reduceSub, Array.replicate_succ, Array.replicate_zero, List.push_toArray, List.append_toArray, List.nil_append, List.cons_append]
    unfold Ctr.v noFin at *
    have Cf := Lib.hid cf; clear cf
    have Hbw := Lib.hid hbw; clear hbw
    clear hm
    gi_wp2_with fail
    refine wpIn_scope_wide ?_
    gi_wp2_with fail
    refine ⟨trivial, (Cf.out _).mono ?_⟩; rintro e w1 ⟨h1, rfl⟩
    have hbe := (Hbw.out.trans (h1.mono Hbw.out.size)).alloc (Nat.le_trans Hbw.out.size h1.size) (.cells #[.pointer none, .int .u64 0] 54)
    have Hbe := Lib.hid hbe; clear hbe h1
    gi_wp2_with fail
    exact ⟨_, results_tmp2 rfl _ _ _, Hbe.out, rfl⟩
end Go.Proofs.Ytofiimkpbbiegaa
