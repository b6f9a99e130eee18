/-
  VerifyBlocks: in what is let be each block has its end behind it, blocks lie within each other, and the kinds at an end are those at which its block was opened, but for what stands between OpElse and it.
  Conditions: none.
-/
import Derived.Test.YtolldoclnfnceaaDoorVerLawC
import Derived.Test.YtolldoclnfnceaaDoorCards
import Derived.Test.YtolldoclnfnceaaDoorTie
import Derived.BigQuiet
import Derived.SevenTiedAt
import Derived.ProofKit
import Derived.OpenShut
import Derived.ShutString
import Derived.ChangeOld
namespace Go.Proofs.YtolldoclnfnceaaDoor.verifyBlocks
open Go.ChangeShapes Go.WideShapes Go.ChangeAt Go.RowKit
open Go.ChangeMaps (open_string shut_string)
set_option linter.unusedVariables false
set_option maxRecDepth 100000

/-- a row of numbers of the call's own -/
def NOwn (B : Nat) (v : Value) (l : List Nat) (w : World) : Prop := w.ownsRow B 3 1 v l.length (l.map fun n : Nat => Value.int .i64 (n : Int))
section
variable {B : Nat} {v : Value} {l : List Nat} {w w' : World}
theorem NOwn.nil (B : Nat) (w : World) : NOwn B (.slice none 0 0) [] w := World.ownsRow_nil _ _ _ _
theorem NOwn.new (h : NOwn B v l w) (hb : Below w.heap.size w w') : NOwn B v l w' := ownsRow_new h hb
theorem NOwn.form (h : NOwn B v l w) : ∃ a cap, v = .slice a l.length cap := by
  rcases h.2 with ⟨rfl, h0⟩ | ⟨g, cap, _, hv, _⟩
  · exact ⟨none, 0, by rw [h0]⟩
  · exact ⟨_, cap, hv⟩
theorem NOwn.some_ {x : Nat} (h : NOwn B v (l ++ [x]) w) : ∃ b cap, v = .slice (some ⟨b, 0, none⟩) (l.length + 1) cap ∧ l.length ≤ cap ∧ B ≤ b ∧ w.cell? ⟨b, l.length, none⟩ = some (.int .i64 (x : Int)) ∧ NOwn B (.slice (some ⟨b, 0, none⟩) l.length cap) l w := by
  rcases h.2 with ⟨_, h0⟩ | ⟨g, cap, cur, hv, hg, hh, hn, _⟩
  · simp at h0
  · have hv' : v = .slice (some ⟨g, 0, none⟩) (l.length + 1) cap := by rw [hv]; simp
    subst hv'
    have h' : w.ownsRow B 3 1 (.slice (some ⟨g, 0, none⟩) (l.length + 1) cap) (l.length + 1) ((l.map fun n : Nat => Value.int .i64 (n : Int)) ++ [Value.int .i64 (x : Int)]) := by
      have := h
      unfold NOwn at this
      simpa using this
    refine ⟨g, cap, rfl, by simp only [List.length_append, List.length_singleton] at hn; omega, hg, (owns_cell h' (i := l.length) ?_).1, owns_pop (by simp) h'⟩
    rw [List.getElem?_append_right (by simp), List.length_map, Nat.sub_self]
    rfl
theorem int_info : (Tryd.prog.info? 3).map (fun i => (i.zero, i.size, i.bytes)) = some (some (.int .i64 0), 1, 8) := by kernel_rfl
theorem NOwn.app1 (h : NOwn B v l w) (x : Nat) (hl : l.length ≤ 1000000) (hB : B ≤ w.heap.size) :
    ∃ v' w', (Builtin.append_ #[34, 34] 34 #[v, .slice (some ⟨w.heap.size, 0, none⟩) 1 1]).run Tryd.prog (w.alloc (.cells #[.int .i64 (x : Int)] 3)) = .ok v' w' ∧ NOwn B v' (l ++ [x]) w' ∧ Below B w w' := by
  obtain ⟨i0, hi, hz0, hz1, hz2⟩ := info_parts int_info
  obtain ⟨v', w', hr, h2, h3, _, _⟩ := run_append_own_at (P := Tryd.prog) (w := w.alloc (.cells #[.int .i64 (x : Int)] 3)) B 34 34 3 i0 (.int .i64 0) 1 8 Tryd.underlying34 hi hz0 hz1 hz2 rfl (by decide) v l.length (l.map fun n : Nat => Value.int .i64 (n : Int)) (h.new (obj_below w _)) ⟨w.heap.size, 0, none⟩ 1 1 [.int .i64 (x : Int)] rfl (fun j u hu => cell_new_row w [.int .i64 (x : Int)] _ j u hu) (fun u hu => by
    simp only [List.mem_cons, List.mem_nil_iff, or_false] at hu
    rw [hu]; rfl) (by unfold maxLen; omega) (by omega) (by rw [alloc_size]; omega)
  refine ⟨v', w', hr, ?_, ?_⟩
  · unfold NOwn
    rw [List.length_append, List.length_singleton, List.map_append]
    exact h2
  · have hb := obj_below w (.cells #[.int .i64 (x : Int)] 3)
    have hb0 : Below B w (w.alloc (.cells #[.int .i64 (x : Int)] 3)) := (Below.refl _ _).trans (hb.mono hB)
    refine hb0.trans ((Turns.of_grown h3).below (by rw [alloc_size]; omega) (fun k _ hk => (World.ownsRow.lt h k hk).1))
end
theorem ints_cut (a : Option Addr) (len cap k : Nat) (hk : k ≤ cap) (u : World) : (Instr.sliceAt 34 (.slice a len cap) none (some (.int .i64 (k : Int))) none).run Tryd.prog u = .ok (.slice a k cap) u := by
  simp [Instr.sliceAt, Instr.slice, Instr.sliceBounds, Instr.sliceBound, asIntOf, run_underlying Tryd.underlying34, hk]
  try (cases a <;> simp [Addr.add])
/-- the program's box, the first of the call's blocks; what stays from call to call -/
structure S1 (w : World) (x : Pv) (tx : List ByteArray) (cs : List Cod.In) (W : World) : Prop where
  b : Below w.heap.size w W
  r : W.heap[w.heap.size]? = some (.cells #[.slice x.a x.n x.c, .slice x.b x.m x.d] 25 (0, 0))
  k : Kn W
  p : PrAt x tx cs W
section
variable {w W W' : World} {x : Pv} {tx : List ByteArray} {cs : List Cod.In}
theorem S1.new (h : S1 w x tx cs W) (hb : Below W.heap.size W W') : S1 w x tx cs W' := ⟨h.b.trans (hb.mono h.b.size), row_below h.r hb (row_lt h.r), h.k.keep hb, h.p.keep hb⟩
theorem S1.p1 (h : S1 w x tx cs W) : W.cell? ⟨w.heap.size, 1, none⟩ = some (.slice x.b x.m x.d) := by rw [cell_at h.r]; rfl
end
theorem got_all {tx : List ByteArray} {cs : List Cod.In} {role : Nat} {S : Ver.St} (h : Ver.check (prog tx cs) role = .ok S) : S.seen.length = cs.length ∧ S.ends.length = cs.length ∧ S.deep ≤ 16 ∧ ∃ O : Nat → List Nat, O 0 = [] ∧ O cs.length = [] ∧ ∀ i, i < cs.length → Ver.BlkF cs S.seen S.ends O i := by
  unfold Ver.check at h
  split at h
  · exact Ver.all_blocks h
  · cases h
theorem next_len (op i : Nat) (o : List Nat) : (Ver.nextO op i o).length ≤ o.length + 1 := by
  unfold Ver.nextO
  have := o.length_tail
  split
  · simp only [List.length_cons]; omega
  · split
    · omega
    · split
      · simp only [List.length_cons]; omega
      · omega
section
variable {P : Program} {ops : Array Oper} {Q : Exit → Act → World → Prop} {S : World → Prop}
theorem take_skip {L : Act → Prop} {o : Oper} {l : List Oper} {a : Act} (hw : Region.wanted o (yielded ops a.tmps) = false) (hK : wpTake P ops S L l (a.put o.dst undef)) : wpTake P ops S L (o :: l) a := ⟨undef, .inr ⟨hw, rfl⟩, hK⟩
end
/-- a kind's text, at its place -/
theorem kinds_at {l : List (List UInt8)} {j : Nat} (h : j < l.length) : (l.map Ver.kb).getD j .empty = Ver.kb (l.getD j []) := by
  rw [List.getD_eq_getElem?_getD, List.getD_eq_getElem?_getD, List.getElem?_map, List.getElem?_eq_getElem h]
  rfl

set_option maxHeartbeats 60000000 in
theorem walk (x : Pv) (tx : List ByteArray) (cs : List Cod.In) (role : Nat) (w : World) (hk : Kn w) (hp : PrAt x tx cs w) (hz : ∀ t ∈ tx, t.size ≤ 140737488351232) (hn : x.n ≤ 8796093022208) (hm : x.m ≤ 70368744177664) :
    Calls Tryd.prog 5 #[x.v, .int .u8 (role : Int)] w fun e w' => e = .returned (.bool true) ∧ Below w.heap.size w w' := by
  have cL := fun u (h : PrAt x tx cs u) => large_any h (by omega) (by omega) (fun y hy => by have := hz y hy; omega)
  have cK := fun u (h : PrAt x tx cs u) (k : Kn u) => vkinds_any h k role (by omega) (by omega)
  have cE := fun u (h : PrAt x tx cs u) (k : Kn u) => vends_any h k role (by omega) (by omega)
  have cD := fun u (h : PrAt x tx cs u) (k : Kn u) => vdeep_any h k role (by omega) (by omega)
  have cA := fun u (k : Kn u) => alive_any u k
  have hS : S1 w x tx cs (w.alloc (.cells #[.slice x.a x.n x.c, .slice x.b x.m x.d] 25)) := by
    have h1 := obj_below w (.cells #[.slice x.a x.n x.c, .slice x.b x.m x.d] 25)
    exact ⟨h1, alloc_at rfl, hk.keep h1, hp.keep h1⟩
  have hlx := hp.n
  have hmx := hp.m
  have hok := fun h => vErr_ok (p := prog tx cs) (role := role) h
  obtain ⟨LP, hLP⟩ : ∃ LP, LP = largeB tx cs.length := ⟨_, rfl⟩
  obtain ⟨E1, hE1⟩ : ∃ E1, E1 = Ver.check (prog tx cs) role := ⟨_, rfl⟩
  obtain ⟨R1, hR1⟩ : ∃ R1, R1 = vErr E1 := ⟨_, rfl⟩
  obtain ⟨D1, hD1⟩ : ∃ D1, D1 = vDeep E1 := ⟨_, rfl⟩
  rw [← hLP] at cL
  rw [← hE1, ← hR1] at cK cE cD
  rw [← hD1] at cD
  rw [← hE1, ← hR1] at hok
  have hall := fun S (h : E1 = .ok S) => got_all (h ▸ hE1.symm)
  obtain ⟨xa, xn, xc, xb, xm, xd⟩ := x
  simp only at hn hm hlx hmx
  unfold Pv.v at cL cK cE cD ⊢
  simp only at cL cK cE cD hS ⊢
  have HS := Lib.hid hS; clear hS
  have HCL := Lib.hid cL; clear cL
  have HCK := Lib.hid cK; clear cK
  have HCE := Lib.hid cE; clear cE
  have HCD := Lib.hid cD; clear cD
  have HCA := Lib.hid cA; clear cA
  have HLP := Lib.hid hLP; clear hLP
  have HE1 := Lib.hid hE1; clear hE1
  have HR1 := Lib.hid hR1; clear hR1
  have HD1 := Lib.hid hD1; clear hD1
  have HOK := Lib.hid hok; clear hok
  have HAL := Lib.hid hall; clear hall
  have HLX := Lib.hid hlx; clear hlx
  have HMX := Lib.hid hmx; clear hmx
  clear hz hk hp
  go_enter Tryd.func5, Tryd.ntmps5
  go_wp2_with fail
  refine (HCL.out _ HS.out.p).mono ?_; rintro e w1 ⟨rfl, b1⟩
  have H1 := Lib.hid (HS.out.new b1); clear b1 HS
  have p1 := H1.out.p1
  have p0 : w1.cell? ⟨w.heap.size, 0, none⟩ = some (.slice xa xn xc) := by rw [cell_at H1.out.r]; rfl
  simp only at p1
  cases LP with
  | true =>
    clear p0 p1
    go_wp2_with fail
    refine (HCA.out _ H1.out.k).mono ?_; rintro e wz ⟨rfl, bz⟩
    have HZ := Lib.hid (H1.out.b.trans (bz.mono H1.out.b.size)); clear bz
    go_wp2_with fail
    go_ret
    exact ⟨rfl, HZ.out⟩
  | false =>
    have hx1 := largeB_false HLP.out.symm
    have hxm : xm ≤ 4000 := by have := HMX.out; omega
    have hxn : xn ≤ 40 := by have := HLX.out; omega
    clear hx1
    go_wp2_with fail
    refine (HCK.out _ H1.out.p H1.out.k).mono ?_; rintro e w2 ⟨v1, rfl, s1, b2⟩
    clear p0 p1
    have H2 := Lib.hid (H1.out.new b2); clear b2 H1
    obtain ⟨ka, kc, hv1⟩ := s1.form
    obtain ⟨KL, hKL⟩ : ∃ KL, KL = (vKinds E1).length := ⟨_, rfl⟩
    rw [← hKL] at hv1
    have HKL := Lib.hid hKL; clear hKL
    subst hv1
    have HSK := Lib.hid s1; clear s1
    have p1 := H2.out.p1
    have p0 : w2.cell? ⟨w.heap.size, 0, none⟩ = some (.slice xa xn xc) := by rw [cell_at H2.out.r]; rfl
    simp only at p1
    go_wp2_with fail
    refine (HCE.out _ H2.out.p H2.out.k).mono ?_; rintro e w3 ⟨v2, rfl, s2, b3⟩
    clear p0 p1
    have H3 := Lib.hid (H2.out.new b3); clear H2
    have HSK3 := Lib.hid (HSK.out.new b3); clear HSK b3
    obtain ⟨ea, ec, hv2⟩ := s2.form
    obtain ⟨EL, hEL⟩ : ∃ EL, EL = (vEnds E1).length := ⟨_, rfl⟩
    rw [← hEL] at hv2
    have HEL := Lib.hid hEL; clear hEL
    subst hv2
    have HSE := Lib.hid s2; clear s2
    have p1 := H3.out.p1
    have p0 : w3.cell? ⟨w.heap.size, 0, none⟩ = some (.slice xa xn xc) := by rw [cell_at H3.out.r]; rfl
    simp only at p1
    go_wp2_with fail
    refine (HCD.out _ H3.out.p H3.out.k).mono ?_; rintro e w4 ⟨rfl, b4⟩
    clear p0 p1
    have H4 := Lib.hid (H3.out.new b4); clear H3
    have HSK4 := Lib.hid (HSK3.out.new b4); clear HSK3
    have HSE4 := Lib.hid (HSE.out.new b4); clear HSE b4
    have der : ((R1 : Int) == (R1 : Int)) = true := beq_self_eq_true _
    have p1 := H4.out.p1
    have p0 : w4.cell? ⟨w.heap.size, 0, none⟩ = some (.slice xa xn xc) := by rw [cell_at H4.out.r]; rfl
    simp only at p1
    by_cases r0 : R1 = 0
    case neg =>
      have dr : ((R1 : Int) == 0) = false := beq_eq_false_iff_ne.2 (by omega)
      clear p0 p1
      go_wp2_with fail
      refine (HCA.out _ H4.out.k).mono ?_; rintro e wz ⟨rfl, bz⟩
      have HZ := Lib.hid (H4.out.b.trans (bz.mono H4.out.b.size)); clear bz
      go_wp2_with fail
      go_ret
      exact ⟨rfl, HZ.out⟩
    case pos =>
      obtain ⟨S, hS⟩ := HOK.out r0
      obtain ⟨a1, a2, a3, O, o0, oN, hblk⟩ := HAL.out S (hS)
      have hE : E1 = .ok S := hS
      have hSK := HSK4.out
      have hSE := HSE4.out
      have hKL := HKL.out
      have hEL := HEL.out
      have hD := HD1.out
      rw [hE] at hSK hSE hKL hEL hD
      have hKLx : xm = KL := by rw [hKL, ← HMX.out, ← a1]; exact (List.length_map _).symm
      have hELx : xm = EL := by rw [hEL, ← HMX.out, ← a2]; rfl
      subst hKLx
      subst hELx
      have hSK : SRd (.slice ka xm kc) (S.seen.map Ver.kb) w4 := hSK
      have hSE : NRd (.slice ea xm ec) S.ends w4 := hSE
      obtain ⟨_, _, e9, _, hkc⟩ := hSK
      obtain ⟨_, _, e8, _, hec⟩ := hSE
      simp only [Value.slice.injEq] at e8 e9
      replace e9 := e9.1
      subst e9
      replace e8 := e8.1
      subst e8
      have hD16 : D1 ≤ 16 := by rw [hD]; exact a3
      have d1 : decide ((D1 : Int) < 0) = false := decide_eq_false (by omega)
      have d1i : ¬ (D1 : Int) < 0 := by omega
      have d2 : decide ((16 : Int) < (D1 : Int)) = false := decide_eq_false (by omega)
      have d2i : ¬ (16 : Int) < (D1 : Int) := by omega
      subst r0
      rw [List.length_map, a1] at hkc
      rw [a2] at hec
      have hK16 : ∀ j, j < cs.length → (S.seen.getD j []).length ≤ 16 := fun j hj => (hblk j hj).k
      have hke : ∀ j, j < xm → ∃ g, ka = some ⟨g, 0, none⟩ ∧ w4.cell? ⟨g, j, none⟩ = some (.string (Ver.kb (S.seen.getD j []))) := fun j hj => by
        obtain ⟨g, h1, h2⟩ := hkc j (by rw [HMX.out]; exact hj)
        rw [kinds_at (by rw [a1, HMX.out]; exact hj)] at h2
        exact ⟨g, h1, h2⟩
      have hee : ∀ j, j < xm → ∃ g, ea = some ⟨g, 0, none⟩ ∧ w4.cell? ⟨g, j, none⟩ = some (.int .i64 ((S.ends.getD j 0 : Nat) : Int)) := fun j hj => hec j (by rw [HMX.out]; exact hj)
      have Hke := Lib.hid hke; clear hke hkc
      have Hee := Lib.hid hee; clear hee hec
      have HBK := Lib.hid hblk; clear hblk
      have HO0 := Lib.hid o0; clear o0
      have HON := Lib.hid oN; clear oN
      clear hS hE hKL hEL hD hD16 a1 a2 a3 hK16 HSK4 HSE4 HKL HEL HCL HCK HCE HCD HOK HAL
      go_wp2_with fail
      clear p0 p1 der d1 d2 d1i d2i
      go_loopw [11, 12] (fun v iv wr => ∃ i : Nat, i ≤ xm ∧ iv = .int .i64 (i : Int) ∧ NOwn w4.heap.size v (O i).reverse wr ∧ Below w4.heap.size w4 wr ∧ (O i).length ≤ i) (fun v iv _ => xm - (intOf iv).toNat)
      case atStart => exact ⟨0, Nat.zero_le _, rfl, by rw [HO0.out]; exact NOwn.nil _ _, Below.refl _ _, by rw [HO0.out]; exact Nat.le_refl _⟩
      case round =>
        obtain ⟨i, hi, rfl, hO, hb, hol⟩ := hrel
        have h1 := H4.out.new hb
        have p1 : wr.cell? ⟨w.heap.size, 1, none⟩ = some (.slice xb xm xd) := h1.p1
        by_cases g1 : i < xm
        · have g1' : decide (i < xm) = true := decide_eq_true g1
          have g1i : (i : Int) < (xm : Int) := by omega
          have hcl : i < cs.length := by rw [HMX.out]; exact g1
          have hB := HBK.out i hcl
          obtain ⟨kg, hka, hkc⟩ := Hke.out i g1
          obtain ⟨eg, hea, hec⟩ := Hee.out i g1
          obtain ⟨cb, off, hxb, ca, _⟩ := h1.p.i.2 i g1
          simp only at hxb
          subst hka
          subst hea
          subst hxb
          replace hkc : wr.cell? ⟨kg, i, none⟩ = _ := (hb.cell (p := ⟨kg, i, none⟩) (cell_lt hkc)).trans hkc
          replace hec : wr.cell? ⟨eg, i, none⟩ = _ := (hb.cell (p := ⟨eg, i, none⟩) (cell_lt hec)).trans hec
          obtain ⟨o, ho⟩ : ∃ o, o = Ver.codeOp cs i := ⟨_, rfl⟩
          replace ca : wr.cell? ⟨cb, off + i * 2, none⟩ = some (.int .u8 (o : Int)) := by rw [ho]; exact ca
          obtain ⟨ei, hei⟩ : ∃ ei, ei = S.ends.getD i 0 := ⟨_, rfl⟩
          obtain ⟨Ki, hKi⟩ : ∃ Ki, Ki = Ver.kb (S.seen.getD i []) := ⟨_, rfl⟩
          have hnx := hB.next
          have hk16 := hB.k
          have hks : Ki.size ≤ 16 := by rw [hKi, Ver.kb_size]; exact hk16
          rw [← hei] at hec
          rw [← hKi] at hkc
          rw [← ho] at hnx
          have hln := next_len o i (O i)
          rw [← hnx] at hln
          have dk : decide ((16 : Int) < (Ki.size : Int)) = false := decide_eq_false (by omega)
          have dki : ¬ (16 : Int) < (Ki.size : Int) := by omega
          have HS1 := Lib.hid h1; clear h1
          clear hk16 hks
          by_cases c19 : o = 19
          case pos =>
            subst c19
            obtain ⟨y1, y2⟩ := hB.yes (by rw [← ho]; rfl)
            rw [← hei] at y1 y2
            rw [HMX.out] at y2
            have dg : decide ((0 : Int) < (ei : Int)) = true := decide_eq_true (by omega)
            have dgi : (0 : Int) < (ei : Int) := by omega
            have dl : decide ((ei : Int) ≤ (i : Int)) = false := decide_eq_false (by omega)
            have dli : ¬ (ei : Int) ≤ (i : Int) := by omega
            have dn : decide ((xm : Int) ≤ (ei : Int)) = false := decide_eq_false (by omega)
            have dni : ¬ (xm : Int) ≤ (ei : Int) := by omega
            have eg_ : decide (0 < ei) = true := decide_eq_true (by omega)
            have egi : 0 < ei := by omega
            have egn : decide (ei = 0) = false := decide_eq_false (by omega)
            have egm : ¬ ei = 0 := by omega
            have el : decide (ei ≤ i) = false := decide_eq_false (by omega)
            have eli : ¬ ei ≤ i := by omega
            have en : decide (xm ≤ ei) = false := decide_eq_false (by omega)
            have eni : ¬ xm ≤ ei := by omega
            replace ca : wr.cell? ⟨cb, off + i * 2, none⟩ = some (.int .u8 19) := ca
            obtain ⟨oa, oc, rfl⟩ := hO.form
            obtain ⟨L, hL⟩ : ∃ L, L = (O i).reverse := ⟨_, rfl⟩
            have hLl : L.length = (O i).length := by rw [hL]; exact List.length_reverse
            rw [← hL] at hO ⊢
            have hN : (O (i + 1)).reverse = L ++ [i] := by rw [hL, hnx, show Ver.nextO 19 i (O i) = i :: O i from rfl, List.reverse_cons]
            have HN := Lib.hid hN; clear hN hL
            obtain ⟨N, hNn⟩ : ∃ N, N = L.length := ⟨_, rfl⟩
            rw [← hNn] at hO ⊢
            have HNn := Lib.hid hNn; clear hNn
            have HO := Lib.hid hO; clear hO
            have Hb := Lib.hid hb; clear hb
            have HX := Lib.hid (And.intro hnx hln); clear hnx hln
            have HHO := Lib.hid ho; clear ho
            have HEI := Lib.hid hei; clear hei
            have HKI := Lib.hid hKi; clear hKi
            have HBB := Lib.hid hB; clear hB
            go_wp2_with fail
            go_quiet (fail)
            obtain ⟨wq, hwq⟩ : ∃ wq, wq = wr.drewN nq := ⟨_, rfl⟩
            have Hbwq := Lib.hid (show Below w4.heap.size w4 wq by rw [hwq]; exact drewN_below Hb.out nq)
            have HOwq := Lib.hid (show NOwn w4.heap.size _ _ wq by rw [hwq]; exact HO.out.new (drewN_below (Below.refl _ _) nq))
            have hbd : Below wr.heap.size wr wq := by rw [hwq]; exact drewN_below (Below.refl _ _) nq
            rw [← hwq]
            clear hwq
            obtain ⟨v', w', hr, hn', hbb⟩ := HOwq.out.app1 i (by omega) Hbwq.out.size
            rw [← HN.out] at hn'
            have HR := Lib.hid hr; clear hr
            have HN' := Lib.hid hn'; clear hn'
            have HBB := Lib.hid (Hbwq.out.trans hbb); clear hbb
            go_wp2_with (at_builtin; refine Edt.append_hap rfl (.tmp 222) (.tmp 224) 34 rfl (.slice oa N oc) (.slice (some ⟨wq.heap.size, 0, none⟩) 1 1) _ w' rfl rfl HR.out ?_)
            go_roundw
            case rel => exact ⟨i + 1, by omega, by go_num, HN'.out, HBB.out, by have := HX.out.2; omega⟩
            case measure => simp [intOf]; omega
          by_cases c22 : o = 22
          case pos =>
            subst c22
            obtain ⟨y1, y2⟩ := hB.yes (by rw [← ho]; rfl)
            rw [← hei] at y1 y2
            rw [HMX.out] at y2
            have dg : decide ((0 : Int) < (ei : Int)) = true := decide_eq_true (by omega)
            have dgi : (0 : Int) < (ei : Int) := by omega
            have dl : decide ((ei : Int) ≤ (i : Int)) = false := decide_eq_false (by omega)
            have dli : ¬ (ei : Int) ≤ (i : Int) := by omega
            have dn : decide ((xm : Int) ≤ (ei : Int)) = false := decide_eq_false (by omega)
            have dni : ¬ (xm : Int) ≤ (ei : Int) := by omega
            have eg_ : decide (0 < ei) = true := decide_eq_true (by omega)
            have egi : 0 < ei := by omega
            have egn : decide (ei = 0) = false := decide_eq_false (by omega)
            have egm : ¬ ei = 0 := by omega
            have el : decide (ei ≤ i) = false := decide_eq_false (by omega)
            have eli : ¬ ei ≤ i := by omega
            have en : decide (xm ≤ ei) = false := decide_eq_false (by omega)
            have eni : ¬ xm ≤ ei := by omega
            replace ca : wr.cell? ⟨cb, off + i * 2, none⟩ = some (.int .u8 22) := ca
            obtain ⟨oa, oc, rfl⟩ := hO.form
            obtain ⟨L, hL⟩ : ∃ L, L = (O i).reverse := ⟨_, rfl⟩
            have hLl : L.length = (O i).length := by rw [hL]; exact List.length_reverse
            rw [← hL] at hO ⊢
            have hN : (O (i + 1)).reverse = L ++ [i] := by rw [hL, hnx, show Ver.nextO 22 i (O i) = i :: O i from rfl, List.reverse_cons]
            have HN := Lib.hid hN; clear hN hL
            obtain ⟨N, hNn⟩ : ∃ N, N = L.length := ⟨_, rfl⟩
            rw [← hNn] at hO ⊢
            have HNn := Lib.hid hNn; clear hNn
            have HO := Lib.hid hO; clear hO
            have Hb := Lib.hid hb; clear hb
            have HX := Lib.hid (And.intro hnx hln); clear hnx hln
            have HHO := Lib.hid ho; clear ho
            have HEI := Lib.hid hei; clear hei
            have HKI := Lib.hid hKi; clear hKi
            have HBB := Lib.hid hB; clear hB
            go_wp2_with fail
            go_quiet (fail)
            obtain ⟨wq, hwq⟩ : ∃ wq, wq = wr.drewN nq := ⟨_, rfl⟩
            have Hbwq := Lib.hid (show Below w4.heap.size w4 wq by rw [hwq]; exact drewN_below Hb.out nq)
            have HOwq := Lib.hid (show NOwn w4.heap.size _ _ wq by rw [hwq]; exact HO.out.new (drewN_below (Below.refl _ _) nq))
            have hbd : Below wr.heap.size wr wq := by rw [hwq]; exact drewN_below (Below.refl _ _) nq
            rw [← hwq]
            clear hwq
            obtain ⟨v', w', hr, hn', hbb⟩ := HOwq.out.app1 i (by omega) Hbwq.out.size
            rw [← HN.out] at hn'
            have HR := Lib.hid hr; clear hr
            have HN' := Lib.hid hn'; clear hn'
            have HBB := Lib.hid (Hbwq.out.trans hbb); clear hbb
            go_wp2_with (at_builtin; refine Edt.append_hap rfl (.tmp 222) (.tmp 224) 34 rfl (.slice oa N oc) (.slice (some ⟨wq.heap.size, 0, none⟩) 1 1) _ w' rfl rfl HR.out ?_)
            go_roundw
            case rel => exact ⟨i + 1, by omega, by go_num, HN'.out, HBB.out, by have := HX.out.2; omega⟩
            case measure => simp [intOf]; omega
          by_cases c20 : o = 20
          case pos =>
            subst c20
            obtain ⟨y1, y2⟩ := hB.yes (by rw [← ho]; rfl)
            rw [← hei] at y1 y2
            rw [HMX.out] at y2
            have dg : decide ((0 : Int) < (ei : Int)) = true := decide_eq_true (by omega)
            have dgi : (0 : Int) < (ei : Int) := by omega
            have dl : decide ((ei : Int) ≤ (i : Int)) = false := decide_eq_false (by omega)
            have dli : ¬ (ei : Int) ≤ (i : Int) := by omega
            have dn : decide ((xm : Int) ≤ (ei : Int)) = false := decide_eq_false (by omega)
            have dni : ¬ (xm : Int) ≤ (ei : Int) := by omega
            have eg_ : decide (0 < ei) = true := decide_eq_true (by omega)
            have egi : 0 < ei := by omega
            have egn : decide (ei = 0) = false := decide_eq_false (by omega)
            have egm : ¬ ei = 0 := by omega
            have el : decide (ei ≤ i) = false := decide_eq_false (by omega)
            have eli : ¬ ei ≤ i := by omega
            have en : decide (xm ≤ ei) = false := decide_eq_false (by omega)
            have eni : ¬ xm ≤ ei := by omega
            replace ca : wr.cell? ⟨cb, off + i * 2, none⟩ = some (.int .u8 20) := ca
            obtain ⟨b, r, hOi, hbi, hbe, hk1, hk2⟩ := hB.cut (by rw [← ho]; decide)
            rw [hOi, List.reverse_cons] at hO
            obtain ⟨og, oc, rfl, hoc, _, hob, hpo⟩ := hO.some_
            obtain ⟨kg', e1, hkb⟩ := Hke.out b (by omega)
            obtain ⟨eg', e2, heb⟩ := Hee.out b (by omega)
            simp only [Option.some.injEq, Addr.mk.injEq] at e1 e2
            obtain ⟨rfl, _⟩ := e1
            obtain ⟨rfl, _⟩ := e2
            obtain ⟨cb', off', e3, cab, _⟩ := HS1.out.p.i.2 b (show b < xm by omega)
            simp only [Option.some.injEq, Addr.mk.injEq] at e3
            obtain ⟨rfl, rfl, _⟩ := e3
            replace hkb : wr.cell? ⟨kg, b, none⟩ = _ := (hb.cell (p := ⟨kg, b, none⟩) (cell_lt hkb)).trans hkb
            replace heb : wr.cell? ⟨eg, b, none⟩ = _ := (hb.cell (p := ⟨eg, b, none⟩) (cell_lt heb)).trans heb
            rw [hbe] at heb
            have hcut := ints_cut (some ⟨og, 0, none⟩) (r.reverse.length + 1) oc r.reverse.length hoc
            obtain ⟨ob, hob'⟩ : ∃ ob, ob = Ver.codeOp cs b := ⟨_, rfl⟩
            replace cab : wr.cell? ⟨cb, off + b * 2, none⟩ = some (.int .u8 (ob : Int)) := by rw [hob']; exact cab
            obtain ⟨L, hL⟩ : ∃ L, L = r.reverse := ⟨_, rfl⟩
            have hLl : L.length + 1 = (O i).length := by rw [hL, hOi, List.length_reverse]; rfl
            have hN : (O (i + 1)).reverse = L ++ [i] := by rw [hL, hnx, hOi]; exact List.reverse_cons
            rw [← hL] at hpo hob hcut hoc ⊢
            have HN := Lib.hid hN; clear hN hL hO hbe hOi
            obtain ⟨N, hNn⟩ : ∃ N, N = L.length := ⟨_, rfl⟩
            rw [← hNn] at hpo hob hcut hoc ⊢
            have HNn := Lib.hid hNn; clear hNn
            have HCUT := Lib.hid hcut; clear hcut
            have hNb : N ≤ 4000 := by have := HNn.out; omega
            have HO := Lib.hid hpo; clear hpo
            have Hb := Lib.hid hb; clear hb
            have HX := Lib.hid (And.intro hnx hln); clear hnx hln
            have HHO := Lib.hid ho; clear ho
            have HEI := Lib.hid hei; clear hei
            have HKI := Lib.hid hKi; clear hKi
            have HBB := Lib.hid hB; clear hB
            have HK1 := Lib.hid hk1; clear hk1
            have HK2 := Lib.hid hk2; clear hk2
            have HOB := Lib.hid hob'; clear hob'
            go_wp2_with fail
            go_quiet (fail)
            obtain ⟨wq, hwq⟩ : ∃ wq, wq = wr.drewN nq := ⟨_, rfl⟩
            have Hbwq := Lib.hid (show Below w4.heap.size w4 wq by rw [hwq]; exact drewN_below Hb.out nq)
            have HOwq := Lib.hid (show NOwn w4.heap.size _ _ wq by rw [hwq]; exact HO.out.new (drewN_below (Below.refl _ _) nq))
            have hbd : Below wr.heap.size wr wq := by rw [hwq]; exact drewN_below (Below.refl _ _) nq
            rw [← hwq]
            clear hwq
            replace hob : wq.cell? ⟨og, N, none⟩ = _ := (hbd.cell (p := ⟨og, N, none⟩) (cell_lt hob)).trans hob
            replace heb : wq.cell? ⟨eg, b, none⟩ = _ := (hbd.cell (p := ⟨eg, b, none⟩) (cell_lt heb)).trans heb
            replace hkb : wq.cell? ⟨kg, b, none⟩ = _ := (hbd.cell (p := ⟨kg, b, none⟩) (cell_lt hkb)).trans hkb
            replace hkc : wq.cell? ⟨kg, i, none⟩ = _ := (hbd.cell (p := ⟨kg, i, none⟩) (cell_lt hkc)).trans hkc
            replace cab : wq.cell? ⟨cb, off + b * 2, none⟩ = _ := (hbd.cell (p := ⟨cb, off + b * 2, none⟩) (cell_lt cab)).trans cab
            have p1 : wq.cell? ⟨w.heap.size, 1, none⟩ = some (.slice (some ⟨cb, off, none⟩) xm xd) := (HS1.out.new hbd).p1
            clear hbd hec ca
            go_wp2_with fail
            obtain ⟨l, hl⟩ : ∃ l, l = S.ends.length := ⟨_, rfl⟩
            clear hl l
            obtain ⟨T, hT⟩ : ∃ T, T = Ver.kb (S.seen.getD b []) := ⟨_, rfl⟩
            rw [← hT] at hkb
            clear hT
            refine wp_region_text [0, 1, 2, 3, 4, 5, 6, 7, 8, 9, 10, 11, 12, 13, 14, 15, 16, 17, 18, 19, 20, 21, 22, 23, 24, 25, 26, 27, 28, 29, 30, 31, 32, 33, 34, 35] [] [] (by kernel_rfl) (by kernel_rfl) (fun z => z.cell? ⟨w.heap.size, 1, none⟩ = some (.slice (some ⟨cb, off, none⟩) xm xd) ∧ z.cell? ⟨cb, off + b * 2, none⟩ = some (.int .u8 (ob : Int)) ∧ z.cell? ⟨kg, i, none⟩ = some (.string Ki) ∧ z.cell? ⟨kg, b, none⟩ = some (.string T)) ⟨p1, cab, hkc, hkb⟩ ?_
            simp only [pick, List.filterMap_cons, List.filterMap_nil, List.getElem?_toArray, List.getElem?_cons_zero, List.getElem?_cons_succ]
            refine take_move (.tmp 13) (.int .u8 20) rfl rfl rfl ?_
            simp only [Act.put, List.setIfInBounds_toArray, List.set_cons_zero, List.set_cons_succ]
            refine take_one (.bool false) rfl (fun u hu => by go_simp) ?_
            simp only [Act.put, List.setIfInBounds_toArray, List.set_cons_zero, List.set_cons_succ]
            refine take_move (.tmp 164) (.bool false) rfl rfl rfl ?_
            simp only [Act.put, List.setIfInBounds_toArray, List.set_cons_zero, List.set_cons_succ]
            refine take_skip rfl ?_
            simp only [Act.put, List.setIfInBounds_toArray, List.set_cons_zero, List.set_cons_succ]
            refine take_skip rfl ?_
            simp only [Act.put, List.setIfInBounds_toArray, List.set_cons_zero, List.set_cons_succ]
            refine take_skip rfl ?_
            simp only [Act.put, List.setIfInBounds_toArray, List.set_cons_zero, List.set_cons_succ]
            refine take_skip rfl ?_
            simp only [Act.put, List.setIfInBounds_toArray, List.set_cons_zero, List.set_cons_succ]
            refine take_skip rfl ?_
            simp only [Act.put, List.setIfInBounds_toArray, List.set_cons_zero, List.set_cons_succ]
            refine take_skip rfl ?_
            simp only [Act.put, List.setIfInBounds_toArray, List.set_cons_zero, List.set_cons_succ]
            refine take_skip rfl ?_
            simp only [Act.put, List.setIfInBounds_toArray, List.set_cons_zero, List.set_cons_succ]
            refine take_one (.bool false) rfl (fun u hu => by go_simp) ?_
            simp only [Act.put, List.setIfInBounds_toArray, List.set_cons_zero, List.set_cons_succ]
            refine take_move (.tmp 173) (.bool false) rfl rfl rfl ?_
            simp only [Act.put, List.setIfInBounds_toArray, List.set_cons_zero, List.set_cons_succ]
            refine take_skip rfl ?_
            simp only [Act.put, List.setIfInBounds_toArray, List.set_cons_zero, List.set_cons_succ]
            refine take_skip rfl ?_
            simp only [Act.put, List.setIfInBounds_toArray, List.set_cons_zero, List.set_cons_succ]
            refine take_skip rfl ?_
            simp only [Act.put, List.setIfInBounds_toArray, List.set_cons_zero, List.set_cons_succ]
            refine take_skip rfl ?_
            simp only [Act.put, List.setIfInBounds_toArray, List.set_cons_zero, List.set_cons_succ]
            refine take_skip rfl ?_
            simp only [Act.put, List.setIfInBounds_toArray, List.set_cons_zero, List.set_cons_succ]
            refine take_skip rfl ?_
            simp only [Act.put, List.setIfInBounds_toArray, List.set_cons_zero, List.set_cons_succ]
            refine take_skip rfl ?_
            simp only [Act.put, List.setIfInBounds_toArray, List.set_cons_zero, List.set_cons_succ]
            refine take_skip rfl ?_
            simp only [Act.put, List.setIfInBounds_toArray, List.set_cons_zero, List.set_cons_succ]
            refine take_skip rfl ?_
            simp only [Act.put, List.setIfInBounds_toArray, List.set_cons_zero, List.set_cons_succ]
            refine take_skip rfl ?_
            simp only [Act.put, List.setIfInBounds_toArray, List.set_cons_zero, List.set_cons_succ]
            refine take_skip rfl ?_
            simp only [Act.put, List.setIfInBounds_toArray, List.set_cons_zero, List.set_cons_succ]
            refine take_skip rfl ?_
            simp only [Act.put, List.setIfInBounds_toArray, List.set_cons_zero, List.set_cons_succ]
            refine take_skip rfl ?_
            simp only [Act.put, List.setIfInBounds_toArray, List.set_cons_zero, List.set_cons_succ]
            refine take_skip rfl ?_
            simp only [Act.put, List.setIfInBounds_toArray, List.set_cons_zero, List.set_cons_succ]
            refine take_skip rfl ?_
            simp only [Act.put, List.setIfInBounds_toArray, List.set_cons_zero, List.set_cons_succ]
            refine take_skip rfl ?_
            simp only [Act.put, List.setIfInBounds_toArray, List.set_cons_zero, List.set_cons_succ]
            refine take_skip rfl ?_
            simp only [Act.put, List.setIfInBounds_toArray, List.set_cons_zero, List.set_cons_succ]
            refine take_skip rfl ?_
            simp only [Act.put, List.setIfInBounds_toArray, List.set_cons_zero, List.set_cons_succ]
            refine take_skip rfl ?_
            simp only [Act.put, List.setIfInBounds_toArray, List.set_cons_zero, List.set_cons_succ]
            refine take_skip rfl ?_
            simp only [Act.put, List.setIfInBounds_toArray, List.set_cons_zero, List.set_cons_succ]
            refine take_skip rfl ?_
            simp only [Act.put, List.setIfInBounds_toArray, List.set_cons_zero, List.set_cons_succ]
            refine take_skip rfl ?_
            simp only [Act.put, List.setIfInBounds_toArray, List.set_cons_zero, List.set_cons_succ]
            refine take_skip rfl ?_
            simp only [Act.put, List.setIfInBounds_toArray, List.set_cons_zero, List.set_cons_succ]
            refine take_one (.bool false) rfl (fun u hu => by go_simp) ?_
            simp only [Act.put, List.setIfInBounds_toArray, List.set_cons_zero, List.set_cons_succ]
            refine take_done ?_
            refine mid_list ?_
            refine NoPanic.normal ?_
            obtain ⟨wd, hwd⟩ : ∃ wd, wd = wq.drew := ⟨_, rfl⟩
            have hbd : Below wq.heap.size wq wd := by rw [hwd]; exact (Below.refl _ _).drew
            rw [← hwd]
            clear hwd
            have Hbwd := Lib.hid (Hbwq.out.trans (hbd.mono Hbwq.out.size))
            have HOwd := Lib.hid (HOwq.out.new hbd)
            replace hkc : wd.cell? ⟨kg, i, none⟩ = _ := (hbd.cell (p := ⟨kg, i, none⟩) (cell_lt hkc)).trans hkc
            replace hkb : wd.cell? ⟨kg, b, none⟩ = _ := (hbd.cell (p := ⟨kg, b, none⟩) (cell_lt hkb)).trans hkb
            replace cab : wd.cell? ⟨cb, off + b * 2, none⟩ = _ := (hbd.cell (p := ⟨cb, off + b * 2, none⟩) (cell_lt cab)).trans cab
            replace p1 : wd.cell? ⟨w.heap.size, 1, none⟩ = _ := (hbd.cell (p := ⟨w.heap.size, 1, none⟩) (cell_lt p1)).trans p1
            clear hbd
            go_wp2_with fail
            go_quiet (fail)
            obtain ⟨we, hwe⟩ : ∃ we, we = wd.drewN nq := ⟨_, rfl⟩
            have hbd : Below wd.heap.size wd we := by rw [hwe]; exact drewN_below (Below.refl _ _) nq
            rw [← hwe]
            clear hwe
            have Hbwe := Lib.hid (Hbwd.out.trans (hbd.mono Hbwd.out.size))
            have HOwe := Lib.hid (HOwd.out.new hbd)
            replace hkc : we.cell? ⟨kg, i, none⟩ = _ := (hbd.cell (p := ⟨kg, i, none⟩) (cell_lt hkc)).trans hkc
            replace hkb : we.cell? ⟨kg, b, none⟩ = _ := (hbd.cell (p := ⟨kg, b, none⟩) (cell_lt hkb)).trans hkb
            replace cab : we.cell? ⟨cb, off + b * 2, none⟩ = _ := (hbd.cell (p := ⟨cb, off + b * 2, none⟩) (cell_lt cab)).trans cab
            replace p1 : we.cell? ⟨w.heap.size, 1, none⟩ = _ := (hbd.cell (p := ⟨w.heap.size, 1, none⟩) (cell_lt p1)).trans p1
            clear hbd
            obtain ⟨v', w', hr, hn', hbb⟩ := HOwe.out.app1 i (by omega) Hbwe.out.size
            rw [← HN.out] at hn'
            have HR := Lib.hid hr; clear hr
            have HN' := Lib.hid hn'; clear hn'
            have HBB := Lib.hid (Hbwe.out.trans hbb); clear hbb
            go_wp2_with (at_builtin; refine Edt.append_hap rfl (.tmp 222) (.tmp 224) 34 rfl (.slice (some ⟨og, 0, none⟩) N oc) (.slice (some ⟨we.heap.size, 0, none⟩) 1 1) _ w' rfl rfl HR.out ?_)
            go_roundw
            case rel => exact ⟨i + 1, by omega, by go_num, HN'.out, HBB.out, by have := HX.out.2; omega⟩
            case measure => simp [intOf]; omega
          by_cases c21 : o = 21
          case pos =>
            subst c21
            obtain rfl : ei = 0 := by rw [hei]; exact hB.no (by rw [← ho]; rfl)
            replace hec : wr.cell? ⟨eg, i, none⟩ = some (.int .i64 0) := hec
            replace ca : wr.cell? ⟨cb, off + i * 2, none⟩ = some (.int .u8 21) := ca
            obtain ⟨b, r, hOi, hbi, hbe, hk1, hk2⟩ := hB.cut (by rw [← ho]; decide)
            rw [hOi, List.reverse_cons] at hO
            obtain ⟨og, oc, rfl, hoc, _, hob, hpo⟩ := hO.some_
            obtain ⟨kg', e1, hkb⟩ := Hke.out b (by omega)
            obtain ⟨eg', e2, heb⟩ := Hee.out b (by omega)
            simp only [Option.some.injEq, Addr.mk.injEq] at e1 e2
            obtain ⟨rfl, _⟩ := e1
            obtain ⟨rfl, _⟩ := e2
            obtain ⟨cb', off', e3, cab, _⟩ := HS1.out.p.i.2 b (show b < xm by omega)
            simp only [Option.some.injEq, Addr.mk.injEq] at e3
            obtain ⟨rfl, rfl, _⟩ := e3
            replace hkb : wr.cell? ⟨kg, b, none⟩ = _ := (hb.cell (p := ⟨kg, b, none⟩) (cell_lt hkb)).trans hkb
            replace heb : wr.cell? ⟨eg, b, none⟩ = _ := (hb.cell (p := ⟨eg, b, none⟩) (cell_lt heb)).trans heb
            rw [hbe] at heb
            have hcut := ints_cut (some ⟨og, 0, none⟩) (r.reverse.length + 1) oc r.reverse.length hoc
            obtain ⟨ob, hob'⟩ : ∃ ob, ob = Ver.codeOp cs b := ⟨_, rfl⟩
            replace cab : wr.cell? ⟨cb, off + b * 2, none⟩ = some (.int .u8 (ob : Int)) := by rw [hob']; exact cab
            obtain ⟨L, hL⟩ : ∃ L, L = r.reverse := ⟨_, rfl⟩
            have hLl : L.length + 1 = (O i).length := by rw [hL, hOi, List.length_reverse]; rfl
            have hN : (O (i + 1)).reverse = L := by rw [hL, hnx, hOi]; rfl
            rw [← hL] at hpo hob hcut hoc ⊢
            have HN := Lib.hid hN; clear hN hL hO hbe hOi
            obtain ⟨N, hNn⟩ : ∃ N, N = L.length := ⟨_, rfl⟩
            rw [← hNn] at hpo hob hcut hoc ⊢
            have HNn := Lib.hid hNn; clear hNn
            have HCUT := Lib.hid hcut; clear hcut
            have hNb : N ≤ 4000 := by have := HNn.out; omega
            have HO := Lib.hid hpo; clear hpo
            have Hb := Lib.hid hb; clear hb
            have HX := Lib.hid (And.intro hnx hln); clear hnx hln
            have HHO := Lib.hid ho; clear ho
            have HEI := Lib.hid hei; clear hei
            have HKI := Lib.hid hKi; clear hKi
            have HBB := Lib.hid hB; clear hB
            have HK1 := Lib.hid hk1; clear hk1
            have HK2 := Lib.hid hk2; clear hk2
            have HOB := Lib.hid hob'; clear hob'
            go_wp2_with fail
            go_quiet (fail)
            obtain ⟨wq, hwq⟩ : ∃ wq, wq = wr.drewN nq := ⟨_, rfl⟩
            have Hbwq := Lib.hid (show Below w4.heap.size w4 wq by rw [hwq]; exact drewN_below Hb.out nq)
            have HOwq := Lib.hid (show NOwn w4.heap.size _ _ wq by rw [hwq]; exact HO.out.new (drewN_below (Below.refl _ _) nq))
            have hbd : Below wr.heap.size wr wq := by rw [hwq]; exact drewN_below (Below.refl _ _) nq
            rw [← hwq]
            clear hwq
            replace hob : wq.cell? ⟨og, N, none⟩ = _ := (hbd.cell (p := ⟨og, N, none⟩) (cell_lt hob)).trans hob
            replace heb : wq.cell? ⟨eg, b, none⟩ = _ := (hbd.cell (p := ⟨eg, b, none⟩) (cell_lt heb)).trans heb
            replace hkb : wq.cell? ⟨kg, b, none⟩ = _ := (hbd.cell (p := ⟨kg, b, none⟩) (cell_lt hkb)).trans hkb
            replace hkc : wq.cell? ⟨kg, i, none⟩ = _ := (hbd.cell (p := ⟨kg, i, none⟩) (cell_lt hkc)).trans hkc
            replace cab : wq.cell? ⟨cb, off + b * 2, none⟩ = _ := (hbd.cell (p := ⟨cb, off + b * 2, none⟩) (cell_lt cab)).trans cab
            have p1 : wq.cell? ⟨w.heap.size, 1, none⟩ = some (.slice (some ⟨cb, off, none⟩) xm xd) := (HS1.out.new hbd).p1
            clear hbd hec ca
            go_wp2_with fail
            obtain ⟨l, hl⟩ : ∃ l, l = S.ends.length := ⟨_, rfl⟩
            clear hl l
            obtain ⟨T, hT⟩ : ∃ T, T = Ver.kb (S.seen.getD b []) := ⟨_, rfl⟩
            rw [← hT] at hkb
            by_cases c9 : ob = 20
            case pos =>
              have hKT : Ki = T := by rw [HKI.out, hT, HK2.out HHO.out.symm (HOB.out.symm.trans c9)]
              subst c9
              subst hKT
              replace cab : wq.cell? ⟨cb, off + b * 2, none⟩ = some (.int .u8 20) := cab
              clear hT
              refine wp_region_text [0, 1, 2, 3, 4, 5, 6, 7, 8, 9, 10, 11, 12, 13, 14, 15, 16, 17, 18, 19, 20, 21, 22, 23, 24, 25, 26, 27, 28, 29, 30, 31, 32, 33, 34, 35] [] [] (by kernel_rfl) (by kernel_rfl) (fun z => z.cell? ⟨w.heap.size, 1, none⟩ = some (.slice (some ⟨cb, off, none⟩) xm xd) ∧ z.cell? ⟨cb, off + b * 2, none⟩ = some (.int .u8 20) ∧ z.cell? ⟨kg, i, none⟩ = some (.string Ki) ∧ z.cell? ⟨kg, b, none⟩ = some (.string Ki)) ⟨p1, cab, hkc, hkb⟩ ?_
              simp only [pick, List.filterMap_cons, List.filterMap_nil, List.getElem?_toArray, List.getElem?_cons_zero, List.getElem?_cons_succ]
              refine take_move (.tmp 13) (.int .u8 21) rfl rfl rfl ?_
              simp only [Act.put, List.setIfInBounds_toArray, List.set_cons_zero, List.set_cons_succ]
              refine take_one (.bool true) rfl (fun u hu => by go_simp) ?_
              simp only [Act.put, List.setIfInBounds_toArray, List.set_cons_zero, List.set_cons_succ]
              refine take_move (.tmp 164) (.bool true) rfl rfl rfl ?_
              simp only [Act.put, List.setIfInBounds_toArray, List.set_cons_zero, List.set_cons_succ]
              refine take_one (.pointer (some ⟨w.heap.size, 1, none⟩)) rfl (fun u _ => by go_simp) ?_
              simp only [Act.put, List.setIfInBounds_toArray, List.set_cons_zero, List.set_cons_succ]
              refine take_load 23 (.tmp 166) ⟨w.heap.size, 1, none⟩ (.slice (some ⟨cb, off, none⟩) xm xd) rfl rfl rfl (fun u hu => load_at Tryd.underlying23 Tryd.isAgg23 hu.1) ?_
              simp only [Act.put, List.setIfInBounds_toArray, List.set_cons_zero, List.set_cons_succ]
              refine take_move (.tmp 15) (.int .i64 (b : Int)) rfl rfl rfl ?_
              simp only [Act.put, List.setIfInBounds_toArray, List.set_cons_zero, List.set_cons_succ]
              refine take_one (.pointer (some ⟨cb, off + b * 2, none⟩)) rfl (fun u hu => by go_simp) ?_
              simp only [Act.put, List.setIfInBounds_toArray, List.set_cons_zero, List.set_cons_succ]
              refine take_one (.pointer (some ⟨cb, off + b * 2, none⟩)) rfl (fun u _ => by go_simp) ?_
              simp only [Act.put, List.setIfInBounds_toArray, List.set_cons_zero, List.set_cons_succ]
              refine take_load 5 (.tmp 170) ⟨cb, off + b * 2, none⟩ (.int .u8 20) rfl rfl rfl (fun u hu => load_at Tryd.underlying5 Tryd.isAgg5 hu.2.1) ?_
              simp only [Act.put, List.setIfInBounds_toArray, List.set_cons_zero, List.set_cons_succ]
              refine take_one (.bool false) rfl (fun u hu => by go_simp) ?_
              simp only [Act.put, List.setIfInBounds_toArray, List.set_cons_zero, List.set_cons_succ]
              refine take_one (.bool false) rfl (fun u hu => by go_simp) ?_
              simp only [Act.put, List.setIfInBounds_toArray, List.set_cons_zero, List.set_cons_succ]
              refine take_move (.tmp 173) (.bool false) rfl rfl rfl ?_
              simp only [Act.put, List.setIfInBounds_toArray, List.set_cons_zero, List.set_cons_succ]
              refine take_skip rfl ?_
              simp only [Act.put, List.setIfInBounds_toArray, List.set_cons_zero, List.set_cons_succ]
              refine take_skip rfl ?_
              simp only [Act.put, List.setIfInBounds_toArray, List.set_cons_zero, List.set_cons_succ]
              refine take_skip rfl ?_
              simp only [Act.put, List.setIfInBounds_toArray, List.set_cons_zero, List.set_cons_succ]
              refine take_skip rfl ?_
              simp only [Act.put, List.setIfInBounds_toArray, List.set_cons_zero, List.set_cons_succ]
              refine take_skip rfl ?_
              simp only [Act.put, List.setIfInBounds_toArray, List.set_cons_zero, List.set_cons_succ]
              refine take_skip rfl ?_
              simp only [Act.put, List.setIfInBounds_toArray, List.set_cons_zero, List.set_cons_succ]
              refine take_skip rfl ?_
              simp only [Act.put, List.setIfInBounds_toArray, List.set_cons_zero, List.set_cons_succ]
              refine take_skip rfl ?_
              simp only [Act.put, List.setIfInBounds_toArray, List.set_cons_zero, List.set_cons_succ]
              refine take_skip rfl ?_
              simp only [Act.put, List.setIfInBounds_toArray, List.set_cons_zero, List.set_cons_succ]
              refine take_skip rfl ?_
              simp only [Act.put, List.setIfInBounds_toArray, List.set_cons_zero, List.set_cons_succ]
              refine take_skip rfl ?_
              simp only [Act.put, List.setIfInBounds_toArray, List.set_cons_zero, List.set_cons_succ]
              refine take_skip rfl ?_
              simp only [Act.put, List.setIfInBounds_toArray, List.set_cons_zero, List.set_cons_succ]
              refine take_skip rfl ?_
              simp only [Act.put, List.setIfInBounds_toArray, List.set_cons_zero, List.set_cons_succ]
              refine take_skip rfl ?_
              simp only [Act.put, List.setIfInBounds_toArray, List.set_cons_zero, List.set_cons_succ]
              refine take_skip rfl ?_
              simp only [Act.put, List.setIfInBounds_toArray, List.set_cons_zero, List.set_cons_succ]
              refine take_skip rfl ?_
              simp only [Act.put, List.setIfInBounds_toArray, List.set_cons_zero, List.set_cons_succ]
              refine take_skip rfl ?_
              simp only [Act.put, List.setIfInBounds_toArray, List.set_cons_zero, List.set_cons_succ]
              refine take_skip rfl ?_
              simp only [Act.put, List.setIfInBounds_toArray, List.set_cons_zero, List.set_cons_succ]
              refine take_skip rfl ?_
              simp only [Act.put, List.setIfInBounds_toArray, List.set_cons_zero, List.set_cons_succ]
              refine take_skip rfl ?_
              simp only [Act.put, List.setIfInBounds_toArray, List.set_cons_zero, List.set_cons_succ]
              refine take_skip rfl ?_
              simp only [Act.put, List.setIfInBounds_toArray, List.set_cons_zero, List.set_cons_succ]
              refine take_skip rfl ?_
              simp only [Act.put, List.setIfInBounds_toArray, List.set_cons_zero, List.set_cons_succ]
              refine take_skip rfl ?_
              simp only [Act.put, List.setIfInBounds_toArray, List.set_cons_zero, List.set_cons_succ]
              refine take_one (.bool false) rfl (fun u hu => by go_simp) ?_
              simp only [Act.put, List.setIfInBounds_toArray, List.set_cons_zero, List.set_cons_succ]
              refine take_done ?_
              refine mid_list ?_
              refine NoPanic.normal ?_
              obtain ⟨wd, hwd⟩ : ∃ wd, wd = wq.drew := ⟨_, rfl⟩
              have hbd : Below wq.heap.size wq wd := by rw [hwd]; exact (Below.refl _ _).drew
              rw [← hwd]
              clear hwd
              have Hbwd := Lib.hid (Hbwq.out.trans (hbd.mono Hbwq.out.size))
              have HOwd := Lib.hid (HOwq.out.new hbd)
              replace hkc : wd.cell? ⟨kg, i, none⟩ = _ := (hbd.cell (p := ⟨kg, i, none⟩) (cell_lt hkc)).trans hkc
              replace hkb : wd.cell? ⟨kg, b, none⟩ = _ := (hbd.cell (p := ⟨kg, b, none⟩) (cell_lt hkb)).trans hkb
              replace cab : wd.cell? ⟨cb, off + b * 2, none⟩ = _ := (hbd.cell (p := ⟨cb, off + b * 2, none⟩) (cell_lt cab)).trans cab
              replace p1 : wd.cell? ⟨w.heap.size, 1, none⟩ = _ := (hbd.cell (p := ⟨w.heap.size, 1, none⟩) (cell_lt p1)).trans p1
              clear hbd
              go_wp2_with fail
              go_quiet (fail)
              obtain ⟨we, hwe⟩ : ∃ we, we = wd.drewN nq := ⟨_, rfl⟩
              have hbd : Below wd.heap.size wd we := by rw [hwe]; exact drewN_below (Below.refl _ _) nq
              rw [← hwe]
              clear hwe
              have Hbwe := Lib.hid (Hbwd.out.trans (hbd.mono Hbwd.out.size))
              have HOwe := Lib.hid (HOwd.out.new hbd)
              replace hkc : we.cell? ⟨kg, i, none⟩ = _ := (hbd.cell (p := ⟨kg, i, none⟩) (cell_lt hkc)).trans hkc
              replace hkb : we.cell? ⟨kg, b, none⟩ = _ := (hbd.cell (p := ⟨kg, b, none⟩) (cell_lt hkb)).trans hkb
              replace cab : we.cell? ⟨cb, off + b * 2, none⟩ = _ := (hbd.cell (p := ⟨cb, off + b * 2, none⟩) (cell_lt cab)).trans cab
              replace p1 : we.cell? ⟨w.heap.size, 1, none⟩ = _ := (hbd.cell (p := ⟨w.heap.size, 1, none⟩) (cell_lt p1)).trans p1
              clear hbd
              go_wp2_with fail
              go_roundw
              case rel => exact ⟨i + 1, by omega, by go_num, by rw [HN.out]; exact HOwe.out, Hbwe.out, by have := HX.out.2; omega⟩
              case measure => simp [intOf]; omega
            have dob : ((ob : Int) == 20) = false := beq_eq_false_iff_ne.2 (by omega)
            have hTs : T.size = (S.seen.getD b []).length := by rw [hT, Ver.kb_size]
            obtain ⟨C, hC⟩ : ∃ C, C = T.size - 1 := ⟨_, rfl⟩
            have hKT : Ki = T.extract 0 C := by rw [HKI.out, hT, HK1.out HHO.out.symm (fun e => c9 (HOB.out.trans e)), ← Ver.kb_take, hC, hTs]
            obtain ⟨M, hM⟩ : ∃ M, M = min 1 T.size := ⟨_, rfl⟩
            have hMi : min (1 : Int) (T.size : Int) = (M : Int) := by omega
            have hCi : (T.size : Int) - (M : Int) = (C : Int) := by omega
            have hCs : C ≤ T.size := by omega
            have doi : ¬ (ob : Int) = 20 := by omega
            have hT16 : T.size ≤ 100000 := by have := HBK.out b (by rw [HMX.out]; omega); have := this.k; omega
            have hsl : ∀ u, (Instr.sliceAt 9 (.string T) none (some (.int .i64 (C : Int))) none).run Tryd.prog u = .ok (.string (T.extract 0 C)) u := fun u => text_head T C hCs u
            have HSL := Lib.hid hsl; clear hsl
            have hCw : IntKind.i64.wrap (C : Int) = (C : Int) := by simp only [IntKind.wrap_i64]; omega
            subst hKT
            clear hT hC hM hTs
            refine wp_region_text [0, 1, 2, 3, 4, 5, 6, 7, 8, 9, 10, 11, 12, 13, 14, 15, 16, 17, 18, 19, 20, 21, 22, 23, 24, 25, 26, 27, 28, 29, 30, 31, 32, 33, 34, 35] [] [] (by kernel_rfl) (by kernel_rfl) (fun z => z.cell? ⟨w.heap.size, 1, none⟩ = some (.slice (some ⟨cb, off, none⟩) xm xd) ∧ z.cell? ⟨cb, off + b * 2, none⟩ = some (.int .u8 (ob : Int)) ∧ z.cell? ⟨kg, i, none⟩ = some (.string (T.extract 0 C)) ∧ z.cell? ⟨kg, b, none⟩ = some (.string T)) ⟨p1, cab, hkc, hkb⟩ ?_
            simp only [pick, List.filterMap_cons, List.filterMap_nil, List.getElem?_toArray, List.getElem?_cons_zero, List.getElem?_cons_succ]
            refine take_move (.tmp 13) (.int .u8 21) rfl rfl rfl ?_
            simp only [Act.put, List.setIfInBounds_toArray, List.set_cons_zero, List.set_cons_succ]
            refine take_one (.bool true) rfl (fun u hu => by go_simp) ?_
            simp only [Act.put, List.setIfInBounds_toArray, List.set_cons_zero, List.set_cons_succ]
            refine take_move (.tmp 164) (.bool true) rfl rfl rfl ?_
            simp only [Act.put, List.setIfInBounds_toArray, List.set_cons_zero, List.set_cons_succ]
            refine take_one (.pointer (some ⟨w.heap.size, 1, none⟩)) rfl (fun u _ => by go_simp) ?_
            simp only [Act.put, List.setIfInBounds_toArray, List.set_cons_zero, List.set_cons_succ]
            refine take_load 23 (.tmp 166) ⟨w.heap.size, 1, none⟩ (.slice (some ⟨cb, off, none⟩) xm xd) rfl rfl rfl (fun u hu => load_at Tryd.underlying23 Tryd.isAgg23 hu.1) ?_
            simp only [Act.put, List.setIfInBounds_toArray, List.set_cons_zero, List.set_cons_succ]
            refine take_move (.tmp 15) (.int .i64 (b : Int)) rfl rfl rfl ?_
            simp only [Act.put, List.setIfInBounds_toArray, List.set_cons_zero, List.set_cons_succ]
            refine take_one (.pointer (some ⟨cb, off + b * 2, none⟩)) rfl (fun u hu => by go_simp) ?_
            simp only [Act.put, List.setIfInBounds_toArray, List.set_cons_zero, List.set_cons_succ]
            refine take_one (.pointer (some ⟨cb, off + b * 2, none⟩)) rfl (fun u _ => by go_simp) ?_
            simp only [Act.put, List.setIfInBounds_toArray, List.set_cons_zero, List.set_cons_succ]
            refine take_load 5 (.tmp 170) ⟨cb, off + b * 2, none⟩ (.int .u8 (ob : Int)) rfl rfl rfl (fun u hu => load_at Tryd.underlying5 Tryd.isAgg5 hu.2.1) ?_
            simp only [Act.put, List.setIfInBounds_toArray, List.set_cons_zero, List.set_cons_succ]
            refine take_one (.bool true) rfl (fun u hu => by go_simp) ?_
            simp only [Act.put, List.setIfInBounds_toArray, List.set_cons_zero, List.set_cons_succ]
            refine take_one (.bool true) rfl (fun u hu => by go_simp) ?_
            simp only [Act.put, List.setIfInBounds_toArray, List.set_cons_zero, List.set_cons_succ]
            refine take_move (.tmp 173) (.bool true) rfl rfl rfl ?_
            simp only [Act.put, List.setIfInBounds_toArray, List.set_cons_zero, List.set_cons_succ]
            refine take_move (.tmp 5) (.slice (some ⟨kg, 0, none⟩) xm kc) rfl rfl rfl ?_
            simp only [Act.put, List.setIfInBounds_toArray, List.set_cons_zero, List.set_cons_succ]
            refine take_move (.tmp 12) (.int .i64 (i : Int)) rfl rfl rfl ?_
            simp only [Act.put, List.setIfInBounds_toArray, List.set_cons_zero, List.set_cons_succ]
            refine take_one (.pointer (some ⟨kg, i, none⟩)) rfl (fun u hu => by go_simp) ?_
            simp only [Act.put, List.setIfInBounds_toArray, List.set_cons_zero, List.set_cons_succ]
            refine take_load 9 (.tmp 177) ⟨kg, i, none⟩ (.string (T.extract 0 C)) rfl rfl rfl (fun u hu => load_at Tryd.underlying9 Tryd.isAgg9 hu.2.2.1) ?_
            simp only [Act.put, List.setIfInBounds_toArray, List.set_cons_zero, List.set_cons_succ]
            refine take_move (.tmp 5) (.slice (some ⟨kg, 0, none⟩) xm kc) rfl rfl rfl ?_
            simp only [Act.put, List.setIfInBounds_toArray, List.set_cons_zero, List.set_cons_succ]
            refine take_move (.tmp 15) (.int .i64 (b : Int)) rfl rfl rfl ?_
            simp only [Act.put, List.setIfInBounds_toArray, List.set_cons_zero, List.set_cons_succ]
            refine take_one (.pointer (some ⟨kg, b, none⟩)) rfl (fun u hu => by go_simp) ?_
            simp only [Act.put, List.setIfInBounds_toArray, List.set_cons_zero, List.set_cons_succ]
            refine take_load 9 (.tmp 181) ⟨kg, b, none⟩ (.string T) rfl rfl rfl (fun u hu => load_at Tryd.underlying9 Tryd.isAgg9 hu.2.2.2) ?_
            simp only [Act.put, List.setIfInBounds_toArray, List.set_cons_zero, List.set_cons_succ]
            refine take_move (.tmp 5) (.slice (some ⟨kg, 0, none⟩) xm kc) rfl rfl rfl ?_
            simp only [Act.put, List.setIfInBounds_toArray, List.set_cons_zero, List.set_cons_succ]
            refine take_move (.tmp 15) (.int .i64 (b : Int)) rfl rfl rfl ?_
            simp only [Act.put, List.setIfInBounds_toArray, List.set_cons_zero, List.set_cons_succ]
            refine take_one (.pointer (some ⟨kg, b, none⟩)) rfl (fun u hu => by go_simp) ?_
            simp only [Act.put, List.setIfInBounds_toArray, List.set_cons_zero, List.set_cons_succ]
            refine take_load 9 (.tmp 185) ⟨kg, b, none⟩ (.string T) rfl rfl rfl (fun u hu => load_at Tryd.underlying9 Tryd.isAgg9 hu.2.2.2) ?_
            simp only [Act.put, List.setIfInBounds_toArray, List.set_cons_zero, List.set_cons_succ]
            refine take_one (.int .i64 (T.size : Int)) rfl (fun u hu => by go_simp) ?_
            simp only [Act.put, List.setIfInBounds_toArray, List.set_cons_zero, List.set_cons_succ]
            refine take_move (.tmp 16) (.int .i64 1) rfl rfl rfl ?_
            simp only [Act.put, List.setIfInBounds_toArray, List.set_cons_zero, List.set_cons_succ]
            refine take_move (.tmp 5) (.slice (some ⟨kg, 0, none⟩) xm kc) rfl rfl rfl ?_
            simp only [Act.put, List.setIfInBounds_toArray, List.set_cons_zero, List.set_cons_succ]
            refine take_move (.tmp 15) (.int .i64 (b : Int)) rfl rfl rfl ?_
            simp only [Act.put, List.setIfInBounds_toArray, List.set_cons_zero, List.set_cons_succ]
            refine take_one (.pointer (some ⟨kg, b, none⟩)) rfl (fun u hu => by go_simp) ?_
            simp only [Act.put, List.setIfInBounds_toArray, List.set_cons_zero, List.set_cons_succ]
            refine take_load 9 (.tmp 191) ⟨kg, b, none⟩ (.string T) rfl rfl rfl (fun u hu => load_at Tryd.underlying9 Tryd.isAgg9 hu.2.2.2) ?_
            simp only [Act.put, List.setIfInBounds_toArray, List.set_cons_zero, List.set_cons_succ]
            refine take_one (.int .i64 (T.size : Int)) rfl (fun u hu => by go_simp) ?_
            simp only [Act.put, List.setIfInBounds_toArray, List.set_cons_zero, List.set_cons_succ]
            refine take_one (.int .i64 (M : Int)) rfl (fun u hu => by go_simp) ?_
            simp only [Act.put, List.setIfInBounds_toArray, List.set_cons_zero, List.set_cons_succ]
            refine take_one (.int .i64 (C : Int)) rfl (fun u hu => by go_simp) ?_
            simp only [Act.put, List.setIfInBounds_toArray, List.set_cons_zero, List.set_cons_succ]
            refine take_one (.string (T.extract 0 C)) rfl (fun u hu => run_sub_hi 9 (.tmp 182) (.tmp 195) rfl _ _ _ rfl rfl (HSL.out u)) ?_
            simp only [Act.put, List.setIfInBounds_toArray, List.set_cons_zero, List.set_cons_succ]
            refine take_one (.bool false) rfl (fun u hu => by go_simp) ?_
            simp only [Act.put, List.setIfInBounds_toArray, List.set_cons_zero, List.set_cons_succ]
            refine take_one (.bool false) rfl (fun u hu => by go_simp) ?_
            simp only [Act.put, List.setIfInBounds_toArray, List.set_cons_zero, List.set_cons_succ]
            refine take_done ?_
            refine mid_list ?_
            refine NoPanic.normal ?_
            obtain ⟨wd, hwd⟩ : ∃ wd, wd = wq.drew := ⟨_, rfl⟩
            have hbd : Below wq.heap.size wq wd := by rw [hwd]; exact (Below.refl _ _).drew
            rw [← hwd]
            clear hwd
            have Hbwd := Lib.hid (Hbwq.out.trans (hbd.mono Hbwq.out.size))
            have HOwd := Lib.hid (HOwq.out.new hbd)
            replace hkc : wd.cell? ⟨kg, i, none⟩ = _ := (hbd.cell (p := ⟨kg, i, none⟩) (cell_lt hkc)).trans hkc
            replace hkb : wd.cell? ⟨kg, b, none⟩ = _ := (hbd.cell (p := ⟨kg, b, none⟩) (cell_lt hkb)).trans hkb
            replace cab : wd.cell? ⟨cb, off + b * 2, none⟩ = _ := (hbd.cell (p := ⟨cb, off + b * 2, none⟩) (cell_lt cab)).trans cab
            replace p1 : wd.cell? ⟨w.heap.size, 1, none⟩ = _ := (hbd.cell (p := ⟨w.heap.size, 1, none⟩) (cell_lt p1)).trans p1
            clear hbd
            go_wp2_with fail
            go_quiet (fail)
            obtain ⟨we, hwe⟩ : ∃ we, we = wd.drewN nq := ⟨_, rfl⟩
            have hbd : Below wd.heap.size wd we := by rw [hwe]; exact drewN_below (Below.refl _ _) nq
            rw [← hwe]
            clear hwe
            have Hbwe := Lib.hid (Hbwd.out.trans (hbd.mono Hbwd.out.size))
            have HOwe := Lib.hid (HOwd.out.new hbd)
            replace hkc : we.cell? ⟨kg, i, none⟩ = _ := (hbd.cell (p := ⟨kg, i, none⟩) (cell_lt hkc)).trans hkc
            replace hkb : we.cell? ⟨kg, b, none⟩ = _ := (hbd.cell (p := ⟨kg, b, none⟩) (cell_lt hkb)).trans hkb
            replace cab : we.cell? ⟨cb, off + b * 2, none⟩ = _ := (hbd.cell (p := ⟨cb, off + b * 2, none⟩) (cell_lt cab)).trans cab
            replace p1 : we.cell? ⟨w.heap.size, 1, none⟩ = _ := (hbd.cell (p := ⟨w.heap.size, 1, none⟩) (cell_lt p1)).trans p1
            clear hbd
            go_wp2_with fail
            go_roundw
            case rel => exact ⟨i + 1, by omega, by go_num, by rw [HN.out]; exact HOwe.out, Hbwe.out, by have := HX.out.2; omega⟩
            case measure => simp [intOf]; omega
          have hno : Ver.opens o = false := by unfold Ver.opens; simp only [c19, c20, c22, decide_false, Bool.or_self]
          have do19 : ((o : Int) == 19) = false := beq_eq_false_iff_ne.2 (by omega)
          have do20 : ((o : Int) == 20) = false := beq_eq_false_iff_ne.2 (by omega)
          have do21 : ((o : Int) == 21) = false := beq_eq_false_iff_ne.2 (by omega)
          have do22 : ((o : Int) == 22) = false := beq_eq_false_iff_ne.2 (by omega)
          obtain rfl : ei = 0 := by rw [hei]; exact hB.no (by rw [← ho]; exact hno)
          replace hec : wr.cell? ⟨eg, i, none⟩ = some (.int .i64 0) := hec
          obtain ⟨oa, oc, rfl⟩ := hO.form
          obtain ⟨L, hL⟩ : ∃ L, L = (O i).reverse := ⟨_, rfl⟩
          have hLl : L.length = (O i).length := by rw [hL]; exact List.length_reverse
          rw [← hL] at hO ⊢
          have hN : (O (i + 1)).reverse = L := by rw [hL, hnx]; unfold Ver.nextO; rw [if_neg c20, if_neg c21, if_neg (by omega)]
          have HN := Lib.hid hN; clear hN hL
          obtain ⟨N, hNn⟩ : ∃ N, N = L.length := ⟨_, rfl⟩
          rw [← hNn] at hO ⊢
          have HNn := Lib.hid hNn; clear hNn
          have HO := Lib.hid hO; clear hO
          have Hb := Lib.hid hb; clear hb
          have HX := Lib.hid (And.intro hnx hln); clear hnx hln
          have HHO := Lib.hid ho; clear ho
          have HEI := Lib.hid hei; clear hei
          have HKI := Lib.hid hKi; clear hKi
          have HBB := Lib.hid hB; clear hB
          go_wp2_with fail
          go_quiet (fail)
          obtain ⟨wq, hwq⟩ : ∃ wq, wq = wr.drewN nq := ⟨_, rfl⟩
          have Hbwq := Lib.hid (show Below w4.heap.size w4 wq by rw [hwq]; exact drewN_below Hb.out nq)
          have HOwq := Lib.hid (show NOwn w4.heap.size _ _ wq by rw [hwq]; exact HO.out.new (drewN_below (Below.refl _ _) nq))
          have hbd : Below wr.heap.size wr wq := by rw [hwq]; exact drewN_below (Below.refl _ _) nq
          rw [← hwq]
          clear hwq
          go_wp2_with fail
          go_roundw
          case rel => exact ⟨i + 1, by omega, by go_num, by rw [HN.out]; exact HOwq.out, Hbwq.out, by have := HX.out.2; omega⟩
          case measure => simp [intOf]; omega
        · obtain rfl : i = xm := by omega
          have g1' : decide (i < i) = false := decide_eq_false (by omega)
          have g1i : ¬ (i : Int) < (i : Int) := by omega
          rw [← HMX.out, HON.out] at hO
          obtain ⟨oa, oc, rfl⟩ := hO.form
          have HS1 := Lib.hid h1; clear h1
          clear hO hb
          simp only [List.reverse_nil, List.length_nil]
          go_wp2_with fail
          refine (HCA.out _ HS1.out.k).mono ?_; rintro e wz ⟨rfl, bz⟩
          have HZ := Lib.hid (HS1.out.b.trans (bz.mono HS1.out.b.size)); clear bz
          go_wp2_with fail
          go_ret
          exact ⟨rfl, HZ.out⟩
set_option maxRecDepth 100000 in
theorem lifted (os : Os) (started : os.Started) (H : Type) (enc : TypeId × Value → H) :
    ReturnsInHanded {} Tryd.checked os 5 .any (fun w args => (Rows.verifyBlocksSpec.pre enc Tryd.prog Tryd.f5 [] false w args ∧ laidMetH Tryd.prog laidList w) ∧ sizedMet enc Tryd.prog Tryd.f5 (OpenSpec.ofChange Rows.verifyBlocksSpec) false w args)
      (Rows.verifyBlocksSpec.post enc Tryd.prog Tryd.f5 false true false false) := by
  refine returnsInHanded_of_change_sh (C := Tryd.checked) (X := fun w _ => laidMetH Tryd.prog laidList w) (fun _ _ _ hh h => h.of_heap hh) own started (by kernel_rfl) Tryd.func5
    (ChangeSpec.witness_shaped (enc := enc) (C := Tryd.checked) (os := os) (X := fun w _ => laidMetH Tryd.prog laidList w) false (World.laidAll Tryd.prog os laidList) #[.agg #[.slice none 0 0, .slice none 0 0], .int .u8 0] 8 (World.laidAll_os _ _ _) (World.shaped_of_ZipB (by kernel_rfl) (by kernel_rfl)) (by kernel_rfl) (by kernel_rfl) (by kernel_rfl) (door_met os _)) ?_
  intro W base args ds gs before hval0 hW _ hsz hL hsh _
  have hval : ∀ (j : Nat) t v, Tryd.f5.params[j]? = some t → args[j]? = some v → Value.okWide Tryd.prog W .any base t v := hval0
  have hW' := hW
  obtain ⟨p, q, hA0, hV, rfl, hfz, hnd⟩ := hW
  have hA : DataW.TrodAll enc Tryd.prog W 0 (fun _ => true) true Tryd.f5.params.toList args.toList ds p := hA0
  rw [Tryd.params5] at hA hval hsz
  obtain ⟨v0, vs0, d0, ds0, p0, q0, hargs, rfl, rfl, h0, r0⟩ := trodAll_cons hA
  obtain ⟨v1, vs1, d1, ds1, p1, q1, rfl, rfl, rfl, h1, r1⟩ := trodAll_cons r0
  obtain ⟨rfl, rfl, rfl⟩ := trodAll_nil r1
  obtain rfl : args = #[v0, v1] := Array.ext' hargs
  obtain ⟨rfl, rfl⟩ := trodVars_none hV
  have k0 := h0
  have lt0 : ∀ x ∈ p0, x.block < W.heap.size := by obtain ⟨m, hm⟩ := k0; exact DataW.trod_lt m _ _ _ hm
  obtain ⟨x0, tx0, cs0, rfl, hp0, hz0, hn0, hm0⟩ := open_prog Tryd.underlying25 rfl rfl Tryd.underlying22 Tryd.underlying9 (by kernel_rfl) (by kernel_rfl) Tryd.underlying23 Tryd.underlying48 rfl rfl Tryd.underlying5 (by kernel_rfl) (by kernel_rfl) (by kernel_rfl) (by kernel_rfl) (by kernel_rfl) (hval 0 25 v0 rfl rfl) h0 (fun n hn => by
    have := List.all_eq_true.1 hsz n (by
      simp only [List.cons_append, DataW.weightsEach]
      exact List.mem_append_left _ hn)
    simpa using this)
  obtain ⟨n1, rfl, rfl, rfl, w1⟩ := open_int Tryd.underlying5 (hval 1 5 v1 rfl rfl) h1
  have wf1 := w1
  obtain ⟨b1, rfl⟩ := byte_of w1
  clear hA0 hval0
  refine (walk x0 tx0 cs0 b1.toNat W (kn_of_laid hL hsh) hp0 hz0 hn0 hm0).mono fun e W' ⟨he, bel⟩ => ?_
  subst he
  exact ⟨_, rfl, _, _, _, [], _, [], hW', trodAll_mk1 (shut_bool Tryd.underlying4 _), (trodAll_cons_mk (Below.trod laidOut (by kernel_rfl) (of_decide_eq_true (by kernel_rfl)) k0 bel lt0) (trodAll_cons_mk (shut_int Tryd.underlying5 w1) trodAll_mk0)), rfl, bel.frame _, fun h => by cases h⟩

theorem over : Rows.VerifyBlocksSaid :=
  OpenClaim.holds_of_wide 5 Tryd.f5 rfl rfl rfl rfl rfl rfl rfl ⟨rfl, rfl, rfl, rfl, rfl⟩ rfl rfl rfl rfl rfl (by kernel_rfl) Tryd.func5 (by kernel_rfl)
    (of_decide_eq_true (by kernel_rfl)) (by unfold Func.isWrapper; first | (rw [if_pos (by decide +kernel)]; kernel_rfl) | (rw [if_neg (by decide +kernel)]; exact ⟨rfl, rfl⟩))
    (fun os started H enc _ => lifted os started H enc)

theorem proved : Rows.VerifyBlocksCardSaid :=
  Claim7.holds_tied_plain_at .later [] [.data, .data, .pinned] true (true, "50b2c3491813eace00d4f3d2c32a93119e2c541e682bd2132fd38ade77fbbf74") false
    over (fun _ h => by cases h) (by kernel_rfl) (fun _ h => by cases h) verifyBlocks_row_tie rfl ⟨rfl, rfl⟩ (by kernel_rfl) rfl
    (fun f fn hf hfn => by
      obtain rfl : f = 5 := Option.some.inj ((show Tryd.prog.funcNamed "maslin/maslinlaw13.VerifyBlocks" = some 5 by kernel_rfl).symm.trans hf) |>.symm
      obtain rfl : fn = Tryd.f5 := (Option.some.inj (Tryd.func5.symm.trans hfn)).symm
      exact ⟨by kernel_rfl, fun j t ht => by
        rw [Tryd.params5] at ht
        have hm : t ∈ [25, 5] := by simpa using Array.mem_of_getElem? ht
        have hall : ([25, 5].all fun u => !Tryd.prog.wantsStandIn u) = true := by kernel_rfl
        exact (show Tryd.prog.wantsStandIn t = false by simpa using List.all_eq_true.1 hall t hm)⟩)
    (by kernel_rfl)


end Go.Proofs.YtolldoclnfnceaaDoor.verifyBlocks
