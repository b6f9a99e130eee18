/-
  What decoded returns.
-/
import Derived.Test.YticcipgdjpoimaaGreatFilDecP
set_option linter.unusedVariables false
set_option maxRecDepth 100000
namespace Go.Proofs.YticcipgdjpoimaaGreat
open Go.RowKit

def Chb.cells (x : Chb) : List Value := [.string x.n, .string x.d, .bool x.g]
/-- a row of changes of the call's own -/
def COwn (B : Nat) (v : Value) (l : List Chb) (w : World) : Prop := w.ownsRow B 58 3 v l.length (l.flatMap Chb.cells)
theorem cells_at : ∀ (l : List Chb) (j : Nat) (x : Chb), l[j]? = some x → ∀ i u, x.cells[i]? = some u → (l.flatMap Chb.cells)[j * 3 + i]? = some u
  | y :: l, 0, x, h, i, u, hu => by
    have : y = x := by simpa using h
    subst this
    have hi : i < y.cells.length := (List.getElem?_eq_some_iff.1 hu).1
    rw [List.flatMap_cons, List.getElem?_append_left (by omega)]
    simpa using hu
  | y :: l, j + 1, x, h, i, u, hu => by
    have h' : l[j]? = some x := by simpa using h
    have hl : y.cells.length = 3 := rfl
    rw [List.flatMap_cons, List.getElem?_append_right (by omega), hl, show (j + 1) * 3 + i - 3 = j * 3 + i by omega]
    exact cells_at l j x h' i u hu
theorem COwn.chgs {B : Nat} {v : Value} {l : List Chb} {w : World} (h : COwn B v l w) : ∃ a cap, v = .slice a l.length cap ∧ Chgs a l.length l w ∧ ∀ b off, a = some ⟨b, off, none⟩ → B ≤ b ∧ b < w.heap.size := by
  have hc := fun g hg => World.ownsRow.cells (g := g) h hg
  obtain ⟨h1, h2⟩ := h
  rcases h2 with ⟨rfl, h0⟩ | ⟨g, cap, cur, rfl, hb, hg, hle, hcm, hcs, hct⟩
  · have : l = [] := List.eq_nil_of_length_eq_zero h0
    subst this
    exact ⟨none, 0, rfl, Chgs.nil _ _, fun b off e => by cases e⟩
  · refine ⟨some ⟨g, 0, none⟩, cap, rfl, ⟨rfl, fun j hj => ⟨g, 0, rfl, ?_⟩⟩, fun b off e => by cases e; exact ⟨hb, row_lt hg⟩⟩
    have hx : l[j]? = some (l.getD j default) := by rw [List.getD_eq_getElem?_getD, List.getElem?_eq_getElem hj]; rfl
    have hcell : ∀ i u, (l.getD j default).cells[i]? = some u → w.cell? ⟨g, 0 + j * 3 + i, none⟩ = some u := fun i u hu => by
      have := hc g rfl (j * 3 + i) u (cells_at l j _ hx i u hu)
      have ea : (⟨g, 0, none⟩ : Addr).add (j * 3 + i) = ⟨g, 0 + j * 3 + i, none⟩ := by unfold Addr.add; split <;> simp_all
      rw [ea] at this
      exact this
    exact ⟨hcell 0 _ rfl, hcell 1 _ rfl, hcell 2 _ rfl⟩
theorem chg_info : (Tryz.prog.info? 58).map (fun i => (i.zero, i.size, i.bytes)) = some (some (.agg #[.string ⟨#[]⟩, .string ⟨#[]⟩, .bool false]), 3, 40) := by kernel_rfl

theorem less_before : ∀ (a b : List UInt8), Op.bytesLess a b = bytesBefore a b
  | [], [] => rfl
  | _ :: _, [] => rfl
  | [], _ :: _ => rfl
  | a :: x, b :: y => by simp only [Op.bytesLess, bytesBefore, less_before x y]
theorem cell_row_new (w : World) (cs : List Value) (T : TypeId) (j : Nat) (u : Value) (h : cs[j]? = some u) : (w.alloc (.cells cs.toArray T)).cell? ((⟨w.heap.size, 0, none⟩ : Addr).add j) = some u := by
  have ea : (⟨w.heap.size, 0, none⟩ : Addr).add j = ⟨w.heap.size, j, none⟩ := by unfold Addr.add; split <;> simp_all
  rw [ea, cell_of_row _ _ j _ _ _ (heap_alloc_new _ _)]
  simpa using h
/-- what is decoded -/
def DecR (o : Option Fil.Row) (w : World) (e : Ending) (w' : World) : Prop := Below w.heap.size w w' ∧ match o with
  | none => e = .returned (.tuple #[.map none, .int .i64 50])
  | some r => ∃ b n, w.heap.size ≤ b ∧ n ≤ r.length ∧ e = .returned (.tuple #[.map (some b), .int .i64 0]) ∧ ContAt b n r w'
def chb0 (x : Fil.Txt × Fil.Txt) : Chb := ⟨ba x.1, ba x.2, false⟩

set_option maxHeartbeats 1000000 in
theorem decoded_any (s : ByteArray) (hs : s.size ≤ 1099511627) (w : World) : Calls Tryz.prog 119 #[.string s] w (DecR (Fil.dec s.data.toList) w) := by
  obtain ⟨i0, hi, hz0, hz1, hz2⟩ := info_parts chg_info
  have hL := ba_len s
  unfold Fil.dec
  rw [hL]
  by_cases h4 : s.size < 4
  · rw [if_pos h4]
    have x0 : decide ((s.size : Int) < 4) = true := decide_eq_true (by omega)
    go_enter Tryz.func119, Tryz.ntmps119
    go_wp2
    go_ret2
    exact ⟨Below.refl _ _, rfl⟩
  rw [if_neg h4]
  have x0 : decide ((s.size : Int) < 4) = false := decide_eq_false (by omega)
  have g1 := fun u => octGet_any (s.extract 0 4) u
  have e1 : (s.extract 0 4).data.toList = s.data.toList.take 4 := by
    rw [ByteArray.data_extract, Array.toList_extract, List.extract_eq_take_drop]; simp
  have l1 : (s.data.toList.take 4).length = 4 := by rw [List.length_take, hL]; omega
  rw [e1, show Oct.get (s.data.toList.take 4) = (Oct.un (s.data.toList.take 4), 0) from by unfold Oct.get; rw [if_pos (by omega)]] at g1
  have b1 := Oct.un_lt (s.data.toList.take 4)
  rw [l1] at b1
  have b1' : Oct.un (s.data.toList.take 4) < 4294967296 := b1
  have hr : s.extract 4 s.size = ba (s.data.toList.drop 4) := by
    rw [← ba_of (s.extract 4 s.size), ByteArray.data_extract, Array.toList_extract, List.extract_eq_take_drop, List.take_of_length_le (by rw [List.length_drop, hL]; exact Nat.le_refl _)]
  have hrs : (s.data.toList.drop 4).length = s.size - 4 := by rw [List.length_drop, hL]
  clear e1 l1 b1
  generalize Oct.un (s.data.toList.take 4) = n at *
  generalize s.data.toList.drop 4 = s0 at *
  have x4 : (4 : Int) ≤ (s.size : Int) := by omega
  have G1 := Lib.hid g1; clear g1
  have Hr := Lib.hid hr; clear hr
  go_enter Tryz.func119, Tryz.ntmps119
  go_wp2_with fail
  refine (G1.out _).mono ?_; rintro e w1 ⟨rfl, rfl⟩
  go_wp2_with fail
  rw [Hr.out]
  have hF : ∃ X, X = Fil.decG n [] s0 := ⟨_, rfl⟩
  obtain ⟨X, hX⟩ := hF
  have HX0 := Lib.hid hX; clear hX
  go_loopw [6, 7, 8, 27] (fun s6 s7 s8 i wr => ∃ (k : Nat) (rest last : Fil.Txt) (acc : Fil.Row), s6 = .string (ba rest) ∧ s8 = .string (ba last) ∧ i = .int .u64 (k : Int) ∧ k ≤ n ∧ rest.length + 8 * acc.length ≤ s.size ∧ acc.length = k ∧ Below w.heap.size w wr ∧ COwn w.heap.size s7 (acc.map chb0) wr ∧
    X = (Fil.decG (n - k) last rest).map (fun x => (acc ++ x.1, x.2))) (fun _ _ _ i _ => n - (intOf i).toNat)
  case atStart =>
    refine ⟨0, s0, [], [], rfl, rfl, rfl, by omega, by simp; omega, rfl, Below.refl _ _, World.ownsRow_nil _ _ _ _, ?_⟩
    rw [HX0.out]; simp
  case round =>
    obtain ⟨k, rest, last, acc, rfl, rfl, rfl, hk, hle, hak, hb, hown, hrel⟩ := hrel
    by_cases hlt : k < n
    · have hx28 : decide ((k : Int) < (n : Int)) = true := decide_eq_true (by omega)
      have hc1 := fun u => cut_any (ba rest) (by rw [ba_size]; omega) u
      rw [ba_list] at hc1
      rw [show n - k = (n - (k + 1)) + 1 by omega, Fil.decG] at hrel
      cases hq1 : Fil.cut rest with
      | none =>
        rw [hq1] at hc1 hrel
        have HX := Lib.hid hrel; clear hrel
        have Hc1 := Lib.hid hc1; clear hc1
        have Hq1 := Lib.hid hq1; clear hq1
        have Hown := Lib.hid hown; clear hown
        go_wp2_with fail
        refine (Hc1.out _).mono ?_; rintro e w2 ⟨rfl, h2⟩
        simp only [cutR]
        go_wp2_with fail
        go_ret2
        refine ⟨hb.trans (h2.mono hb.size), ?_⟩
        rw [← HX0.out, HX.out]; rfl
      | some y =>
        obtain ⟨nm, s1⟩ := y
        rw [hq1] at hc1 hrel
        simp only [] at hrel
        obtain ⟨e1, hl1⟩ := Fil.cut_is hq1
        have hs1 : rest.length = 4 + nm.length + s1.length := by
          have := congrArg List.length e1
          simp only [List.length_append, Oct.le_length] at this
          exact this
        have hc2 := fun u => cut_any (ba s1) (by rw [ba_size]; omega) u
        rw [ba_list] at hc2
        clear e1
        cases hq2 : Fil.cut s1 with
        | none =>
          rw [hq2] at hc2 hrel
          have HX := Lib.hid hrel; clear hrel
          have Hc1 := Lib.hid hc1; clear hc1
          have Hc2 := Lib.hid hc2; clear hc2
          have Hq1 := Lib.hid hq1; clear hq1
          have Hq2 := Lib.hid hq2; clear hq2
          have Hown := Lib.hid hown; clear hown
          go_wp2_with fail
          refine (Hc1.out _).mono ?_; rintro e w2 ⟨rfl, h2⟩
          simp only [cutR]
          go_wp2_with fail
          refine (Hc2.out _).mono ?_; rintro e w3 ⟨rfl, h3⟩
          simp only [cutR]
          go_wp2_with fail
          go_ret2
          refine ⟨hb.trans ((h2.trans (h3.mono h2.size)).mono hb.size), ?_⟩
          rw [← HX0.out, HX.out]; rfl
        | some y =>
          obtain ⟨d, s2⟩ := y
          rw [hq2] at hc2 hrel
          simp only [] at hrel
          obtain ⟨e2, hl2⟩ := Fil.cut_is hq2
          have hs2 : s1.length = 4 + d.length + s2.length := by
            have := congrArg List.length e2
            simp only [List.length_append, Oct.le_length] at this
            exact this
          clear e2
          have hiv := fun u => invalid_any (ba nm) (ba d) false u
          have Hc1 := Lib.hid hc1; clear hc1
          have Hc2 := Lib.hid hc2; clear hc2
          have Hq1 := Lib.hid hq1; clear hq1
          have Hq2 := Lib.hid hq2; clear hq2
          have Hown := Lib.hid hown; clear hown
          have Hiv := Lib.hid hiv; clear hiv
          have HX := Lib.hid hrel; clear hrel
          go_wp2_with fail
          refine (Hc1.out _).mono ?_; rintro e w2 ⟨rfl, h2⟩
          simp only [cutR]
          go_wp2_with fail
          refine (Hc2.out _).mono ?_; rintro e w3 ⟨rfl, h3⟩
          simp only [cutR]
          have hb3 := hb.trans ((h2.trans (h3.mono h2.size)).mono hb.size)
          have Hb3 := Lib.hid hb3; clear hb3
          go_wp2_with fail
          refine (Hiv.out _).mono ?_; rintro e w4 ⟨rfl, h4⟩
          have hrow4 : w4.heap[w3.heap.size]? = some (.cells #[.string (ba nm), .string (ba d), .bool false] 58 (0, 0)) := by
            rw [h4.block _ (by simp)]; exact heap_alloc_new _ _
          have hb4 : Below w3.heap.size w3 w4 := ((Below.refl _ w3).alloc (Nat.le_refl _) _).trans (h4.mono (by simp))
          have d0 : w4.cell? ⟨w3.heap.size, 0, none⟩ = some (.string (ba nm)) := by rw [cell_of_row _ _ 0 _ _ _ hrow4]; rfl
          have d1 : w4.cell? ⟨w3.heap.size, 1, none⟩ = some (.string (ba d)) := by rw [cell_of_row _ _ 1 _ _ _ hrow4]; rfl
          have d2 : w4.cell? ⟨w3.heap.size, 2, none⟩ = some (.bool false) := by rw [cell_of_row _ _ 2 _ _ _ hrow4]; rfl
          have hbr : Below wr.heap.size wr w4 := (h2.trans (h3.mono h2.size)).trans (hb4.mono (Nat.le_trans h2.size h3.size))
          have hbw : Below w.heap.size w w4 := Hb3.out.trans (hb4.mono Hb3.out.size)
          have Hbw := Lib.hid hbw; clear hbw
          clear h4 hrow4
          cases hcb : chgB (ba nm) (ba d) false with
          | true =>
            have hok : ¬ (Fil.okB nm d = true ∧ bytesBefore last nm = true) := fun e => by
              have := e.1; unfold Fil.okB at this; rw [hcb] at this; cases this
            have hX2 := HX.out
            rw [if_neg hok] at hX2
            have HX2 := Lib.hid hX2; clear hX2
            clear hok
            go_wp2_with fail
            go_ret2
            refine ⟨Hbw.out, ?_⟩
            rw [← HX0.out, HX2.out]; rfl
          | false =>
            have hokB : Fil.okB nm d = true := by unfold Fil.okB; rw [hcb]; rfl
            have heq : ((ba nm).toList == (ba last).toList) = (nm == last) := by rw [Lib.toList_data, Lib.toList_data, ba_list, ba_list]
            have hls : Op.bytesLess (ba nm).toList (ba last).toList = bytesBefore nm last := by rw [Lib.toList_data, Lib.toList_data, ba_list, ba_list, less_before]
            by_cases hlb : bytesBefore last nm = true
            · have hX2 := HX.out
              rw [if_pos ⟨hokB, hlb⟩] at hX2
              have HX2 := Lib.hid hX2; clear hX2
              rw [Fil.before_asymm hlb] at hls
              have hne : (nm == last) = false := beq_eq_false_iff_ne.2 (fun e => by rw [e, WideAt.bytes_irrefl] at hlb; cases hlb)
              rw [hne] at heq
              have hown4 : w4.ownsRow w.heap.size 58 3 u7 (acc.map chb0).length ((acc.map chb0).flatMap Chb.cells) := ownsRow_new Hown.out hbr
              have hcl : (acc.map chb0).length = k := by rw [List.length_map, hak]
              clear hlb hokB hcb hne
              go_wp2_with (at_builtin; go_loud (refine wpList_append_own_at _ rfl _ _ 43 rfl w.heap.size 58 i0 (.agg #[.string ⟨#[]⟩, .string ⟨#[]⟩, .bool false]) 3 40 Tryz.underlying43 hi hz0 hz1 hz2 rfl (by decide) _ _ _ rfl (hown4.alloc _) ⟨w4.heap.size, 0, none⟩ 1 1 [.string (ba nm), .string (ba d), .bool false] rfl rfl (cell_row_new w4 [.string (ba nm), .string (ba d), .bool false] 58) ?c2 ?c3 ?c4 ?c5 ?_))
              case c2 => intro z hz; simp at hz; rcases hz with rfl | rfl | rfl <;> rfl
              case c3 => unfold maxLen; omega
              case c4 => omega
              case c5 => have := Hbw.out.size; simp; omega
              intro v' w5 hown5 hgrow _ hvb
              have hb4w := Hbw.out
              have hs4 := hb4w.size
              have hgs := hgrow.size
              have hsA : (w4.alloc (.cells #[.string (ba nm), .string (ba d), .bool false] 58)).heap.size = w4.heap.size + 1 := by simp
              have hb5 : Below w.heap.size w w5 := (hb4w.alloc hs4 _).grown hgrow (by omega) (fun b' h => (World.ownsRow.lt hown4 b' h).1)
              have hown6 : COwn w.heap.size v' ((acc ++ [(nm, d)]).map chb0) w5 := by
                have e1 : ((acc ++ [(nm, d)]).map chb0).length = k + 1 := by rw [List.length_map, List.length_append, hak]; rfl
                have e2 : ((acc ++ [(nm, d)]).map chb0).flatMap Chb.cells = (acc.map chb0).flatMap Chb.cells ++ [.string (ba nm), .string (ba d), .bool false] := by
                  rw [List.map_append, List.flatMap_append]; rfl
                unfold COwn
                rw [e1, e2]
                exact hown5
              have Hb5 := Lib.hid hb5; clear hb5
              have Hown6 := Lib.hid hown6; clear hown6
              clear hown5 hgrow hvb hown4 hsA hgs hbr
              go_wp2_with fail
              go_roundw
              case rel =>
                refine ⟨k + 1, s2, nm, acc ++ [(nm, d)], rfl, rfl, by go_num, by omega, by rw [List.length_append]; simp; omega, by rw [List.length_append, hak]; rfl, Hb5.out, Hown6.out, ?_⟩
                · rw [HX2.out, Option.map_map]
                  congr 1
                  funext x
                  simp
              case measure => simp [intOf]; omega
            · have hX2 := HX.out
              rw [if_neg (fun e => hlb e.2)] at hX2
              have HX2 := Lib.hid hX2; clear hX2
              by_cases hnl : nm = last
              · rw [(show bytesBefore nm last = false by rw [hnl, WideAt.bytes_irrefl])] at hls
                rw [(show (nm == last) = true by rw [hnl, beq_self_eq_true])] at heq
                clear hlb hokB hcb hnl
                go_wp2_with fail
                go_ret2
                refine ⟨Hbw.out, ?_⟩
                rw [← HX0.out, HX2.out]; rfl
              · have hbn : bytesBefore nm last = true := by
                  rcases WideAt.bytes_total nm last hnl with h | h
                  · exact h
                  · exact absurd h hlb
                rw [hbn] at hls
                clear hlb hokB hcb heq
                go_wp2_with fail
                go_ret2
                refine ⟨Hbw.out, ?_⟩
                rw [← HX0.out, HX2.out]; rfl
    · have hkn : k = n := by omega
      have hx28 : decide ((k : Int) < (n : Int)) = false := decide_eq_false (by omega)
      rw [hkn, Nat.sub_self, Fil.decG] at hrel
      simp only [Option.map_some, List.append_nil] at hrel
      by_cases hre : rest = []
      · subst hre
        have HX := Lib.hid hrel; clear hrel
        obtain ⟨a7, c7, rfl, hch, hbl⟩ := hown.chgs
        have Hch := Lib.hid hch; clear hch
        have Hbl := Lib.hid hbl; clear hbl
        clear hown
        have hdG : Fil.decG n [] s0 = some (acc, []) := by rw [← HX0.out, HX.out]
        obtain ⟨gs, gf, _, _, gl⟩ := Fil.decG_good _ _ _ _ _ hdG
        have hok : ∀ x ∈ acc.map chb0, x.Ok := fun x hx => by
          obtain ⟨y, hy, rfl⟩ := List.mem_map.1 hx
          have := gf y hy
          exact ⟨by show (ba y.1).size ≤ _; rw [ba_size]; omega, by show (ba y.2).size ≤ _; rw [ba_size]; omega⟩
        have hput : Fil.puts [] (chs (acc.map chb0)) = acc := by
          have h1 : chs (acc.map chb0) = acc.map fun x => ⟨x.1, x.2, false⟩ := by
            unfold chs; rw [List.map_map]; refine List.map_congr_left fun x _ => ?_; show (chb0 x).c = _; simp [chb0, Chb.c, ba_list]
          rw [h1]
          exact Fil.puts_sorted acc [] gs
        have hlm : (acc.map chb0).length = acc.length := List.length_map ..
        have hbA : Below wr.heap.size wr (wr.alloc (.map #[] 0)) := (Below.refl _ wr).alloc (Nat.le_refl _) _
        have hmA : ContAt wr.heap.size 0 [] (wr.alloc (.map #[] 0)) := World.ownsMap_made (H := Unit) wr Tryz.prog 9 fileElem
        have hap := apply_any wr.heap.size 0 [] _ hmA a7 (acc.map chb0).length c7 (acc.map chb0) (Hch.out.keep hbA) hok (by omega) (by omega)
        rw [hput, Nat.zero_add, hlm] at hap
        rw [hlm] at Hch
        rw [hlm]
        have hsz := hb.size
        have hdF : Fil.decF (Fil.decG n [] s0) = some acc := by rw [hdG]; rfl
        have HdF := Lib.hid hdF; clear hdF
        have Hap := Lib.hid hap; clear hap
        have hmm := @run_makeMap Tryz.prog
        have hb0 : ba ([] : List UInt8) = ⟨#[]⟩ := rfl
        rw [hb0]
        have hlt2 : w.heap.size ≤ wr.heap.size := hsz
        clear hok hput hmA gs gf gl hdG Hch hlm hak hle hrs Hbl
        obtain ⟨m, hm⟩ : ∃ m, m = acc.length := ⟨_, rfl⟩
        rw [← hm] at Hap ⊢
        have Hml := Lib.hid hm; clear hm
        go_wp2_with fail
        refine Hap.out.mono ?_; rintro e w2 ⟨rfl, ht2, hm2⟩
        have hw2 : Below w.heap.size w w2 := (hb.trans (hbA.mono hsz)).trans (ht2.below (by simp; omega) (fun k hk e => by omega))
        have Hw2 := Lib.hid hw2; clear hw2
        have Hm2 := Lib.hid hm2; clear hm2
        clear ht2 hbA hmm
        go_wp2_with fail
        go_ret2
        refine ⟨Hw2.out, ?_⟩
        rw [HdF.out]
        exact ⟨wr.heap.size, m, hsz, Nat.le_of_eq Hml.out, rfl, Hm2.out⟩
      · have hne := ba_empty (ba rest) (by rw [ba_list]; exact hre)
        have hXX : Fil.decF X = none := by
          rw [hrel]
          cases rest with
          | nil => exact absurd rfl hre
          | cons x r => rfl
        have HX := Lib.hid hXX; clear hXX hrel
        have Hown := Lib.hid hown; clear hown
        clear hre
        go_wp2_with fail
        go_ret2
        refine ⟨hb, ?_⟩
        rw [← HX0.out, HX.out]; rfl
end Go.Proofs.YticcipgdjpoimaaGreat
