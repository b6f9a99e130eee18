/-
  contents.encoded: the files' encoding.
-/
import Derived.Test.YticcipgdjpoimaaGreatFilRange
import Derived.Test.YticcipgdjpoimaaGreatFilSize
import Derived.Test.YticcipgdjpoimaaGreatOctAll
import Derived.Shelf.Strings.BuilderK
set_option linter.unusedVariables false
set_option maxRecDepth 100000
namespace Go.Proofs.YticcipgdjpoimaaGreat
open Go.RowKit
attribute [local go_sem] Oper.semAt_some

/-- the builder in block B holds these bytes, read or not -/
def HoldsF (B : Nat) (bs : List UInt8) (w : World) : Prop := Lib.IsBuilderF 155 5 B B (Lib.byteCells bs) w
theorem HoldsF.row {B : Nat} {bs : List UInt8} {w : World} (h : HoldsF B bs w) : ∃ p v, w.heap[B]? = some (.cells #[p, v] 155 (0, 0)) := by
  rcases h with h | h
  · obtain ⟨_, v, hb, _⟩ := h; exact ⟨_, v, hb⟩
  · obtain ⟨_, v, hb, _⟩ := h; exact ⟨_, v, hb⟩
theorem builderF_same {T e : TypeId} {B b : Nat} {p : Value} {bs : List Value} {w w' : World} (h : Lib.BuilderAtF T e B b p bs w) (hk : ∀ (k : Nat) (cs : Array Value) (T : TypeId) (fr : Nat × Nat), w.heap[k]? = some (.cells cs T fr) → w'.heap[k]? = some (.cells cs T fr)) : Lib.BuilderAtF T e B b p bs w' := by
  obtain ⟨h1, v, h2, h3, h4⟩ := h
  refine ⟨h1, v, hk _ _ _ _ h2, ?_, h4⟩
  obtain ⟨a, c⟩ := h3
  refine ⟨a, ?_⟩
  rcases c with c | ⟨g, cap, cur, fz, rfl, hb, hg, hr⟩
  · exact .inl c
  · exact .inr ⟨g, cap, cur, fz, rfl, hb, hk _ _ _ _ hg, hr⟩
theorem HoldsF.same {B : Nat} {bs : List UInt8} {w w' : World} (h : HoldsF B bs w) (hk : ∀ (k : Nat) (cs : Array Value) (T : TypeId) (fr : Nat × Nat), w.heap[k]? = some (.cells cs T fr) → w'.heap[k]? = some (.cells cs T fr)) : HoldsF B bs w' := by
  rcases h with h | h
  · exact .inl (builderF_same h hk)
  · exact .inr (builderF_same h hk)
theorem HoldsF.keep {B : Nat} {bs : List UInt8} {w w' : World} (h : HoldsF B bs w) (hb : Below w.heap.size w w') : HoldsF B bs w' :=
  h.same fun k cs T fr hk => by rw [hb.block k (row_lt hk)]; exact hk
theorem HoldsF.stays (C B : Nat) (bs : List UInt8) : Stays C (fun W => HoldsF B bs W) := fun W l o o' hl ho hc hj =>
  hj.same fun k cs T fr hk => by
    rw [World.putObj_heap_other (fun e => by subst e; rw [hk] at ho; cases ho; simp [Obj.isCells] at hc)]
    exact hk
theorem writeF (B : Nat) (bs : List UInt8) (s : ByteArray) (w : World) (h : HoldsF B bs w) (hlen : bs.length + s.size ≤ 140737488355328) (hB : B ≤ w.heap.size) :
    Calls Tryz.prog 129 #[.pointer (some ⟨B, 0, none⟩), .string s] w fun e w' => e = .returned (.tuple #[.int .i64 s.size, .nilIface]) ∧ HoldsF B (bs ++ s.data.toList) w' ∧ Below B w w' ∧ Lib.OthersKept 5 (some B) w w' := by
  refine (Any.Builder_WriteString_k Tryz.laysW Tryz.extraW B B (Lib.byteCells bs) s w h (by rw [Lib.byteCells_length]; exact hlen) hB).mono ?_
  rintro e w' ⟨he, h1, h2, h3⟩
  refine ⟨he, .inr ?_, h2, h3⟩
  rw [Lib.byteCells_append, ← Lib.strCells_eq]
  exact h1
theorem stringF (B : Nat) (bs : List UInt8) (w : World) (h : HoldsF B bs w) (hB : B ≤ w.heap.size) :
    Calls Tryz.prog 113 #[.pointer (some ⟨B, 0, none⟩)] w fun e w' => e = .returned (.string (ba bs)) ∧ Below B w w' ∧ Lib.OthersKept 5 (some B) w w' :=
  (Tryz.Builder_String_any_k B B bs w h hB).mono fun _ _ h => ⟨h.1, h.2.2⟩
theorem kept_new {e : TypeId} {b : Option Nat} {w w' : World} (h : Below w.heap.size w w') : Lib.OthersKept e b w w' := fun k o hk _ _ => by rw [h.block k (row_lt hk)]; exact hk

/-- the blocks that the builder may turn -/
def EncS (B C Bx : Nat) (k : Nat) : Prop := B ≤ k ∧ k < C ∧ k ≠ Bx
theorem keepC_of_kept {B C Bx bm : Nat} {W W' : World} (hb : Below B W W') (hk : Lib.OthersKept 5 (some B) W W') (hbx : W.heap[Bx]? = some (.cells #[.map (some bm)] 74 (0, 0))) (hne : Bx ≠ B) (hBC : B < C) : KeepC C (EncS B C Bx) W W' := by
  refine ⟨hb.os, hb.tape, hb.output, hb.size, fun k hkl hn => ?_⟩
  by_cases h1 : k < B
  · exact hb.block k h1
  by_cases h2 : k = Bx
  · subst h2
    rw [hbx]
    exact hk _ _ hbx (by simpa using hne) (fun c fz e => by cases e)
  · by_cases h3 : k < C
    · exact absurd (.inl ⟨by omega, h3, h2⟩) hn
    · by_cases h4 : ∃ (cs : Array Value) (T : TypeId) (fr : Nat × Nat), Ki T ∧ W.heap[k]? = some (.cells cs T fr)
      · obtain ⟨cs, T, fr, hT, hcs⟩ := h4
        rw [hcs]
        refine hk _ _ hcs (by simp; omega) (fun c fz e => ?_)
        cases e
        rcases hT with hT | hT <;> cases hT
      · refine absurd (.inr ⟨by omega, fun cs T fr hT hcs => h4 ⟨cs, T, fr, hT, hcs⟩⟩) hn

def encOwn (B C Bx bm : Nat) (r : Fil.Row) (i : Nat) (S : Nat → Prop) (W : World) : Prop :=
  S = EncS B C Bx ∧ HoldsF B (Oct.le 4 r.length ++ (r.take i).flatMap Fil.enc1) W ∧ C ≤ W.heap.size ∧ W.heap[Bx]? = some (.cells #[.map (some bm)] 74 (0, 0))
theorem encOwn.owns {B C Bx bm : Nat} {r : Fil.Row} (hm : bm < B) : OwnsB (encOwn B C Bx bm r) Bx bm where
  lt := fun i S W h k hk => by
    obtain ⟨rfl, _, h2, _⟩ := h
    exact Nat.lt_of_lt_of_le hk.2.1 h2
  new := fun i S W W' h hb => ⟨h.1, h.2.1.keep hb, Nat.le_trans h.2.2.1 hb.size, by rw [hb.block _ (row_lt h.2.2.2)]; exact h.2.2.2⟩
  off := fun i S W h => by
    obtain ⟨rfl, _⟩ := h
    exact ⟨fun e => e.2.2 rfl, fun e => by have := e.1; omega⟩

theorem enc_take (r : Fil.Row) {i : Nat} {x : Fil.Txt × Fil.Txt} (hx : r[i]? = some x) : (r.take (i + 1)).flatMap Fil.enc1 = (r.take i).flatMap Fil.enc1 ++ Fil.enc1 x := by
  rw [List.take_add_one, hx]; simp
theorem sum_take_le (r : Fil.Row) (i : Nat) : Fil.sum (r.take i) ≤ Fil.sum r := by
  have := congrArg Fil.sum (List.take_append_drop i r)
  simp only [Fil.sum, List.map_append, List.sum_append] at this ⊢
  omega

set_option maxHeartbeats 1000000 in
theorem encoded_any {b n : Nat} {r : Fil.Row} {w : World} (hm : ContAt b n r w) (hs : Fil.Sorted r) (hf : Fil.Fine r) (hsum : Fil.sum r ≤ 1099511627) :
    Calls Tryz.prog 134 #[.map (some b)] w fun e w' => e = .returned (.string (ba (Fil.enc r))) ∧ Below w.heap.size w w' := by
  have hlen : r.length ≤ 1099511627 := by have := Fil.len_used r; omega
  have hbl := hm.lt
  refine (callsIn_wide (n := 5)).1 ?_
  refine callsIn_of_wp_marks Tryz.func134 rfl trivial ?_ rfl
  simp only [Tryz.ntmps134, List.size_toArray, List.length_cons, List.length_nil, Nat.reduceAdd, Nat.reduceSub, Array.replicate_succ, Array.replicate_zero, List.push_toArray, List.append_toArray, List.nil_append, List.cons_append]
  have hm0 := hm.new ((Below.refl w.heap.size w).alloc (Nat.le_refl _) (.cells #[.pointer none, .slice none 0 0] 155))
  have hsz := fun u (hu : ContAt b n r u) => callsIn_wide (n := 4).2 (size_any b n r u hu hs (by omega))
  have Hm := Lib.hid hm; clear hm
  have Hsz := Lib.hid hsz; clear hsz
  have Hm0 := Lib.hid hm0; clear hm0
  have Hs := Lib.hid hs; clear hs
  have Hf := Lib.hid hf; clear hf
  gi_wp2_with fail
  refine ⟨trivial, (Hsz.out _ Hm0.out).mono ?_⟩; rintro e w1 ⟨rfl, h1⟩
  have hw1s := h1.size
  have hs0 : (w.alloc (.cells #[.pointer none, .slice none 0 0] 155)).heap.size = w.heap.size + 1 := by simp
  have hm1 := Hm0.out.new h1
  have hrow1 : w1.heap[w.heap.size]? = some (.cells #[.pointer none, .slice none 0 0] 155 (0, 0)) := by rw [h1.block _ (by omega)]; exact heap_alloc_new _ _
  have hu : Fil.used r ≤ 281474976710656 := by unfold Fil.used; omega
  have hg := callsIn_wide (n := 4).2 (grow_any w.heap.size (Fil.used r) w1 hrow1 (by omega) hu)
  have k1 : Below w.heap.size w w1 := ((Below.refl w.heap.size w).alloc (Nat.le_refl _) _).trans (h1.mono (by omega))
  have Hg := Lib.hid hg; clear hg
  clear hrow1 h1 hu
  gi_wp2_with fail
  refine ⟨trivial, Hg.out.mono ?_⟩; rintro e w2 ⟨rfl, hh2, hb2⟩
  have hm2 : ContAt b n r w2 := ownsMap_same Hm.out ((hb2.block b hbl).trans (k1.block b hbl))
  have k2 := k1.trans hb2
  have hlenD := World.ownsMap.len hm2 Tryz.underlying74 3
  rw [Fil.D_size] at hlenD
  have hc := fun u => callsIn_wide (n := 4).2 (count_any r.length (by omega) u)
  have Hc := Lib.hid hc; clear hc
  have Hh2 := Lib.hid hh2; clear hh2
  have Hm2 := Lib.hid hm2; clear hm2
  clear hm1 hb2
  gi_wp2_with fail
  refine ⟨trivial, (Hc.out _).mono ?_⟩; rintro e w3 ⟨rfl, h3⟩
  have hl4 : (Oct.le 4 r.length).length = 4 := Oct.le_length _ _
  have hF : HoldsF w.heap.size [] w3 := HoldsF.keep (Lib.IsBuilderF.of Hh2.out) h3
  have k3 := k2.trans (h3.mono k2.size)
  have hw := callsIn_wide (n := 4).2 (writeF w.heap.size [] (ba (Oct.le 4 r.length)) w3 hF (by rw [ba_size, hl4]; decide) k3.size)
  rw [ba_list, List.nil_append] at hw
  have hm3 := Hm2.out.new h3
  have Hw := Lib.hid hw; clear hw
  clear hlenD
  gi_wp2_with fail
  refine ⟨trivial, Hw.out.mono ?_⟩; rintro e w4 ⟨rfl, hF4, hb4, -⟩
  have hm4 : ContAt b n r w4 := ownsMap_same hm3 (hb4.block b hbl)
  have k4 := k3.trans hb4
  have hal := callsIn_wide (n := 4).2 (all_any (some b) w4)
  have Hal := Lib.hid hal; clear hal
  have hsz4 : w.heap.size + 1 ≤ w4.heap.size := by
    obtain ⟨p, v, hp⟩ := hF4.row
    exact row_lt hp
  have Hm4 := Lib.hid hm4; clear hm4
  have HF4 := Lib.hid hF4; clear hF4
  clear hm3 hF h3 Hw Hg Hc Hh2 Hm2 hb4 k3 k2 k1 hw1s Hm0 Hsz
  gi_wp2_with fail
  refine ⟨trivial, Hal.out.mono ?_⟩; rintro e w5 ⟨rfl, rfl⟩
  gi_wp2_with fail
  obtain ⟨w5, hw5⟩ : ∃ w5, w5 = w4.alloc (.cells #[.map (some b)] 74) := ⟨_, rfl⟩
  have hs5 : w5.heap.size = w4.heap.size + 1 := by rw [hw5]; simp
  have hb5 : Below w4.heap.size w4 w5 := by rw [hw5]; exact (Below.refl _ w4).alloc (Nat.le_refl _) _
  have hbx5 : w5.heap[w4.heap.size]? = some (.cells #[.map (some b)] 74 (0, 0)) := by rw [hw5]; exact heap_alloc_new _ _
  have hm5 : ContAt b n r w5 := Hm4.out.new hb5
  have hF5 := HF4.out.keep hb5
  have k5 := k4.trans (hb5.mono k4.size)
  rw [← hw5]
  have hown : encOwn w.heap.size w5.heap.size w4.heap.size b r 0 (EncS w.heap.size w5.heap.size w4.heap.size) w5 := ⟨rfl, by simpa using hF5, Nat.le_refl _, hbx5⟩
  have hne : w4.heap.size ≠ w.heap.size := by omega
  have hBC : w.heap.size < w5.heap.size := by omega
  have hcnt := fun (x : Fil.Txt) (hx : x.length < 4294967296) u => callsIn_wide (n := 2).2 (counted_any (ba x) (by rw [ba_size]; exact hx) u)
  simp only [ba_size, ba_list] at hcnt
  have Hcnt := Lib.hid hcnt; clear hcnt
  clear Hal hw5 Hm4 HF4 hb5 k4
  refine range_all (r := r) Hs.out Hf.out (by omega) (encOwn.owns hbl) hbx5 hm5 hown ?ownS rfl rfl (fun x => { tmps := #[Value.map (some b), undef, Value.string { data := #[] }, Value.pointer (some { block := w.heap.size, off := 0 }), Value.string (ba x.1), Value.string (ba x.2), Value.map (some b), Value.int IntKind.i64 (Fil.used r : Int), Value.tuple #[], Value.map (some b), Value.int IntKind.i64 (r.length : Int), Value.string (ba (Oct.le 4 r.length)), Value.tuple #[Value.int IntKind.i64 ((ba (Oct.le 4 r.length)).size : Int), Value.nilIface], Value.map (some b), Value.func (Fn.func 62) #[] #[Value.pointer (some { block := w4.heap.size, off := 0 })], Value.string (ba x.1), Value.string (ba x.2), undef, undef, undef, undef, undef, undef, undef], defers := [] }) ?hassign ?hbody ?hdone
  case ownS => exact fun i S W l o o' hl ho hc hj => ⟨hj.1, HoldsF.stays w5.heap.size _ _ W l o o' hl ho hc hj.2.1, by rw [World.putObj_size]; exact hj.2.2.1, Stays.row W l o o' hl ho hc hj.2.2.2⟩
  case hassign =>
    intro l x W K hK
    have HK := Lib.hid hK; clear hK
    gi_wp2
    exact HK.out
  case hbody =>
    rintro l i x S W hx ⟨rfl, hF, hCW, hbx⟩ hsW
    have hfx := Hf.out x (List.mem_of_getElem? hx)
    have hlb : (Oct.le 4 r.length ++ (r.take i).flatMap Fil.enc1).length ≤ 1099511700 := by
      rw [List.length_append, hl4, Fil.flat_length]
      have := sum_take_le r i
      omega
    have hl1 : ∀ t : Fil.Txt, (Oct.le 4 t.length ++ t).length = 4 + t.length := fun t => by rw [List.length_append, Oct.le_length]
    have hbytes : Oct.le 4 r.length ++ (r.take (i + 1)).flatMap Fil.enc1 = Oct.le 4 r.length ++ (r.take i).flatMap Fil.enc1 ++ (Oct.le 4 x.1.length ++ x.1) ++ (Oct.le 4 x.2.length ++ x.2) := by
      rw [enc_take r hx]; simp only [Fil.enc1, List.append_assoc]
    have HF := Lib.hid hF; clear hF
    have Hbx := Lib.hid hbx; clear hbx
    have Hby := Lib.hid hbytes; clear hbytes
    generalize Oct.le 4 r.length ++ (r.take i).flatMap Fil.enc1 = B0 at *
    have hlx1 := hl1 x.1
    have hlx2 := hl1 x.2
    have g1 := Hcnt.out x.1 (by omega)
    have g2 := Hcnt.out x.2 (by omega)
    generalize Oct.le 4 x.1.length ++ x.1 = Y1 at *
    generalize Oct.le 4 x.2.length ++ x.2 = Y2 at *
    have G1 := Lib.hid g1; clear g1
    have G2 := Lib.hid g2; clear g2
    clear hm5 hF5 k5 hown hbx5
    gi_wp2_with fail
    refine ⟨trivial, (CallsIn.inRound l (G1.out _)).mono ?_⟩; rintro e V1 ⟨rfl, q1⟩
    have hwr := callsIn_wide (n := 2).2 (writeF w.heap.size B0 (ba Y1) V1 (HF.out.keep q1) (by rw [ba_size]; omega) (by have := q1.size; omega))
    rw [ba_list] at hwr
    have Hwr := Lib.hid hwr; clear hwr
    gi_wp2_with fail
    refine ⟨trivial, (CallsIn.inRound l Hwr.out).mono ?_⟩; rintro e V2 ⟨rfl, hV2, q2, o2⟩
    have HV2 := Lib.hid hV2; clear hV2
    have qs2 := q2.size
    have qs1 := q1.size
    gi_wp2_with fail
    refine ⟨trivial, (CallsIn.inRound l (G2.out _)).mono ?_⟩; rintro e V3 ⟨rfl, q3⟩
    have qs3 := q3.size
    have hwr2 := callsIn_wide (n := 2).2 (writeF w.heap.size (B0 ++ Y1) (ba Y2) V3 (HV2.out.keep q3) (by rw [ba_size, List.length_append]; omega) (by omega))
    rw [ba_list] at hwr2
    have Hwr2 := Lib.hid hwr2; clear hwr2
    gi_wp2_with fail
    refine ⟨trivial, (CallsIn.inRound l Hwr2.out).mono ?_⟩; rintro e V4 ⟨rfl, hV4, q4, o4⟩
    have HV4 := Lib.hid hV4; clear hV4
    have qb : Below w.heap.size W V4 := ((q1.mono (by omega)).trans q2).trans ((q3.mono (by omega)).trans q4)
    have qk : Lib.OthersKept 5 (some w.heap.size) W V4 := ((kept_new q1).trans o2).trans ((kept_new q3).trans o4)
    have qc := keepC_of_kept qb qk Hbx.out hne hBC
    have Qb := Lib.hid qb; clear qb
    have Qk := Lib.hid qk; clear qk
    have Qc := Lib.hid qc; clear qc
    clear q1 q2 q3 q4 o2 o4 Hwr Hwr2 HV2
    gi_wp2_with fail
    refine ⟨⟨Qb.out.size, fun k o hk ho => ?_⟩, Qc.out, _, ⟨rfl, ?_, ?_, ?_⟩, fun j e => .inl e⟩
    · refine Qk.out k o hk (fun e => ?_) (fun c fz e => by subst e; simp [Obj.isCells] at ho)
      cases e
      obtain ⟨p, v, hp⟩ := HF.out.row
      rw [hp] at hk; cases hk
      simp [Obj.isCells] at ho
    · rw [Hby.out]; exact HV4.out
    · have := Qb.out.size; omega
    · exact Qc.out.cells (.inr rfl) Hbx.out (fun e => e.2.2 rfl)
  case hdone =>
    rintro D W hD ⟨S', ⟨rfl, hF, hCW, hbx⟩, hS⟩ ht hK2
    rw [List.take_length] at hF
    obtain ⟨pw, vw, hrw⟩ := hF.row
    have hst := callsIn_wide (n := 4).2 (stringF w.heap.size _ W hF (by omega))
    have htb : Below w.heap.size w W := k5.trans (ht.below (by omega) (fun k hk e => e.1))
    have Hst := Lib.hid hst; clear hst
    have Htb := Lib.hid htb; clear htb
    have HK2 := Lib.hid hK2; clear hK2
    clear hF ht hS hbx hm5 hF5 k5 hown hbx5
    gi_wp2_with fail
    refine ⟨trivial, Hst.out.mono ?_⟩; rintro e W6 ⟨rfl, h6, o6⟩
    have hK6 : W6.heap[D]? = some (.deferred (some [])) := by
      refine o6 D _ HK2.out (fun e => ?_) (fun c fz e => by cases e)
      cases e
      rw [HK2.out] at hrw; cases hrw
    have HK6 := Lib.hid hK6; clear hK6
    have H6 := Lib.hid h6; clear h6
    gi_wp2_with fail
    refine ⟨by simp, .inl ⟨_, _, rfl, run_takeDeferred HK6.out, ?_⟩⟩
    have h7 := Htb.out.trans H6.out
    have hD6 := H6.out.size
    exact ⟨_, results_tmp rfl _ _ _, rfl, h7.os, h7.tape, h7.output, by rw [World.putObj_size]; exact h7.size, fun k hk => (World.putObj_heap_other (by omega)).trans (h7.block k hk)⟩
end Go.Proofs.YticcipgdjpoimaaGreat
