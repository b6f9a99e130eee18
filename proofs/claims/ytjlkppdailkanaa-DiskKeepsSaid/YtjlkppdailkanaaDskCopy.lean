/-
  Copy: an equal disk, with nothing shared.
-/
import Derived.Test.YtjlkppdailkanaaDskCrash
import Derived.Shelf.SlMaps.Clone
set_option linter.unusedVariables false
namespace Go.Proofs.Ytjlkppdailkanaa
open Go.RowKit

theorem mapclone_sec (b : Nat) (es : Array MapEntry) (clock : Nat) (w : World) (hb : w.heap[b]? = some (.map es clock)) :
    Calls Try.prog 28 #[.map (some b)] w fun e w' => e = .returned (.map (some w.heap.size)) ∧ w' = w.alloc (.map es clock) := by
  have hq := fun w => run_eql_map_nil_sl (P := Try.prog) w 52 _ _ (some b) Try.underlying52
  go_enter Try.func28, Try.ntmps28
  go_wp2
  rw [run_callFunc_extern Try.func42 (by kernel_rfl) (by kernel_rfl) (by kernel_rfl) (e := Extern.MapsClone.clone) (by kernel_rfl), run_maps_clone_sl w 52 hb]
  simp only [Result.andThen]
  rw [Oper.upon_value]
  go_wp2
  rw [run_typeAssert_map_sl _ 52 20 _ _ _ Try.underlying52]
  simp only [Result.andThen]
  rw [Oper.upon_value]
  go_wp2
  go_ret
  exact ⟨rfl, rfl⟩
theorem mapclone_int (b : Nat) (es : Array MapEntry) (clock : Nat) (w : World) (hb : w.heap[b]? = some (.map es clock)) :
    Calls Try.prog 30 #[.map (some b)] w fun e w' => e = .returned (.map (some w.heap.size)) ∧ w' = w.alloc (.map es clock) := by
  have hq := fun w => run_eql_map_nil_sl (P := Try.prog) w 53 _ _ (some b) Try.underlying53
  go_enter Try.func30, Try.ntmps30
  go_wp2
  rw [run_callFunc_extern Try.func42 (by kernel_rfl) (by kernel_rfl) (by kernel_rfl) (e := Extern.MapsClone.clone) (by kernel_rfl), run_maps_clone_sl w 53 hb]
  simp only [Result.andThen]
  rw [Oper.upon_value]
  go_wp2
  rw [run_typeAssert_map_sl _ 53 20 _ _ _ Try.underlying53]
  simp only [Result.andThen]
  rw [Oper.upon_value]
  go_wp2
  go_ret
  exact ⟨rfl, rfl⟩
theorem owns_clone {R : Value → Option (DataW Unit × List MemPlace)} {k : TypeId} {b n : Nat} {D : DataW Unit} {w w' : World} {es : Array MapEntry} {clock c : Nat} (h : w.ownsMap Try.prog k R b n D) (hb : w.heap[b]? = some (.map es clock)) (hc : w'.heap[c]? = some (.map es clock)) : w'.ownsMap Try.prog k R c n D := by
  obtain ⟨es2, clock2, hb2, F, hs, hD⟩ := h
  rw [hb] at hb2
  cases hb2
  exact ⟨es, clock, hc, F, hs, hD⟩

theorem ownsRow_base {w : World} {B : Nat} {e : TypeId} {size : Nat} {v : Value} {n : Nat} {xs : List Value} (h : w.ownsRow B e size v n xs) : w.ownsRow 0 e size v n xs := by
  obtain ⟨h1, h2⟩ := h
  refine ⟨h1, ?_⟩
  rcases h2 with h2 | ⟨g, cap, cur, hv, hb, hr⟩
  · exact .inl h2
  · exact .inr ⟨g, cap, cur, hv, Nat.zero_le _, hr⟩

theorem lcells_one (L : List (Nat × List UInt8)) : ∀ u ∈ lcells L, u.oneCell' = true := by
  intro u hu
  obtain ⟨x, _, hx⟩ := List.mem_flatMap.1 hu
  exact wcells_one x u hx

theorem wpList_append_at {P : Program} (w : World) {ops : Array Oper} {rest : List Oper} {o : Oper} {a : Act} {Q : Exit → Act → World → Prop} (hgd : o.guard = none) (s x : Operand) (t : TypeId)
    (ho : o.op = .call { callee := .builtin .append, args := #[s, x], argTypes := #[t, t] })
    (base : Nat) (e : TypeId) (i : TypeInfo) (z : Value) (size bytes : Nat) (ht : P.underlying t = some (.slice e)) (hi : P.info? e = some i) (hz : i.zero = some z)
    (hsize : i.size = size) (hby : i.bytes = bytes) (hzs : z.cells.size = size) (hsz : 0 < size)
    (v : Value) (n : Nat) (xs : List Value) (hs : a.eval s = v) (hown : w.ownsRow base e size v n xs)
    (ad : Addr) (m c : Nat) (news : List Value) (hx : a.eval x = .slice (some ad) m c) (hl : news.length = m * size) (hnews : ∀ j u, news[j]? = some u → w.cell? (ad.add j) = some u) (h1 : ∀ u ∈ news, u.oneCell' = true)
    (h63 : n + m ≤ maxLen) (hbytes : (n + m) * bytes ≤ 140737488355328) (hbase : base ≤ w.heap.size)
    (h : ∀ v' w', w'.ownsRow base e size v' (n + m) (xs ++ news) → w.grownBy w' v.ownBlock → (v'.ownBlock = v.ownBlock ∨ v'.ownBlock = some w.heap.size) → wpList P ops Q rest (a.put o.dst v') w') : wpList P ops Q (o :: rest) a w := by
  refine wpList_plain hgd fun K hK => ?_
  obtain ⟨v', w', hr, h2, h3, _, h5⟩ := run_append_own_at (P := P) w base t o.type e i z size bytes ht hi hz hsize hby hzs hsz v n xs hown ad m c news hl hnews h1 h63 hbytes hbase
  unfold Oper.wp execOp
  simp only [ho, resolve, invoke, builtin, Sem.run_bind, Sem.run_pure, Result.andThen_ok, List.map_toArray, List.map_cons, List.map_nil, hs, hx, hr]
  exact hK _ _ (h v' w' h2 h3 h5)

set_option maxHeartbeats 1000000 in
theorem clone_slice (v : Value) (L : List (Nat × List UInt8)) (w : World) (hown : w.ownsRow 0 66 65 v L.length (lcells L)) (hL : L.length ≤ 1099511627776) :
    Calls Try.prog 29 #[v] w fun e w' => ∃ v', e = .returned v' ∧ w'.ownsRow w.heap.size 66 65 v' L.length (lcells L) ∧ Below w.heap.size w w' := by
  obtain ⟨n, hn⟩ : ∃ n, n = L.length := ⟨_, rfl⟩
  rw [← hn] at hown hL ⊢
  rcases hown.2 with ⟨rfl, h0⟩ | ⟨g, cap, cur, rfl, _, hg, hnc, hm, hc, ht⟩
  · have hq := fun u => Lib.run_eql_slice_nil (P := Try.prog) u 54 _ none 0 0 0 0 Try.underlying54
    have hx : lcells L = [] := by
      have : L = [] := List.eq_nil_of_length_eq_zero (by omega)
      rw [this]; rfl
    rw [hx, h0]
    clear hown hn hx
    go_enter Try.func29, Try.ntmps29
    go_wp2
    go_ret
    exact ⟨_, rfl, World.ownsRow_nil _ _ _ _, Below.refl _ _⟩
  · have hcell : ∀ j u, (lcells L)[j]? = some u → w.cell? ((⟨g, 0, none⟩ : Addr).add j) = some u := World.ownsRow.cells hown rfl
    have hgl := row_lt hg
    obtain ⟨i0, hi, hi0, hi1, hi2⟩ := info_parts write_info
    have hll : (lcells L).length = n * 65 := hown.1
    have hone := lcells_one L
    have hnew : ∀ j u, (lcells L)[j]? = some u → (w.alloc (.cells #[] 66)).cell? ((⟨g, 0, none⟩ : Addr).add j) = some u := fun j u hu => by
      have h1 := hcell j u hu
      have ea : (⟨g, 0, none⟩ : Addr).add j = ⟨g, j, none⟩ := by unfold Addr.add; split <;> simp_all
      rw [ea] at h1 ⊢
      rw [World.cell?_of_block (Below.heap_alloc w _ g hgl)]
      exact h1
    have hown0 : (w.alloc (.cells #[] 66)).ownsRow w.heap.size 66 65 (.slice (some ⟨w.heap.size, 0, none⟩) 0 0) 0 [] := World.ownsRow_made w #[] 0 (Nat.le_refl _) (Nat.zero_le _) rfl
    have Hnew := Lib.hid hnew; clear hnew
    have Hown0 := Lib.hid hown0; clear hown0
    have Hi := Lib.hid hi; clear hi
    have Hi0 := Lib.hid hi0; clear hi0
    have Hi1 := Lib.hid hi1; clear hi1
    have Hi2 := Lib.hid hi2; clear hi2
    have Hll := Lib.hid hll; clear hll
    have Hone := Lib.hid hone; clear hone
    clear hown hcell hn hg ht hc
    have hq := fun u => Lib.run_eql_slice_nil (P := Try.prog) u 54 _ (some ⟨g, 0, none⟩) n cap 0 0 Try.underlying54
    go_enter Try.func29, Try.ntmps29
    go_wp2_with (at_builtin; refine wpList_append_at _ rfl (.tmp 5) (.tmp 6) 54 rfl w.heap.size 66 i0 _ 65 72 Try.underlying54 Hi.out Hi0.out Hi1.out Hi2.out rfl (by decide) (.slice (some ⟨w.heap.size, 0, none⟩) 0 0) 0 [] rfl Hown0.out ⟨g, 0, none⟩ n cap (lcells L) rfl Hll.out Hnew.out Hone.out (by unfold maxLen; omega) (by omega) (by simp) ?_)
    intro v2 w2 hown2 hg2 hat
    have hb : Below w.heap.size w w2 := ((Below.refl _ w).alloc (Nat.le_refl _) (.cells #[] 66)).grown hg2 (by simp) (fun k hk => by
      have : w.heap.size = k := by simpa [Value.ownBlock] using hk
      omega)
    have Hb := Lib.hid hb; clear hb
    have Hown2 := Lib.hid hown2; clear hown2
    clear hg2 hat
    go_wp2
    go_ret
    exact ⟨_, rfl, Hown2.out, Hb.out⟩

theorem DiskIn.one {S : Nat → Prop} {p : Nat} {d : Dsk.St} {w : World} {bF bM : Nat} {v : Value} {nf : Nat} {DF : DataW Unit} (h : DiskIn S p d w bF bM v nf DF) : (dcells d bF v bM).all (·.oneCell') = true := by
  rcases h.vlen with ⟨_, rfl⟩ | ⟨g, cap, rfl, _⟩ <;> simp [dcells, Value.oneCell']
theorem disk_info : (Try.prog.info? 56).map (·.size) = some 6 := by kernel_rfl
theorem dcells_ld (d : Dsk.St) (bF : Nat) (v : Value) (bM : Nat) : (#[.int .i64 (d.n : Int), .map (some bF), v, .map (some bM), .int .i64 d.fuse, .bool d.down] : Array Value) = dcells d bF v bM := rfl

set_option maxRecDepth 20000 in
set_option maxHeartbeats 1000000 in
theorem copy_any {S : Nat → Prop} {p : Nat} {d : Dsk.St} {w : World} (h : DiskAt S p d w) (hops : d.ops ≤ 1099511627776) :
    Calls Try.prog 12 #[.pointer (some ⟨p, 0, none⟩)] w fun e w' => e = .returned (.pointer (some ⟨w.heap.size, 0, none⟩)) ∧ Below w.heap.size w w' ∧ ∃ S', (∀ j, S' j → w.heap.size ≤ j) ∧ DiskAt S' w.heap.size d w' := by
  obtain ⟨bF, bM, v, nf, DF, h⟩ := h
  obtain ⟨esF, ckF, hF⟩ := ownsMap_obj h.mF
  obtain ⟨esM, ckM, hM⟩ := ownsMap_obj h.mM
  have hcnt := h.cnt
  have hz : ∀ u, (zeroValue 56).run Try.prog u = .ok (.agg #[.int .i64 0, .map none, .slice none 0 0, .map none, .int .i64 0, .bool false]) u := fun _ => by kernel_rfl
  have c0 := h.c0
  have c1 := h.c1
  have c2 := h.c2
  have c3 := h.c3
  have c4 := h.c4
  have c5 := h.c5
  have hpl := h.lt _ h.hp
  have hFl := h.lt _ h.hF
  have hMl := h.lt _ h.hM
  have hvl := fun k hk => h.lt _ (h.hv k hk)
  have hone := h.one
  have hi56 : (Try.prog.info? 56).map (·.size) = some (dcells d bF v bM).size := disk_info
  have hss : (#[.int .i64 0, .map none, .slice none 0 0, .map none, .int .i64 0, .bool false] : Array Value).size = (dcells d bF v bM).size := rfl
  have H := Lib.hid h; clear h
  have HF := Lib.hid hF; clear hF
  have HM := Lib.hid hM; clear hM
  have Hvl := Lib.hid hvl; clear hvl
  have Hone := Lib.hid hone; clear hone
  have Hi := Lib.hid hi56; clear hi56
  have Hss := Lib.hid hss; clear hss
  go_enter Try.func12, Try.ntmps12
  go_wp2_with (refine wpList_store_whole rfl 56 (.tmp 3) (.tmp 8) rfl w.heap.size (dcells d bF v bM) rfl rfl _ #[.int .i64 0, .map none, .slice none 0 0, .map none, .int .i64 0, .bool false] (heap_alloc_new _ _) Hi.out Hss.out Hone.out ?_; rw [World.setRow_alloc_new])
  obtain ⟨Q, hQ⟩ : ∃ Q, Q = w.heap.size := ⟨_, rfl⟩
  have hb1 : Below w.heap.size w (w.alloc (.cells (dcells d bF v bM) 56)) := (Below.refl _ w).alloc (Nat.le_refl _) _
  have hr1 : (w.alloc (.cells (dcells d bF v bM) 56)).heap[Q]? = some (.cells (dcells d bF v bM) 56 (0, 0)) := by rw [hQ]; exact heap_alloc_new w _
  have hs1 : (w.alloc (.cells (dcells d bF v bM) 56)).heap.size = Q + 1 := by rw [hQ]; simp
  rw [← hQ] at hb1 hpl hFl hMl ⊢
  generalize w.alloc (.cells (dcells d bF v bM) 56) = w1 at *
  have hF1 : w1.heap[bF]? = some (.map esF ckF) := by rw [hb1.block bF hFl]; exact HF.out
  refine (mapclone_sec bF esF ckF w1 hF1).mono ?_; rintro e w2 ⟨rfl, hw2⟩
  have hb2 : Below Q w w2 := by rw [hw2]; exact hb1.alloc (by omega) _
  have hr2 : w2.heap[Q]? = some (.cells (dcells d bF v bM) 56 (0, 0)) := by rw [hw2]; exact row_alloc hr1 _
  have hm2 : w2.heap[Q + 1]? = some (.map esF ckF) := by rw [hw2, ← hs1]; exact heap_alloc_new w1 _
  have hs2 : w2.heap.size = Q + 2 := by rw [hw2]; simp [hs1]
  rw [hs1]
  clear hw2 hF1 hb1 hr1 hs1 w1
  have keepP : ∀ (u : World) (j : Nat), Below Q w u → u.cell? ⟨p, j, none⟩ = w.cell? ⟨p, j, none⟩ := fun u j hu => World.cell?_of_block (hu.block p hpl)
  have KP := Lib.hid keepP; clear keepP
  have x1 : w2.cell? ⟨Q, 1, none⟩ = some (.map (some bF)) := by rw [cell_of_row w2 Q 1 _ _ _ hr2]; rfl
  have y1 := row_free hr2 1
  have p2 : (w2.setCell ⟨Q, 1, none⟩ (.map (some (Q + 1)))).cell? ⟨p, 2, none⟩ = some v := by rw [KP.out _ 2 (hb2.setCell (p := ⟨Q, 1, none⟩) (Nat.le_refl _) _)]; exact c2
  have hb3 : Below Q w (w2.setCell ⟨Q, 1, none⟩ (.map (some (Q + 1)))) := hb2.setCell (p := ⟨Q, 1, none⟩) (Nat.le_refl _) _
  have hr3 := heap_setCell_same w2 Q 1 _ _ (.map (some (Q + 1))) hr2
  have hm3 : (w2.setCell ⟨Q, 1, none⟩ (.map (some (Q + 1)))).heap[Q + 1]? = some (.map esF ckF) := by rw [heap_setCell_other _ _ _ _ (by simp)]; exact hm2
  have hs3 : (w2.setCell ⟨Q, 1, none⟩ (.map (some (Q + 1)))).heap.size = Q + 2 := by simp [World.setCell, hs2]
  have hl3 : (w2.setCell ⟨Q, 1, none⟩ (.map (some (Q + 1)))).ownsRow 0 66 65 v d.L.length (lcells d.L) := ownsRow_same H.out.rL (fun g hg => hb3.block g (by rw [hQ]; exact Hvl.out g hg))
  have hcl := clone_slice v d.L _ hl3 (by omega)
  have Hcl := Lib.hid hcl; clear hcl
  have Hb3 := Lib.hid hb3; clear hb3
  have Hr3 := Lib.hid hr3; clear hr3
  have Hm3 := Lib.hid hm3; clear hm3
  have Hs3 := Lib.hid hs3; clear hs3
  have HQ := Lib.hid hQ; clear hQ
  have Hb2 := Lib.hid hb2; clear hb2
  clear hr2 hm2 hs2 hl3
  go_wp2_with fail
  refine Hcl.out.mono ?_; rintro e w4 ⟨v4, rfl, hown4, hb4⟩
  obtain ⟨ao, n4, k4, hsh⟩ : ∃ ao n4 k4, v4 = .slice ao n4 k4 := by
    rcases hown4.2 with ⟨rfl, _⟩ | ⟨g, cap, cur, rfl, _⟩
    · exact ⟨_, _, _, rfl⟩
    · exact ⟨_, _, _, rfl⟩
  subst hsh
  have hs34 := Hs3.out
  have hr4 : w4.heap[Q]? = some (.cells ((dcells d bF v bM).setIfInBounds 1 (.map (some (Q + 1)))) 56 (0, 0)) := row_below Hr3.out hb4 (by omega)
  have hm4 : w4.heap[Q + 1]? = some (.map esF ckF) := row_below Hm3.out hb4 (by omega)
  have hB4 : Below Q w w4 := Hb3.out.trans (hb4.mono (by omega))
  have hv4 : ∀ k, (Value.slice ao n4 k4).ownBlock = some k → Q + 2 ≤ k ∧ k < w4.heap.size := by
    intro k hk
    have := World.ownsRow.lt hown4 k hk
    omega
  have x2 : w4.cell? ⟨Q, 2, none⟩ = some v := by rw [cell_of_row w4 Q 2 _ _ _ hr4]; rfl
  have y2 := row_free hr4 2
  have hs4 := hb4.size
  rw [hs34] at hs4
  have hr5 := heap_setCell_same w4 Q 2 _ _ (.slice ao n4 k4) hr4
  have hm5 : (w4.setCell ⟨Q, 2, none⟩ (.slice ao n4 k4)).heap[Q + 1]? = some (.map esF ckF) := by rw [heap_setCell_other _ _ _ _ (by simp)]; exact hm4
  have hB5 : Below Q w (w4.setCell ⟨Q, 2, none⟩ (.slice ao n4 k4)) := hB4.setCell (p := ⟨Q, 2, none⟩) (Nat.le_refl _) _
  have hown5 : (w4.setCell ⟨Q, 2, none⟩ (.slice ao n4 k4)).ownsRow 0 66 65 (.slice ao n4 k4) d.L.length (lcells d.L) := ownsRow_same (ownsRow_base hown4) (fun g hg => heap_setCell_other _ _ _ _ (by have := (hv4 g hg).1; simp; omega))
  have hs5 : (w4.setCell ⟨Q, 2, none⟩ (.slice ao n4 k4)).heap.size = w4.heap.size := by simp [World.setCell]
  have p3 : (w4.setCell ⟨Q, 2, none⟩ (.slice ao n4 k4)).cell? ⟨p, 3, none⟩ = some (.map (some bM)) := by rw [KP.out _ 3 hB5]; exact c3
  have hM5 : (w4.setCell ⟨Q, 2, none⟩ (.slice ao n4 k4)).heap[bM]? = some (.map esM ckM) := by rw [hB5.block bM hMl]; exact HM.out
  have hmc := mapclone_int bM esM ckM _ hM5
  rw [hs5] at hmc
  have Hmc := Lib.hid hmc; clear hmc
  have Hr5 := Lib.hid hr5; clear hr5
  have Hm5 := Lib.hid hm5; clear hm5
  have HB5 := Lib.hid hB5; clear hB5
  have Hown5 := Lib.hid hown5; clear hown5
  have Hs5 := Lib.hid hs5; clear hs5
  have Hv4 := Lib.hid hv4; clear hv4
  have HM5 := Lib.hid hM5; clear hM5
  clear hr4 hm4 hB4 hown4 hb4 hs34 p2
  go_wp2_with fail
  refine Hmc.out.mono ?_; rintro e w6 ⟨rfl, hw6⟩
  have hB6 : Below Q w w6 := by rw [hw6]; exact HB5.out.alloc (by rw [Hs5.out]; omega) _
  have hr6 : w6.heap[Q]? = some (.cells (((dcells d bF v bM).setIfInBounds 1 (.map (some (Q + 1)))).setIfInBounds 2 (.slice ao n4 k4)) 56 (0, 0)) := by rw [hw6]; exact row_alloc Hr5.out _
  have hm6 : w6.heap[Q + 1]? = some (.map esF ckF) := by rw [hw6]; exact row_alloc Hm5.out _
  have hM6 : w6.heap[w4.heap.size]? = some (.map esM ckM) := by rw [hw6, ← Hs5.out]; exact heap_alloc_new _ _
  have hown6 : w6.ownsRow 0 66 65 (.slice ao n4 k4) d.L.length (lcells d.L) := by rw [hw6]; exact World.ownsRow.alloc Hown5.out _
  have hs6 : w6.heap.size = w4.heap.size + 1 := by rw [hw6]; simp [Hs5.out]
  have x3 : w6.cell? ⟨Q, 3, none⟩ = some (.map (some bM)) := by rw [cell_of_row w6 Q 3 _ _ _ hr6]; rfl
  have y3 := row_free hr6 3
  have hr7 := heap_setCell_same w6 Q 3 _ _ (.map (some w4.heap.size)) hr6
  have hfin : DiskIn (fun j => Q ≤ j ∧ j < w4.heap.size + 1) Q d (w6.setCell ⟨Q, 3, none⟩ (.map (some w4.heap.size))) (Q + 1) w4.heap.size (.slice ao n4 k4) nf DF :=
    { hp := ⟨Nat.le_refl _, by omega⟩
      hF := ⟨by omega, by omega⟩
      hM := ⟨by omega, by omega⟩
      hv := fun k hk => by have := Hv4.out k hk; exact ⟨by omega, by omega⟩
      lt := fun k hk => by simp [World.setCell, hs6]; omega
      row := hr7
      ne := by omega
      mF := owns_clone H.out.mF HF.out (by rw [heap_setCell_other _ _ _ _ (by simp)]; exact hm6)
      rF := H.out.rF
      mM := owns_clone H.out.mM HM.out (by rw [heap_setCell_other _ _ _ _ (by simp; omega)]; exact hM6)
      rL := ownsRow_same hown6 (fun g hg => heap_setCell_other _ _ _ _ (by have := (Hv4.out g hg).1; simp; omega))
      cnt := H.out.cnt
      ok := H.out.ok }
  have hB7 : Below Q w (w6.setCell ⟨Q, 3, none⟩ (.map (some w4.heap.size))) := hB6.setCell (p := ⟨Q, 3, none⟩) (Nat.le_refl _) _
  have Hfin := Lib.hid hfin; clear hfin
  have HB7 := Lib.hid hB7; clear hB7
  clear hw6 hB6 hr6 hm6 hM6 hown6 hs6 hr7 p3
  go_wp2_with fail
  go_ret
  rw [← HQ.out]
  exact ⟨rfl, HB7.out, _, fun j hj => hj.1, _, _, _, _, _, Hfin.out⟩
end Go.Proofs.Ytjlkppdailkanaa
