/-
  What the document's Texts and Cut of layer 11 return.
-/
import Derived.Test.YtcmlcpejlmlcfaaEdtMgP
import Derived.Test.YtcmlcpejlmlcfaaEdtCopy
import Derived.Test.YtcmlcpejlmlcfaaRabA
set_option linter.unusedVariables false
set_option maxRecDepth 100000
namespace Go.Proofs.Ytcmlcpejlmlcfaa
open Go.RowKit

/-- append at an operation of a drawn region -/
theorem Edt.append_at {P : Program} {o : Oper} {a : Act} {w : World} {K : Act → World → Prop} {Q : Exit → Act → World → Prop} (s x : Operand) (t : TypeId)
    (ho : o.op = .call { callee := .builtin .append, args := #[s, x], argTypes := #[t, t] })
    (base : Nat) (e : TypeId) (i : TypeInfo) (z : Value) (size bytes : Nat) (ht : P.underlying t = some (.slice e)) (hi : P.info? e = some i) (hz : i.zero = some z)
    (hsize : i.size = size) (hby : i.bytes = bytes) (hzs : z.cells.size = size) (hsz : 0 < size)
    (v : Value) (n : Nat) (xs : List Value) (hs : a.eval s = v) (hown : w.ownsRow base e size v n xs)
    (ad : Addr) (m c : Nat) (news : List Value) (hx : a.eval x = .slice (some ad) m c) (hl : news.length = m * size) (hnews : ∀ j u, news[j]? = some u → w.cell? (ad.add j) = some u) (h1 : ∀ u ∈ news, u.oneCell' = true)
    (h63 : n + m ≤ maxLen) (hbytes : (n + m) * bytes ≤ 140737488355328) (hbase : base ≤ w.heap.size)
    (h : ∀ v' w', w'.ownsRow base e size v' (n + m) (xs ++ news) → w.grownBy w' v.ownBlock → K (a.put o.dst v') w') : o.wp P a w K Q := by
  obtain ⟨v', w', hr, h2, h3, _, h5⟩ := run_append_own_at (P := P) w base t o.type e i z size bytes ht hi hz hsize hby hzs hsz v n xs hown ad m c news hl hnews h1 h63 hbytes hbase
  unfold Oper.wp execOp
  simp only [ho, resolve, invoke, builtin, Sem.run_bind, Sem.run_pure, Result.andThen_ok, List.map_toArray, List.map_cons, List.map_nil, hs, hx, hr]
  exact h v' w' h2 h3

set_option maxHeartbeats 2000000 in
theorem refTexts11_any (s : ByteArray) (hsz : s.size ≤ 1099511627776) (pv : Value) (L : List Pc) (w : World) (hv : PRd pv L w) (hL : L.length ≤ 1099511627776) (hok : ∀ x ∈ L, 1 ≤ x.2 ∧ x.1 + x.2 ≤ s.size) :
    Calls Try.prog 30 #[.string s, pv] w fun e w' => ∃ v, e = .returned v ∧ TOwn w.heap.size v (pcTexts s L) w' ∧ Below w.heap.size w w' := by
  obtain ⟨i0, hi0, hz0, hz1, hz2⟩ := info_parts tstr_info
  obtain ⟨a, cap, rfl, hcap, hf⟩ := hv
  obtain ⟨n, hn⟩ : ∃ n, n = L.length := ⟨_, rfl⟩
  have hlen := pcTexts_length s L
  have hget := fun k (h : k < L.length) => Edt.texts_get s L k h
  have hokk : ∀ k, k < L.length → (L.getD k (0, 0)).1 + (L.getD k (0, 0)).2 ≤ s.size := fun k hk => by
    rw [List.getD_eq_getElem?_getD, List.getElem?_eq_getElem hk]
    exact (hok _ (List.getElem_mem hk)).2
  obtain ⟨Z, hZ⟩ : ∃ Z, pcTexts s L = Z := ⟨_, rfl⟩
  rw [hZ] at hlen hget ⊢
  rw [← hn] at hL hcap hf hlen hget hokk ⊢
  have htk : ∀ k, k < n → Z.take (k + 1) = Z.take k ++ [Z.getD k .empty] := fun k hk => by
    rw [List.take_add_one, List.getD_eq_getElem?_getD, List.getElem?_eq_getElem (by omega)]; rfl
  have htl : ∀ k, k ≤ n → (Z.take k).length = k := fun k hk => by rw [List.length_take]; omega
  have hta : Z.take n = Z := by rw [← hlen]; exact List.take_length
  have Hget := Lib.hid hget; clear hget
  have Hokk := Lib.hid hokk; clear hokk hok
  have Hf := Lib.hid hf; clear hf
  have Htk := Lib.hid htk; clear htk
  have Htl := Lib.hid htl; clear htl
  have Hta := Lib.hid hta; clear hta hZ hlen hn
  go_enter Try.func30, Try.ntmps30
  go_wp2_with fail
  go_loopw [5, 6] (fun v x wr => ∃ k : Nat, k ≤ n ∧ x = .int .i64 (k : Int) ∧ TOwn w.heap.size v (Z.take k) wr ∧ Below w.heap.size w wr) (fun _ x _ => n - (intOf x).toNat)
  case atStart => exact ⟨0, Nat.zero_le _, rfl, World.ownsRow_nil _ _ 9 1, Below.refl _ _⟩
  case round =>
    obtain ⟨k, hk, rfl, ho, hb⟩ := hrel
    by_cases hlt : k < n
    · have g1 : decide (k < n) = true := decide_eq_true hlt
      have g2 : (k : Int) < (n : Int) := by omega
      obtain ⟨g, rfl, d1, d2⟩ := Hf.out k hlt
      have hcl : wr.cell? ⟨g, k * 2, none⟩ = some (.int .i64 ((L.getD k (0, 0)).1 : Int)) := by rw [hb.cell (p := ⟨g, k * 2, none⟩) (cell_lt d1)]; exact d1
      have hcm : wr.cell? ⟨g, k * 2 + 1, none⟩ = some (.int .i64 ((L.getD k (0, 0)).2 : Int)) := by rw [hb.cell (p := ⟨g, k * 2 + 1, none⟩) (cell_lt d2)]; exact d2
      have hgl := cell_lt d1
      have hgt := Hget.out k hlt
      have hbd := Hokk.out k hlt
      have hnk := Htk.out k hlt
      have hlk := Htl.out k (by omega)
      clear d1 d2
      generalize (L.getD k (0, 0)).1 = p1 at *
      generalize (L.getD k (0, 0)).2 = p2 at *
      have hsp := fun u => text_part s p1 (p1 + p2) (by omega) hbd u
      have hcc : ((p1 + p2 : Nat) : Int) = (p1 : Int) + (p2 : Int) := by omega
      rw [hcc] at hsp
      have hwr : IntKind.i64.wrap ((p1 : Int) + (p2 : Int)) = (p1 : Int) + (p2 : Int) := by simp only [IntKind.wrap_i64]; omega
      rw [hgt] at hnk
      generalize s.extract p1 (p1 + p2) = X at *
      obtain ⟨ts, hts⟩ : ∃ ts, Z.take k = ts := ⟨_, rfl⟩
      rw [hts] at ho hnk hlk
      have hkc : k < cap := by omega
      generalize hvv : u5 = v at *
      have hbY := box_below wr.drew (.cells #[.string X] 9)
      have ho3 : (wr.drew.alloc (.cells #[.string X] 9)).ownsRow w.heap.size 9 1 v k (ts.map Value.string) := by
        have := World.ownsRow.alloc (World.ownsRow.drew ho) (.cells #[.string X] 9)
        rw [hlk] at this
        exact this
      have hbs : w.heap.size ≤ (wr.drew.alloc (.cells #[.string X] 9)).heap.size := by have := hb.size; simp; omega
      have hS : ∀ z, Below wr.drew.heap.size wr.drew z → z.cell? ⟨g, k * 2, none⟩ = some (.int .i64 (p1 : Int)) ∧ z.cell? ⟨g, k * 2 + 1, none⟩ = some (.int .i64 (p2 : Int)) := fun z hz => by
        have hgw : g < wr.drew.heap.size := by have := hb.size; simp; omega
        exact ⟨by rw [hz.cell (p := ⟨g, k * 2, none⟩) hgw]; exact hcl, by rw [hz.cell (p := ⟨g, k * 2 + 1, none⟩) hgw]; exact hcm⟩
      have hnx : ∀ w5 v5, w5.ownsRow w.heap.size 9 1 v5 (k + 1) (ts.map Value.string ++ [.string X]) → (wr.drew.alloc (.cells #[.string X] 9)).grownBy w5 v.ownBlock →
          (w5.cell? ⟨g, k * 2, none⟩ = some (.int .i64 (p1 : Int)) ∧ w5.cell? ⟨g, k * 2 + 1, none⟩ = some (.int .i64 (p2 : Int))) ∧ TOwn w.heap.size v5 (Z.take (k + 1)) w5 ∧ Below w.heap.size w w5 := fun w5 v5 hown5 hg5 => by
        have hb5 : Below w.heap.size w w5 := ((hb.drew).trans (hbY.mono (by have := hb.size; simp; omega))).grown hg5 hbs (fun b' h => (World.ownsRow.lt ho b' h).1)
        refine ⟨⟨?_, ?_⟩, ?_, hb5⟩
        · rw [hb5.cell (p := ⟨g, k * 2, none⟩) hgl, ← hb.cell (p := ⟨g, k * 2, none⟩) hgl]; exact hcl
        · rw [hb5.cell (p := ⟨g, k * 2 + 1, none⟩) hgl, ← hb.cell (p := ⟨g, k * 2 + 1, none⟩) hgl]; exact hcm
        · unfold TOwn
          rw [hnk, List.length_append, List.map_append, hlk]
          exact hown5
      have Ho3 := Lib.hid ho3; clear ho3
      have HS := Lib.hid hS; clear hS
      have Hnx := Lib.hid hnx; clear hnx
      have Hsp := Lib.hid hsp; clear hsp
      have Hwr := Lib.hid hwr; clear hwr
      have Hbs := Lib.hid hbs; clear hbs
      clear ho hb hnk hlk hts hgt hbd hcc
      go_wp2_with fail
      refine wp_region_phases [([0, 1, 2, 3, 4, 5, 6, 7, 8, 9, 10, 11, 12, 13, 14, 15, 16, 17, 18], [19, 20, 21])] (by kernel_rfl) (by kernel_rfl) (fun z => z.cell? ⟨g, k * 2, none⟩ = some (.int .i64 (p1 : Int)) ∧ z.cell? ⟨g, k * 2 + 1, none⟩ = some (.int .i64 (p2 : Int))) ⟨hcl, hcm⟩ ?_
      simp only [wpPhases, pick, List.filterMap_cons, List.filterMap_nil, List.getElem?_toArray, List.getElem?_cons_zero, List.getElem?_cons_succ]
      refine take_move (.tmp 5) v rfl rfl rfl ?_
      simp only [Act.put, List.setIfInBounds_toArray, List.set_cons_zero, List.set_cons_succ]
      refine take_move (.tmp 0) (.string s) rfl rfl rfl ?_
      simp only [Act.put, List.setIfInBounds_toArray, List.set_cons_zero, List.set_cons_succ]
      refine take_move (.tmp 1) (.slice (some ⟨g, 0, none⟩) n cap) rfl rfl rfl ?_
      simp only [Act.put, List.setIfInBounds_toArray, List.set_cons_zero, List.set_cons_succ]
      refine take_move (.tmp 6) (.int .i64 (k : Int)) rfl rfl rfl ?_
      simp only [Act.put, List.setIfInBounds_toArray, List.set_cons_zero, List.set_cons_succ]
      refine take_one (.pointer (some ⟨g, k * 2, none⟩)) rfl (fun u hu => by go_simp) ?_
      refine take_one (.pointer (some ⟨g, k * 2, none⟩)) rfl (fun u hu => by go_simp) ?_
      refine take_load 3 (.tmp 18) ⟨g, k * 2, none⟩ (.int .i64 (p1 : Int)) rfl rfl rfl (fun u hu => load_at Try.underlying3 Try.isAgg3 hu.1) ?_
      simp only [Act.put, List.setIfInBounds_toArray, List.set_cons_zero, List.set_cons_succ]
      refine take_move (.tmp 1) (.slice (some ⟨g, 0, none⟩) n cap) rfl rfl rfl ?_
      simp only [Act.put, List.setIfInBounds_toArray, List.set_cons_zero, List.set_cons_succ]
      refine take_move (.tmp 6) (.int .i64 (k : Int)) rfl rfl rfl ?_
      simp only [Act.put, List.setIfInBounds_toArray, List.set_cons_zero, List.set_cons_succ]
      refine take_one (.pointer (some ⟨g, k * 2, none⟩)) rfl (fun u hu => by go_simp) ?_
      refine take_one (.pointer (some ⟨g, k * 2, none⟩)) rfl (fun u hu => by go_simp) ?_
      refine take_load 3 (.tmp 23) ⟨g, k * 2, none⟩ (.int .i64 (p1 : Int)) rfl rfl rfl (fun u hu => load_at Try.underlying3 Try.isAgg3 hu.1) ?_
      simp only [Act.put, List.setIfInBounds_toArray, List.set_cons_zero, List.set_cons_succ]
      refine take_move (.tmp 1) (.slice (some ⟨g, 0, none⟩) n cap) rfl rfl rfl ?_
      simp only [Act.put, List.setIfInBounds_toArray, List.set_cons_zero, List.set_cons_succ]
      refine take_move (.tmp 6) (.int .i64 (k : Int)) rfl rfl rfl ?_
      simp only [Act.put, List.setIfInBounds_toArray, List.set_cons_zero, List.set_cons_succ]
      refine take_one (.pointer (some ⟨g, k * 2, none⟩)) rfl (fun u hu => by go_simp) ?_
      refine take_one (.pointer (some ⟨g, k * 2 + 1, none⟩)) rfl (fun u hu => by go_simp) ?_
      refine take_load 3 (.tmp 28) ⟨g, k * 2 + 1, none⟩ (.int .i64 (p2 : Int)) rfl rfl rfl (fun u hu => load_at Try.underlying3 Try.isAgg3 hu.2) ?_
      simp only [Act.put, List.setIfInBounds_toArray, List.set_cons_zero, List.set_cons_succ]
      refine take_one (.int .i64 (p1 + p2 : Int)) rfl (fun u hu => by go_simp; exact Hwr.out) ?_
      simp only [Act.put, List.setIfInBounds_toArray, List.set_cons_zero, List.set_cons_succ]
      refine take_one (.string X) rfl (fun u hu => run_sub_both 9 (.tmp 14) (.tmp 19) (.tmp 30) rfl _ _ _ _ rfl rfl rfl (Hsp.out u)) ?_
      refine take_done ?_
      refine midk_one (w' := wr.drew.alloc (.cells #[.string X] 9)) (.slice (some ⟨wr.drew.heap.size, 0, none⟩) 1 1) rfl (run_slice_op 24 1 [(0, .tmp 31)] rfl (slice_str1 _ wr.drew)) (HS.out _ hbY) ?_
      refine midk_wp rfl (Edt.append_at (.tmp 13) (.tmp 32) 24 rfl w.heap.size 9 i0 _ 1 16 Try.underlying24 hi0 hz0 hz1 hz2 rfl (by decide) v k (ts.map Value.string) rfl Ho3.out ⟨wr.drew.heap.size, 0, none⟩ 1 1 [.string X] rfl rfl (cell_new_row wr.drew [.string X] 9) (by intro u hu; simp at hu; subst hu; rfl) (by unfold maxLen; omega) (by omega) Hbs.out ?_)
      intro v5 w5 hown5 hg5
      have hb5 := Hnx.out w5 v5 hown5 hg5
      refine ⟨hb5.1, ?_⟩
      refine midk_one v5 rfl rfl hb5.1 ?_
      refine midk_end ?_
      have Hr5 := Lib.hid hb5.2; clear hb5 hown5 hg5
      go_wp2_with fail
      go_roundw
      case rel => exact ⟨k + 1, by omega, by go_num, Hr5.out.1, Hr5.out.2⟩
      case measure => simp [intOf]; omega
    · have g1 : decide (k < n) = false := decide_eq_false hlt
      have hkn : k = n := by omega
      rw [hkn, Hta.out] at ho
      have Ho := Lib.hid ho; clear ho
      have Hb := Lib.hid hb; clear hb hkn
      go_wp2_with fail
      go_ret
      exact ⟨_, rfl, Ho.out, Hb.out⟩
end Go.Proofs.Ytcmlcpejlmlcfaa
