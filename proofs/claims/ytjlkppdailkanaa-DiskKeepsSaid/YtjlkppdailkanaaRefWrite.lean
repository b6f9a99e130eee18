/-
  The document's disk: Write.
-/
import Derived.Test.YtjlkppdailkanaaRefCopy
set_option linter.unusedVariables false
namespace Go.Proofs.Ytjlkppdailkanaa
open Go.RowKit

theorem slice_put (a b : Value) (ha : a.cells = #[a]) (hb : b.cells = #[b]) (w : World) : (Instr.buildSlice 57 1 #[(0, .agg #[a, b])]).run Try.prog w = .ok (.slice (some ⟨w.heap.size, 0, none⟩) 1 1) (w.alloc (.cells #[a, b] 73)) := by
  obtain ⟨i, hi, h0, h1, h2⟩ := info_parts put_info
  have hf := Great.fill_whole (s := 2) (by omega) [.agg #[a, b]] ((Array.range (1 * 2)).map ((Value.agg #[.int .i64 0, .string .empty]).cells[· % (Value.agg #[.int .i64 0, .string .empty]).cells.size]!)) (fun v hv => by simp at hv; subst hv; rfl) (by simp)
  refine run_buildSlice w 57 73 1 _ #[a, b] i _ Try.underlying57 hi h0 (by rw [h1]; decide) (by rw [h1]; decide) ?_
  rw [h1]
  have e : ([Value.agg #[a, b]].flatMap fun v => v.cells.toList).toArray = #[a, b] := by simp [Value.cells]
  rw [e] at hf
  exact hf

section
variable {S : Nat → Prop} {q : Nat} {d : Dsk.St} {w : World}
theorem refWrite_down (h : RefAt S q d w) (hd : d.down = true) (at_ : Int) (s : ByteArray) (hs : s.size ≤ 9223372036854775807) :
    Calls Try.prog 34 #[.pointer (some ⟨q, 0, none⟩), .int .i64 at_, .string s] w fun e w' => e = .returned (.int .i64 40) ∧ w = w' := by
  obtain ⟨vB, vL, h⟩ := h
  have c3 := h.c3
  rw [hd] at c3
  clear h hd
  go_enter Try.func34, Try.ntmps34
  go_wp2
  go_ret
  exact ⟨rfl, rfl⟩

theorem refWrite_bad (h : RefAt S q d w) (hd : d.down = false) (at_ : Int) (ha : -9223372036854775808 ≤ at_ ∧ at_ ≤ 9223372036854775807) (s : ByteArray) (hs : s.size ≤ 9223372036854775807)
    (hb : s.size % 64 ≠ 0 ∨ ¬ (0 ≤ at_ ∧ at_ + (s.size / 64 : Nat) ≤ (d.n : Int))) :
    Calls Try.prog 34 #[.pointer (some ⟨q, 0, none⟩), .int .i64 at_, .string s] w fun e w' => e = .returned (.int .i64 2) ∧ w = w' := by
  have hq : (s.size : Int) / 64 = ((s.size / 64 : Nat) : Int) := by omega
  obtain ⟨n, hn⟩ : ∃ n, n = s.size / 64 := ⟨_, rfl⟩
  have hnb : n ≤ 9223372036854775807 := by omega
  rw [← hn] at hq hb
  have hin := refIn_any h at_ (n : Int) ha ⟨by omega, by omega⟩
  obtain ⟨vB, vL, h⟩ := h
  have c3 := h.c3
  rw [hd] at c3
  clear h hd
  have Hn := Lib.hid hn; clear hn
  by_cases hm : s.size % 64 = 0
  · have hm2 : ((s.size : Int) % 64 != 0) = false := by rw [bne_eq_false_iff_eq]; omega
    have hb2 : ¬ (0 ≤ at_ ∧ 0 ≤ (n : Int) ∧ at_ + (n : Int) ≤ (d.n : Int)) := by omega
    rw [decide_eq_false hb2] at hin
    have Hin := Lib.hid hin; clear hin
    clear hb hb2
    go_enter Try.func34, Try.ntmps34
    go_wp2_with fail
    refine Hin.out.mono ?_; rintro e w' ⟨rfl, rfl⟩
    go_wp2_with fail
    go_ret
    exact ⟨rfl, rfl⟩
  · have hm2 : ((s.size : Int) % 64 != 0) = true := by rw [bne_iff_ne]; omega
    clear hin hb
    go_enter Try.func34, Try.ntmps34
    go_wp2
    go_ret
    exact ⟨rfl, rfl⟩

/-- behind one sector -/
theorem RefIn.put_done {vB vL : Value} (h : RefIn S q d w vB vL) (k : Nat) (s : List UInt8) (hk : k < d.n) (hs : s.length = 64) {w1 w4 : World} (hb1 : Below w.heap.size w w1) {g cap : Nat}
    (hown4 : w4.ownsRow 0 73 2 (.slice (some ⟨g, 0, none⟩) (d.L.length + 1) cap) (d.L.length + 1) (puts d.L ++ pcells (k, s))) (hg4 : w1.grownBy w4 vL.ownBlock) (hat : vL.ownBlock = some g ∨ w.heap.size ≤ g)
    (f lv : Int) (hlv : lv = max f (-1)) (hf : -9223372036854775808 ≤ f ∧ f ≤ 9223372036854775807) :
    Turns S w ((w4.setCell ⟨q, 1, none⟩ (.slice (some ⟨g, 0, none⟩) (d.L.length + 1) cap)).setCell ⟨q, 2, none⟩ (.int .i64 lv)) ∧
    ∃ S', (∀ j, S' j → S j ∨ w.heap.size ≤ j) ∧ RefAt S' q (Dsk.put { d with fuse := f } k s) ((w4.setCell ⟨q, 1, none⟩ (.slice (some ⟨g, 0, none⟩) (d.L.length + 1) cap)).setCell ⟨q, 2, none⟩ (.int .i64 lv)) := by
  subst hlv
  have hr1 := h.new hb1
  have tg : Turns (fun k => vL.ownBlock = some k) w1 w4 := Turns.of_grown hg4
  have t4 : Turns S w w4 := (Turns.of_new hb1 S).trans tg (fun j _ e => h.hL j e)
  have hgl := World.ownsRow.lt hown4 g rfl
  have hqg : g ≠ q := fun e => by
    rcases hat with hh | hh
    · exact h.qL (by rw [hh, e])
    · have := h.lt q h.hq; omega
  have hrow4 : w4.heap[q]? = some (.cells (rcells d vB vL) 59 (0, 0)) := tg.same hr1.row (fun e => h.qL e)
  have row5 := heap_setCell_same w4 q 1 _ _ (.slice (some ⟨g, 0, none⟩) (d.L.length + 1) cap) hrow4
  have row6 := heap_setCell_same _ q 2 _ _ (.int .i64 (max f (-1))) row5
  have t5 : Turns (fun k => k = q) w4 ((w4.setCell ⟨q, 1, none⟩ (.slice (some ⟨g, 0, none⟩) (d.L.length + 1) cap)).setCell ⟨q, 2, none⟩ (.int .i64 (max f (-1)))) := ((Turns.refl (fun k => k = q) w4).set q 1 _ (fun _ => rfl)).set q 2 _ (fun _ => rfl)
  have t6 : Turns S w ((w4.setCell ⟨q, 1, none⟩ (.slice (some ⟨g, 0, none⟩) (d.L.length + 1) cap)).setCell ⟨q, 2, none⟩ (.int .i64 (max f (-1)))) := t4.trans t5 (fun j _ e => by rw [e]; exact h.hq)
  have hsz := t5.size
  have hsz4 := t4.size
  refine ⟨t6, fun j => S j ∨ (w.heap.size ≤ j ∧ j < w4.heap.size), fun j hj => by rcases hj with hj | hj; exact .inl hj; exact .inr hj.1, vB, .slice (some ⟨g, 0, none⟩) (d.L.length + 1) cap, ?_⟩
  have hok : (Dsk.put { d with fuse := f } k s).Ok := Dsk.put_ok (d := { d with fuse := f }) ⟨h.ok.lo, h.ok.hi, h.ok.fl, h.ok.at_, h.ok.sz, hf⟩ hk hs
  have hll : (Dsk.put { d with fuse := f } k s).L.length = d.L.length + 1 := by simp [Dsk.put]
  exact
  { hq := .inl h.hq
    hB := fun j hj => .inl (h.hB j hj)
    hL := fun j hj => by
      have : g = j := by simpa [Value.ownBlock] using hj
      subst this
      rcases hat with hh | hh
      · exact .inl (h.hL g hh)
      · exact .inr ⟨hh, hgl.2⟩
    lt := fun j hj => by
      rcases hj with hj | hj
      · have := h.lt j hj; omega
      · omega
    row := row6
    rB := by
      refine ownsRow_same h.rB (fun j hj => ?_)
      rw [t5.block j (by have := h.lt j (h.hB j hj); omega) (fun e => h.qB (by rw [hj, e])), tg.block j (by have := h.lt j (h.hB j hj); have := hb1.size; omega) (h.bl j hj)]
      exact hb1.block j (h.lt j (h.hB j hj))
    rL := by
      rw [hll]
      have e : puts (Dsk.put { d with fuse := f } k s).L = puts d.L ++ pcells (k, s) := puts_snoc _ _
      rw [e]
      exact ownsRow_same hown4 (fun j hj => by
        have : g = j := by simpa [Value.ownBlock] using hj
        subst this
        exact t5.block g hgl.2 hqg)
    cnt := by rw [hll]; have := h.cnt; show d.L.length + 1 ≤ d.ops + 1; omega
    ok := hok }

set_option maxRecDepth 20000 in
set_option maxHeartbeats 2000000 in
theorem refWrite_good (h : RefAt S q d w) (hd : d.down = false) (k : Nat) (s : ByteArray) (n : Nat) (hs : s.size = 64 * n) (hfit : k + n ≤ d.n) (hops : d.ops + n ≤ 1099511627776) :
    Calls Try.prog 34 #[.pointer (some ⟨q, 0, none⟩), .int .i64 (k : Int), .string s] w fun e w' => e = .returned (.int .i64 (if (Dsk.wr s.data.toList k n 0 d).down = true then 40 else 0)) ∧ Turns S w w' ∧ ∃ S', (∀ j, S' j → S j ∨ w.heap.size ≤ j) ∧ RefAt S' q (Dsk.wr s.data.toList k n 0 d) w' := by
  have hhi := h.ok.hi
  have hin := refIn_any h (k : Int) (n : Int) ⟨by omega, by omega⟩ ⟨by omega, by omega⟩
  have hyes : decide (0 ≤ (k : Int) ∧ 0 ≤ (n : Int) ∧ (k : Int) + (n : Int) ≤ (d.n : Int)) = true := by rw [decide_eq_true_iff]; omega
  rw [hyes] at hin
  have hq : (s.size : Int) / 64 = (n : Int) := by omega
  have hm2 : ((s.size : Int) % 64 != 0) = false := by rw [bne_eq_false_iff_eq]; omega
  have hsb : s.size ≤ 1048576 := by omega
  have hat := h
  obtain ⟨vB, vL, h⟩ := h
  have c3 := h.c3
  rw [hd] at c3
  have hqS := h.hq
  have hS0 := h.lt
  obtain ⟨j0, hj, hj0, hj1, hj2⟩ := info_parts put_info
  have Hj := Lib.hid hj; clear hj
  have Hj0 := Lib.hid hj0; clear hj0
  have Hj1 := Lib.hid hj1; clear hj1
  have Hj2 := Lib.hid hj2; clear hj2
  have Hat := Lib.hid hat; clear hat
  have Hs := Lib.hid hs; clear hs
  have Hin := Lib.hid hin; clear hin
  have Hd := Lib.hid hd; clear hd
  have HqS := Lib.hid hqS; clear hqS
  clear h hyes
  obtain ⟨A, hA⟩ : ∃ A : Int, (if (Dsk.wr s.data.toList k n 0 d).down = true then 40 else 0) = A := ⟨_, rfl⟩
  rw [hA]
  have HA := Lib.hid hA; clear hA
  go_enter Try.func34, Try.ntmps34
  go_wp2_with fail
  refine Hin.out.mono ?_; rintro e w' ⟨rfl, rfl⟩
  go_wp2_with fail
  go_loopw [8] (fun c wr => ∃ i d' S', i ≤ n ∧ c = .int .i64 (i : Int) ∧ d'.down = false ∧ Dsk.wr s.data.toList k (n - i) i d' = Dsk.wr s.data.toList k n 0 d ∧ d'.n = d.n ∧ d'.ops + (n - i) ≤ 1099511627776 ∧ Turns S w wr ∧ (∀ j, S' j → S j ∨ w.heap.size ≤ j) ∧ RefAt S' q d' wr) (fun c _ => n - (intOf c).toNat)
  case atStart => exact ⟨0, d, S, by omega, rfl, Hd.out, rfl, rfl, by omega, Turns.refl S w, fun j h => .inl h, Hat.out⟩
  case round =>
    obtain ⟨i, d', S', hi, rfl, hdd, hwr, hn', hops', ht, hS', vB, vL, hr⟩ := hrel
    have c1 := hr.c1
    have c2 := hr.c2
    have c3' := hr.c3
    rw [hdd] at c3'
    have f3 := hr.free 3
    have hcnt := hr.cnt
    have hfu := hr.ok.fu
    have hqr := hr.lt q hr.hq
    have Hwr := Lib.hid hwr; clear hwr
    have Hn' := Lib.hid hn'; clear hn'
    have Hdd := Lib.hid hdd; clear hdd
    have Ht := Lib.hid ht; clear ht
    have HS' := Lib.hid hS'; clear hS'
    have Hr := Lib.hid hr; clear hr
    clear c3
    by_cases hlt : i < n
    · have hstep : Dsk.wr s.data.toList k (n - i) i d' = if d'.fuse = 0 then { d' with down := true } else Dsk.wr s.data.toList k (n - (i + 1)) (i + 1) (Dsk.put { d' with fuse := if 0 < d'.fuse then d'.fuse - 1 else d'.fuse } (k + i) (Dsk.sect s.data.toList i)) := by
        rw [show n - i = (n - (i + 1)) + 1 by omega]; rfl
      have Hstep := Lib.hid hstep; clear hstep
      by_cases hf : d'.fuse = 0
      · rw [hf, show max (0 : Int) (-1) = 0 from rfl] at c2
        have hE : Dsk.wr s.data.toList k n 0 d = { d' with down := true } := by rw [← Hwr.out, Hstep.out, if_pos hf]
        have hfin : RefIn S' q { d' with down := true } (wr.setCell ⟨q, 3, none⟩ (.bool true)) vB vL := by
          have := Hr.out.turn (w' := wr.setCell ⟨q, 3, none⟩ (.bool true)) ((Turns.refl (fun k => k = q) wr).set q 3 _ (fun _ => rfl)) d'.fuse true hfu (by rw [heap_setCell_same wr q 3 _ _ _ Hr.out.row]; rfl)
          exact this
        have Hfin := Lib.hid hfin; clear hfin
        have HE := Lib.hid hE; clear hE
        have Hf := Lib.hid hf; clear hf
        clear c1 hfu
        go_wp2_with fail
        go_ret
        refine ⟨by rw [← HA.out, HE.out]; rfl, Ht.out.set q 3 _ (fun _ => HqS.out), S', HS'.out, ?_⟩
        rw [HE.out]
        exact ⟨_, _, Hfin.out⟩
      · have hx0 : 0 ≤ (i : Int) * 64 := by omega
        have hx1 : (i : Int) * 64 ≤ ((i : Int) + 1) * 64 := by omega
        have hx2 : ((i : Int) + 1) * 64 ≤ (s.size : Int) := by have := Hs.out; omega
        have hx3 : i * 64 ≤ (i + 1) * 64 := by omega
        have hx4 : (i + 1) * 64 ≤ s.size := by have := Hs.out; omega
        -- both ways the fuse goes
        obtain ⟨f, hfv⟩ : ∃ f, f = if 0 < d'.fuse then d'.fuse - 1 else d'.fuse := ⟨_, rfl⟩
        have hfr : -9223372036854775808 ≤ f ∧ f ≤ 9223372036854775807 := by rw [hfv]; split <;> omega
        obtain ⟨lv, hlv⟩ : ∃ lv, lv = max d'.fuse (-1) := ⟨_, rfl⟩
        have hl1 : lv ≠ 0 := by rw [hlv]; omega
        have hl2 : max (lv - 1) (-1) = max f (-1) := by rw [hlv, hfv]; split <;> omega
        have hl3 : -1 ≤ lv ∧ lv ≤ 9223372036854775807 := by rw [hlv]; omega
        have hb0 : (lv == 0) = false := by rw [beq_eq_false_iff_ne]; exact hl1
        rw [← hlv] at c2
        rw [← hfv] at Hstep
        have Hf := Lib.hid hf; clear hf
        have Hfr := Lib.hid hfr; clear hfr
        have Hl2 := Lib.hid hl2; clear hl2
        have Hlv := Lib.hid hlv; clear hlv
        clear hl1 hfv hfu
        have C1 := Lib.hid c1; clear c1
        have hkn : k + i < d'.n := by have := Hn'.out; omega
        have hsz := sect_size s i n Hs.out hlt
        have hsb2 := sect_bytes s i
        obtain ⟨m, hm⟩ : ∃ m, m = d'.L.length := ⟨_, rfl⟩
        have hmb : m ≤ 1099511627776 := by omega
        have Hm := Lib.hid hm; clear hm
        go_wp2_with fail
        refine wp_region_mid_np 16 18 (by kernel_rfl) (by kernel_rfl) (fun u => u.cell? ⟨q, 1, none⟩ = some vL) C1.out ?_
        simp only [List.take_succ_cons, List.take_zero, List.drop_succ_cons, List.drop_zero, Nat.reduceSub]
        have hki : (k : Int) + (i : Int) ≤ 16384 := by omega
        refine take_move (.tmp 0) (.pointer (some ⟨q, 0, none⟩)) rfl rfl rfl ?_
        simp only [Act.put, List.setIfInBounds_toArray, List.set_cons_zero, List.set_cons_succ]
        refine take_move (.tmp 0) (.pointer (some ⟨q, 0, none⟩)) rfl rfl rfl ?_
        simp only [Act.put, List.setIfInBounds_toArray, List.set_cons_zero, List.set_cons_succ]
        refine take_nil (.tmp 41) ⟨q, 0, none⟩ rfl rfl rfl ?_
        simp only [Act.put, List.setIfInBounds_toArray, List.set_cons_zero, List.set_cons_succ]
        refine take_one (.pointer (some ⟨q, 1, none⟩)) rfl (fun u _ => by go_simp) ?_
        simp only [Act.put, List.setIfInBounds_toArray, List.set_cons_zero, List.set_cons_succ]
        refine take_load 57 (.tmp 43) ⟨q, 1, none⟩ vL rfl rfl rfl (fun u hu => load_puts _ _ _ _ hu) ?_
        simp only [Act.put, List.setIfInBounds_toArray, List.set_cons_zero, List.set_cons_succ]
        refine take_move (.tmp 1) (.int .i64 (k : Int)) rfl rfl rfl ?_
        simp only [Act.put, List.setIfInBounds_toArray, List.set_cons_zero, List.set_cons_succ]
        refine take_move (.tmp 8) (.int .i64 (i : Int)) rfl rfl rfl ?_
        simp only [Act.put, List.setIfInBounds_toArray, List.set_cons_zero, List.set_cons_succ]
        refine take_one (.int .i64 ((k : Int) + (i : Int))) rfl (fun u _ => by go_simp; exact IntWalk.i64_in _ (by omega)) ?_
        simp only [Act.put, List.setIfInBounds_toArray, List.set_cons_zero, List.set_cons_succ]
        refine take_move (.tmp 2) (.string s) rfl rfl rfl ?_
        simp only [Act.put, List.setIfInBounds_toArray, List.set_cons_zero, List.set_cons_succ]
        refine take_move (.tmp 8) (.int .i64 (i : Int)) rfl rfl rfl ?_
        simp only [Act.put, List.setIfInBounds_toArray, List.set_cons_zero, List.set_cons_succ]
        refine take_one (.int .i64 ((i : Int) * 64)) rfl (fun u _ => by go_simp; exact IntWalk.i64_in _ (by omega)) ?_
        simp only [Act.put, List.setIfInBounds_toArray, List.set_cons_zero, List.set_cons_succ]
        refine take_move (.tmp 8) (.int .i64 (i : Int)) rfl rfl rfl ?_
        simp only [Act.put, List.setIfInBounds_toArray, List.set_cons_zero, List.set_cons_succ]
        refine take_one (.int .i64 ((i : Int) + 1)) rfl (fun u _ => by go_simp; exact IntWalk.i64_in _ (by omega)) ?_
        simp only [Act.put, List.setIfInBounds_toArray, List.set_cons_zero, List.set_cons_succ]
        refine take_one (.int .i64 (((i : Int) + 1) * 64)) rfl (fun u _ => by go_simp; exact IntWalk.i64_in _ (by omega)) ?_
        simp only [Act.put, List.setIfInBounds_toArray, List.set_cons_zero, List.set_cons_succ]
        refine take_one (.string (s.extract (i * 64) ((i + 1) * 64))) rfl (fun u _ => by go_simp; rw [if_pos (by omega), if_pos (by omega), show ((i : Int) * 64).toNat = i * 64 by omega, show (((i : Int) + 1) * 64).toNat = (i + 1) * 64 by omega]) ?_
        simp only [Act.put, List.setIfInBounds_toArray, List.set_cons_zero, List.set_cons_succ]
        refine take_one (.agg #[.int .i64 ((k : Int) + (i : Int)), .string (s.extract (i * 64) ((i + 1) * 64))]) rfl (fun u _ => by go_simp) ?_
        simp only [Act.put, List.setIfInBounds_toArray, List.set_cons_zero, List.set_cons_succ]
        refine take_done ?_
        generalize hex : s.extract (i * 64) ((i + 1) * 64) = x at *
        have hxs : x = ⟨(Dsk.sect s.data.toList i).toArray⟩ := by rw [← ba_eta x, hsb2]
        have hxl : (Dsk.sect s.data.toList i).length = 64 := by rw [← hsb2, ba_len]; exact hsz
        refine mid_one (w' := wr.drew.alloc (.cells #[.int .i64 ((k : Int) + (i : Int)), .string x] 73)) (.slice (some ⟨wr.heap.size, 0, none⟩) 1 1) rfl ?_ ?_ ?_
        · exact run_slice_op 57 1 [(0, .tmp 55)] rfl (slice_put _ _ rfl rfl wr.drew)
        · rw [World.cell?_of_block (Below.heap_alloc wr.drew _ q hqr)]; exact C1.out
        have hb1 : Below wr.heap.size wr (wr.drew.alloc (.cells #[.int .i64 ((k : Int) + (i : Int)), .string x] 73)) := ((Below.refl _ wr).drew).alloc (Nat.le_refl _) _
        have hpc : (#[.int .i64 ((k : Int) + (i : Int)), .string x] : Array Value).toList = pcells (k + i, Dsk.sect s.data.toList i) := by rw [hxs]; rfl
        have hrL : wr.drew.ownsRow 0 73 2 vL m (puts d'.L) := by rw [Hm.out]; exact World.ownsRow.drew Hr.out.rL
        refine mid_wp rfl (wp_append_lies _ (.tmp 44) (.tmp 56) 57 rfl 0 73 j0 _ 2 24 Try.underlying57 Hj.out Hj0.out Hj1.out Hj2.out (by rfl) (by decide) vL m (puts d'.L) rfl (hrL.alloc _) ⟨wr.heap.size, 0, none⟩ 1 1 _ rfl rfl (World.news_of_block (cs := #[.int .i64 ((k : Int) + (i : Int)), .string x]) (heap_alloc_new wr.drew _)) (by intro u hu; simp at hu; rcases hu with rfl | rfl <;> rfl) (by decide) (by unfold maxLen; omega) (by omega) (Nat.zero_le _) (wr.heap.size + 1) (by simp) ?_)
        intro g cap w4 hown4 hg4 hat hgl
        rw [hpc] at hown4
        have hqg : vL.ownBlock ≠ some q := Hr.out.qL
        have e4 : w4.heap[q]? = wr.heap[q]? := by
          rw [hg4.block q (by simp; omega) (fun e => hqg e.symm)]
          exact Below.heap_alloc wr.drew _ q hqr
        have hrow4 : w4.heap[q]? = some (.cells (rcells d' vB vL) 59 (0, 0)) := by rw [e4]; exact Hr.out.row
        have q1 : w4.cell? ⟨q, 1, none⟩ = some vL := by rw [cell_of_row w4 q 1 _ _ _ hrow4]; rfl
        have g1 := row_free hrow4 1
        have row5 := heap_setCell_same w4 q 1 _ _ (.slice (some ⟨g, 0, none⟩) (m + 1) cap) hrow4
        have q2 : (w4.setCell ⟨q, 1, none⟩ (.slice (some ⟨g, 0, none⟩) (m + 1) cap)).cell? ⟨q, 2, none⟩ = some (.int .i64 lv) := by
          rw [cell_of_row _ q 2 _ _ _ row5, Hlv.out]; rfl
        have g2 := row_free row5 2
        refine ⟨q1, mid_list ?_⟩
        have hat' : vL.ownBlock = some g ∨ wr.heap.size ≤ g := by rcases hat with h | h; exact .inl h; exact .inr (by omega)
        have hfin := fun (lv' : Int) (hlv' : lv' = max f (-1)) => Hr.out.put_done (k + i) (Dsk.sect s.data.toList i) hkn hxl hb1 (by rw [← Hm.out]; exact hown4) hg4 hat' f lv' hlv' Hfr.out
        rw [← Hm.out] at hfin
        have Hfin := Lib.hid hfin; clear hfin
        clear hrow4 row5 hown4 hg4 hat hat' hgl hb1 hpc hrL e4 hqg hxs hxl hex hsz hsb2 hx0 hx1 hx2 hx3 hx4 hki c2
        go_wp2
        apply NoPanic.normal
        go_wp2
        all_goals
          go_roundw
          case rel =>
            have h1 := Hwr.out
            rw [Hstep.out, if_neg Hf.out] at h1
            obtain ⟨ht3, S3, hS3, hat3⟩ := Hfin.out _ (by have := Hl2.out; omega)
            refine ⟨i + 1, Dsk.put { d' with fuse := f } (k + i) (Dsk.sect s.data.toList i), S3, by omega, by go_num, Hdd.out, h1, Hn'.out, by simp only [Dsk.put]; omega, Ht.out.trans ht3 (fun j hj hj2 => ?_), fun j hj => ?_, hat3⟩
            · rcases HS'.out j hj2 with h | h
              · exact h
              · omega
            · rcases hS3 j hj with h | h
              · exact HS'.out j h
              · have := Ht.out.size; exact .inr (by omega)
          case measure => simp [intOf]; omega
    · obtain rfl : i = n := by omega
      have hE : Dsk.wr s.data.toList k i 0 d = d' := by rw [← Hwr.out, Nat.sub_self]; rfl
      have HE := Lib.hid hE; clear hE
      go_wp2_with fail
      go_ret
      rw [HE.out]
      exact ⟨by rw [← HA.out, HE.out, Hdd.out]; rfl, Ht.out, S', HS'.out, _, _, Hr.out⟩
end
end Go.Proofs.Ytjlkppdailkanaa
