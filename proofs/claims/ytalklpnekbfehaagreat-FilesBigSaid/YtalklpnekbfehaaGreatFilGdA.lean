/- Put together of: FilGood FilLive FilLive2 FilLive3 -/
import Derived.Test.YtalklpnekbfehaaGreatFilOpA
import Derived.Test.YtalklpnekbfehaaGreatWalB
import Derived.Test.YtalklpnekbfehaaGreatFilCom
set_option maxRecDepth 100000
/-
  Plain mathematics: files and the sectors that hold them; what is opened of these.
-/
set_option linter.unusedVariables false
namespace Go.Proofs.YtalklpnekbfehaaGreat
namespace Fil
theorem kind_toList (g : Bool) : (kindB g).data.toList = [if g then 1 else 0] := by cases g <;> rfl
theorem ba_toList (s : ByteArray) : ba s.data.toList = s := by
  cases s; rfl
theorem rchg_gtext {x : Chb} (h : x.bad = false) : rchg (gtext x) = some x := by
  have e : (kindB x.g ++ x.n).data.toList = (if x.g then 1 else 0) :: x.n.data.toList := by
    rw [ByteArray.data_append, Array.toList_append, kind_toList]; rfl
  unfold rchg gtext
  rw [if_neg (by simp)]
  simp only [List.getD_cons_zero, List.getD_cons_succ, e]
  rw [if_neg (by simp)]
  simp only [List.take_succ_cons, List.take_zero, List.drop_succ_cons, List.drop_zero, ba_toList]
  have hx : ∀ b : Bool, b = x.g → (⟨x.n, x.d, b⟩ : Chb) = x := fun b hb => by subst hb; rfl
  cases hg : x.g with
  | true =>
    have hd : decide (ba [1] = (⟨#[1]⟩ : ByteArray)) = true := decide_eq_true rfl
    simp only [if_true]
    rw [hd, hx true hg.symm, if_pos ⟨.inr rfl, h⟩]
  | false =>
    have hd : decide (ba [0] = (⟨#[1]⟩ : ByteArray)) = false := by decide
    simp only [Bool.false_eq_true, if_false]
    rw [hd, hx false hg.symm, if_pos ⟨.inl rfl, h⟩]
theorem gtext_length (x : Chb) : (gtext x).length = 2 := rfl
theorem two_gtexts (l : List Chb) (k : Nat) (h : k < l.length) : two (gtexts l) k = gtext (l.getD k default) := by
  have e1 : gtexts l = gtexts (l.take (k + 1)) ++ gtexts (l.drop (k + 1)) := by
    unfold gtexts; rw [← List.flatMap_append, List.take_append_drop]
  have e2 := gtexts_length (l.take k)
  rw [List.length_take, Nat.min_eq_left (by omega)] at e2
  rw [e1, gtexts_take l k h, List.append_assoc]
  unfold two
  rw [← e2, List.drop_left, List.take_append_of_le_length (by rw [gtext_length]; exact Nat.le_refl _), List.take_of_length_le (by rw [gtext_length]; exact Nat.le_refl _)]
theorem rgN_gtexts (l : List Chb) (h : ∀ x ∈ l, x.bad = false) : ∀ k, k ≤ l.length → rgN (gtexts l) k = some (l.take k)
  | 0, _ => by simp [rgN]
  | k + 1, hk => by
    rw [rgN, rgN_gtexts l h k (by omega)]
    have hg : l.getD k default = l[k]'(by omega) := by rw [List.getD_eq_getElem?_getD, List.getElem?_eq_getElem (by omega)]; rfl
    simp only [Option.bind_some]
    rw [two_gtexts l k (by omega), hg, rchg_gtext (h _ (List.getElem_mem _))]
    simp only [Option.map_some]
    rw [List.take_add_one, List.getElem?_eq_getElem (by omega)]
    rfl
theorem rgrp_gtexts {l : List Chb} (h : ∀ x ∈ l, x.bad = false) : rgrp (gtexts l) = some l := by
  unfold rgrp
  have hl := gtexts_length l
  rw [show ((gtexts l).length + 1) / 2 = l.length by omega, rgN_gtexts l h _ (Nat.le_refl _), List.take_length]
theorem rgsN_left (L M : List (List ByteArray)) : ∀ k, k ≤ L.length → rgsN (L ++ M) k = rgsN L k
  | 0, _ => rfl
  | k + 1, hk => by
    rw [rgsN, rgsN, rgsN_left L M k (by omega)]
    have : (L ++ M).getD k [] = L.getD k [] := by
      simp only [List.getD_eq_getElem?_getD]; rw [List.getElem?_append_left (by omega)]
    rw [this]
theorem rgs_append (L : List (List ByteArray)) (g : List ByteArray) {xs ys : List Chb} (h : rgs L = some xs) (hg : rgrp g = some ys) : rgs (L ++ [g]) = some (xs ++ ys) := by
  unfold rgs at h ⊢
  rw [List.length_append, List.length_singleton, rgsN, rgsN_left L [g] _ (Nat.le_refl _), h]
  have : (L ++ [g]).getD L.length [] = g := by simp [List.getD_eq_getElem?_getD]
  rw [this, hg]
  rfl
theorem chs_append (a b : List Chb) : chs (a ++ b) = chs a ++ chs b := List.map_append ..

/-- the text of an area -/
def areaF (f : Nat → Dsk.Sec) (n a : Nat) : Txt := (List.range (arN n)).flatMap fun j => f (arAt n + a * arN n + j)
def Hd (f : Nat → Dsk.Sec) : Option (Nat × Nat) → Prop
  | none => Wal.nought (f 0)
  | some x => x.1 < 2 ∧ x.2 < 18446744073709551616 ∧ f 0 = mark x.1 x.2
def Base (f : Nat → Dsk.Sec) (n : Nat) : Option (Nat × Nat) → Row → Prop
  | none, rb => rb = []
  | some x, rb => aread (areaF f n x.1) = some rb
/-- a disk that holds the files r: the header names o, the area has rb, the log xs -/
structure FG (d : Dsk.St) (s : Wal.St) (o : Option (Nat × Nat)) (rb : Row) (xs : List Chb) (r : Row) : Prop where
  ok : d.Ok
  n8 : 8 ≤ d.n
  log : Wal.Good d s
  from_ : s.from_ = 1
  sn : s.n = logN d.n
  hd : Hd d.fl o
  base : Base d.fl d.n o rb
  loose : ∀ x ∈ d.L, 1 ≤ x.1 ∧ ∀ y, o = some y → ¬ (arAt d.n + y.1 * arN d.n ≤ x.1 ∧ x.1 < arAt d.n + y.1 * arN d.n + arN d.n)
  dec : rgs (s.L.map bas) = some xs
  gen : (gOf o ≤ s.gen ∧ r = puts rb (chs xs)) ∨ (gOf o = s.gen + 1 ∧ r = rb)
theorem Hd.congr {f f' : Nat → Dsk.Sec} {o : Option (Nat × Nat)} (h : Hd f o) (e : f' 0 = f 0) : Hd f' o := by
  cases o with
  | none => show Wal.nought (f' 0); rw [e]; exact h
  | some x => exact ⟨h.1, h.2.1, by rw [e]; exact h.2.2⟩
theorem Base.congr {f f' : Nat → Dsk.Sec} {n : Nat} {o : Option (Nat × Nat)} {rb : Row} (h : Base f n o rb) (e : ∀ y, o = some y → ∀ j, arAt n + y.1 * arN n ≤ j → j < arAt n + y.1 * arN n + arN n → f' j = f j) : Base f' n o rb := by
  cases o with
  | none => exact h
  | some x =>
    have h' : aread (areaF f n x.1) = some rb := h
    show aread (areaF f' n x.1) = some rb
    rw [← h']
    congr 1
    unfold areaF
    apply Dsk.flatMap_congr'
    intro j hj
    have := List.mem_range.1 hj
    exact e x rfl _ (by omega) (by omega)
theorem opn_fg {d : Dsk.St} {s : Wal.St} {o : Option (Nat × Nat)} {rb : Row} {xs : List Chb} {r : Row} (h : FG d s o rb xs r) (hL : d.L = []) (hd : d.down = false) (he : s.err = 0) :
    mkE d = 0 ∧ mkO d = o ∧ areaOf d o = some rb ∧ Wal.open_ d 1 (logN d.n : Nat) = (some s, 0) := by
  have e0 : Dsk.rd d 0 1 = d.fl 0 := by rw [Wal.rd_fl hL]; simp
  have em : readMark (Dsk.rd d 0 1) = some o := by
    rw [e0]
    have hh := h.hd
    cases o with
    | none =>
      have hh : Wal.nought (d.fl 0) := hh
      unfold readMark; rw [if_pos hh]
    | some x =>
      obtain ⟨h1, h2, h3⟩ := hh
      rw [h3]; exact readMark_mark _ _ h1 h2
  refine ⟨?_, ?_, ?_, ?_⟩
  · unfold mkE; rw [if_neg (by rw [hd]; decide), em]; rfl
  · unfold mkO; rw [if_neg (by rw [hd]; decide), em]; rfl
  · have hb := h.base
    cases o with
    | none =>
      have hb : rb = [] := hb
      rw [hb]; rfl
    | some x =>
      show aread (Dsk.rd d _ _) = some rb
      rw [Wal.rd_fl hL]; exact hb
  · have := Wal.open_good h.log hL hd he
    rw [h.from_, h.sn] at this
    exact this
theorem crash_fg {d : Dsk.St} {s : Wal.St} {o : Option (Nat × Nat)} {rb : Row} {xs : List Chb} {r : Row} (h : FG d s o rb xs r) (keep : List UInt8) : FG (Dsk.crash d keep) { s with err := 0 } o rb xs r := by
  have hc := Wal.crash_good h.log keep
  have hl : ∀ j, (∀ x ∈ d.L, x.1 ≠ j) → (Dsk.crash d keep).fl j = d.fl j := fun j hj => Dsk.lay_other (fun x hx => hj x (Dsk.kept_mem hx)) _
  refine ⟨?_, h.n8, hc.1, h.from_, h.sn, h.hd.congr (hl 0 (fun x hx e => by have := (h.loose x hx).1; omega)), h.base.congr (fun y hy j h1 h2 => hl j (fun x hx e => (h.loose x hx).2 y hy ⟨by omega, by omega⟩)), fun x hx => by simp [Dsk.crash, Dsk.settle] at hx, h.dec, h.gen⟩
  have hs := Dsk.settle_ok h.ok keep
  exact ⟨hs.lo, hs.hi, hs.fl, hs.at_, hs.sz, by show -9223372036854775808 ≤ (-1 : Int) ∧ (-1 : Int) ≤ _; omega⟩
theorem new_fg {n : Nat} (h8 : 8 ≤ n) (hn : n ≤ 16384) : FG (Dsk.new n) ⟨0, 0, 1, logN n, [], 0⟩ none [] [] [] := by
  have hf := ar_fit h8
  refine ⟨Dsk.new_ok (by omega) hn, h8, ⟨⟨.inr ⟨by unfold Wal.nought; simp [Dsk.new, Dsk.zer], rfl, rfl⟩, rfl⟩, fun x hx => by simp [Dsk.new] at hx, fun _ => ⟨rfl, rfl⟩, .inl rfl, ⟨by show (0 : Nat) < _; omega, by show (0 : Nat) ≤ _; omega, hf.2.2, by show 1 + logN n ≤ n; omega, hn, by simp, fun l hl => by simp at hl, .inl rfl⟩⟩, rfl, rfl, by show Wal.nought Dsk.zer; unfold Wal.nought; simp [Dsk.zer], rfl, fun x hx => by simp [Dsk.new] at hx, rfl, .inl ⟨Nat.le_refl _, rfl⟩⟩
/-- files that are open, on a disk that is up -/
structure Live (d : Dsk.St) (s : Wal.St) (t : St) (o : Option (Nat × Nat)) (rb : Row) (xs : List Chb) : Prop where
  g : FG d s o rb xs t.r
  e : s.err = 0
  q : gOf o ≤ s.gen
  t : t = ⟨o.isSome, aOf o, gOf o, d.n, t.r, 0⟩
theorem opn_live {d : Dsk.St} {s : Wal.St} {t : St} {o : Option (Nat × Nat)} {rb : Row} {xs : List Chb} (h : Live d s t o rb xs) : opn d = (d, some (s, t), 0) := by
  obtain ⟨hL, hd⟩ := h.g.log.live h.e
  obtain ⟨h1, h2, h3, h4⟩ := opn_fg h.g hL hd h.e
  have h4' : (Wal.open_ d 1 (logN d.n : Nat)).1 = some s := by rw [h4]
  rw [fo_done4 h1 (by rw [h2]; exact h3) h4', h2]
  have hr : replay d s (gOf o) rb = (d, s, t.r, 0) := by
    unfold replay
    rw [h.g.dec]
    simp only
    rw [if_pos h.q]
    rcases h.g.gen with ⟨_, e⟩ | ⟨e, _⟩
    · rw [← e]
    · have := h.q; omega
  rw [hr, if_pos rfl]
  simp only
  rw [← h.t]
theorem new_live {n : Nat} (h8 : 8 ≤ n) (hn : n ≤ 16384) : Live (Dsk.new n) ⟨0, 0, 1, logN n, [], 0⟩ ⟨false, 0, 0, n, [], 0⟩ none [] [] := ⟨new_fg h8 hn, rfl, Nat.le_refl _, rfl⟩
end Fil
end Go.Proofs.YtalklpnekbfehaaGreat

/-
  Plain mathematics: what a Commit comes to on the disk.
-/
set_option linter.unusedVariables false
namespace Go.Proofs.YtalklpnekbfehaaGreat
namespace Dsk
theorem sect_len (s : List UInt8) (i : Nat) (h : 64 * (i + 1) ≤ s.length) : (sect s i).length = 64 := by
  unfold sect; rw [List.length_take, List.length_drop]; omega
theorem wr_ok (s : List UInt8) (k : Nat) : ∀ (m i : Nat) (d : St), d.Ok → k + i + m ≤ d.n → 64 * (i + m) ≤ s.length → (wr s k m i d).Ok
  | 0, i, d, h, _, _ => h
  | m + 1, i, d, h, hf, hl => by
    unfold wr
    split
    · exact ⟨h.lo, h.hi, h.fl, h.at_, h.sz, h.fu⟩
    · exact wr_ok s k m (i + 1) _ (put_ok (dec_ok h) (by show k + i < d.n; omega) (sect_len s i (by omega))) (by show k + (i + 1) + m ≤ d.n; omega) (by omega)
/-- nothing outside lo .. hi has changed -/
structure In (d0 : St) (lo hi : Nat) (d : St) : Prop where
  fl : ∀ j, ¬ (lo ≤ j ∧ j < hi) → d.fl j = d0.fl j
  L : ∀ x ∈ d.L, lo ≤ x.1 ∧ x.1 < hi
  n : d.n = d0.n
  ok : d.Ok
theorem In.refl {d : St} (h : d.Ok) (hL : d.L = []) (lo hi : Nat) : In d lo hi d := ⟨fun _ _ => rfl, fun x hx => by rw [hL] at hx; simp at hx, rfl, h⟩
theorem in_write {d0 d : St} {lo hi : Nat} (h : In d0 lo hi d) {a : Nat} {s : List UInt8} (h1 : lo ≤ a) (h2 : a + s.length / 64 ≤ hi) : In d0 lo hi (write d (a : Int) s).1 := by
  by_cases hd : d.down = true
  · have : write d (a : Int) s = (d, 40) := by unfold Dsk.write; rw [if_pos hd]
    rw [this]; exact h
  by_cases hc : s.length % 64 ≠ 0 ∨ ¬ (0 ≤ (a : Int) ∧ (a : Int) + (s.length / 64 : Nat) ≤ (d.n : Int))
  · have : write d (a : Int) s = (d, 2) := by unfold Dsk.write; rw [if_neg hd, if_pos hc]
    rw [this]; exact h
  have e : (write d (a : Int) s).1 = wr s a (s.length / 64) 0 d := by unfold Dsk.write; rw [if_neg hd, if_neg hc]; simp
  have hfit : a + s.length / 64 ≤ d.n := by omega
  obtain ⟨m', g1, g2, g3, _, _⟩ := wr_nws s a (s.length / 64) 0 d (by simpa using hd)
  have hn := write_n d (a : Int) s
  rw [e] at hn ⊢
  refine ⟨fun j hj => by rw [g3]; exact h.fl j hj, fun x hx => ?_, by rw [hn]; exact h.n, wr_ok s a _ 0 d h.ok (by omega) (by omega)⟩
  rw [g2] at hx
  rcases List.mem_append.1 hx with hx | hx
  · exact h.L x hx
  · have := nws_at hx
    omega
theorem in_flush {d0 d : St} {lo hi : Nat} (h : In d0 lo hi d) : In d0 lo hi (flush d).1 := by
  unfold Dsk.flush
  split
  · exact h
  · refine ⟨fun j hj => ?_, fun x hx => by simp [settle] at hx, h.n, settle_ok h.ok _⟩
    show lay (kept [1] d.L) d.fl j = d0.fl j
    rw [lay_other (fun x hx e => ?_)]
    · exact h.fl j hj
    · have := h.L x (kept_mem hx)
      omega
end Dsk
namespace Wal
open Dsk
def Op.inside (lo hi : Nat) : Op → Prop
  | .wr a s => lo ≤ a ∧ a + s.length / 64 ≤ hi
  | .fl => True
theorem one_in {d0 d : Dsk.St} {lo hi : Nat} (h : In d0 lo hi d) (o : Op) (ho : o.inside lo hi) : In d0 lo hi (one d o).1 := by
  cases o with
  | wr a s => exact in_write h ho.1 ho.2
  | fl => exact in_flush h
theorem steps_in {d0 : Dsk.St} {lo hi : Nat} : ∀ (L : List Op) (d : Dsk.St), In d0 lo hi d → (∀ o ∈ L, o.inside lo hi) → In d0 lo hi (steps L d).1
  | [], d, h, _ => h
  | o :: r, d, h, ho => by
    unfold steps
    have h1 := one_in h o (ho o (by simp))
    split
    · exact steps_in r _ h1 (fun x hx => ho x (by simp [hx]))
    · exact h1
theorem append_in {d : Dsk.St} {s : St} {m : Nat} (h : s.Ok m) (hd : d.Ok) (hL : d.L = []) (l : Grp) : In d s.from_ (s.from_ + s.n) (append d s l).1 := by
  have hr := In.refl hd hL s.from_ (s.from_ + s.n)
  have h1 := h.used
  have h2 := h.lo
  unfold append
  split
  · exact hr
  split
  · exact hr
  split
  · exact hr
  rename_i hc
  have hg := grp_length (Oct.row l).1
  refine steps_in _ d hr (fun o ho => ?_)
  simp only [appendOps, List.mem_cons, List.not_mem_nil, or_false] at ho
  rcases ho with rfl | rfl | rfl | rfl
  · exact ⟨by omega, by rw [hg]; omega⟩
  · trivial
  · exact ⟨Nat.le_refl _, by rw [mark_length]; omega⟩
  · trivial
theorem reset_in {d : Dsk.St} {s : St} {m : Nat} (h : s.Ok m) (hd : d.Ok) (hL : d.L = []) : In d s.from_ (s.from_ + s.n) (reset d s).1 := by
  have hr := In.refl hd hL s.from_ (s.from_ + s.n)
  have h2 := h.lo
  unfold reset
  split
  · exact hr
  refine steps_in _ d hr (fun o ho => ?_)
  simp only [resetOps, List.mem_cons, List.not_mem_nil, or_false] at ho
  rcases ho with rfl | rfl
  · exact ⟨Nat.le_refl _, by rw [mark_length]; omega⟩
  · trivial
end Wal
namespace Fil
open Dsk
theorem err_at {ee : Nat → Int} {n k : Nat} (hk : k < n) (hz : ∀ j, j < k → ee j = 0) (he : ee k ≠ 0) : err ee n = ee k ∧ at_ ee n = k + 1 := by
  obtain ⟨h1, h2, h3⟩ := stop_spec ee n 0 (fun j hj => by omega)
  have e : stop ee n 0 = k := by
    have a1 : stop ee n 0 ≤ k := by
      rcases Nat.lt_or_ge k (stop ee n 0) with h | h
      · exact absurd (h2 k h) he
      · exact h
    have a2 : ¬ stop ee n 0 < k := fun h => h3 (by omega) (hz _ h)
    omega
  unfold err at_
  rw [e, if_neg (by omega), if_neg (by omega)]
  exact ⟨rfl, rfl⟩
theorem err_none {ee : Nat → Int} {n : Nat} (hz : ∀ j, j < n → ee j = 0) : err ee n = 0 ∧ at_ ee n = n := by
  obtain ⟨h1, h2, h3⟩ := stop_spec ee n 0 (fun j hj => by omega)
  have e : stop ee n 0 = n := by
    rcases Nat.lt_or_ge (stop ee n 0) n with h | h
    · exact absurd (hz _ h) (h3 (by omega))
    · omega
  unfold err at_
  rw [e, if_pos rfl, if_pos rfl]
  exact ⟨rfl, rfl⟩
/-- the log's sectors lie between the header and the areas -/
theorem log_ends {d : Dsk.St} {s : Wal.St} {o : Option (Nat × Nat)} {rb : Row} {xs : List Chb} {r : Row} (h : FG d s o rb xs r) : s.from_ + s.n = arAt d.n ∧ s.from_ = 1 := by
  rw [h.sn, h.from_]; unfold arAt; exact ⟨rfl, rfl⟩
/-- the disk's log part has turned -/
theorem FG.turn {d d' : Dsk.St} {s s' : Wal.St} {o : Option (Nat × Nat)} {rb : Row} {xs xs' : List Chb} {r r' : Row} (h : FG d s o rb xs r) (hi : In d s.from_ (s.from_ + s.n) d') (hg : Wal.Good d' s') (hf : s'.from_ = s.from_) (hn : s'.n = s.n)
    (hd : rgs (s'.L.map bas) = some xs') (hgen : (gOf o ≤ s'.gen ∧ r' = puts rb (chs xs')) ∨ (gOf o = s'.gen + 1 ∧ r' = rb)) : FG d' s' o rb xs' r' := by
  obtain ⟨e1, e2⟩ := log_ends h
  refine ⟨hi.ok, by rw [hi.n]; exact h.n8, hg, by rw [hf, h.from_], by rw [hn, h.sn, hi.n], h.hd.congr (hi.fl 0 (by omega)), ?_, fun x hx => ?_, hd, hgen⟩
  · rw [hi.n]
    exact h.base.congr (fun y hy j h1 h2 => hi.fl j (by omega))
  · have := hi.L x hx
    rw [hi.n]
    exact ⟨by omega, fun y _ hh => by omega⟩
end Fil
end Go.Proofs.YtalklpnekbfehaaGreat

/-
  Plain mathematics: what a rewrite, and what a Commit comes to on the disk.
-/
set_option linter.unusedVariables false
namespace Go.Proofs.YtalklpnekbfehaaGreat
namespace Fil
open Dsk
theorem area_of {f : Nat → Sec} {n a : Nat} {r : Row} (hs : Sorted r) (hf : Fine r) (hn : n ≤ 16384) (hm : Wal.whole (4 + used r) ≤ arN n)
    (he : ∀ j, j < Wal.whole (4 + used r) → f (arAt n + a * arN n + j) = sect (atext r) j) : aread (areaF f n a) = some r := by
  have hl := atext_length r
  have hw := Wal.whole_lo (4 + used r)
  have hN : arN n ≤ n := by unfold arN; omega
  have e : areaF f n a = atext r ++ (List.range (arN n - Wal.whole (4 + used r))).flatMap fun j => f (arAt n + a * arN n + (Wal.whole (4 + used r) + j)) := by
    unfold areaF
    have hsp : List.range (arN n) = List.range (Wal.whole (4 + used r)) ++ (List.range (arN n - Wal.whole (4 + used r))).map (Wal.whole (4 + used r) + ·) := by
      rw [← List.range_add]; congr 1; omega
    rw [hsp, List.flatMap_append, List.flatMap_map]
    congr 1
    rw [flatMap_congr' (g := sect (atext r)) (fun j hj => he j (List.mem_range.1 hj)), sect_all, List.take_of_length_le (by omega)]
  rw [e]
  exact aread_atext r hs hf (by omega) _
theorem FG.other {d d' : Dsk.St} {s : Wal.St} {o : Option (Nat × Nat)} {rb : Row} {xs : List Chb} {r : Row} {f : Nat} (h : FG d s o rb xs r) (hok : d'.Ok) (hn : d'.n = d.n)
    (hdis : ∀ y, o = some y → ∀ j, f ≤ j → j < f + arN d.n → ¬ (arAt d.n + y.1 * arN d.n ≤ j ∧ j < arAt d.n + y.1 * arN d.n + arN d.n)) (hfa : arAt d.n ≤ f)
    (hfl : ∀ j, ¬ (f ≤ j ∧ j < f + arN d.n) → d'.fl j = d.fl j) (hLx : ∀ x ∈ d'.L, f ≤ x.1 ∧ x.1 < f + arN d.n) : FG d' { s with err := 40 } o rb xs r := by
  obtain ⟨e1, e2⟩ := log_ends h
  have o1 := h.log.ok
  have o2 := o1.used
  have o3 := o1.lo
  refine ⟨hok, by rw [hn]; exact h.n8, ⟨h.log.has.congr (fun j h1 h2 => hfl j (fun hh => ?_)), fun x hx => ?_, fun e => absurd e (by show ¬ ((40 : Int) = 0); decide), .inr rfl, ?_⟩, h.from_, by rw [hn]; exact h.sn, h.hd.congr (hfl 0 (fun hh => by omega)), ?_, fun x hx => ?_, h.dec, h.gen⟩
  · omega
  · have := hLx x hx
    show s.from_ + 1 + s.used ≤ x.1
    omega
  · rw [hn]; exact ⟨o1.gen, o1.used, o1.lo, o1.hi, o1.m, o1.len, o1.fine, .inr (.inr rfl)⟩
  · rw [hn]
    exact h.base.congr (fun y hy j h1 h2 => hfl j (fun hh => hdis y hy j hh.1 hh.2 ⟨h1, h2⟩))
  · have hx' := hLx x hx
    rw [hn]
    exact ⟨by omega, fun y hy hh => hdis y hy x.1 hx'.1 hx'.2 hh⟩
theorem reset_err {d : Dsk.St} {s : Wal.St} (he : s.err = 0) (h : (Wal.reset d s).2.2 ≠ 0) : (Wal.reset d s).2.1.err = (Wal.reset d s).2.2 := by
  unfold Wal.reset at h ⊢
  rw [if_neg (fun e => e he)] at h ⊢
  simp only at h ⊢
  rw [if_neg h]
theorem append_err {d : Dsk.St} {s : Wal.St} {l : Wal.Grp} (he : s.err = 0) (h : (Wal.append d s l).2.2 ≠ 0) (h4 : (Wal.append d s l).2.2 ≠ 4) (h5 : (Wal.append d s l).2.2 ≠ 5) : (Wal.append d s l).2.1.err = (Wal.append d s l).2.2 := by
  unfold Wal.append at h h4 h5 ⊢
  rw [if_neg (fun e => e he)] at h h4 h5 ⊢
  by_cases hr : (Oct.row l).2 = 0
  · rw [if_neg (fun e => e hr)] at h h4 h5 ⊢
    by_cases hc : s.n - 1 - s.used < Wal.secs (Oct.row l).1
    · rw [if_pos hc] at h4; exact absurd rfl h4
    · rw [if_neg hc] at h ⊢
      simp only at h ⊢
      rw [if_neg h]
  · rw [if_pos hr] at h5
    exfalso
    simp only at h5
    unfold Oct.row at h5 hr
    split at h5
    · rename_i hc; rw [if_pos hc] at hr; exact hr rfl
    · exact h5 rfl

set_option maxHeartbeats 1000000 in
theorem rewr_live {d : Dsk.St} {s : Wal.St} {t : St} {o : Option (Nat × Nat)} {rb : Row} {xs : List Chb} (h : Live d s t o rb xs) (hg : s.gen + 1 < 18446744073709551616) {r : Row} (hs : Sorted r) (hf : Fine r) (hu : used r ≤ arN d.n * 64 - 4) :
    ((rewr d s t r).2.2.2 = 0 ∧ ∃ o', Live (rewr d s t r).1 (rewr d s t r).2.1 { (rewr d s t r).2.2.1 with r := r, err := 0 } o' r [] ∧ (rewr d s t r).2.1.gen = s.gen + 1) ∨
    ((rewr d s t r).2.2.2 = 40 ∧ (rewr d s t r).2.2.1.n = t.n ∧ (rewr d s t r).2.2.1.a < 2 ∧ ∃ s' o' rb' xs' r', FG (rewr d s t r).1 s' o' rb' xs' r' ∧ (r' = t.r ∨ r' = r) ∧ s'.gen = s.gen) := by
  obtain ⟨hL, hd⟩ := h.g.log.live h.e
  have ho := h.g.log.ok
  have hhi := h.g.ok.hi
  have hfit := ar_fit h.g.n8
  have tn : t.n = d.n := congrArg St.n h.t
  have ta : t.a = aOf o := congrArg St.a h.t
  have ha2 : aOf o < 2 := by
    have := h.g.hd
    cases o with
    | none => decide
    | some x => exact this.1
  obtain ⟨a', ha'⟩ : ∃ a', a' = 1 - aOf o := ⟨_, rfl⟩
  obtain ⟨f, hfd⟩ : ∃ f, f = arAt d.n + a' * arN d.n := ⟨_, rfl⟩
  have hup : Wal.up s.gen = s.gen + 1 := Nat.mod_eq_of_lt hg
  obtain ⟨g, hgd⟩ : ∃ g, g = s.gen + 1 := ⟨_, rfl⟩
  obtain ⟨m, hm⟩ : ∃ m, m = Wal.whole (4 + used r) := ⟨_, rfl⟩
  have hmN : m ≤ arN d.n := by
    have := Wal.whole_hi (4 + used r)
    have hu4 : 4 ≤ used r := by unfold used; omega
    omega
  have hlen : (atext r).length = 64 * m := by rw [atext_length, hm]; omega
  have hff : f + arN d.n ≤ d.n ∧ arAt d.n ≤ f := by
    rcases (show a' = 0 ∨ a' = 1 by omega) with e | e <;> rw [e] at hfd <;> omega
  have hdis : ∀ y, o = some y → ∀ j, f ≤ j → j < f + arN d.n → ¬ (arAt d.n + y.1 * arN d.n ≤ j ∧ j < arAt d.n + y.1 * arN d.n + arN d.n) := fun y hy j h1 h2 hh => by
    have e : aOf o = y.1 := by rw [hy]; rfl
    rcases (show y.1 = 0 ∨ y.1 = 1 by omega) with e1 | e1
    · rw [e1] at hh
      rw [show a' = 1 by omega] at hfd
      omega
    · rw [e1] at hh
      rw [show a' = 0 by omega] at hfd
      omega
  have hR : rewr d s t r = (rwD d s f r a' g (at_ (rwE d s f r a' g) 6), rwS d s f r a' g (at_ (rwE d s f r a' g) 6), (if at_ (rwE d s f r a' g) 6 = 6 then { t with nm := true, a := a', q := g } else t), err (rwE d s f r a' g) 6) := by
    unfold rewr; rw [tn, ta, ← ha', ← hfd, hup, ← hgd]
  -- the area is written
  obtain ⟨m1, hm1, hL1, hf1, hc1⟩ := write_room (d := d) (a := f) (m := m) (s := atext r) hd hlen (by omega)
  rw [hL, List.nil_append] at hL1
  have hi1 : In d f (f + arN d.n) (Dsk.write d (f : Int) (atext r)).1 := in_write (In.refl h.g.ok hL _ _) (Nat.le_refl _) (by rw [hlen]; omega)
  have E0 : rwE d s f r a' g 0 = (Dsk.write d (f : Int) (atext r)).2 := rfl
  have D1 : rwD d s f r a' g 1 = (Dsk.write d (f : Int) (atext r)).1 := rfl
  rcases hc1 with ⟨hz1, rfl, hd1⟩ | ⟨hz1, hlt1⟩
  case inr =>
    right
    obtain ⟨x1, x2⟩ := err_at (ee := rwE d s f r a' g) (n := 6) (k := 0) (by omega) (fun j hj => by omega) (by rw [E0, hz1]; decide)
    rw [hR, x1, x2, E0, hz1]
    refine ⟨rfl, ?_, ?_, ?_⟩
    · simp
    · simp only [Nat.zero_add, Nat.reduceEqDiff, if_false]; rw [ta]; exact ha2
    · exact ⟨_, o, rb, xs, t.r, h.g.other (f := f) hi1.ok hi1.n hdis hff.2 hi1.fl hi1.L, .inl rfl, rfl⟩
  -- flushed
  obtain ⟨z2, f2, L2, d2, n2⟩ := flush_up (d := (Dsk.write d (f : Int) (atext r)).1) hd1
  have hi2 := in_flush hi1
  have E1 : rwE d s f r a' g 1 = (flush (Dsk.write d (f : Int) (atext r)).1).2 := rfl
  obtain ⟨D2, hD2⟩ : ∃ D2, D2 = (flush (Dsk.write d (f : Int) (atext r)).1).1 := ⟨_, rfl⟩
  rw [← hD2] at f2 L2 d2 n2 hi2
  have eD2 : rwD d s f r a' g 2 = D2 := hD2.symm
  -- the header is written
  have hw3 := write_room (d := D2) (a := 0) (m := 1) (s := mark a' g) d2 (by rw [mark_length]) (by have := hi2.n; omega)
  have hi3 : In D2 0 1 (Dsk.write D2 ((0 : Nat) : Int) (mark a' g)).1 := in_write (In.refl hi2.ok L2 _ _) (Nat.le_refl _) (by rw [mark_length]; omega)
  rw [show ((0 : Nat) : Int) = 0 from rfl] at hw3 hi3
  obtain ⟨m3, hm3, hL3, hf3, hc3⟩ := hw3
  rw [L2, List.nil_append] at hL3
  have E2 : rwE d s f r a' g 2 = (Dsk.write D2 0 (mark a' g)).2 := by rw [hD2]; rfl
  have eD3 : rwD d s f r a' g 3 = (Dsk.write D2 0 (mark a' g)).1 := by rw [hD2]; rfl
  rcases hc3 with ⟨hz3, rfl, hd3⟩ | ⟨hz3, hlt3⟩
  case inr =>
    right
    obtain ⟨x1, x2⟩ := err_at (ee := rwE d s f r a' g) (n := 6) (k := 2) (by omega) (fun j hj => by
      match j, hj with
      | 0, _ => rw [E0, hz1]
      | 1, _ => rw [E1, z2]
      | (j + 2), hj => omega) (by rw [E2, hz3]; decide)
    rw [hR, x1, x2, E2, hz3]
    refine ⟨rfl, ?_, ?_, ?_⟩
    · simp
    · simp only [Nat.reduceAdd, Nat.reduceEqDiff, if_false]; rw [ta]; exact ha2
    · obtain rfl : m3 = 0 := by omega
      have hL3' : (Dsk.write D2 0 (mark a' g)).1.L = [] := by rw [hL3]; rfl
      show ∃ s' o' rb' xs' r', FG (rwD d s f r a' g 3) s' o' rb' xs' r' ∧ _
      rw [eD3]
      exact ⟨_, o, rb, xs, t.r, h.g.other (f := f) hi3.ok (by rw [hi3.n, hi2.n]) hdis hff.2 (fun j hj => by rw [hf3]; exact hi2.fl j hj) (fun x hx => by rw [hL3'] at hx; simp at hx), .inl rfl, rfl⟩
  obtain ⟨z4, f4, L4, d4, n4⟩ := flush_up (d := (Dsk.write D2 0 (mark a' g)).1) hd3
  have hi4 := in_flush hi3
  have E3 : rwE d s f r a' g 3 = (flush (Dsk.write D2 0 (mark a' g)).1).2 := by rw [hD2]; rfl
  obtain ⟨D4, hD4⟩ : ∃ D4, D4 = (flush (Dsk.write D2 0 (mark a' g)).1).1 := ⟨_, rfl⟩
  rw [← hD4] at f4 L4 d4 n4 hi4
  have eD4 : rwD d s f r a' g 4 = D4 := by rw [hD4, hD2]; rfl
  have hn4 : D4.n = d.n := by rw [hi4.n, hi2.n]
  have hm0 : D4.fl 0 = mark a' g := by
    have e1 : nws (mark a' g) 0 0 1 = [(0, mark a' g)] := by
      have : sect (mark a' g) 0 = mark a' g := by
        unfold sect
        rw [List.drop_zero, List.take_of_length_le (by rw [mark_length]; exact Nat.le_refl _)]
      simp [nws, this]
    rw [f4, hL3, e1]
    show upd (Dsk.write D2 0 (mark a' g)).1.fl 0 (mark a' g) 0 = _
    exact upd_same _ _ _
  have hfl4 : ∀ j, j ≠ 0 → D4.fl j = D2.fl j := fun j hj => hi4.fl j (by omega)
  obtain ⟨e1, e2⟩ := log_ends h.g
  have o2 := ho.used
  have o3 := ho.lo
  have hG4 : FG D4 s (some (a', g)) r xs r := by
    refine ⟨hi4.ok, by rw [hn4]; exact h.g.n8, ⟨h.g.log.has.congr (fun j h1 h2 => ?_), fun x hx => by rw [L4] at hx; simp at hx, fun _ => ⟨L4, d4⟩, .inl h.e, by rw [hn4]; exact ho⟩, h.g.from_, by rw [hn4]; exact h.g.sn, ⟨by show a' < 2; omega, by show g < _; omega, hm0⟩, ?_, fun x hx => by rw [L4] at hx; simp at hx, h.g.dec, .inr ⟨hgd, rfl⟩⟩
    · rw [hfl4 j (by omega)]; exact hi2.fl j (by omega)
    · show aread (areaF D4.fl D4.n a') = some r
      rw [hn4]
      refine area_of hs hf hhi (by rw [← hm]; exact hmN) (fun j hj => ?_)
      rw [← hfd, hfl4 _ (by omega), f2, hL1]
      exact lay_nws _ _ _ _ 0 j (Nat.zero_le _) (by omega)
  -- the log is reset
  have hr := Wal.reset_good hG4.log
  have hi5 := Wal.reset_in (m := D4.n) hG4.log.ok hi4.ok L4
  have E4 : rwE d s f r a' g 4 = (Wal.reset D4 s).2.2 := by rw [← eD4]; rfl
  have eD5 : ∀ k, rwD d s f r a' g (k + 5) = (Wal.reset D4 s).1 := fun k => by rw [← eD4]; rfl
  have eS5 : ∀ k, rwS d s f r a' g (k + 5) = (Wal.reset D4 s).2.1 := fun k => by rw [← eD4]; rfl
  rcases hr with ⟨hG5, ⟨z5, _, s5, l5, g5, fr5, n5⟩ | ⟨z5, l5, g5, fr5, n5⟩⟩
  · left
    obtain ⟨x1, x2⟩ := err_none (ee := rwE d s f r a' g) (n := 6) (fun j hj => by
      match j, hj with
      | 0, _ => rw [E0, hz1]
      | 1, _ => rw [E1, z2]
      | 2, _ => rw [E2, hz3]
      | 3, _ => rw [E3, z4]
      | 4, _ => rw [E4, z5]
      | (j + 5), hj => rfl)
    rw [hup, ← hgd] at g5
    rw [hR, x1, x2]
    refine ⟨rfl, some (a', g), ?_, ?_⟩
    · show Live (rwD d s f r a' g (1 + 5)) (rwS d s f r a' g (1 + 5)) _ _ _ _
      rw [eD5, eS5]
      refine ⟨hG4.turn hi5 hG5 fr5 n5 (by rw [l5]; rfl) (.inl ⟨by rw [g5]; exact Nat.le_refl _, rfl⟩), s5, by rw [g5]; exact Nat.le_refl _, ?_⟩
      rw [if_pos rfl]
      have hn5 : (Wal.reset D4 s).1.n = t.n := by rw [hi5.n, hn4, tn]
      rw [hn5]
      rfl
    · show (rwS d s f r a' g (1 + 5)).gen = _
      rw [eS5, g5, hgd]
  · right
    obtain ⟨x1, x2⟩ := err_at (ee := rwE d s f r a' g) (n := 6) (k := 4) (by omega) (fun j hj => by
      match j, hj with
      | 0, _ => rw [E0, hz1]
      | 1, _ => rw [E1, z2]
      | 2, _ => rw [E2, hz3]
      | 3, _ => rw [E3, z4]
      | (j + 4), hj => omega) (by rw [E4]; exact z5)
    have h40 : (Wal.reset D4 s).2.2 = 40 := by
      have a1 := reset_err h.e z5
      have a2 := hG5.err
      omega
    rw [hR, x1, x2, E4, h40]
    refine ⟨rfl, ?_, ?_, ?_⟩
    · simp
    · simp only [Nat.reduceAdd, Nat.reduceEqDiff, if_false]; rw [ta]; exact ha2
    · show ∃ s' o' rb' xs' r', FG (rwD d s f r a' g (0 + 5)) s' o' rb' xs' r' ∧ _
      rw [eD5]
      exact ⟨_, some (a', g), r, xs, r, hG4.turn hi5 hG5 fr5 n5 (by rw [l5]; exact hG4.dec) (.inr ⟨by rw [g5]; exact hgd, rfl⟩), .inr rfl, g5⟩
end Fil
end Go.Proofs.YtalklpnekbfehaaGreat

/-
  Plain mathematics: what a Commit comes to on the disk.
-/
set_option linter.unusedVariables false
namespace Go.Proofs.YtalklpnekbfehaaGreat
namespace Fil
open Dsk
theorem FG.rows {d : Dsk.St} {s : Wal.St} {o : Option (Nat × Nat)} {rb : Row} {xs : List Chb} {r : Row} (h : FG d s o rb xs r) : Sorted r ∧ Fine r := by
  have hb : Sorted rb ∧ Fine rb := by
    have h1 := h.base
    cases o with
    | none =>
      have h1 : rb = [] := h1
      rw [h1]; exact ⟨by simp [Sorted], by intro x hx; simp at hx⟩
    | some x =>
      have := aread_good (show aread _ = some rb from h1)
      exact ⟨this.1, this.2.1⟩
  rcases h.gen with ⟨_, e⟩ | ⟨_, e⟩
  · rw [e]
    have hx : ∀ c ∈ chs xs, c.May := fun c hc => by
      unfold chs at hc
      obtain ⟨x, hx, rfl⟩ := List.mem_map.1 hc
      exact x.bad_may.1 (rgsN_good (show rgsN (s.L.map bas) (s.L.map bas).length = some xs from h.dec) x hx)
    exact ⟨hb.1.puts _, hb.2.puts hx⟩
  · rw [e]; exact hb
/-- what a Commit on a disk that is up comes to -/
inductive CmR (d : Dsk.St) (s : Wal.St) (t : St) (l : List Chb) : Dsk.St × Wal.St × St × Int → Prop
  | bad : l.any Chb.bad = true → CmR d s t l (d, s, t, 2)
  | full : l.any Chb.bad = false → arN t.n * 64 - 4 < used (puts t.r (chs l)) → CmR d s t l (d, s, t, 4)
  | done {d' : Dsk.St} {s' : Wal.St} {t' : St} {o' : Option (Nat × Nat)} {rb' : Row} {xs' : List Chb} : l.any Chb.bad = false → used (puts t.r (chs l)) ≤ arN t.n * 64 - 4 → Live d' s' t' o' rb' xs' → t'.r = puts t.r (chs l) → t'.n = t.n → s'.gen ≤ s.gen + 1 → CmR d s t l (d', s', t', 0)
  | down {d' : Dsk.St} {s' : Wal.St} {t' : St} {g : Wal.St} {o' : Option (Nat × Nat)} {rb' : Row} {xs' : List Chb} {r' : Row} : l.any Chb.bad = false → used (puts t.r (chs l)) ≤ arN t.n * 64 - 4 → FG d' g o' rb' xs' r' → (r' = t.r ∨ r' = puts t.r (chs l)) → g.gen ≤ s.gen → t'.err = 40 → t'.r = t.r → t'.n = t.n → t'.a < 2 → CmR d s t l (d', s', t', 40)
theorem commit_live {d : Dsk.St} {s : Wal.St} {t : St} {o : Option (Nat × Nat)} {rb : Row} {xs : List Chb} (h : Live d s t o rb xs) (hg : s.gen + 1 < 18446744073709551616) (l : List Chb) : CmR d s t l (commit d s t l) := by
  obtain ⟨hL, hd⟩ := h.g.log.live h.e
  have te : t.err = 0 := congrArg St.err h.t
  have tn : t.n = d.n := congrArg St.n h.t
  have ta : t.a = aOf o := congrArg St.a h.t
  have ha2 : t.a < 2 := by
    rw [ta]
    have := h.g.hd
    cases o with
    | none => decide
    | some x => exact this.1
  unfold commit
  rw [if_neg (fun e => e te)]
  by_cases hb : l.any Chb.bad = true
  · rw [if_pos hb]; exact .bad hb
  have hb' : l.any Chb.bad = false := by simpa using hb
  rw [if_neg hb]
  by_cases hu : arN t.n * 64 - 4 < used (puts t.r (chs l))
  · rw [if_pos hu]; exact .full hb' hu
  rw [if_neg hu]
  have hu' : used (puts t.r (chs l)) ≤ arN t.n * 64 - 4 := by omega
  obtain ⟨h1, h2⟩ := h.g.rows
  have hs := h1.puts (chs l)
  have hf := h2.puts (may_all hb')
  have hgood : ∀ x ∈ l, x.bad = false := fun x hx => by simpa using (List.any_eq_false.1 hb') x hx
  obtain ⟨r', hr'⟩ : ∃ r', r' = puts t.r (chs l) := ⟨_, rfl⟩
  rw [← hr'] at hs hf hu' ⊢
  by_cases h45 : (Wal.append d s (grpOf l)).2.2 = 4 ∨ (Wal.append d s (grpOf l)).2.2 = 5
  · obtain ⟨a1, a2⟩ := append_45 h.g.log.ok (grpOf l) h45
    have e : store d s t (grpOf l) r' = rewr d s t r' := by unfold store; rw [if_pos h45, a1, a2]
    rw [e]
    rcases rewr_live h hg hs hf (by rw [← tn]; exact hu') with ⟨w1, o', w2, w3⟩ | ⟨w1, w2, w3, s', o', rb', xs', r2, w4, w5, w6⟩
    · have wn : (rewr d s t r').2.2.1.n = t.n := by
        unfold rewr; simp only; split <;> rfl
      rw [w1, if_pos rfl]
      rw [hr'] at hu' w2 wn ⊢
      exact .done hb' hu' w2 rfl wn (by rw [hr'] at w3; rw [w3]; exact Nat.le_refl _)
    · rw [w1, if_neg (by decide)]
      rw [hr'] at hu' w5
      exact .down hb' hu' w4 w5 (by rw [w6]; exact Nat.le_refl _) rfl rfl w2 w3
  · have e : store d s t (grpOf l) r' = ((Wal.append d s (grpOf l)).1, (Wal.append d s (grpOf l)).2.1, t, (Wal.append d s (grpOf l)).2.2) := by unfold store; rw [if_neg h45]
    rw [e]
    simp only
    have hi := Wal.append_in h.g.log.ok h.g.ok hL (grpOf l)
    have hq := h.q
    have hgen := h.g.gen
    rcases Wal.append_good h.g.log (grpOf l) with ⟨hG, ⟨z, _, se, sl, sg, sf, sn⟩ | ⟨z, sl, sg, sf, sn⟩⟩
    · rw [z, if_pos rfl]
      have hrt : t.r = puts rb (chs xs) := by
        rcases hgen with ⟨_, e⟩ | ⟨e, _⟩
        · exact e
        · omega
      have hdec : rgs ((Wal.append d s (grpOf l)).2.1.L.map bas) = some (xs ++ l) := by
        rw [sl, List.map_append]
        refine rgs_append _ _ h.g.dec ?_
        unfold grpOf
        rw [bas_lists]
        exact rgrp_gtexts hgood
      have hr2 : r' = puts rb (chs (xs ++ l)) := by rw [chs_append, puts_append, ← hrt, hr']
      have hFG := h.g.turn hi hG sf sn hdec (r' := r') (.inl ⟨by rw [sg]; omega, hr2⟩)
      have ht : ({ t with r := r', err := 0 } : St) = ⟨o.isSome, aOf o, gOf o, (Wal.append d s (grpOf l)).1.n, r', 0⟩ := by
        rw [hi.n]
        have q1 : t.nm = o.isSome := congrArg St.nm h.t
        have q2 : t.q = gOf o := congrArg St.q h.t
        rw [← q1, ← ta, ← q2, ← tn]
      refine .done (o' := o) (rb' := rb) (xs' := xs ++ l) hb' (by rw [← hr']; exact hu') ⟨hFG, se, by rw [sg]; exact hq, ht⟩ hr' rfl (by rw [sg]; omega)
    · have h40 : (Wal.append d s (grpOf l)).2.2 = 40 := by
        have a1 := append_err (l := grpOf l) h.e z (fun e => h45 (.inl e)) (fun e => h45 (.inr e))
        have a2 := hG.err
        omega
      rw [h40, if_neg (by decide)]
      have hFG := h.g.turn hi hG sf sn (by rw [sl]; exact h.g.dec) (r' := t.r) (by rw [sg]; exact hgen)
      exact .down hb' (by rw [← hr']; exact hu') hFG (.inl rfl) (by rw [sg]; exact Nat.le_refl _) rfl rfl rfl ha2
end Fil
end Go.Proofs.YtalklpnekbfehaaGreat
