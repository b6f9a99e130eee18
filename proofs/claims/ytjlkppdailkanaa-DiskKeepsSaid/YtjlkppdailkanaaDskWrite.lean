/-
  Write: the sectors of a text, one by one, till the fuse is used up.
-/
import Derived.Test.YtjlkppdailkanaaDskPut
import Derived.Deep.LoopGhost
set_option linter.unusedVariables false
namespace Go.Proofs.Ytjlkppdailkanaa
namespace Dsk
/-- sector number i of a text -/
def sect (s : List UInt8) (i : Nat) : Sec := (s.drop (64 * i)).take 64
theorem sect_length {s : List UInt8} {i n : Nat} (h : s.length = 64 * n) (hi : i < n) : (sect s i).length = 64 := by simp [sect]; omega
/-- m sectors of a text, from number i on, written from sector k on -/
def wr (s : List UInt8) (k : Nat) : Nat → Nat → St → St
  | 0, _, d => d
  | m + 1, i, d => if d.fuse = 0 then { d with down := true } else wr s k m (i + 1) (put { d with fuse := if 0 < d.fuse then d.fuse - 1 else d.fuse } (k + i) (sect s i))
/-- what Write does -/
def write (d : St) (at_ : Int) (s : List UInt8) : St × Int :=
  if d.down = true then (d, 40) else
  if s.length % 64 ≠ 0 ∨ ¬ (0 ≤ at_ ∧ at_ + (s.length / 64 : Nat) ≤ (d.n : Int)) then (d, 2) else
  let e := wr s at_.toNat (s.length / 64) 0 d
  (e, if e.down = true then 40 else 0)
theorem dec_ok {d : St} (h : d.Ok) : ({ d with fuse := if 0 < d.fuse then d.fuse - 1 else d.fuse } : St).Ok :=
  ⟨h.lo, h.hi, h.fl, h.at_, h.sz, by have := h.fu; simp only; split <;> omega⟩
end Dsk
open Go.RowKit

theorem DiskIn.relax {S T : Nat → Prop} {p : Nat} {d : Dsk.St} {w : World} {bF bM : Nat} {v : Value} {nf : Nat} {DF : DataW Unit} (h : DiskIn S p d w bF bM v nf DF) (hT : ∀ k, S k → T k) (hl : ∀ k, T k → k < w.heap.size) : DiskIn T p d w bF bM v nf DF :=
  { h with hp := hT _ h.hp, hF := hT _ h.hF, hM := hT _ h.hM, hv := fun k hk => hT _ (h.hv k hk), lt := hl }

theorem sect_bytes (s : ByteArray) (i : Nat) : (s.extract (i * 64) ((i + 1) * 64)).data.toList = Dsk.sect s.data.toList i := by
  rw [ByteArray.data_extract, Array.toList_extract, Dsk.sect, List.extract_eq_take_drop, show (i + 1) * 64 - i * 64 = 64 by omega, Nat.mul_comm]
theorem sect_size (s : ByteArray) (i n : Nat) (hs : s.size = 64 * n) (hi : i < n) : (s.extract (i * 64) ((i + 1) * 64)).size = 64 := by
  rw [← ba_len, sect_bytes, Dsk.sect_length (by rw [ba_len]; exact hs) hi]

theorem DiskIn.set4 {S : Nat → Prop} {p : Nat} {d : Dsk.St} {w : World} {bF bM : Nat} {v : Value} {nf : Nat} {DF : DataW Unit} (h : DiskIn S p d w bF bM v nf DF) (n : Int) (hn : -9223372036854775808 ≤ n ∧ n ≤ 9223372036854775807) : DiskIn S p { d with fuse := n } (w.setCell ⟨p, 4, none⟩ (.int .i64 n)) bF bM v nf DF :=
  h.turn (w' := w.setCell ⟨p, 4, none⟩ (.int .i64 n)) ((Turns.refl _ w).set p 4 _ (fun _ => rfl)) n d.down hn (by rw [heap_setCell_same w p 4 _ _ _ h.row]; rfl)
theorem DiskIn.set5 {S : Nat → Prop} {p : Nat} {d : Dsk.St} {w : World} {bF bM : Nat} {v : Value} {nf : Nat} {DF : DataW Unit} (h : DiskIn S p d w bF bM v nf DF) (b : Bool) : DiskIn S p { d with down := b } (w.setCell ⟨p, 5, none⟩ (.bool b)) bF bM v nf DF :=
  h.turn (w' := w.setCell ⟨p, 5, none⟩ (.bool b)) ((Turns.refl _ w).set p 5 _ (fun _ => rfl)) d.fuse b h.ok.fu (by rw [heap_setCell_same w p 5 _ _ _ h.row]; rfl)

theorem write_down {S : Nat → Prop} {p : Nat} {d : Dsk.St} {w : World} (h : DiskAt S p d w) (hd : d.down = true) (at_ : Int) (s : ByteArray) (hs : s.size ≤ 9223372036854775807) :
    Calls Try.prog 13 #[.pointer (some ⟨p, 0, none⟩), .int .i64 at_, .string s] w fun e w' => e = .returned (.int .i64 40) ∧ w = w' := by
  obtain ⟨bF, bM, v, nf, DF, h⟩ := h
  have c5 := h.c5
  rw [hd] at c5
  clear h hd
  go_enter Try.func13, Try.ntmps13
  go_wp2
  go_step3
  go_wp2
  try rw [Exit.noGoto_ret]
  go_ret
  exact ⟨rfl, rfl⟩

theorem write_bad {S : Nat → Prop} {p : Nat} {d : Dsk.St} {w : World} (h : DiskAt S p d w) (hd : d.down = false) (at_ : Int) (ha : -9223372036854775808 ≤ at_ ∧ at_ ≤ 9223372036854775807) (s : ByteArray) (hs : s.size ≤ 9223372036854775807)
    (hb : s.size % 64 ≠ 0 ∨ ¬ (0 ≤ at_ ∧ at_ + (s.size / 64 : Nat) ≤ (d.n : Int))) :
    Calls Try.prog 13 #[.pointer (some ⟨p, 0, none⟩), .int .i64 at_, .string s] w fun e w' => e = .returned (.int .i64 2) ∧ w = w' := by
  have hq : (s.size : Int) / 64 = ((s.size / 64 : Nat) : Int) := by omega
  obtain ⟨n, hn⟩ : ∃ n, n = s.size / 64 := ⟨_, rfl⟩
  have hnb : n ≤ 9223372036854775807 := by omega
  rw [← hn] at hq hb
  have hhas := has_any h at_ (n : Int) ha ⟨by omega, by omega⟩
  obtain ⟨bF, bM, v, nf, DF, h⟩ := h
  have c5 := h.c5
  rw [hd] at c5
  clear h hd
  have Hhas := Lib.hid hhas; clear hhas
  have Hn := Lib.hid hn; clear hn
  by_cases hm : s.size % 64 = 0
  · have hm2 : ((s.size : Int) % 64 == 0) = true := by rw [beq_iff_eq]; omega
    have hm3 : ((s.size : Int) % 64 != 0) = false := by rw [bne_eq_false_iff_eq]; omega
    have hno : decide (0 ≤ at_ ∧ 0 ≤ (n : Int) ∧ at_ + (n : Int) ≤ (d.n : Int)) = false := by
      rw [decide_eq_false_iff_not]
      rcases hb with hb | hb
      · exact absurd hm hb
      · omega
    have h2 := Hhas.out
    rw [hno] at h2
    have Hh2 := Lib.hid h2; clear h2
    clear hb hno Hhas ha hm
    go_enter Try.func13, Try.ntmps13
    go_wp2
    go_step3
    go_wp2_with fail
    refine Hh2.out.mono ?_; rintro e w' ⟨rfl, rfl⟩
    go_wp2_with fail
    try rw [Exit.noGoto_ret]
    go_ret
    exact ⟨rfl, rfl⟩
  · have hm2 : ((s.size : Int) % 64 == 0) = false := by rw [beq_eq_false_iff_ne]; omega
    have hm3 : ((s.size : Int) % 64 != 0) = true := by rw [bne_iff_ne]; omega
    clear hb Hhas ha hm
    go_enter Try.func13, Try.ntmps13
    go_wp2
    go_step3
    go_wp2_with fail
    try rw [Exit.noGoto_ret]
    go_ret
    exact ⟨rfl, rfl⟩

theorem write_good {S : Nat → Prop} {p : Nat} {d : Dsk.St} {w : World} (h : DiskAt S p d w) (hd : d.down = false) (k : Nat) (s : ByteArray) (n : Nat) (hs : s.size = 64 * n) (hfit : k + n ≤ d.n) (hops : d.ops + n ≤ 1099511627776) :
    Calls Try.prog 13 #[.pointer (some ⟨p, 0, none⟩), .int .i64 (k : Int), .string s] w fun e w' => e = .returned (.int .i64 (if (Dsk.wr s.data.toList k n 0 d).down = true then 40 else 0)) ∧ Turns S w w' ∧ ∃ S', (∀ j, S' j → S j ∨ w.heap.size ≤ j) ∧ DiskAt S' p (Dsk.wr s.data.toList k n 0 d) w' := by
  have ho := h.ok
  have hhi := ho.hi
  have hhas := has_any h (k : Int) (n : Int) ⟨by omega, by omega⟩ ⟨by omega, by omega⟩
  have hyes : decide (0 ≤ (k : Int) ∧ 0 ≤ (n : Int) ∧ (k : Int) + (n : Int) ≤ (d.n : Int)) = true := by rw [decide_eq_true_iff]; omega
  rw [hyes] at hhas
  have hq : (s.size : Int) / 64 = (n : Int) := by omega
  have hm2 : ((s.size : Int) % 64 == 0) = true := by rw [beq_iff_eq]; omega
  have hm3 : ((s.size : Int) % 64 != 0) = false := by rw [bne_eq_false_iff_eq]; omega
  have hsb : s.size ≤ 1048576 := by omega
  have hin := h
  obtain ⟨bF, bM, v, nf, DF, h⟩ := h
  have c5 := h.c5
  rw [hd] at c5
  have Hin := Lib.hid hin; clear hin
  have Hs := Lib.hid hs; clear hs
  have Hhas := Lib.hid hhas; clear hhas
  have Hd := Lib.hid hd; clear hd
  have Ho := Lib.hid ho; clear ho
  clear h hyes
  go_enter Try.func13, Try.ntmps13
  go_wp2
  go_step3
  go_wp2_with fail
  refine Hhas.out.mono ?_; rintro e w' ⟨rfl, rfl⟩
  go_wp2_with fail
  go_step3
  go_wp2_with fail
  go_loopw [33] (fun c wr => ∃ i d' S', i ≤ n ∧ c = .int .i64 (i : Int) ∧ d'.down = false ∧ Dsk.wr s.data.toList k (n - i) i d' = Dsk.wr s.data.toList k n 0 d ∧ d'.n = d.n ∧ d'.ops + (n - i) ≤ 1099511627776 ∧ Turns S w wr ∧ (∀ j, S' j → S j ∨ w.heap.size ≤ j) ∧ DiskAt S' p d' wr) (fun c _ => n - (intOf c).toNat)
  case atStart => exact ⟨0, d, S, by omega, rfl, Hd.out, rfl, rfl, by omega, Turns.refl S w, fun j h => .inl h, Hin.out⟩
  case round =>
    obtain ⟨i, d', S', hi, rfl, hdd, hwr, hn', hops', ht, hS', hat⟩ := hrel
    obtain ⟨bF', bM', v', nf', DF', hin'⟩ := hat
    have c4 := hin'.c4
    have c5' := hin'.c5
    rw [hdd] at c5'
    have f4 := hin'.free 4
    have f5 := hin'.free 5
    have Hwr := Lib.hid hwr; clear hwr
    have Hn' := Lib.hid hn'; clear hn'
    have Hdd := Lib.hid hdd; clear hdd
    have Ht := Lib.hid ht; clear ht
    have HS' := Lib.hid hS'; clear hS'
    have Hin' := Lib.hid hin'; clear hin'
    clear c5
    have hok' := Hin'.out.ok
    by_cases hlt : i < n
    · have hstep : Dsk.wr s.data.toList k (n - i) i d' = if d'.fuse = 0 then { d' with down := true } else Dsk.wr s.data.toList k (n - (i + 1)) (i + 1) (Dsk.put { d' with fuse := if 0 < d'.fuse then d'.fuse - 1 else d'.fuse } (k + i) (Dsk.sect s.data.toList i)) := by
        rw [show n - i = (n - (i + 1)) + 1 by omega]; rfl
      have Hstep := Lib.hid hstep; clear hstep
      by_cases hf : d'.fuse = 0
      · rw [hf] at c4
        have hE : Dsk.wr s.data.toList k n 0 d = { d' with down := true } := by rw [← Hwr.out, Hstep.out, if_pos hf]
        have HE := Lib.hid hE; clear hE
        have Hf := Lib.hid hf; clear hf
        clear hok'
        go_wp2_with fail
        rw [Exit.noGoto_ret]
        go_ret
        refine ⟨by rw [HE.out]; rfl, Ht.out.set p 5 _ (fun _ => Hin.out.hp), S', HS'.out, ?_⟩
        rw [HE.out]
        exact ⟨_, _, _, _, _, Hin'.out.set5 true⟩
      · have hb0 : (d'.fuse == 0) = false := by rw [beq_eq_false_iff_ne]; exact hf
        have hx0 : 0 ≤ (i : Int) * 64 := by omega
        have hx1 : (i : Int) * 64 ≤ ((i : Int) + 1) * 64 := by omega
        have hx2 : ((i : Int) + 1) * 64 ≤ (s.size : Int) := by have := Hs.out; omega
        by_cases hp : 0 < d'.fuse
        · have hb1 : decide (0 < d'.fuse) = true := decide_eq_true hp
          have h4 := Hin'.out.set4 (d'.fuse - 1) (by have := hok'.fu; omega)
          have hfu := hok'.fu
          generalize hfe : d'.fuse = f at c4 hb0 hb1 hp hf hfu h4
          have Hfe := Lib.hid hfe; clear hfe
          have H4 := Lib.hid h4; clear h4
          clear hok' hf
          have hput := put_any (S := S') (p := p) (w := wr.setCell ⟨p, 4, none⟩ (.int .i64 (f - 1))) ⟨_, _, _, _, _, H4.out⟩ (k + i) (by have := Hn'.out; simp only; omega) (s.extract (i * 64) ((i + 1) * 64)) (sect_size s i n Hs.out hlt) (by simp only; omega)
          rw [Int.natCast_add, sect_bytes] at hput
          have Hput := Lib.hid hput; clear hput
          go_wp2_with fail
          refine Hput.out.mono ?_; rintro e w3 ⟨rfl, ht3, S3, hS3, hat3⟩
          have hT : Turns S w w3 := (Ht.out.set p 4 _ (fun _ => Hin.out.hp)).trans ht3 (fun j hj hj2 => by
            rcases HS'.out j hj2 with h | h
            · exact h
            · omega)
          have hS4 : ∀ j, S3 j → S j ∨ w.heap.size ≤ j := fun j hj => by
            rcases hS3 j hj with h | h
            · exact HS'.out j h
            · have := Ht.out.size; simp [World.setCell] at h; exact .inr (by omega)
          have HT := Lib.hid hT; clear hT
          have HS4 := Lib.hid hS4; clear hS4
          have Hat3 := Lib.hid hat3; clear hat3
          clear hS3 ht3
          go_wp2_with fail
          go_roundw
          case rel =>
            have h1 := Hwr.out
            rw [Hstep.out, Hfe.out, if_neg (by omega), if_pos hp] at h1
            exact ⟨i + 1, Dsk.put { d' with fuse := f - 1 } (k + i) (Dsk.sect s.data.toList i), S3, by omega, by go_num, Hdd.out, h1, Hn'.out, by simp only [Dsk.put]; omega, HT.out, HS4.out, Hat3.out⟩
          case measure => simp [intOf]; omega
        · have hb1 : decide (0 < d'.fuse) = false := decide_eq_false hp
          have hsame : ({ d' with fuse := if 0 < d'.fuse then d'.fuse - 1 else d'.fuse } : Dsk.St) = d' := by rw [if_neg hp]
          rw [hsame] at Hstep
          have hput := put_any (S := S') (p := p) (w := wr) ⟨_, _, _, _, _, Hin'.out⟩ (k + i) (by have := Hn'.out; omega) (s.extract (i * 64) ((i + 1) * 64)) (sect_size s i n Hs.out hlt) (by omega)
          rw [Int.natCast_add, sect_bytes] at hput
          have Hput := Lib.hid hput; clear hput
          clear hsame
          generalize hfe : d'.fuse = f at c4 hb0 hb1 hp hf
          have Hfe := Lib.hid hfe; clear hfe
          clear hok'
          go_wp2_with fail
          refine Hput.out.mono ?_; rintro e w3 ⟨rfl, ht3, S3, hS3, hat3⟩
          have hT : Turns S w w3 := Ht.out.trans ht3 (fun j hj hj2 => by
            rcases HS'.out j hj2 with h | h
            · exact h
            · omega)
          have hS4 : ∀ j, S3 j → S j ∨ w.heap.size ≤ j := fun j hj => by
            rcases hS3 j hj with h | h
            · exact HS'.out j h
            · have := Ht.out.size; exact .inr (by omega)
          have HT := Lib.hid hT; clear hT
          have HS4 := Lib.hid hS4; clear hS4
          have Hat3 := Lib.hid hat3; clear hat3
          have Hf := Lib.hid hf; clear hf
          clear hS3 ht3
          go_wp2_with fail
          go_roundw
          case rel =>
            have h1 := Hwr.out
            rw [Hstep.out, if_neg (by rw [Hfe.out]; exact Hf.out)] at h1
            exact ⟨i + 1, Dsk.put d' (k + i) (Dsk.sect s.data.toList i), S3, by omega, by go_num, Hdd.out, h1, Hn'.out, by simp only [Dsk.put]; omega, HT.out, HS4.out, Hat3.out⟩
          case measure => simp [intOf]; omega
    · obtain rfl : i = n := by omega
      have hE : Dsk.wr s.data.toList k i 0 d = d' := by rw [← Hwr.out, Nat.sub_self]; rfl
      have HE := Lib.hid hE; clear hE
      clear hok'
      go_wp2_with fail
      rw [Exit.noGoto_ret]
      go_ret
      rw [HE.out]
      exact ⟨by rw [Hdd.out]; rfl, Ht.out, S', HS'.out, _, _, _, _, _, Hin'.out⟩
end Go.Proofs.Ytjlkppdailkanaa
