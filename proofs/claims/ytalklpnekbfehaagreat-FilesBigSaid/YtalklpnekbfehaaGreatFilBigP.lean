/-
  Plain mathematics: FilesBig's Commits; a slice of bytes of one value.
-/
import Derived.Test.YtalklpnekbfehaaGreatFilAlA
import Derived.Test.YtalklpnekbfehaaGreatDskFill
set_option linter.unusedVariables false
namespace Go.Proofs.YtalklpnekbfehaaGreat
namespace Fil
open Dsk
theorem go_done {d : Dsk.St} {s : Wal.St} {t : St} {o : Option (Nat × Nat)} {rb : Row} {xs : List Chb} (hl : Live d s t o rb xs) (hu : Up d) (hg : s.gen ≤ 1000000) (l : List Chb) (hb : l.any Chb.bad = false) (hf : used (puts t.r (chs l)) ≤ arN t.n * 64 - 4) :
    (commit d s t l).2.2.2 = 0 ∧ Up (commit d s t l).1 ∧ (commit d s t l).1.ops ≤ d.ops + 40000 ∧ ∃ o' rb' xs', Live (commit d s t l).1 (commit d s t l).2.1 (commit d s t l).2.2.1 o' rb' xs' ∧ (commit d s t l).2.2.1.r = puts t.r (chs l) ∧ (commit d s t l).2.2.1.n = t.n ∧ (commit d s t l).2.1.gen ≤ s.gen + 1 := by
  have h := commit_live hl (by omega) l
  have hup := commit_up hl hu l
  have hops := commit_ops hl l
  generalize commit d s t l = F at *
  cases h with
  | bad h => rw [hb] at h; cases h
  | full _ h => omega
  | done h1 h2 h3 h4 h5 h6 => exact ⟨rfl, hup.1, hops, _, _, _, h3, h4, h5, h6⟩
  | down _ _ _ _ _ _ _ _ _ => exact absurd rfl hup.2
theorem go_full {d : Dsk.St} {s : Wal.St} {t : St} {o : Option (Nat × Nat)} {rb : Row} {xs : List Chb} (hl : Live d s t o rb xs) (l : List Chb) (hb : l.any Chb.bad = false) (hf : arN t.n * 64 - 4 < used (puts t.r (chs l))) : commit d s t l = (d, s, t, 4) := by
  unfold commit
  rw [if_neg (fun e => e hl.err), if_neg (by rw [hb]; decide), if_pos hf]
def bgS : ByteArray := ⟨#[115, 109, 97, 108, 108]⟩
def bgO : ByteArray := ⟨#[111, 110, 101]⟩
def bgB : ByteArray := ⟨#[98, 105, 103]⟩
def bgF1 (k : Nat) : Dsk.St × Wal.St × St × Int := commit (Dsk.new k) ⟨0, 0, 1, logN k, [], 0⟩ ⟨false, 0, 0, k, [], 0⟩ [⟨bgS, bgO, false⟩]
def bgF2 (k : Nat) (b : ByteArray) : Dsk.St × Wal.St × St × Int := commit (bgF1 k).1 (bgF1 k).2.1 (bgF1 k).2.2.1 [⟨bgB, b, false⟩]
def bgF3 (k : Nat) (b : ByteArray) (keep : List UInt8) : Dsk.St × Wal.St × St × Int := commit (Dsk.crash (bgF2 k b).1 keep) (bgF2 k b).2.1 (bgF2 k b).2.2.1 [⟨bgB, ⟨#[]⟩, true⟩]
theorem arN_big {k : Nat} (h : 16 ≤ k) : 6 ≤ arN k := by
  unfold arN arAt logN
  by_cases h2 : k / 8 ≤ 2
  · rw [Nat.max_eq_left h2]; omega
  · rw [Nat.max_eq_right (by omega)]; omega
theorem big1 {k : Nat} (h1 : 16 ≤ k) (h2 : k ≤ 200) : (bgF1 k).2.2.2 = 0 ∧ Up (bgF1 k).1 ∧ (bgF1 k).1.ops ≤ 40000 ∧ ∃ o rb xs, Live (bgF1 k).1 (bgF1 k).2.1 (bgF1 k).2.2.1 o rb xs ∧ (bgF1 k).2.2.1.r = [(bgS.data.toList, bgO.data.toList)] ∧ (bgF1 k).2.2.1.n = k ∧ (bgF1 k).2.1.gen ≤ 1 := by
  have hN := arN_big h1
  obtain ⟨e, hu, ho, o, rb, xs, hl, hr, hn, hg⟩ := go_done (new_live (n := k) (by omega) (by omega)) (new_up k) (by show (0 : Nat) ≤ _; omega) [⟨bgS, bgO, false⟩] (by decide) (by
    show used (puts [] (chs [⟨bgS, bgO, false⟩])) ≤ arN k * 64 - 4
    rw [show used (puts [] (chs [⟨bgS, bgO, false⟩])) = 20 from by decide]; omega)
  exact ⟨e, hu, by have : (Dsk.new k).ops = 0 := rfl; rw [this] at ho; show (bgF1 k).1.ops ≤ 40000; unfold bgF1; omega, o, rb, xs, hl, hr.trans rfl, hn, hg⟩
theorem bg_puts (b : ByteArray) : puts [(bgS.data.toList, bgO.data.toList)] (chs [⟨bgB, b, false⟩]) = [(bgB.data.toList, b.data.toList), (bgS.data.toList, bgO.data.toList)] := rfl
theorem bg_used (b : ByteArray) : used [(bgB.data.toList, b.data.toList), (bgS.data.toList, bgO.data.toList)] = b.size + 31 := by
  rw [← ba_len b]
  simp [used, sum, wt, bgB, bgS, bgO]; omega
theorem bg_bad (b : ByteArray) (hb : b.size ≤ 65535) : [(⟨bgB, b, false⟩ : Chb)].any Chb.bad = false := by
  have : (⟨bgB, b, false⟩ : Chb).bad = false := (Chb.bad_may _).2 ⟨by show 1 ≤ bgB.data.toList.length; decide, by show bgB.data.toList.length ≤ 32; decide, by show b.data.toList.length ≤ _; rw [ba_len]; exact hb, fun e => by cases e⟩
  simp [this]
theorem big2 {k : Nat} (h1 : 16 ≤ k) (h2 : k ≤ 200) (b : ByteArray) (hb : b.size ≤ 65535) :
    (arN k * 64 - 4 < b.size + 31 → (bgF2 k b).2.2.2 = 4 ∧ (bgF2 k b).2.2.1.n = k) ∧
    (b.size + 31 ≤ arN k * 64 - 4 → (bgF2 k b).2.2.2 = 0 ∧ (bgF2 k b).1.ops ≤ 80000 ∧ ∃ o rb xs, Live (bgF2 k b).1 (bgF2 k b).2.1 (bgF2 k b).2.2.1 o rb xs ∧ (bgF2 k b).2.2.1.r = [(bgB.data.toList, b.data.toList), (bgS.data.toList, bgO.data.toList)] ∧ (bgF2 k b).2.2.1.n = k ∧ (bgF2 k b).2.1.gen ≤ 2) := by
  obtain ⟨_, hu, ho, o, rb, xs, hl, hr, hn, hg⟩ := big1 h1 h2
  have hp : puts (bgF1 k).2.2.1.r (chs [⟨bgB, b, false⟩]) = [(bgB.data.toList, b.data.toList), (bgS.data.toList, bgO.data.toList)] := by rw [hr]; exact bg_puts b
  refine ⟨fun hf => ?_, fun hf => ?_⟩
  · have := go_full hl _ (bg_bad b hb) (by rw [hp, bg_used, hn]; exact hf)
    unfold bgF2; rw [this]; exact ⟨rfl, hn⟩
  · obtain ⟨e, _, ho2, o', rb', xs', hl', hr', hn', hg'⟩ := go_done hl hu (by omega) _ (bg_bad b hb) (by rw [hp, bg_used, hn]; exact hf)
    exact ⟨e, by unfold bgF2; omega, o', rb', xs', hl', hr'.trans hp, hn'.trans hn, by unfold bgF2; omega⟩
theorem big3 {k : Nat} (h1 : 16 ≤ k) (h2 : k ≤ 200) (b : ByteArray) (hb : b.size ≤ 65535) (hf : b.size + 31 ≤ arN k * 64 - 4) (keep : List UInt8) : (bgF3 k b keep).2.2.2 = 0 := by
  obtain ⟨_, ho, o, rb, xs, hl, hr, hn, hg⟩ := (big2 h1 h2 b hb).2 hf
  have hN := arN_big h1
  refine (go_done (live_crash hl keep) (crash_up _ _) (by omega) _ (by decide) ?_).1
  rw [hr, hn, show puts [(bgB.data.toList, b.data.toList), (bgS.data.toList, bgO.data.toList)] (chs [⟨bgB, ⟨#[]⟩, true⟩]) = [(bgS.data.toList, bgO.data.toList)] from rfl, show used [(bgS.data.toList, bgO.data.toList)] = 20 from by decide]
  omega
end Fil
open Go.RowKit
theorem make_u8s (m : Nat) (hm : m ≤ 65535) (u : World) : (Instr.makeSlice 62 (.int .u16 (m : Int)) (.int .u16 (m : Int))).run Tryz.prog u = .ok (.slice (some ⟨u.heap.size, 0, none⟩) m m) (u.alloc (.cells (u8s (List.replicate m 0)) 5)) := by
  obtain ⟨i, hi, h0, h1, h2⟩ := info_parts (show (Tryz.prog.info? 5).map (fun i => (i.zero, i.size, i.bytes)) = some (some (.int .u8 0), 1, 1) by kernel_rfl)
  have := run_make (P := Tryz.prog) u 62 5 i (.int .u8 0) Tryz.underlying62 hi h0 .u16 .u16 (m : Int) (m : Int) (by omega) (by omega) (by rw [h2]; omega) (by omega)
  rw [this, h1, Int.toNat_natCast, Nat.mul_one, made_u8]
end Go.Proofs.YtalklpnekbfehaaGreat
