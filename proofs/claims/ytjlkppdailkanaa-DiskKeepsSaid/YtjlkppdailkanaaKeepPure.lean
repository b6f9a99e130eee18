/-
  Plain mathematics of what a row of writes leaves: what is read, what a crash would keep, sector by sector.
-/
import Derived.Test.YtjlkppdailkanaaDskPlay
set_option linter.unusedVariables false
namespace Go.Proofs.Ytjlkppdailkanaa
namespace Dsk
/-- what a crash that keeps this would leave -/
def aft (keep : List UInt8) (d : St) : Nat → Sec := lay (kept keep d.L) d.fl
/-- the writes of j sectors of s, from sector a on -/
def news (s : List UInt8) (a j : Nat) : List (Nat × Sec) := (List.range j).map fun i => (a + i, sect s i)
theorem news_succ (s : List UInt8) (a j : Nat) : news s a (j + 1) = news s a j ++ [(a + j, sect s j)] := by simp [news, List.range_succ]
theorem news_length (s : List UInt8) (a j : Nat) : (news s a j).length = j := by simp [news]
def ext (d : St) (s : List UInt8) (a j : Nat) : St := { d with L := d.L ++ news s a j }
theorem ext_zero (d : St) (s : List UInt8) (a : Nat) : ext d s a 0 = d := by simp [ext, news]
theorem now_ext_succ (d : St) (s : List UInt8) (a j : Nat) : now (ext d s a (j + 1)) = upd (now (ext d s a j)) (a + j) (sect s j) := by
  unfold now ext
  simp only [news_succ, ← List.append_assoc, lay_snoc]
theorem kept_snoc (keep : List UInt8) (L : List (Nat × Sec)) (x : Nat × Sec) : kept keep (L ++ [x]) = kept keep L ++ (if keep ≠ [] ∧ odd keep L.length = true then [x] else []) := by
  unfold kept
  by_cases h : keep = []
  · rw [if_pos h, if_pos h, if_neg (fun x => x.1 h)]; rfl
  · rw [if_neg h, if_neg h, keptF_snoc]
    by_cases ho : odd keep L.length = true
    · rw [if_pos ho, if_pos ⟨h, ho⟩]
    · rw [if_neg ho, if_neg (fun x => ho x.2)]
theorem aft_ext_succ (keep : List UInt8) (d : St) (s : List UInt8) (a j : Nat) : aft keep (ext d s a (j + 1)) = if keep ≠ [] ∧ odd keep (d.L.length + j) = true then upd (aft keep (ext d s a j)) (a + j) (sect s j) else aft keep (ext d s a j) := by
  unfold aft ext
  simp only [news_succ, ← List.append_assoc]
  rw [kept_snoc, List.length_append, news_length]
  split
  · rw [lay_append]; rfl
  · rw [List.append_nil]
theorem wr_ext (s : List UInt8) (k : Nat) : ∀ (m i : Nat) (d : St), ∃ m', m' ≤ m ∧ (wr s k m i d).L = d.L ++ (List.range m').map (fun j => (k + (i + j), sect s (i + j))) ∧ (wr s k m i d).fl = d.fl
  | 0, i, d => ⟨0, Nat.le_refl _, by simp [wr], rfl⟩
  | m + 1, i, d => by
    unfold wr
    split
    · exact ⟨0, Nat.zero_le _, by simp, rfl⟩
    · obtain ⟨m', h1, h2, h3⟩ := wr_ext s k m (i + 1) (put { d with fuse := if 0 < d.fuse then d.fuse - 1 else d.fuse } (k + i) (sect s i))
      refine ⟨m' + 1, by omega, ?_, h3⟩
      rw [h2, List.range_succ_eq_map]
      simp only [put, List.map_cons, List.map_map, List.append_assoc, List.cons_append, List.nil_append, Nat.add_zero]
      congr 2
      apply List.map_congr_left
      intro j _
      simp only [Function.comp]
      rw [show i + 1 + j = i + (j + 1) by omega]
/-- what a write leaves, in those words -/
theorem write_ext (d : St) (at_ : Int) (s : List UInt8) : ∃ m a, (write d at_ s).1.L = (ext d s a m).L ∧ (write d at_ s).1.fl = d.fl ∧ (0 < m → at_ = (a : Int) ∧ a + m ≤ d.n ∧ 64 * m ≤ s.length) := by
  unfold write
  split
  · exact ⟨0, 0, by simp [ext, news], rfl, fun h => absurd h (by omega)⟩
  · split
    · exact ⟨0, 0, by simp [ext, news], rfl, fun h => absurd h (by omega)⟩
    · rename_i hb
      obtain ⟨m', h1, h2, h3⟩ := wr_ext s at_.toNat (s.length / 64) 0 d
      refine ⟨m', at_.toNat, ?_, h3, fun _ => ?_⟩
      · rw [h2]; simp [ext, news]
      · omega
theorem now_of {d e : St} (hL : d.L = e.L) (hf : d.fl = e.fl) : now d = now e := by unfold now; rw [hL, hf]
theorem aft_of (keep : List UInt8) {d e : St} (hL : d.L = e.L) (hf : d.fl = e.fl) : aft keep d = aft keep e := by unfold aft; rw [hL, hf]
theorem aft_settle (keep : List UInt8) (d : St) : aft keep (settle d [1]) = now d := by
  rw [settle_one]; unfold aft
  show lay (kept keep []) (now d) = now d
  rw [kept_nil]; rfl
theorem now_crash (keep : List UInt8) (d : St) : now (crash d keep) = aft keep d := rfl
theorem aft_new (keep : List UInt8) (n : Nat) : aft keep (new n) = fun _ => zer := by unfold aft new; rw [kept_nil]; rfl
theorem now_new (n : Nat) : now (new n) = fun _ => zer := rfl
/-- up to k the one, from there on the other -/
def mix (f g : Nat → Sec) (k : Nat) : Nat → Sec := fun j => if j < k then f j else g j
theorem mix_zero (f g : Nat → Sec) : mix f g 0 = g := by funext j; simp [mix]
theorem mix_succ (f g : Nat → Sec) (k : Nat) : mix f g (k + 1) = upd (mix f g k) k (f k) := by
  funext j
  unfold mix upd
  by_cases h : j = k
  · subst h; rw [if_pos (by omega), if_pos rfl]
  · rw [if_neg h]
    by_cases h2 : j < k
    · rw [if_pos (by omega)]; exact (if_pos h2).symm
    · rw [if_neg (by omega)]; exact (if_neg h2).symm
end Dsk
end Go.Proofs.Ytjlkppdailkanaa
