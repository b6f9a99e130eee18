/-
  A slice of the call's own that grows by append: what it holds, as a list; its text, if it holds bytes.
-/
import Derived.Test.YtnnfpaheglkmoaaDoorGoAll
import Derived.OwnWalk
import Derived.Deep.AppendLies
set_option linter.unusedVariables false
namespace Go.Proofs.YtnnfpaheglkmoaaDoor
open Go.RowKit

/-- the slice value v is of the call's own (blocks from B on) and holds xs, of one cell each -/
def Owns (B : Nat) (e : TypeId) (v : Value) (xs : List Value) (w : World) : Prop := w.ownsRow B e 1 v xs.length xs

theorem Owns.nil (B : Nat) (e : TypeId) (w : World) : Owns B e (.slice none 0 0) [] w := World.ownsRow_nil w B e 1
theorem Owns.form {B : Nat} {e : TypeId} {v : Value} {xs : List Value} {w : World} (h : Owns B e v xs w) : (v = .slice none 0 0 ∧ xs = []) ∨ ∃ g cap, v = .slice (some ⟨g, 0, none⟩) xs.length cap ∧ B ≤ g ∧ ∃ cur : Array Value, w.heap[g]? = some (.cells cur e (0, 0)) ∧ xs.length ≤ cap ∧ cur.size = cap ∧ cur.toList.take xs.length = xs := by
  obtain ⟨h1, h2⟩ := h
  rcases h2 with ⟨rfl, h3⟩ | ⟨g, cap, cur, rfl, hb, hg, hn, hm, hc, ht⟩
  · exact .inl ⟨rfl, List.eq_nil_of_length_eq_zero h3⟩
  · exact .inr ⟨g, cap, rfl, hb, cur, hg, hn, by simpa using hc, by simpa using ht⟩
theorem Owns.conv {P : Program} {B : Nat} {e : TypeId} {v : Value} {bs : List UInt8} {w : World} (h : Owns B e v (u8s bs).toList w) (src dst : TypeId) (hs : P.underlying src = some (.slice e)) (he : P.underlying e = some (.int .u8)) (hd : P.underlying dst = some .string) :
    (convert src dst v).run P w = .ok (.string ⟨bs.toArray⟩) w := by
  rcases h.form with ⟨rfl, hx⟩ | ⟨g, cap, rfl, hb, cur, hg, hn, hc, ht⟩
  · have hb : bs = [] := by have := congrArg List.length hx; simpa using this
    subst hb
    simp [convert, run_underlying hs, run_underlying hd, run_underlying he, Conv.bytesToString]
    rfl
  · have hl : (u8s bs).toList.length = bs.length := by simp
    have r := run_convert_bytes_back (P := P) w src dst e ⟨g, 0, none⟩ cap bs hs he hd (by
      intro j hj
      have ea : (Addr.add ⟨g, 0, none⟩ j) = ⟨g, j, none⟩ := by cases j <;> simp [Addr.add]
      rw [ea, cell_of_row w g j _ _ _ hg]
      have h1 : (cur.toList.take (u8s bs).toList.length)[j]? = (u8s bs).toList[j]? := by rw [ht]
      rw [List.getElem?_take, if_pos (by rw [hl]; exact hj)] at h1
      simp only [Array.getElem?_toList] at h1
      rw [h1, u8s_get bs j hj]
      simp [List.getD_eq_getElem?_getD, hj])
    rw [hl]
    exact r
theorem Owns.alloc {B : Nat} {e : TypeId} {v : Value} {xs : List Value} {w : World} (h : Owns B e v xs w) (o : Obj) : Owns B e v xs (w.alloc o) := World.ownsRow.alloc h o
theorem Owns.drew {B : Nat} {e : TypeId} {v : Value} {xs : List Value} {w : World} (h : Owns B e v xs w) : Owns B e v xs w.drew := World.ownsRow.kept (w' := w.drew) h (row := none) ⟨rfl, rfl, rfl, Nat.le_refl _, fun _ _ _ => rfl⟩ (by cases v.ownBlock <;> simp)
theorem Owns.below {B : Nat} {e : TypeId} {v : Value} {xs : List Value} {w w' : World} (h : Owns B e v xs w) (hb : Below w.heap.size w w') : Owns B e v xs w' := World.ownsRow.kept h (grown_of_below hb none) (by cases v.ownBlock <;> simp)
theorem Owns.lt {B : Nat} {e : TypeId} {v : Value} {xs : List Value} {w : World} (h : Owns B e v xs w) (k : Nat) (hk : v.ownBlock = some k) : B ≤ k ∧ k < w.heap.size := World.ownsRow.lt h k hk
/-- behind an append to it, what lay below B lies as it lay -/
theorem Owns.grown {B : Nat} {e : TypeId} {v : Value} {xs : List Value} {w w0 w' : World} (h : Owns B e v xs w) (hb : Below B w0 w) (hB : B ≤ w.heap.size) (hg : w.grownBy w' v.ownBlock) : Below B w0 w' :=
  hb.grown hg hB (fun k hk => (h.lt k hk).1)
end Go.Proofs.YtnnfpaheglkmoaaDoor
