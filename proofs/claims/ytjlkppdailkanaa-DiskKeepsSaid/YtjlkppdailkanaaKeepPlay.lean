/-
  DiskKeeps' disk and books, while they go on.
-/
import Derived.Test.YtjlkppdailkanaaKeepMem
import Derived.Test.YtjlkppdailkanaaGoTwo
import Derived.Deep.DeepCutAuto
import Derived.BigQuiet
set_option linter.unusedVariables false
namespace Go.Proofs.Ytjlkppdailkanaa
open Go.RowKit

/-- one block that stays as it is -/
theorem Held.row (X : Nat) (o : Obj) : Held (fun j => j = X) (fun u => u.heap[X]? = some o) :=
  ⟨fun h ht hn => ht.same h (hn X rfl), fun h k hk => by rw [hk]; exact row_lt h⟩

variable {B : Nat} {W : World} {S R : Nat → Prop} {p : Nat} {d : Dsk.St} {A : World → Prop} {w w' w3 : World}
/-- what lies apart has been added to, and a cell of it written -/
theorem Play.booked {R' : Nat → Prop} {A' : World → Prop} (h : Play B W S p d R A w) (hb : Below w.heap.size w w3) {c : Nat} (hc : R c) (j : Nat) (v : Value) (hA' : A' (w3.setCell ⟨c, j, none⟩ v)) (hH : Held R' A') (hR' : ∀ k, R' k → R k ∨ w.heap.size ≤ k) : Play B W S p d R' A' (w3.setCell ⟨c, j, none⟩ v) := by
  have hn := h.new hb
  have hsz : (w3.setCell ⟨c, j, none⟩ v).heap.size = w3.heap.size := by simp [World.setCell]
  refine ⟨hn.disk.keeps (T := fun k => k = c) ((Turns.refl (fun k => k = c) w3).set c j v (fun _ => rfl)) (fun k hk e => ?_), hA', hH, fun k hk hr => ?_, hn.loS, fun k hk => ?_, hn.below.setCell (p := ⟨c, j, none⟩) (h.loR c hc) v, by rw [hsz]; exact hn.size⟩
  · exact h.apart k hk (by rw [e]; exact hc)
  · rcases hR' k hr with hr | hr
    · exact h.apart k hk hr
    · have := h.disk.lt k hk; omega
  · rcases hR' k hk with hr | hr
    · exact h.loR k hr
    · exact Nat.le_trans h.size hr

/-- what lies apart has been added to, and turned -/
theorem Play.rebook {R' : Nat → Prop} {A' : World → Prop} {w6 : World} (h : Play B W S p d R A w) (hb : Below w.heap.size w w3) (hT : Turns R w3 w6) (hA' : A' w6) (hH : Held R' A') (hR' : ∀ k, R' k → R k ∨ w.heap.size ≤ k) : Play B W S p d R' A' w6 := by
  have hn := h.new hb
  refine ⟨hn.disk.keeps hT (fun k hk e => h.apart k hk e), hA', hH, fun k hk hr => ?_, hn.loS, fun k hk => ?_, hn.below.trans (hT.below hn.size (fun k _ hk => h.loR k hk)), Nat.le_trans hn.size hT.size⟩
  · rcases hR' k hr with hr | hr
    · exact h.apart k hk hr
    · have := h.disk.lt k hk; omega
  · rcases hR' k hk with hr | hr
    · exact h.loR k hr
    · exact Nat.le_trans h.size hr

/-- the books and the step's block -/
def BookX (R : Nat → Prop) (M ba bk n : Nat) (f g : Nat → Dsk.Sec) (X : Nat) (o : Obj) (u : World) : Prop := Book R M ba bk n n f g u ∧ u.heap[X]? = some o
theorem BookX.held (R : Nat → Prop) (M ba bk n : Nat) (f g : Nat → Dsk.Sec) (X : Nat) (o : Obj) : Held (fun j => R j ∨ j = X) (BookX R M ba bk n f g X o) := (Book.held R M ba bk n n f g).both (Held.row X o)
variable {M ba bk n X : Nat} {f g : Nat → Dsk.Sec} {o : Obj} {v : Value} {s : List UInt8}
theorem Play.setA (h : Play B W S p d (fun j => R j ∨ j = X) (BookX R M ba bk n f g X o) w) (hRX : ¬ R X) (hb : Below w.heap.size w w3) {k M' : Nat} (hk : k < n) (hM : M ≤ M') (hv : ∀ R' : Nat → Prop, (∀ j, R j ∨ (w.heap.size ≤ j ∧ j < w3.heap.size) → R' j) → LastAt R' M' v s w3) :
    ∃ R', ¬ R' X ∧ Play B W S p d (fun j => R' j ∨ j = X) (BookX R' M' ba bk n (Dsk.upd f k s) g X o) (w3.setCell ⟨ba, k, none⟩ v) := by
  have hX := row_lt h.rest.2
  have hba : R ba := h.rest.1.a.hb
  have hXb : X ≠ ba := fun e => hRX (by rw [e]; exact hba)
  refine ⟨fun j => R j ∨ (w.heap.size ≤ j ∧ j < w3.heap.size), fun e => ?_, ?_⟩
  · rcases e with e | e
    · exact hRX e
    · omega
  have hrest := h.held.keep h.rest (Turns.of_new hb (fun _ => False)) (fun _ _ => id)
  have hbk := hrest.1.relax (R' := fun j => R j ∨ (w.heap.size ≤ j ∧ j < w3.heap.size)) (M' := M') (fun j hj => .inl hj) (fun j hj => by
    rcases hj with hj | hj
    · exact hrest.1.lt j hj
    · exact hj.2) hM
  refine h.booked hb (c := ba) (.inl hba) k v ⟨hbk.setA hk hk (hv _ (fun j hj => hj)), ?_⟩ (BookX.held _ _ _ _ _ _ _ _ _) (fun j hj => ?_)
  · rw [heap_setCell_other w3 ⟨ba, k, none⟩ X v hXb]; exact hrest.2
  · rcases hj with (hj | hj) | hj
    · exact .inl (.inl hj)
    · exact .inr hj.1
    · exact .inl (.inr hj)
theorem Play.setK (h : Play B W S p d (fun j => R j ∨ j = X) (BookX R M ba bk n f g X o) w) (hRX : ¬ R X) (hb : Below w.heap.size w w3) {k M' : Nat} (hk : k < n) (hM : M ≤ M') (hv : ∀ R' : Nat → Prop, (∀ j, R j ∨ (w.heap.size ≤ j ∧ j < w3.heap.size) → R' j) → LastAt R' M' v s w3) :
    ∃ R', ¬ R' X ∧ Play B W S p d (fun j => R' j ∨ j = X) (BookX R' M' ba bk n f (Dsk.upd g k s) X o) (w3.setCell ⟨bk, k, none⟩ v) := by
  have hX := row_lt h.rest.2
  have hbk0 : R bk := h.rest.1.k.hb
  have hXb : X ≠ bk := fun e => hRX (by rw [e]; exact hbk0)
  refine ⟨fun j => R j ∨ (w.heap.size ≤ j ∧ j < w3.heap.size), fun e => ?_, ?_⟩
  · rcases e with e | e
    · exact hRX e
    · omega
  have hrest := h.held.keep h.rest (Turns.of_new hb (fun _ => False)) (fun _ _ => id)
  have hbk := hrest.1.relax (R' := fun j => R j ∨ (w.heap.size ≤ j ∧ j < w3.heap.size)) (M' := M') (fun j hj => .inl hj) (fun j hj => by
    rcases hj with hj | hj
    · exact hrest.1.lt j hj
    · exact hj.2) hM
  refine h.booked hb (c := bk) (.inl hbk0) k v ⟨hbk.setK hk hk (hv _ (fun j hj => hj)), ?_⟩ (BookX.held _ _ _ _ _ _ _ _ _) (fun j hj => ?_)
  · rw [heap_setCell_other w3 ⟨bk, k, none⟩ X v hXb]; exact hrest.2
  · rcases hj with (hj | hj) | hj
    · exact .inl (.inl hj)
    · exact .inr hj.1
    · exact .inl (.inr hj)
/-- the step's block comes, and goes -/
theorem Play.withX (h : Play B W S p d R (Book R M ba bk n n f g) w) (hX : w.heap.size = X) (o : Obj) : Play B W S p d (fun j => R j ∨ j = X) (BookX R M ba bk n f g X o) (w.alloc o) ∧ ¬ R X := by
  subst hX
  have hb : Below w.heap.size w (w.alloc o) := (Below.refl _ w).alloc (Nat.le_refl _) _
  have hn := h.new hb
  refine ⟨⟨hn.disk, ⟨hn.rest, ?_⟩, BookX.held _ _ _ _ _ _ _ _ _, fun j a c => ?_, hn.loS, fun j hj => ?_, hn.below, hn.size⟩, fun e => ?_⟩
  · exact heap_alloc_new w o
  · rcases c with c | c
    · exact h.apart j a c
    · have := h.disk.lt j a; omega
  · rcases hj with hj | hj
    · exact h.loR j hj
    · rw [hj]; exact h.size
  · have := h.rest.lt _ e; omega
theorem Play.noX (h : Play B W S p d (fun j => R j ∨ j = X) (BookX R M ba bk n f g X o) w) : Play B W S p d R (Book R M ba bk n n f g) w :=
  h.weak (fun j hj => .inl hj) (fun x => x.1) (Book.held R M ba bk n n f g)

theorem Rws.congr {m : Nat} {b : Nat} {f' : Nat → Dsk.Sec} {w : World} (h : Rws R M b n m f w) (hf : ∀ k, k < m → f k = f' k) : Rws R M b n m f' w := by
  obtain ⟨hb, ca, h1, h2, h3⟩ := h
  exact ⟨hb, ca, h1, h2, fun k hk => by rw [← hf k hk]; exact h3 k hk⟩
theorem Play.congr {f' g' : Nat → Dsk.Sec} (h : Play B W S p d R (Book R M ba bk n n f g) w) (hf : ∀ k, k < n → f k = f' k) (hg : ∀ k, k < n → g k = g' k) : Play B W S p d R (Book R M ba bk n n f' g') w :=
  h.weak (fun _ hj => hj) (fun x => ⟨x.lt, x.ne, x.a.congr hf, x.k.congr hg⟩) (Book.held _ _ _ _ _ _ _ _)
theorem rd_one (d : Dsk.St) (k : Nat) : Dsk.rd d k 1 = Dsk.now d k := by simp [Dsk.rd]
theorem upd_id (f : Nat → Dsk.Sec) (k : Nat) : Dsk.upd f k (f k) = f := by funext j; unfold Dsk.upd; split <;> simp_all

/-- append at an operation, of texts that lie anywhere -/
theorem wp_append_at {P : Program} {o : Oper} {a : Act} {w : World} {K : Act → World → Prop} {Q : Exit → Act → World → Prop} (s x : Operand) (t : TypeId)
    (ho : o.op = .call { callee := .builtin .append, args := #[s, x], argTypes := #[t, t] })
    (base : Nat) (e : TypeId) (i : TypeInfo) (z : Value) (size bytes : Nat) (ht : P.underlying t = some (.slice e)) (hi : P.info? e = some i) (hz : i.zero = some z)
    (hsize : i.size = size) (hby : i.bytes = bytes) (hzs : z.cells.size = size) (hsz : 0 < size)
    (v : Value) (n : Nat) (xs : List Value) (hs : a.eval s = v) (hown : w.ownsRow base e size v n xs)
    (ad : Addr) (m c : Nat) (news : List Value) (hx : a.eval x = .slice (some ad) m c) (hl : news.length = m * size) (hnews : ∀ j u, news[j]? = some u → w.cell? (ad.add j) = some u) (h1 : ∀ u ∈ news, u.oneCell' = true)
    (h63 : n + m ≤ maxLen) (hbytes : (n + m) * bytes ≤ 140737488355328) (hbase : base ≤ w.heap.size)
    (h : ∀ v' w', w'.ownsRow base e size v' (n + m) (xs ++ news) → w.grownBy w' v.ownBlock → K (a.put o.dst v') w') : o.wp P a w K Q := by
  obtain ⟨v', w', hr, h2, h3, _, h5⟩ := run_append_own_at (P := P) w base t o.type e i z size bytes ht hi hz hsize hby hzs hsz v n xs hown ad m c news hl hnews h1 h63 hbytes hbase
  unfold Oper.wp execOp
  simp only [ho, resolve, invoke, builtin, Sem.run_bind, Sem.run_pure, Result.andThen_ok, List.map_toArray, List.map_cons, List.map_nil, hs, hx, hr]
  exact h v' w' h2 h3
theorem add_off (g o j : Nat) : (⟨g, o, none⟩ : Addr).add j = ⟨g, o + j, none⟩ := Addr.add_mid g o j

theorem made_rows (m : Nat) : madeCells (Value.slice none 0 0).cells m = Array.replicate m (.slice none 0 0) := by
  apply Array.ext
  · simp [madeCells, Value.cells]
  · intro i h1 h2
    simp [madeCells, Value.cells, Nat.mod_one]
theorem make_rows (m : Nat) (hm : m ≤ 16384) (u : World) : (Instr.makeSlice 44 (.int .i64 (m : Int)) (.int .i64 (m : Int))).run Try.prog u = .ok (.slice (some ⟨u.heap.size, 0, none⟩) m m) (u.alloc (.cells (Array.replicate m (.slice none 0 0)) 45)) := by
  obtain ⟨i, hi, h0, h1, h2⟩ := info_parts (show (Try.prog.info? 45).map (fun i => (i.zero, i.size, i.bytes)) = some (some (.slice none 0 0), 1, 24) by kernel_rfl)
  have := run_make (P := Try.prog) u 44 45 i (.slice none 0 0) Try.underlying44 hi h0 .i64 .i64 (m : Int) (m : Int) (by omega) (by omega) (by rw [h2]; omega) (by omega)
  rw [this, h1, Int.toNat_natCast, Nat.mul_one, made_rows]
end Go.Proofs.Ytjlkppdailkanaa
