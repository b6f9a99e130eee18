/-
  slices.ContainsFunc of changes that may not be; maps.Clone of files.
-/
import Derived.Test.YtalklpnekbfehaaGreatFilStore
import Derived.Shelf.SlMaps.Clone
set_option linter.unusedVariables false
set_option maxRecDepth 100000
namespace Go.Proofs.YtalklpnekbfehaaGreat
open Go.RowKit

theorem mapclone_file (b : Nat) (es : Array MapEntry) (clock : Nat) (w : World) (hb : w.heap[b]? = some (.map es clock)) :
    Calls Tryz.prog 30 #[.map (some b)] w fun e w' => e = .returned (.map (some w.heap.size)) ∧ w' = w.alloc (.map es clock) := by
  have hq := fun w => run_eql_map_nil_sl (P := Tryz.prog) w 74 _ _ (some b) Tryz.underlying74
  go_enter Tryz.func30, Tryz.ntmps30
  go_wp2
  rw [run_callFunc_extern Tryz.func58 (by kernel_rfl) (by kernel_rfl) (by kernel_rfl) (e := Extern.MapsClone.clone) (by kernel_rfl), run_maps_clone_sl w 74 hb]
  simp only [Result.andThen]
  rw [Oper.upon_value]
  go_wp2
  rw [run_typeAssert_map_sl _ 74 20 _ _ _ Tryz.underlying74]
  simp only [Result.andThen]
  rw [Oper.upon_value]
  go_wp2
  go_ret
  exact ⟨rfl, rfl⟩

/-- the index of the first change that may not be -/
def badAt (l : List Chb) : Int := match l.findIdx? Chb.bad with
  | none => -1
  | some k => (k : Int)
theorem badAt_none {l : List Chb} (h : ∀ j, j < l.length → (l.getD j default).bad = false) : badAt l = -1 := by
  unfold badAt
  have : l.findIdx? Chb.bad = none := by
    rw [List.findIdx?_eq_none_iff]
    intro x hx
    obtain ⟨j, hj, rfl⟩ := List.mem_iff_getElem.1 hx
    have := h j hj
    rw [List.getD_eq_getElem?_getD, List.getElem?_eq_getElem hj] at this
    exact this
  rw [this]
theorem badAt_some {l : List Chb} {k : Nat} (hk : k < l.length) (h : ∀ j, j < k → (l.getD j default).bad = false) (hb : (l.getD k default).bad = true) : badAt l = (k : Int) := by
  unfold badAt
  have : l.findIdx? Chb.bad = some k := by
    rw [List.findIdx?_eq_some_iff_getElem]
    refine ⟨hk, ?_, fun j hj => ?_⟩
    · rw [List.getD_eq_getElem?_getD, List.getElem?_eq_getElem hk] at hb; exact hb
    · have := h j hj
      rw [List.getD_eq_getElem?_getD, List.getElem?_eq_getElem (by omega)] at this
      simpa using this
  rw [this]
theorem badAt_any (l : List Chb) : decide (0 ≤ badAt l) = l.any Chb.bad := by
  unfold badAt
  cases h : l.findIdx? Chb.bad with
  | none =>
    rw [List.findIdx?_eq_none_iff] at h
    have : l.any Chb.bad = false := by rw [List.any_eq_false]; intro x hx; rw [h x hx]; simp
    rw [this]; rfl
  | some k =>
    rw [List.findIdx?_eq_some_iff_getElem] at h
    obtain ⟨hk, hb, _⟩ := h
    have : l.any Chb.bad = true := by rw [List.any_eq_true]; exact ⟨_, List.getElem_mem hk, hb⟩
    rw [this]; simp

set_option maxHeartbeats 800000 in
theorem indexFunc_any (a : Option Addr) (len cap : Nat) (l : List Chb) (w : World) (hl : Chgs a len l w) (hlen : len ≤ 1099511627776) :
    Calls Tryz.prog 57 #[.slice a len cap, .func (.func 29) #[] #[]] w fun e w' => e = .returned (.int .i64 (badAt l)) ∧ Below w.heap.size w w' := by
  have hll := hl.1
  have Hl := Lib.hid hl; clear hl
  obtain ⟨N, hN⟩ : ∃ N, N = badAt l := ⟨_, rfl⟩
  rw [← hN]
  have HN := Lib.hid hN; clear hN
  go_enter Tryz.func57, Tryz.ntmps57
  go_wp2_with fail
  go_loopw [8] (fun i wr => ∃ k : Nat, k ≤ len ∧ i = .int .i64 (k : Int) ∧ Below w.heap.size w wr ∧ ∀ j, j < k → (l.getD j default).bad = false) (fun i _ => len - (intOf i).toNat)
  case atStart => exact ⟨0, by omega, rfl, Below.refl _ _, fun j hj => by omega⟩
  case round =>
    obtain ⟨k, hk, rfl, hb, hall⟩ := hrel
    by_cases hlt : k < len
    · have hge : decide ((k : Int) < (len : Int)) = true := decide_eq_true (by omega)
      have hlt2 : (k : Int) < (len : Int) := by omega
      obtain ⟨b, off, rfl, hx⟩ := Hl.out.2 k hlt
      have hxw := hx.same (hb.block b (cell_lt hx.n))
      have hnx : (l.getD k default).bad = false → ∀ j, j < k + 1 → (l.getD j default).bad = false := fun h j hj => by
        by_cases e : j = k
        · subst e; exact h
        · exact hall j (by omega)
      have hbs : (l.getD k default).bad = true → N = (k : Int) := fun h => by rw [HN.out]; exact badAt_some (by omega) hall h
      obtain ⟨x, hxe⟩ : ∃ x, x = l.getD k default := ⟨_, rfl⟩
      rw [← hxe] at hxw hnx hbs
      obtain ⟨xn, xd, xg⟩ := x
      have c0 := hxw.n
      have c1 := hxw.d
      have c2 := hxw.g
      simp only at c0 c1 c2
      have hiv := fun u => invalid_any xn xd xg u
      have hbad : (⟨xn, xd, xg⟩ : Chb).bad = chgB xn xd xg := rfl
      rw [hbad] at hnx hbs
      obtain ⟨bb, hbb⟩ : ∃ bb, bb = chgB xn xd xg := ⟨_, rfl⟩
      rw [← hbb] at hnx hbs hiv
      have Hiv := Lib.hid hiv; clear hiv
      have Hnx := Lib.hid hnx; clear hnx
      have Hbs := Lib.hid hbs; clear hbs
      have Hb := Lib.hid hb; clear hb
      clear hxw hx hxe hall hbad hbb
      cases bb with
      | true =>
        have hNk := Hbs.out rfl
        subst hNk
        go_wp2_with fail
        refine (Hiv.out _).mono ?_; rintro e w1 ⟨rfl, hb1⟩
        have hb2 := Hb.out.trans (hb1.mono Hb.out.size)
        have Hb2 := Lib.hid hb2; clear hb2 hb1
        go_wp2_with fail
        go_ret
        exact ⟨rfl, Hb2.out⟩
      | false =>
        have hnx := Hnx.out rfl
        have Hnx2 := Lib.hid hnx; clear hnx
        go_wp2_with fail
        refine (Hiv.out _).mono ?_; rintro e w1 ⟨rfl, hb1⟩
        have hb2 := Hb.out.trans (hb1.mono Hb.out.size)
        have Hb2 := Lib.hid hb2; clear hb2 hb1
        go_wp2_with fail
        go_roundw
        case rel => exact ⟨k + 1, by omega, by go_num, Hb2.out, Hnx2.out⟩
        case measure => simp [intOf]; omega
    · obtain rfl : k = len := by omega
      have hge : decide ((k : Int) < (k : Int)) = false := decide_eq_false (by omega)
      have hNk : N = -1 := by rw [HN.out]; exact badAt_none (fun j hj => hall j (by omega))
      subst hNk
      have Hb := Lib.hid hb; clear hb
      clear hall
      go_wp2_with fail
      go_ret
      exact ⟨rfl, Hb.out⟩

theorem containsFunc_any (a : Option Addr) (len cap : Nat) (l : List Chb) (w : World) (hl : Chgs a len l w) (hlen : len ≤ 1099511627776) :
    Calls Tryz.prog 28 #[.slice a len cap, .func (.func 29) #[] #[]] w fun e w' => e = .returned (.bool (l.any Chb.bad)) ∧ Below w.heap.size w w' := by
  have hi := indexFunc_any a len cap l w hl hlen
  rw [← badAt_any]
  have Hi := Lib.hid hi; clear hi hl
  generalize badAt l = N at *
  go_enter Tryz.func28, Tryz.ntmps28
  go_wp2_with fail
  refine Hi.out.mono ?_; rintro e w1 ⟨rfl, hb1⟩
  go_wp2_with fail
  go_ret
  exact ⟨by simp, hb1⟩
end Go.Proofs.YtalklpnekbfehaaGreat
