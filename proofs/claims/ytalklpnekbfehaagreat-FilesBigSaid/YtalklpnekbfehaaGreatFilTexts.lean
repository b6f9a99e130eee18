/-
  The strings of a group with changes.
-/
import Derived.Test.YtalklpnekbfehaaGreatFilChg
import Derived.Test.YtalklpnekbfehaaGreatWalA
import Derived.Test.YtalklpnekbfehaaGreatWalB
import Derived.Laws.MakeOwn
set_option linter.unusedVariables false
set_option maxRecDepth 100000
namespace Go.Proofs.YtalklpnekbfehaaGreat
open Go.RowKit

def kindB (g : Bool) : ByteArray := if g then ⟨#[1]⟩ else ⟨#[0]⟩
def gtext (x : Chb) : List ByteArray := [kindB x.g ++ x.n, x.d]
/-- the strings of a group with these changes -/
def gtexts (l : List Chb) : List ByteArray := l.flatMap gtext
theorem gtexts_length : ∀ l : List Chb, (gtexts l).length = 2 * l.length
  | [] => rfl
  | x :: l => by
    have := gtexts_length l
    unfold gtexts at *
    rw [List.flatMap_cons, List.length_append, this]
    simp [gtext]; omega
theorem gtexts_take (l : List Chb) (k : Nat) (h : k < l.length) : gtexts (l.take (k + 1)) = gtexts (l.take k) ++ gtext (l.getD k default) := by
  unfold gtexts
  rw [List.take_add_one, List.getElem?_eq_getElem h, List.flatMap_append]
  simp [List.getD_eq_getElem?_getD, h]

set_option maxHeartbeats 1000000 in
theorem groupTexts_any (a : Option Addr) (len cap : Nat) (l : List Chb) (w : World) (hl : Chgs a len l w) (hok : ∀ x ∈ l, x.Ok) (hlen : len ≤ 1099511627776) :
    Calls Tryz.prog 60 #[.slice a len cap] w fun e w' => ∃ v, e = .returned v ∧ Own w.heap.size v (gtexts l) w' ∧ Below w.heap.size w w' := by
  obtain ⟨i0, hi, hz0, hz1, hz2⟩ := info_parts infoStr
  have hll := hl.1
  have Hl := Lib.hid hl; clear hl
  have Hok := Lib.hid hok; clear hok
  obtain ⟨wm, hmk, hown0, hgr0⟩ := run_make_own (P := Tryz.prog) w w.heap.size 29 9 i0 (.string ⟨#[]⟩) 1 Tryz.underlying29 hi hz0 hz1 .i64 .i64 (2 * len) (by rw [hz2]; omega) (by unfold maxLen; omega) (Nat.le_refl _)
  have hcast : ((2 * len : Nat) : Int) = 2 * (len : Int) := by omega
  rw [hcast] at hmk
  have hwr : wrap64 (2 * (len : Int)) = 2 * (len : Int) := IntWalk.wrap64_in _ ⟨by omega, by omega⟩
  have hb0 : Below w.heap.size w wm := ⟨hgr0.os, hgr0.tape, hgr0.output, hgr0.size, fun k hk => hgr0.block k hk (fun e => by cases e)⟩
  have Hown0 : Hid (Own w.heap.size (.slice (some ⟨w.heap.size, 0, none⟩) 0 (2 * len)) (gtexts (l.take 0)) wm) := Lib.hid hown0
  clear hown0 hgr0 hcast
  go_enter Tryz.func60, Tryz.ntmps60
  go_wp2_with fail
  clear hmk hwr
  go_loopw [3, 13] (fun v i wr => ∃ k : Nat, k ≤ len ∧ i = .int .i64 (k : Int) ∧ Below w.heap.size w wr ∧ Own w.heap.size v (gtexts (l.take k)) wr) (fun _ i _ => len - (intOf i).toNat)
  case atStart => exact ⟨0, by omega, rfl, hb0, Hown0.out⟩
  case round =>
    clear hb0 Hown0
    obtain ⟨k, hk, rfl, hb, hown⟩ := hrel
    by_cases hlt : k < len
    · have hlt2 : (k : Int) < (len : Int) := by omega
      have hkl : k < l.length := by omega
      obtain ⟨b, off, rfl, hx⟩ := Hl.out.2 k hlt
      have hxw := hx.same (hb.block b (cell_lt hx.n))
      have hxo := Hok.out (l.getD k default) (by
        rw [List.getD_eq_getElem?_getD, List.getElem?_eq_getElem hkl]
        exact List.getElem_mem _)
      have htk := gtexts_take l k hkl
      obtain ⟨x, hxe⟩ : ∃ x, x = l.getD k default := ⟨_, rfl⟩
      rw [← hxe] at hxw hxo htk
      obtain ⟨xn, xd, xg⟩ := x
      have c0 := hxw.n
      have c1 := hxw.d
      have c2 := hxw.g
      have z0 := hxo.n
      have z1 := hxo.d
      simp only at c0 c1 c2 z0 z1
      have Htk := Lib.hid htk; clear htk
      have Hb := Lib.hid hb; clear hb
      have Hown := Lib.hid hown; clear hown
      clear hxe hx hxw hxo hkl
      have hn0 : (⟨#[0]⟩ : ByteArray).size = 1 := rfl
      have hn1 : (⟨#[1]⟩ : ByteArray).size = 1 := rfl
      have hlk : (gtexts (l.take k)).length = 2 * k := by rw [gtexts_length, List.length_take]; omega
      have hown1 : wr.ownsRow w.heap.size 9 1 u3 (2 * k) ((gtexts (l.take k)).map Value.string) := by rw [← hlk]; exact Hown.out
      have hbs := Hb.out.size
      cases xg with
      | true =>
        have hcl : ∀ j u, [Value.string ((⟨#[1]⟩ : ByteArray) ++ xn), .string xd][j]? = some u → ((wr.alloc (.cells #[.string xn, .string xd, .bool true] 58)).alloc (.cells #[.string ((⟨#[1]⟩ : ByteArray) ++ xn), .string xd] 9)).cell? ((⟨wr.heap.size + 1, 0, none⟩ : Addr).add j) = some u := by
          intro j u h
          have := cell_row_new (wr.alloc (.cells #[.string xn, .string xd, .bool true] 58)) [.string ((⟨#[1]⟩ : ByteArray) ++ xn), .string xd] 9 j u h
          rw [World.size_alloc] at this
          exact this
        have hbA : Below wr.heap.size wr ((wr.alloc (.cells #[.string xn, .string xd, .bool true] 58)).alloc (.cells #[.string ((⟨#[1]⟩ : ByteArray) ++ xn), .string xd] 9)) := ((Below.refl _ wr).alloc (Nat.le_refl _) _).alloc (by simp) _
        have hown2 := ownsRow_new hown1 hbA
        have hsA : ((wr.alloc (.cells #[.string xn, .string xd, .bool true] 58)).alloc (.cells #[.string ((⟨#[1]⟩ : ByteArray) ++ xn), .string xd] 9)).heap.size = wr.heap.size + 2 := by simp
        have Hcl := Lib.hid hcl; clear hcl
        have HbA := Lib.hid hbA; clear hbA
        have Hs2 := Lib.hid hsA; clear hsA
        go_wp2_with (at_builtin; go_loud (refine wpList_append_own_at _ rfl _ _ 29 rfl w.heap.size 9 i0 (.string ⟨#[]⟩) 1 16 Tryz.underlying29 hi hz0 hz1 hz2 rfl (by decide) _ _ _ rfl hown2 ⟨wr.heap.size + 1, 0, none⟩ 2 2 [.string ((⟨#[1]⟩ : ByteArray) ++ xn), .string xd] rfl rfl Hcl.out ?c2 ?c3 ?c4 ?c5 ?_))
        case c2 => intro z hz; simp at hz; rcases hz with rfl | rfl <;> rfl
        case c3 => unfold maxLen; omega
        case c4 => omega
        case c5 => rw [Hs2.out]; omega
        intro v' w5 hown5 hgrow _ hvb
        have hb5 : Below w.heap.size w w5 := (Hb.out.trans (HbA.out.mono hbs)).grown hgrow (by rw [Hs2.out]; omega) (fun b' h => (World.ownsRow.lt hown2 b' h).1)
        have hown6 : Own w.heap.size v' (gtexts (l.take (k + 1))) w5 := by
          rw [Htk.out]
          unfold Own
          rw [List.length_append, hlk, List.map_append]
          exact hown5
        have Hb5 := Lib.hid hb5; clear hb5
        have Hown6 := Lib.hid hown6; clear hown6
        clear hown5 hgrow hvb hown2 hown1 hlk
        go_wp2_with fail
        go_roundw
        case rel => exact ⟨k + 1, by omega, by go_num, Hb5.out, Hown6.out⟩
        case measure => simp [intOf]; omega
      | false =>
        have hcl : ∀ j u, [Value.string ((⟨#[0]⟩ : ByteArray) ++ xn), .string xd][j]? = some u → ((wr.alloc (.cells #[.string xn, .string xd, .bool false] 58)).alloc (.cells #[.string ((⟨#[0]⟩ : ByteArray) ++ xn), .string xd] 9)).cell? ((⟨wr.heap.size + 1, 0, none⟩ : Addr).add j) = some u := by
          intro j u h
          have := cell_row_new (wr.alloc (.cells #[.string xn, .string xd, .bool false] 58)) [.string ((⟨#[0]⟩ : ByteArray) ++ xn), .string xd] 9 j u h
          rw [World.size_alloc] at this
          exact this
        have hbA : Below wr.heap.size wr ((wr.alloc (.cells #[.string xn, .string xd, .bool false] 58)).alloc (.cells #[.string ((⟨#[0]⟩ : ByteArray) ++ xn), .string xd] 9)) := ((Below.refl _ wr).alloc (Nat.le_refl _) _).alloc (by simp) _
        have hown2 := ownsRow_new hown1 hbA
        have hsA : ((wr.alloc (.cells #[.string xn, .string xd, .bool false] 58)).alloc (.cells #[.string ((⟨#[0]⟩ : ByteArray) ++ xn), .string xd] 9)).heap.size = wr.heap.size + 2 := by simp
        have Hcl := Lib.hid hcl; clear hcl
        have HbA := Lib.hid hbA; clear hbA
        have Hs2 := Lib.hid hsA; clear hsA
        go_wp2_with (at_builtin; go_loud (refine wpList_append_own_at _ rfl _ _ 29 rfl w.heap.size 9 i0 (.string ⟨#[]⟩) 1 16 Tryz.underlying29 hi hz0 hz1 hz2 rfl (by decide) _ _ _ rfl hown2 ⟨wr.heap.size + 1, 0, none⟩ 2 2 [.string ((⟨#[0]⟩ : ByteArray) ++ xn), .string xd] rfl rfl Hcl.out ?c2 ?c3 ?c4 ?c5 ?_))
        case c2 => intro z hz; simp at hz; rcases hz with rfl | rfl <;> rfl
        case c3 => unfold maxLen; omega
        case c4 => omega
        case c5 => rw [Hs2.out]; omega
        intro v' w5 hown5 hgrow _ hvb
        have hb5 : Below w.heap.size w w5 := (Hb.out.trans (HbA.out.mono hbs)).grown hgrow (by rw [Hs2.out]; omega) (fun b' h => (World.ownsRow.lt hown2 b' h).1)
        have hown6 : Own w.heap.size v' (gtexts (l.take (k + 1))) w5 := by
          rw [Htk.out]
          unfold Own
          rw [List.length_append, hlk, List.map_append]
          exact hown5
        have Hb5 := Lib.hid hb5; clear hb5
        have Hown6 := Lib.hid hown6; clear hown6
        clear hown5 hgrow hvb hown2 hown1 hlk
        go_wp2_with fail
        go_roundw
        case rel => exact ⟨k + 1, by omega, by go_num, Hb5.out, Hown6.out⟩
        case measure => simp [intOf]; omega
    · obtain rfl : k = len := by omega
      have Hown := Lib.hid hown; clear hown
      go_wp2_with fail
      go_ret
      refine ⟨_, rfl, ?_, hb⟩
      have h2 : l.take k = l := List.take_of_length_le (by omega)
      rw [← h2]
      exact Hown.out
end Go.Proofs.YtalklpnekbfehaaGreat
