/-
  A roller of p and n that was given G, in one form; the chapter's examples.
-/
import Derived.Test.YtofiimkpbbiegaaRabNew2
import Derived.Test.YtofiimkpbbiegaaRabRoll
set_option linter.unusedVariables false
set_option maxRecDepth 100000
namespace Go.Proofs.Ytofiimkpbbiegaa
open Go.RowKit

def RolG (b p n : Nat) (G : List UInt8) (w : World) : Prop := ∃ r : Rol, RolAt b r w ∧ r.Ok (Pol.last n G) ∧ r.n = n ∧ r.p = p
section
variable {b p n : Nat} {G : List UInt8} {w w' : World}
theorem RolG.lt (h : RolG b p n G w) : b < w.heap.size := by obtain ⟨r, h, _⟩ := h; exact h.lt
theorem RolG.keeps {T : Nat → Prop} (h : RolG b p n G w) (ht : Turns T w w') (hT : ¬ T b) : RolG b p n G w' := by
  obtain ⟨r, h, h2⟩ := h; exact ⟨r, h.keeps ht hT, h2⟩
theorem RolG.new (h : RolG b p n G w) (hb : Below w.heap.size w w') : RolG b p n G w' := by
  obtain ⟨r, h, h2⟩ := h; exact ⟨r, h.new hb, h2⟩
theorem rollG_any (h : RolG b p n G w) (s : ByteArray) (hs : s.size ≤ 140737488351232) : Calls Try.prog 36 #[.pointer (some ⟨b, 0, none⟩), .string s] w fun e w' => e = .returned (.tuple #[.int .u64 (Pol.fp p (Pol.last n (G ++ s.data.toList)) : Nat), .int .i64 0]) ∧ RolG b p n (G ++ s.data.toList) w' ∧ Turns (fun j => j = b) w w' := by
  obtain ⟨r, h, hk, rfl, rfl⟩ := h
  have hk2 := Rol.roll_ok hk s.data.toList
  refine (roll_any h hk (Pol.last_length _ _) s hs).mono fun e w' ⟨he, h2, ht⟩ => ⟨?_, ⟨_, h2, ?_⟩, ht⟩
  · rw [he, hk2.f, (Rol.steps_fit hk.fit _).2.2.1]
  · obtain ⟨f1, f2, f3, f4⟩ := Rol.steps_fit hk.fit (s.data.toList.drop (s.data.toList.length - r.n))
    exact ⟨hk2, f2, f3⟩
theorem resetG_any (h : RolG b p n G w) : Calls Try.prog 35 #[.pointer (some ⟨b, 0, none⟩)] w fun e w' => e = .returned (.tuple #[]) ∧ RolG b p n [] w' ∧ Turns (fun j => j = b) w w' := by
  obtain ⟨r, h, hk, rfl, rfl⟩ := h
  exact (reset_any h hk.fit).mono fun e w' ⟨he, h2, ht⟩ => ⟨he, ⟨_, h2, Rol.reset_ok hk, rfl, rfl⟩, ht⟩
end
theorem newG_any (p : Nat) (n : Int) (hp : p < 18446744073709551616) (w : World) (h : rabMay p n) :
    Calls Try.prog 32 #[.int .u64 p, .int .i64 n] w fun e w' => ∃ b, w.heap.size ≤ b ∧ e = .returned (.tuple #[.pointer (some ⟨b, 0, none⟩), .int .i64 0]) ∧ RolG b p n.toNat [] w' ∧ Below w.heap.size w w' := by
  have h1 := h.2.1
  have h2 := h.2.2
  refine ((new_any p n hp w).2 h).mono fun e w' ⟨b, hb, he, hr, hw⟩ => ⟨b, hb, he, ⟨_, hr, Rol.fresh_ok p n.toNat h.1 (by omega) (by omega), rfl, rfl⟩, hw⟩

theorem fine283 : Pol.fine 283 := by constructor <;> decide +kernel
theorem notfine3 : ¬ Pol.fine 3 := fun h => absurd h.1 (by decide +kernel)
end Go.Proofs.Ytofiimkpbbiegaa
