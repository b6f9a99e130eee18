/-
  A roller of p and n that was given G, in one form; the chapter's examples.
-/
import Derived.Test.YtghabilmpjjedaaRabNew2
import Derived.Test.YtghabilmpjjedaaRabRoll
set_option linter.unusedVariables false
set_option maxRecDepth 100000
namespace Go.Proofs.Ytghabilmpjjedaa
open Go.RowKit

def RolG (b p n : Nat) (G : List UInt8) (w : World) : Prop := ∃ r : Rol, RolAt b r w ∧ r.Ok (Pol.last n G) ∧ r.n = n ∧ r.p = p
section
variable {b p n : Nat} {G : List UInt8} {w w' : World}
theorem RolG.lt (h : RolG b p n G w) : b < w.heap.size := by obtain ⟨r, h, _⟩ := h; exact h.lt
theorem RolG.keeps {T : Nat → Prop} (h : RolG b p n G w) (ht : Turns T w w') (hT : ¬ T b) : RolG b p n G w' := by
  obtain ⟨r, h, h2⟩ := h; exact ⟨r, h.keeps ht hT, h2⟩
theorem RolG.new (h : RolG b p n G w) (hb : Below w.heap.size w w') : RolG b p n G w' := by
  obtain ⟨r, h, h2⟩ := h; exact ⟨r, h.new hb, h2⟩
theorem sumG_any (h : RolG b p n G w) : Calls Try.prog 16 #[.pointer (some ⟨b, 0, none⟩)] w fun e w' => e = .returned (.int .u64 (Pol.fp p (Pol.last n G) : Nat)) ∧ w = w' := by
  obtain ⟨r, h, hk, rfl, rfl⟩ := h
  rw [← hk.f]
  exact sum_any h hk.fit
theorem rollG_any (h : RolG b p n G w) (s : ByteArray) (hs : s.size ≤ 140737488351232) : Calls Try.prog 14 #[.pointer (some ⟨b, 0, none⟩), .string s] w fun e w' => e = .returned (.tuple #[.int .u64 (Pol.fp p (Pol.last n (G ++ s.data.toList)) : Nat), .int .i64 0]) ∧ RolG b p n (G ++ s.data.toList) w' ∧ Turns (fun j => j = b) w w' := by
  obtain ⟨r, h, hk, rfl, rfl⟩ := h
  have hk2 := Rol.roll_ok hk s.data.toList
  refine (roll_any h hk (Pol.last_length _ _) s hs).mono fun e w' ⟨he, h2, ht⟩ => ⟨?_, ⟨_, h2, ?_⟩, ht⟩
  · rw [he, hk2.f, (Rol.steps_fit hk.fit _).2.2.1]
  · obtain ⟨f1, f2, f3, f4⟩ := Rol.steps_fit hk.fit (s.data.toList.drop (s.data.toList.length - r.n))
    exact ⟨hk2, f2, f3⟩
theorem resetG_any (h : RolG b p n G w) : Calls Try.prog 15 #[.pointer (some ⟨b, 0, none⟩)] w fun e w' => e = .returned (.tuple #[]) ∧ RolG b p n [] w' ∧ Turns (fun j => j = b) w w' := by
  obtain ⟨r, h, hk, rfl, rfl⟩ := h
  exact (reset_any h hk.fit).mono fun e w' ⟨he, h2, ht⟩ => ⟨he, ⟨_, h2, Rol.reset_ok hk, rfl, rfl⟩, ht⟩
theorem copyG_any (h : RolG b p n G w) : Calls Try.prog 17 #[.pointer (some ⟨b, 0, none⟩)] w fun e w' => e = .returned (.pointer (some ⟨w.heap.size, 0, none⟩)) ∧ RolG w.heap.size p n G w' ∧ Below w.heap.size w w' := by
  obtain ⟨r, h, hk, rfl, rfl⟩ := h
  exact (copied_any h hk.fit).mono fun e w' ⟨he, h2, hb⟩ => ⟨he, ⟨_, h2, hk, rfl, rfl⟩, hb⟩
end
theorem newG_any (p : Nat) (n : Int) (hp : p < 18446744073709551616) (w : World) (h : rabMay p n) :
    Calls Try.prog 18 #[.int .u64 p, .int .i64 n] w fun e w' => ∃ b, w.heap.size ≤ b ∧ e = .returned (.tuple #[.pointer (some ⟨b, 0, none⟩), .int .i64 0]) ∧ RolG b p n.toNat [] w' ∧ Below w.heap.size w w' := by
  have h1 := h.2.1
  have h2 := h.2.2
  refine ((new_any p n hp w).2 h).mono fun e w' ⟨b, hb, he, hr, hw⟩ => ⟨b, hb, he, ⟨_, hr, Rol.fresh_ok p n.toNat h.1 (by omega) (by omega), rfl, rfl⟩, hw⟩

theorem fine283 : Pol.fine 283 := by constructor <;> decide +kernel
theorem notfine3 : ¬ Pol.fine 3 := fun h => absurd h.1 (by decide +kernel)
set_option maxHeartbeats 1000000 in
theorem rabAlive_any (w : World) :
    Calls Try.prog 7 #[] w fun e w' => e = .returned (.bool true) ∧ Below w.heap.size w w' := by
  have c1 := fun u => (of_any 283 ⟨#[1, 0]⟩ (by decide) (by decide) u).2 fine283
  rw [show Pol.fp 283 (⟨#[1, 0]⟩ : ByteArray).data.toList = 27 by decide +kernel] at c1
  have c2 := fun u => newG_any 283 2 (by decide) u ⟨fine283, by decide, by decide⟩
  have c3 := fun b u (h : RolG b 283 2 [] u) => rollG_any h ⟨#[9, 1, 0]⟩ (by decide)
  have c4 := fun b u (h : RolG b 283 2 ([] ++ (⟨#[9, 1, 0]⟩ : ByteArray).data.toList) u) => rollG_any h ⟨#[0, 0]⟩ (by decide)
  have c5 := fun u => (new_any 283 0 (by decide) u).1 (fun h => absurd h.2.1 (by decide))
  have c6 := fun u => (of_any 3 ⟨#[]⟩ (by decide) (by decide) u).1 notfine3
  have e3 : Pol.fp 283 (Pol.last 2 ([] ++ (⟨#[9, 1, 0]⟩ : ByteArray).data.toList)) = 27 := by decide +kernel
  have e4 : Pol.fp 283 (Pol.last 2 (([] ++ (⟨#[9, 1, 0]⟩ : ByteArray).data.toList) ++ (⟨#[0, 0]⟩ : ByteArray).data.toList)) = 0 := by decide +kernel
  simp only [e3] at c3
  simp only [e4] at c4
  generalize [] ++ (⟨#[9, 1, 0]⟩ : ByteArray).data.toList = G1 at *
  generalize G1 ++ (⟨#[0, 0]⟩ : ByteArray).data.toList = G2 at *
  have C1 := Lib.hid c1; clear c1
  have C2 := Lib.hid c2; clear c2
  have C3 := Lib.hid c3; clear c3
  have C4 := Lib.hid c4; clear c4
  have C5 := Lib.hid c5; clear c5
  have C6 := Lib.hid c6; clear c6
  clear e3 e4
  go_enter Try.func7, Try.ntmps7
  go_wp2_with fail
  refine (C1.out _).mono ?_; rintro e w1 ⟨rfl, rfl⟩
  go_wp2_with fail
  refine (C2.out _).mono ?_; rintro e w2 ⟨b, hb, rfl, hr, h2⟩
  go_wp2_with fail
  refine (C3.out _ _ hr).mono ?_; rintro e w3 ⟨rfl, hr3, t3⟩
  go_wp2_with fail
  refine (C4.out _ _ hr3).mono ?_; rintro e w4 ⟨rfl, hr4, t4⟩
  go_wp2_with fail
  refine (C5.out _).mono ?_; rintro e w5 ⟨rfl, h5⟩
  go_wp2_with fail
  refine (C6.out _).mono ?_; rintro e w6 ⟨rfl, rfl⟩
  go_wp2_with fail
  go_ret
  have k3 := h2.trans (t3.below h2.size (fun j _ e => by omega))
  have k4 := k3.trans (t4.below k3.size (fun j _ e => by omega))
  exact ⟨rfl, k4.trans (h5.mono k4.size)⟩
end Go.Proofs.Ytghabilmpjjedaa
