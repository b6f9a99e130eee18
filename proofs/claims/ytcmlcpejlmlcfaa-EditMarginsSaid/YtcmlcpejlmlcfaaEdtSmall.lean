/-
  Whether an edit may be done: by the program, and by the document.
-/
import Derived.Test.YtcmlcpejlmlcfaaEdtPure
import Derived.BigQuiet
set_option linter.unusedVariables false
set_option maxRecDepth 100000
namespace Go.Proofs.Ytcmlcpejlmlcfaa
open Go.RowKit

theorem Ed.may_false {e : Ed} {n : Nat} (h : ¬ e.May n) : decide (e.May n) = false := decide_eq_false h

set_option maxHeartbeats 1000000 in
theorem applicable_any (s : ByteArray) (hsz : s.size ≤ 1099511627776) (e : Ed) (hw : e.Wf) (w : World) :
    Calls Try.prog 21 #[.string s, e.v] w fun x w' => x = .returned (.bool (decide (e.May s.size))) ∧ Below w.heap.size w w' := by
  obtain ⟨a, c, p⟩ := e
  obtain ⟨⟨ha1, ha2⟩, hc1, hc2⟩ := hw
  have hb := box_below w (.cells #[.int .i64 a, .int .i64 c, .string p] 23)
  have Hb := Lib.hid hb; clear hb
  have hM : (⟨a, c, p⟩ : Ed).May s.size ↔ (0 ≤ a ∧ 0 ≤ c ∧ a + c ≤ (s.size : Int)) := Iff.rfl
  simp only at ha1 ha2 hc1 hc2
  unfold Ed.v
  by_cases g1 : 0 ≤ a
  · have d1 : decide ((0 : Int) ≤ a) = true := decide_eq_true g1
    have hw1 : IntKind.i64.wrap ((s.size : Int) - a) = (s.size : Int) - a := by simp only [IntKind.wrap_i64]; omega
    by_cases g2 : 0 ≤ c
    · have d2 : decide ((0 : Int) ≤ c) = true := decide_eq_true g2
      have hr : decide ((⟨a, c, p⟩ : Ed).May s.size) = decide (c ≤ (s.size : Int) - a) := by
        rw [Bool.eq_iff_iff]; simp only [decide_eq_true_eq, hM]; omega
      rw [hr]
      clear hr hM g1 g2 ha1 ha2 hc1 hc2 hsz
      go_enter Try.func21, Try.ntmps21
      go_wp2_with fail
      go_ret
      exact ⟨rfl, Hb.out⟩
    · have d2 : decide ((0 : Int) ≤ c) = false := decide_eq_false g2
      have hr : decide ((⟨a, c, p⟩ : Ed).May s.size) = false := decide_eq_false (fun h => by have := hM.1 h; omega)
      rw [hr]
      clear hr hM g1 g2 ha1 ha2 hc1 hc2 hsz
      go_enter Try.func21, Try.ntmps21
      go_wp2_with fail
      go_ret
      exact ⟨rfl, Hb.out⟩
  · have d1 : decide ((0 : Int) ≤ a) = false := decide_eq_false g1
    have hr : decide ((⟨a, c, p⟩ : Ed).May s.size) = false := decide_eq_false (fun h => by have := hM.1 h; omega)
    rw [hr]
    clear hr hM g1 ha1 ha2 hc1 hc2 hsz
    go_enter Try.func21, Try.ntmps21
    go_wp2_with fail
    go_ret
    exact ⟨rfl, Hb.out⟩

set_option maxHeartbeats 1000000 in
theorem refMay11_any (s : ByteArray) (hsz : s.size ≤ 1099511627776) (e : Ed) (hw : e.Wf) (w : World) :
    Calls Try.prog 17 #[.string s, e.v] w fun x w' => x = .returned (.bool (decide (e.May s.size))) ∧ Below w.heap.size w w' := by
  obtain ⟨a, c, p⟩ := e
  obtain ⟨⟨ha1, ha2⟩, hc1, hc2⟩ := hw
  have hb := box_below w (.cells #[.int .i64 a, .int .i64 c, .string p] 23)
  have Hb := Lib.hid hb; clear hb
  have hM : (⟨a, c, p⟩ : Ed).May s.size ↔ (0 ≤ a ∧ 0 ≤ c ∧ a + c ≤ (s.size : Int)) := Iff.rfl
  simp only at ha1 ha2 hc1 hc2
  unfold Ed.v
  by_cases g1 : 0 ≤ a
  · have d1 : decide ((0 : Int) ≤ a) = true := decide_eq_true g1
    have hw1 : IntKind.i64.wrap ((s.size : Int) - a) = (s.size : Int) - a := by simp only [IntKind.wrap_i64]; omega
    by_cases g2 : 0 ≤ c
    · have d2 : decide ((0 : Int) ≤ c) = true := decide_eq_true g2
      by_cases g3 : a ≤ (s.size : Int)
      · have d3 : decide (a ≤ (s.size : Int)) = true := decide_eq_true g3
        have hr : decide ((⟨a, c, p⟩ : Ed).May s.size) = decide (c ≤ (s.size : Int) - a) := by
          rw [Bool.eq_iff_iff]; simp only [decide_eq_true_eq, hM]; omega
        rw [hr]
        clear hr hM g1 g2 g3 ha1 ha2 hc1 hc2 hsz
        go_enter Try.func17, Try.ntmps17
        go_wp2_with fail
        go_ret
        exact ⟨rfl, Hb.out⟩
      · have d3 : decide (a ≤ (s.size : Int)) = false := decide_eq_false g3
        have hr : decide ((⟨a, c, p⟩ : Ed).May s.size) = false := decide_eq_false (fun h => by have := hM.1 h; omega)
        rw [hr]
        clear hr hM g1 g2 g3 ha1 ha2 hc1 hc2 hsz
        go_enter Try.func17, Try.ntmps17
        go_wp2_with fail
        go_ret
        exact ⟨rfl, Hb.out⟩
    · have d2 : decide ((0 : Int) ≤ c) = false := decide_eq_false g2
      have hr : decide ((⟨a, c, p⟩ : Ed).May s.size) = false := decide_eq_false (fun h => by have := hM.1 h; omega)
      rw [hr]
      clear hr hM g1 g2 ha1 ha2 hc1 hc2 hsz
      go_enter Try.func17, Try.ntmps17
      go_wp2_with fail
      go_ret
      exact ⟨rfl, Hb.out⟩
  · have d1 : decide ((0 : Int) ≤ a) = false := decide_eq_false g1
    have hr : decide ((⟨a, c, p⟩ : Ed).May s.size) = false := decide_eq_false (fun h => by have := hM.1 h; omega)
    rw [hr]
    clear hr hM g1 ha1 ha2 hc1 hc2 hsz
    go_enter Try.func17, Try.ntmps17
    go_wp2_with fail
    go_ret
    exact ⟨rfl, Hb.out⟩
end Go.Proofs.Ytcmlcpejlmlcfaa
