/- The contract of ints' laws' own 'begun': it answers true and writes nothing. -/
import Derived.Test.YtgajddfpkchdgaaIntsCode
namespace Go.Proofs.Ytgajddfpkchdgaa
namespace Ints
open Go.RowKit
set_option linter.unusedVariables false
set_option maxRecDepth 100000

theorem is32_lit (n : Int) (h : decide (-2147483648 ≤ n ∧ n ≤ 2147483647) = true) : Is32 n := (of_decide_eq_true h : -2147483648 ≤ n ∧ n ≤ 2147483647)
set_option maxHeartbeats 1000000 in
theorem begun_any (w : World) : Calls Try.prog 8 #[] w fun e w' => e = .returned (.bool true) ∧ w = w' := by
  have e1 : two 8 2147483647 1 = (-2147483648, true) := by decide +kernel
  have e2 : two 11 1 0 = (0, false) := by decide +kernel
  have e3 : two 11 (-2147483648) (-1) = (-2147483648, true) := by decide +kernel
  have e4 : one 13 5 = -5 := by decide +kernel
  have e5 : goes 23 (-1) 9 = true := by decide +kernel
  have e6 : goes 29 9 9 = false := by decide +kernel
  go_enter Try.func8, Try.ntmps8
  go_wp2_with fail
  refine (itwo_any _ _ _ _ (is32_lit _ rfl) (is32_lit _ rfl)).mono ?_
  rintro e w' ⟨rfl, rfl⟩
  rw [e1]
  simp only [resT]
  go_wp2_with fail
  refine (itwo_any _ _ _ _ (is32_lit _ rfl) (is32_lit _ rfl)).mono ?_
  rintro e w' ⟨rfl, rfl⟩
  rw [e2]
  simp only [resT]
  go_wp2_with fail
  refine (itwo_any _ _ _ _ (is32_lit _ rfl) (is32_lit _ rfl)).mono ?_
  rintro e w' ⟨rfl, rfl⟩
  rw [e3]
  simp only [resT]
  go_wp2_with (first | (go_at_call 12; refine (one_any _ _ _).mono ?_; rintro e w' ⟨rfl, rfl⟩) | (go_at_call 13; refine (igo_any _ _ _ _ (is32_lit _ rfl) (is32_lit _ rfl)).mono ?_; rintro e w' ⟨rfl, rfl⟩))
  go_ret
  exact ⟨rfl, rfl⟩
end Ints
end Go.Proofs.Ytgajddfpkchdgaa
