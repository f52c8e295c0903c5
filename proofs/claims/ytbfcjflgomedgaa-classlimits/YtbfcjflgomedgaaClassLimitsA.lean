/- ClassLimits at numbers that it does not look at. -/
import Derived.Test.YtbfcjflgomedgaaClsGrow
namespace Go.Proofs.Ytbfcjflgomedgaa
namespace ClassLimits
open Num Kind Op4 Cls
open Go.RowKit
set_option linter.unusedVariables false
set_option maxRecDepth 100000

set_option maxHeartbeats 8000000 in
theorem far (f m p c t : Int) (w : World) (h : ¬ (0 ≤ f ∧ f ≤ 10 ∧ 0 ≤ m ∧ m ≤ 10 ∧ 0 ≤ p ∧ p ≤ 8 ∧ 1 ≤ c ∧ c ≤ 104 ∧ 0 ≤ t ∧ t ≤ 8)) :
    Calls Try.prog 3 #[.int .i64 f, .int .i64 m, .int .i64 p, .int .i64 c, .int .i64 t] w fun e w' => e = .returned (.bool true) ∧ Below w.heap.size w w' := by
  have HH : Hid _ := h
  clear h
  by_cases f0 : f < 0
  case pos =>
    clear HH
    go_enter Try.func3, Try.ntmps3
    go_wp2_with fail
    refine (Cls.begun_any _).mono ?_
    rintro e w1 ⟨rfl, e1⟩
    go_wp2_with fail
    go_ret
    exact ⟨rfl, e1⟩
  by_cases f1 : 10 < f
  case pos =>
    clear HH
    go_enter Try.func3, Try.ntmps3
    go_wp2_with fail
    refine (Cls.begun_any _).mono ?_
    rintro e w1 ⟨rfl, e1⟩
    go_wp2_with fail
    go_ret
    exact ⟨rfl, e1⟩
  by_cases m0 : m < 0
  case pos =>
    clear HH
    go_enter Try.func3, Try.ntmps3
    go_wp2_with fail
    refine (Cls.begun_any _).mono ?_
    rintro e w1 ⟨rfl, e1⟩
    go_wp2_with fail
    go_ret
    exact ⟨rfl, e1⟩
  by_cases m1 : 10 < m
  case pos =>
    clear HH
    go_enter Try.func3, Try.ntmps3
    go_wp2_with fail
    refine (Cls.begun_any _).mono ?_
    rintro e w1 ⟨rfl, e1⟩
    go_wp2_with fail
    go_ret
    exact ⟨rfl, e1⟩
  by_cases p0 : p < 0
  case pos =>
    clear HH
    go_enter Try.func3, Try.ntmps3
    go_wp2_with fail
    refine (Cls.begun_any _).mono ?_
    rintro e w1 ⟨rfl, e1⟩
    go_wp2_with fail
    go_ret
    exact ⟨rfl, e1⟩
  by_cases p1 : 8 < p
  case pos =>
    clear HH
    go_enter Try.func3, Try.ntmps3
    go_wp2_with fail
    refine (Cls.begun_any _).mono ?_
    rintro e w1 ⟨rfl, e1⟩
    go_wp2_with fail
    go_ret
    exact ⟨rfl, e1⟩
  by_cases c0 : c < 1
  case pos =>
    clear HH
    go_enter Try.func3, Try.ntmps3
    go_wp2_with fail
    refine (Cls.begun_any _).mono ?_
    rintro e w1 ⟨rfl, e1⟩
    go_wp2_with fail
    go_ret
    exact ⟨rfl, e1⟩
  by_cases c1 : 104 < c
  case pos =>
    clear HH
    go_enter Try.func3, Try.ntmps3
    go_wp2_with fail
    refine (Cls.begun_any _).mono ?_
    rintro e w1 ⟨rfl, e1⟩
    go_wp2_with fail
    go_ret
    exact ⟨rfl, e1⟩
  by_cases t0 : t < 0
  case pos =>
    clear HH
    go_enter Try.func3, Try.ntmps3
    go_wp2_with fail
    refine (Cls.begun_any _).mono ?_
    rintro e w1 ⟨rfl, e1⟩
    go_wp2_with fail
    go_ret
    exact ⟨rfl, e1⟩
  by_cases t1 : 8 < t
  case pos =>
    clear HH
    go_enter Try.func3, Try.ntmps3
    go_wp2_with fail
    refine (Cls.begun_any _).mono ?_
    rintro e w1 ⟨rfl, e1⟩
    go_wp2_with fail
    go_ret
    exact ⟨rfl, e1⟩
  exact absurd ⟨by omega, by omega, by omega, by omega, by omega, by omega, by omega, by omega, by omega, by omega⟩ HH.out
end ClassLimits
end Go.Proofs.Ytbfcjflgomedgaa
