/- The contracts of the document's own answers on instructions: Jumps, Ends, parts, number, EqIns. -/
import Derived.Test.YtegamajcipgkhaaOpSpec
import Derived.Deep.Light
namespace Go.Proofs.Ytegamajcipgkhaa
namespace Op4
open Num Kind
open Go.RowKit
set_option linter.unusedVariables false

theorem ret_b {a b : Bool} (h : a = b) : Ending.returned (.bool a) = .returned (.bool b) := by rw [h]
theorem jumps_any (o : Int) (w : World) : Calls Try.prog 12 #[.int .i64 o] w fun e w' => e = .returned (.bool (jumpsB o)) ∧ w = w' := by
  by_cases h1 : 20 ≤ o
  · have e0 : jumpsB o = decide (o ≤ 36) := by unfold jumpsB; simp [h1]
    rw [e0]
    clear e0
    go_enter Try.func12, Try.ntmps12
    go_wp2_with fail
    go_ret
    exact ⟨rfl, rfl⟩
  · have e0 : jumpsB o = false := by unfold jumpsB; simp; omega
    rw [e0]
    clear e0
    go_enter Try.func12, Try.ntmps12
    go_wp2_with fail
    go_ret
    exact ⟨rfl, rfl⟩
theorem ends_any (o : Int) (w : World) : Calls Try.prog 14 #[.int .i64 o] w fun e w' => e = .returned (.bool (endsB o)) ∧ w = w' := by
  go_enter Try.func14, Try.ntmps14
  go_wp2_with fail
  all_goals
    go_ret
    refine ⟨ret_b ?_, rfl⟩
    go_light
    simp_all [endsB]
def resP (r : Bool × Int × Bool) : Value := .tuple #[.bool r.1, .int .i64 r.2.1, .bool r.2.2]
theorem ret_p {a c : Bool} {b : Int} {r : Bool × Int × Bool} (h : (a, b, c) = r) : Ending.returned (.tuple #[.bool a, .int .i64 b, .bool c]) = .returned (resP r) := by rw [← h]; rfl
theorem parts_any (o : Int) (w : World) : Calls Try.prog 21 #[.int .i64 o] w fun e w' => e = .returned (resP (partsF o)) ∧ w = w' := by
  go_enter Try.func21, Try.ntmps21
  go_wp2_with (go_at_call 12; refine (jumps_any o _).mono ?_; rintro e w' ⟨rfl, rfl⟩)
  all_goals
    go_ret3
    refine ⟨ret_p ?_, rfl⟩
    go_light
    simp_all [partsF, jumpsB]
    try (repeat' split) <;> first | rfl | (exfalso; omega)
theorem number_any (o a : Int) (w : World) : Calls Try.prog 22 #[.int .i64 o, .int .i64 a] w fun e w' => e = .returned (.bool (numberB o a)) ∧ w = w' := by
  go_enter Try.func22, Try.ntmps22
  go_wp2_with (go_at_call 12; refine (jumps_any o _).mono ?_; rintro e w' ⟨rfl, rfl⟩)
  all_goals
    go_ret
    refine ⟨ret_b ?_, rfl⟩
    go_light
    simp_all [numberB, jumpsB]
    try (repeat' split) <;> first | rfl | omega | (exfalso; omega)
end Op4
end Go.Proofs.Ytegamajcipgkhaa
