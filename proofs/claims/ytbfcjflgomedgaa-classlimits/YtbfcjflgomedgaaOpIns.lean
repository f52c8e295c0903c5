/- The contracts over instructions as values: EqIns, MayIns. -/
import Derived.Test.YtbfcjflgomedgaaOpRef
import Derived.Test.YtbfcjflgomedgaaKindRef
import Derived.Deep.Light
namespace Go.Proofs.Ytbfcjflgomedgaa
namespace Op4
open Num Kind
open Go.RowKit
set_option linter.unusedVariables false
set_option maxRecDepth 100000

/-- An instruction as the text has it. -/
def insV (o a : Int) (c m : ByteArray) : Value := .agg #[.int .i64 o, .int .i64 a, .string c, .string m]
def eqB (o a : Int) (c m : ByteArray) (o' a' : Int) (c' m' : ByteArray) : Bool := decide (o = o' ∧ a = a' ∧ c.toList = c'.toList ∧ m.toList = m'.toList)

set_option maxHeartbeats 1000000 in
theorem eq_any (o a : Int) (c m : ByteArray) (o' a' : Int) (c' m' : ByteArray) (w : World) :
    Calls Try.prog 43 #[insV o a c m, insV o' a' c' m'] w fun e w' => e = .returned (.bool (eqB o a c m o' a' c' m')) ∧ Below w.heap.size w w' := by
  unfold insV
  go_enter Try.func43, Try.ntmps43
  go_wp2_with fail
  all_goals
    go_ret
    refine ⟨ret_b ?_, ((Below.refl _ _).alloc (Nat.le_refl _) _).alloc (by simp) _⟩
    go_light
    simp_all [eqB]
    try (rw [Bool.eq_iff_iff]; simp)

theorem empty_nums (c : ByteArray) : c.toList.isEmpty = (nums c == []) := by
  rw [← beq_nums c [] [] rfl]
  cases c.toList <;> rfl

end Op4
end Go.Proofs.Ytbfcjflgomedgaa
