/- The contracts of the document's own answers on instructions: Jumps, Ends, parts, number, EqIns. -/
import Derived.Test.YtbfcjflgomedgaaOpSpec
import Derived.Deep.Light
namespace Go.Proofs.Ytbfcjflgomedgaa
namespace Op4
open Num Kind
open Go.RowKit
set_option linter.unusedVariables false
set_option maxRecDepth 100000

theorem ret_b {a b : Bool} (h : a = b) : Ending.returned (.bool a) = .returned (.bool b) := by rw [h]
def resP (r : Bool × Int × Bool) : Value := .tuple #[.bool r.1, .int .i64 r.2.1, .bool r.2.2]
theorem ret_p {a c : Bool} {b : Int} {r : Bool × Int × Bool} (h : (a, b, c) = r) : Ending.returned (.tuple #[.bool a, .int .i64 b, .bool c]) = .returned (resP r) := by rw [← h]; rfl
end Op4
end Go.Proofs.Ytbfcjflgomedgaa
