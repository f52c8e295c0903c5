/- The contract of the laws' Cut, at any bound. -/
import Derived.Test.YtbfcjflgomedgaaGreatLibHas
namespace Go.Proofs.YtbfcjflgomedgaaGreat
namespace Num
open Go.RowKit
set_option linter.unusedVariables false
set_option maxRecDepth 100000

/-- A text that is no longer than m. -/
def cutS (s : ByteArray) (m : Nat) : ByteArray := if m < s.size then s.extract 0 m else s
theorem cutS_size (s : ByteArray) (m : Nat) : (cutS s m).size ≤ m := by
  unfold cutS
  split
  · simp; omega
  · omega
end Num
end Go.Proofs.YtbfcjflgomedgaaGreat
