/- The contract of the document's own bytes of an instruction: PutIns. -/
import Derived.Test.YtbfcjflgomedgaaGreatBaseOp
import Derived.Test.YtbfcjflgomedgaaGreatLibOwn
import Derived.Test.YtbfcjflgomedgaaGreatLibMore
namespace Go.Proofs.YtbfcjflgomedgaaGreat
namespace Op4
open Num Kind
open Go.RowKit
set_option linter.unusedVariables false
set_option maxRecDepth 100000

/-- An instruction's bytes. -/
def putI (o a : Int) (c m : ByteArray) : List Int :=
  enc o ++ ((if (partsF o).1 then enc a else []) ++ ((if 0 < (partsF o).2.1 then encT c else []) ++ (if (partsF o).2.2 then encT m else [])))

theorem encT_small (c : ByteArray) (h : c.size ≤ 100) : 1 ≤ (encT c).length ∧ (encT c).length ≤ 110 := by
  have := encT_length c
  have := enc_len c.size
  omega

end Op4
end Go.Proofs.YtbfcjflgomedgaaGreat
