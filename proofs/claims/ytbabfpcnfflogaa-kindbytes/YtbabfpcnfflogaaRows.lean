/-
  No cell of these rows narrows 'for every input' (looked for: loops, veiled, ifaces, maps, wideKeys, modest, calm, conditions, laid).
  DERIVED. THE GIVEN ROWS OF THIS SEAT. 5 by the template 'for every input the law returns true; each argument reads behind the call as it read before'; 0 by the template 'total and deterministic' (their statements: YtbabfpcnfflogaaTotals.lean).
  GIVEN WITH THE SEED: the statements are not yours to turn. If you find one false, say at which input.
  Laid BY PROGRAM, IN A SANDBOX (cutbox-rows.mjs): the forced cells as the released guide's own fill.sh prints them over the translation bd4dc751e2c86f2f… (all of the seat's roots in one cut). By AI agents, Wed Nov 11 2026. No macro, syntax, notation, axiom, sorry.
-/
import Derived.Test.YtbabfpcnfflogaaChecked
import GoSem.Claim
import GoSem.ClaimJoined
import GoSem.ClaimMapViews
import Derived.JoinedTies
import Derived.KernelRfl
namespace Go.Proofs.Ytbabfpcnfflogaa
/- THE CELL 'sum', in the pinned program and in every row, IS THE sha256 OF THE DUMP (.gsa) THAT YtbabfpcnfflogaaProg.lean LOADS. Nothing in Lean hashes anything: it is a label: what it is worth is what the hold of that sum in a sandbox is worth. -/
noncomputable def Try.pinned : Pinned := { name := "ytbabfpcnfflogaa", sum := "bd4dc751e2c86f2f1f8ce8328d68df9f94accfdb9b292c01be5933f89c3ffc37", checked := Try.checked }
namespace Rows
def none {H : Type} : Left H := { results := [], args := [] }

/-- 'daguerrelaw3.KindAll': WHATEVER THE INPUT: true; the input reads as it did. -/
def kindAllSpec : ChangeSpec := { name := "kindAll", fn := fun _ => fun
  | [d] => { results := [.lit (.bool true)], args := [d] }
  | _ => none }
def kindAllRow : OpenClaim := { program := "ytbabfpcnfflogaa", sum := "bd4dc751e2c86f2f1f8ce8328d68df9f94accfdb9b292c01be5933f89c3ffc37", func := "daguerre/daguerrelaw3.KindAll", spec := "kindAll", apart := false }
def KindAllSaid : Prop := kindAllRow.holds Try.pinned (OpenSpec.ofChange kindAllSpec)

/-- ITS FALSE NEIGHBOUR: 'it returns false'. Refute it at one input. -/
def kindAllWrong : ChangeSpec := { name := "kindAll", fn := fun _ => fun
  | [d] => { results := [.lit (.bool false)], args := [d] }
  | _ => none }
def KindAllWrongFalsely : Prop := kindAllRow.holds Try.pinned (OpenSpec.ofChange kindAllWrong)

/-- 'daguerrelaw3.KindBytes': WHATEVER THE INPUT: true; the input reads as it did. -/
def kindBytesSpec : ChangeSpec := { name := "kindBytes", fn := fun _ => fun
  | [d1, d2] => { results := [.lit (.bool true)], args := [d1, d2] }
  | _ => none }
def kindBytesRow : OpenClaim := { program := "ytbabfpcnfflogaa", sum := "bd4dc751e2c86f2f1f8ce8328d68df9f94accfdb9b292c01be5933f89c3ffc37", func := "daguerre/daguerrelaw3.KindBytes", spec := "kindBytes", apart := false }
def KindBytesSaid : Prop := kindBytesRow.holds Try.pinned (OpenSpec.ofChange kindBytesSpec)

/-- ITS FALSE NEIGHBOUR: 'it returns false'. Refute it at one input. -/
def kindBytesWrong : ChangeSpec := { name := "kindBytes", fn := fun _ => fun
  | [d1, d2] => { results := [.lit (.bool false)], args := [d1, d2] }
  | _ => none }
def KindBytesWrongFalsely : Prop := kindBytesRow.holds Try.pinned (OpenSpec.ofChange kindBytesWrong)

/-- 'daguerrelaw3.KindArrays': WHATEVER THE INPUT: true; the input reads as it did. -/
def kindArraysSpec : ChangeSpec := { name := "kindArrays", fn := fun _ => fun
  | [d] => { results := [.lit (.bool true)], args := [d] }
  | _ => none }
def kindArraysRow : OpenClaim := { program := "ytbabfpcnfflogaa", sum := "bd4dc751e2c86f2f1f8ce8328d68df9f94accfdb9b292c01be5933f89c3ffc37", func := "daguerre/daguerrelaw3.KindArrays", spec := "kindArrays", apart := false }
def KindArraysSaid : Prop := kindArraysRow.holds Try.pinned (OpenSpec.ofChange kindArraysSpec)

/-- ITS FALSE NEIGHBOUR: 'it returns false'. Refute it at one input. -/
def kindArraysWrong : ChangeSpec := { name := "kindArrays", fn := fun _ => fun
  | [d] => { results := [.lit (.bool false)], args := [d] }
  | _ => none }
def KindArraysWrongFalsely : Prop := kindArraysRow.holds Try.pinned (OpenSpec.ofChange kindArraysWrong)

/-- 'daguerrelaw3.KindLong': WHATEVER THE INPUT: true; the input reads as it did. -/
def kindLongSpec : ChangeSpec := { name := "kindLong", fn := fun _ => fun
  | [d1, d2] => { results := [.lit (.bool true)], args := [d1, d2] }
  | _ => none }
def kindLongRow : OpenClaim := { program := "ytbabfpcnfflogaa", sum := "bd4dc751e2c86f2f1f8ce8328d68df9f94accfdb9b292c01be5933f89c3ffc37", func := "daguerre/daguerrelaw3.KindLong", spec := "kindLong", apart := false }
def KindLongSaid : Prop := kindLongRow.holds Try.pinned (OpenSpec.ofChange kindLongSpec)

/-- ITS FALSE NEIGHBOUR: 'it returns false'. Refute it at one input. -/
def kindLongWrong : ChangeSpec := { name := "kindLong", fn := fun _ => fun
  | [d1, d2] => { results := [.lit (.bool false)], args := [d1, d2] }
  | _ => none }
def KindLongWrongFalsely : Prop := kindLongRow.holds Try.pinned (OpenSpec.ofChange kindLongWrong)

/-- 'daguerrelaw3.KindNest': WHATEVER THE INPUT: true; the input reads as it did. -/
def kindNestSpec : ChangeSpec := { name := "kindNest", fn := fun _ => fun
  | [d1, d2] => { results := [.lit (.bool true)], args := [d1, d2] }
  | _ => none }
def kindNestRow : OpenClaim := { program := "ytbabfpcnfflogaa", sum := "bd4dc751e2c86f2f1f8ce8328d68df9f94accfdb9b292c01be5933f89c3ffc37", func := "daguerre/daguerrelaw3.KindNest", spec := "kindNest", apart := false }
def KindNestSaid : Prop := kindNestRow.holds Try.pinned (OpenSpec.ofChange kindNestSpec)

/-- ITS FALSE NEIGHBOUR: 'it returns false'. Refute it at one input. -/
def kindNestWrong : ChangeSpec := { name := "kindNest", fn := fun _ => fun
  | [d1, d2] => { results := [.lit (.bool false)], args := [d1, d2] }
  | _ => none }
def KindNestWrongFalsely : Prop := kindNestRow.holds Try.pinned (OpenSpec.ofChange kindNestWrong)

/- THE SECOND FORM. 'bulk': how many values and letters a reading holds, each counted each time it is reached (what is shared counts as often as it is met; a slice's spare places count too). A statement '..UptoSaid' is the law's where the arguments, and the package variables that the reading takes, are together of bulk at most 1048576: NARROWER than '..Said'. Prove '..Said' where nothing that the law and all that it calls make is longer than what came in: it says more and counts as full. Else prove '..UptoSaid'. A law counts once. -/
mutual
def uptoBulk {H : Type} : DataW H → Nat
  | .lit (.string bytes) => bytes.length + 1
  | .lit _ => 1
  | .nil => 1
  | .ptr d => uptoBulk d + 1
  | .slice elems spare => uptoBulkAll elems + uptoBulkAll spare + 1
  | .agg parts => uptoBulkAll parts + 1
  | .iface _ d => uptoBulk d + 1
  | .map entries => uptoBulkEntries entries + 1
  | .held _ => 1
def uptoBulkAll {H : Type} : List (DataW H) → Nat
  | [] => 0
  | d :: r => uptoBulk d + uptoBulkAll r
def uptoBulkEntries {H : Type} : List (Lit × DataW H) → Nat
  | [] => 0
  | x :: r => uptoBulkEntry x + uptoBulkEntries r
def uptoBulkEntry {H : Type} : Lit × DataW H → Nat
  | (.string bytes, d) => bytes.length + uptoBulk d + 1
  | (_, d) => uptoBulk d + 1
 end
def uptoSmall : (H : Type) → List (DataW H) → Bool := fun _ ds => decide (uptoBulkAll ds ≤ 1048576)
def OpenSpec.upto (s : _root_.Go.ChangeSpec) : _root_.Go.OpenSpec := { _root_.Go.OpenSpec.ofChange s with cond := some uptoSmall }

/-- 'daguerrelaw3.KindAll', WHERE WHAT IT READS IS OF BULK AT MOST 1048576: true; the input reads as it did. -/
def kindAllUptoRow : OpenClaim := { program := "ytbabfpcnfflogaa", sum := "bd4dc751e2c86f2f1f8ce8328d68df9f94accfdb9b292c01be5933f89c3ffc37", func := "daguerre/daguerrelaw3.KindAll", spec := "kindAll", apart := false, narrowed := true }
def KindAllUptoSaid : Prop := kindAllUptoRow.holds Try.pinned (OpenSpec.upto kindAllSpec)

/-- 'daguerrelaw3.KindBytes', WHERE WHAT IT READS IS OF BULK AT MOST 1048576: true; the input reads as it did. -/
def kindBytesUptoRow : OpenClaim := { program := "ytbabfpcnfflogaa", sum := "bd4dc751e2c86f2f1f8ce8328d68df9f94accfdb9b292c01be5933f89c3ffc37", func := "daguerre/daguerrelaw3.KindBytes", spec := "kindBytes", apart := false, narrowed := true }
def KindBytesUptoSaid : Prop := kindBytesUptoRow.holds Try.pinned (OpenSpec.upto kindBytesSpec)

/-- 'daguerrelaw3.KindArrays', WHERE WHAT IT READS IS OF BULK AT MOST 1048576: true; the input reads as it did. -/
def kindArraysUptoRow : OpenClaim := { program := "ytbabfpcnfflogaa", sum := "bd4dc751e2c86f2f1f8ce8328d68df9f94accfdb9b292c01be5933f89c3ffc37", func := "daguerre/daguerrelaw3.KindArrays", spec := "kindArrays", apart := false, narrowed := true }
def KindArraysUptoSaid : Prop := kindArraysUptoRow.holds Try.pinned (OpenSpec.upto kindArraysSpec)

/-- 'daguerrelaw3.KindLong', WHERE WHAT IT READS IS OF BULK AT MOST 1048576: true; the input reads as it did. -/
def kindLongUptoRow : OpenClaim := { program := "ytbabfpcnfflogaa", sum := "bd4dc751e2c86f2f1f8ce8328d68df9f94accfdb9b292c01be5933f89c3ffc37", func := "daguerre/daguerrelaw3.KindLong", spec := "kindLong", apart := false, narrowed := true }
def KindLongUptoSaid : Prop := kindLongUptoRow.holds Try.pinned (OpenSpec.upto kindLongSpec)

/-- 'daguerrelaw3.KindNest', WHERE WHAT IT READS IS OF BULK AT MOST 1048576: true; the input reads as it did. -/
def kindNestUptoRow : OpenClaim := { program := "ytbabfpcnfflogaa", sum := "bd4dc751e2c86f2f1f8ce8328d68df9f94accfdb9b292c01be5933f89c3ffc37", func := "daguerre/daguerrelaw3.KindNest", spec := "kindNest", apart := false, narrowed := true }
def KindNestUptoSaid : Prop := kindNestUptoRow.holds Try.pinned (OpenSpec.upto kindNestSpec)

end Rows
end Go.Proofs.Ytbabfpcnfflogaa
