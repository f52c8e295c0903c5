/-
  No cell of these rows narrows 'for every input' (looked for: loops, veiled, ifaces, maps, wideKeys, modest, calm, conditions, laid).
  DERIVED. THE GIVEN ROWS OF THIS SEAT. 3 by the template 'for every input the law returns true; each argument reads behind the call as it read before'; 0 by the template 'total and deterministic' (their statements: YtegamajcipgkhaaTotals.lean).
  GIVEN WITH THE SEED: the statements are not yours to turn. If you find one false, say at which input.
  Laid BY PROGRAM, IN A SANDBOX (cutbox-rows.mjs): the forced cells as the released guide's own fill.sh prints them over the translation a8f5a09962ca8700… (all of the seat's roots in one cut). By AI agents, Wed Nov 11 2026. No macro, syntax, notation, axiom, sorry.
-/
import Derived.Test.YtegamajcipgkhaaChecked
import GoSem.Claim
import GoSem.ClaimJoined
import GoSem.ClaimMapViews
import Derived.JoinedTies
import Derived.KernelRfl
namespace Go.Proofs.Ytegamajcipgkhaa
/- THE CELL 'sum', in the pinned program and in every row, IS THE sha256 OF THE DUMP (.gsa) THAT YtegamajcipgkhaaProg.lean LOADS. Nothing in Lean hashes anything: it is a label: what it is worth is what the hold of that sum in a sandbox is worth. -/
noncomputable def Try.pinned : Pinned := { name := "ytegamajcipgkhaa", sum := "a8f5a09962ca8700cb86ef4db578b77faf196f12d75329cdb8db7b23e221dc96", checked := Try.checked }
namespace Rows
def none {H : Type} : Left H := { results := [], args := [] }

/-- 'daguerrelaw4.OpAll': WHATEVER THE INPUT: true; the input reads as it did. -/
def opAllSpec : ChangeSpec := { name := "opAll", fn := fun _ => fun
  | [d1, d2, d3, d4] => { results := [.lit (.bool true)], args := [d1, d2, d3, d4] }
  | _ => none }
def opAllRow : OpenClaim := { program := "ytegamajcipgkhaa", sum := "a8f5a09962ca8700cb86ef4db578b77faf196f12d75329cdb8db7b23e221dc96", func := "daguerre/daguerrelaw4.OpAll", spec := "opAll", apart := false }
def OpAllSaid : Prop := opAllRow.holds Try.pinned (OpenSpec.ofChange opAllSpec)

/-- ITS FALSE NEIGHBOUR: 'it returns false'. Refute it at one input. -/
def opAllWrong : ChangeSpec := { name := "opAll", fn := fun _ => fun
  | [d1, d2, d3, d4] => { results := [.lit (.bool false)], args := [d1, d2, d3, d4] }
  | _ => none }
def OpAllWrongFalsely : Prop := opAllRow.holds Try.pinned (OpenSpec.ofChange opAllWrong)

/-- 'daguerrelaw4.OpEach': WHATEVER THE INPUT: true; the input reads as it did. -/
def opEachSpec : ChangeSpec := { name := "opEach", fn := fun _ => fun
  | [d1, d2, d3, d4] => { results := [.lit (.bool true)], args := [d1, d2, d3, d4] }
  | _ => none }
def opEachRow : OpenClaim := { program := "ytegamajcipgkhaa", sum := "a8f5a09962ca8700cb86ef4db578b77faf196f12d75329cdb8db7b23e221dc96", func := "daguerre/daguerrelaw4.OpEach", spec := "opEach", apart := false }
def OpEachSaid : Prop := opEachRow.holds Try.pinned (OpenSpec.ofChange opEachSpec)

/-- ITS FALSE NEIGHBOUR: 'it returns false'. Refute it at one input. -/
def opEachWrong : ChangeSpec := { name := "opEach", fn := fun _ => fun
  | [d1, d2, d3, d4] => { results := [.lit (.bool false)], args := [d1, d2, d3, d4] }
  | _ => none }
def OpEachWrongFalsely : Prop := opEachRow.holds Try.pinned (OpenSpec.ofChange opEachWrong)

/-- 'daguerrelaw4.OpMany': WHATEVER THE INPUT: true; the input reads as it did. -/
def opManySpec : ChangeSpec := { name := "opMany", fn := fun _ => fun
  | [d] => { results := [.lit (.bool true)], args := [d] }
  | _ => none }
def opManyRow : OpenClaim := { program := "ytegamajcipgkhaa", sum := "a8f5a09962ca8700cb86ef4db578b77faf196f12d75329cdb8db7b23e221dc96", func := "daguerre/daguerrelaw4.OpMany", spec := "opMany", apart := false }
def OpManySaid : Prop := opManyRow.holds Try.pinned (OpenSpec.ofChange opManySpec)

/-- ITS FALSE NEIGHBOUR: 'it returns false'. Refute it at one input. -/
def opManyWrong : ChangeSpec := { name := "opMany", fn := fun _ => fun
  | [d] => { results := [.lit (.bool false)], args := [d] }
  | _ => none }
def OpManyWrongFalsely : Prop := opManyRow.holds Try.pinned (OpenSpec.ofChange opManyWrong)

/- THE SECOND FORM. 'bulk': how many values and letters a reading holds, each counted each time it is reached (what is shared counts as often as it is met; a slice's spare places count too). A statement '..UptoSaid' is the law's where the arguments, and the package variables that the reading takes, are together of bulk at most 1048576: NARROWER than '..Said'. Prove '..Said' where nothing that the law and all that it calls make is longer than what came in: it says more and counts as full. Else prove '..UptoSaid'. A law counts once. -/
mutual
def uptoBulk {H : Type} : DataW H → Nat
  | .lit (.string bytes) => bytes.length + 1
  | .lit _ => 1
  | .nil => 1
  | .ptr d => uptoBulk d + 1
  | .slice elems spare => uptoBulkAll elems + uptoBulkAll spare + 1
  | .agg parts => uptoBulkAll parts + 1
  | .iface _ d => uptoBulk d + 1
  | .map entries => uptoBulkEntries entries + 1
  | .held _ => 1
def uptoBulkAll {H : Type} : List (DataW H) → Nat
  | [] => 0
  | d :: r => uptoBulk d + uptoBulkAll r
def uptoBulkEntries {H : Type} : List (Lit × DataW H) → Nat
  | [] => 0
  | x :: r => uptoBulkEntry x + uptoBulkEntries r
def uptoBulkEntry {H : Type} : Lit × DataW H → Nat
  | (.string bytes, d) => bytes.length + uptoBulk d + 1
  | (_, d) => uptoBulk d + 1
 end
def uptoSmall : (H : Type) → List (DataW H) → Bool := fun _ ds => decide (uptoBulkAll ds ≤ 1048576)
def OpenSpec.upto (s : _root_.Go.ChangeSpec) : _root_.Go.OpenSpec := { _root_.Go.OpenSpec.ofChange s with cond := some uptoSmall }

/-- 'daguerrelaw4.OpAll', WHERE WHAT IT READS IS OF BULK AT MOST 1048576: true; the input reads as it did. -/
def opAllUptoRow : OpenClaim := { program := "ytegamajcipgkhaa", sum := "a8f5a09962ca8700cb86ef4db578b77faf196f12d75329cdb8db7b23e221dc96", func := "daguerre/daguerrelaw4.OpAll", spec := "opAll", apart := false, narrowed := true }
def OpAllUptoSaid : Prop := opAllUptoRow.holds Try.pinned (OpenSpec.upto opAllSpec)

/-- 'daguerrelaw4.OpEach', WHERE WHAT IT READS IS OF BULK AT MOST 1048576: true; the input reads as it did. -/
def opEachUptoRow : OpenClaim := { program := "ytegamajcipgkhaa", sum := "a8f5a09962ca8700cb86ef4db578b77faf196f12d75329cdb8db7b23e221dc96", func := "daguerre/daguerrelaw4.OpEach", spec := "opEach", apart := false, narrowed := true }
def OpEachUptoSaid : Prop := opEachUptoRow.holds Try.pinned (OpenSpec.upto opEachSpec)

/-- 'daguerrelaw4.OpMany', WHERE WHAT IT READS IS OF BULK AT MOST 1048576: true; the input reads as it did. -/
def opManyUptoRow : OpenClaim := { program := "ytegamajcipgkhaa", sum := "a8f5a09962ca8700cb86ef4db578b77faf196f12d75329cdb8db7b23e221dc96", func := "daguerre/daguerrelaw4.OpMany", spec := "opMany", apart := false, narrowed := true }
def OpManyUptoSaid : Prop := opManyUptoRow.holds Try.pinned (OpenSpec.upto opManySpec)

end Rows
end Go.Proofs.Ytegamajcipgkhaa
