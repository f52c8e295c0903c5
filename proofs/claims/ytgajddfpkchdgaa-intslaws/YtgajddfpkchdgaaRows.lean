/-
  No cell of these rows narrows 'for every input' (looked for: loops, veiled, ifaces, maps, wideKeys, modest, calm, conditions, laid).
  DERIVED. THE GIVEN ROWS OF THIS SEAT. 5 by the template 'for every input the law returns true; each argument reads behind the call as it read before'; 0 by the template 'total and deterministic' (their statements: YtgajddfpkchdgaaTotals.lean).
  GIVEN WITH THE SEED: the statements are not yours to turn. If you find one false, say at which input.
  Laid BY PROGRAM, IN A SANDBOX (cutbox-rows.mjs): the forced cells as the released guide's own fill.sh prints them over the translation 10006c86b3e20e8b… (all of the seat's roots in one cut). By AI agents, Wed Nov 11 2026. No macro, syntax, notation, axiom, sorry.
-/
import Derived.Test.YtgajddfpkchdgaaChecked
import GoSem.Claim
import GoSem.ClaimJoined
import GoSem.ClaimMapViews
import Derived.JoinedTies
import Derived.KernelRfl
namespace Go.Proofs.Ytgajddfpkchdgaa
/- THE CELL 'sum', in the pinned program and in every row, IS THE sha256 OF THE DUMP (.gsa) THAT YtgajddfpkchdgaaProg.lean LOADS. Nothing in Lean hashes anything: it is a label: what it is worth is what the hold of that sum in a sandbox is worth. -/
noncomputable def Try.pinned : Pinned := { name := "ytgajddfpkchdgaa", sum := "10006c86b3e20e8be9825e3d2a9afd03274ce0c4abb901418d7bd50bb089d40c", checked := Try.checked }
namespace Rows
def none {H : Type} : Left H := { results := [], args := [] }

/-- 'daguerrelaw12.IntsAll': WHATEVER THE INPUT: true; the input reads as it did. -/
def intsAllSpec : ChangeSpec := { name := "intsAll", fn := fun _ => fun
  | [d1, d2, d3] => { results := [.lit (.bool true)], args := [d1, d2, d3] }
  | _ => none }
def intsAllRow : OpenClaim := { program := "ytgajddfpkchdgaa", sum := "10006c86b3e20e8be9825e3d2a9afd03274ce0c4abb901418d7bd50bb089d40c", func := "daguerre/daguerrelaw12.IntsAll", spec := "intsAll", apart := false }
def IntsAllSaid : Prop := intsAllRow.holds Try.pinned (OpenSpec.ofChange intsAllSpec)

/-- ITS FALSE NEIGHBOUR: 'it returns false'. Refute it at one input. -/
def intsAllWrong : ChangeSpec := { name := "intsAll", fn := fun _ => fun
  | [d1, d2, d3] => { results := [.lit (.bool false)], args := [d1, d2, d3] }
  | _ => none }
def IntsAllWrongFalsely : Prop := intsAllRow.holds Try.pinned (OpenSpec.ofChange intsAllWrong)

/-- 'daguerrelaw12.IntsEach': WHATEVER THE INPUT: true; the input reads as it did. -/
def intsEachSpec : ChangeSpec := { name := "intsEach", fn := fun _ => fun
  | [d1, d2] => { results := [.lit (.bool true)], args := [d1, d2] }
  | _ => none }
def intsEachRow : OpenClaim := { program := "ytgajddfpkchdgaa", sum := "10006c86b3e20e8be9825e3d2a9afd03274ce0c4abb901418d7bd50bb089d40c", func := "daguerre/daguerrelaw12.IntsEach", spec := "intsEach", apart := false }
def IntsEachSaid : Prop := intsEachRow.holds Try.pinned (OpenSpec.ofChange intsEachSpec)

/-- ITS FALSE NEIGHBOUR: 'it returns false'. Refute it at one input. -/
def intsEachWrong : ChangeSpec := { name := "intsEach", fn := fun _ => fun
  | [d1, d2] => { results := [.lit (.bool false)], args := [d1, d2] }
  | _ => none }
def IntsEachWrongFalsely : Prop := intsEachRow.holds Try.pinned (OpenSpec.ofChange intsEachWrong)

/-- 'daguerrelaw12.IntsLaws': WHATEVER THE INPUT: true; the input reads as it did. -/
def intsLawsSpec : ChangeSpec := { name := "intsLaws", fn := fun _ => fun
  | [d1, d2] => { results := [.lit (.bool true)], args := [d1, d2] }
  | _ => none }
def intsLawsRow : OpenClaim := { program := "ytgajddfpkchdgaa", sum := "10006c86b3e20e8be9825e3d2a9afd03274ce0c4abb901418d7bd50bb089d40c", func := "daguerre/daguerrelaw12.IntsLaws", spec := "intsLaws", apart := false }
def IntsLawsSaid : Prop := intsLawsRow.holds Try.pinned (OpenSpec.ofChange intsLawsSpec)

/-- ITS FALSE NEIGHBOUR: 'it returns false'. Refute it at one input. -/
def intsLawsWrong : ChangeSpec := { name := "intsLaws", fn := fun _ => fun
  | [d1, d2] => { results := [.lit (.bool false)], args := [d1, d2] }
  | _ => none }
def IntsLawsWrongFalsely : Prop := intsLawsRow.holds Try.pinned (OpenSpec.ofChange intsLawsWrong)

/-- 'daguerrelaw12.IntsShift': WHATEVER THE INPUT: true; the input reads as it did. -/
def intsShiftSpec : ChangeSpec := { name := "intsShift", fn := fun _ => fun
  | [d1, d2] => { results := [.lit (.bool true)], args := [d1, d2] }
  | _ => none }
def intsShiftRow : OpenClaim := { program := "ytgajddfpkchdgaa", sum := "10006c86b3e20e8be9825e3d2a9afd03274ce0c4abb901418d7bd50bb089d40c", func := "daguerre/daguerrelaw12.IntsShift", spec := "intsShift", apart := false }
def IntsShiftSaid : Prop := intsShiftRow.holds Try.pinned (OpenSpec.ofChange intsShiftSpec)

/-- ITS FALSE NEIGHBOUR: 'it returns false'. Refute it at one input. -/
def intsShiftWrong : ChangeSpec := { name := "intsShift", fn := fun _ => fun
  | [d1, d2] => { results := [.lit (.bool false)], args := [d1, d2] }
  | _ => none }
def IntsShiftWrongFalsely : Prop := intsShiftRow.holds Try.pinned (OpenSpec.ofChange intsShiftWrong)

/-- 'daguerrelaw12.IntsOrder': WHATEVER THE INPUT: true; the input reads as it did. -/
def intsOrderSpec : ChangeSpec := { name := "intsOrder", fn := fun _ => fun
  | [d1, d2] => { results := [.lit (.bool true)], args := [d1, d2] }
  | _ => none }
def intsOrderRow : OpenClaim := { program := "ytgajddfpkchdgaa", sum := "10006c86b3e20e8be9825e3d2a9afd03274ce0c4abb901418d7bd50bb089d40c", func := "daguerre/daguerrelaw12.IntsOrder", spec := "intsOrder", apart := false }
def IntsOrderSaid : Prop := intsOrderRow.holds Try.pinned (OpenSpec.ofChange intsOrderSpec)

/-- ITS FALSE NEIGHBOUR: 'it returns false'. Refute it at one input. -/
def intsOrderWrong : ChangeSpec := { name := "intsOrder", fn := fun _ => fun
  | [d1, d2] => { results := [.lit (.bool false)], args := [d1, d2] }
  | _ => none }
def IntsOrderWrongFalsely : Prop := intsOrderRow.holds Try.pinned (OpenSpec.ofChange intsOrderWrong)

/- THE SECOND FORM. 'bulk': how many values and letters a reading holds, each counted each time it is reached (what is shared counts as often as it is met; a slice's spare places count too). A statement '..UptoSaid' is the law's where the arguments, and the package variables that the reading takes, are together of bulk at most 1048576: NARROWER than '..Said'. Prove '..Said' where nothing that the law and all that it calls make is longer than what came in: it says more and counts as full. Else prove '..UptoSaid'. A law counts once. -/
mutual
def uptoBulk {H : Type} : DataW H → Nat
  | .lit (.string bytes) => bytes.length + 1
  | .lit _ => 1
  | .nil => 1
  | .ptr d => uptoBulk d + 1
  | .slice elems spare => uptoBulkAll elems + uptoBulkAll spare + 1
  | .agg parts => uptoBulkAll parts + 1
  | .iface _ d => uptoBulk d + 1
  | .map entries => uptoBulkEntries entries + 1
  | .held _ => 1
def uptoBulkAll {H : Type} : List (DataW H) → Nat
  | [] => 0
  | d :: r => uptoBulk d + uptoBulkAll r
def uptoBulkEntries {H : Type} : List (Lit × DataW H) → Nat
  | [] => 0
  | x :: r => uptoBulkEntry x + uptoBulkEntries r
def uptoBulkEntry {H : Type} : Lit × DataW H → Nat
  | (.string bytes, d) => bytes.length + uptoBulk d + 1
  | (_, d) => uptoBulk d + 1
 end
def uptoSmall : (H : Type) → List (DataW H) → Bool := fun _ ds => decide (uptoBulkAll ds ≤ 1048576)
def OpenSpec.upto (s : _root_.Go.ChangeSpec) : _root_.Go.OpenSpec := { _root_.Go.OpenSpec.ofChange s with cond := some uptoSmall }

/-- 'daguerrelaw12.IntsAll', WHERE WHAT IT READS IS OF BULK AT MOST 1048576: true; the input reads as it did. -/
def intsAllUptoRow : OpenClaim := { program := "ytgajddfpkchdgaa", sum := "10006c86b3e20e8be9825e3d2a9afd03274ce0c4abb901418d7bd50bb089d40c", func := "daguerre/daguerrelaw12.IntsAll", spec := "intsAll", apart := false, narrowed := true }
def IntsAllUptoSaid : Prop := intsAllUptoRow.holds Try.pinned (OpenSpec.upto intsAllSpec)

/-- 'daguerrelaw12.IntsEach', WHERE WHAT IT READS IS OF BULK AT MOST 1048576: true; the input reads as it did. -/
def intsEachUptoRow : OpenClaim := { program := "ytgajddfpkchdgaa", sum := "10006c86b3e20e8be9825e3d2a9afd03274ce0c4abb901418d7bd50bb089d40c", func := "daguerre/daguerrelaw12.IntsEach", spec := "intsEach", apart := false, narrowed := true }
def IntsEachUptoSaid : Prop := intsEachUptoRow.holds Try.pinned (OpenSpec.upto intsEachSpec)

/-- 'daguerrelaw12.IntsLaws', WHERE WHAT IT READS IS OF BULK AT MOST 1048576: true; the input reads as it did. -/
def intsLawsUptoRow : OpenClaim := { program := "ytgajddfpkchdgaa", sum := "10006c86b3e20e8be9825e3d2a9afd03274ce0c4abb901418d7bd50bb089d40c", func := "daguerre/daguerrelaw12.IntsLaws", spec := "intsLaws", apart := false, narrowed := true }
def IntsLawsUptoSaid : Prop := intsLawsUptoRow.holds Try.pinned (OpenSpec.upto intsLawsSpec)

/-- 'daguerrelaw12.IntsShift', WHERE WHAT IT READS IS OF BULK AT MOST 1048576: true; the input reads as it did. -/
def intsShiftUptoRow : OpenClaim := { program := "ytgajddfpkchdgaa", sum := "10006c86b3e20e8be9825e3d2a9afd03274ce0c4abb901418d7bd50bb089d40c", func := "daguerre/daguerrelaw12.IntsShift", spec := "intsShift", apart := false, narrowed := true }
def IntsShiftUptoSaid : Prop := intsShiftUptoRow.holds Try.pinned (OpenSpec.upto intsShiftSpec)

/-- 'daguerrelaw12.IntsOrder', WHERE WHAT IT READS IS OF BULK AT MOST 1048576: true; the input reads as it did. -/
def intsOrderUptoRow : OpenClaim := { program := "ytgajddfpkchdgaa", sum := "10006c86b3e20e8be9825e3d2a9afd03274ce0c4abb901418d7bd50bb089d40c", func := "daguerre/daguerrelaw12.IntsOrder", spec := "intsOrder", apart := false, narrowed := true }
def IntsOrderUptoSaid : Prop := intsOrderUptoRow.holds Try.pinned (OpenSpec.upto intsOrderSpec)

end Rows
end Go.Proofs.Ytgajddfpkchdgaa
