/-
  No cell of these rows narrows 'for every input' (looked for: loops, veiled, ifaces, maps, wideKeys, modest, calm, conditions, laid).
  DERIVED. THE GIVEN ROWS OF THIS SEAT. 6 by the template 'for every input the law returns true; each argument reads behind the call as it read before'; 0 by the template 'total and deterministic' (their statements: YtogohjnpgdiddaaTotals.lean).
  GIVEN WITH THE SEED: the statements are not yours to turn. If you find one false, say at which input.
  Laid BY PROGRAM, IN A SANDBOX (cutbox-rows.mjs): the forced cells as the released guide's own fill.sh prints them over the translation edf5e79ad9060979… (all of the seat's roots in one cut). By AI agents, Wed Nov 11 2026. No macro, syntax, notation, axiom, sorry.
-/
import Derived.Test.YtogohjnpgdiddaaChecked
import GoSem.Claim
import GoSem.ClaimJoined
import GoSem.ClaimMapViews
import Derived.JoinedTies
import Derived.KernelRfl
namespace Go.Proofs.Ytogohjnpgdiddaa
/- THE CELL 'sum', in the pinned program and in every row, IS THE sha256 OF THE DUMP (.gsa) THAT YtogohjnpgdiddaaProg.lean LOADS. Nothing in Lean hashes anything: it is a label: what it is worth is what the hold of that sum in a sandbox is worth. -/
noncomputable def Try.pinned : Pinned := { name := "ytogohjnpgdiddaa", sum := "edf5e79ad90609799c364200a6ab949d9f1a78717dcfa4bef084116e0dbdb222", checked := Try.checked }
namespace Rows
def none {H : Type} : Left H := { results := [], args := [] }

/-- 'daguerrelaw14.CopyAll': WHATEVER THE INPUT: true; the input reads as it did. -/
def copyAllSpec : ChangeSpec := { name := "copyAll", fn := fun _ => fun
  | [d1, d2] => { results := [.lit (.bool true)], args := [d1, d2] }
  | _ => none }
def copyAllRow : OpenClaim := { program := "ytogohjnpgdiddaa", sum := "edf5e79ad90609799c364200a6ab949d9f1a78717dcfa4bef084116e0dbdb222", func := "daguerre/daguerrelaw14.CopyAll", spec := "copyAll", unfollowed := true, recurses := true, apart := false }
def CopyAllSaid : Prop := copyAllRow.holds Try.pinned (OpenSpec.ofChange copyAllSpec)

/-- ITS FALSE NEIGHBOUR: 'it returns false'. Refute it at one input. -/
def copyAllWrong : ChangeSpec := { name := "copyAll", fn := fun _ => fun
  | [d1, d2] => { results := [.lit (.bool false)], args := [d1, d2] }
  | _ => none }
def CopyAllWrongFalsely : Prop := copyAllRow.holds Try.pinned (OpenSpec.ofChange copyAllWrong)

/-- 'daguerrelaw14.CopyTwice': WHATEVER THE INPUT: true; the input reads as it did. -/
def copyTwiceSpec : ChangeSpec := { name := "copyTwice", fn := fun _ => fun
  | [d1, d2] => { results := [.lit (.bool true)], args := [d1, d2] }
  | _ => none }
def copyTwiceRow : OpenClaim := { program := "ytogohjnpgdiddaa", sum := "edf5e79ad90609799c364200a6ab949d9f1a78717dcfa4bef084116e0dbdb222", func := "daguerre/daguerrelaw14.CopyTwice", spec := "copyTwice", unfollowed := true, recurses := true, apart := false }
def CopyTwiceSaid : Prop := copyTwiceRow.holds Try.pinned (OpenSpec.ofChange copyTwiceSpec)

/-- ITS FALSE NEIGHBOUR: 'it returns false'. Refute it at one input. -/
def copyTwiceWrong : ChangeSpec := { name := "copyTwice", fn := fun _ => fun
  | [d1, d2] => { results := [.lit (.bool false)], args := [d1, d2] }
  | _ => none }
def CopyTwiceWrongFalsely : Prop := copyTwiceRow.holds Try.pinned (OpenSpec.ofChange copyTwiceWrong)

/-- 'daguerrelaw14.CopyWild': WHATEVER THE INPUT: true; the input reads as it did. -/
def copyWildSpec : ChangeSpec := { name := "copyWild", fn := fun _ => fun
  | [d1, d2, d3] => { results := [.lit (.bool true)], args := [d1, d2, d3] }
  | _ => none }
def copyWildRow : OpenClaim := { program := "ytogohjnpgdiddaa", sum := "edf5e79ad90609799c364200a6ab949d9f1a78717dcfa4bef084116e0dbdb222", func := "daguerre/daguerrelaw14.CopyWild", spec := "copyWild", unfollowed := true, recurses := true, apart := false }
def CopyWildSaid : Prop := copyWildRow.holds Try.pinned (OpenSpec.ofChange copyWildSpec)

/-- ITS FALSE NEIGHBOUR: 'it returns false'. Refute it at one input. -/
def copyWildWrong : ChangeSpec := { name := "copyWild", fn := fun _ => fun
  | [d1, d2, d3] => { results := [.lit (.bool false)], args := [d1, d2, d3] }
  | _ => none }
def CopyWildWrongFalsely : Prop := copyWildRow.holds Try.pinned (OpenSpec.ofChange copyWildWrong)

/-- 'daguerrelaw14.CopyNone': WHATEVER THE INPUT: true; the input reads as it did. -/
def copyNoneSpec : ChangeSpec := { name := "copyNone", fn := fun _ => fun
  | [] => { results := [.lit (.bool true)], args := [] }
  | _ => none }
def copyNoneRow : OpenClaim := { program := "ytogohjnpgdiddaa", sum := "edf5e79ad90609799c364200a6ab949d9f1a78717dcfa4bef084116e0dbdb222", func := "daguerre/daguerrelaw14.CopyNone", spec := "copyNone", unfollowed := true, recurses := true, apart := false }
def CopyNoneSaid : Prop := copyNoneRow.holds Try.pinned (OpenSpec.ofChange copyNoneSpec)

/-- ITS FALSE NEIGHBOUR: 'it returns false'. Refute it at one input. -/
def copyNoneWrong : ChangeSpec := { name := "copyNone", fn := fun _ => fun
  | [] => { results := [.lit (.bool false)], args := [] }
  | _ => none }
def CopyNoneWrongFalsely : Prop := copyNoneRow.holds Try.pinned (OpenSpec.ofChange copyNoneWrong)

/-- 'daguerrelaw14.CopyRing': WHATEVER THE INPUT: true; the input reads as it did. -/
def copyRingSpec : ChangeSpec := { name := "copyRing", fn := fun _ => fun
  | [d1, d2] => { results := [.lit (.bool true)], args := [d1, d2] }
  | _ => none }
def copyRingRow : OpenClaim := { program := "ytogohjnpgdiddaa", sum := "edf5e79ad90609799c364200a6ab949d9f1a78717dcfa4bef084116e0dbdb222", func := "daguerre/daguerrelaw14.CopyRing", spec := "copyRing", unfollowed := true, recurses := true, apart := false }
def CopyRingSaid : Prop := copyRingRow.holds Try.pinned (OpenSpec.ofChange copyRingSpec)

/-- ITS FALSE NEIGHBOUR: 'it returns false'. Refute it at one input. -/
def copyRingWrong : ChangeSpec := { name := "copyRing", fn := fun _ => fun
  | [d1, d2] => { results := [.lit (.bool false)], args := [d1, d2] }
  | _ => none }
def CopyRingWrongFalsely : Prop := copyRingRow.holds Try.pinned (OpenSpec.ofChange copyRingWrong)

/-- 'daguerrelaw14.CopyShared': WHATEVER THE INPUT: true; the input reads as it did. -/
def copySharedSpec : ChangeSpec := { name := "copyShared", fn := fun _ => fun
  | [d] => { results := [.lit (.bool true)], args := [d] }
  | _ => none }
def copySharedRow : OpenClaim := { program := "ytogohjnpgdiddaa", sum := "edf5e79ad90609799c364200a6ab949d9f1a78717dcfa4bef084116e0dbdb222", func := "daguerre/daguerrelaw14.CopyShared", spec := "copyShared", unfollowed := true, recurses := true, apart := false }
def CopySharedSaid : Prop := copySharedRow.holds Try.pinned (OpenSpec.ofChange copySharedSpec)

/-- ITS FALSE NEIGHBOUR: 'it returns false'. Refute it at one input. -/
def copySharedWrong : ChangeSpec := { name := "copyShared", fn := fun _ => fun
  | [d] => { results := [.lit (.bool false)], args := [d] }
  | _ => none }
def CopySharedWrongFalsely : Prop := copySharedRow.holds Try.pinned (OpenSpec.ofChange copySharedWrong)

/- THE SECOND FORM. 'bulk': how many values and letters a reading holds, each counted each time it is reached (what is shared counts as often as it is met; a slice's spare places count too). A statement '..UptoSaid' is the law's where the arguments, and the package variables that the reading takes, are together of bulk at most 1048576: NARROWER than '..Said'. Prove '..Said' where nothing that the law and all that it calls make is longer than what came in: it says more and counts as full. Else prove '..UptoSaid'. A law counts once. -/
mutual
def uptoBulk {H : Type} : DataW H → Nat
  | .lit (.string bytes) => bytes.length + 1
  | .lit _ => 1
  | .nil => 1
  | .ptr d => uptoBulk d + 1
  | .slice elems spare => uptoBulkAll elems + uptoBulkAll spare + 1
  | .agg parts => uptoBulkAll parts + 1
  | .iface _ d => uptoBulk d + 1
  | .map entries => uptoBulkEntries entries + 1
  | .held _ => 1
def uptoBulkAll {H : Type} : List (DataW H) → Nat
  | [] => 0
  | d :: r => uptoBulk d + uptoBulkAll r
def uptoBulkEntries {H : Type} : List (Lit × DataW H) → Nat
  | [] => 0
  | x :: r => uptoBulkEntry x + uptoBulkEntries r
def uptoBulkEntry {H : Type} : Lit × DataW H → Nat
  | (.string bytes, d) => bytes.length + uptoBulk d + 1
  | (_, d) => uptoBulk d + 1
 end
def uptoSmall : (H : Type) → List (DataW H) → Bool := fun _ ds => decide (uptoBulkAll ds ≤ 1048576)
def OpenSpec.upto (s : _root_.Go.ChangeSpec) : _root_.Go.OpenSpec := { _root_.Go.OpenSpec.ofChange s with cond := some uptoSmall }

/-- 'daguerrelaw14.CopyAll', WHERE WHAT IT READS IS OF BULK AT MOST 1048576: true; the input reads as it did. -/
def copyAllUptoRow : OpenClaim := { program := "ytogohjnpgdiddaa", sum := "edf5e79ad90609799c364200a6ab949d9f1a78717dcfa4bef084116e0dbdb222", func := "daguerre/daguerrelaw14.CopyAll", spec := "copyAll", unfollowed := true, recurses := true, apart := false, narrowed := true }
def CopyAllUptoSaid : Prop := copyAllUptoRow.holds Try.pinned (OpenSpec.upto copyAllSpec)

/-- 'daguerrelaw14.CopyTwice', WHERE WHAT IT READS IS OF BULK AT MOST 1048576: true; the input reads as it did. -/
def copyTwiceUptoRow : OpenClaim := { program := "ytogohjnpgdiddaa", sum := "edf5e79ad90609799c364200a6ab949d9f1a78717dcfa4bef084116e0dbdb222", func := "daguerre/daguerrelaw14.CopyTwice", spec := "copyTwice", unfollowed := true, recurses := true, apart := false, narrowed := true }
def CopyTwiceUptoSaid : Prop := copyTwiceUptoRow.holds Try.pinned (OpenSpec.upto copyTwiceSpec)

/-- 'daguerrelaw14.CopyWild', WHERE WHAT IT READS IS OF BULK AT MOST 1048576: true; the input reads as it did. -/
def copyWildUptoRow : OpenClaim := { program := "ytogohjnpgdiddaa", sum := "edf5e79ad90609799c364200a6ab949d9f1a78717dcfa4bef084116e0dbdb222", func := "daguerre/daguerrelaw14.CopyWild", spec := "copyWild", unfollowed := true, recurses := true, apart := false, narrowed := true }
def CopyWildUptoSaid : Prop := copyWildUptoRow.holds Try.pinned (OpenSpec.upto copyWildSpec)

/-- 'daguerrelaw14.CopyNone', WHERE WHAT IT READS IS OF BULK AT MOST 1048576: true; the input reads as it did. -/
def copyNoneUptoRow : OpenClaim := { program := "ytogohjnpgdiddaa", sum := "edf5e79ad90609799c364200a6ab949d9f1a78717dcfa4bef084116e0dbdb222", func := "daguerre/daguerrelaw14.CopyNone", spec := "copyNone", unfollowed := true, recurses := true, apart := false, narrowed := true }
def CopyNoneUptoSaid : Prop := copyNoneUptoRow.holds Try.pinned (OpenSpec.upto copyNoneSpec)

/-- 'daguerrelaw14.CopyRing', WHERE WHAT IT READS IS OF BULK AT MOST 1048576: true; the input reads as it did. -/
def copyRingUptoRow : OpenClaim := { program := "ytogohjnpgdiddaa", sum := "edf5e79ad90609799c364200a6ab949d9f1a78717dcfa4bef084116e0dbdb222", func := "daguerre/daguerrelaw14.CopyRing", spec := "copyRing", unfollowed := true, recurses := true, apart := false, narrowed := true }
def CopyRingUptoSaid : Prop := copyRingUptoRow.holds Try.pinned (OpenSpec.upto copyRingSpec)

/-- 'daguerrelaw14.CopyShared', WHERE WHAT IT READS IS OF BULK AT MOST 1048576: true; the input reads as it did. -/
def copySharedUptoRow : OpenClaim := { program := "ytogohjnpgdiddaa", sum := "edf5e79ad90609799c364200a6ab949d9f1a78717dcfa4bef084116e0dbdb222", func := "daguerre/daguerrelaw14.CopyShared", spec := "copyShared", unfollowed := true, recurses := true, apart := false, narrowed := true }
def CopySharedUptoSaid : Prop := copySharedUptoRow.holds Try.pinned (OpenSpec.upto copySharedSpec)

end Rows
end Go.Proofs.Ytogohjnpgdiddaa
