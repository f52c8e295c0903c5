/- The contract of the laws' own Cut of an instruction. -/
import Derived.Test.YtegamajcipgkhaaOpIns
import Derived.Test.YtegamajcipgkhaaLibCut
import Derived.Deep.RegionWith
import Derived.Handy
namespace Go.Proofs.Ytegamajcipgkhaa
namespace Op4
open Num Kind
open Go.RowKit
set_option linter.unusedVariables false

set_option maxRecDepth 100000 in
set_option maxHeartbeats 1000000 in
theorem cut_ins (o a : Int) (c m : ByteArray) (w : World) (hc : c.size ≤ maxLen) (hm : m.size ≤ maxLen) :
    Calls Try.prog 7 #[insV o a c m] w fun e w' => e = .returned (insV o a (cutS c 14) (cutS m 12)) ∧ Below w.heap.size w w' := by
  unfold insV
  go_enter Try.func7, Try.ntmps7
  go_wp2_with fail
  go_region_with (first | (go_at_call_of 19 c; refine (cut_any c _ 14 14 rfl (by decide) hc).mono ?_; rintro e w' ⟨rfl, rfl⟩) | (go_at_call_of 19 m; refine (cut_any m _ 12 12 rfl (by decide) hm).mono ?_; rintro e w' ⟨rfl, rfl⟩))
  all_goals
    go_wp2_with fail
  all_goals
    go_returns
    refine ⟨rfl, ?_⟩
    go_grown
end Op4
end Go.Proofs.Ytegamajcipgkhaa
