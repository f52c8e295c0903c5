/- The contract of the laws' Short, at any bound. -/
import Derived.Test.YtjblmgdjaaeedaaGreatLibHas
namespace Go.Proofs.YtjblmgdjaaeedaaGreat
namespace Num
open Go.RowKit
set_option linter.unusedVariables false
set_option maxRecDepth 100000

theorem short_any (a : Option Addr) (n c : Nat) (xs : List Int) (w : World) (K : Int) (m : Nat) (hK : K = m) (hm63 : m ≤ 1000000) (h : Has w a n c xs) :
    Calls Tryz.prog 15 #[.slice a n c, .int .i64 K] w fun e w' => e = .returned (.slice a (min n m) c) ∧ w = w' := by
  subst hK
  have hc := h.cap
  have hm := h.max
  unfold maxLen at hm
  by_cases h20 : m < n
  · obtain ⟨b, off, rfl, _, _⟩ := h.cells (by omega)
    have e : min n m = m := by omega
    rw [e]
    clear e
    go_enter Tryz.func15, Tryz.ntmps15
    go_wp2_with fail
    go_ret
    exact ⟨rfl, rfl⟩
  · have e : min n m = n := by omega
    rw [e]
    clear e
    go_enter Tryz.func15, Tryz.ntmps15
    go_wp2_with fail
    go_ret
    exact ⟨rfl, rfl⟩

end Num
end Go.Proofs.YtjblmgdjaaeedaaGreat
