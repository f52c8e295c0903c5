/- The contract of the laws' Cut, at any bound. -/
import Derived.Test.YtjblmgdjaaeedaaGreatLibHas
namespace Go.Proofs.YtjblmgdjaaeedaaGreat
namespace Num
open Go.RowKit
set_option linter.unusedVariables false
set_option maxRecDepth 100000

/-- A text that is no longer than m. -/
def cutS (s : ByteArray) (m : Nat) : ByteArray := if m < s.size then s.extract 0 m else s
theorem cutS_size (s : ByteArray) (m : Nat) : (cutS s m).size ≤ m := by
  unfold cutS
  split
  · simp; omega
  · omega
theorem cut_any (s : ByteArray) (w : World) (K : Int) (m : Nat) (hK : K = m) (hm63 : m ≤ 1000000) (hs : s.size ≤ maxLen) :
    Calls Tryz.prog 19 #[.string s, .int .i64 K] w fun e w' => e = .returned (.string (cutS s m)) ∧ w = w' := by
  subst hK
  unfold maxLen at hs
  by_cases h : m < s.size
  · have e0 : cutS s m = s.extract 0 m := by unfold cutS; rw [if_pos h]
    rw [e0]
    clear e0
    go_enter Tryz.func19, Tryz.ntmps19
    go_wp2_with fail
    go_ret
    exact ⟨rfl, rfl⟩
  · have e0 : cutS s m = s := by unfold cutS; rw [if_neg h]
    rw [e0]
    clear e0
    go_enter Tryz.func19, Tryz.ntmps19
    go_wp2_with fail
    go_ret
    exact ⟨rfl, rfl⟩
end Num
end Go.Proofs.YtjblmgdjaaeedaaGreat
