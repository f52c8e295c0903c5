/- The contracts of the documents' own answers (Put, PutText) and of the laws' Short and Cut. -/
import Derived.Test.YtbfcjflgomedgaaGreatLibText
namespace Go.Proofs.YtbfcjflgomedgaaGreat
namespace Num
open Go.RowKit
set_option linter.unusedVariables false
set_option maxRecDepth 100000

theorem ref_u (n : Int) (hn : Is64 n) (h : n < 0) : IntKind.u64.wrap (IntKind.u64.wrap n * 2) = 2 * n + 18446744073709551616 := by
  have e : ∀ m : Int, IntKind.u64.wrap m = m % 18446744073709551616 := fun m => by simp [IntKind.wrap, IntKind.bits, IntKind.signed]
  obtain ⟨h1, h2⟩ := hn
  rw [e, e]
  omega

theorem ref_not (n : Int) (hn : Is64 n) (h : n < 0) : bits .xor .u64 IntKind.u64.max (2 * n + 18446744073709551616) = zig n := by
  obtain ⟨h1, h2⟩ := hn
  have := not_u64 (2 * n + 18446744073709551616) (by omega) (by omega)
  have e : IntKind.u64.max = 18446744073709551615 := rfl
  rw [e, this]
  unfold zig
  rw [if_pos h]
  omega

end Num
end Go.Proofs.YtbfcjflgomedgaaGreat
