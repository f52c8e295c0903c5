/- The contracts of num's small functions: unsigned, signed. -/
import Derived.Test.YtjblmgdjaaeedaaGreatRows
import Derived.Test.YtjblmgdjaaeedaaGreatNumMath
import Derived.WalkKit
import Derived.WalkSpells
import Derived.WalkLawsBesides
namespace Go.Proofs.YtjblmgdjaaeedaaGreat
namespace Num
open Go.RowKit

theorem ret_int {k : IntKind} {a b : Int} (h : b = a) : Ending.returned (.int k a) = .returned (.int k b) := by rw [h]

theorem unsigned_any (n : Int) (w : World) (h : Is64 n) :
    Calls Tryz.prog 122 #[.int .i64 n] w fun e w' => e = .returned (.int .u64 (zig n)) ∧ w = w' := by
  obtain ⟨h1, h2⟩ := h
  by_cases hn : n < 0
  · have hz : zig n = (-n - 1) * 2 + 1 := by unfold zig; rw [if_pos hn]; omega
    have hx := not_i64 n h1 h2
    have ho := or1_u64 (-n - 1) (by omega) (by omega)
    go_enter Tryz.func122, Tryz.ntmps122
    go_wp2
    go_ret
    exact ⟨ret_int (by rw [wraps_u64 (-n - 1) (by omega) (by omega), wraps_u64 _ (by omega) (by omega), ho]), rfl⟩
  · have hz : zig n = n * 2 := by unfold zig; rw [if_neg hn]; omega
    go_enter Tryz.func122, Tryz.ntmps122
    go_wp2
    go_ret
    exact ⟨ret_int rfl, rfl⟩

theorem signed_any (u : Int) (w : World) (h1 : 0 ≤ u) (h2 : u < 18446744073709551616) :
    Calls Tryz.prog 146 #[.int .u64 u] w fun e w' => e = .returned (.int .i64 (zag u)) ∧ w = w' := by
  have ha := and1_u64 u h1 (by omega)
  have hx := not_i64 (u / 2) (by omega) (by omega)
  by_cases hn : u % 2 = 1
  · have hz : zag u = -(u / 2) - 1 := by unfold zag; rw [if_pos hn]
    go_enter Tryz.func146, Tryz.ntmps146
    go_wp2
    go_ret
    exact ⟨ret_int rfl, rfl⟩
  · have hz : zag u = u / 2 := by unfold zag; rw [if_neg hn]
    go_enter Tryz.func146, Tryz.ntmps146
    go_wp2
    go_ret
    exact ⟨ret_int hz, rfl⟩
end Num
end Go.Proofs.YtjblmgdjaaeedaaGreat
