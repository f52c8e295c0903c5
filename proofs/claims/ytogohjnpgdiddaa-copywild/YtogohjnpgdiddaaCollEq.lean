/- The laws' own 'eq' of two that are the same. -/
import Derived.Test.YtogohjnpgdiddaaCollCut
import Derived.Test.YtogohjnpgdiddaaHeapRow
namespace Go.Proofs.Ytogohjnpgdiddaa
namespace Coll
open Mem Heap
open Go.RowKit
set_option linter.unusedVariables false
set_option linter.unusedSimpArgs false
set_option maxRecDepth 100000

set_option maxHeartbeats 2000000 in
theorem eq_same (a b : Option Addr) (n ca cb : Nat) (xs : List Int) (w : World) (ha : Reads .i32 w a n ca xs) (hb : Reads .i32 w b n cb xs) : Calls Try.prog 15 #[.slice a n ca, .slice b n cb] w fun e w' => e = .returned (.bool true) ∧ Below w.heap.size w w' := by
  have hm := ha.max
  have hc := ha.cap
  unfold maxLen at hm
  have HA : Hid _ := ha
  have HB : Hid _ := hb
  clear ha hb
  go_enter Try.func15, Try.ntmps15
  go_wp2_with fail
  go_loopw [5] (fun i wr => ∃ (j : Nat), i = .int .i64 j ∧ j ≤ n ∧ Below w.heap.size w wr) (fun i _ => n - (intOf i).toNat)
  case atStart => exact ⟨0, rfl, by omega, Below.refl _ _⟩
  case round =>
    obtain ⟨j, rfl, hj, bw⟩ := hrel
    by_cases hlj : j < n
    · have d1 : decide ((j : Int) < (n : Int)) = true := by simp; omega
      have d2 : decide (j < n) = true := by simp; omega
      obtain ⟨b1, o1, e1, h1⟩ := (HA.out.later bw).cells (by omega)
      obtain ⟨b2, o2, e2, h2⟩ := (HB.out.later bw).cells (by omega)
      subst e1 e2
      have z1 := h1 j hlj
      have z2 := h2 j hlj
      generalize xs.getD j 0 = x at *
      clear h1 h2
      go_wp2_with fail
      go_quiet (fail)
      go_wp2_with fail
      exact ⟨⟨j + 1, by go_num, by omega, bw.trans ((below_draws _ _ _).mono bw.size)⟩, by simp [intOf]; omega⟩
    · have ej : j = n := by omega
      subst ej
      have d1 : decide ((j : Int) < (j : Int)) = false := by simp
      have d2 : decide (j < j) = false := by simp
      go_wp2_with fail
      go_ret
      exact ⟨rfl, bw⟩
end Coll
end Go.Proofs.Ytogohjnpgdiddaa
