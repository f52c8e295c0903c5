/- The contract of the document's own test of Maps, whatever they are. -/
import Derived.Test.YtbfcjflgomedgaaGreatClsMaps
namespace Go.Proofs.YtbfcjflgomedgaaGreat
namespace Cls
open Num Kind Op4
open Go.RowKit
set_option linter.unusedVariables false

set_option maxRecDepth 100000 in
set_option maxHeartbeats 2000000 in
theorem rmaps_any (v1 v7 v8 v9 : Value) (m : MethL) (w : World) (h : MethV w v1 v7 v8 v9 m) :
    Calls Tryz.prog 40 #[methVal v1 v7 v8 v9 m] w fun e w' => e = .returned (.bool (decide (m.maps.length ≤ 100) && mapsB m.code.length m.locals m.stack none m.maps)) ∧ Below w.heap.size w w' := by
  have hc := h.code
  obtain ⟨a, cp, rfl, hl, hm, hnil, hx⟩ := h.maps
  by_cases h1 : m.maps.length ≤ 100
  · rcases Nat.eq_zero_or_pos m.maps.length with h0 | h0
    · obtain hmp : m.maps = [] := List.eq_nil_of_length_eq_zero h0
      rw [hmp]
      simp only [List.length_nil, Nat.zero_le, decide_true, mapsB, Bool.and_self]
      unfold methVal methCells
      clear hx hc h
      go_enter Tryz.func40, Tryz.ntmps40
      go_wp2_with fail
      refine wp_loop_rounds 1 ?_
      rw [rounds_succ]
      go_wp2_with fail
      go_ret
      exact ⟨rfl, (Below.refl _ _).alloc (Nat.le_refl _) _⟩
    · obtain ⟨b, off, rfl, hlt, hx⟩ := hx h0
      simp only [h1, decide_true, Bool.true_and]
      exact maps_some b off _ cp v1 v7 v9 m w rfl h0 h1 hl hm hx hc
  · simp only [h1, decide_false, Bool.false_and]
    unfold methVal methCells
    unfold maxLen at hm
    clear hx hc h
    go_enter Tryz.func40, Tryz.ntmps40
    go_wp2_with fail
    go_ret
    exact ⟨rfl, (Below.refl _ _).alloc (Nat.le_refl _) _⟩
end Cls
end Go.Proofs.YtbfcjflgomedgaaGreat
