/- The contracts of class's tests of a method. -/
import Derived.Test.YtbfcjflgomedgaaGreatClsMapsP
import Derived.Test.YtbfcjflgomedgaaGreatClsTraps
import Derived.Test.YtbfcjflgomedgaaGreatClsIns
import Derived.Deep.RegionWith
namespace Go.Proofs.YtbfcjflgomedgaaGreat
namespace Cls
open Num Kind Op4
open Go.RowKit
set_option linter.unusedVariables false
set_option maxRecDepth 100000

set_option maxHeartbeats 1000000 in
theorem room_any (nm rt : ByteArray) (st ab : Bool) (lo sk : Int) (v1 v7 v8 v9 : Value) (ps : List ByteArray) (w : World) (h1 : Sl strE 1 w v1 ps) (hps : ps.length ≤ 6) :
    Calls Tryz.prog 62 #[.agg #[.string nm, v1, .string rt, .bool st, .bool ab, .int .i64 lo, .int .i64 sk, v7, v8, v9]] w fun e w' => e = .returned (.bool (roomP ps.length st lo sk)) ∧ Below w.heap.size w w' := by
  have b0 := (Below.refl w.heap.size w).alloc (Nat.le_refl _) (.cells #[.string nm, v1, .string rt, .bool st, .bool ab, .int .i64 lo, .int .i64 sk, v7, v8, v9] 35)
  obtain ⟨a, cp, rfl, hl, hm, hnil, hx⟩ := h1
  unfold maxLen at hm
  clear hx hnil
  have hadd : IntKind.i64.wrap ((ps.length : Int) + 1) = (ps.length : Int) + 1 := IntWalk.i64_in _ (by omega)
  unfold roomP
  have HW2 := fun W => within_any sk 0 16 W
  generalize withinB sk 0 16 = q2 at *
  cases st
  · have HW := fun W => within_any lo ((ps.length : Int) + 1) 16 W
    rw [if_neg (by decide)]
    generalize withinB lo ((ps.length : Int) + 1) 16 = q1 at *
    cases q1
    all_goals
      go_enter Tryz.func62, Tryz.ntmps62
      go_wp2_with (first | (go_at_call_of 87 lo; refine (HW _).mono ?_; rintro e w' ⟨rfl, rfl⟩) | (go_at_call_of 87 sk; refine (HW2 _).mono ?_; rintro e w' ⟨rfl, rfl⟩))
      go_ret
      exact ⟨rfl, b0⟩
  · have HW := fun W => within_any lo (ps.length : Int) 16 W
    rw [if_pos rfl]
    generalize withinB lo (ps.length : Int) 16 = q1 at *
    cases q1
    all_goals
      go_enter Tryz.func62, Tryz.ntmps62
      go_wp2_with (first | (go_at_call_of 87 lo; refine (HW _).mono ?_; rintro e w' ⟨rfl, rfl⟩) | (go_at_call_of 87 sk; refine (HW2 _).mono ?_; rintro e w' ⟨rfl, rfl⟩))
      go_ret
      exact ⟨rfl, b0⟩
theorem begins_any (nm rt : ByteArray) (st ab : Bool) (lo sk : Int) (v1 v7 v8 v9 : Value) (ps : List ByteArray) (w : World) (h1 : Sl strE 1 w v1 ps) :
    Calls Tryz.prog 61 #[.agg #[.string nm, v1, .string rt, .bool st, .bool ab, .int .i64 lo, .int .i64 sk, v7, v8, v9]] w fun e w' => e = .returned (.bool (beginsP ps.length st rt)) ∧ Below w.heap.size w w' := by
  have b0 := (Below.refl w.heap.size w).alloc (Nat.le_refl _) (.cells #[.string nm, v1, .string rt, .bool st, .bool ab, .int .i64 lo, .int .i64 sk, v7, v8, v9] 35)
  obtain ⟨a, cp, rfl, hl, hm, hnil, hx⟩ := h1
  unfold maxLen at hm
  clear hx hnil
  have h86 := beq_nums rt [86] [86] rfl
  unfold beginsP
  generalize (nums rt == [86]) = q at *
  cases st
  · go_enter Tryz.func61, Tryz.ntmps61
    go_wp2_with fail
    go_ret
    exact ⟨rfl, b0⟩
  · by_cases h0 : ps.length = 0
    · have h0' : ((ps.length : Int) == 0) = true := by simp [h0]
      have h0'' : decide (ps.length = 0) = true := by simp [h0]
      rw [h0'']
      clear h0 h0''
      go_enter Tryz.func61, Tryz.ntmps61
      go_wp2_with fail
      go_ret
      exact ⟨rfl, b0⟩
    · have h0' : ((ps.length : Int) == 0) = false := by simp [h0]
      have h0'' : decide (ps.length = 0) = false := by simp [h0]
      rw [h0'']
      clear h0 h0''
      go_enter Tryz.func61, Tryz.ntmps61
      go_wp2_with fail
      go_ret
      exact ⟨rfl, b0⟩
set_option maxHeartbeats 1000000 in
theorem bodiless_any (nm rt : ByteArray) (st ab : Bool) (lo sk : Int) (v1 v7 v8 v9 : Value) (code : List InsL) (maps : List MapL) (traps : List TrapL) (w : World) (h7 : Sl insE 4 w v7 code) (h8 : Sl mapE 3 w v8 maps) (h9 : Sl trapE 4 w v9 traps) :
    Calls Tryz.prog 60 #[.agg #[.string nm, v1, .string rt, .bool st, .bool ab, .int .i64 lo, .int .i64 sk, v7, v8, v9]] w fun e w' => e = .returned (.bool (bodilessP lo sk code.length maps.length traps.length)) ∧ Below w.heap.size w w' := by
  have b0 := (Below.refl w.heap.size w).alloc (Nat.le_refl _) (.cells #[.string nm, v1, .string rt, .bool st, .bool ab, .int .i64 lo, .int .i64 sk, v7, v8, v9] 35)
  obtain ⟨a7, c7, rfl, hl7, hm7, _, hx7⟩ := h7
  obtain ⟨a8, c8, rfl, hl8, hm8, _, hx8⟩ := h8
  obtain ⟨a9, c9, rfl, hl9, hm9, _, hx9⟩ := h9
  unfold maxLen at hm7 hm8 hm9
  clear hx7 hx8 hx9
  unfold bodilessP
  have e1 : (lo == 0) = decide (lo = 0) := by rw [Bool.eq_iff_iff]; simp
  have e2 : (sk == 0) = decide (sk = 0) := by rw [Bool.eq_iff_iff]; simp
  have e3 : ((code.length : Int) == 0) = decide (code.length = 0) := by rw [Bool.eq_iff_iff]; simp
  have e4 : ((maps.length : Int) == 0) = decide (maps.length = 0) := by rw [Bool.eq_iff_iff]; simp
  have e5 : ((traps.length : Int) == 0) = decide (traps.length = 0) := by rw [Bool.eq_iff_iff]; simp
  generalize decide (lo = 0) = q1 at *
  generalize decide (sk = 0) = q2 at *
  generalize decide (code.length = 0) = q3 at *
  generalize decide (maps.length = 0) = q4 at *
  generalize decide (traps.length = 0) = q5 at *
  generalize code.length = n7 at *
  generalize maps.length = n8 at *
  generalize traps.length = n9 at *
  cases q1
  · go_enter Tryz.func60, Tryz.ntmps60
    go_wp2_with fail
    go_ret
    exact ⟨rfl, b0⟩
  cases q2
  · go_enter Tryz.func60, Tryz.ntmps60
    go_wp2_with fail
    go_ret
    exact ⟨rfl, b0⟩
  cases q3
  · go_enter Tryz.func60, Tryz.ntmps60
    go_wp2_with fail
    go_ret
    exact ⟨rfl, b0⟩
  cases q4
  · go_enter Tryz.func60, Tryz.ntmps60
    go_wp2_with fail
    go_ret
    exact ⟨rfl, b0⟩
  go_enter Tryz.func60, Tryz.ntmps60
  go_wp2_with fail
  go_ret
  exact ⟨rfl, b0⟩
end Cls
end Go.Proofs.YtbfcjflgomedgaaGreat
