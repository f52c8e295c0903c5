/- The contracts of class's tests of Maps. -/
import Derived.Test.YtbfcjflgomedgaaGreatClsCode
namespace Go.Proofs.YtbfcjflgomedgaaGreat
namespace Cls
open Num Kind Op4
open Go.RowKit
set_option linter.unusedVariables false
set_option maxRecDepth 100000

set_option maxHeartbeats 4000000 in
theorem stand_any (at0 : Int) (u1 u2 : Value) (los sts : List ByteArray) (nm rt : ByteArray) (st ab : Bool) (lo sk : Int) (v1 v7 v8 v9 : Value) (w : World) (hL : Sl strE 1 w u1 los) (hS : Sl strE 1 w u2 sts) :
    Calls Tryz.prog 89 #[.agg #[.int .i64 at0, u1, u2], .agg #[.string nm, v1, .string rt, .bool st, .bool ab, .int .i64 lo, .int .i64 sk, v7, v8, v9]] w fun e w' => e = .returned (.bool (standB lo sk ⟨at0, los, sts⟩)) ∧ Below w.heap.size w w' := by
  have b00 := (Below.refl w.heap.size w).alloc (Nat.le_refl _) (.cells #[.int .i64 at0, u1, u2] 39)
  have b0 := b00.alloc b00.size (.cells #[.string nm, v1, .string rt, .bool st, .bool ab, .int .i64 lo, .int .i64 sk, v7, v8, v9] 35)
  have HL : Hid _ := hL.later strE_stable b0
  have HS : Hid _ := hS.later strE_stable b0
  obtain ⟨aL, cL, rfl, hlL, hmL, _, hxL⟩ := hL
  obtain ⟨aS, cS, rfl, hlS, hmS, _, hxS⟩ := hS
  unfold maxLen at hmL hmS
  clear hxL hxS
  unfold standB
  simp only
  by_cases h1 : (los.length : Int) = lo
  · by_cases h2 : (sts.length : Int) ≤ sk
    · have e1 : (decide ((los.length : Int) = lo) && decide ((sts.length : Int) ≤ sk)) = true := by simp [h1, h2]
      have h1' : (((los.length : Int)) != lo) = false := by simp [h1]
      rw [e1, Bool.true_and]
      clear e1 h1
      go_enter Tryz.func89, Tryz.ntmps89
      go_wp2_with fail
      go_loop [6, 26] (fun _ i => ∃ k : Nat, k ≤ los.length ∧ i = .int .i64 k ∧ (los.drop k).all locB = los.all locB) (fun _ i => los.length - (intOf i).toNat)
      case atStart => exact ⟨0, by omega, rfl, rfl⟩
      case round =>
        obtain ⟨k, hk, rfl, hall⟩ := hrel
        have HA : Hid _ := hall
        clear hall
        by_cases hlk : k < los.length
        · obtain ⟨aa, cc, ev, _, _, _, hx9⟩ := HL.out
          simp only [Value.slice.injEq, true_and] at ev
          obtain ⟨rfl, rfl⟩ := ev
          obtain ⟨b9, off9, rfl, _, hx9⟩ := hx9 (by omega)
          obtain ⟨c0, c1⟩ := hx9 k hlk
          have HP := all_step locB los k hlk
          rw [HA.out] at HP
          have HP2 : Hid _ := HP
          have HV := fun W => value_any los[k] W c1
          have h84 := beq_nums los[k] [84] [84] rfl
          have HLB : Hid (locB los[k] = ((nums los[k] == [84]) || valueB los[k])) := rfl
          clear HP hx9 HA
          simp only [Nat.mul_one] at c0
          generalize los[k] = X at *
          generalize (nums X == [84]) = p at *
          generalize valueB X = q at *
          cases p
          · cases q
            · have HF : Hid (los.all locB = false) := by show _ = _; rw [HP2.out, HLB.out]; rfl
              clear HP2 HLB
              go_wp2_with (go_at_call 105; refine (HV _).mono ?_; rintro e w' ⟨rfl, rfl⟩)
              go_ret
              exact ⟨ret_b (by rw [HF.out]; rfl), b0⟩
            · have HF : Hid ((los.drop (k + 1)).all locB = los.all locB) := by show _ = _; rw [HP2.out, HLB.out]; simp
              clear HP2 HLB
              go_wp2_with (go_at_call 105; refine (HV _).mono ?_; rintro e w' ⟨rfl, rfl⟩)
              go_round
              case rel => exact ⟨k + 1, by omega, by go_num, HF.out⟩
              case measure => simp [intOf]; omega
          · have HF : Hid ((los.drop (k + 1)).all locB = los.all locB) := by show _ = _; rw [HP2.out, HLB.out]; simp
            clear HP2 HLB
            go_wp2_with fail
            go_round
            case rel => exact ⟨k + 1, by omega, by go_num, HF.out⟩
            case measure => simp [intOf]; omega
        · have HF : Hid (los.all locB = true) := by show _ = _; rw [← HA.out, all_end _ _ _ (by omega)]
          clear HA
          go_wp2_with fail
          go_loop [8, 41] (fun _ i => ∃ k : Nat, k ≤ sts.length ∧ i = .int .i64 k ∧ (sts.drop k).all valueB = sts.all valueB) (fun _ i => sts.length - (intOf i).toNat)
          case atStart => exact ⟨0, by omega, rfl, rfl⟩
          case round =>
            obtain ⟨k2, hk2, rfl, hall⟩ := hrel
            have HA : Hid _ := hall
            clear hall
            by_cases hlk2 : k2 < sts.length
            · obtain ⟨aa, cc, ev, _, _, _, hx9⟩ := HS.out
              simp only [Value.slice.injEq, true_and] at ev
              obtain ⟨rfl, rfl⟩ := ev
              obtain ⟨b9, off9, rfl, _, hx9⟩ := hx9 (by omega)
              obtain ⟨c0, c1⟩ := hx9 k2 hlk2
              have HP := all_step valueB sts k2 hlk2
              rw [HA.out] at HP
              have HP2 : Hid _ := HP
              have HV := fun W => value_any sts[k2] W c1
              clear HP hx9 HA
              simp only [Nat.mul_one] at c0
              generalize sts[k2] = X at *
              generalize valueB X = q at *
              cases q
              · have HF2 : Hid (sts.all valueB = false) := by show _ = _; rw [HP2.out]; rfl
                clear HP2
                go_wp2_with (go_at_call 105; refine (HV _).mono ?_; rintro e w' ⟨rfl, rfl⟩)
                go_ret
                exact ⟨ret_b (by rw [HF.out, HF2.out]; rfl), b0⟩
              · have HF2 : Hid ((sts.drop (k2 + 1)).all valueB = sts.all valueB) := by show _ = _; rw [HP2.out]; simp
                clear HP2
                go_wp2_with (go_at_call 105; refine (HV _).mono ?_; rintro e w' ⟨rfl, rfl⟩)
                go_round
                case rel => exact ⟨k2 + 1, by omega, by go_num, HF2.out⟩
                case measure => simp [intOf]; omega
            · have HF2 : Hid (sts.all valueB = true) := by show _ = _; rw [← HA.out, all_end _ _ _ (by omega)]
              clear HA
              go_wp2_with fail
              go_ret
              exact ⟨ret_b (by rw [HF.out, HF2.out]; rfl), b0⟩
    · have e1 : (decide ((los.length : Int) = lo) && decide ((sts.length : Int) ≤ sk)) = false := by simp [h2]
      have h1' : (((los.length : Int)) != lo) = false := by simp [h1]
      rw [e1, Bool.false_and]
      clear e1 h1
      go_enter Tryz.func89, Tryz.ntmps89
      go_wp2_with fail
      go_ret
      exact ⟨rfl, b0⟩
  · have e1 : (decide ((los.length : Int) = lo) && decide ((sts.length : Int) ≤ sk)) = false := by simp [h1]
    have h1' : (((los.length : Int)) != lo) = true := by simp [h1]
    rw [e1, Bool.false_and]
    clear e1 h1
    go_enter Tryz.func89, Tryz.ntmps89
    go_wp2_with fail
    go_ret
    exact ⟨rfl, b0⟩
end Cls
end Go.Proofs.YtbfcjflgomedgaaGreat
