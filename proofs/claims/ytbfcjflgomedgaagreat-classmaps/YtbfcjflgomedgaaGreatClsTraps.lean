/- The contracts of class's tests of traps and of instructions. -/
import Derived.Test.YtbfcjflgomedgaaGreatClsCode
namespace Go.Proofs.YtbfcjflgomedgaaGreat
namespace Cls
open Num Kind Op4
open Go.RowKit
set_option linter.unusedVariables false
set_option maxRecDepth 100000

set_option maxHeartbeats 2000000 in
theorem traps_any (v : Value) (l : List TrapL) (n : Int) (w : World) (h : Sl trapE 4 w v l) (hn : 0 ≤ n) (hn2 : n ≤ 1000) :
    Calls Tryz.prog 64 #[v, .int .i64 n] w fun e w' => e = .returned (.bool (trapsP n l)) ∧ Below w.heap.size w w' := by
  have HT : Hid _ := h
  obtain ⟨a, cp, rfl, hl, hm, hnil, hx⟩ := h
  unfold maxLen at hm
  unfold trapsP
  clear hx hnil
  by_cases h6 : l.length ≤ 6
  · have h6' : (decide (l.length ≤ 6)) = true := by simpa using h6
    rw [h6', Bool.true_and]
    go_enter Tryz.func64, Tryz.ntmps64
    go_wp2_with fail
    go_loopw [6, 12] (fun _ i wr => ∃ k : Nat, k ≤ l.length ∧ i = .int .i64 k ∧ (l.drop k).all (trapP n) = l.all (trapP n) ∧ Below w.heap.size w wr) (fun _ i _ => l.length - (intOf i).toNat)
    case atStart => exact ⟨0, by omega, rfl, rfl, Below.refl _ _⟩
    case round =>
      obtain ⟨k, hk, rfl, hall, hbel⟩ := hrel
      have HA : Hid _ := hall
      clear hall
      by_cases hlk : k < l.length
      · obtain ⟨aa, cc, ev, _, _, _, hx9⟩ := Sl.later trapE_stable HT.out hbel
        simp only [Value.slice.injEq, true_and] at ev
        obtain ⟨rfl, rfl⟩ := ev
        obtain ⟨b9, off9, rfl, _, hx9⟩ := hx9 (by omega)
        obtain ⟨x0, x1, x2, x3, sz⟩ := hx9 k hlk
        have HS := all_step (trapP n) l k hlk
        rw [HA.out] at HS
        have HS2 : Hid _ := HS
        clear HS HA hx9
        generalize l[k] = X at *
        obtain ⟨f, t, u, c⟩ := X
        simp only at x0 x1 x2 x3 sz HS2
        have e1 := (Below.refl wr.heap.size wr).alloc (Nat.le_refl _) (.cells #[.int .i64 f, .int .i64 t, .int .i64 u, .string c] 73)
        have HC := fun W => trap_any f t u c n W sz hn hn2
        generalize trapP n ⟨f, t, u, c⟩ = q at *
        cases q
        · have HF : Hid (l.all (trapP n) = false) := by show _ = _; rw [HS2.out]; rfl
          clear HS2
          go_wp2_with fail
          refine (HC _).mono ?_
          rintro e w2 ⟨rfl, b2⟩
          have k2 := hbel.trans ((e1.trans (b2.mono e1.size)).mono hbel.size)
          go_wp2_with fail
          go_ret
          exact ⟨ret_b HF.out.symm, k2⟩
        · have HF : Hid ((l.drop (k + 1)).all (trapP n) = l.all (trapP n)) := by show _ = _; rw [HS2.out]; simp
          clear HS2
          go_wp2_with fail
          refine (HC _).mono ?_
          rintro e w2 ⟨rfl, b2⟩
          have k2 := hbel.trans ((e1.trans (b2.mono e1.size)).mono hbel.size)
          go_wp2_with fail
          go_roundw
          case rel => exact ⟨k + 1, by omega, by go_num, HF.out, k2⟩
          case measure => simp [intOf]; omega
      · have HF : Hid (l.all (trapP n) = true) := by show _ = _; rw [← HA.out, all_end _ _ _ (by omega)]
        clear HA
        go_wp2_with fail
        go_ret
        exact ⟨ret_b HF.out.symm, hbel⟩
  · have h6' : (decide (l.length ≤ 6)) = false := by simpa using h6
    rw [h6', Bool.false_and]
    go_enter Tryz.func64, Tryz.ntmps64
    go_wp2_with fail
    go_ret
    exact ⟨rfl, Below.refl _ _⟩
end Cls
end Go.Proofs.YtbfcjflgomedgaaGreat
