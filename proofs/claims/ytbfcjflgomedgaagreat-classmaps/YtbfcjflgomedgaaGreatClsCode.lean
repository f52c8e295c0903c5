/- The contracts of package class's small functions. -/
import Derived.Test.YtbfcjflgomedgaaGreatClsMay
import Derived.Test.YtbfcjflgomedgaaGreatOpCode
namespace Go.Proofs.YtbfcjflgomedgaaGreat
namespace Cls
open Num Kind Op4
open Go.RowKit
set_option linter.unusedVariables false
set_option maxRecDepth 100000

theorem all_step {α : Type} (p : α → Bool) (l : List α) (k : Nat) (h : k < l.length) : (l.drop k).all p = (p l[k] && (l.drop (k + 1)).all p) := by
  rw [List.drop_eq_getElem_cons h]
  rfl
theorem all_end {α : Type} (p : α → Bool) (l : List α) (k : Nat) (h : l.length ≤ k) : (l.drop k).all p = true := by
  rw [List.drop_eq_nil_of_le h]
  rfl
theorem within_any (n lo hi : Int) (w : World) : Calls Tryz.prog 87 #[.int .i64 n, .int .i64 lo, .int .i64 hi] w fun e w' => e = .returned (.bool (withinB n lo hi)) ∧ w = w' := by
  by_cases h1 : lo ≤ n
  · have e0 : withinB n lo hi = decide (n ≤ hi) := by unfold withinB; simp [h1]
    rw [e0]
    clear e0
    go_enter Tryz.func87, Tryz.ntmps87
    go_wp2_with fail
    go_ret
    exact ⟨rfl, rfl⟩
  · have e0 : withinB n lo hi = false := by unfold withinB; simp; omega
    rw [e0]
    clear e0
    go_enter Tryz.func87, Tryz.ntmps87
    go_wp2_with fail
    go_ret
    exact ⟨rfl, rfl⟩
theorem value_any (s : ByteArray) (w : World) (hs : s.size ≤ maxLen) : Calls Tryz.prog 105 #[.string s] w fun e w' => e = .returned (.bool (valueB s)) ∧ w = w' := by
  have h1 := beq_nums s [73] [73] rfl
  have h2 := beq_nums s [78] [78] rfl
  have H := fun W => kref_any s W hs
  unfold valueB
  generalize (nums s == [73]) = p at *
  generalize (nums s == [78]) = q at *
  generalize refB (nums s) = r at *
  cases p <;> cases q
  all_goals
    go_enter Tryz.func105, Tryz.ntmps105
    go_wp2_with (go_at_call 101; refine (H _).mono ?_; rintro e w' ⟨rfl, rfl⟩)
    go_ret
    exact ⟨ret_b (by simp), rfl⟩
set_option maxHeartbeats 1000000 in
theorem trap_any (f t u : Int) (c : ByteArray) (n : Int) (w : World) (hc : c.size ≤ maxLen) (hn : 0 ≤ n) (hn2 : n ≤ 1000) :
    Calls Tryz.prog 88 #[.agg #[.int .i64 f, .int .i64 t, .int .i64 u, .string c], .int .i64 n] w fun e w' => e = .returned (.bool (trapP n ⟨f, t, u, c⟩)) ∧ Below w.heap.size w w' := by
  have hce := empty_nums c
  have hsub : IntKind.i64.wrap (n - 1) = n - 1 := IntWalk.i64_in _ (by omega)
  have HW := fun W => within_any u 0 (n - 1) W
  have HC := fun W => kclass_any c W hc
  unfold trapP
  simp only
  generalize (nums c == []) = em at *
  generalize classB (nums c) = cb at *
  generalize withinB u 0 (n - 1) = q at *
  by_cases h0 : 0 ≤ f
  · by_cases h1 : f < t
    · by_cases h2 : t ≤ n
      · cases q
        · go_enter Tryz.func88, Tryz.ntmps88
          go_wp2_with (go_at_call 87; refine (HW _).mono ?_; rintro e w' ⟨rfl, rfl⟩)
          go_ret
          exact ⟨ret_b (by simp), (Below.refl _ _).alloc (Nat.le_refl _) _⟩
        · cases em
          · go_enter Tryz.func88, Tryz.ntmps88
            go_wp2_with (first | (go_at_call 87; refine (HW _).mono ?_; rintro e w' ⟨rfl, rfl⟩) | (go_at_call 12; refine (HC _).mono ?_; rintro e w' ⟨rfl, rfl⟩))
            go_ret
            exact ⟨ret_b (by simp [h0, h1, h2]), (Below.refl _ _).alloc (Nat.le_refl _) _⟩
          · go_enter Tryz.func88, Tryz.ntmps88
            go_wp2_with (go_at_call 87; refine (HW _).mono ?_; rintro e w' ⟨rfl, rfl⟩)
            go_ret
            exact ⟨ret_b (by simp [h0, h1, h2]), (Below.refl _ _).alloc (Nat.le_refl _) _⟩
      · go_enter Tryz.func88, Tryz.ntmps88
        go_wp2_with fail
        go_ret
        exact ⟨ret_b (by simp; intros; omega), (Below.refl _ _).alloc (Nat.le_refl _) _⟩
    · go_enter Tryz.func88, Tryz.ntmps88
      go_wp2_with fail
      go_ret
      exact ⟨ret_b (by simp; intros; omega), (Below.refl _ _).alloc (Nat.le_refl _) _⟩
  · go_enter Tryz.func88, Tryz.ntmps88
    go_wp2_with fail
    go_ret
    exact ⟨ret_b (by simp; intros; omega), (Below.refl _ _).alloc (Nat.le_refl _) _⟩
set_option maxHeartbeats 1000000 in
theorem params_any (v : Value) (l : List ByteArray) (w : World) (h : Sl strE 1 w v l) : Calls Tryz.prog 58 #[v] w fun e w' => e = .returned (.bool (paramsP l)) ∧ w = w' := by
  obtain ⟨a, cp, rfl, hl, hm, hnil, hx⟩ := h
  unfold maxLen at hm
  unfold paramsP
  by_cases h6 : l.length ≤ 6
  · have HX : Hid _ := hx
    clear hx hnil
    go_enter Tryz.func58, Tryz.ntmps58
    go_wp2_with fail
    go_loop [4, 10] (fun _ i => ∃ k : Nat, k ≤ l.length ∧ i = .int .i64 k ∧ (l.drop k).all (fun p => mayB (nums p)) = l.all fun p => mayB (nums p)) (fun _ i => l.length - (intOf i).toNat)
    case atStart => exact ⟨0, by omega, rfl, rfl⟩
    case round =>
      obtain ⟨k, hk, rfl, hall⟩ := hrel
      have HA : Hid _ := hall
      clear hall
      by_cases hlk : k < l.length
      · obtain ⟨b, off, rfl, _, hx⟩ := HX.out (by omega)
        obtain ⟨c0, c1⟩ := hx k hlk
        have HS := all_step (fun p => mayB (nums p)) l k hlk
        rw [HA.out] at HS
        have HS2 : Hid _ := HS
        have HM := fun W => kmay_any l[k] W c1
        clear HS hx HX HA
        simp only [Nat.mul_one] at c0
        generalize l[k] = X at *
        generalize mayB (nums X) = q at *
        cases q
        · have HF : Hid (l.all (fun p => mayB (nums p)) = false) := by show _ = _; rw [HS2.out]; rfl
          clear HS2
          go_wp2_with (go_at_call 57; refine (HM _).mono ?_; rintro e w' ⟨rfl, rfl⟩)
          go_ret
          exact ⟨ret_b (by rw [HF.out]; simp), rfl⟩
        · have HF : Hid ((l.drop (k + 1)).all (fun p => mayB (nums p)) = l.all fun p => mayB (nums p)) := by show _ = _; rw [HS2.out]; simp
          clear HS2
          go_wp2_with (go_at_call 57; refine (HM _).mono ?_; rintro e w' ⟨rfl, rfl⟩)
          go_round
          case rel => exact ⟨k + 1, by omega, by go_num, HF.out⟩
          case measure => simp [intOf]; omega
      · have HF : Hid (l.all (fun p => mayB (nums p)) = true) := by show _ = _; rw [← HA.out, all_end _ _ _ (by omega)]
        clear HA
        go_wp2_with fail
        go_ret
        exact ⟨ret_b (by rw [HF.out]), rfl⟩
  · clear hx hnil
    go_enter Tryz.func58, Tryz.ntmps58
    go_wp2_with fail
    go_ret
    exact ⟨ret_b (by simp [h6]), rfl⟩
end Cls
end Go.Proofs.YtbfcjflgomedgaaGreat
