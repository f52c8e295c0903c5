/- The contracts of package ints and of the document's own answers: both answer 'two', 'goes'. -/
import Derived.Test.YtgajddfpkchdgaaRows
import Derived.Test.YtgajddfpkchdgaaIntsMath
import Derived.WalkKit
import Derived.WalkSpells
import Derived.WalkLawsBesides
import Derived.Laws.Shifts
import Derived.Deep.Light
namespace Go.Proofs.Ytgajddfpkchdgaa
namespace Ints
open Go.RowKit
set_option linter.unusedVariables false
set_option maxRecDepth 100000

def resT (r : Int × Bool) : Value := .tuple #[.int .i32 r.1, .bool r.2]
theorem ret_t {a : Int} {t : Bool} {r : Int × Bool} (h : (a, t) = r) : Ending.returned (.tuple #[.int .i32 a, .bool t]) = .returned (resT r) := by rw [← h]; rfl
theorem ret_b {a b : Bool} (h : a = b) : Ending.returned (.bool a) = .returned (.bool b) := by rw [h]
theorem ret_i {k : IntKind} {a b : Int} (h : a = b) : Ending.returned (.int k a) = .returned (.int k b) := by rw [h]

theorem quot_any (a b : Int) (w : World) : Calls Try.prog 15 #[.int .i32 a, .int .i32 b] w fun e w' => e = .returned (resT (quoR a b)) ∧ w = w' := by
  by_cases h : b = 0
  · subst h
    go_enter Try.func15, Try.ntmps15
    go_wp2_with fail
    go_ret2
    exact ⟨rfl, rfl⟩
  · go_enter Try.func15, Try.ntmps15
    go_wp2_with fail
    go_ret2
    exact ⟨ret_t (by unfold quoR; rw [if_neg h]), rfl⟩
theorem rest_any (a b : Int) (w : World) : Calls Try.prog 16 #[.int .i32 a, .int .i32 b] w fun e w' => e = .returned (resT (remR a b)) ∧ w = w' := by
  by_cases h : b = 0
  · subst h
    go_enter Try.func16, Try.ntmps16
    go_wp2_with fail
    go_ret2
    exact ⟨rfl, rfl⟩
  · go_enter Try.func16, Try.ntmps16
    go_wp2_with fail
    go_ret2
    exact ⟨ret_t (by unfold remR; rw [if_neg h]), rfl⟩
theorem one_any (o a : Int) (w : World) : Calls Try.prog 12 #[.int .i64 o, .int .i32 a] w fun e w' => e = .returned (.int .i32 (one o a)) ∧ w = w' := by
  by_cases h : o = 13
  · subst h
    go_enter Try.func12, Try.ntmps12
    go_wp2_with fail
    go_ret
    exact ⟨ret_i rfl, rfl⟩
  · go_enter Try.func12, Try.ntmps12
    go_wp2_with fail
    go_ret
    exact ⟨ret_i (by unfold one; rw [if_neg h]), rfl⟩
theorem wrap_any (n : Int) (w : World) : Calls Try.prog 11 #[.int .i64 n] w fun e w' => e = .returned (.int .i32 (w32 n)) ∧ w = w' := by
  go_enter Try.func11, Try.ntmps11
  go_wp2_with fail
  go_ret
  exact ⟨ret_i (low64 n), rfl⟩
theorem itwo_8 (a b : Int) (w : World) : Calls Try.prog 9 #[.int .i64 8, .int .i32 a, .int .i32 b] w fun e w' => e = .returned (resT (two 8 a b)) ∧ w = w' := by
  go_enter Try.func9, Try.ntmps9
  go_wp2_with fail
  go_ret2
  exact ⟨ret_t (rfl), rfl⟩
theorem itwo_9 (a b : Int) (w : World) : Calls Try.prog 9 #[.int .i64 9, .int .i32 a, .int .i32 b] w fun e w' => e = .returned (resT (two 9 a b)) ∧ w = w' := by
  go_enter Try.func9, Try.ntmps9
  go_wp2_with fail
  go_ret2
  exact ⟨ret_t (rfl), rfl⟩
theorem itwo_10 (a b : Int) (w : World) : Calls Try.prog 9 #[.int .i64 10, .int .i32 a, .int .i32 b] w fun e w' => e = .returned (resT (two 10 a b)) ∧ w = w' := by
  go_enter Try.func9, Try.ntmps9
  go_wp2_with fail
  go_ret2
  exact ⟨ret_t (rfl), rfl⟩
theorem itwo_11 (a b : Int) (w : World) : Calls Try.prog 9 #[.int .i64 11, .int .i32 a, .int .i32 b] w fun e w' => e = .returned (resT (two 11 a b)) ∧ w = w' := by
  go_enter Try.func9, Try.ntmps9
  go_wp2_with (go_at_call 15; refine (quot_any a b _).mono ?_; rintro e w' ⟨rfl, rfl⟩; simp only [resT])
  go_ret2
  exact ⟨ret_t (rfl), rfl⟩
theorem itwo_12 (a b : Int) (w : World) : Calls Try.prog 9 #[.int .i64 12, .int .i32 a, .int .i32 b] w fun e w' => e = .returned (resT (two 12 a b)) ∧ w = w' := by
  go_enter Try.func9, Try.ntmps9
  go_wp2_with (go_at_call 16; refine (rest_any a b _).mono ?_; rintro e w' ⟨rfl, rfl⟩; simp only [resT])
  go_ret2
  exact ⟨ret_t (rfl), rfl⟩
theorem itwo_14 (a b : Int) (w : World) : Calls Try.prog 9 #[.int .i64 14, .int .i32 a, .int .i32 b] w fun e w' => e = .returned (resT (two 14 a b)) ∧ w = w' := by
  go_enter Try.func9, Try.ntmps9
  go_wp2_with fail
  go_ret2
  exact ⟨ret_t (rfl), rfl⟩
theorem itwo_15 (a b : Int) (w : World) : Calls Try.prog 9 #[.int .i64 15, .int .i32 a, .int .i32 b] w fun e w' => e = .returned (resT (two 15 a b)) ∧ w = w' := by
  go_enter Try.func9, Try.ntmps9
  go_wp2_with fail
  go_ret2
  exact ⟨ret_t (rfl), rfl⟩
theorem itwo_16 (a b : Int) (w : World) : Calls Try.prog 9 #[.int .i64 16, .int .i32 a, .int .i32 b] w fun e w' => e = .returned (resT (two 16 a b)) ∧ w = w' := by
  go_enter Try.func9, Try.ntmps9
  go_wp2_with fail
  go_ret2
  exact ⟨ret_t (rfl), rfl⟩
theorem itwo_17 (a b : Int) (w : World) : Calls Try.prog 9 #[.int .i64 17, .int .i32 a, .int .i32 b] w fun e w' => e = .returned (resT (two 17 a b)) ∧ w = w' := by
  have hm := mask5_u32 (b % 4294967296)
  have e1 : b % 4294967296 % 32 = b % 32 := by omega
  rw [e1] at hm
  clear e1
  have hb : 0 ≤ b % 32 := by omega
  go_enter Try.func9, Try.ntmps9
  go_wp2_with fail
  go_ret2
  exact ⟨ret_t (rfl), rfl⟩
theorem itwo_18 (a b : Int) (w : World) : Calls Try.prog 9 #[.int .i64 18, .int .i32 a, .int .i32 b] w fun e w' => e = .returned (resT (two 18 a b)) ∧ w = w' := by
  have hm := mask5_u32 (b % 4294967296)
  have e1 : b % 4294967296 % 32 = b % 32 := by omega
  rw [e1] at hm
  clear e1
  have hb : 0 ≤ b % 32 := by omega
  go_enter Try.func9, Try.ntmps9
  go_wp2_with fail
  go_ret2
  exact ⟨ret_t (rfl), rfl⟩
theorem itwo_19 (a b : Int) (w : World) : Calls Try.prog 9 #[.int .i64 19, .int .i32 a, .int .i32 b] w fun e w' => e = .returned (resT (two 19 a b)) ∧ w = w' := by
  have hm := mask5_u32 (b % 4294967296)
  have e1 : b % 4294967296 % 32 = b % 32 := by omega
  rw [e1] at hm
  clear e1
  have hb : 0 ≤ b % 32 := by omega
  go_enter Try.func9, Try.ntmps9
  go_wp2_with fail
  go_ret2
  exact ⟨ret_t (rfl), rfl⟩
theorem itwo_no (o a b : Int) (w : World) (ha : Is32 a) (hB : Is32 b) (h : ¬ (8 ≤ o ∧ o ≤ 12 ∨ 14 ≤ o ∧ o ≤ 19)) : Calls Try.prog 9 #[.int .i64 o, .int .i32 a, .int .i32 b] w fun e w' => e = .returned (resT (two o a b)) ∧ w = w' := by
  have h8 : o ≠ 8 := by omega
  have h9 : o ≠ 9 := by omega
  have h10 : o ≠ 10 := by omega
  have h11 : o ≠ 11 := by omega
  have h12 : o ≠ 12 := by omega
  have h14 : o ≠ 14 := by omega
  have h15 : o ≠ 15 := by omega
  have h16 : o ≠ 16 := by omega
  have h17 : o ≠ 17 := by omega
  have h18 : o ≠ 18 := by omega
  have h19 : o ≠ 19 := by omega
  have e : two o a b = (0, false) := by unfold two; simp only [h8, h9, h10, h11, h12, h14, h15, h16, h17, h18, h19, if_false]
  rw [e]
  clear e h
  go_enter Try.func9, Try.ntmps9
  go_wp2_with fail
  go_ret2
  exact ⟨rfl, rfl⟩
theorem rtwo_no (o a b : Int) (w : World) (ha : Is32 a) (hB : Is32 b) (h : ¬ (8 ≤ o ∧ o ≤ 12 ∨ 14 ≤ o ∧ o ≤ 19)) : Calls Try.prog 10 #[.int .i64 o, .int .i32 a, .int .i32 b] w fun e w' => e = .returned (resT (two o a b)) ∧ w = w' := by
  have h8 : o ≠ 8 := by omega
  have h9 : o ≠ 9 := by omega
  have h10 : o ≠ 10 := by omega
  have h11 : o ≠ 11 := by omega
  have h12 : o ≠ 12 := by omega
  have h14 : o ≠ 14 := by omega
  have h15 : o ≠ 15 := by omega
  have h16 : o ≠ 16 := by omega
  have h17 : o ≠ 17 := by omega
  have h18 : o ≠ 18 := by omega
  have h19 : o ≠ 19 := by omega
  have e : two o a b = (0, false) := by unfold two; simp only [h8, h9, h10, h11, h12, h14, h15, h16, h17, h18, h19, if_false]
  rw [e]
  clear e h
  obtain ⟨ha1, ha2⟩ := id ha
  obtain ⟨hB1, hB2⟩ := id hB
  have hm := mask5_i64 b
  have hb : 0 ≤ b % 32 := by omega
  have hb2 : b % 32 < 32 := by omega
  go_enter Try.func10, Try.ntmps10
  go_wp2_with fail
  go_ret2
  exact ⟨rfl, rfl⟩
theorem rtwo_8 (a b : Int) (w : World) (ha : Is32 a) (hB : Is32 b) : Calls Try.prog 10 #[.int .i64 8, .int .i32 a, .int .i32 b] w fun e w' => e = .returned (resT (two 8 a b)) ∧ w = w' := by
  obtain ⟨ha1, ha2⟩ := id ha
  obtain ⟨hB1, hB2⟩ := id hB
  have hm := mask5_i64 b
  have hb : 0 ≤ b % 32 := by omega
  have hb2 : b % 32 < 32 := by omega
  go_enter Try.func10, Try.ntmps10
  go_wp2_with (go_at_call 11; refine (wrap_any _ _).mono ?_; rintro e w' ⟨rfl, rfl⟩)
  go_ret2
  exact ⟨ret_t (congrArg (·, true) (by first | rfl | exact wrap64_low _)), rfl⟩
theorem rtwo_9 (a b : Int) (w : World) (ha : Is32 a) (hB : Is32 b) : Calls Try.prog 10 #[.int .i64 9, .int .i32 a, .int .i32 b] w fun e w' => e = .returned (resT (two 9 a b)) ∧ w = w' := by
  obtain ⟨ha1, ha2⟩ := id ha
  obtain ⟨hB1, hB2⟩ := id hB
  have hm := mask5_i64 b
  have hb : 0 ≤ b % 32 := by omega
  have hb2 : b % 32 < 32 := by omega
  go_enter Try.func10, Try.ntmps10
  go_wp2_with (go_at_call 11; refine (wrap_any _ _).mono ?_; rintro e w' ⟨rfl, rfl⟩)
  go_ret2
  exact ⟨ret_t (congrArg (·, true) (by first | rfl | exact wrap64_low _)), rfl⟩
theorem rtwo_10 (a b : Int) (w : World) (ha : Is32 a) (hB : Is32 b) : Calls Try.prog 10 #[.int .i64 10, .int .i32 a, .int .i32 b] w fun e w' => e = .returned (resT (two 10 a b)) ∧ w = w' := by
  obtain ⟨ha1, ha2⟩ := id ha
  obtain ⟨hB1, hB2⟩ := id hB
  have hm := mask5_i64 b
  have hb : 0 ≤ b % 32 := by omega
  have hb2 : b % 32 < 32 := by omega
  go_enter Try.func10, Try.ntmps10
  go_wp2_with (go_at_call 11; refine (wrap_any _ _).mono ?_; rintro e w' ⟨rfl, rfl⟩)
  go_ret2
  exact ⟨ret_t (congrArg (·, true) (by first | rfl | exact wrap64_low _)), rfl⟩
theorem rtwo_11 (a b : Int) (w : World) (ha : Is32 a) (hB : Is32 b) : Calls Try.prog 10 #[.int .i64 11, .int .i32 a, .int .i32 b] w fun e w' => e = .returned (resT (two 11 a b)) ∧ w = w' := by
  obtain ⟨ha1, ha2⟩ := id ha
  obtain ⟨hB1, hB2⟩ := id hB
  have hm := mask5_i64 b
  have hb : 0 ≤ b % 32 := by omega
  have hb2 : b % 32 < 32 := by omega
  by_cases h0 : b = 0
  · subst h0
    go_enter Try.func10, Try.ntmps10
    go_wp2_with fail
    go_ret2
    exact ⟨rfl, rfl⟩
  go_enter Try.func10, Try.ntmps10
  go_wp2_with (go_at_call 11; refine (wrap_any _ _).mono ?_; rintro e w' ⟨rfl, rfl⟩)
  go_ret2
  exact ⟨ret_t (by show _ = quoR a b; unfold quoR; rw [if_neg h0]; exact congrArg (·, true) (wrap64_low _)), rfl⟩
theorem rtwo_12 (a b : Int) (w : World) (ha : Is32 a) (hB : Is32 b) : Calls Try.prog 10 #[.int .i64 12, .int .i32 a, .int .i32 b] w fun e w' => e = .returned (resT (two 12 a b)) ∧ w = w' := by
  obtain ⟨ha1, ha2⟩ := id ha
  obtain ⟨hB1, hB2⟩ := id hB
  have hm := mask5_i64 b
  have hb : 0 ≤ b % 32 := by omega
  have hb2 : b % 32 < 32 := by omega
  by_cases h0 : b = 0
  · subst h0
    go_enter Try.func10, Try.ntmps10
    go_wp2_with fail
    go_ret2
    exact ⟨rfl, rfl⟩
  go_enter Try.func10, Try.ntmps10
  go_wp2_with (go_at_call 11; refine (wrap_any _ _).mono ?_; rintro e w' ⟨rfl, rfl⟩)
  go_ret2
  exact ⟨ret_t (by show _ = remR a b; unfold remR; rw [if_neg h0]; exact congrArg (·, true) (w32_id (tmod_is ha))), rfl⟩
theorem rtwo_14 (a b : Int) (w : World) (ha : Is32 a) (hB : Is32 b) : Calls Try.prog 10 #[.int .i64 14, .int .i32 a, .int .i32 b] w fun e w' => e = .returned (resT (two 14 a b)) ∧ w = w' := by
  obtain ⟨ha1, ha2⟩ := id ha
  obtain ⟨hB1, hB2⟩ := id hB
  have hm := mask5_i64 b
  have hb : 0 ≤ b % 32 := by omega
  have hb2 : b % 32 < 32 := by omega
  go_enter Try.func10, Try.ntmps10
  go_wp2_with (go_at_call 11; refine (wrap_any _ _).mono ?_; rintro e w' ⟨rfl, rfl⟩)
  go_ret2
  exact ⟨ret_t (congrArg (·, true) (and_low _ _)), rfl⟩
theorem rtwo_15 (a b : Int) (w : World) (ha : Is32 a) (hB : Is32 b) : Calls Try.prog 10 #[.int .i64 15, .int .i32 a, .int .i32 b] w fun e w' => e = .returned (resT (two 15 a b)) ∧ w = w' := by
  obtain ⟨ha1, ha2⟩ := id ha
  obtain ⟨hB1, hB2⟩ := id hB
  have hm := mask5_i64 b
  have hb : 0 ≤ b % 32 := by omega
  have hb2 : b % 32 < 32 := by omega
  go_enter Try.func10, Try.ntmps10
  go_wp2_with (go_at_call 11; refine (wrap_any _ _).mono ?_; rintro e w' ⟨rfl, rfl⟩)
  go_ret2
  exact ⟨ret_t (congrArg (·, true) (or_low _ _)), rfl⟩
theorem rtwo_16 (a b : Int) (w : World) (ha : Is32 a) (hB : Is32 b) : Calls Try.prog 10 #[.int .i64 16, .int .i32 a, .int .i32 b] w fun e w' => e = .returned (resT (two 16 a b)) ∧ w = w' := by
  obtain ⟨ha1, ha2⟩ := id ha
  obtain ⟨hB1, hB2⟩ := id hB
  have hm := mask5_i64 b
  have hb : 0 ≤ b % 32 := by omega
  have hb2 : b % 32 < 32 := by omega
  go_enter Try.func10, Try.ntmps10
  go_wp2_with (go_at_call 11; refine (wrap_any _ _).mono ?_; rintro e w' ⟨rfl, rfl⟩)
  go_ret2
  exact ⟨ret_t (congrArg (·, true) (xor_low _ _)), rfl⟩
theorem rtwo_17 (a b : Int) (w : World) (ha : Is32 a) (hB : Is32 b) : Calls Try.prog 10 #[.int .i64 17, .int .i32 a, .int .i32 b] w fun e w' => e = .returned (resT (two 17 a b)) ∧ w = w' := by
  obtain ⟨ha1, ha2⟩ := id ha
  obtain ⟨hB1, hB2⟩ := id hB
  have hm := mask5_i64 b
  have hb : 0 ≤ b % 32 := by omega
  have hb2 : b % 32 < 32 := by omega
  go_enter Try.func10, Try.ntmps10
  go_wp2_with (go_at_call 11; refine (wrap_any _ _).mono ?_; rintro e w' ⟨rfl, rfl⟩)
  go_ret2
  exact ⟨ret_t (congrArg (·, true) (wrap64_low _)), rfl⟩
theorem rtwo_18 (a b : Int) (w : World) (ha : Is32 a) (hB : Is32 b) : Calls Try.prog 10 #[.int .i64 18, .int .i32 a, .int .i32 b] w fun e w' => e = .returned (resT (two 18 a b)) ∧ w = w' := by
  obtain ⟨ha1, ha2⟩ := id ha
  obtain ⟨hB1, hB2⟩ := id hB
  have hm := mask5_i64 b
  have hb : 0 ≤ b % 32 := by omega
  have hb2 : b % 32 < 32 := by omega
  go_enter Try.func10, Try.ntmps10
  go_wp2_with (go_at_call 11; refine (wrap_any _ _).mono ?_; rintro e w' ⟨rfl, rfl⟩)
  go_ret2
  exact ⟨ret_t (congrArg (·, true) (w32_id (shr_is ha _))), rfl⟩
theorem rtwo_19 (a b : Int) (w : World) (ha : Is32 a) (hB : Is32 b) : Calls Try.prog 10 #[.int .i64 19, .int .i32 a, .int .i32 b] w fun e w' => e = .returned (resT (two 19 a b)) ∧ w = w' := by
  obtain ⟨ha1, ha2⟩ := id ha
  obtain ⟨hB1, hB2⟩ := id hB
  have hm := mask5_i64 b
  have hb : 0 ≤ b % 32 := by omega
  have hb2 : b % 32 < 32 := by omega
  have hx := mask32_i64 a
  go_enter Try.func10, Try.ntmps10
  go_wp2_with (go_at_call 11; refine (wrap_any _ _).mono ?_; rintro e w' ⟨rfl, rfl⟩)
  go_ret2
  exact ⟨ret_t (rfl), rfl⟩
theorem itwo_any (o a b : Int) (w : World) (ha : Is32 a) (hB : Is32 b) : Calls Try.prog 9 #[.int .i64 o, .int .i32 a, .int .i32 b] w fun e w' => e = .returned (resT (two o a b)) ∧ w = w' := by
  by_cases h : 8 ≤ o ∧ o ≤ 12 ∨ 14 ≤ o ∧ o ≤ 19
  · have hc : o = 8 ∨ o = 9 ∨ o = 10 ∨ o = 11 ∨ o = 12 ∨ o = 14 ∨ o = 15 ∨ o = 16 ∨ o = 17 ∨ o = 18 ∨ o = 19 := by omega
    rcases hc with rfl | rfl | rfl | rfl | rfl | rfl | rfl | rfl | rfl | rfl | rfl
    · exact itwo_8 a b w
    · exact itwo_9 a b w
    · exact itwo_10 a b w
    · exact itwo_11 a b w
    · exact itwo_12 a b w
    · exact itwo_14 a b w
    · exact itwo_15 a b w
    · exact itwo_16 a b w
    · exact itwo_17 a b w
    · exact itwo_18 a b w
    · exact itwo_19 a b w
  · exact itwo_no o a b w ha hB h
theorem rtwo_any (o a b : Int) (w : World) (ha : Is32 a) (hB : Is32 b) : Calls Try.prog 10 #[.int .i64 o, .int .i32 a, .int .i32 b] w fun e w' => e = .returned (resT (two o a b)) ∧ w = w' := by
  by_cases h : 8 ≤ o ∧ o ≤ 12 ∨ 14 ≤ o ∧ o ≤ 19
  · have hc : o = 8 ∨ o = 9 ∨ o = 10 ∨ o = 11 ∨ o = 12 ∨ o = 14 ∨ o = 15 ∨ o = 16 ∨ o = 17 ∨ o = 18 ∨ o = 19 := by omega
    rcases hc with rfl | rfl | rfl | rfl | rfl | rfl | rfl | rfl | rfl | rfl | rfl
    · exact rtwo_8 a b w ha hB
    · exact rtwo_9 a b w ha hB
    · exact rtwo_10 a b w ha hB
    · exact rtwo_11 a b w ha hB
    · exact rtwo_12 a b w ha hB
    · exact rtwo_14 a b w ha hB
    · exact rtwo_15 a b w ha hB
    · exact rtwo_16 a b w ha hB
    · exact rtwo_17 a b w ha hB
    · exact rtwo_18 a b w ha hB
    · exact rtwo_19 a b w ha hB
  · exact rtwo_no o a b w ha hB h
theorem igo_21 (a b : Int) (w : World) (ha : Is32 a) (hB : Is32 b) : Calls Try.prog 13 #[.int .i64 21, .int .i32 a, .int .i32 b] w fun e w' => e = .returned (.bool (goes 21 a b)) ∧ w = w' := by
  have e : goes 21 a b = decide (a = 0) := rfl
  rw [e]
  clear e
  obtain ⟨ha1, ha2⟩ := id ha
  obtain ⟨hB1, hB2⟩ := id hB
  clear ha hB
  go_enter Try.func13, Try.ntmps13
  go_wp2_with fail
  all_goals
    go_ret
    exact ⟨ret_b (by go_light; refine Bool.eq_iff_iff.2 ?_; simp; try omega), rfl⟩
theorem igo_22 (a b : Int) (w : World) (ha : Is32 a) (hB : Is32 b) : Calls Try.prog 13 #[.int .i64 22, .int .i32 a, .int .i32 b] w fun e w' => e = .returned (.bool (goes 22 a b)) ∧ w = w' := by
  have e : goes 22 a b = decide (a ≠ 0) := rfl
  rw [e]
  clear e
  obtain ⟨ha1, ha2⟩ := id ha
  obtain ⟨hB1, hB2⟩ := id hB
  clear ha hB
  go_enter Try.func13, Try.ntmps13
  go_wp2_with fail
  all_goals
    go_ret
    exact ⟨ret_b (by go_light; refine Bool.eq_iff_iff.2 ?_; simp; try omega), rfl⟩
theorem igo_23 (a b : Int) (w : World) (ha : Is32 a) (hB : Is32 b) : Calls Try.prog 13 #[.int .i64 23, .int .i32 a, .int .i32 b] w fun e w' => e = .returned (.bool (goes 23 a b)) ∧ w = w' := by
  have e : goes 23 a b = decide (a < 0) := rfl
  rw [e]
  clear e
  obtain ⟨ha1, ha2⟩ := id ha
  obtain ⟨hB1, hB2⟩ := id hB
  clear ha hB
  go_enter Try.func13, Try.ntmps13
  go_wp2_with fail
  all_goals
    go_ret
    exact ⟨ret_b (by go_light; refine Bool.eq_iff_iff.2 ?_; simp; try omega), rfl⟩
theorem igo_24 (a b : Int) (w : World) (ha : Is32 a) (hB : Is32 b) : Calls Try.prog 13 #[.int .i64 24, .int .i32 a, .int .i32 b] w fun e w' => e = .returned (.bool (goes 24 a b)) ∧ w = w' := by
  have e : goes 24 a b = decide (0 ≤ a) := rfl
  rw [e]
  clear e
  obtain ⟨ha1, ha2⟩ := id ha
  obtain ⟨hB1, hB2⟩ := id hB
  clear ha hB
  go_enter Try.func13, Try.ntmps13
  go_wp2_with fail
  all_goals
    go_ret
    exact ⟨ret_b (by go_light; refine Bool.eq_iff_iff.2 ?_; simp; try omega), rfl⟩
theorem igo_25 (a b : Int) (w : World) (ha : Is32 a) (hB : Is32 b) : Calls Try.prog 13 #[.int .i64 25, .int .i32 a, .int .i32 b] w fun e w' => e = .returned (.bool (goes 25 a b)) ∧ w = w' := by
  have e : goes 25 a b = decide (0 < a) := rfl
  rw [e]
  clear e
  obtain ⟨ha1, ha2⟩ := id ha
  obtain ⟨hB1, hB2⟩ := id hB
  clear ha hB
  go_enter Try.func13, Try.ntmps13
  go_wp2_with fail
  all_goals
    go_ret
    exact ⟨ret_b (by go_light; refine Bool.eq_iff_iff.2 ?_; simp; try omega), rfl⟩
theorem igo_26 (a b : Int) (w : World) (ha : Is32 a) (hB : Is32 b) : Calls Try.prog 13 #[.int .i64 26, .int .i32 a, .int .i32 b] w fun e w' => e = .returned (.bool (goes 26 a b)) ∧ w = w' := by
  have e : goes 26 a b = decide (a ≤ 0) := rfl
  rw [e]
  clear e
  obtain ⟨ha1, ha2⟩ := id ha
  obtain ⟨hB1, hB2⟩ := id hB
  clear ha hB
  go_enter Try.func13, Try.ntmps13
  go_wp2_with fail
  all_goals
    go_ret
    exact ⟨ret_b (by go_light; refine Bool.eq_iff_iff.2 ?_; simp; try omega), rfl⟩
theorem igo_27 (a b : Int) (w : World) (ha : Is32 a) (hB : Is32 b) : Calls Try.prog 13 #[.int .i64 27, .int .i32 a, .int .i32 b] w fun e w' => e = .returned (.bool (goes 27 a b)) ∧ w = w' := by
  have e : goes 27 a b = decide (a = b) := rfl
  rw [e]
  clear e
  obtain ⟨ha1, ha2⟩ := id ha
  obtain ⟨hB1, hB2⟩ := id hB
  clear ha hB
  go_enter Try.func13, Try.ntmps13
  go_wp2_with fail
  all_goals
    go_ret
    exact ⟨ret_b (by go_light; refine Bool.eq_iff_iff.2 ?_; simp; try omega), rfl⟩
theorem igo_28 (a b : Int) (w : World) (ha : Is32 a) (hB : Is32 b) : Calls Try.prog 13 #[.int .i64 28, .int .i32 a, .int .i32 b] w fun e w' => e = .returned (.bool (goes 28 a b)) ∧ w = w' := by
  have e : goes 28 a b = decide (a ≠ b) := rfl
  rw [e]
  clear e
  obtain ⟨ha1, ha2⟩ := id ha
  obtain ⟨hB1, hB2⟩ := id hB
  clear ha hB
  go_enter Try.func13, Try.ntmps13
  go_wp2_with fail
  all_goals
    go_ret
    exact ⟨ret_b (by go_light; refine Bool.eq_iff_iff.2 ?_; simp; try omega), rfl⟩
theorem igo_29 (a b : Int) (w : World) (ha : Is32 a) (hB : Is32 b) : Calls Try.prog 13 #[.int .i64 29, .int .i32 a, .int .i32 b] w fun e w' => e = .returned (.bool (goes 29 a b)) ∧ w = w' := by
  have e : goes 29 a b = decide (a < b) := rfl
  rw [e]
  clear e
  obtain ⟨ha1, ha2⟩ := id ha
  obtain ⟨hB1, hB2⟩ := id hB
  clear ha hB
  go_enter Try.func13, Try.ntmps13
  go_wp2_with fail
  all_goals
    go_ret
    exact ⟨ret_b (by go_light; refine Bool.eq_iff_iff.2 ?_; simp; try omega), rfl⟩
theorem igo_30 (a b : Int) (w : World) (ha : Is32 a) (hB : Is32 b) : Calls Try.prog 13 #[.int .i64 30, .int .i32 a, .int .i32 b] w fun e w' => e = .returned (.bool (goes 30 a b)) ∧ w = w' := by
  have e : goes 30 a b = decide (b ≤ a) := rfl
  rw [e]
  clear e
  obtain ⟨ha1, ha2⟩ := id ha
  obtain ⟨hB1, hB2⟩ := id hB
  clear ha hB
  go_enter Try.func13, Try.ntmps13
  go_wp2_with fail
  all_goals
    go_ret
    exact ⟨ret_b (by go_light; refine Bool.eq_iff_iff.2 ?_; simp; try omega), rfl⟩
theorem igo_31 (a b : Int) (w : World) (ha : Is32 a) (hB : Is32 b) : Calls Try.prog 13 #[.int .i64 31, .int .i32 a, .int .i32 b] w fun e w' => e = .returned (.bool (goes 31 a b)) ∧ w = w' := by
  have e : goes 31 a b = decide (b < a) := rfl
  rw [e]
  clear e
  obtain ⟨ha1, ha2⟩ := id ha
  obtain ⟨hB1, hB2⟩ := id hB
  clear ha hB
  go_enter Try.func13, Try.ntmps13
  go_wp2_with fail
  all_goals
    go_ret
    exact ⟨ret_b (by go_light; refine Bool.eq_iff_iff.2 ?_; simp; try omega), rfl⟩
theorem igo_32 (a b : Int) (w : World) (ha : Is32 a) (hB : Is32 b) : Calls Try.prog 13 #[.int .i64 32, .int .i32 a, .int .i32 b] w fun e w' => e = .returned (.bool (goes 32 a b)) ∧ w = w' := by
  have e : goes 32 a b = decide (a ≤ b) := rfl
  rw [e]
  clear e
  obtain ⟨ha1, ha2⟩ := id ha
  obtain ⟨hB1, hB2⟩ := id hB
  clear ha hB
  go_enter Try.func13, Try.ntmps13
  go_wp2_with fail
  all_goals
    go_ret
    exact ⟨ret_b (by go_light; refine Bool.eq_iff_iff.2 ?_; simp; try omega), rfl⟩
theorem igo_no (o a b : Int) (w : World) (ha : Is32 a) (hB : Is32 b) (h : ¬ (21 ≤ o ∧ o ≤ 32)) : Calls Try.prog 13 #[.int .i64 o, .int .i32 a, .int .i32 b] w fun e w' => e = .returned (.bool (goes o a b)) ∧ w = w' := by
  obtain ⟨ha1, ha2⟩ := id ha
  obtain ⟨hB1, hB2⟩ := id hB
  clear ha hB
  have h27 : o ≠ 27 := by omega
  have h28 : o ≠ 28 := by omega
  have h29 : o ≠ 29 := by omega
  have h30 : o ≠ 30 := by omega
  have h31 : o ≠ 31 := by omega
  have h32 : o ≠ 32 := by omega
  have h21 : o ≠ 21 := by omega
  have h22 : o ≠ 22 := by omega
  have h23 : o ≠ 23 := by omega
  have h24 : o ≠ 24 := by omega
  have h25 : o ≠ 25 := by omega
  have h26 : o ≠ 26 := by omega
  have e : goes o a b = false := by
    unfold goes stands; rw [if_neg (by omega)]
    simp only [h27, h28, h29, h30, h31, h32, if_false]
  rw [e]
  clear e
  rcases (show o < 21 ∨ 32 < o by omega) with hl | hl
  · clear h
    go_enter Try.func13, Try.ntmps13
    go_wp2_with fail
    all_goals first | (exfalso; go_light; omega) | (go_ret; exact ⟨rfl, rfl⟩)
  · clear h
    go_enter Try.func13, Try.ntmps13
    go_wp2_with fail
    all_goals first | (exfalso; go_light; omega) | (go_ret; exact ⟨rfl, rfl⟩)
theorem igo_any (o a b : Int) (w : World) (ha : Is32 a) (hB : Is32 b) : Calls Try.prog 13 #[.int .i64 o, .int .i32 a, .int .i32 b] w fun e w' => e = .returned (.bool (goes o a b)) ∧ w = w' := by
  by_cases h : 21 ≤ o ∧ o ≤ 32
  · have hc : o = 21 ∨ o = 22 ∨ o = 23 ∨ o = 24 ∨ o = 25 ∨ o = 26 ∨ o = 27 ∨ o = 28 ∨ o = 29 ∨ o = 30 ∨ o = 31 ∨ o = 32 := by omega
    rcases hc with rfl | rfl | rfl | rfl | rfl | rfl | rfl | rfl | rfl | rfl | rfl | rfl
    · exact igo_21 a b w ha hB
    · exact igo_22 a b w ha hB
    · exact igo_23 a b w ha hB
    · exact igo_24 a b w ha hB
    · exact igo_25 a b w ha hB
    · exact igo_26 a b w ha hB
    · exact igo_27 a b w ha hB
    · exact igo_28 a b w ha hB
    · exact igo_29 a b w ha hB
    · exact igo_30 a b w ha hB
    · exact igo_31 a b w ha hB
    · exact igo_32 a b w ha hB
  · exact igo_no o a b w ha hB h
theorem rgo_21 (a b : Int) (w : World) (ha : Is32 a) (hB : Is32 b) : Calls Try.prog 14 #[.int .i64 21, .int .i32 a, .int .i32 b] w fun e w' => e = .returned (.bool (goes 21 a b)) ∧ w = w' := by
  have e : goes 21 a b = decide (a = 0) := rfl
  rw [e]
  clear e
  obtain ⟨ha1, ha2⟩ := id ha
  obtain ⟨hB1, hB2⟩ := id hB
  clear ha hB
  go_enter Try.func14, Try.ntmps14
  go_wp2_with fail
  all_goals
    go_ret
    exact ⟨ret_b (by go_light; refine Bool.eq_iff_iff.2 ?_; simp; try omega), rfl⟩
theorem rgo_22 (a b : Int) (w : World) (ha : Is32 a) (hB : Is32 b) : Calls Try.prog 14 #[.int .i64 22, .int .i32 a, .int .i32 b] w fun e w' => e = .returned (.bool (goes 22 a b)) ∧ w = w' := by
  have e : goes 22 a b = decide (a ≠ 0) := rfl
  rw [e]
  clear e
  obtain ⟨ha1, ha2⟩ := id ha
  obtain ⟨hB1, hB2⟩ := id hB
  clear ha hB
  go_enter Try.func14, Try.ntmps14
  go_wp2_with fail
  all_goals
    go_ret
    exact ⟨ret_b (by go_light; refine Bool.eq_iff_iff.2 ?_; simp; try omega), rfl⟩
theorem rgo_23 (a b : Int) (w : World) (ha : Is32 a) (hB : Is32 b) : Calls Try.prog 14 #[.int .i64 23, .int .i32 a, .int .i32 b] w fun e w' => e = .returned (.bool (goes 23 a b)) ∧ w = w' := by
  have e : goes 23 a b = decide (a < 0) := rfl
  rw [e]
  clear e
  obtain ⟨ha1, ha2⟩ := id ha
  obtain ⟨hB1, hB2⟩ := id hB
  clear ha hB
  go_enter Try.func14, Try.ntmps14
  go_wp2_with fail
  all_goals
    go_ret
    exact ⟨ret_b (by go_light; refine Bool.eq_iff_iff.2 ?_; simp; try omega), rfl⟩
theorem rgo_24 (a b : Int) (w : World) (ha : Is32 a) (hB : Is32 b) : Calls Try.prog 14 #[.int .i64 24, .int .i32 a, .int .i32 b] w fun e w' => e = .returned (.bool (goes 24 a b)) ∧ w = w' := by
  have e : goes 24 a b = decide (0 ≤ a) := rfl
  rw [e]
  clear e
  obtain ⟨ha1, ha2⟩ := id ha
  obtain ⟨hB1, hB2⟩ := id hB
  clear ha hB
  go_enter Try.func14, Try.ntmps14
  go_wp2_with fail
  all_goals
    go_ret
    exact ⟨ret_b (by go_light; refine Bool.eq_iff_iff.2 ?_; simp; try omega), rfl⟩
theorem rgo_25 (a b : Int) (w : World) (ha : Is32 a) (hB : Is32 b) : Calls Try.prog 14 #[.int .i64 25, .int .i32 a, .int .i32 b] w fun e w' => e = .returned (.bool (goes 25 a b)) ∧ w = w' := by
  have e : goes 25 a b = decide (0 < a) := rfl
  rw [e]
  clear e
  obtain ⟨ha1, ha2⟩ := id ha
  obtain ⟨hB1, hB2⟩ := id hB
  clear ha hB
  go_enter Try.func14, Try.ntmps14
  go_wp2_with fail
  all_goals
    go_ret
    exact ⟨ret_b (by go_light; refine Bool.eq_iff_iff.2 ?_; simp; try omega), rfl⟩
theorem rgo_26 (a b : Int) (w : World) (ha : Is32 a) (hB : Is32 b) : Calls Try.prog 14 #[.int .i64 26, .int .i32 a, .int .i32 b] w fun e w' => e = .returned (.bool (goes 26 a b)) ∧ w = w' := by
  have e : goes 26 a b = decide (a ≤ 0) := rfl
  rw [e]
  clear e
  obtain ⟨ha1, ha2⟩ := id ha
  obtain ⟨hB1, hB2⟩ := id hB
  clear ha hB
  go_enter Try.func14, Try.ntmps14
  go_wp2_with fail
  all_goals
    go_ret
    exact ⟨ret_b (by go_light; refine Bool.eq_iff_iff.2 ?_; simp; try omega), rfl⟩
theorem rgo_27 (a b : Int) (w : World) (ha : Is32 a) (hB : Is32 b) : Calls Try.prog 14 #[.int .i64 27, .int .i32 a, .int .i32 b] w fun e w' => e = .returned (.bool (goes 27 a b)) ∧ w = w' := by
  have e : goes 27 a b = decide (a = b) := rfl
  rw [e]
  clear e
  obtain ⟨ha1, ha2⟩ := id ha
  obtain ⟨hB1, hB2⟩ := id hB
  clear ha hB
  go_enter Try.func14, Try.ntmps14
  go_wp2_with fail
  all_goals
    go_ret
    exact ⟨ret_b (by go_light; refine Bool.eq_iff_iff.2 ?_; simp; try omega), rfl⟩
theorem rgo_28 (a b : Int) (w : World) (ha : Is32 a) (hB : Is32 b) : Calls Try.prog 14 #[.int .i64 28, .int .i32 a, .int .i32 b] w fun e w' => e = .returned (.bool (goes 28 a b)) ∧ w = w' := by
  have e : goes 28 a b = decide (a ≠ b) := rfl
  rw [e]
  clear e
  obtain ⟨ha1, ha2⟩ := id ha
  obtain ⟨hB1, hB2⟩ := id hB
  clear ha hB
  go_enter Try.func14, Try.ntmps14
  go_wp2_with fail
  all_goals
    go_ret
    exact ⟨ret_b (by go_light; refine Bool.eq_iff_iff.2 ?_; simp; try omega), rfl⟩
theorem rgo_29 (a b : Int) (w : World) (ha : Is32 a) (hB : Is32 b) : Calls Try.prog 14 #[.int .i64 29, .int .i32 a, .int .i32 b] w fun e w' => e = .returned (.bool (goes 29 a b)) ∧ w = w' := by
  have e : goes 29 a b = decide (a < b) := rfl
  rw [e]
  clear e
  obtain ⟨ha1, ha2⟩ := id ha
  obtain ⟨hB1, hB2⟩ := id hB
  clear ha hB
  go_enter Try.func14, Try.ntmps14
  go_wp2_with fail
  all_goals
    go_ret
    exact ⟨ret_b (by go_light; refine Bool.eq_iff_iff.2 ?_; simp; try omega), rfl⟩
theorem rgo_30 (a b : Int) (w : World) (ha : Is32 a) (hB : Is32 b) : Calls Try.prog 14 #[.int .i64 30, .int .i32 a, .int .i32 b] w fun e w' => e = .returned (.bool (goes 30 a b)) ∧ w = w' := by
  have e : goes 30 a b = decide (b ≤ a) := rfl
  rw [e]
  clear e
  obtain ⟨ha1, ha2⟩ := id ha
  obtain ⟨hB1, hB2⟩ := id hB
  clear ha hB
  go_enter Try.func14, Try.ntmps14
  go_wp2_with fail
  all_goals
    go_ret
    exact ⟨ret_b (by go_light; refine Bool.eq_iff_iff.2 ?_; simp; try omega), rfl⟩
theorem rgo_31 (a b : Int) (w : World) (ha : Is32 a) (hB : Is32 b) : Calls Try.prog 14 #[.int .i64 31, .int .i32 a, .int .i32 b] w fun e w' => e = .returned (.bool (goes 31 a b)) ∧ w = w' := by
  have e : goes 31 a b = decide (b < a) := rfl
  rw [e]
  clear e
  obtain ⟨ha1, ha2⟩ := id ha
  obtain ⟨hB1, hB2⟩ := id hB
  clear ha hB
  go_enter Try.func14, Try.ntmps14
  go_wp2_with fail
  all_goals
    go_ret
    exact ⟨ret_b (by go_light; refine Bool.eq_iff_iff.2 ?_; simp; try omega), rfl⟩
theorem rgo_32 (a b : Int) (w : World) (ha : Is32 a) (hB : Is32 b) : Calls Try.prog 14 #[.int .i64 32, .int .i32 a, .int .i32 b] w fun e w' => e = .returned (.bool (goes 32 a b)) ∧ w = w' := by
  have e : goes 32 a b = decide (a ≤ b) := rfl
  rw [e]
  clear e
  obtain ⟨ha1, ha2⟩ := id ha
  obtain ⟨hB1, hB2⟩ := id hB
  clear ha hB
  go_enter Try.func14, Try.ntmps14
  go_wp2_with fail
  all_goals
    go_ret
    exact ⟨ret_b (by go_light; refine Bool.eq_iff_iff.2 ?_; simp; try omega), rfl⟩
theorem rgo_no (o a b : Int) (w : World) (ha : Is32 a) (hB : Is32 b) (h : ¬ (21 ≤ o ∧ o ≤ 32)) : Calls Try.prog 14 #[.int .i64 o, .int .i32 a, .int .i32 b] w fun e w' => e = .returned (.bool (goes o a b)) ∧ w = w' := by
  obtain ⟨ha1, ha2⟩ := id ha
  obtain ⟨hB1, hB2⟩ := id hB
  clear ha hB
  have h27 : o ≠ 27 := by omega
  have h28 : o ≠ 28 := by omega
  have h29 : o ≠ 29 := by omega
  have h30 : o ≠ 30 := by omega
  have h31 : o ≠ 31 := by omega
  have h32 : o ≠ 32 := by omega
  have h21 : o ≠ 21 := by omega
  have h22 : o ≠ 22 := by omega
  have h23 : o ≠ 23 := by omega
  have h24 : o ≠ 24 := by omega
  have h25 : o ≠ 25 := by omega
  have h26 : o ≠ 26 := by omega
  have e : goes o a b = false := by
    unfold goes stands; rw [if_neg (by omega)]
    simp only [h27, h28, h29, h30, h31, h32, if_false]
  rw [e]
  clear e
  rcases (show o < 21 ∨ 32 < o by omega) with hl | hl
  · clear h
    go_enter Try.func14, Try.ntmps14
    go_wp2_with fail
    all_goals first | (exfalso; go_light; omega) | (go_ret; exact ⟨rfl, rfl⟩)
  · clear h
    go_enter Try.func14, Try.ntmps14
    go_wp2_with fail
    all_goals first | (exfalso; go_light; omega) | (go_ret; exact ⟨rfl, rfl⟩)
theorem rgo_any (o a b : Int) (w : World) (ha : Is32 a) (hB : Is32 b) : Calls Try.prog 14 #[.int .i64 o, .int .i32 a, .int .i32 b] w fun e w' => e = .returned (.bool (goes o a b)) ∧ w = w' := by
  by_cases h : 21 ≤ o ∧ o ≤ 32
  · have hc : o = 21 ∨ o = 22 ∨ o = 23 ∨ o = 24 ∨ o = 25 ∨ o = 26 ∨ o = 27 ∨ o = 28 ∨ o = 29 ∨ o = 30 ∨ o = 31 ∨ o = 32 := by omega
    rcases hc with rfl | rfl | rfl | rfl | rfl | rfl | rfl | rfl | rfl | rfl | rfl | rfl
    · exact rgo_21 a b w ha hB
    · exact rgo_22 a b w ha hB
    · exact rgo_23 a b w ha hB
    · exact rgo_24 a b w ha hB
    · exact rgo_25 a b w ha hB
    · exact rgo_26 a b w ha hB
    · exact rgo_27 a b w ha hB
    · exact rgo_28 a b w ha hB
    · exact rgo_29 a b w ha hB
    · exact rgo_30 a b w ha hB
    · exact rgo_31 a b w ha hB
    · exact rgo_32 a b w ha hB
  · exact rgo_no o a b w ha hB h
end Ints
end Go.Proofs.Ytgajddfpkchdgaa
