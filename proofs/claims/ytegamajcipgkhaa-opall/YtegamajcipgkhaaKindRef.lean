/- The contracts of the document's own answers on types' texts: great, little, digit, Class, Name, May, Ret, Ref, Elem, Array. -/
import Derived.Test.YtegamajcipgkhaaKindSpec
namespace Go.Proofs.Ytegamajcipgkhaa
namespace Kind
open Num
open Go.RowKit
set_option linter.unusedVariables false

theorem ret_bool {a b : Bool} (h : a = b) : Ending.returned (.bool a) = .returned (.bool b) := by rw [h]

theorem great_any (x : Int) (w : World) : Calls Try.prog 41 #[.int .u8 x] w fun e w' => e = .returned (.bool (great x)) ∧ w = w' := by
  by_cases h1 : 65 ≤ x
  · have e : great x = decide (x ≤ 90) := by unfold great; simp [h1]
    go_enter Try.func41, Try.ntmps41
    go_wp2_with fail
    go_ret
    exact ⟨ret_bool e.symm, rfl⟩
  · have e : great x = false := by unfold great; simp; omega
    go_enter Try.func41, Try.ntmps41
    go_wp2_with fail
    go_ret
    exact ⟨rfl, rfl⟩
theorem little_any (x : Int) (w : World) : Calls Try.prog 42 #[.int .u8 x] w fun e w' => e = .returned (.bool (little x)) ∧ w = w' := by
  by_cases h1 : 97 ≤ x
  · have e : little x = decide (x ≤ 122) := by unfold little; simp [h1]
    go_enter Try.func42, Try.ntmps42
    go_wp2_with fail
    go_ret
    exact ⟨ret_bool e.symm, rfl⟩
  · have e : little x = false := by unfold little; simp; omega
    go_enter Try.func42, Try.ntmps42
    go_wp2_with fail
    go_ret
    exact ⟨rfl, rfl⟩
theorem digit_any (x : Int) (w : World) : Calls Try.prog 43 #[.int .u8 x] w fun e w' => e = .returned (.bool (digit x)) ∧ w = w' := by
  by_cases h1 : 48 ≤ x
  · have e : digit x = decide (x ≤ 57) := by unfold digit; simp [h1]
    go_enter Try.func43, Try.ntmps43
    go_wp2_with fail
    go_ret
    exact ⟨ret_bool e.symm, rfl⟩
  · have e : digit x = false := by unfold digit; simp; omega
    go_enter Try.func43, Try.ntmps43
    go_wp2_with fail
    go_ret
    exact ⟨rfl, rfl⟩

set_option maxHeartbeats 1000000 in
theorem class_any (s : ByteArray) (w : World) (hs : s.size ≤ maxLen) : Calls Try.prog 23 #[.string s] w fun e w' => e = .returned (.bool (classB (nums s))) ∧ w = w' := by
  unfold maxLen at hs
  have hl := nums_length s
  have HL : Hid _ := hl
  clear hl
  go_enter Try.func23, Try.ntmps23
  go_wp2_with fail
  go_loop [3] (fun i => ∃ k : Nat, k ≤ s.size ∧ i = .int .i64 k ∧ allOk okC (decide (k = 0)) ((nums s).drop k) = allOk okC true (nums s)) (fun i => s.size - (intOf i).toNat)
  case atStart => exact ⟨0, by omega, rfl, rfl⟩
  case round =>
    obtain ⟨k, hk, rfl, hd⟩ := hrel
    have HD : Hid _ := hd
    clear hd
    by_cases hlt : k < s.size
    · have hst := allOk_step okC (nums s) k (by rw [HL.out]; exact hlt)
      have hx := nums_getD s k hlt
      rw [HD.out] at hst
      have HS : Hid _ := hst
      clear HD hst
      obtain ⟨x, hx'⟩ : ∃ x, x = (nums s).getD k 0 := ⟨_, rfl⟩
      rw [← hx'] at HS hx
      have hx2 : ((s[k]'hlt).toNat : Int) = x := hx.symm
      clear hx hx'
      cases hg : great x
      · by_cases hk0 : k = 0
        · have hv : Hid (allOk okC true (nums s) = false)   := by show _ = _; rw [HS.out, hk0]; simp [okC, hg]
          have hkb : ((k : Int) == 0) = true := beq_iff_eq.2 (by omega)
          clear HS hk0
          go_wp2_with (go_at_call 41; refine (great_any x _).mono ?_; rintro e w' ⟨rfl, rfl⟩)
          go_ret
          exact ⟨ret_bool (by unfold classB; rw [hv.out]; rfl), rfl⟩
        · have hkb : ((k : Int) == 0) = false := beq_eq_false_iff_ne.2 (by omega)
          cases hli : little x
          · cases hdi : digit x
            · have hv : Hid (allOk okC true (nums s) = false)   := by show _ = _; rw [HS.out]; simp [okC, hg, hli, hdi]
              clear HS hk0
              go_wp2_with (first | (go_at_call 41; refine (great_any x _).mono ?_; rintro e w' ⟨rfl, rfl⟩) | (go_at_call 42; refine (little_any x _).mono ?_; rintro e w' ⟨rfl, rfl⟩) | (go_at_call 43; refine (digit_any x _).mono ?_; rintro e w' ⟨rfl, rfl⟩))
              go_ret
              exact ⟨ret_bool (by unfold classB; rw [hv.out]; rfl), rfl⟩
            · have hv : Hid (allOk okC (decide (k + 1 = 0)) ((nums s).drop (k + 1)) = allOk okC true (nums s))   := by show _ = _; rw [HS.out]; simp [okC, hg, hli, hdi, hk0]
              clear HS hk0
              go_wp2_with (first | (go_at_call 41; refine (great_any x _).mono ?_; rintro e w' ⟨rfl, rfl⟩) | (go_at_call 42; refine (little_any x _).mono ?_; rintro e w' ⟨rfl, rfl⟩) | (go_at_call 43; refine (digit_any x _).mono ?_; rintro e w' ⟨rfl, rfl⟩))
              go_round
              case rel => exact ⟨k + 1, by omega, by go_num, hv.out⟩
              case measure => simp [intOf]; omega
          · have hv : Hid (allOk okC (decide (k + 1 = 0)) ((nums s).drop (k + 1)) = allOk okC true (nums s))   := by show _ = _; rw [HS.out]; simp [okC, hg, hli, hk0]
            clear HS hk0
            go_wp2_with (first | (go_at_call 41; refine (great_any x _).mono ?_; rintro e w' ⟨rfl, rfl⟩) | (go_at_call 42; refine (little_any x _).mono ?_; rintro e w' ⟨rfl, rfl⟩))
            go_round
            case rel => exact ⟨k + 1, by omega, by go_num, hv.out⟩
            case measure => simp [intOf]; omega
      · have hv : Hid (allOk okC (decide (k + 1 = 0)) ((nums s).drop (k + 1)) = allOk okC true (nums s))   := by show _ = _; rw [HS.out]; simp [okC, hg]
        clear HS
        go_wp2_with (go_at_call 41; refine (great_any x _).mono ?_; rintro e w' ⟨rfl, rfl⟩)
        go_round
        case rel => exact ⟨k + 1, by omega, by go_num, hv.out⟩
        case measure => simp [intOf]; omega
    · have hv : Hid (allOk okC true (nums s) = true) := by
        have := HD.out
        rw [List.drop_eq_nil_of_le (by rw [HL.out]; omega)] at this
        exact this.symm
      clear HD
      by_cases h2 : 2 ≤ s.size
      · go_wp2_with fail
        go_ret
        refine ⟨ret_bool ?_, rfl⟩
        unfold classB
        rw [hv.out, HL.out]
        simp [h2]
        omega
      · go_wp2_with fail
        go_ret
        refine ⟨ret_bool ?_, rfl⟩
        unfold classB
        rw [hv.out, HL.out]
        simp [h2]
set_option maxHeartbeats 1000000 in
theorem name_any (s : ByteArray) (w : World) (hs : s.size ≤ maxLen) : Calls Try.prog 25 #[.string s] w fun e w' => e = .returned (.bool (nameB (nums s))) ∧ w = w' := by
  unfold maxLen at hs
  have hl := nums_length s
  have HL : Hid _ := hl
  clear hl
  have hb := beq_nums s [36, 105, 110, 105, 116] initL rfl
  cases hini : (nums s == initL)
  case true =>
    rw [hini] at hb
    go_enter Try.func25, Try.ntmps25
    go_wp2_with fail
    go_ret
    exact ⟨ret_bool (by unfold nameB; rw [hini]; rfl), rfl⟩
  rw [hini] at hb
  go_enter Try.func25, Try.ntmps25
  go_wp2_with fail
  go_loop [3] (fun i => ∃ k : Nat, k ≤ s.size ∧ i = .int .i64 k ∧ allOk okN (decide (k = 0)) ((nums s).drop k) = allOk okN true (nums s)) (fun i => s.size - (intOf i).toNat)
  case atStart => exact ⟨0, by omega, rfl, rfl⟩
  case round =>
    obtain ⟨k, hk, rfl, hd⟩ := hrel
    have HD : Hid _ := hd
    clear hd
    by_cases hlt : k < s.size
    · have hst := allOk_step okN (nums s) k (by rw [HL.out]; exact hlt)
      have hx := nums_getD s k hlt
      rw [HD.out] at hst
      have HS : Hid _ := hst
      clear HD hst
      obtain ⟨x, hx'⟩ : ∃ x, x = (nums s).getD k 0 := ⟨_, rfl⟩
      rw [← hx'] at HS hx
      have hx2 : ((s[k]'hlt).toNat : Int) = x := hx.symm
      clear hx hx'
      cases hg : little x
      · by_cases hk0 : k = 0
        · have hv : Hid (allOk okN true (nums s) = false)   := by show _ = _; rw [HS.out, hk0]; simp [okN, hg]
          have hkb : ((k : Int) == 0) = true := beq_iff_eq.2 (by omega)
          clear HS hk0
          go_wp2_with (go_at_call 42; refine (little_any x _).mono ?_; rintro e w' ⟨rfl, rfl⟩)
          go_ret
          exact ⟨ret_bool (by unfold nameB; rw [hini, hv.out]; rfl), rfl⟩
        · have hkb : ((k : Int) == 0) = false := beq_eq_false_iff_ne.2 (by omega)
          cases hli : great x
          · cases hdi : digit x
            · have hv : Hid (allOk okN true (nums s) = false)   := by show _ = _; rw [HS.out]; simp [okN, hg, hli, hdi]
              clear HS hk0
              go_wp2_with (first | (go_at_call 42; refine (little_any x _).mono ?_; rintro e w' ⟨rfl, rfl⟩) | (go_at_call 41; refine (great_any x _).mono ?_; rintro e w' ⟨rfl, rfl⟩) | (go_at_call 43; refine (digit_any x _).mono ?_; rintro e w' ⟨rfl, rfl⟩))
              go_ret
              exact ⟨ret_bool (by unfold nameB; rw [hini, hv.out]; rfl), rfl⟩
            · have hv : Hid (allOk okN (decide (k + 1 = 0)) ((nums s).drop (k + 1)) = allOk okN true (nums s))   := by show _ = _; rw [HS.out]; simp [okN, hg, hli, hdi, hk0]
              clear HS hk0
              go_wp2_with (first | (go_at_call 42; refine (little_any x _).mono ?_; rintro e w' ⟨rfl, rfl⟩) | (go_at_call 41; refine (great_any x _).mono ?_; rintro e w' ⟨rfl, rfl⟩) | (go_at_call 43; refine (digit_any x _).mono ?_; rintro e w' ⟨rfl, rfl⟩))
              go_round
              case rel => exact ⟨k + 1, by omega, by go_num, hv.out⟩
              case measure => simp [intOf]; omega
          · have hv : Hid (allOk okN (decide (k + 1 = 0)) ((nums s).drop (k + 1)) = allOk okN true (nums s))   := by show _ = _; rw [HS.out]; simp [okN, hg, hli, hk0]
            clear HS hk0
            go_wp2_with (first | (go_at_call 42; refine (little_any x _).mono ?_; rintro e w' ⟨rfl, rfl⟩) | (go_at_call 41; refine (great_any x _).mono ?_; rintro e w' ⟨rfl, rfl⟩))
            go_round
            case rel => exact ⟨k + 1, by omega, by go_num, hv.out⟩
            case measure => simp [intOf]; omega
      · have hv : Hid (allOk okN (decide (k + 1 = 0)) ((nums s).drop (k + 1)) = allOk okN true (nums s))   := by show _ = _; rw [HS.out]; simp [okN, hg]
        clear HS
        go_wp2_with (go_at_call 42; refine (little_any x _).mono ?_; rintro e w' ⟨rfl, rfl⟩)
        go_round
        case rel => exact ⟨k + 1, by omega, by go_num, hv.out⟩
        case measure => simp [intOf]; omega
    · have hv : Hid (allOk okN true (nums s) = true) := by
        have := HD.out
        rw [List.drop_eq_nil_of_le (by rw [HL.out]; omega)] at this
        exact this.symm
      clear HD
      by_cases h2 : 1 ≤ s.size
      · go_wp2_with fail
        go_ret
        refine ⟨ret_bool ?_, rfl⟩
        unfold nameB
        rw [hini, hv.out, HL.out]
        simp [h2]
        omega
      · go_wp2_with fail
        go_ret
        refine ⟨ret_bool ?_, rfl⟩
        unfold nameB
        rw [hini, hv.out, HL.out]
        simp [h2]

set_option maxHeartbeats 1000000 in
theorem may_any (s : ByteArray) (w : World) (hs : s.size ≤ maxLen) : Calls Try.prog 44 #[.string s] w fun e w' => e = .returned (.bool (mayB (nums s))) ∧ w = w' := by
  have hs0 := hs
  unfold maxLen at hs
  go_enter Try.func44, Try.ntmps44
  go_wp2_with fail
  go_loop [0, 3] (fun t i => ∃ (j : Nat) (r : ByteArray), j ≤ 2 ∧ i = .int .i64 j ∧ t = .string r ∧ r.size ≤ s.size ∧ strip (2 - j) (nums r) = strip 2 (nums s)) (fun _ i => 2 - (intOf i).toNat)
  case atStart => exact ⟨0, s, by omega, rfl, rfl, Nat.le_refl _, rfl⟩
  case round =>
    obtain ⟨j, r, hj, rfl, rfl, hr, hd⟩ := hrel
    have HD : Hid _ := hd
    clear hd
    have hrl := nums_length r
    have HL : Hid _ := hrl
    clear hrl
    by_cases hmore : j < 2 ∧ 0 < r.size ∧ (nums r).getD 0 0 = 91
    · obtain ⟨h1, h2, h3⟩ := hmore
      have hx := nums_getD r 0 h2
      rw [h3] at hx
      have hx2 : ((r[0]'h2).toNat : Int) = 91 := hx.symm
      have HV : Hid (strip (2 - (j + 1)) (nums (r.extract 1 r.size)) = strip 2 (nums s)) := by
        show _ = _
        rw [nums_tail, ← HD.out, show 2 - j = (2 - (j + 1)) + 1 by omega, strip_more (by rw [HL.out]; exact h2) h3]
      have hsz : (r.extract 1 r.size).size ≤ s.size := by simp; omega
      have HZ : Hid _ := hsz
      clear hx h3 HD hsz
      go_wp2_with fail
      go_round
      case rel => exact ⟨j + 1, r.extract 1 r.size, by omega, by go_num, rfl, HZ.out, HV.out⟩
      case measure => simp [intOf]; omega
    · have HV : Hid (nums r = strip 2 (nums s)) := by
        show _ = _
        rw [← HD.out, strip_done]
        by_cases h1 : 2 - j = 0
        · exact .inl h1
        · by_cases h2 : r.size = 0
          · exact .inr (.inl (List.eq_nil_of_length_eq_zero (by rw [HL.out]; exact h2)))
          · exact .inr (.inr (fun h3 => hmore ⟨by omega, by omega, h3⟩))
      have hI := beq_nums r [73] [73] rfl
      clear HD
      have hfin : ∀ (W : World), Calls Try.prog 23 #[.string r] W fun e w' => e = .returned (.bool (classB (nums r))) ∧ W = w' := fun W => class_any r W (Nat.le_trans hr hs0)
      have HF : Hid _ := hfin
      clear hfin
      by_cases h1 : j < 2
      · by_cases h2 : 0 < r.size
        · have h3 : ¬ (nums r).getD 0 0 = 91 := fun h => hmore ⟨h1, h2, h⟩
          have hx := nums_getD r 0 h2
          have hx2 : ((((r[0]'h2).toNat : Int)) == 91) = false := beq_eq_false_iff_ne.2 (by rw [← hx]; exact h3)
          clear hmore hx h3
          cases hc : (nums r == [73])
          · rw [hc] at hI
            go_wp2_with fail
            refine (HF.out _).mono ?_
            rintro e w' ⟨rfl, rfl⟩
            go_wp2_with fail
            go_ret
            exact ⟨ret_bool (by unfold mayB; rw [← HV.out, hc]; rfl), rfl⟩
          · rw [hc] at hI
            go_wp2_with fail
            go_ret
            exact ⟨ret_bool (by unfold mayB; rw [← HV.out, hc]; rfl), rfl⟩
        · clear hmore
          cases hc : (nums r == [73])
          · rw [hc] at hI
            go_wp2_with fail
            refine (HF.out _).mono ?_
            rintro e w' ⟨rfl, rfl⟩
            go_wp2_with fail
            go_ret
            exact ⟨ret_bool (by unfold mayB; rw [← HV.out, hc]; rfl), rfl⟩
          · rw [hc] at hI
            go_wp2_with fail
            go_ret
            exact ⟨ret_bool (by unfold mayB; rw [← HV.out, hc]; rfl), rfl⟩
      · clear hmore
        cases hc : (nums r == [73])
        · rw [hc] at hI
          go_wp2_with fail
          refine (HF.out _).mono ?_
          rintro e w' ⟨rfl, rfl⟩
          go_wp2_with fail
          go_ret
          exact ⟨ret_bool (by unfold mayB; rw [← HV.out, hc]; rfl), rfl⟩
        · rw [hc] at hI
          go_wp2_with fail
          go_ret
          exact ⟨ret_bool (by unfold mayB; rw [← HV.out, hc]; rfl), rfl⟩

theorem ref_any (s : ByteArray) (w : World) (hs : s.size ≤ maxLen) : Calls Try.prog 24 #[.string s] w fun e w' => e = .returned (.bool (refB (nums s))) ∧ w = w' := by
  have hI := beq_nums s [73] [73] rfl
  cases hc : (nums s == [73])
  · rw [hc] at hI
    have e0 : refB (nums s) = mayB (nums s) := by unfold refB; rw [hc]; rfl
    go_enter Try.func24, Try.ntmps24
    go_wp2_with fail
    refine (may_any s _ hs).mono ?_
    rintro e w' ⟨rfl, rfl⟩
    go_wp2_with fail
    go_ret
    exact ⟨ret_bool e0.symm, rfl⟩
  · rw [hc] at hI
    have e0 : refB (nums s) = false := by unfold refB; rw [hc]; rfl
    go_enter Try.func24, Try.ntmps24
    go_wp2_with fail
    go_ret
    exact ⟨ret_bool e0.symm, rfl⟩

def resE (r : List Int × Bool) : Value := .tuple #[.string (strOfNums r.1), .bool r.2]
theorem tail_str (s : ByteArray) : s.extract 1 s.size = strOfNums ((nums s).drop 1) := by rw [← nums_tail, str_nums]
theorem bracket_str (s : ByteArray) : (⟨#[91]⟩ : ByteArray) ++ s = strOfNums (91 :: nums s) := by rw [← nums_bracket, str_nums]
theorem ret_two {a : ByteArray} {b : List Int} {c d : Bool} (h : a = strOfNums b) (h2 : c = d) : Ending.returned (.tuple #[.string a, .bool c]) = .returned (resE (b, d)) := by rw [h, h2]; rfl
theorem ret_str {a : ByteArray} {b : List Int} (h : a = strOfNums b) : Ending.returned (.string a) = .returned (.string (strOfNums b)) := by rw [h]
end Kind
end Go.Proofs.Ytegamajcipgkhaa
