/- The contracts of the document's own answers on types' texts: great, little, digit, Class, Name, May, Ret, Ref, Elem, Array. -/
import Derived.Test.YtbfcjflgomedgaaKindSpec
namespace Go.Proofs.Ytbfcjflgomedgaa
namespace Kind
open Num
open Go.RowKit
set_option linter.unusedVariables false
set_option maxRecDepth 100000

theorem ret_bool {a b : Bool} (h : a = b) : Ending.returned (.bool a) = .returned (.bool b) := by rw [h]

theorem great_any (x : Int) (w : World) : Calls Try.prog 19 #[.int .u8 x] w fun e w' => e = .returned (.bool (great x)) ∧ w = w' := by
  by_cases h1 : 65 ≤ x
  · have e : great x = decide (x ≤ 90) := by unfold great; simp [h1]
    go_enter Try.func19, Try.ntmps19
    go_wp2_with fail
    go_ret
    exact ⟨ret_bool e.symm, rfl⟩
  · have e : great x = false := by unfold great; simp; omega
    go_enter Try.func19, Try.ntmps19
    go_wp2_with fail
    go_ret
    exact ⟨rfl, rfl⟩
theorem little_any (x : Int) (w : World) : Calls Try.prog 18 #[.int .u8 x] w fun e w' => e = .returned (.bool (little x)) ∧ w = w' := by
  by_cases h1 : 97 ≤ x
  · have e : little x = decide (x ≤ 122) := by unfold little; simp [h1]
    go_enter Try.func18, Try.ntmps18
    go_wp2_with fail
    go_ret
    exact ⟨ret_bool e.symm, rfl⟩
  · have e : little x = false := by unfold little; simp; omega
    go_enter Try.func18, Try.ntmps18
    go_wp2_with fail
    go_ret
    exact ⟨rfl, rfl⟩
theorem digit_any (x : Int) (w : World) : Calls Try.prog 20 #[.int .u8 x] w fun e w' => e = .returned (.bool (digit x)) ∧ w = w' := by
  by_cases h1 : 48 ≤ x
  · have e : digit x = decide (x ≤ 57) := by unfold digit; simp [h1]
    go_enter Try.func20, Try.ntmps20
    go_wp2_with fail
    go_ret
    exact ⟨ret_bool e.symm, rfl⟩
  · have e : digit x = false := by unfold digit; simp; omega
    go_enter Try.func20, Try.ntmps20
    go_wp2_with fail
    go_ret
    exact ⟨rfl, rfl⟩

set_option maxHeartbeats 1000000 in
theorem name_any (s : ByteArray) (w : World) (hs : s.size ≤ maxLen) : Calls Try.prog 7 #[.string s] w fun e w' => e = .returned (.bool (nameB (nums s))) ∧ w = w' := by
  unfold maxLen at hs
  have hl := nums_length s
  have HL : Hid _ := hl
  clear hl
  have hb := beq_nums s [36, 105, 110, 105, 116] initL rfl
  cases hini : (nums s == initL)
  case true =>
    rw [hini] at hb
    go_enter Try.func7, Try.ntmps7
    go_wp2_with fail
    go_ret
    exact ⟨ret_bool (by unfold nameB; rw [hini]; rfl), rfl⟩
  rw [hini] at hb
  go_enter Try.func7, Try.ntmps7
  go_wp2_with fail
  go_loop [3] (fun i => ∃ k : Nat, k ≤ s.size ∧ i = .int .i64 k ∧ allOk okN (decide (k = 0)) ((nums s).drop k) = allOk okN true (nums s)) (fun i => s.size - (intOf i).toNat)
  case atStart => exact ⟨0, by omega, rfl, rfl⟩
  case round =>
    obtain ⟨k, hk, rfl, hd⟩ := hrel
    have HD : Hid _ := hd
    clear hd
    by_cases hlt : k < s.size
    · have hst := allOk_step okN (nums s) k (by rw [HL.out]; exact hlt)
      have hx := nums_getD s k hlt
      rw [HD.out] at hst
      have HS : Hid _ := hst
      clear HD hst
      obtain ⟨x, hx'⟩ : ∃ x, x = (nums s).getD k 0 := ⟨_, rfl⟩
      rw [← hx'] at HS hx
      have hx2 : ((s[k]'hlt).toNat : Int) = x := hx.symm
      clear hx hx'
      cases hg : little x
      · by_cases hk0 : k = 0
        · have hv : Hid (allOk okN true (nums s) = false)   := by show _ = _; rw [HS.out, hk0]; simp [okN, hg]
          have hkb : ((k : Int) == 0) = true := beq_iff_eq.2 (by omega)
          clear HS hk0
          go_wp2_with (go_at_call 18; refine (little_any x _).mono ?_; rintro e w' ⟨rfl, rfl⟩)
          go_ret
          exact ⟨ret_bool (by unfold nameB; rw [hini, hv.out]; rfl), rfl⟩
        · have hkb : ((k : Int) == 0) = false := beq_eq_false_iff_ne.2 (by omega)
          cases hli : great x
          · cases hdi : digit x
            · have hv : Hid (allOk okN true (nums s) = false)   := by show _ = _; rw [HS.out]; simp [okN, hg, hli, hdi]
              clear HS hk0
              go_wp2_with (first | (go_at_call 18; refine (little_any x _).mono ?_; rintro e w' ⟨rfl, rfl⟩) | (go_at_call 19; refine (great_any x _).mono ?_; rintro e w' ⟨rfl, rfl⟩) | (go_at_call 20; refine (digit_any x _).mono ?_; rintro e w' ⟨rfl, rfl⟩))
              go_ret
              exact ⟨ret_bool (by unfold nameB; rw [hini, hv.out]; rfl), rfl⟩
            · have hv : Hid (allOk okN (decide (k + 1 = 0)) ((nums s).drop (k + 1)) = allOk okN true (nums s))   := by show _ = _; rw [HS.out]; simp [okN, hg, hli, hdi, hk0]
              clear HS hk0
              go_wp2_with (first | (go_at_call 18; refine (little_any x _).mono ?_; rintro e w' ⟨rfl, rfl⟩) | (go_at_call 19; refine (great_any x _).mono ?_; rintro e w' ⟨rfl, rfl⟩) | (go_at_call 20; refine (digit_any x _).mono ?_; rintro e w' ⟨rfl, rfl⟩))
              go_round
              case rel => exact ⟨k + 1, by omega, by go_num, hv.out⟩
              case measure => simp [intOf]; omega
          · have hv : Hid (allOk okN (decide (k + 1 = 0)) ((nums s).drop (k + 1)) = allOk okN true (nums s))   := by show _ = _; rw [HS.out]; simp [okN, hg, hli, hk0]
            clear HS hk0
            go_wp2_with (first | (go_at_call 18; refine (little_any x _).mono ?_; rintro e w' ⟨rfl, rfl⟩) | (go_at_call 19; refine (great_any x _).mono ?_; rintro e w' ⟨rfl, rfl⟩))
            go_round
            case rel => exact ⟨k + 1, by omega, by go_num, hv.out⟩
            case measure => simp [intOf]; omega
      · have hv : Hid (allOk okN (decide (k + 1 = 0)) ((nums s).drop (k + 1)) = allOk okN true (nums s))   := by show _ = _; rw [HS.out]; simp [okN, hg]
        clear HS
        go_wp2_with (go_at_call 18; refine (little_any x _).mono ?_; rintro e w' ⟨rfl, rfl⟩)
        go_round
        case rel => exact ⟨k + 1, by omega, by go_num, hv.out⟩
        case measure => simp [intOf]; omega
    · have hv : Hid (allOk okN true (nums s) = true) := by
        have := HD.out
        rw [List.drop_eq_nil_of_le (by rw [HL.out]; omega)] at this
        exact this.symm
      clear HD
      by_cases h2 : 1 ≤ s.size
      · go_wp2_with fail
        go_ret
        refine ⟨ret_bool ?_, rfl⟩
        unfold nameB
        rw [hini, hv.out, HL.out]
        simp [h2]
        omega
      · go_wp2_with fail
        go_ret
        refine ⟨ret_bool ?_, rfl⟩
        unfold nameB
        rw [hini, hv.out, HL.out]
        simp [h2]

def resE (r : List Int × Bool) : Value := .tuple #[.string (strOfNums r.1), .bool r.2]
theorem tail_str (s : ByteArray) : s.extract 1 s.size = strOfNums ((nums s).drop 1) := by rw [← nums_tail, str_nums]
theorem bracket_str (s : ByteArray) : (⟨#[91]⟩ : ByteArray) ++ s = strOfNums (91 :: nums s) := by rw [← nums_bracket, str_nums]
theorem ret_two {a : ByteArray} {b : List Int} {c d : Bool} (h : a = strOfNums b) (h2 : c = d) : Ending.returned (.tuple #[.string a, .bool c]) = .returned (resE (b, d)) := by rw [h, h2]; rfl
theorem ret_str {a : ByteArray} {b : List Int} (h : a = strOfNums b) : Ending.returned (.string a) = .returned (.string (strOfNums b)) := by rw [h]
end Kind
end Go.Proofs.Ytbfcjflgomedgaa
