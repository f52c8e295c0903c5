/- The contracts of package kind. -/
import Derived.Test.YtbfcjflgomedgaaKindRef
namespace Go.Proofs.Ytbfcjflgomedgaa
namespace Kind
open Num
open Go.RowKit
set_option linter.unusedVariables false
set_option maxRecDepth 100000

theorem kgreat_any (x : Int) (w : World) : Calls Try.prog 28 #[.int .u8 x] w fun e w' => e = .returned (.bool (great x)) ∧ w = w' := by
  by_cases h1 : 65 ≤ x
  · have e : great x = decide (x ≤ 90) := by unfold great; simp [h1]
    go_enter Try.func28, Try.ntmps28
    go_wp2_with fail
    go_ret
    exact ⟨ret_bool e.symm, rfl⟩
  · have e : great x = false := by unfold great; simp; omega
    go_enter Try.func28, Try.ntmps28
    go_wp2_with fail
    go_ret
    exact ⟨rfl, rfl⟩
theorem ksmall_any (x : Int) (w : World) : Calls Try.prog 46 #[.int .u8 x] w fun e w' => e = .returned (.bool (little x)) ∧ w = w' := by
  by_cases h1 : 97 ≤ x
  · have e : little x = decide (x ≤ 122) := by unfold little; simp [h1]
    go_enter Try.func46, Try.ntmps46
    go_wp2_with fail
    go_ret
    exact ⟨ret_bool e.symm, rfl⟩
  · have e : little x = false := by unfold little; simp; omega
    go_enter Try.func46, Try.ntmps46
    go_wp2_with fail
    go_ret
    exact ⟨rfl, rfl⟩
theorem kdigit_any (x : Int) (w : World) : Calls Try.prog 47 #[.int .u8 x] w fun e w' => e = .returned (.bool (digit x)) ∧ w = w' := by
  by_cases h1 : 48 ≤ x
  · have e : digit x = decide (x ≤ 57) := by unfold digit; simp [h1]
    go_enter Try.func47, Try.ntmps47
    go_wp2_with fail
    go_ret
    exact ⟨ret_bool e.symm, rfl⟩
  · have e : digit x = false := by unfold digit; simp; omega
    go_enter Try.func47, Try.ntmps47
    go_wp2_with fail
    go_ret
    exact ⟨rfl, rfl⟩

def ladX (x : Int) : Bool := great x || (little x || digit x)
def ladB (l : List Int) : Bool := l.all ladX
theorem ladB_step (l : List Int) (k : Nat) (hk : k < l.length) : ladB (l.drop k) = (ladX (l.getD k 0) && ladB (l.drop (k + 1))) := by
  rw [drop_step hk]
  rfl
theorem okC_lad (l : List Int) : allOk okC false l = ladB l := by
  induction l with
  | nil => rfl
  | cons x r ih => show (okC false x && allOk okC false r) = (ladX x && ladB r); rw [ih]; rfl
theorem okN_lad (l : List Int) : allOk okN false l = ladB l := by
  induction l with
  | nil => rfl
  | cons x r ih =>
    show (okN false x && allOk okN false r) = (ladX x && ladB r)
    rw [ih]
    unfold okN ladX
    cases great x <;> cases little x <;> cases digit x <;> rfl
theorem okC_first {l : List Int} (h : 0 < l.length) : allOk okC true l = (great (l.getD 0 0) && ladB l) := by
  cases l with
  | nil => simp at h
  | cons x r =>
    show (okC true x && allOk okC false r) = (great x && (ladX x && ladB r))
    rw [okC_lad]
    unfold okC ladX
    cases great x <;> rfl
theorem okN_first {l : List Int} (h : 0 < l.length) : allOk okN true l = (little (l.getD 0 0) && ladB l) := by
  cases l with
  | nil => simp at h
  | cons x r =>
    show (okN true x && allOk okN false r) = (little x && (ladX x && ladB r))
    rw [okN_lad]
    unfold okN ladX
    cases little x <;> cases great x <;> rfl

set_option maxHeartbeats 1000000 in
theorem klad_any (s : ByteArray) (w : World) (hs : s.size ≤ maxLen) : Calls Try.prog 29 #[.string s] w fun e w' => e = .returned (.bool (ladB (nums s))) ∧ w = w' := by
  unfold maxLen at hs
  have hl := nums_length s
  have HL : Hid _ := hl
  clear hl
  go_enter Try.func29, Try.ntmps29
  go_wp2_with fail
  go_loop [6] (fun i => ∃ k : Nat, k ≤ s.size ∧ i = .int .i64 k ∧ ladB ((nums s).drop k) = ladB (nums s)) (fun i => s.size - (intOf i).toNat)
  case atStart => exact ⟨0, by omega, rfl, rfl⟩
  case round =>
    obtain ⟨k, hk, rfl, hd⟩ := hrel
    have HD : Hid _ := hd
    clear hd
    by_cases hlt : k < s.size
    · have hst := ladB_step (nums s) k (by rw [HL.out]; exact hlt)
      have hx := nums_getD s k hlt
      rw [HD.out] at hst
      have HS : Hid _ := hst
      clear HD hst
      obtain ⟨x, hx'⟩ : ∃ x, x = (nums s).getD k 0 := ⟨_, rfl⟩
      rw [← hx'] at HS hx
      have hx2 : ((s[k]'hlt).toNat : Int) = x := hx.symm
      clear hx hx'
      cases hg : great x
      · cases hli : little x
        · cases hdi : digit x
          · have hv : Hid (ladB (nums s) = false) := by show _ = _; rw [HS.out]; simp [ladX, hg, hli, hdi]
            clear HS
            go_wp2_with (first | (go_at_call 28; refine (kgreat_any x _).mono ?_; rintro e w' ⟨rfl, rfl⟩) | (go_at_call 46; refine (ksmall_any x _).mono ?_; rintro e w' ⟨rfl, rfl⟩) | (go_at_call 47; refine (kdigit_any x _).mono ?_; rintro e w' ⟨rfl, rfl⟩))
            go_ret
            exact ⟨ret_bool hv.out.symm, rfl⟩
          · have hv : Hid (ladB ((nums s).drop (k + 1)) = ladB (nums s)) := by show _ = _; rw [HS.out]; simp [ladX, hg, hli, hdi]
            clear HS
            go_wp2_with (first | (go_at_call 28; refine (kgreat_any x _).mono ?_; rintro e w' ⟨rfl, rfl⟩) | (go_at_call 46; refine (ksmall_any x _).mono ?_; rintro e w' ⟨rfl, rfl⟩) | (go_at_call 47; refine (kdigit_any x _).mono ?_; rintro e w' ⟨rfl, rfl⟩))
            go_round
            case rel => exact ⟨k + 1, by omega, by go_num, hv.out⟩
            case measure => simp [intOf]; omega
        · have hv : Hid (ladB ((nums s).drop (k + 1)) = ladB (nums s)) := by show _ = _; rw [HS.out]; simp [ladX, hg, hli]
          clear HS
          go_wp2_with (first | (go_at_call 28; refine (kgreat_any x _).mono ?_; rintro e w' ⟨rfl, rfl⟩) | (go_at_call 46; refine (ksmall_any x _).mono ?_; rintro e w' ⟨rfl, rfl⟩))
          go_round
          case rel => exact ⟨k + 1, by omega, by go_num, hv.out⟩
          case measure => simp [intOf]; omega
      · have hv : Hid (ladB ((nums s).drop (k + 1)) = ladB (nums s)) := by show _ = _; rw [HS.out]; simp [ladX, hg]
        clear HS
        go_wp2_with (go_at_call 28; refine (kgreat_any x _).mono ?_; rintro e w' ⟨rfl, rfl⟩)
        go_round
        case rel => exact ⟨k + 1, by omega, by go_num, hv.out⟩
        case measure => simp [intOf]; omega
    · have hv : Hid (ladB (nums s) = true) := by
        have := HD.out
        rw [List.drop_eq_nil_of_le (by rw [HL.out]; omega)] at this
        exact this.symm
      clear HD
      go_wp2_with fail
      go_ret
      exact ⟨ret_bool hv.out.symm, rfl⟩

set_option maxHeartbeats 1000000 in
theorem kclass_any (s : ByteArray) (w : World) (hs : s.size ≤ maxLen) : Calls Try.prog 13 #[.string s] w fun e w' => e = .returned (.bool (classB (nums s))) ∧ w = w' := by
  have hs0 := hs
  unfold maxLen at hs0
  have hl := nums_length s
  by_cases h2 : 2 ≤ s.size
  · by_cases h8 : s.size ≤ 8
    · have hp : 0 < s.size := by omega
      have hx := nums_getD s 0 hp
      have he : classB (nums s) = (great ((nums s).getD 0 0) && ladB (nums s)) := by
        unfold classB
        rw [hl, okC_first (by rw [hl]; exact hp)]
        simp [h2, h8]
      have HE : Hid _ := he
      clear he
      generalize (nums s).getD 0 0 = x at *
      have hx2 : ((s[0]'hp).toNat : Int) = x := hx.symm
      have HK : Hid (∀ W : World, _) := fun W => klad_any s W hs
      clear hx hl
      cases hg : great x
      · have hv : Hid (classB (nums s) = false) := by show _ = _; rw [HE.out, hg]; rfl
        clear HE
        go_enter Try.func13, Try.ntmps13
        go_wp2_with (go_at_call 28; refine (kgreat_any x _).mono ?_; rintro e w' ⟨rfl, rfl⟩)
        go_ret
        exact ⟨ret_bool hv.out.symm, rfl⟩
      · have hv : Hid (classB (nums s) = ladB (nums s)) := by show _ = _; rw [HE.out, hg]; rfl
        clear HE
        go_enter Try.func13, Try.ntmps13
        go_wp2_with (first | (go_at_call 28; refine (kgreat_any x _).mono ?_; rintro e w' ⟨rfl, rfl⟩) | (go_at_call 29; refine (HK.out _).mono ?_; rintro e w' ⟨rfl, rfl⟩))
        go_ret
        exact ⟨ret_bool hv.out.symm, rfl⟩
    · have hv : Hid (classB (nums s) = false) := by show _ = _; unfold classB; rw [hl]; simp [h8]
      clear hl
      go_enter Try.func13, Try.ntmps13
      go_wp2_with fail
      go_ret
      exact ⟨ret_bool hv.out.symm, rfl⟩
  · have hv : Hid (classB (nums s) = false) := by show _ = _; unfold classB; rw [hl]; simp [h2]
    clear hl
    go_enter Try.func13, Try.ntmps13
    go_wp2_with fail
    go_ret
    exact ⟨ret_bool hv.out.symm, rfl⟩
set_option maxHeartbeats 1000000 in
theorem kname_any (s : ByteArray) (w : World) (hs : s.size ≤ maxLen) : Calls Try.prog 48 #[.string s] w fun e w' => e = .returned (.bool (nameB (nums s))) ∧ w = w' := by
  have hs0 := hs
  unfold maxLen at hs0
  have hl := nums_length s
  have hb := beq_nums s [36, 105, 110, 105, 116] initL rfl
  cases hini : (nums s == initL)
  case true =>
    rw [hini] at hb
    clear hl
    go_enter Try.func48, Try.ntmps48
    go_wp2_with fail
    go_ret
    exact ⟨ret_bool (by unfold nameB; rw [hini]; rfl), rfl⟩
  rw [hini] at hb
  by_cases h2 : 1 ≤ s.size
  · by_cases h8 : s.size ≤ 8
    · have hp : 0 < s.size := by omega
      have hx := nums_getD s 0 hp
      have he : nameB (nums s) = (little ((nums s).getD 0 0) && ladB (nums s)) := by
        unfold nameB
        rw [hini, hl, okN_first (by rw [hl]; exact hp)]
        simp [h2, h8]
      have HE : Hid _ := he
      clear he
      generalize (nums s).getD 0 0 = x at *
      have hx2 : ((s[0]'hp).toNat : Int) = x := hx.symm
      have HK : Hid (∀ W : World, _) := fun W => klad_any s W hs
      clear hx hl hini
      cases hg : little x
      · have hv : Hid (nameB (nums s) = false) := by show _ = _; rw [HE.out, hg]; rfl
        clear HE
        go_enter Try.func48, Try.ntmps48
        go_wp2_with (go_at_call 46; refine (ksmall_any x _).mono ?_; rintro e w' ⟨rfl, rfl⟩)
        go_ret
        exact ⟨ret_bool hv.out.symm, rfl⟩
      · have hv : Hid (nameB (nums s) = ladB (nums s)) := by show _ = _; rw [HE.out, hg]; rfl
        clear HE
        go_enter Try.func48, Try.ntmps48
        go_wp2_with (first | (go_at_call 46; refine (ksmall_any x _).mono ?_; rintro e w' ⟨rfl, rfl⟩) | (go_at_call 29; refine (HK.out _).mono ?_; rintro e w' ⟨rfl, rfl⟩))
        go_ret
        exact ⟨ret_bool hv.out.symm, rfl⟩
    · have hv : Hid (nameB (nums s) = false) := by show _ = _; unfold nameB; rw [hini, hl]; simp [h8]
      clear hl hini
      go_enter Try.func48, Try.ntmps48
      go_wp2_with fail
      go_ret
      exact ⟨ret_bool hv.out.symm, rfl⟩
  · have hv : Hid (nameB (nums s) = false) := by show _ = _; unfold nameB; rw [hini, hl]; simp [h2]
    clear hl hini
    go_enter Try.func48, Try.ntmps48
    go_wp2_with fail
    go_ret
    exact ⟨ret_bool hv.out.symm, rfl⟩

/-! ### Brackets ahead -/
def hasB (l : List Int) : Bool := decide (0 < l.length) && (l.getD 0 0 == 91)
theorem nums_front (s : ByteArray) : nums (s.extract 0 1) = (nums s).take 1 := by
  unfold nums
  rw [Lib.extract_data, List.map_take]
  simp
theorem hasB_take {l : List Int} : (l.take 1 == [91]) = hasB l := by
  cases l with
  | nil => rfl
  | cons x r => simp [hasB]
theorem slhas_any (s : ByteArray) (w : World) (hs : s.size ≤ maxLen) : Calls Try.prog 96 #[.string s, .string ⟨#[91]⟩] w fun e w' => e = .returned (.bool (hasB (nums s))) ∧ w = w' := by
  have hs0 := hs
  unfold maxLen at hs0
  have hl := nums_length s
  have hb := beq_nums (s.extract 0 1) [91] [91] rfl
  rw [nums_front, hasB_take] at hb
  by_cases h1 : 1 ≤ s.size
  · clear hl
    generalize hasB (nums s) = q at *
    go_enter Try.func96, Try.ntmps96
    go_wp2_with fail
    go_ret
    exact ⟨rfl, rfl⟩
  · have hv : hasB (nums s) = false := by unfold hasB; rw [hl]; simp; omega
    rw [hv]
    clear hb hv hl
    go_enter Try.func96, Try.ntmps96
    go_wp2_with fail
    go_ret
    exact ⟨rfl, rfl⟩
theorem has_any (s : ByteArray) (w : World) (hs : s.size ≤ maxLen) : Calls Try.prog 95 #[.string s, .string ⟨#[91]⟩] w fun e w' => e = .returned (.bool (hasB (nums s))) ∧ w = w' := by
  go_enter Try.func95, Try.ntmps95
  go_wp2_with fail
  refine (slhas_any s _ hs).mono ?_
  rintro e w' ⟨rfl, rfl⟩
  go_wp2_with fail
  go_ret
  exact ⟨rfl, rfl⟩
def trimS (s : ByteArray) : ByteArray := if hasB (nums s) then s.extract 1 s.size else s
theorem trimS_size (s : ByteArray) : (trimS s).size ≤ s.size := by
  unfold trimS
  split
  · simp
  · exact Nat.le_refl _
theorem trimS_nums (s : ByteArray) : nums (trimS s) = strip 1 (nums s) := by
  unfold trimS
  by_cases h : hasB (nums s) = true
  · rw [if_pos h, nums_tail]
    unfold hasB at h
    simp only [Bool.and_eq_true, decide_eq_true_eq, beq_iff_eq] at h
    rw [show (1 : Nat) = 0 + 1 from rfl, strip_more h.1 h.2]
    rfl
  · rw [if_neg h]
    refine (strip_done ?_).symm
    unfold hasB at h
    simp only [Bool.and_eq_true, decide_eq_true_eq, beq_iff_eq, not_and] at h
    by_cases h0 : 0 < (nums s).length
    · exact .inr (.inr (h h0))
    · exact .inr (.inl (List.eq_nil_of_length_eq_zero (by omega)))
theorem sltrim_any (s : ByteArray) (w : World) (hs : s.size ≤ maxLen) : Calls Try.prog 90 #[.string s, .string ⟨#[91]⟩] w fun e w' => e = .returned (.string (trimS s)) ∧ w = w' := by
  have hs0 := hs
  unfold maxLen at hs0
  have hl := nums_length s
  unfold trimS
  cases hh : hasB (nums s)
  · rw [if_neg (by simp)]
    clear hl
    go_enter Try.func90, Try.ntmps90
    go_wp2_with fail
    refine (slhas_any s _ hs).mono ?_
    rintro e w' ⟨rfl, rfl⟩
    go_wp2_with fail
    go_ret
    exact ⟨rfl, rfl⟩
  · rw [if_pos rfl]
    have hp : 1 ≤ s.size := by
      unfold hasB at hh
      simp only [Bool.and_eq_true, decide_eq_true_eq] at hh
      omega
    clear hl
    go_enter Try.func90, Try.ntmps90
    go_wp2_with fail
    refine (slhas_any s _ hs).mono ?_
    rintro e w' ⟨rfl, rfl⟩
    go_wp2_with fail
    go_ret
    exact ⟨rfl, rfl⟩
theorem trim_any (s : ByteArray) (w : World) (hs : s.size ≤ maxLen) : Calls Try.prog 75 #[.string s, .string ⟨#[91]⟩] w fun e w' => e = .returned (.string (trimS s)) ∧ w = w' := by
  go_enter Try.func75, Try.ntmps75
  go_wp2_with fail
  refine (sltrim_any s _ hs).mono ?_
  rintro e w' ⟨rfl, rfl⟩
  go_wp2_with fail
  go_ret
  exact ⟨rfl, rfl⟩
theorem strip_two (l : List Int) : strip 1 (strip 1 l) = strip 2 l := by
  cases l with
  | nil => rfl
  | cons x r =>
    by_cases h : x = 91
    · subst h; rfl
    · have e1 : strip 1 (x :: r) = x :: r := strip_done (.inr (.inr (by simpa using h)))
      rw [e1, e1]
      exact (strip_done (.inr (.inr (by simpa using h)))).symm
theorem strip_step (j : Nat) (hj : j < 2) (r : ByteArray) : strip (2 - (j + 1)) (nums (trimS r)) = strip (2 - j) (nums r) := by
  rw [trimS_nums]
  match j, hj with
  | 0, _ => exact strip_two _
  | 1, _ => rfl

set_option maxHeartbeats 1000000 in
theorem kmay_any (s : ByteArray) (w : World) (hs : s.size ≤ maxLen) : Calls Try.prog 49 #[.string s] w fun e w' => e = .returned (.bool (mayB (nums s))) ∧ w = w' := by
  have HS0 : Hid (s.size ≤ maxLen) := hs
  unfold maxLen at hs
  go_enter Try.func49, Try.ntmps49
  go_wp2_with fail
  go_loop [3, 5] (fun t i => ∃ (j : Nat) (r : ByteArray), j ≤ 2 ∧ i = .int .i64 j ∧ t = .string r ∧ r.size ≤ s.size ∧ strip (2 - j) (nums r) = strip 2 (nums s)) (fun _ i => 2 - (intOf i).toNat)
  case atStart => exact ⟨0, s, by omega, rfl, rfl, Nat.le_refl _, rfl⟩
  case round =>
    obtain ⟨j, r, hj, rfl, rfl, hr, hd⟩ := hrel
    have hrm : r.size ≤ maxLen := Nat.le_trans hr HS0.out
    by_cases hlt : j < 2
    · have HV : Hid (strip (2 - (j + 1)) (nums (trimS r)) = strip 2 (nums s)) := by show _ = _; rw [strip_step j hlt, hd]
      have HZ : Hid ((trimS r).size ≤ s.size) := Nat.le_trans (trimS_size r) hr
      have HT : Hid (∀ W : World, _) := fun W => trim_any r W hrm
      clear hd
      go_wp2_with fail
      refine (HT.out _).mono ?_
      rintro e w' ⟨rfl, rfl⟩
      generalize trimS r = r' at *
      go_wp2_with fail
      go_round
      case rel => exact ⟨j + 1, r', by omega, by go_num, rfl, HZ.out, HV.out⟩
      case measure => simp [intOf]; omega
    · obtain rfl : j = 2 := by omega
      have HD : Hid (nums r = strip 2 (nums s)) := hd
      have hI := beq_nums r [73] [73] rfl
      have HK : Hid (∀ W : World, _) := fun W => kclass_any r W hrm
      clear hd
      cases hc : (nums r == [73])
      · rw [hc] at hI
        go_wp2_with (go_at_call 13; refine (HK.out _).mono ?_; rintro e w' ⟨rfl, rfl⟩)
        go_ret
        exact ⟨ret_bool (by unfold mayB; rw [← HD.out, hc]; rfl), rfl⟩
      · rw [hc] at hI
        go_wp2_with fail
        go_ret
        exact ⟨ret_bool (by unfold mayB; rw [← HD.out, hc]; rfl), rfl⟩

theorem kret_any (s : ByteArray) (w : World) (hs : s.size ≤ maxLen) : Calls Try.prog 51 #[.string s] w fun e w' => e = .returned (.bool (retB (nums s))) ∧ w = w' := by
  have hI := beq_nums s [86] [86] rfl
  cases hc : (nums s == [86])
  · rw [hc] at hI
    have e0 : retB (nums s) = mayB (nums s) := by unfold retB; rw [hc]; rfl
    go_enter Try.func51, Try.ntmps51
    go_wp2_with (go_at_call 49; refine (kmay_any s _ hs).mono ?_; rintro e w' ⟨rfl, rfl⟩)
    go_ret
    exact ⟨ret_bool e0.symm, rfl⟩
  · rw [hc] at hI
    have e0 : retB (nums s) = true := by unfold retB; rw [hc]; rfl
    go_enter Try.func51, Try.ntmps51
    go_wp2_with fail
    go_ret
    exact ⟨ret_bool e0.symm, rfl⟩
theorem kref_any (s : ByteArray) (w : World) (hs : s.size ≤ maxLen) : Calls Try.prog 87 #[.string s] w fun e w' => e = .returned (.bool (refB (nums s))) ∧ w = w' := by
  have hI := beq_nums s [73] [73] rfl
  cases hc : (nums s == [73])
  · rw [hc] at hI
    have e0 : refB (nums s) = mayB (nums s) := by unfold refB; rw [hc]; rfl
    go_enter Try.func87, Try.ntmps87
    go_wp2_with (go_at_call 49; refine (kmay_any s _ hs).mono ?_; rintro e w' ⟨rfl, rfl⟩)
    go_ret
    exact ⟨ret_bool e0.symm, rfl⟩
  · rw [hc] at hI
    have e0 : refB (nums s) = false := by unfold refB; rw [hc]; rfl
    go_enter Try.func87, Try.ntmps87
    go_wp2_with fail
    go_ret
    exact ⟨ret_bool e0.symm, rfl⟩
theorem elemF_eq (l : List Int) : elemF l = if (hasB l && mayB l) = true then (l.drop 1, true) else ([], false) := by
  unfold elemF
  by_cases hm : mayB l = true
  · have hp := may_pos hm
    have e : hasB l = (l.getD 0 0 == 91) := by unfold hasB; simp [hp]
    rw [hm, e]
    by_cases h : l.getD 0 0 = 91
    · rw [if_pos ⟨rfl, h⟩, if_pos (by rw [h]; rfl)]
    · rw [if_neg (fun q => h q.2), if_neg (by simpa using h)]
  · rw [if_neg (fun q => hm q.1), if_neg (by simp [hm])]
theorem kelem_any (s : ByteArray) (w : World) (hs : s.size ≤ maxLen) : Calls Try.prog 88 #[.string s] w fun e w' => e = .returned (resE (elemF (nums s))) ∧ w = w' := by
  have hs0 := hs
  unfold maxLen at hs0
  have hl := nums_length s
  rw [elemF_eq]
  cases hh : hasB (nums s)
  · rw [if_neg (by simp)]
    clear hl
    go_enter Try.func88, Try.ntmps88
    go_wp2_with (go_at_call 95; refine (has_any s _ hs).mono ?_; rintro e w' ⟨rfl, rfl⟩)
    go_ret2
    exact ⟨rfl, rfl⟩
  · cases hm : mayB (nums s)
    · rw [if_neg (by simp)]
      clear hl
      go_enter Try.func88, Try.ntmps88
      go_wp2_with (first | (go_at_call 95; refine (has_any s _ hs).mono ?_; rintro e w' ⟨rfl, rfl⟩) | (go_at_call 49; refine (kmay_any s _ hs).mono ?_; rintro e w' ⟨rfl, rfl⟩))
      go_ret2
      exact ⟨rfl, rfl⟩
    · rw [if_pos (by decide)]
      have hp := may_pos hm
      rw [hl] at hp
      clear hl
      have HT : Hid _ := tail_str s
      go_enter Try.func88, Try.ntmps88
      go_wp2_with (first | (go_at_call 95; refine (has_any s _ hs).mono ?_; rintro e w' ⟨rfl, rfl⟩) | (go_at_call 49; refine (kmay_any s _ hs).mono ?_; rintro e w' ⟨rfl, rfl⟩))
      go_ret2
      exact ⟨ret_two HT.out rfl, rfl⟩
theorem karray_any (s : ByteArray) (w : World) (hs : s.size + 1 ≤ 9223372036854775807) : Calls Try.prog 89 #[.string s] w fun e w' => e = .returned (.string (strOfNums (arrayF (nums s)))) ∧ w = w' := by
  have hb := nums_bracket s
  have hsz : ((⟨#[91]⟩ : ByteArray) ++ s).size ≤ maxLen := by rw [ByteArray.size_append]; show 1 + s.size ≤ _; unfold maxLen; omega
  have HM := fun W => kmay_any (⟨#[91]⟩ ++ s) W hsz
  rw [hb] at HM
  have HB : Hid _ := bracket_str s
  have HM' : Hid _ := HM
  clear hb HM hsz
  cases hm : mayB (91 :: nums s)
  · have e0 : arrayF (nums s) = [] := by unfold arrayF; rw [hm]; rfl
    rw [e0]
    clear e0
    go_enter Try.func89, Try.ntmps89
    go_wp2_with fail
    refine (HM'.out _).mono ?_
    rintro e w' ⟨rfl, rfl⟩
    go_wp2_with fail
    go_ret
    exact ⟨rfl, rfl⟩
  · have e0 : arrayF (nums s) = 91 :: nums s := by unfold arrayF; rw [hm]; rfl
    rw [e0]
    clear e0
    go_enter Try.func89, Try.ntmps89
    go_wp2_with fail
    refine (HM'.out _).mono ?_
    rintro e w' ⟨rfl, rfl⟩
    go_wp2_with fail
    go_ret
    exact ⟨ret_str HB.out, rfl⟩
end Kind
end Go.Proofs.Ytbfcjflgomedgaa
