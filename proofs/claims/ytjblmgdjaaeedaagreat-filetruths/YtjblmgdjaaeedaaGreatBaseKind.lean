/- Contracts and laws, texts of mine put into one. -/
import Derived.Test.YtjblmgdjaaeedaaGreatLibHas
import Derived.Lib.Strings
import Derived.Test.YtjblmgdjaaeedaaGreatLibCut
/- What the document says of types' texts, over a text's bytes as numbers (no program in it). -/
namespace Go.Proofs.YtjblmgdjaaeedaaGreat
namespace Kind
open Num
set_option linter.unusedVariables false
set_option maxRecDepth 100000

def great (x : Int) : Bool := decide (65 ≤ x) && decide (x ≤ 90)
def little (x : Int) : Bool := decide (97 ≤ x) && decide (x ≤ 122)
def digit (x : Int) : Bool := decide (48 ≤ x) && decide (x ≤ 57)
def okC (f : Bool) (x : Int) : Bool := great x || (!f && (little x || digit x))
def okN (f : Bool) (x : Int) : Bool := little x || (!f && (great x || digit x))
def allOk (p : Bool → Int → Bool) : Bool → List Int → Bool
  | _, [] => true
  | f, x :: r => p f x && allOk p false r
def classB (l : List Int) : Bool := allOk okC true l && (decide (2 ≤ l.length) && decide (l.length ≤ 8))
def initL : List Int := [36, 105, 110, 105, 116]
def nameB (l : List Int) : Bool := (l == initL) || (allOk okN true l && (decide (1 ≤ l.length) && decide (l.length ≤ 8)))
def strip : Nat → List Int → List Int
  | 0, l => l
  | _ + 1, [] => []
  | n + 1, x :: r => if x = 91 then strip n r else x :: r
def mayB (l : List Int) : Bool := (strip 2 l == [73]) || classB (strip 2 l)
def retB (l : List Int) : Bool := (l == [86]) || mayB l
def refB (l : List Int) : Bool := !(l == [73]) && mayB l
def elemF (l : List Int) : List Int × Bool := if mayB l = true ∧ l.getD 0 0 = 91 then (l.drop 1, true) else ([], false)
def arrayF (l : List Int) : List Int := if mayB (91 :: l) then 91 :: l else []

theorem nums_inj {s t : ByteArray} (h : nums s = nums t) : s = t := by rw [← str_nums s, ← str_nums t, h]
theorem map_toNat_inj : ∀ (a b : List UInt8), (a.map fun x => (x.toNat : Int)) = (b.map fun x => (x.toNat : Int)) → a = b
  | [], [], _ => rfl
  | [], y :: b, h => by simp at h
  | x :: a, [], h => by simp at h
  | x :: a, y :: b, h => by
    simp only [List.map_cons, List.cons.injEq] at h
    have e : x = y := UInt8.toNat_inj.1 (by omega)
    rw [map_toNat_inj a b h.2, e]
theorem beq_nums (s : ByteArray) (l : List UInt8) (m : List Int) (hm : (l.map fun x => (x.toNat : Int)) = m) : (s.toList == l) = (nums s == m) := by
  subst hm
  rw [Lib.toList_data]
  unfold nums
  by_cases h : s.data.toList = l
  · rw [h]; simp
  · rw [beq_eq_false_iff_ne.2 h, beq_eq_false_iff_ne.2 (fun e => h (map_toNat_inj _ _ e))]
theorem nums_getD (s : ByteArray) (k : Nat) (h : k < s.size) : (nums s).getD k 0 = ((s[k]'h).toNat : Int) := by
  have hl : k < s.data.toList.length := by rw [Array.length_toList]; exact h
  simp only [nums, List.getD, List.getElem?_map, List.getElem?_eq_getElem hl, Option.map_some, Option.getD_some]
  rfl
theorem nums_tail (s : ByteArray) : nums (s.extract 1 s.size) = (nums s).drop 1 := by
  unfold nums
  rw [Lib.extract_data, ← List.map_drop, List.take_of_length_le]
  rw [List.length_drop, ← Lib.size_eq]
  omega
theorem nums_bracket (s : ByteArray) : nums (⟨#[91]⟩ ++ s) = 91 :: nums s := by
  unfold nums
  rw [ByteArray.data_append]
  simp

theorem allOk_step (p : Bool → Int → Bool) (l : List Int) (k : Nat) (hk : k < l.length) : allOk p (decide (k = 0)) (l.drop k) = (p (decide (k = 0)) (l.getD k 0) && allOk p (decide (k + 1 = 0)) (l.drop (k + 1))) := by
  rw [drop_step hk]
  rfl
theorem strip_done {n : Nat} {l : List Int} (h : n = 0 ∨ l = [] ∨ l.getD 0 0 ≠ 91) : strip n l = l := by
  cases n with
  | zero => rfl
  | succ n =>
    cases l with
    | nil => rfl
    | cons x r =>
      have hx : x ≠ 91 := by
        rcases h with h | h | h
        · omega
        · cases h
        · simpa using h
      unfold strip
      rw [if_neg hx]
theorem strip_more {n : Nat} {l : List Int} (h : 0 < l.length) (h0 : l.getD 0 0 = 91) : strip (n + 1) l = strip n (l.drop 1) := by
  cases l with
  | nil => simp at h
  | cons x r =>
    have hx : x = 91 := by simpa using h0
    rw [hx]
    rfl
theorem may_pos {l : List Int} (h : mayB l = true) : 0 < l.length := by
  cases l with
  | nil => exact absurd h (by decide)
  | cons x r => simp
/-- No array of arrays of arrays. -/
theorem may_three (l : List Int) : mayB (91 :: 91 :: 91 :: l) = false := by
  have e : strip 2 (91 :: 91 :: 91 :: l) = 91 :: l := rfl
  unfold mayB
  rw [e]
  unfold classB
  have h : allOk okC true (91 :: l) = false := by
    show (okC true 91 && allOk okC false l) = false
    rw [show okC true 91 = false by decide]
    rfl
  rw [h]
  simp
end Kind
end Go.Proofs.YtjblmgdjaaeedaaGreat

/- The contracts of the document's own answers on types' texts: great, little, digit, Class, Name, May, Ret, Ref, Elem, Array. -/
namespace Go.Proofs.YtjblmgdjaaeedaaGreat
namespace Kind
open Num
open Go.RowKit
set_option linter.unusedVariables false
set_option maxRecDepth 100000

theorem ret_bool {a b : Bool} (h : a = b) : Ending.returned (.bool a) = .returned (.bool b) := by rw [h]

theorem great_any (x : Int) (w : World) : Calls Tryz.prog 58 #[.int .u8 x] w fun e w' => e = .returned (.bool (great x)) ∧ w = w' := by
  by_cases h1 : 65 ≤ x
  · have e : great x = decide (x ≤ 90) := by unfold great; simp [h1]
    go_enter Tryz.func58, Tryz.ntmps58
    go_wp2_with fail
    go_ret
    exact ⟨ret_bool e.symm, rfl⟩
  · have e : great x = false := by unfold great; simp; omega
    go_enter Tryz.func58, Tryz.ntmps58
    go_wp2_with fail
    go_ret
    exact ⟨rfl, rfl⟩
theorem little_any (x : Int) (w : World) : Calls Tryz.prog 59 #[.int .u8 x] w fun e w' => e = .returned (.bool (little x)) ∧ w = w' := by
  by_cases h1 : 97 ≤ x
  · have e : little x = decide (x ≤ 122) := by unfold little; simp [h1]
    go_enter Tryz.func59, Tryz.ntmps59
    go_wp2_with fail
    go_ret
    exact ⟨ret_bool e.symm, rfl⟩
  · have e : little x = false := by unfold little; simp; omega
    go_enter Tryz.func59, Tryz.ntmps59
    go_wp2_with fail
    go_ret
    exact ⟨rfl, rfl⟩
theorem digit_any (x : Int) (w : World) : Calls Tryz.prog 60 #[.int .u8 x] w fun e w' => e = .returned (.bool (digit x)) ∧ w = w' := by
  by_cases h1 : 48 ≤ x
  · have e : digit x = decide (x ≤ 57) := by unfold digit; simp [h1]
    go_enter Tryz.func60, Tryz.ntmps60
    go_wp2_with fail
    go_ret
    exact ⟨ret_bool e.symm, rfl⟩
  · have e : digit x = false := by unfold digit; simp; omega
    go_enter Tryz.func60, Tryz.ntmps60
    go_wp2_with fail
    go_ret
    exact ⟨rfl, rfl⟩

set_option maxHeartbeats 1000000 in
theorem class_any (s : ByteArray) (w : World) (hs : s.size ≤ maxLen) : Calls Tryz.prog 25 #[.string s] w fun e w' => e = .returned (.bool (classB (nums s))) ∧ w = w' := by
  unfold maxLen at hs
  have hl := nums_length s
  have HL : Hid _ := hl
  clear hl
  go_enter Tryz.func25, Tryz.ntmps25
  go_wp2_with fail
  go_loop [3] (fun i => ∃ k : Nat, k ≤ s.size ∧ i = .int .i64 k ∧ allOk okC (decide (k = 0)) ((nums s).drop k) = allOk okC true (nums s)) (fun i => s.size - (intOf i).toNat)
  case atStart => exact ⟨0, by omega, rfl, rfl⟩
  case round =>
    obtain ⟨k, hk, rfl, hd⟩ := hrel
    have HD : Hid _ := hd
    clear hd
    by_cases hlt : k < s.size
    · have hst := allOk_step okC (nums s) k (by rw [HL.out]; exact hlt)
      have hx := nums_getD s k hlt
      rw [HD.out] at hst
      have HS : Hid _ := hst
      clear HD hst
      obtain ⟨x, hx'⟩ : ∃ x, x = (nums s).getD k 0 := ⟨_, rfl⟩
      rw [← hx'] at HS hx
      have hx2 : ((s[k]'hlt).toNat : Int) = x := hx.symm
      clear hx hx'
      cases hg : great x
      · by_cases hk0 : k = 0
        · have hv : Hid (allOk okC true (nums s) = false)   := by show _ = _; rw [HS.out, hk0]; simp [okC, hg]
          have hkb : ((k : Int) == 0) = true := beq_iff_eq.2 (by omega)
          clear HS hk0
          go_wp2_with (go_at_call 58; refine (great_any x _).mono ?_; rintro e w' ⟨rfl, rfl⟩)
          go_ret
          exact ⟨ret_bool (by unfold classB; rw [hv.out]; rfl), rfl⟩
        · have hkb : ((k : Int) == 0) = false := beq_eq_false_iff_ne.2 (by omega)
          cases hli : little x
          · cases hdi : digit x
            · have hv : Hid (allOk okC true (nums s) = false)   := by show _ = _; rw [HS.out]; simp [okC, hg, hli, hdi]
              clear HS hk0
              go_wp2_with (first | (go_at_call 58; refine (great_any x _).mono ?_; rintro e w' ⟨rfl, rfl⟩) | (go_at_call 59; refine (little_any x _).mono ?_; rintro e w' ⟨rfl, rfl⟩) | (go_at_call 60; refine (digit_any x _).mono ?_; rintro e w' ⟨rfl, rfl⟩))
              go_ret
              exact ⟨ret_bool (by unfold classB; rw [hv.out]; rfl), rfl⟩
            · have hv : Hid (allOk okC (decide (k + 1 = 0)) ((nums s).drop (k + 1)) = allOk okC true (nums s))   := by show _ = _; rw [HS.out]; simp [okC, hg, hli, hdi, hk0]
              clear HS hk0
              go_wp2_with (first | (go_at_call 58; refine (great_any x _).mono ?_; rintro e w' ⟨rfl, rfl⟩) | (go_at_call 59; refine (little_any x _).mono ?_; rintro e w' ⟨rfl, rfl⟩) | (go_at_call 60; refine (digit_any x _).mono ?_; rintro e w' ⟨rfl, rfl⟩))
              go_round
              case rel => exact ⟨k + 1, by omega, by go_num, hv.out⟩
              case measure => simp [intOf]; omega
          · have hv : Hid (allOk okC (decide (k + 1 = 0)) ((nums s).drop (k + 1)) = allOk okC true (nums s))   := by show _ = _; rw [HS.out]; simp [okC, hg, hli, hk0]
            clear HS hk0
            go_wp2_with (first | (go_at_call 58; refine (great_any x _).mono ?_; rintro e w' ⟨rfl, rfl⟩) | (go_at_call 59; refine (little_any x _).mono ?_; rintro e w' ⟨rfl, rfl⟩))
            go_round
            case rel => exact ⟨k + 1, by omega, by go_num, hv.out⟩
            case measure => simp [intOf]; omega
      · have hv : Hid (allOk okC (decide (k + 1 = 0)) ((nums s).drop (k + 1)) = allOk okC true (nums s))   := by show _ = _; rw [HS.out]; simp [okC, hg]
        clear HS
        go_wp2_with (go_at_call 58; refine (great_any x _).mono ?_; rintro e w' ⟨rfl, rfl⟩)
        go_round
        case rel => exact ⟨k + 1, by omega, by go_num, hv.out⟩
        case measure => simp [intOf]; omega
    · have hv : Hid (allOk okC true (nums s) = true) := by
        have := HD.out
        rw [List.drop_eq_nil_of_le (by rw [HL.out]; omega)] at this
        exact this.symm
      clear HD
      by_cases h2 : 2 ≤ s.size
      · go_wp2_with fail
        go_ret
        refine ⟨ret_bool ?_, rfl⟩
        unfold classB
        rw [hv.out, HL.out]
        simp [h2]
        omega
      · go_wp2_with fail
        go_ret
        refine ⟨ret_bool ?_, rfl⟩
        unfold classB
        rw [hv.out, HL.out]
        simp [h2]
set_option maxHeartbeats 1000000 in
theorem name_any (s : ByteArray) (w : World) (hs : s.size ≤ maxLen) : Calls Tryz.prog 26 #[.string s] w fun e w' => e = .returned (.bool (nameB (nums s))) ∧ w = w' := by
  unfold maxLen at hs
  have hl := nums_length s
  have HL : Hid _ := hl
  clear hl
  have hb := beq_nums s [36, 105, 110, 105, 116] initL rfl
  cases hini : (nums s == initL)
  case true =>
    rw [hini] at hb
    go_enter Tryz.func26, Tryz.ntmps26
    go_wp2_with fail
    go_ret
    exact ⟨ret_bool (by unfold nameB; rw [hini]; rfl), rfl⟩
  rw [hini] at hb
  go_enter Tryz.func26, Tryz.ntmps26
  go_wp2_with fail
  go_loop [3] (fun i => ∃ k : Nat, k ≤ s.size ∧ i = .int .i64 k ∧ allOk okN (decide (k = 0)) ((nums s).drop k) = allOk okN true (nums s)) (fun i => s.size - (intOf i).toNat)
  case atStart => exact ⟨0, by omega, rfl, rfl⟩
  case round =>
    obtain ⟨k, hk, rfl, hd⟩ := hrel
    have HD : Hid _ := hd
    clear hd
    by_cases hlt : k < s.size
    · have hst := allOk_step okN (nums s) k (by rw [HL.out]; exact hlt)
      have hx := nums_getD s k hlt
      rw [HD.out] at hst
      have HS : Hid _ := hst
      clear HD hst
      obtain ⟨x, hx'⟩ : ∃ x, x = (nums s).getD k 0 := ⟨_, rfl⟩
      rw [← hx'] at HS hx
      have hx2 : ((s[k]'hlt).toNat : Int) = x := hx.symm
      clear hx hx'
      cases hg : little x
      · by_cases hk0 : k = 0
        · have hv : Hid (allOk okN true (nums s) = false)   := by show _ = _; rw [HS.out, hk0]; simp [okN, hg]
          have hkb : ((k : Int) == 0) = true := beq_iff_eq.2 (by omega)
          clear HS hk0
          go_wp2_with (go_at_call 59; refine (little_any x _).mono ?_; rintro e w' ⟨rfl, rfl⟩)
          go_ret
          exact ⟨ret_bool (by unfold nameB; rw [hini, hv.out]; rfl), rfl⟩
        · have hkb : ((k : Int) == 0) = false := beq_eq_false_iff_ne.2 (by omega)
          cases hli : great x
          · cases hdi : digit x
            · have hv : Hid (allOk okN true (nums s) = false)   := by show _ = _; rw [HS.out]; simp [okN, hg, hli, hdi]
              clear HS hk0
              go_wp2_with (first | (go_at_call 59; refine (little_any x _).mono ?_; rintro e w' ⟨rfl, rfl⟩) | (go_at_call 58; refine (great_any x _).mono ?_; rintro e w' ⟨rfl, rfl⟩) | (go_at_call 60; refine (digit_any x _).mono ?_; rintro e w' ⟨rfl, rfl⟩))
              go_ret
              exact ⟨ret_bool (by unfold nameB; rw [hini, hv.out]; rfl), rfl⟩
            · have hv : Hid (allOk okN (decide (k + 1 = 0)) ((nums s).drop (k + 1)) = allOk okN true (nums s))   := by show _ = _; rw [HS.out]; simp [okN, hg, hli, hdi, hk0]
              clear HS hk0
              go_wp2_with (first | (go_at_call 59; refine (little_any x _).mono ?_; rintro e w' ⟨rfl, rfl⟩) | (go_at_call 58; refine (great_any x _).mono ?_; rintro e w' ⟨rfl, rfl⟩) | (go_at_call 60; refine (digit_any x _).mono ?_; rintro e w' ⟨rfl, rfl⟩))
              go_round
              case rel => exact ⟨k + 1, by omega, by go_num, hv.out⟩
              case measure => simp [intOf]; omega
          · have hv : Hid (allOk okN (decide (k + 1 = 0)) ((nums s).drop (k + 1)) = allOk okN true (nums s))   := by show _ = _; rw [HS.out]; simp [okN, hg, hli, hk0]
            clear HS hk0
            go_wp2_with (first | (go_at_call 59; refine (little_any x _).mono ?_; rintro e w' ⟨rfl, rfl⟩) | (go_at_call 58; refine (great_any x _).mono ?_; rintro e w' ⟨rfl, rfl⟩))
            go_round
            case rel => exact ⟨k + 1, by omega, by go_num, hv.out⟩
            case measure => simp [intOf]; omega
      · have hv : Hid (allOk okN (decide (k + 1 = 0)) ((nums s).drop (k + 1)) = allOk okN true (nums s))   := by show _ = _; rw [HS.out]; simp [okN, hg]
        clear HS
        go_wp2_with (go_at_call 59; refine (little_any x _).mono ?_; rintro e w' ⟨rfl, rfl⟩)
        go_round
        case rel => exact ⟨k + 1, by omega, by go_num, hv.out⟩
        case measure => simp [intOf]; omega
    · have hv : Hid (allOk okN true (nums s) = true) := by
        have := HD.out
        rw [List.drop_eq_nil_of_le (by rw [HL.out]; omega)] at this
        exact this.symm
      clear HD
      by_cases h2 : 1 ≤ s.size
      · go_wp2_with fail
        go_ret
        refine ⟨ret_bool ?_, rfl⟩
        unfold nameB
        rw [hini, hv.out, HL.out]
        simp [h2]
        omega
      · go_wp2_with fail
        go_ret
        refine ⟨ret_bool ?_, rfl⟩
        unfold nameB
        rw [hini, hv.out, HL.out]
        simp [h2]

set_option maxHeartbeats 1000000 in
theorem may_any (s : ByteArray) (w : World) (hs : s.size ≤ maxLen) : Calls Tryz.prog 27 #[.string s] w fun e w' => e = .returned (.bool (mayB (nums s))) ∧ w = w' := by
  have hs0 := hs
  unfold maxLen at hs
  go_enter Tryz.func27, Tryz.ntmps27
  go_wp2_with fail
  go_loop [0, 3] (fun t i => ∃ (j : Nat) (r : ByteArray), j ≤ 2 ∧ i = .int .i64 j ∧ t = .string r ∧ r.size ≤ s.size ∧ strip (2 - j) (nums r) = strip 2 (nums s)) (fun _ i => 2 - (intOf i).toNat)
  case atStart => exact ⟨0, s, by omega, rfl, rfl, Nat.le_refl _, rfl⟩
  case round =>
    obtain ⟨j, r, hj, rfl, rfl, hr, hd⟩ := hrel
    have HD : Hid _ := hd
    clear hd
    have hrl := nums_length r
    have HL : Hid _ := hrl
    clear hrl
    by_cases hmore : j < 2 ∧ 0 < r.size ∧ (nums r).getD 0 0 = 91
    · obtain ⟨h1, h2, h3⟩ := hmore
      have hx := nums_getD r 0 h2
      rw [h3] at hx
      have hx2 : ((r[0]'h2).toNat : Int) = 91 := hx.symm
      have HV : Hid (strip (2 - (j + 1)) (nums (r.extract 1 r.size)) = strip 2 (nums s)) := by
        show _ = _
        rw [nums_tail, ← HD.out, show 2 - j = (2 - (j + 1)) + 1 by omega, strip_more (by rw [HL.out]; exact h2) h3]
      have hsz : (r.extract 1 r.size).size ≤ s.size := by simp; omega
      have HZ : Hid _ := hsz
      clear hx h3 HD hsz
      go_wp2_with fail
      go_round
      case rel => exact ⟨j + 1, r.extract 1 r.size, by omega, by go_num, rfl, HZ.out, HV.out⟩
      case measure => simp [intOf]; omega
    · have HV : Hid (nums r = strip 2 (nums s)) := by
        show _ = _
        rw [← HD.out, strip_done]
        by_cases h1 : 2 - j = 0
        · exact .inl h1
        · by_cases h2 : r.size = 0
          · exact .inr (.inl (List.eq_nil_of_length_eq_zero (by rw [HL.out]; exact h2)))
          · exact .inr (.inr (fun h3 => hmore ⟨by omega, by omega, h3⟩))
      have hI := beq_nums r [73] [73] rfl
      clear HD
      have hfin : ∀ (W : World), Calls Tryz.prog 25 #[.string r] W fun e w' => e = .returned (.bool (classB (nums r))) ∧ W = w' := fun W => class_any r W (Nat.le_trans hr hs0)
      have HF : Hid _ := hfin
      clear hfin
      by_cases h1 : j < 2
      · by_cases h2 : 0 < r.size
        · have h3 : ¬ (nums r).getD 0 0 = 91 := fun h => hmore ⟨h1, h2, h⟩
          have hx := nums_getD r 0 h2
          have hx2 : ((((r[0]'h2).toNat : Int)) == 91) = false := beq_eq_false_iff_ne.2 (by rw [← hx]; exact h3)
          clear hmore hx h3
          cases hc : (nums r == [73])
          · rw [hc] at hI
            go_wp2_with fail
            refine (HF.out _).mono ?_
            rintro e w' ⟨rfl, rfl⟩
            go_wp2_with fail
            go_ret
            exact ⟨ret_bool (by unfold mayB; rw [← HV.out, hc]; rfl), rfl⟩
          · rw [hc] at hI
            go_wp2_with fail
            go_ret
            exact ⟨ret_bool (by unfold mayB; rw [← HV.out, hc]; rfl), rfl⟩
        · clear hmore
          cases hc : (nums r == [73])
          · rw [hc] at hI
            go_wp2_with fail
            refine (HF.out _).mono ?_
            rintro e w' ⟨rfl, rfl⟩
            go_wp2_with fail
            go_ret
            exact ⟨ret_bool (by unfold mayB; rw [← HV.out, hc]; rfl), rfl⟩
          · rw [hc] at hI
            go_wp2_with fail
            go_ret
            exact ⟨ret_bool (by unfold mayB; rw [← HV.out, hc]; rfl), rfl⟩
      · clear hmore
        cases hc : (nums r == [73])
        · rw [hc] at hI
          go_wp2_with fail
          refine (HF.out _).mono ?_
          rintro e w' ⟨rfl, rfl⟩
          go_wp2_with fail
          go_ret
          exact ⟨ret_bool (by unfold mayB; rw [← HV.out, hc]; rfl), rfl⟩
        · rw [hc] at hI
          go_wp2_with fail
          go_ret
          exact ⟨ret_bool (by unfold mayB; rw [← HV.out, hc]; rfl), rfl⟩

theorem ret_any (s : ByteArray) (w : World) (hs : s.size ≤ maxLen) : Calls Tryz.prog 61 #[.string s] w fun e w' => e = .returned (.bool (retB (nums s))) ∧ w = w' := by
  have hI := beq_nums s [86] [86] rfl
  cases hc : (nums s == [86])
  · rw [hc] at hI
    have e0 : retB (nums s) = mayB (nums s) := by unfold retB; rw [hc]; rfl
    go_enter Tryz.func61, Tryz.ntmps61
    go_wp2_with fail
    refine (may_any s _ hs).mono ?_
    rintro e w' ⟨rfl, rfl⟩
    go_wp2_with fail
    go_ret
    exact ⟨ret_bool e0.symm, rfl⟩
  · rw [hc] at hI
    have e0 : retB (nums s) = true := by unfold retB; rw [hc]; rfl
    go_enter Tryz.func61, Tryz.ntmps61
    go_wp2_with fail
    go_ret
    exact ⟨ret_bool e0.symm, rfl⟩
theorem ref_any (s : ByteArray) (w : World) (hs : s.size ≤ maxLen) : Calls Tryz.prog 125 #[.string s] w fun e w' => e = .returned (.bool (refB (nums s))) ∧ w = w' := by
  have hI := beq_nums s [73] [73] rfl
  cases hc : (nums s == [73])
  · rw [hc] at hI
    have e0 : refB (nums s) = mayB (nums s) := by unfold refB; rw [hc]; rfl
    go_enter Tryz.func125, Tryz.ntmps125
    go_wp2_with fail
    refine (may_any s _ hs).mono ?_
    rintro e w' ⟨rfl, rfl⟩
    go_wp2_with fail
    go_ret
    exact ⟨ret_bool e0.symm, rfl⟩
  · rw [hc] at hI
    have e0 : refB (nums s) = false := by unfold refB; rw [hc]; rfl
    go_enter Tryz.func125, Tryz.ntmps125
    go_wp2_with fail
    go_ret
    exact ⟨ret_bool e0.symm, rfl⟩

def resE (r : List Int × Bool) : Value := .tuple #[.string (strOfNums r.1), .bool r.2]
theorem tail_str (s : ByteArray) : s.extract 1 s.size = strOfNums ((nums s).drop 1) := by rw [← nums_tail, str_nums]
theorem bracket_str (s : ByteArray) : (⟨#[91]⟩ : ByteArray) ++ s = strOfNums (91 :: nums s) := by rw [← nums_bracket, str_nums]
theorem ret_two {a : ByteArray} {b : List Int} {c d : Bool} (h : a = strOfNums b) (h2 : c = d) : Ending.returned (.tuple #[.string a, .bool c]) = .returned (resE (b, d)) := by rw [h, h2]; rfl
theorem ret_str {a : ByteArray} {b : List Int} (h : a = strOfNums b) : Ending.returned (.string a) = .returned (.string (strOfNums b)) := by rw [h]
end Kind
end Go.Proofs.YtjblmgdjaaeedaaGreat

/- The contracts of package kind. -/
namespace Go.Proofs.YtjblmgdjaaeedaaGreat
namespace Kind
open Num
open Go.RowKit
set_option linter.unusedVariables false
set_option maxRecDepth 100000

theorem kgreat_any (x : Int) (w : World) : Calls Tryz.prog 73 #[.int .u8 x] w fun e w' => e = .returned (.bool (great x)) ∧ w = w' := by
  by_cases h1 : 65 ≤ x
  · have e : great x = decide (x ≤ 90) := by unfold great; simp [h1]
    go_enter Tryz.func73, Tryz.ntmps73
    go_wp2_with fail
    go_ret
    exact ⟨ret_bool e.symm, rfl⟩
  · have e : great x = false := by unfold great; simp; omega
    go_enter Tryz.func73, Tryz.ntmps73
    go_wp2_with fail
    go_ret
    exact ⟨rfl, rfl⟩
theorem ksmall_any (x : Int) (w : World) : Calls Tryz.prog 106 #[.int .u8 x] w fun e w' => e = .returned (.bool (little x)) ∧ w = w' := by
  by_cases h1 : 97 ≤ x
  · have e : little x = decide (x ≤ 122) := by unfold little; simp [h1]
    go_enter Tryz.func106, Tryz.ntmps106
    go_wp2_with fail
    go_ret
    exact ⟨ret_bool e.symm, rfl⟩
  · have e : little x = false := by unfold little; simp; omega
    go_enter Tryz.func106, Tryz.ntmps106
    go_wp2_with fail
    go_ret
    exact ⟨rfl, rfl⟩
theorem kdigit_any (x : Int) (w : World) : Calls Tryz.prog 107 #[.int .u8 x] w fun e w' => e = .returned (.bool (digit x)) ∧ w = w' := by
  by_cases h1 : 48 ≤ x
  · have e : digit x = decide (x ≤ 57) := by unfold digit; simp [h1]
    go_enter Tryz.func107, Tryz.ntmps107
    go_wp2_with fail
    go_ret
    exact ⟨ret_bool e.symm, rfl⟩
  · have e : digit x = false := by unfold digit; simp; omega
    go_enter Tryz.func107, Tryz.ntmps107
    go_wp2_with fail
    go_ret
    exact ⟨rfl, rfl⟩

def ladX (x : Int) : Bool := great x || (little x || digit x)
def ladB (l : List Int) : Bool := l.all ladX
theorem ladB_step (l : List Int) (k : Nat) (hk : k < l.length) : ladB (l.drop k) = (ladX (l.getD k 0) && ladB (l.drop (k + 1))) := by
  rw [drop_step hk]
  rfl
theorem okC_lad (l : List Int) : allOk okC false l = ladB l := by
  induction l with
  | nil => rfl
  | cons x r ih => show (okC false x && allOk okC false r) = (ladX x && ladB r); rw [ih]; rfl
theorem okN_lad (l : List Int) : allOk okN false l = ladB l := by
  induction l with
  | nil => rfl
  | cons x r ih =>
    show (okN false x && allOk okN false r) = (ladX x && ladB r)
    rw [ih]
    unfold okN ladX
    cases great x <;> cases little x <;> cases digit x <;> rfl
theorem okC_first {l : List Int} (h : 0 < l.length) : allOk okC true l = (great (l.getD 0 0) && ladB l) := by
  cases l with
  | nil => simp at h
  | cons x r =>
    show (okC true x && allOk okC false r) = (great x && (ladX x && ladB r))
    rw [okC_lad]
    unfold okC ladX
    cases great x <;> rfl
theorem okN_first {l : List Int} (h : 0 < l.length) : allOk okN true l = (little (l.getD 0 0) && ladB l) := by
  cases l with
  | nil => simp at h
  | cons x r =>
    show (okN true x && allOk okN false r) = (little x && (ladX x && ladB r))
    rw [okN_lad]
    unfold okN ladX
    cases little x <;> cases great x <;> rfl

set_option maxHeartbeats 1000000 in
theorem klad_any (s : ByteArray) (w : World) (hs : s.size ≤ maxLen) : Calls Tryz.prog 74 #[.string s] w fun e w' => e = .returned (.bool (ladB (nums s))) ∧ w = w' := by
  unfold maxLen at hs
  have hl := nums_length s
  have HL : Hid _ := hl
  clear hl
  go_enter Tryz.func74, Tryz.ntmps74
  go_wp2_with fail
  go_loop [6] (fun i => ∃ k : Nat, k ≤ s.size ∧ i = .int .i64 k ∧ ladB ((nums s).drop k) = ladB (nums s)) (fun i => s.size - (intOf i).toNat)
  case atStart => exact ⟨0, by omega, rfl, rfl⟩
  case round =>
    obtain ⟨k, hk, rfl, hd⟩ := hrel
    have HD : Hid _ := hd
    clear hd
    by_cases hlt : k < s.size
    · have hst := ladB_step (nums s) k (by rw [HL.out]; exact hlt)
      have hx := nums_getD s k hlt
      rw [HD.out] at hst
      have HS : Hid _ := hst
      clear HD hst
      obtain ⟨x, hx'⟩ : ∃ x, x = (nums s).getD k 0 := ⟨_, rfl⟩
      rw [← hx'] at HS hx
      have hx2 : ((s[k]'hlt).toNat : Int) = x := hx.symm
      clear hx hx'
      cases hg : great x
      · cases hli : little x
        · cases hdi : digit x
          · have hv : Hid (ladB (nums s) = false) := by show _ = _; rw [HS.out]; simp [ladX, hg, hli, hdi]
            clear HS
            go_wp2_with (first | (go_at_call 73; refine (kgreat_any x _).mono ?_; rintro e w' ⟨rfl, rfl⟩) | (go_at_call 106; refine (ksmall_any x _).mono ?_; rintro e w' ⟨rfl, rfl⟩) | (go_at_call 107; refine (kdigit_any x _).mono ?_; rintro e w' ⟨rfl, rfl⟩))
            go_ret
            exact ⟨ret_bool hv.out.symm, rfl⟩
          · have hv : Hid (ladB ((nums s).drop (k + 1)) = ladB (nums s)) := by show _ = _; rw [HS.out]; simp [ladX, hg, hli, hdi]
            clear HS
            go_wp2_with (first | (go_at_call 73; refine (kgreat_any x _).mono ?_; rintro e w' ⟨rfl, rfl⟩) | (go_at_call 106; refine (ksmall_any x _).mono ?_; rintro e w' ⟨rfl, rfl⟩) | (go_at_call 107; refine (kdigit_any x _).mono ?_; rintro e w' ⟨rfl, rfl⟩))
            go_round
            case rel => exact ⟨k + 1, by omega, by go_num, hv.out⟩
            case measure => simp [intOf]; omega
        · have hv : Hid (ladB ((nums s).drop (k + 1)) = ladB (nums s)) := by show _ = _; rw [HS.out]; simp [ladX, hg, hli]
          clear HS
          go_wp2_with (first | (go_at_call 73; refine (kgreat_any x _).mono ?_; rintro e w' ⟨rfl, rfl⟩) | (go_at_call 106; refine (ksmall_any x _).mono ?_; rintro e w' ⟨rfl, rfl⟩))
          go_round
          case rel => exact ⟨k + 1, by omega, by go_num, hv.out⟩
          case measure => simp [intOf]; omega
      · have hv : Hid (ladB ((nums s).drop (k + 1)) = ladB (nums s)) := by show _ = _; rw [HS.out]; simp [ladX, hg]
        clear HS
        go_wp2_with (go_at_call 73; refine (kgreat_any x _).mono ?_; rintro e w' ⟨rfl, rfl⟩)
        go_round
        case rel => exact ⟨k + 1, by omega, by go_num, hv.out⟩
        case measure => simp [intOf]; omega
    · have hv : Hid (ladB (nums s) = true) := by
        have := HD.out
        rw [List.drop_eq_nil_of_le (by rw [HL.out]; omega)] at this
        exact this.symm
      clear HD
      go_wp2_with fail
      go_ret
      exact ⟨ret_bool hv.out.symm, rfl⟩

set_option maxHeartbeats 1000000 in
theorem kclass_any (s : ByteArray) (w : World) (hs : s.size ≤ maxLen) : Calls Tryz.prog 44 #[.string s] w fun e w' => e = .returned (.bool (classB (nums s))) ∧ w = w' := by
  have hs0 := hs
  unfold maxLen at hs0
  have hl := nums_length s
  by_cases h2 : 2 ≤ s.size
  · by_cases h8 : s.size ≤ 8
    · have hp : 0 < s.size := by omega
      have hx := nums_getD s 0 hp
      have he : classB (nums s) = (great ((nums s).getD 0 0) && ladB (nums s)) := by
        unfold classB
        rw [hl, okC_first (by rw [hl]; exact hp)]
        simp [h2, h8]
      have HE : Hid _ := he
      clear he
      generalize (nums s).getD 0 0 = x at *
      have hx2 : ((s[0]'hp).toNat : Int) = x := hx.symm
      have HK : Hid (∀ W : World, _) := fun W => klad_any s W hs
      clear hx hl
      cases hg : great x
      · have hv : Hid (classB (nums s) = false) := by show _ = _; rw [HE.out, hg]; rfl
        clear HE
        go_enter Tryz.func44, Tryz.ntmps44
        go_wp2_with (go_at_call 73; refine (kgreat_any x _).mono ?_; rintro e w' ⟨rfl, rfl⟩)
        go_ret
        exact ⟨ret_bool hv.out.symm, rfl⟩
      · have hv : Hid (classB (nums s) = ladB (nums s)) := by show _ = _; rw [HE.out, hg]; rfl
        clear HE
        go_enter Tryz.func44, Tryz.ntmps44
        go_wp2_with (first | (go_at_call 73; refine (kgreat_any x _).mono ?_; rintro e w' ⟨rfl, rfl⟩) | (go_at_call 74; refine (HK.out _).mono ?_; rintro e w' ⟨rfl, rfl⟩))
        go_ret
        exact ⟨ret_bool hv.out.symm, rfl⟩
    · have hv : Hid (classB (nums s) = false) := by show _ = _; unfold classB; rw [hl]; simp [h8]
      clear hl
      go_enter Tryz.func44, Tryz.ntmps44
      go_wp2_with fail
      go_ret
      exact ⟨ret_bool hv.out.symm, rfl⟩
  · have hv : Hid (classB (nums s) = false) := by show _ = _; unfold classB; rw [hl]; simp [h2]
    clear hl
    go_enter Tryz.func44, Tryz.ntmps44
    go_wp2_with fail
    go_ret
    exact ⟨ret_bool hv.out.symm, rfl⟩
set_option maxHeartbeats 1000000 in
theorem kname_any (s : ByteArray) (w : World) (hs : s.size ≤ maxLen) : Calls Tryz.prog 108 #[.string s] w fun e w' => e = .returned (.bool (nameB (nums s))) ∧ w = w' := by
  have hs0 := hs
  unfold maxLen at hs0
  have hl := nums_length s
  have hb := beq_nums s [36, 105, 110, 105, 116] initL rfl
  cases hini : (nums s == initL)
  case true =>
    rw [hini] at hb
    clear hl
    go_enter Tryz.func108, Tryz.ntmps108
    go_wp2_with fail
    go_ret
    exact ⟨ret_bool (by unfold nameB; rw [hini]; rfl), rfl⟩
  rw [hini] at hb
  by_cases h2 : 1 ≤ s.size
  · by_cases h8 : s.size ≤ 8
    · have hp : 0 < s.size := by omega
      have hx := nums_getD s 0 hp
      have he : nameB (nums s) = (little ((nums s).getD 0 0) && ladB (nums s)) := by
        unfold nameB
        rw [hini, hl, okN_first (by rw [hl]; exact hp)]
        simp [h2, h8]
      have HE : Hid _ := he
      clear he
      generalize (nums s).getD 0 0 = x at *
      have hx2 : ((s[0]'hp).toNat : Int) = x := hx.symm
      have HK : Hid (∀ W : World, _) := fun W => klad_any s W hs
      clear hx hl hini
      cases hg : little x
      · have hv : Hid (nameB (nums s) = false) := by show _ = _; rw [HE.out, hg]; rfl
        clear HE
        go_enter Tryz.func108, Tryz.ntmps108
        go_wp2_with (go_at_call 106; refine (ksmall_any x _).mono ?_; rintro e w' ⟨rfl, rfl⟩)
        go_ret
        exact ⟨ret_bool hv.out.symm, rfl⟩
      · have hv : Hid (nameB (nums s) = ladB (nums s)) := by show _ = _; rw [HE.out, hg]; rfl
        clear HE
        go_enter Tryz.func108, Tryz.ntmps108
        go_wp2_with (first | (go_at_call 106; refine (ksmall_any x _).mono ?_; rintro e w' ⟨rfl, rfl⟩) | (go_at_call 74; refine (HK.out _).mono ?_; rintro e w' ⟨rfl, rfl⟩))
        go_ret
        exact ⟨ret_bool hv.out.symm, rfl⟩
    · have hv : Hid (nameB (nums s) = false) := by show _ = _; unfold nameB; rw [hini, hl]; simp [h8]
      clear hl hini
      go_enter Tryz.func108, Tryz.ntmps108
      go_wp2_with fail
      go_ret
      exact ⟨ret_bool hv.out.symm, rfl⟩
  · have hv : Hid (nameB (nums s) = false) := by show _ = _; unfold nameB; rw [hini, hl]; simp [h2]
    clear hl hini
    go_enter Tryz.func108, Tryz.ntmps108
    go_wp2_with fail
    go_ret
    exact ⟨ret_bool hv.out.symm, rfl⟩

/-! ### Brackets ahead -/
def hasB (l : List Int) : Bool := decide (0 < l.length) && (l.getD 0 0 == 91)
theorem nums_front (s : ByteArray) : nums (s.extract 0 1) = (nums s).take 1 := by
  unfold nums
  rw [Lib.extract_data, List.map_take]
  simp
theorem hasB_take {l : List Int} : (l.take 1 == [91]) = hasB l := by
  cases l with
  | nil => rfl
  | cons x r => simp [hasB]
theorem slhas_any (s : ByteArray) (w : World) (hs : s.size ≤ maxLen) : Calls Tryz.prog 173 #[.string s, .string ⟨#[91]⟩] w fun e w' => e = .returned (.bool (hasB (nums s))) ∧ w = w' := by
  have hs0 := hs
  unfold maxLen at hs0
  have hl := nums_length s
  have hb := beq_nums (s.extract 0 1) [91] [91] rfl
  rw [nums_front, hasB_take] at hb
  by_cases h1 : 1 ≤ s.size
  · clear hl
    generalize hasB (nums s) = q at *
    go_enter Tryz.func173, Tryz.ntmps173
    go_wp2_with fail
    go_ret
    exact ⟨rfl, rfl⟩
  · have hv : hasB (nums s) = false := by unfold hasB; rw [hl]; simp; omega
    rw [hv]
    clear hb hv hl
    go_enter Tryz.func173, Tryz.ntmps173
    go_wp2_with fail
    go_ret
    exact ⟨rfl, rfl⟩
theorem has_any (s : ByteArray) (w : World) (hs : s.size ≤ maxLen) : Calls Tryz.prog 174 #[.string s, .string ⟨#[91]⟩] w fun e w' => e = .returned (.bool (hasB (nums s))) ∧ w = w' := by
  go_enter Tryz.func174, Tryz.ntmps174
  go_wp2_with fail
  refine (slhas_any s _ hs).mono ?_
  rintro e w' ⟨rfl, rfl⟩
  go_wp2_with fail
  go_ret
  exact ⟨rfl, rfl⟩
def trimS (s : ByteArray) : ByteArray := if hasB (nums s) then s.extract 1 s.size else s
theorem trimS_size (s : ByteArray) : (trimS s).size ≤ s.size := by
  unfold trimS
  split
  · simp
  · exact Nat.le_refl _
theorem trimS_nums (s : ByteArray) : nums (trimS s) = strip 1 (nums s) := by
  unfold trimS
  by_cases h : hasB (nums s) = true
  · rw [if_pos h, nums_tail]
    unfold hasB at h
    simp only [Bool.and_eq_true, decide_eq_true_eq, beq_iff_eq] at h
    rw [show (1 : Nat) = 0 + 1 from rfl, strip_more h.1 h.2]
    rfl
  · rw [if_neg h]
    refine (strip_done ?_).symm
    unfold hasB at h
    simp only [Bool.and_eq_true, decide_eq_true_eq, beq_iff_eq, not_and] at h
    by_cases h0 : 0 < (nums s).length
    · exact .inr (.inr (h h0))
    · exact .inr (.inl (List.eq_nil_of_length_eq_zero (by omega)))
theorem sltrim_any (s : ByteArray) (w : World) (hs : s.size ≤ maxLen) : Calls Tryz.prog 164 #[.string s, .string ⟨#[91]⟩] w fun e w' => e = .returned (.string (trimS s)) ∧ w = w' := by
  have hs0 := hs
  unfold maxLen at hs0
  have hl := nums_length s
  unfold trimS
  cases hh : hasB (nums s)
  · rw [if_neg (by simp)]
    clear hl
    go_enter Tryz.func164, Tryz.ntmps164
    go_wp2_with fail
    refine (slhas_any s _ hs).mono ?_
    rintro e w' ⟨rfl, rfl⟩
    go_wp2_with fail
    go_ret
    exact ⟨rfl, rfl⟩
  · rw [if_pos rfl]
    have hp : 1 ≤ s.size := by
      unfold hasB at hh
      simp only [Bool.and_eq_true, decide_eq_true_eq] at hh
      omega
    clear hl
    go_enter Tryz.func164, Tryz.ntmps164
    go_wp2_with fail
    refine (slhas_any s _ hs).mono ?_
    rintro e w' ⟨rfl, rfl⟩
    go_wp2_with fail
    go_ret
    exact ⟨rfl, rfl⟩
theorem trim_any (s : ByteArray) (w : World) (hs : s.size ≤ maxLen) : Calls Tryz.prog 142 #[.string s, .string ⟨#[91]⟩] w fun e w' => e = .returned (.string (trimS s)) ∧ w = w' := by
  go_enter Tryz.func142, Tryz.ntmps142
  go_wp2_with fail
  refine (sltrim_any s _ hs).mono ?_
  rintro e w' ⟨rfl, rfl⟩
  go_wp2_with fail
  go_ret
  exact ⟨rfl, rfl⟩
theorem strip_two (l : List Int) : strip 1 (strip 1 l) = strip 2 l := by
  cases l with
  | nil => rfl
  | cons x r =>
    by_cases h : x = 91
    · subst h; rfl
    · have e1 : strip 1 (x :: r) = x :: r := strip_done (.inr (.inr (by simpa using h)))
      rw [e1, e1]
      exact (strip_done (.inr (.inr (by simpa using h)))).symm
theorem strip_step (j : Nat) (hj : j < 2) (r : ByteArray) : strip (2 - (j + 1)) (nums (trimS r)) = strip (2 - j) (nums r) := by
  rw [trimS_nums]
  match j, hj with
  | 0, _ => exact strip_two _
  | 1, _ => rfl

set_option maxHeartbeats 1000000 in
theorem kmay_any (s : ByteArray) (w : World) (hs : s.size ≤ maxLen) : Calls Tryz.prog 109 #[.string s] w fun e w' => e = .returned (.bool (mayB (nums s))) ∧ w = w' := by
  have HS0 : Hid (s.size ≤ maxLen) := hs
  unfold maxLen at hs
  go_enter Tryz.func109, Tryz.ntmps109
  go_wp2_with fail
  go_loop [3, 5] (fun t i => ∃ (j : Nat) (r : ByteArray), j ≤ 2 ∧ i = .int .i64 j ∧ t = .string r ∧ r.size ≤ s.size ∧ strip (2 - j) (nums r) = strip 2 (nums s)) (fun _ i => 2 - (intOf i).toNat)
  case atStart => exact ⟨0, s, by omega, rfl, rfl, Nat.le_refl _, rfl⟩
  case round =>
    obtain ⟨j, r, hj, rfl, rfl, hr, hd⟩ := hrel
    have hrm : r.size ≤ maxLen := Nat.le_trans hr HS0.out
    by_cases hlt : j < 2
    · have HV : Hid (strip (2 - (j + 1)) (nums (trimS r)) = strip 2 (nums s)) := by show _ = _; rw [strip_step j hlt, hd]
      have HZ : Hid ((trimS r).size ≤ s.size) := Nat.le_trans (trimS_size r) hr
      have HT : Hid (∀ W : World, _) := fun W => trim_any r W hrm
      clear hd
      go_wp2_with fail
      refine (HT.out _).mono ?_
      rintro e w' ⟨rfl, rfl⟩
      generalize trimS r = r' at *
      go_wp2_with fail
      go_round
      case rel => exact ⟨j + 1, r', by omega, by go_num, rfl, HZ.out, HV.out⟩
      case measure => simp [intOf]; omega
    · obtain rfl : j = 2 := by omega
      have HD : Hid (nums r = strip 2 (nums s)) := hd
      have hI := beq_nums r [73] [73] rfl
      have HK : Hid (∀ W : World, _) := fun W => kclass_any r W hrm
      clear hd
      cases hc : (nums r == [73])
      · rw [hc] at hI
        go_wp2_with (go_at_call 44; refine (HK.out _).mono ?_; rintro e w' ⟨rfl, rfl⟩)
        go_ret
        exact ⟨ret_bool (by unfold mayB; rw [← HD.out, hc]; rfl), rfl⟩
      · rw [hc] at hI
        go_wp2_with fail
        go_ret
        exact ⟨ret_bool (by unfold mayB; rw [← HD.out, hc]; rfl), rfl⟩

theorem kret_any (s : ByteArray) (w : World) (hs : s.size ≤ maxLen) : Calls Tryz.prog 113 #[.string s] w fun e w' => e = .returned (.bool (retB (nums s))) ∧ w = w' := by
  have hI := beq_nums s [86] [86] rfl
  cases hc : (nums s == [86])
  · rw [hc] at hI
    have e0 : retB (nums s) = mayB (nums s) := by unfold retB; rw [hc]; rfl
    go_enter Tryz.func113, Tryz.ntmps113
    go_wp2_with (go_at_call 109; refine (kmay_any s _ hs).mono ?_; rintro e w' ⟨rfl, rfl⟩)
    go_ret
    exact ⟨ret_bool e0.symm, rfl⟩
  · rw [hc] at hI
    have e0 : retB (nums s) = true := by unfold retB; rw [hc]; rfl
    go_enter Tryz.func113, Tryz.ntmps113
    go_wp2_with fail
    go_ret
    exact ⟨ret_bool e0.symm, rfl⟩
theorem kref_any (s : ByteArray) (w : World) (hs : s.size ≤ maxLen) : Calls Tryz.prog 170 #[.string s] w fun e w' => e = .returned (.bool (refB (nums s))) ∧ w = w' := by
  have hI := beq_nums s [73] [73] rfl
  cases hc : (nums s == [73])
  · rw [hc] at hI
    have e0 : refB (nums s) = mayB (nums s) := by unfold refB; rw [hc]; rfl
    go_enter Tryz.func170, Tryz.ntmps170
    go_wp2_with (go_at_call 109; refine (kmay_any s _ hs).mono ?_; rintro e w' ⟨rfl, rfl⟩)
    go_ret
    exact ⟨ret_bool e0.symm, rfl⟩
  · rw [hc] at hI
    have e0 : refB (nums s) = false := by unfold refB; rw [hc]; rfl
    go_enter Tryz.func170, Tryz.ntmps170
    go_wp2_with fail
    go_ret
    exact ⟨ret_bool e0.symm, rfl⟩
theorem elemF_eq (l : List Int) : elemF l = if (hasB l && mayB l) = true then (l.drop 1, true) else ([], false) := by
  unfold elemF
  by_cases hm : mayB l = true
  · have hp := may_pos hm
    have e : hasB l = (l.getD 0 0 == 91) := by unfold hasB; simp [hp]
    rw [hm, e]
    by_cases h : l.getD 0 0 = 91
    · rw [if_pos ⟨rfl, h⟩, if_pos (by rw [h]; rfl)]
    · rw [if_neg (fun q => h q.2), if_neg (by simpa using h)]
  · rw [if_neg (fun q => hm q.1), if_neg (by simp [hm])]
theorem kelem_any (s : ByteArray) (w : World) (hs : s.size ≤ maxLen) : Calls Tryz.prog 171 #[.string s] w fun e w' => e = .returned (resE (elemF (nums s))) ∧ w = w' := by
  have hs0 := hs
  unfold maxLen at hs0
  have hl := nums_length s
  rw [elemF_eq]
  cases hh : hasB (nums s)
  · rw [if_neg (by simp)]
    clear hl
    go_enter Tryz.func171, Tryz.ntmps171
    go_wp2_with (go_at_call 174; refine (has_any s _ hs).mono ?_; rintro e w' ⟨rfl, rfl⟩)
    go_ret2
    exact ⟨rfl, rfl⟩
  · cases hm : mayB (nums s)
    · rw [if_neg (by simp)]
      clear hl
      go_enter Tryz.func171, Tryz.ntmps171
      go_wp2_with (first | (go_at_call 174; refine (has_any s _ hs).mono ?_; rintro e w' ⟨rfl, rfl⟩) | (go_at_call 109; refine (kmay_any s _ hs).mono ?_; rintro e w' ⟨rfl, rfl⟩))
      go_ret2
      exact ⟨rfl, rfl⟩
    · rw [if_pos (by decide)]
      have hp := may_pos hm
      rw [hl] at hp
      clear hl
      have HT : Hid _ := tail_str s
      go_enter Tryz.func171, Tryz.ntmps171
      go_wp2_with (first | (go_at_call 174; refine (has_any s _ hs).mono ?_; rintro e w' ⟨rfl, rfl⟩) | (go_at_call 109; refine (kmay_any s _ hs).mono ?_; rintro e w' ⟨rfl, rfl⟩))
      go_ret2
      exact ⟨ret_two HT.out rfl, rfl⟩
theorem karray_any (s : ByteArray) (w : World) (hs : s.size + 1 ≤ 9223372036854775807) : Calls Tryz.prog 172 #[.string s] w fun e w' => e = .returned (.string (strOfNums (arrayF (nums s)))) ∧ w = w' := by
  have hb := nums_bracket s
  have hsz : ((⟨#[91]⟩ : ByteArray) ++ s).size ≤ maxLen := by rw [ByteArray.size_append]; show 1 + s.size ≤ _; unfold maxLen; omega
  have HM := fun W => kmay_any (⟨#[91]⟩ ++ s) W hsz
  rw [hb] at HM
  have HB : Hid _ := bracket_str s
  have HM' : Hid _ := HM
  clear hb HM hsz
  cases hm : mayB (91 :: nums s)
  · have e0 : arrayF (nums s) = [] := by unfold arrayF; rw [hm]; rfl
    rw [e0]
    clear e0
    go_enter Tryz.func172, Tryz.ntmps172
    go_wp2_with fail
    refine (HM'.out _).mono ?_
    rintro e w' ⟨rfl, rfl⟩
    go_wp2_with fail
    go_ret
    exact ⟨rfl, rfl⟩
  · have e0 : arrayF (nums s) = 91 :: nums s := by unfold arrayF; rw [hm]; rfl
    rw [e0]
    clear e0
    go_enter Tryz.func172, Tryz.ntmps172
    go_wp2_with fail
    refine (HM'.out _).mono ?_
    rintro e w' ⟨rfl, rfl⟩
    go_wp2_with fail
    go_ret
    exact ⟨ret_str HB.out, rfl⟩
end Kind
end Go.Proofs.YtjblmgdjaaeedaaGreat

/- The contract of kind's laws' own 'begun': it answers true and writes nothing. -/
namespace Go.Proofs.YtjblmgdjaaeedaaGreat
namespace Kind
open Num
open Go.RowKit
set_option linter.unusedVariables false
set_option maxRecDepth 100000

set_option maxRecDepth 100000 in
set_option maxHeartbeats 1000000 in
theorem begun_any (w : World) : Calls Tryz.prog 159 #[] w fun e w' => e = .returned (.bool true) ∧ w = w' := by
  have e1 : elemF (nums ⟨#[91, 91, 65, 98]⟩) = ([91, 65, 98], true) := by decide +kernel
  have e2 : elemF (nums ⟨#[65, 98]⟩) = ([], false) := by decide +kernel
  have c1 : classB (nums ⟨#[65, 98]⟩) = true := by decide +kernel
  have c2 : classB (nums ⟨#[65]⟩) = false := by decide +kernel
  have n1 : nameB (nums ⟨#[97, 98]⟩) = true := by decide +kernel
  have n2 : nameB (nums ⟨#[36, 105, 110, 105, 116]⟩) = true := by decide +kernel
  have n3 : nameB (nums ⟨#[65, 98]⟩) = false := by decide +kernel
  have m1 : mayB (nums ⟨#[91, 91, 73]⟩) = true := by decide +kernel
  have m2 : mayB (nums ⟨#[91, 91, 91, 73]⟩) = false := by decide +kernel
  have m3 : mayB (nums ⟨#[86]⟩) = false := by decide +kernel
  have r1 : retB (nums ⟨#[86]⟩) = true := by decide +kernel
  have f1 : refB (nums ⟨#[91, 73]⟩) = true := by decide +kernel
  have f2 : refB (nums ⟨#[73]⟩) = false := by decide +kernel
  have a1 : arrayF (nums ⟨#[73]⟩) = [91, 73] := by decide +kernel
  have a2 : arrayF (nums ⟨#[91, 91, 73]⟩) = [] := by decide +kernel
  have s1 : ((strOfNums [91, 65, 98]).toList == [91, 65, 98]) = true := by decide +kernel
  have s2 : ((strOfNums [91, 73]).toList == [91, 73]) = true := by decide +kernel
  have s3 : ((strOfNums []).toList == []) = true := by decide +kernel
  have s4 : (strOfNums []).toList.isEmpty = true := by decide +kernel
  go_enter Tryz.func159, Tryz.ntmps159
  go_wp2_with fail
  refine (kelem_any _ _ (by decide)).mono ?_
  rintro e w' ⟨rfl, rfl⟩
  rw [e1]
  simp only [resE]
  go_wp2_with fail
  refine (kelem_any _ _ (by decide)).mono ?_
  rintro e w' ⟨rfl, rfl⟩
  rw [e2]
  simp only [resE]
  go_wp2_with (first | (go_at_call 44; refine (kclass_any _ _ (by decide)).mono ?_; rintro e w' ⟨rfl, rfl⟩) | (go_at_call 108; refine (kname_any _ _ (by decide)).mono ?_; rintro e w' ⟨rfl, rfl⟩) | (go_at_call 109; refine (kmay_any _ _ (by decide)).mono ?_; rintro e w' ⟨rfl, rfl⟩) | (go_at_call 113; refine (kret_any _ _ (by decide)).mono ?_; rintro e w' ⟨rfl, rfl⟩) | (go_at_call 170; refine (kref_any _ _ (by decide)).mono ?_; rintro e w' ⟨rfl, rfl⟩) | (go_at_call 172; refine (karray_any _ _ (by decide)).mono ?_; rintro e w' ⟨rfl, rfl⟩))
  go_ret
  exact ⟨rfl, rfl⟩
end Kind
end Go.Proofs.YtjblmgdjaaeedaaGreat
