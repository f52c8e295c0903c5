/- The contract of num.Get: for any bytes it answers what 'get' says, and writes nothing. -/
import Derived.Test.YtjblmgdjaaeedaaGreatLibHas
import Derived.Test.YtjblmgdjaaeedaaGreatNumSmall
namespace Go.Proofs.YtjblmgdjaaeedaaGreat
namespace Num
open Go.RowKit
set_option linter.unusedVariables false
set_option maxRecDepth 100000

def resG (r : Int × Int × Int) : Value := .tuple #[.int .i64 r.1, .int .i64 r.2.1, .int .i64 r.2.2]

set_option maxHeartbeats 800000 in
theorem get_some (b off n c : Nat) (xs : List Int) (w : World) (hl : xs.length = n) (hmax : n ≤ 9223372036854775807) (hb : Bytes xs)
    (hc : ∀ i, i < n → w.cell? ⟨b, off + i, none⟩ = some (.int .u8 (xs.getD i 0))) :
    Calls Tryz.prog 127 #[.slice (some ⟨b, off, none⟩) n c] w fun e w' => e = .returned (resG (get xs)) ∧ w = w' := by
  have HX : Hid (xs.length = n) := hl
  clear hl
  go_enter Tryz.func127, Tryz.ntmps127
  go_wp2_with fail
  go_loop [5, 10, 6, 7] (fun u i _ _ => ∃ (k : Nat) (U : Int), k ≤ n ∧ k ≤ 9 ∧ i = .int .i64 k ∧ u = .int .u64 U ∧ 0 ≤ U ∧ U < 128 ^ k ∧ get xs = getF k U (xs.drop k)) (fun _ i _ _ => n - (intOf i).toNat)
  case atStart => exact ⟨0, 0, by omega, by omega, rfl, rfl, by omega, by simp, rfl⟩
  case round =>
    obtain ⟨k, U, hk, hk9, rfl, rfl, hU0, hU, hd⟩ := hrel
    have HD : Hid (get xs = getF k U (xs.drop k)) := hd
    clear hd
    by_cases hlt : k < n
    · have hcell := hc k hlt
      have hbd := getD_bd hb (by rw [HX.out]; exact hlt)
      have hst := drop_step (xs := xs) (k := k) (by rw [HX.out]; exact hlt)
      have HS : Hid (get xs = getF k U (xs.getD k 0 :: xs.drop (k + 1))) := by rw [← hst]; exact HD
      clear hst HD hc
      generalize xs.getD k 0 = x at hcell hbd HS
      have hm := and127_u8 x hbd.1 hbd.2
      obtain ⟨hx0, hx1⟩ := hbd
      by_cases h9 : k = 9
      · have h9b : ((k : Int) == 9) = true := beq_iff_eq.2 (by omega)
        by_cases h1 : 1 < x
        · have HV : Hid (get xs = (0, 0, 1)) := HS.out.trans (getF_big h9 h1)
          clear HS h9
          go_wp2_with fail
          go_ret3
          exact ⟨by rw [HV.out]; rfl, rfl⟩
        · by_cases h0 : x = 0
          · have HV : Hid (get xs = (0, 0, 1)) := HS.out.trans (getF_zero (by omega) h0)
            subst h0
            clear HS
            have hkp : (0 : Int) < k := by omega
            clear h9
            go_wp2_with fail
            go_ret3
            exact ⟨by rw [HV.out]; rfl, rfl⟩
          · have HV : Hid (get xs = (zag (U + x % 128 * 128 ^ k), (k : Int) + 1, 0)) := HS.out.trans (getF_last (by omega) (by omega) hx0 (by omega))
            have hxb : (x == 0) = false := beq_eq_false_iff_ne.2 h0
            have hor := or_digit U (x % 128) k hU0 hU (by omega) (by omega) hk9 (by omega)
            obtain ⟨ho1, ho2, ho3⟩ := hor
            clear HS h9
            go_wp2_with (go_at_call 146; go_must (refine (signed_any _ _ ho2 ho3).mono ?_; rintro e w' ⟨rfl, rfl⟩))
            go_ret3
            exact ⟨by rw [HV.out]; rfl, rfl⟩
      · have h9b : ((k : Int) == 9) = false := beq_eq_false_iff_ne.2 (by omega)
        have hor := or_digit U (x % 128) k hU0 hU (by omega) (by omega) hk9 (by omega)
        obtain ⟨ho1, ho2, ho3⟩ := hor
        by_cases h128 : 128 ≤ x
        · have HV : Hid (get xs = getF (k + 1) (U + x % 128 * 128 ^ k) (xs.drop (k + 1))) := HS.out.trans (getF_more h9 h128)
          have hU2 : U + x % 128 * 128 ^ k < 128 ^ (k + 1) := by
            have hm := mul_lt (x := x % 128) (p := 128 ^ k) (by omega) (Int.pow_pos (by decide))
            rw [Int.pow_succ]; omega
          have HU2 : Hid _ := hU2
          clear HS hU2
          go_wp2_with fail
          go_round
          case rel => exact ⟨k + 1, U + x % 128 * 128 ^ k, by omega, by omega, by go_num, rfl, ho2, HU2.out, HV.out⟩
          case measure => simp [intOf]; omega
        · by_cases h0 : x = 0 ∧ 0 < k
          · have HV : Hid (get xs = (0, 0, 1)) := HS.out.trans (getF_zero h0.2 h0.1)
            obtain ⟨rfl, h0⟩ := h0
            clear HS
            go_wp2_with fail
            go_ret3
            exact ⟨by rw [HV.out]; rfl, rfl⟩
          · have HV : Hid (get xs = (zag (U + x % 128 * 128 ^ k), (k : Int) + 1, 0)) := HS.out.trans (getF_last (by omega) (by omega) hx0 (by omega))
            clear HS
            by_cases hx : x = 0
            · have hxb : (x == 0) = true := beq_iff_eq.2 hx
              have hkz : (k : Int) ≤ 0 := by omega
              clear h0 hx
              go_wp2_with (go_at_call 146; go_must (refine (signed_any _ _ ho2 ho3).mono ?_; rintro e w' ⟨rfl, rfl⟩))
              go_ret3
              exact ⟨by rw [HV.out]; rfl, rfl⟩
            · have hxb : (x == 0) = false := beq_eq_false_iff_ne.2 hx
              clear h0 hx
              go_wp2_with (go_at_call 146; go_must (refine (signed_any _ _ ho2 ho3).mono ?_; rintro e w' ⟨rfl, rfl⟩))
              go_ret3
              exact ⟨by rw [HV.out]; rfl, rfl⟩
    · have HV : Hid (get xs = (0, 0, 2)) := by rw [HD.out, List.drop_eq_nil_of_le (by rw [HX.out]; omega)]; rfl
      clear HD hc
      go_wp2_with fail
      go_ret3
      exact ⟨by rw [HV.out]; rfl, rfl⟩

theorem get_empty (a : Option Addr) (c : Nat) (w : World) :
    Calls Tryz.prog 127 #[.slice a 0 c] w fun e w' => e = .returned (resG (get [])) ∧ w = w' := by
  go_enter Tryz.func127, Tryz.ntmps127
  go_wp2_with fail
  refine wp_loop_rounds 1 ?_
  rw [rounds_succ]
  go_wp2_with fail
  go_ret3
  exact ⟨rfl, rfl⟩

theorem get_any (a : Option Addr) (n c : Nat) (xs : List Int) (w : World) (h : Has w a n c xs) (hb : Bytes xs) :
    Calls Tryz.prog 127 #[.slice a n c] w fun e w' => e = .returned (resG (get xs)) ∧ w = w' := by
  have h1 := h.len
  have h2 := h.cap
  have h3 := h.max
  unfold maxLen at h3
  rcases Nat.eq_zero_or_pos n with h0 | h0
  · subst h0
    obtain rfl : xs = [] := List.eq_nil_of_length_eq_zero h1
    exact get_empty a c w
  · obtain ⟨b, off, rfl, _, hc⟩ := h.cells h0
    exact get_some b off n c xs w h1 (by omega) hb hc
end Num
end Go.Proofs.YtjblmgdjaaeedaaGreat
