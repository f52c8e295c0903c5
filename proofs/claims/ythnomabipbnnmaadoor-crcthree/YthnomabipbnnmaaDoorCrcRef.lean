/- The contract of the document's own sum: for any bytes it answers 'sum', and writes nothing. -/
import Derived.Test.YthnomabipbnnmaaDoorLibHas
import Derived.Test.YthnomabipbnnmaaDoorCrcMath
namespace Go.Proofs.YthnomabipbnnmaaDoor
namespace Crc
open Num
open Go.RowKit
set_option linter.unusedVariables false

set_option maxHeartbeats 800000 in
theorem ref_some (b off n c : Nat) (xs : List Int) (w : World) (hl : xs.length = n) (hmax : n ≤ 9223372036854775807) (hb : Bytes xs)
    (hc : ∀ i, i < n → w.cell? ⟨b, off + i, none⟩ = some (.int .u8 (xs.getD i 0))) :
    Calls Tryd.prog 11 #[.slice (some ⟨b, off, none⟩) n c] w fun e w' => e = .returned (.int .u32 (sum (nats xs) : Nat)) ∧ w = w' := by
  have HX : Hid (xs.length = n) := hl
  clear hl
  go_enter Tryd.func11, Tryd.ntmps11
  go_wp2_with fail
  go_loop [3, 4, 5] (fun cv i _ => ∃ (k C : Nat), k ≤ n ∧ i = .int .i64 k ∧ cv = .int .u32 (C : Nat) ∧ C < 4294967296 ∧ run C ((nats xs).drop k) = run ones (nats xs)) (fun _ i _ => n - (intOf i).toNat)
  case atStart => exact ⟨0, ones, by omega, rfl, rfl, by decide, rfl⟩
  case round =>
    obtain ⟨k, C, hk, rfl, rfl, hC, hd⟩ := hrel
    have HD : Hid _ := hd
    clear hd
    by_cases hlt : k < n
    · have hcell := hc k hlt
      have hkl : k < xs.length := by rw [HX.out]; exact hlt
      have hbd := getD_bd hb hkl
      have HS : Hid (run (byt C (xs.getD k 0).toNat) ((nats xs).drop (k + 1)) = run ones (nats xs)) := by
        have := HD.out
        rw [nats_step hkl, run_cons] at this
        exact this
      obtain ⟨x, hx⟩ := Int.eq_ofNat_of_zero_le hbd.1
      rw [hx] at hcell hbd HS
      have hx1 : x < 256 := by omega
      simp only [Int.toNat_natCast] at HS
      have hxo := xor_u32 C x hC (by omega)
      clear HD hc hx hkl hbd
      go_wp2_with fail
      go_loop [3, 5] (fun cv j => ∃ (m D : Nat), m ≤ 8 ∧ j = .int .i64 m ∧ cv = .int .u32 (D : Nat) ∧ D < 4294967296 ∧ stn (8 - m) D = byt C x) (fun _ j => 8 - (intOf j).toNat)
      case atStart => exact ⟨0, C ^^^ x, by omega, rfl, rfl, Nat.xor_lt_two_pow (n := 32) hC (by omega), rfl⟩
      case round =>
        obtain ⟨m, D, hm, rfl, rfl, hD, hs⟩ := hrel
        have HQ : Hid _ := hs
        clear hs
        by_cases hm8 : m < 8
        · have HR : Hid (stn (8 - (m + 1)) (st D) = byt C x) := by
            have e : 8 - m = (8 - (m + 1)) + 1 := by omega
            have := HQ.out
            rw [e] at this
            exact this
          have hsl := st_lt hD
          clear HQ
          by_cases ho : D % 2 = 1
          · have h1 := st_odd D ho hD
            have h2 : ((D : Int) % 2 == 1) = true := beq_iff_eq.2 (by omega)
            clear ho
            go_wp2_with fail
            go_round
            case rel => exact ⟨m + 1, st D, by omega, by go_num, rfl, hsl, HR.out⟩
            case measure => simp [intOf]; omega
          · have h1 := st_even' D ho
            have h2 : ((D : Int) % 2 == 1) = false := beq_eq_false_iff_ne.2 (by omega)
            clear ho
            go_wp2_with fail
            go_round
            case rel => exact ⟨m + 1, st D, by omega, by go_num, rfl, hsl, HR.out⟩
            case measure => simp [intOf]; omega
        · have hm' : m = 8 := by omega
          subst hm'
          have HR : Hid (D = byt C x) := HQ.out
          clear HQ
          go_wp2_with fail
          go_round
          case rel => exact ⟨k + 1, D, by omega, by go_num, rfl, hD, by rw [HR.out]; exact HS.out⟩
          case measure => simp [intOf]; omega
    · have HV : Hid (C = run ones (nats xs)) := by
        have := HD.out
        rw [List.drop_eq_nil_of_le (by rw [nats_length, HX.out]; omega)] at this
        exact this
      have hno := not_u32 C hC
      clear HD hc
      go_wp2_with fail
      go_ret
      exact ⟨ret_int (by rw [sum, ← HV.out]), rfl⟩

theorem ref_empty (a : Option Addr) (c : Nat) (w : World) :
    Calls Tryd.prog 11 #[.slice a 0 c] w fun e w' => e = .returned (.int .u32 0) ∧ w = w' := by
  have hno := not_u32 4294967295 (by decide)
  go_enter Tryd.func11, Tryd.ntmps11
  go_wp2_with fail
  refine wp_loop_rounds 1 ?_
  rw [rounds_succ]
  go_wp2_with fail
  go_ret
  exact ⟨rfl, rfl⟩

theorem ref_sum (a : Option Addr) (n c : Nat) (xs : List Int) (w : World) (h : Has w a n c xs) (hb : Bytes xs) :
    Calls Tryd.prog 11 #[.slice a n c] w fun e w' => e = .returned (.int .u32 (sum (nats xs) : Nat)) ∧ w = w' := by
  have h1 := h.len
  have h2 := h.cap
  have h3 := h.max
  unfold maxLen at h3
  rcases Nat.eq_zero_or_pos n with h0 | h0
  · subst h0
    obtain rfl : xs = [] := List.eq_nil_of_length_eq_zero h1
    exact ref_empty a c w
  · obtain ⟨b, off, rfl, _, hc⟩ := h.cells h0
    exact ref_some b off n c xs w h1 (by omega) hb hc
end Crc
end Go.Proofs.YthnomabipbnnmaaDoor
