/- The contracts of crc.More and crc.Sum. -/
import Derived.Test.YthnomabipbnnmaaDoorCrcRef
import Derived.Test.YthnomabipbnnmaaDoorCrcTab
namespace Go.Proofs.YthnomabipbnnmaaDoor
namespace Crc
open Num
open Go.RowKit
set_option linter.unusedVariables false

theorem and15_u32 (D : Nat) (h : D < 4294967296) : bits .and .u32 (D : Int) 15 = (D : Int) % 16 := bits_mask .u32 32 (by decide) wraps_u32 4 (by decide) D (by omega) (by omega)
theorem step4_u32 (D : Nat) (h : D < 4294967296) : bits .xor .u32 ((D : Int) / 16) ((tb (D % 16) : Nat) : Int) = ((stn 4 D : Nat) : Int) := by
  rw [show ((D : Int) / 16) = ((D / 16 : Nat) : Int) by omega, xor_u32 _ _ (by omega) (tabn_lt _ (Nat.mod_lt _ (by decide))), stn4]
set_option maxHeartbeats 800000 in
theorem more_some (s : Nat) (hs0 : s < 4294967296) (b off n c : Nat) (xs : List Int) (w : World) (hl : xs.length = n) (hmax : n ≤ 9223372036854775807) (hb : Bytes xs)
    (hc : ∀ i, i < n → w.cell? ⟨b, off + i, none⟩ = some (.int .u8 (xs.getD i 0))) (T : Tab w) :
    Calls Tryd.prog 12 #[.int .u32 (s : Nat), .slice (some ⟨b, off, none⟩) n c] w fun e w' => e = .returned (.int .u32 (more s (nats xs) : Nat)) ∧ w = w' := by
  have HX : Hid (xs.length = n) := hl
  clear hl
  have hno0 := not_u32 s hs0
  go_enter Tryd.func12, Tryd.ntmps12
  go_wp2_with fail
  go_loop [5, 12, 7] (fun cv i _ => ∃ (k C : Nat), k ≤ n ∧ i = .int .i64 k ∧ cv = .int .u32 (C : Nat) ∧ C < 4294967296 ∧ run C ((nats xs).drop k) = run (inv s) (nats xs)) (fun _ i _ => n - (intOf i).toNat)
  case atStart => exact ⟨0, inv s, by omega, rfl, rfl, inv_lt hs0, rfl⟩
  case round =>
    obtain ⟨k, C, hk, rfl, rfl, hC, hd⟩ := hrel
    have HD : Hid _ := hd
    clear hd
    by_cases hlt : k < n
    · have hcell := hc k hlt
      have hkl : k < xs.length := by rw [HX.out]; exact hlt
      have hbd := getD_bd hb hkl
      have HS : Hid (run (byt C (xs.getD k 0).toNat) ((nats xs).drop (k + 1)) = run (inv s) (nats xs)) := by
        have := HD.out
        rw [nats_step hkl, run_cons] at this
        exact this
      obtain ⟨x, hx⟩ := Int.eq_ofNat_of_zero_le hbd.1
      rw [hx] at hcell hbd HS
      have hx1 : x < 256 := by omega
      simp only [Int.toNat_natCast] at HS
      have hxo := xor_u32 C x hC (by omega)
      have hd0 : C ^^^ x < 4294967296 := Nat.xor_lt_two_pow (n := 32) hC (by omega)
      have HB : Hid (byt C x = stn 4 (stn 4 (C ^^^ x))) := rfl
      generalize C ^^^ x = D at *
      have ha0 := and15_u32 D hd0
      have ht0 := T.cell (D % 16) (Nat.mod_lt _ (by decide))
      have hx0 := step4_u32 D hd0
      have hd1 : stn 4 D < 4294967296 := stn_lt 4 hd0
      generalize tb (D % 16) = t0 at *
      generalize stn 4 D = E at *
      have ha1 := and15_u32 E hd1
      have ht1 := T.cell (E % 16) (Nat.mod_lt _ (by decide))
      have hx2 := step4_u32 E hd1
      have hd2 : stn 4 E < 4294967296 := stn_lt 4 hd1
      generalize tb (E % 16) = t1 at *
      generalize stn 4 E = G at *
      clear HD hc hx hkl hbd
      go_wp2_with fail
      go_round
      case rel => exact ⟨k + 1, G, by omega, by go_num, rfl, hd2, by rw [← HB.out]; exact HS.out⟩
      case measure => simp [intOf]; omega
    · have HV : Hid (C = run (inv s) (nats xs)) := by
        have := HD.out
        rw [List.drop_eq_nil_of_le (by rw [nats_length, HX.out]; omega)] at this
        exact this
      have hno := not_u32 C hC
      clear HD hc
      go_wp2_with fail
      go_ret
      exact ⟨ret_int (by rw [more, ← HV.out]), rfl⟩


theorem more_empty (s : Nat) (hs0 : s < 4294967296) (a : Option Addr) (c : Nat) (w : World) :
    Calls Tryd.prog 12 #[.int .u32 (s : Nat), .slice a 0 c] w fun e w' => e = .returned (.int .u32 (s : Nat)) ∧ w = w' := by
  have hno0 := not_u32 s hs0
  have hno := not_u32 (inv s) (inv_lt hs0)
  rw [inv_inv] at hno
  go_enter Tryd.func12, Tryd.ntmps12
  go_wp2_with fail
  refine wp_loop_rounds 1 ?_
  rw [rounds_succ]
  go_wp2_with fail
  go_ret
  exact ⟨rfl, rfl⟩
theorem more_any (a : Option Addr) (n c : Nat) (xs : List Int) (S : Int) (s : Nat) (w : World) (h : Has w a n c xs) (hb : Bytes xs) (hs : s < 4294967296) (hS : S = s) (T : Tab w := by assumption) :
    Calls Tryd.prog 12 #[.int .u32 S, .slice a n c] w fun e w' => e = .returned (.int .u32 (more s (nats xs) : Nat)) ∧ w = w' := by
  subst hS
  have h1 := h.len
  have h2 := h.cap
  have h3 := h.max
  unfold maxLen at h3
  rcases Nat.eq_zero_or_pos n with h0 | h0
  · subst h0
    obtain rfl : xs = [] := List.eq_nil_of_length_eq_zero h1
    have e : more s (nats []) = s := inv_inv s
    rw [e]
    exact more_empty s hs a c w
  · obtain ⟨b, off, rfl, _, hc⟩ := h.cells h0
    exact more_some s hs b off n c xs w h1 (by omega) hb hc T
theorem sum_any (a : Option Addr) (n c : Nat) (xs : List Int) (w : World) (h : Has w a n c xs) (hb : Bytes xs) (T : Tab w := by assumption) :
    Calls Tryd.prog 10 #[.slice a n c] w fun e w' => e = .returned (.int .u32 (sum (nats xs) : Nat)) ∧ w = w' := by
  go_enter Tryd.func10, Tryd.ntmps10
  go_wp2_with fail
  refine (more_any a n c xs 0 0 _ h hb (by decide) rfl).mono ?_
  rintro e w1 ⟨rfl, rfl⟩
  go_wp2_with fail
  go_ret
  exact ⟨rfl, rfl⟩
end Crc
end Go.Proofs.YthnomabipbnnmaaDoor
