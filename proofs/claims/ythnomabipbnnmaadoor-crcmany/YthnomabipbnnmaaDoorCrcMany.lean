/- For all bytes and all cuts the law CrcMany answers true: a text that comes in any pieces has one sum; no condition on the input. -/
import Derived.Test.YthnomabipbnnmaaDoorCards
import Derived.Test.YthnomabipbnnmaaDoorTie
import Derived.Test.YthnomabipbnnmaaDoorCrcBegun
import Derived.WalkKit
import Derived.Deep.DeepHandedRow
import Derived.ProofKit
import Derived.OpenShut
import Derived.ShutString
import Derived.ChangeOld
import Derived.Below
namespace Go.Proofs.YthnomabipbnnmaaDoor
namespace CrcMany
open Num Crc
open Go.ChangeShapes Go.WideShapes Go.ChangeAt Go.RowKit
open Go.ChangeMaps (open_string shut_string)
set_option linter.unusedVariables false

theorem step (xs : List Int) (k t : Nat) (hk : k ≤ t) : more (sum (nats (xs.take k))) (nats ((xs.drop k).take (t - k))) = sum (nats (xs.take t)) := by
  rw [more_sum, ← nats_append]
  congr 2
  rw [← List.take_add, show k + (t - k) = t by omega]
theorem bytes_drop {xs : List Int} (h : Bytes xs) (k : Nat) : Bytes (xs.drop k) := fun x hx => h x (List.mem_of_mem_drop hx)
def Is64 (n : Int) : Prop := -9223372036854775808 ≤ n ∧ n ≤ 9223372036854775807
theorem tmod_bd (x : Int) : -40 < x.tmod 40 ∧ x.tmod 40 < 40 := by
  have h1 := Int.tmod_lt_of_pos x (show (0 : Int) < 40 by decide)
  have h2 := Int.lt_tmod_of_pos x (show (0 : Int) < 40 by decide)
  omega

set_option maxRecDepth 100000 in
set_option maxHeartbeats 1000000 in
theorem walk_empty (a0 : Option Addr) (cap0 : Nat) (v : Value) (w : World) (hcap : cap0 ≤ maxLen) (hnil : a0 = none → cap0 = 0) (T : Tab w := by assumption) :
    Calls Tryd.prog 6 #[.slice a0 0 cap0, v] w fun e w' => e = .returned (.bool true) ∧ Below w.heap.size w w' := by
  go_enter Tryd.func6, Tryd.ntmps6
  go_wp2_with fail
  refine (begun_any _).mono ?_
  rintro e w1 ⟨rfl, b1⟩
  have T1 := T.later b1
  go_wp2_with fail
  refine (sum_any none 0 0 [] _ (Has.none _) (by intro x hx; simp at hx)).mono ?_
  rintro e w2 ⟨rfl, rfl⟩
  go_wp2_with fail
  refine wp_loop_rounds 1 ?_
  rw [rounds_succ]
  go_wp2_with fail
  refine (sum_any a0 0 cap0 [] _ ⟨rfl, Nat.zero_le _, hcap, fun e => ⟨rfl, hnil e⟩, fun h => absurd h (by omega)⟩ (by intro x hx; simp at hx)).mono ?_
  rintro e w2 ⟨rfl, rfl⟩
  go_wp2_with fail
  go_ret
  exact ⟨rfl, b1⟩


set_option maxRecDepth 100000 in
set_option maxHeartbeats 2000000 in
theorem walk_shortNo (b0 off n cap m : Nat) (xs : List Int) (a1 : Option Addr) (c1 : Nat) (w : World) (hm : n ≤ 300 ∧ m = n) (hH0 : Has w (some ⟨b0, off, none⟩) m cap xs) (hnc : n ≤ cap) (hby : Bytes xs) (T : Tab w := by assumption) :
    Calls Tryd.prog 6 #[.slice (some ⟨b0, off, none⟩) n cap, .slice a1 0 c1] w fun e w' => e = .returned (.bool true) ∧ Below w.heap.size w w' := by
  have hcm := hH0.max
  unfold maxLen at hcm
  obtain ⟨hm, rfl⟩ := hm
  have hmb : decide ((300 : Int) < (m : Int)) = false := by simp; omega
  have hl := hH0.len
  have HL : Hid _ := hl
  clear hl
  go_enter Tryd.func6, Tryd.ntmps6
  go_wp2_with fail
  refine (begun_any _).mono ?_
  rintro e w1 ⟨rfl, b1⟩
  have T1 := T.later b1
  have hH := hH0.later b1
  skip
  clear hH0
  go_wp2_with fail
  refine (sum_any none 0 0 [] _ (Has.none _) (by intro x hx; simp at hx)).mono ?_
  rintro e w2 ⟨rfl, rfl⟩
  rw [show sum (nats []) = 0 from rfl]
  go_wp2_with fail
  go_loop [6, 7, 8, 9, 10] (fun s at' i _ _ => ∃ (k j : Nat), k ≤ m ∧ j ≤ k ∧ at' = .int .i64 k ∧ i = .int .i64 j ∧ s = .int .u32 (sum (nats (xs.take k)) : Nat)) (fun _ at' _ _ _ => m - (intOf at').toNat)
  case atStart => exact ⟨0, 0, by omega, by omega, rfl, rfl, by simp [nats, sum_nil]⟩
  case round =>
    obtain ⟨k, j, hk, hj, rfl, rfl, rfl⟩ := hrel
    by_cases hlt : k < m
    · have hne : ¬ cap = k := by omega
      have hslt := sum_lt (nats (xs.take k)) (nats_small _ (bytes_take hby k))
      by_cases hT : ((m : Nat) : Int) ≤ (k : Int) + 1
      · go_wp2_with fail
        refine (more_any _ _ _ ((xs.drop k).take (m - k)) _ _ _ ((hH.drop k (by omega)).take (m - k) (by omega)) (bytes_take (bytes_drop hby k) _) hslt rfl).mono ?_
        rintro e w2 ⟨rfl, rfl⟩
        rw [step xs k m (by omega)]
        go_wp2_with fail
        go_round
        case rel => exact ⟨m, j + 1, by omega, by omega, rfl, by go_num, rfl⟩
        case measure => simp [intOf]; omega
      · go_wp2_with fail
        refine (more_any _ _ _ ((xs.drop k).take 1) _ _ _ ((hH.drop k (by omega)).take 1 (by omega)) (bytes_take (bytes_drop hby k) _) hslt rfl).mono ?_
        rintro e w2 ⟨rfl, rfl⟩
        rw [show 1 = k + 1 - k by omega, step xs k (k + 1) (by omega)]
        go_wp2_with fail
        go_round
        case rel => exact ⟨k + 1, j + 1, by omega, by omega, by go_num, by go_num, rfl⟩
        case measure => simp [intOf]; omega
    · have hkm : m = k := by omega
      subst hkm
      rw [List.take_of_length_le (by rw [HL.out]; exact Nat.le_refl _)]
      go_wp2_with fail
      refine (sum_any _ _ _ xs _ hH hby).mono ?_
      rintro e w2 ⟨rfl, rfl⟩
      go_wp2_with fail
      go_ret
      exact ⟨rfl, b1⟩

set_option maxRecDepth 100000 in
set_option maxHeartbeats 2000000 in
theorem walk_longNo (b0 off n cap m : Nat) (xs : List Int) (a1 : Option Addr) (c1 : Nat) (w : World) (hm : 300 < n ∧ m = 300) (hH0 : Has w (some ⟨b0, off, none⟩) m cap xs) (hnc : n ≤ cap) (hby : Bytes xs) (T : Tab w := by assumption) :
    Calls Tryd.prog 6 #[.slice (some ⟨b0, off, none⟩) n cap, .slice a1 0 c1] w fun e w' => e = .returned (.bool true) ∧ Below w.heap.size w w' := by
  have hcm := hH0.max
  unfold maxLen at hcm
  obtain ⟨hm, rfl⟩ := hm
  have hmb : decide ((300 : Int) < (n : Int)) = true := by simp; omega
  have hl := hH0.len
  have HL : Hid _ := hl
  clear hl
  go_enter Tryd.func6, Tryd.ntmps6
  go_wp2_with fail
  refine (begun_any _).mono ?_
  rintro e w1 ⟨rfl, b1⟩
  have T1 := T.later b1
  have hH := hH0.later b1
  skip
  clear hH0
  go_wp2_with fail
  refine (sum_any none 0 0 [] _ (Has.none _) (by intro x hx; simp at hx)).mono ?_
  rintro e w2 ⟨rfl, rfl⟩
  rw [show sum (nats []) = 0 from rfl]
  go_wp2_with fail
  go_loop [6, 7, 8, 9, 10] (fun s at' i _ _ => ∃ (k j : Nat), k ≤ 300 ∧ j ≤ k ∧ at' = .int .i64 k ∧ i = .int .i64 j ∧ s = .int .u32 (sum (nats (xs.take k)) : Nat)) (fun _ at' _ _ _ => 300 - (intOf at').toNat)
  case atStart => exact ⟨0, 0, by omega, by omega, rfl, rfl, by simp [nats, sum_nil]⟩
  case round =>
    obtain ⟨k, j, hk, hj, rfl, rfl, rfl⟩ := hrel
    by_cases hlt : k < 300
    · have hne : ¬ cap = k := by omega
      have hslt := sum_lt (nats (xs.take k)) (nats_small _ (bytes_take hby k))
      by_cases hT : ((300 : Nat) : Int) ≤ (k : Int) + 1
      · go_wp2_with fail
        refine (more_any _ _ _ ((xs.drop k).take (300 - k)) _ _ _ ((hH.drop k (by omega)).take (300 - k) (by omega)) (bytes_take (bytes_drop hby k) _) hslt rfl).mono ?_
        rintro e w2 ⟨rfl, rfl⟩
        rw [step xs k 300 (by omega)]
        go_wp2_with fail
        go_round
        case rel => exact ⟨300, j + 1, by omega, by omega, rfl, by go_num, rfl⟩
        case measure => simp [intOf]; omega
      · go_wp2_with fail
        refine (more_any _ _ _ ((xs.drop k).take 1) _ _ _ ((hH.drop k (by omega)).take 1 (by omega)) (bytes_take (bytes_drop hby k) _) hslt rfl).mono ?_
        rintro e w2 ⟨rfl, rfl⟩
        rw [show 1 = k + 1 - k by omega, step xs k (k + 1) (by omega)]
        go_wp2_with fail
        go_round
        case rel => exact ⟨k + 1, j + 1, by omega, by omega, by go_num, by go_num, rfl⟩
        case measure => simp [intOf]; omega
    · have hkm : 300 = k := by omega
      subst hkm
      rw [List.take_of_length_le (by rw [HL.out]; exact Nat.le_refl _)]
      go_wp2_with fail
      refine (sum_any _ _ _ xs _ hH hby).mono ?_
      rintro e w2 ⟨rfl, rfl⟩
      go_wp2_with fail
      go_ret
      exact ⟨rfl, b1⟩

set_option maxRecDepth 100000 in
set_option maxHeartbeats 2000000 in
theorem walk_short (b0 off n cap m : Nat) (xs : List Int) (b1 off1 n1 c1 : Nat) (zs : List Int) (w : World) (hm : n ≤ 300 ∧ m = n) (hH0 : Has w (some ⟨b0, off, none⟩) m cap xs) (hnc : n ≤ cap) (hby : Bytes xs) (hb1 : b1 < w.heap.size) (hn1 : n1 ≤ 9223372036854775807) (hzw : ∀ i : Nat, Is64 (zs.getD i 0)) (hz : ∀ i, i < n1 → w.cell? ⟨b1, off1 + i, none⟩ = some (.int .i64 (zs.getD i 0))) (T : Tab w := by assumption) :
    Calls Tryd.prog 6 #[.slice (some ⟨b0, off, none⟩) n cap, .slice (some ⟨b1, off1, none⟩) n1 c1] w fun e w' => e = .returned (.bool true) ∧ Below w.heap.size w w' := by
  have hcm := hH0.max
  unfold maxLen at hcm
  obtain ⟨hm, rfl⟩ := hm
  have hmb : decide ((300 : Int) < (m : Int)) = false := by simp; omega
  have hl := hH0.len
  have HL : Hid _ := hl
  clear hl
  go_enter Tryd.func6, Tryd.ntmps6
  go_wp2_with fail
  refine (begun_any _).mono ?_
  rintro e w1 ⟨rfl, b1'⟩
  have T1 := T.later b1'
  have hH := hH0.later b1'
  have hz1 : ∀ i, i < n1 → w1.cell? ⟨b1, off1 + i, none⟩ = some (.int .i64 (zs.getD i 0)) := fun i hi => (b1'.cell (p := ⟨b1, off1 + i, none⟩) hb1).trans (hz i hi)
  clear hz
  clear hH0
  go_wp2_with fail
  refine (sum_any none 0 0 [] _ (Has.none _) (by intro x hx; simp at hx)).mono ?_
  rintro e w2 ⟨rfl, rfl⟩
  rw [show sum (nats []) = 0 from rfl]
  go_wp2_with fail
  go_loop [6, 7, 8, 9, 10] (fun s at' i _ _ => ∃ (k j : Nat), k ≤ m ∧ j ≤ k ∧ at' = .int .i64 k ∧ i = .int .i64 j ∧ s = .int .u32 (sum (nats (xs.take k)) : Nat)) (fun _ at' _ _ _ => m - (intOf at').toNat)
  case atStart => exact ⟨0, 0, by omega, by omega, rfl, rfl, by simp [nats, sum_nil]⟩
  case round =>
    obtain ⟨k, j, hk, hj, rfl, rfl, rfl⟩ := hrel
    by_cases hlt : k < m
    · have hne : ¬ cap = k := by omega
      have hslt := sum_lt (nats (xs.take k)) (nats_small _ (bytes_take hby k))
      by_cases hjc : j < n1
      · have hcell := hz1 j hjc
        have hx64 := hzw j
        have htm := tmod_bd (zs.getD j 0)
        generalize zs.getD j 0 = x at *
        obtain ⟨ν, hν⟩ := Int.eq_ofNat_of_zero_le (show 0 ≤ 1 + x.tmod 40 % 40 by omega)
        have hν1 : 1 ≤ ν := by omega
        have hν2 : ν ≤ 40 := by omega
        obtain ⟨hx1, hx2⟩ := hx64
        obtain ⟨ht1, ht2⟩ := htm
        clear hz1
        by_cases hT : ((m : Nat) : Int) ≤ (k : Int) + ν
        · go_wp2_with fail
          refine (more_any _ _ _ ((xs.drop k).take (m - k)) _ _ _ ((hH.drop k (by omega)).take (m - k) (by omega)) (bytes_take (bytes_drop hby k) _) hslt rfl).mono ?_
          rintro e w2 ⟨rfl, rfl⟩
          rw [step xs k m (by omega)]
          go_wp2_with fail
          go_round
          case rel => exact ⟨m, j + 1, by omega, by omega, rfl, by go_num, rfl⟩
          case measure => simp [intOf]; omega
        · go_wp2_with fail
          refine (more_any _ _ _ ((xs.drop k).take ν) _ _ _ ((hH.drop k (by omega)).take ν (by omega)) (bytes_take (bytes_drop hby k) _) hslt rfl).mono ?_
          rintro e w2 ⟨rfl, rfl⟩
          rw [show ν = k + ν - k by omega, step xs k (k + ν) (by omega)]
          go_wp2_with fail
          go_round
          case rel => exact ⟨k + ν, j + 1, by omega, by omega, by go_num, by go_num, rfl⟩
          case measure => simp [intOf]; omega
      · by_cases hT : ((m : Nat) : Int) ≤ (k : Int) + 1
        · go_wp2_with fail
          refine (more_any _ _ _ ((xs.drop k).take (m - k)) _ _ _ ((hH.drop k (by omega)).take (m - k) (by omega)) (bytes_take (bytes_drop hby k) _) hslt rfl).mono ?_
          rintro e w2 ⟨rfl, rfl⟩
          rw [step xs k m (by omega)]
          go_wp2_with fail
          go_round
          case rel => exact ⟨m, j + 1, by omega, by omega, rfl, by go_num, rfl⟩
          case measure => simp [intOf]; omega
        · go_wp2_with fail
          refine (more_any _ _ _ ((xs.drop k).take 1) _ _ _ ((hH.drop k (by omega)).take 1 (by omega)) (bytes_take (bytes_drop hby k) _) hslt rfl).mono ?_
          rintro e w2 ⟨rfl, rfl⟩
          rw [show 1 = k + 1 - k by omega, step xs k (k + 1) (by omega)]
          go_wp2_with fail
          go_round
          case rel => exact ⟨k + 1, j + 1, by omega, by omega, by go_num, by go_num, rfl⟩
          case measure => simp [intOf]; omega
    · have hkm : m = k := by omega
      subst hkm
      rw [List.take_of_length_le (by rw [HL.out]; exact Nat.le_refl _)]
      go_wp2_with fail
      refine (sum_any _ _ _ xs _ hH hby).mono ?_
      rintro e w2 ⟨rfl, rfl⟩
      go_wp2_with fail
      go_ret
      exact ⟨rfl, b1'⟩

set_option maxRecDepth 100000 in
set_option maxHeartbeats 2000000 in
theorem walk_long (b0 off n cap m : Nat) (xs : List Int) (b1 off1 n1 c1 : Nat) (zs : List Int) (w : World) (hm : 300 < n ∧ m = 300) (hH0 : Has w (some ⟨b0, off, none⟩) m cap xs) (hnc : n ≤ cap) (hby : Bytes xs) (hb1 : b1 < w.heap.size) (hn1 : n1 ≤ 9223372036854775807) (hzw : ∀ i : Nat, Is64 (zs.getD i 0)) (hz : ∀ i, i < n1 → w.cell? ⟨b1, off1 + i, none⟩ = some (.int .i64 (zs.getD i 0))) (T : Tab w := by assumption) :
    Calls Tryd.prog 6 #[.slice (some ⟨b0, off, none⟩) n cap, .slice (some ⟨b1, off1, none⟩) n1 c1] w fun e w' => e = .returned (.bool true) ∧ Below w.heap.size w w' := by
  have hcm := hH0.max
  unfold maxLen at hcm
  obtain ⟨hm, rfl⟩ := hm
  have hmb : decide ((300 : Int) < (n : Int)) = true := by simp; omega
  have hl := hH0.len
  have HL : Hid _ := hl
  clear hl
  go_enter Tryd.func6, Tryd.ntmps6
  go_wp2_with fail
  refine (begun_any _).mono ?_
  rintro e w1 ⟨rfl, b1'⟩
  have T1 := T.later b1'
  have hH := hH0.later b1'
  have hz1 : ∀ i, i < n1 → w1.cell? ⟨b1, off1 + i, none⟩ = some (.int .i64 (zs.getD i 0)) := fun i hi => (b1'.cell (p := ⟨b1, off1 + i, none⟩) hb1).trans (hz i hi)
  clear hz
  clear hH0
  go_wp2_with fail
  refine (sum_any none 0 0 [] _ (Has.none _) (by intro x hx; simp at hx)).mono ?_
  rintro e w2 ⟨rfl, rfl⟩
  rw [show sum (nats []) = 0 from rfl]
  go_wp2_with fail
  go_loop [6, 7, 8, 9, 10] (fun s at' i _ _ => ∃ (k j : Nat), k ≤ 300 ∧ j ≤ k ∧ at' = .int .i64 k ∧ i = .int .i64 j ∧ s = .int .u32 (sum (nats (xs.take k)) : Nat)) (fun _ at' _ _ _ => 300 - (intOf at').toNat)
  case atStart => exact ⟨0, 0, by omega, by omega, rfl, rfl, by simp [nats, sum_nil]⟩
  case round =>
    obtain ⟨k, j, hk, hj, rfl, rfl, rfl⟩ := hrel
    by_cases hlt : k < 300
    · have hne : ¬ cap = k := by omega
      have hslt := sum_lt (nats (xs.take k)) (nats_small _ (bytes_take hby k))
      by_cases hjc : j < n1
      · have hcell := hz1 j hjc
        have hx64 := hzw j
        have htm := tmod_bd (zs.getD j 0)
        generalize zs.getD j 0 = x at *
        obtain ⟨ν, hν⟩ := Int.eq_ofNat_of_zero_le (show 0 ≤ 1 + x.tmod 40 % 40 by omega)
        have hν1 : 1 ≤ ν := by omega
        have hν2 : ν ≤ 40 := by omega
        obtain ⟨hx1, hx2⟩ := hx64
        obtain ⟨ht1, ht2⟩ := htm
        clear hz1
        by_cases hT : ((300 : Nat) : Int) ≤ (k : Int) + ν
        · go_wp2_with fail
          refine (more_any _ _ _ ((xs.drop k).take (300 - k)) _ _ _ ((hH.drop k (by omega)).take (300 - k) (by omega)) (bytes_take (bytes_drop hby k) _) hslt rfl).mono ?_
          rintro e w2 ⟨rfl, rfl⟩
          rw [step xs k 300 (by omega)]
          go_wp2_with fail
          go_round
          case rel => exact ⟨300, j + 1, by omega, by omega, rfl, by go_num, rfl⟩
          case measure => simp [intOf]; omega
        · go_wp2_with fail
          refine (more_any _ _ _ ((xs.drop k).take ν) _ _ _ ((hH.drop k (by omega)).take ν (by omega)) (bytes_take (bytes_drop hby k) _) hslt rfl).mono ?_
          rintro e w2 ⟨rfl, rfl⟩
          rw [show ν = k + ν - k by omega, step xs k (k + ν) (by omega)]
          go_wp2_with fail
          go_round
          case rel => exact ⟨k + ν, j + 1, by omega, by omega, by go_num, by go_num, rfl⟩
          case measure => simp [intOf]; omega
      · by_cases hT : ((300 : Nat) : Int) ≤ (k : Int) + 1
        · go_wp2_with fail
          refine (more_any _ _ _ ((xs.drop k).take (300 - k)) _ _ _ ((hH.drop k (by omega)).take (300 - k) (by omega)) (bytes_take (bytes_drop hby k) _) hslt rfl).mono ?_
          rintro e w2 ⟨rfl, rfl⟩
          rw [step xs k 300 (by omega)]
          go_wp2_with fail
          go_round
          case rel => exact ⟨300, j + 1, by omega, by omega, rfl, by go_num, rfl⟩
          case measure => simp [intOf]; omega
        · go_wp2_with fail
          refine (more_any _ _ _ ((xs.drop k).take 1) _ _ _ ((hH.drop k (by omega)).take 1 (by omega)) (bytes_take (bytes_drop hby k) _) hslt rfl).mono ?_
          rintro e w2 ⟨rfl, rfl⟩
          rw [show 1 = k + 1 - k by omega, step xs k (k + 1) (by omega)]
          go_wp2_with fail
          go_round
          case rel => exact ⟨k + 1, j + 1, by omega, by omega, by go_num, by go_num, rfl⟩
          case measure => simp [intOf]; omega
    · have hkm : 300 = k := by omega
      subst hkm
      rw [List.take_of_length_le (by rw [HL.out]; exact Nat.le_refl _)]
      go_wp2_with fail
      refine (sum_any _ _ _ xs _ hH hby).mono ?_
      rintro e w2 ⟨rfl, rfl⟩
      go_wp2_with fail
      go_ret
      exact ⟨rfl, b1'⟩

theorem walk (a0 : Option Addr) (len0 cap0 : Nat) (z0 : List Int) (a1 : Option Addr) (len1 cap1 : Nat) (z1 : List Int) (w : World)
    (w0 : IsRow .u8 w a0 len0 cap0 z0) (w1 : IsRow .i64 w a1 len1 cap1 z1) (T : Tab w := by assumption) :
    Calls Tryd.prog 6 #[.slice a0 len0 cap0, .slice a1 len1 cap1] w fun e w' => e = .returned (.bool true) ∧ Below w.heap.size w w' := by
  obtain ⟨hA, bA⟩ := w0.has
  rcases Nat.eq_zero_or_pos len0 with h0 | h0
  · subst h0
    exact walk_empty a0 cap0 _ w hA.max (fun e => (hA.nil e).2)
  · obtain ⟨b0, off, rfl, _, _⟩ := hA.cells h0
    rcases Nat.eq_zero_or_pos len1 with h1 | h1
    · subst h1
      by_cases h300 : len0 ≤ 300
      · exact walk_shortNo b0 off len0 cap0 len0 (z0.take len0) a1 cap1 w ⟨h300, rfl⟩ hA hA.cap bA
      · exact walk_longNo b0 off len0 cap0 300 ((z0.take len0).take 300) a1 cap1 w ⟨by omega, rfl⟩ (hA.take 300 (by omega)) hA.cap (bytes_take bA 300)
    · rcases w1 with ⟨_, h, _, _⟩ | ⟨x, rfl, hl, hm, hz, hc, hw⟩
      · omega
      · obtain ⟨b1, off1, rfl, hcc⟩ := ints_at hc (by omega)
        have hb1 : b1 < w.heap.size := World.block_lt_of_cell? w ⟨b1, off1 + 0, none⟩ (hcc 0 (by omega))
        have hzw : ∀ i : Nat, Is64 (z1.getD i 0) := fun i => by
          have := range_i64 hw i
          simpa [Is64, List.getD] using this
        have hzc : ∀ i, i < len1 → w.cell? ⟨b1, off1 + i, none⟩ = some (.int .i64 (z1.getD i 0)) := fun i hi => hcc i (by omega)
        unfold maxLen at hm
        by_cases h300 : len0 ≤ 300
        · exact walk_short b0 off len0 cap0 len0 (z0.take len0) b1 off1 len1 cap1 z1 w ⟨h300, rfl⟩ hA hA.cap bA hb1 (by omega) hzw hzc
        · exact walk_long b0 off len0 cap0 300 ((z0.take len0).take 300) b1 off1 len1 cap1 z1 w ⟨by omega, rfl⟩ (hA.take 300 (by omega)) hA.cap (bytes_take bA 300) hb1 (by omega) hzw hzc

/-! ### The row -/
theorem own : ownKnob Tryd.prog.godebug = none := by kernel_rfl
theorem laidOut : laidOutB Tryd.prog = true := by kernel_rfl
theorem contract (H : Type) (enc : TypeId × Value → H) (W : World) (base : Nat) (args : Array Value) (ds gs : List (DataW H)) (before : List MemPlace)
    (hval0 : ∀ (j : Nat) t v, Tryd.f6.params[j]? = some t → args[j]? = some v → Value.okWide Tryd.prog W .any base t v)
    (hW : DataW.Whole enc Tryd.prog Tryd.f6.params.toList Rows.crcManySpec.vars false W args.toList ds gs before) (hL : laidMetH Tryd.prog Rows.crcManyRow.laid W) :
    Calls Tryd.prog 6 args W fun e W' => ∃ v, e = .returned v ∧ Rows.crcManySpec.post enc Tryd.prog Tryd.f6 false true false false W args v W' := by
  have hval : ∀ (j : Nat) t v, Tryd.f6.params[j]? = some t → args[j]? = some v → Value.okWide Tryd.prog W .any base t v := hval0
  have T : Tab W := tabOf hL
  have hW' := hW
  obtain ⟨p, q, hA0, hV, rfl, hfz, hnd⟩ := hW
  have hA : DataW.TrodAll enc Tryd.prog W 0 (fun _ => true) true Tryd.f6.params.toList args.toList ds p := hA0
  rw [Tryd.params6] at hA hval
  obtain ⟨v0, vs0, d0, ds0, p0, q0, hargs, rfl, rfl, h0, r0⟩ := trodAll_cons hA
  obtain ⟨v1, vs1, d1, ds1, p1, q1, rfl, rfl, rfl, h1, r1⟩ := trodAll_cons r0
  obtain ⟨rfl, rfl, rfl⟩ := trodAll_nil r1
  obtain rfl : args = #[v0, v1] := by cases args; simp_all
  obtain ⟨rfl, rfl⟩ := trodVars_none hV
  obtain ⟨a0, len0, cap0, rfl⟩ := okWide_slice Tryd.underlying22 (hval 0 22 v0 rfl rfl)
  have k0 := h0
  have lt0 : ∀ x ∈ p0, x.block < W.heap.size := by obtain ⟨m, hm⟩ := k0; exact DataW.trod_lt m _ _ _ hm
  obtain ⟨z0, w0⟩ : ∃ zs, IsRow .u8 W a0 len0 cap0 zs := by
    obtain ⟨fuel, hf⟩ := h0
    rcases open_ints Tryd.underlying22 Tryd.underlying5 (by kernel_rfl) hf with ⟨hcs, _⟩ | ⟨x, l, c, zs, hcs, _, hl, hm, hz, _, hcell, hwz⟩
    · simp [Value.cells] at hcs
      obtain ⟨rfl, rfl, rfl⟩ := hcs
      exact ⟨[], .inl ⟨rfl, rfl, rfl, rfl⟩⟩
    · simp [Value.cells] at hcs
      obtain ⟨rfl, rfl, rfl⟩ := hcs
      exact ⟨zs, .inr ⟨_, rfl, hl, hm, by simpa using hz, hcell, hwz⟩⟩
  obtain ⟨a1, len1, cap1, rfl⟩ := okWide_slice Tryd.underlying32 (hval 1 32 v1 rfl rfl)
  have k1 := h1
  have lt1 : ∀ x ∈ p1, x.block < W.heap.size := by obtain ⟨m, hm⟩ := k1; exact DataW.trod_lt m _ _ _ hm
  obtain ⟨z1, w1⟩ : ∃ zs, IsRow .i64 W a1 len1 cap1 zs := by
    obtain ⟨fuel, hf⟩ := h1
    rcases open_ints Tryd.underlying32 Tryd.underlying3 (by kernel_rfl) hf with ⟨hcs, _⟩ | ⟨x, l, c, zs, hcs, _, hl, hm, hz, _, hcell, hwz⟩
    · simp [Value.cells] at hcs
      obtain ⟨rfl, rfl, rfl⟩ := hcs
      exact ⟨[], .inl ⟨rfl, rfl, rfl, rfl⟩⟩
    · simp [Value.cells] at hcs
      obtain ⟨rfl, rfl, rfl⟩ := hcs
      exact ⟨zs, .inr ⟨_, rfl, hl, hm, by simpa using hz, hcell, hwz⟩⟩
  clear hA0 hval0
  refine (walk a0 len0 cap0 z0 a1 len1 cap1 z1 W w0 w1 T).mono fun e W' ⟨he, bel⟩ => ?_
  subst he
  exact ⟨_, rfl, _, _, _, [], _, [], hW', trodAll_mk1 (shut_bool Tryd.underlying4 _), (trodAll_cons_mk (Below.trod laidOut (by kernel_rfl) (of_decide_eq_true (by kernel_rfl)) k0 bel lt0) (trodAll_cons_mk (Below.trod laidOut (by kernel_rfl) (of_decide_eq_true (by kernel_rfl)) k1 bel lt1) trodAll_mk0)), rfl, bel.frame _, fun h => by cases h⟩
theorem laid_met (os : Os) : laidMet Tryd.prog Rows.crcManyRow.laid ((layTab (World.holding Tryd.prog os ⟨#[], #[], []⟩)).forCall (fun _ _ => 0) ⟨#[], #[.slice none 0 0, .slice none 0 0], []⟩).memory :=
  laidMet_of_run' 8 (by kernel_rfl) (by kernel_rfl)
theorem reads (os : Os) {H : Type} (enc : TypeId × Value → H) : ∃ places, DataW.whole enc Tryd.prog ((layTab (World.holding Tryd.prog os ⟨#[], #[], []⟩)).forCall (fun _ _ => 0) ⟨#[], #[.slice none 0 0, .slice none 0 0], []⟩).memory Tryd.f6.params.toList Rows.crcManySpec.vars false (#[.slice none 0 0, .slice none 0 0] : Array Value).toList 8 = some ([.nil, .nil], [], places) :=
  ⟨[], by kernel_rfl⟩
set_option maxRecDepth 100000 in
theorem lifted (os : Os) (started : os.Started) (H : Type) (enc : TypeId × Value → H) (F : Stop.Interp) :
    ReturnsInHanded {} Tryd.checked os 6 .any ((OpenSpec.ofChange Rows.crcManySpec).preRow enc Tryd.prog Tryd.f6 Rows.crcManyRow.domain false Rows.crcManyRow.laid) (((OpenSpec.ofChange Rows.crcManySpec).at F).post enc Tryd.prog Tryd.f6 false true false false) := by
  obtain ⟨places, hx⟩ := reads os enc
  refine returnsInHanded_of_row (C := Tryd.checked) (s := OpenSpec.ofChange Rows.crcManySpec) own started (by kernel_rfl) Tryd.func6
    (witness_row_at (enc := enc) (C := Tryd.checked) false (layTab (World.holding Tryd.prog os ⟨#[], #[], []⟩)) #[.slice none 0 0, .slice none 0 0] rfl (by kernel_rfl) (by kernel_rfl) (by kernel_rfl)
      (OpenSpec.preRow_of_cond 8 hx (by kernel_rfl) (fun k hk => by cases hk) (by kernel_rfl) (laid_met os))) ?_
  intro W base args ds gs before hval hW _ _ _ hL _ _
  exact contract H enc W base args ds gs before hval hW hL
theorem said : Rows.CrcManySaid :=
  OpenClaim.holds_of_cond 6 Tryd.f6 rfl rfl rfl rfl rfl rfl rfl ⟨rfl, rfl, rfl, rfl, rfl⟩ rfl rfl rfl rfl rfl (by kernel_rfl) Tryd.func6 (by kernel_rfl)
    (of_decide_eq_true (by kernel_rfl)) (by unfold Func.isWrapper; first | (rw [if_pos (by decide +kernel)]; kernel_rfl) | (rw [if_neg (by decide +kernel)]; exact ⟨rfl, rfl⟩))
    (fun os started H enc _ F => by rw [OpenClaim.pre_eq_preRow]; exact lifted os started H enc F)
theorem plain (f : FuncId) (fn : Func) (hf : Tryd.pinned.checked.prog.funcNamed "daguerre/daguerrelaw2.CrcMany" = some f) (hfn : Tryd.pinned.checked.prog.funcs[f]? = some fn) :
    false = Tryd.pinned.checked.prog.looks [] ∧ ∀ (j : Nat) t, fn.params[j]? = some t → Tryd.pinned.checked.prog.wantsStandIn t = false := by
  obtain rfl : f = 6 := Option.some.inj ((show Tryd.prog.funcNamed "daguerre/daguerrelaw2.CrcMany" = some 6 by kernel_rfl).symm.trans hf) |>.symm
  obtain rfl : fn = Tryd.f6 := (Option.some.inj (Tryd.func6.symm.trans hfn)).symm
  refine ⟨by kernel_rfl, fun j t ht => ?_⟩
  rw [Tryd.params6] at ht
  have hm := Array.mem_of_getElem? ht
  simp only [List.mem_toArray, List.mem_cons, List.not_mem_nil, or_false] at hm
  rcases hm with rfl | rfl
  · exact (show Tryd.prog.wantsStandIn 22 = false by kernel_rfl)
  · exact (show Tryd.prog.wantsStandIn 32 = false by kernel_rfl)
theorem card : Rows.CrcManyCardSaid :=
  Claim7.holds_tied_plain_at .later [] _ _ _ _ said (fun _ h => by cases h) (by kernel_rfl) (fun _ h => by cases h) crcMany_row_tie rfl ⟨rfl, rfl⟩ (by kernel_rfl) rfl plain (by kernel_rfl)

end CrcMany

theorem crcMany_holds : Rows.CrcManyCardSaid := CrcMany.card
#print axioms crcMany_holds
end Go.Proofs.YthnomabipbnnmaaDoor
