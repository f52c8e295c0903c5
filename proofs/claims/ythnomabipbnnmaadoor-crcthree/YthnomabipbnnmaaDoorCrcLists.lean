/- Plain facts on a text of which some bytes behind one another were changed (no program in them). -/
import Derived.Test.YthnomabipbnnmaaDoorCrcMath
namespace Go.Proofs.YthnomabipbnnmaaDoor
namespace Crc
set_option linter.unusedVariables false

/-- B, of which k bytes from 'at' on are those of X in exclusive or. -/
def cl (B X : List Nat) (p k : Nat) : List Nat := (List.range B.length).map fun j => if p ≤ j ∧ j < p + k then B.getD j 0 ^^^ X.getD (j - p) 0 else B.getD j 0
theorem cl_length (B X : List Nat) (p k : Nat) : (cl B X p k).length = B.length := by simp [cl]
theorem cl_getElem? (B X : List Nat) (p k j : Nat) (hj : j < B.length) : (cl B X p k)[j]? = some (if p ≤ j ∧ j < p + k then B.getD j 0 ^^^ X.getD (j - p) 0 else B.getD j 0) := by
  simp [cl, List.getElem?_range hj]
theorem cl_zero (B X : List Nat) (p : Nat) : cl B X p 0 = B := by
  apply List.ext_getElem?
  intro j
  by_cases hj : j < B.length
  · rw [cl_getElem? B X p 0 j hj, if_neg (by omega)]
    simp [List.getD, List.getElem?_eq_getElem hj]
  · rw [List.getElem?_eq_none (by rw [cl_length]; omega), List.getElem?_eq_none (by omega)]
theorem cl_getD (B X : List Nat) (p k : Nat) (h : p + k < B.length) : (cl B X p k).getD (p + k) 0 = B.getD (p + k) 0 := by
  rw [List.getD, cl_getElem? B X p k (p + k) h, if_neg (by omega)]
  rfl
theorem cl_step (B X : List Nat) (p k : Nat) (h : p + k < B.length) : (cl B X p k).set (p + k) (B.getD (p + k) 0 ^^^ X.getD k 0) = cl B X p (k + 1) := by
  apply List.ext_getElem?
  intro j
  by_cases hj : j < B.length
  · rw [cl_getElem? B X p (k + 1) j hj, List.getElem?_set]
    by_cases e : p + k = j
    · subst e
      rw [if_pos rfl, if_pos (by rw [cl_length]; exact hj), if_pos (by omega), show p + k - p = k by omega]
    · rw [if_neg e, cl_getElem? B X p k j hj]
      by_cases h1 : p ≤ j ∧ j < p + k
      · rw [if_pos h1, if_pos (by omega)]
      · rw [if_neg h1, if_neg (by omega)]
  · rw [List.getElem?_eq_none (by rw [List.length_set, cl_length]; omega), List.getElem?_eq_none (by rw [cl_length]; omega)]
theorem ints_set (L : List Nat) (j v : Nat) : (ints L).set j (v : Int) = ints (L.set j v) := by simp [ints, List.map_set]
theorem xorL_getElem? (a b : List Nat) (j : Nat) (ha : j < a.length) (hb : j < b.length) : (xorL a b)[j]? = some (a.getD j 0 ^^^ b.getD j 0) := by
  simp [xorL, List.getElem?_zipWith, List.getD, List.getElem?_eq_getElem ha, List.getElem?_eq_getElem hb]
theorem xor_xor (a b : Nat) : a ^^^ (a ^^^ b) = b := by rw [← Nat.xor_assoc, Nat.xor_self, Nat.zero_xor]
theorem cl_xor (B X : List Nat) (p : Nat) (h : p + X.length ≤ B.length) : xorL B (cl B X p X.length) = List.replicate p 0 ++ (X ++ List.replicate (B.length - p - X.length) 0) := by
  apply List.ext_getElem?
  intro j
  have hl := cl_length B X p X.length
  by_cases hj : j < B.length
  · rw [xorL_getElem? B _ j hj (by omega), List.getD_eq_getElem?_getD (l := cl B X p X.length), cl_getElem? B X p X.length j hj]
    by_cases h1 : j < p
    · rw [if_neg (by omega), List.getElem?_append_left (by simpa using h1)]
      simp [h1]
    · rw [List.getElem?_append_right (by simp; omega)]
      simp only [List.length_replicate]
      by_cases h2 : j < p + X.length
      · rw [if_pos (by omega), List.getElem?_append_left (by omega)]
        simp only [Option.getD_some]
        rw [xor_xor, List.getD, List.getElem?_eq_getElem (by omega)]
        rfl
      · rw [if_neg (by omega), List.getElem?_append_right (by omega)]
        simp only [Option.getD_some, Nat.xor_self]
        rw [List.getElem?_replicate, if_pos (by omega)]
  · rw [List.getElem?_eq_none (by rw [xorL_length _ _ hl.symm]; omega), List.getElem?_eq_none (by simp; omega)]
theorem cl_burst (B X : List Nat) (p : Nat) (h : p + X.length ≤ B.length) (hX : Small X) (hl : X.length ≤ 4) (hs : ∃ y ∈ X, y ≠ 0) : sum B ≠ sum (cl B X p X.length) := by
  refine sum_ne (cl_length B X p X.length).symm ?_
  rw [cl_xor B X p h]
  exact burst p _ X hX hl hs
theorem cl_small {B X : List Nat} {p k : Nat} (hB : Small B) (hX : Small X) : Small (cl B X p k) := by
  intro y hy
  obtain ⟨j, _, rfl⟩ := List.mem_map.1 hy
  have g : ∀ (L : List Nat), Small L → ∀ i, L.getD i 0 < 256 := fun L hL i => by
    by_cases hi : i < L.length
    · simp only [List.getD, List.getElem?_eq_getElem hi, Option.getD_some]
      exact hL _ (List.getElem_mem hi)
    · simp [List.getD, List.getElem?_eq_none (Nat.le_of_not_lt hi)]
  split
  · exact Nat.xor_lt_two_pow (n := 8) (g B hB j) (g X hX _)
  · exact g B hB j
/-- One bit, number i of the text. -/
def bitAt (B : List Nat) (i : Nat) : List Nat := cl B [2 ^ (i % 8)] (i / 8) 1
theorem bit_run (B : List Nat) (i : Nat) (hi : i < 8 * B.length) (c : Nat) : run c B ^^^ run c (bitAt B i) = stn (8 * B.length - i) 1 := by
  have hp : i / 8 + [2 ^ (i % 8)].length ≤ B.length := by simp; omega
  have e := cl_xor B [2 ^ (i % 8)] (i / 8) hp
  rw [run_diff B (bitAt B i) c (cl_length _ _ _ _).symm]
  unfold bitAt
  simp only [List.length_singleton] at e
  rw [e, List.singleton_append, run_bit (i / 8) (i % 8) (B.length - i / 8 - 1) (by omega)]
  congr 1
  omega
theorem bit_ne (B : List Nat) (i : Nat) (hi : i < 8 * B.length) : sum (bitAt B i) ≠ sum B := by
  intro e
  have h := bit_run B i hi ones
  rw [inv_inj e, Nat.xor_self] at h
  exact absurd (stn_eq_zero _ (by decide) h.symm) (by decide)
theorem bit_two (B : List Nat) (i k : Nat) (hi : i < 8 * B.length) (hk : k < 8 * B.length) (hB : B.length ≤ 100) (e : sum (bitAt B i) = sum (bitAt B k)) : i = k := by
  have h1 := bit_run B i hi ones
  have h2 := bit_run B k hk ones
  rw [inv_inj e] at h1
  have := stn_one_inj _ _ (by omega) (by omega) (h1.symm.trans h2)
  omega
theorem ints_nats {B : List Int} (h : ∀ x ∈ B, 0 ≤ x ∧ x ≤ 255) : ints (nats B) = B := by
  unfold nats ints
  rw [List.map_map]
  conv => rhs; rw [← List.map_id B]
  apply List.map_congr_left
  intro x hx
  have := h x hx
  simp
  omega
theorem bit_set {B : List Int} (h : ∀ x ∈ B, 0 ≤ x ∧ x ≤ 255) (I p j x : Nat) (hp : p = I / 8) (hj : j = I % 8) (hx : B.getD p 0 = (x : Int)) (hl : p < B.length) :
    B.set p ((x ^^^ 2 ^ j : Nat) : Int) = ints (bitAt (nats B) I) := by
  have e := cl_step (nats B) [2 ^ j] p 0 (by rw [nats_length]; omega)
  rw [cl_zero, Nat.add_zero, nats_getD, hx] at e
  simp only [Int.toNat_natCast, List.getD_cons_zero, Nat.zero_add] at e
  unfold bitAt
  rw [← hp, ← hj, ← e, ← ints_set, ints_nats h]
theorem two_mod (j : Nat) (h : j < 8) : (2 : Int) ^ j % 256 = ((2 ^ j : Nat) : Int) := by
  have : 2 ^ j < 256 := Nat.lt_of_lt_of_le (Nat.pow_lt_pow_right (by decide) h) (by decide)
  have e : (2 : Int) ^ j = ((2 ^ j : Nat) : Int) := by simp
  rw [e]
  generalize 2 ^ j = y at *
  omega
end Crc
end Go.Proofs.YthnomabipbnnmaaDoor
