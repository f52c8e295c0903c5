/- Plain facts on the bytes of a number (no program in them): what is written reads back, a cut is told, a nearer number takes no more bytes. -/
import Derived.Laws.BitsLemmas
namespace Go.Proofs.YtjblmgdjaaeedaaGreat
namespace Num

/-- The digits of u, seven bits a byte, the lowest first; f: how many more may follow. -/
def encU : Nat → Int → List Int
  | 0, u => [u]
  | f + 1, u => if u < 128 then [u] else (u % 128 + 128) :: encU f (u / 128)
def zig (n : Int) : Int := if n < 0 then -2 * n - 1 else 2 * n
def zag (u : Int) : Int := if u % 2 = 1 then -(u / 2) - 1 else u / 2
def enc (n : Int) : List Int := encU 9 (zig n)

/-- What reading finds: the number, how many bytes, which error. -/
def getF : Nat → Int → List Int → Int × Int × Int
  | _, _, [] => (0, 0, 2)
  | i, u, x :: r =>
    if i = 9 ∧ 1 < x then (0, 0, 1)
    else if 128 ≤ x then getF (i + 1) (u + x % 128 * 128 ^ i) r
    else if x = 0 ∧ 0 < i then (0, 0, 1)
    else (zag (u + x * 128 ^ i), i + 1, 0)
def get (xs : List Int) : Int × Int × Int := getF 0 0 xs

theorem zag_zig (n : Int) : zag (zig n) = n := by
  unfold zag zig
  by_cases h : n < 0
  · rw [if_pos h, if_pos (by omega)]; omega
  · rw [if_neg h, if_neg (by omega)]; omega
theorem zig_bd (n : Int) (h1 : -9223372036854775808 ≤ n) (h2 : n ≤ 9223372036854775807) : 0 ≤ zig n ∧ zig n < 2 * 128 ^ 9 := by
  unfold zig
  split <;> omega

theorem encU_len : ∀ (f : Nat) (u : Int), 1 ≤ (encU f u).length ∧ (encU f u).length ≤ f + 1
  | 0, u => by simp [encU]
  | f + 1, u => by
    unfold encU
    split
    · simp
    · have := encU_len f (u / 128)
      simp only [List.length_cons]; omega
theorem div_lt {u : Int} {f : Nat} (h : u < 2 * 128 ^ (f + 1)) : u / 128 < 2 * 128 ^ f := by
  rw [Int.pow_succ] at h
  omega
theorem encU_bd : ∀ (f : Nat) (u : Int), 0 ≤ u → u < 2 * 128 ^ f → ∀ x ∈ encU f u, 0 ≤ x ∧ x ≤ 255
  | 0, u, h0, h1, x, hx => by
    simp [encU] at hx h1
    omega
  | f + 1, u, h0, h1, x, hx => by
    unfold encU at hx
    split at hx
    · simp at hx; omega
    · rcases List.mem_cons.1 hx with hx | hx
      · omega
      · exact encU_bd f (u / 128) (by omega) (div_lt h1) x hx
theorem encU_mono : ∀ (f : Nat) (u v : Int), u ≤ v → (encU f u).length ≤ (encU f v).length
  | 0, u, v, h => by simp [encU]
  | f + 1, u, v, h => by
    unfold encU
    by_cases h1 : v < 128
    · rw [if_pos (by omega), if_pos h1]; simp
    · rw [if_neg h1]
      have hv := encU_len f (v / 128)
      split
      · simp
      · have := encU_mono f (u / 128) (v / 128) (by omega)
        simp only [List.length_cons]; omega

theorem getF_enc : ∀ (f i : Nat) (u v : Int) (r : List Int), f + i = 9 → 0 ≤ v → v < 2 * 128 ^ f → (i = 0 ∨ 0 < v) →
    getF i u (encU f v ++ r) = (zag (u + v * 128 ^ i), (i : Int) + (encU f v).length, 0)
  | 0, i, u, v, r, hf, h0, h1, h2 => by
    simp at h1
    have hi : i = 9 := by omega
    subst hi
    simp only [encU, List.singleton_append, getF]
    rw [if_neg (by omega), if_neg (by omega), if_neg (by omega)]
    simp
  | f + 1, i, u, v, r, hf, h0, h1, h2 => by
    unfold encU
    by_cases hv : v < 128
    · rw [if_pos hv]
      simp only [List.singleton_append, getF]
      rw [if_neg (by omega), if_neg (by omega), if_neg (by omega)]
      simp
    · rw [if_neg hv]
      simp only [List.cons_append, getF]
      rw [if_neg (by omega), if_pos (by omega)]
      rw [getF_enc f (i + 1) _ (v / 128) r (by omega) (by omega) (div_lt h1) (by omega)]
      have e : u + (v % 128 + 128) % 128 * 128 ^ i + v / 128 * 128 ^ (i + 1) = u + v * 128 ^ i := by
        have e1 : (v % 128 + 128) % 128 = v - 128 * (v / 128) := by omega
        rw [e1, Int.pow_succ]
        generalize (128 : Int) ^ i = p
        generalize v / 128 = q
        grind
      rw [e]
      simp only [List.length_cons, Prod.mk.injEq, and_true, true_and]
      omega

theorem getF_cut : ∀ (f i k : Nat) (u v : Int), f + i = 9 → 0 ≤ v → v < 2 * 128 ^ f → k < (encU f v).length → getF i u ((encU f v).take k) = (0, 0, 2)
  | 0, i, k, u, v, hf, h0, h1, hk => by
    simp [encU] at hk
    subst hk
    simp [getF]
  | f + 1, i, k, u, v, hf, h0, h1, hk => by
    unfold encU at hk ⊢
    by_cases hv : v < 128
    · rw [if_pos hv] at hk ⊢
      simp at hk
      subst hk
      simp [getF]
    · rw [if_neg hv] at hk ⊢
      cases k with
      | zero => simp [getF]
      | succ k =>
        simp only [List.take_succ_cons, getF]
        rw [if_neg (by omega), if_pos (by omega)]
        exact getF_cut f (i + 1) k _ (v / 128) (by omega) (by omega) (div_lt h1) (by simpa using hk)

theorem getF_big {k : Nat} {U x : Int} {r : List Int} (h : k = 9) (h1 : 1 < x) : getF k U (x :: r) = (0, 0, 1) := by unfold getF; rw [if_pos ⟨h, h1⟩]
theorem getF_more {k : Nat} {U x : Int} {r : List Int} (h : k ≠ 9) (h1 : 128 ≤ x) : getF k U (x :: r) = getF (k + 1) (U + x % 128 * 128 ^ k) r := by
  conv => lhs; unfold getF
  rw [if_neg (by omega), if_pos h1]
theorem getF_zero {k : Nat} {U x : Int} {r : List Int} (h : 0 < k) (h1 : x = 0) : getF k U (x :: r) = (0, 0, 1) := by unfold getF; rw [if_neg (by omega), if_neg (by omega), if_pos ⟨h1, h⟩]
theorem getF_last {k : Nat} {U x : Int} {r : List Int} (h : ¬ (k = 9 ∧ 1 < x)) (h1 : x < 128) (h0 : 0 ≤ x) (h2 : ¬ (x = 0 ∧ 0 < k)) : getF k U (x :: r) = (zag (U + x % 128 * 128 ^ k), (k : Int) + 1, 0) := by
  unfold getF; rw [if_neg h, if_neg (by omega), if_neg h2, show x % 128 = x by omega]

def Is64 (n : Int) : Prop := -9223372036854775808 ≤ n ∧ n ≤ 9223372036854775807
theorem get_enc (n : Int) (r : List Int) (h : Is64 n) : get (enc n ++ r) = (n, ((enc n).length : Int), 0) := by
  have hz := zig_bd n h.1 h.2
  unfold get enc
  rw [getF_enc 9 0 0 (zig n) r rfl hz.1 hz.2 (.inl rfl)]
  simp [zag_zig]
theorem get_cut (n : Int) (k : Nat) (h : Is64 n) (hk : k < (enc n).length) : get ((enc n).take k) = (0, 0, 2) := by
  have hz := zig_bd n h.1 h.2
  exact getF_cut 9 0 k 0 (zig n) rfl hz.1 hz.2 hk
theorem get_nil : get [] = (0, 0, 2) := rfl
theorem enc_len (n : Int) : 1 ≤ (enc n).length ∧ (enc n).length ≤ 10 := encU_len 9 (zig n)
theorem enc_bd (n : Int) (h : Is64 n) : ∀ x ∈ enc n, 0 ≤ x ∧ x ≤ 255 := by
  have hz := zig_bd n h.1 h.2
  exact encU_bd 9 (zig n) hz.1 hz.2
theorem enc_mono (a b : Int) (h : zig a ≤ zig b) : (enc a).length ≤ (enc b).length := encU_mono 9 _ _ h

/-- What reading finds is within its kinds. -/
theorem pow_le : ∀ (i j : Nat), i ≤ j → (128 : Int) ^ i ≤ 128 ^ j := fun i j h => by
  have := Nat.pow_le_pow_right (n := 128) (by decide) h
  have e : ∀ k : Nat, (128 : Int) ^ k = ((128 ^ k : Nat) : Int) := fun k => by simp
  rw [e, e]; exact Int.ofNat_le.2 this
theorem zag_bd (u : Int) (h0 : 0 ≤ u) (h1 : u < 18446744073709551616) : Is64 (zag u) := by
  unfold zag Is64
  split <;> omega
theorem mul_lt {x p : Int} (hx : x ≤ 127) (hp : 0 < p) : x * p ≤ 127 * p := Int.mul_le_mul_of_nonneg_right hx (by omega)
theorem getF_bd : ∀ (xs : List Int) (i : Nat) (u : Int), i ≤ 9 → 0 ≤ u → u < 128 ^ i → (∀ x ∈ xs, 0 ≤ x ∧ x ≤ 255) →
    Is64 (getF i u xs).1 ∧ 0 ≤ (getF i u xs).2.1 ∧ (getF i u xs).2.1 ≤ i + xs.length ∧ 0 ≤ (getF i u xs).2.2 ∧ (getF i u xs).2.2 ≤ 2
  | [], i, u, hi, h0, h1, hb => by simp [getF, Is64]
  | x :: r, i, u, hi, h0, h1, hb => by
    have hx := hb x (by simp)
    have hp : (0 : Int) < 128 ^ i := Int.pow_pos (by decide)
    unfold getF
    by_cases hA : i = 9 ∧ 1 < x
    · rw [if_pos hA]; simp [Is64]; omega
    · rw [if_neg hA]
      by_cases hB : 128 ≤ x
      · rw [if_pos hB]
        have hm := mul_lt (x := x % 128) (p := 128 ^ i) (by omega) hp
        have hn : 0 ≤ x % 128 * 128 ^ i := Int.mul_nonneg (by omega) (by omega)
        have := getF_bd r (i + 1) (u + x % 128 * 128 ^ i) (by omega) (by omega) (by rw [Int.pow_succ]; omega) (fun y hy => hb y (by simp [hy]))
        simp only [List.length_cons]
        refine ⟨this.1, this.2.1, ?_, this.2.2.2⟩
        have h3 := this.2.2.1
        omega
      · rw [if_neg hB]
        by_cases hC : x = 0 ∧ 0 < i
        · rw [if_pos hC]; simp [Is64]; omega
        · rw [if_neg hC]
          have hn : 0 ≤ x * 128 ^ i := Int.mul_nonneg (by omega) (by omega)
          have hlt : u + x * 128 ^ i < 18446744073709551616 := by
            by_cases h9 : i = 9
            · subst h9
              have : x ≤ 1 := by omega
              omega
            · have h8 := pow_le (i + 1) 9 (by omega)
              rw [Int.pow_succ] at h8
              have hm := mul_lt (x := x) (p := 128 ^ i) (by omega) hp
              omega
          refine ⟨zag_bd _ (by omega) hlt, ?_, ?_, ?_, ?_⟩ <;> simp <;> omega
theorem get_bd (xs : List Int) (hb : ∀ x ∈ xs, 0 ≤ x ∧ x ≤ 255) : Is64 (get xs).1 ∧ 0 ≤ (get xs).2.1 ∧ (get xs).2.1 ≤ xs.length ∧ 0 ≤ (get xs).2.2 ∧ (get xs).2.2 ≤ 2 := by
  have := getF_bd xs 0 0 (by omega) (by omega) (by simp) hb
  unfold get
  refine ⟨this.1, this.2.1, ?_, this.2.2.2⟩
  have h3 := this.2.2.1
  omega
/-- A number that is found has at least one byte. -/
theorem getF_ok : ∀ (xs : List Int) (i : Nat) (u : Int), (getF i u xs).2.2 = 0 → 1 ≤ (getF i u xs).2.1
  | [], i, u, h => by simp [getF] at h
  | x :: r, i, u, h => by
    unfold getF at h ⊢
    split at h
    · simp at h
    · rename_i hA
      rw [if_neg hA]
      split at h
      · rename_i hB; rw [if_pos hB]; exact getF_ok r _ _ h
      · rename_i hB
        rw [if_neg hB]
        split at h
        · simp at h
        · rename_i hC; rw [if_neg hC]; simp; omega

/-! ### What the text's own operations come to -/
theorem wraps_u64 (n : Int) (h₀ : 0 ≤ n) (h₁ : n < 2 ^ 64) : IntKind.u64.wrap n = n := by
  have e : IntKind.u64.wrap n = n % 18446744073709551616 := by simp [IntKind.wrap, IntKind.bits, IntKind.signed]
  rw [e]; omega
theorem and127_u64 (u : Int) (h0 : 0 ≤ u) (h1 : u < 2 ^ 64) : bits .and .u64 u 127 = u % 128 := bits_mask .u64 64 (by decide) wraps_u64 7 (by decide) u h0 h1
theorem and1_u64 (u : Int) (h0 : 0 ≤ u) (h1 : u < 2 ^ 64) : bits .and .u64 u 1 = u % 2 := bits_mask .u64 64 (by decide) wraps_u64 1 (by decide) u h0 h1
theorem and127_u8 (u : Int) (h0 : 0 ≤ u) (h1 : u ≤ 255) : bits .and .u8 u 127 = u % 128 := bits_mask .u8 8 (by decide) wraps_u8 7 (by decide) u h0 (by omega)
theorem or_comm (k : IntKind) (a b : Int) : bits .or k a b = bits .or k b a := by simp [bits, BitVec.or_comm]
theorem or128_u8 (u : Int) (h0 : 0 ≤ u) (h1 : u < 128) : bits .or .u8 u 128 = u + 128 := by
  rw [or_comm, bits_join .u8 8 (by decide) wraps_u8 7 128 u (by decide) (by decide) (by decide) h0 (by omega) (by omega)]
  omega
theorem or1_u64 (u : Int) (h0 : 0 ≤ u) (h1 : u < 9223372036854775808) : bits .or .u64 (u * 2) 1 = u * 2 + 1 :=
  bits_join .u64 64 (by decide) wraps_u64 1 (u * 2) 1 (by omega) (by omega) (by omega) (by decide) (by decide) (by decide)
theorem not_i64 (n : Int) (h1 : -9223372036854775808 ≤ n) (h2 : n ≤ 9223372036854775807) : bits .xor .i64 (-1) n = -n - 1 := by
  show IntKind.i64.wrap ((BitVec.ofInt 64 (-1) ^^^ BitVec.ofInt 64 n).toNat : Int) = _
  have e1 : BitVec.ofInt 64 (-1) = BitVec.allOnes 64 := by decide
  rw [e1, BitVec.allOnes_xor, BitVec.toNat_not, BitVec.toNat_ofInt, IntKind.wrap_i64]
  omega
theorem not_u64 (n : Int) (h1 : 0 ≤ n) (h2 : n < 18446744073709551616) : bits .xor .u64 18446744073709551615 n = 18446744073709551615 - n := by
  show IntKind.u64.wrap ((BitVec.ofInt 64 18446744073709551615 ^^^ BitVec.ofInt 64 n).toNat : Int) = _
  have e1 : BitVec.ofInt 64 18446744073709551615 = BitVec.allOnes 64 := by decide
  have e : ∀ m : Int, IntKind.u64.wrap m = m % 18446744073709551616 := fun m => by simp [IntKind.wrap, IntKind.bits, IntKind.signed]
  rw [e1, BitVec.allOnes_xor, BitVec.toNat_not, BitVec.toNat_ofInt, e]
  omega
theorem pow7 (k : Nat) : (2 : Int) ^ (7 * k) = 128 ^ k := by rw [Int.pow_mul]; rfl
/-- The round's 'or': what came before lies below. -/
theorem or_digit (U x : Int) (k : Nat) (hU0 : 0 ≤ U) (hU : U < 128 ^ k) (hx0 : 0 ≤ x) (hx : x < 128) (hk : k ≤ 9) (h9 : k = 9 → x ≤ 1) :
    bits .or .u64 U (IntKind.u64.wrap (x * 2 ^ (7 * k))) = U + x * 128 ^ k ∧ 0 ≤ U + x * 128 ^ k ∧ U + x * 128 ^ k < 18446744073709551616 := by
  have hp : (0 : Int) < 128 ^ k := Int.pow_pos (by decide)
  have hn : 0 ≤ x * 128 ^ k := Int.mul_nonneg hx0 (by omega)
  have hlt : U + x * 128 ^ k < 18446744073709551616 := by
    by_cases e : k = 9
    · subst e
      have := h9 rfl
      omega
    · have h8 := pow_le (k + 1) 9 (by omega)
      rw [Int.pow_succ] at h8
      have hm := mul_lt (x := x) (p := 128 ^ k) (by omega) hp
      omega
  refine ⟨?_, by omega, hlt⟩
  rw [pow7, wraps_u64 _ hn (by omega), or_comm]
  have hm : x * 128 ^ k % 2 ^ (7 * k) = 0 := by rw [pow7]; exact Int.mul_emod_left _ _
  rw [bits_join .u64 64 (by decide) wraps_u64 (7 * k) (x * 128 ^ k) U hn hm (by omega) hU0 (by rw [pow7]; exact hU) (by omega)]
  omega

end Num
end Go.Proofs.YtjblmgdjaaeedaaGreat
