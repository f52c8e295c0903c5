/- Plain facts on numbers of 32 bits that go round (no program in them). -/
import Derived.Laws.BitsLemmas
import Derived.WalkKit
import Derived.IntWalk
namespace Go.Proofs.Ytgajddfpkchdgaa
namespace Ints
open Go.RowKit

def Is32 (n : Int) : Prop := -2147483648 ≤ n ∧ n ≤ 2147483647
abbrev w32 (n : Int) : Int := wrap32 n
theorem w32_is (n : Int) : Is32 (w32 n) := by unfold w32 wrap32 Is32; omega
theorem w32_id {n : Int} (h : Is32 n) : w32 n = n := by unfold Is32 at h; unfold w32 wrap32; omega
theorem wrap_w32 (n : Int) : IntKind.i32.wrap n = w32 n := IntWalk.i32_left n
theorem wrap_u64 (n : Int) : IntKind.u64.wrap n = n % 18446744073709551616 := by simp [IntKind.wrap, IntKind.bits, IntKind.signed]
/-- The document's Wrap, as it is spelt: by 64 bits without a sign, by 32, by 32 with one. -/
theorem wraps (n : Int) : IntKind.i32.wrap (IntKind.u32.wrap (IntKind.u64.wrap n)) = w32 n := by
  rw [wrap_w32, IntKind.wrap_u32, wrap_u64]
  unfold w32 wrap32; omega

/-! ### Bits: by 64 as by 32 -/
theorem ofInt_low (n : Int) : (BitVec.ofInt 64 n).setWidth 32 = BitVec.ofInt 32 n := by
  apply BitVec.eq_of_toNat_eq
  rw [BitVec.toNat_setWidth, BitVec.toNat_ofInt, BitVec.toNat_ofInt]
  omega
theorem low_w32 (X : BitVec 64) : w32 (X.toNat : Int) = w32 ((X.setWidth 32).toNat : Int) := by
  rw [BitVec.toNat_setWidth]
  unfold w32 wrap32; omega
theorem wrap64_w32 (n : Int) : w32 (IntKind.i64.wrap n) = w32 n := by
  rw [IntKind.wrap_i64]; unfold w32 wrap32; omega
theorem and_low (a b : Int) : w32 (bits .and .i64 a b) = bits .and .i32 a b := by
  show w32 (IntKind.i64.wrap ((BitVec.ofInt 64 a &&& BitVec.ofInt 64 b).toNat : Int)) = IntKind.i32.wrap ((BitVec.ofInt 32 a &&& BitVec.ofInt 32 b).toNat : Int)
  rw [wrap64_w32, low_w32, BitVec.setWidth_and, ofInt_low, ofInt_low, wrap_w32]
theorem or_low (a b : Int) : w32 (bits .or .i64 a b) = bits .or .i32 a b := by
  show w32 (IntKind.i64.wrap ((BitVec.ofInt 64 a ||| BitVec.ofInt 64 b).toNat : Int)) = IntKind.i32.wrap ((BitVec.ofInt 32 a ||| BitVec.ofInt 32 b).toNat : Int)
  rw [wrap64_w32, low_w32, BitVec.setWidth_or, ofInt_low, ofInt_low, wrap_w32]
theorem xor_low (a b : Int) : w32 (bits .xor .i64 a b) = bits .xor .i32 a b := by
  show w32 (IntKind.i64.wrap ((BitVec.ofInt 64 a ^^^ BitVec.ofInt 64 b).toNat : Int)) = IntKind.i32.wrap ((BitVec.ofInt 32 a ^^^ BitVec.ofInt 32 b).toNat : Int)
  rw [wrap64_w32, low_w32, BitVec.setWidth_xor, ofInt_low, ofInt_low, wrap_w32]
theorem wrap_bits32 (o : BinOp) (a b : Int) : IntKind.i32.wrap (bits o .i32 a b) = bits o .i32 a b := by
  unfold bits
  rw [IntKind.wrap_i32, IntKind.wrap_i32]; omega

/-! ### Masks -/
theorem mask5_i64 (b : Int) : bits .and .i64 b 31 = b % 32 := by
  show IntKind.i64.wrap ((BitVec.ofInt 64 b &&& BitVec.ofInt 64 31).toNat : Int) = _
  have e : (BitVec.ofInt 64 31).toNat = 2 ^ 5 - 1 := by decide
  rw [BitVec.toNat_and, e, Nat.and_two_pow_sub_one_eq_mod, BitVec.toNat_ofInt, IntKind.wrap_i64]
  omega
theorem mask5_u32 (b : Int) : bits .and .u32 b 31 = b % 32 := by
  show IntKind.u32.wrap ((BitVec.ofInt 32 b &&& BitVec.ofInt 32 31).toNat : Int) = _
  have e : (BitVec.ofInt 32 31).toNat = 2 ^ 5 - 1 := by decide
  rw [BitVec.toNat_and, e, Nat.and_two_pow_sub_one_eq_mod, BitVec.toNat_ofInt, IntKind.wrap_u32]
  omega
theorem mask32_i64 (b : Int) : bits .and .i64 b 4294967295 = b % 4294967296 := by
  show IntKind.i64.wrap ((BitVec.ofInt 64 b &&& BitVec.ofInt 64 4294967295).toNat : Int) = _
  have e : (BitVec.ofInt 64 4294967295).toNat = 2 ^ 32 - 1 := by decide
  rw [BitVec.toNat_and, e, Nat.and_two_pow_sub_one_eq_mod, BitVec.toNat_ofInt, IntKind.wrap_i64]
  omega

/-! ### What the document says -/
theorem wrap64_low (n : Int) : w32 (wrap64 n) = w32 n := by unfold w32 wrap32 wrap64; omega
theorem low64 (n : Int) : w32 (IntKind.u64.wrap n % 4294967296) = w32 n := by rw [wrap_u64]; unfold w32 wrap32; omega
theorem low32 (n : Int) : w32 (n % 4294967296) = w32 n := by unfold w32 wrap32; omega
def sh (b : Int) : Nat := (b % 32).toNat
theorem sh_le (b : Int) : sh b ≤ 31 := by unfold sh; omega
def quoR (a b : Int) : Int × Bool := if b = 0 then (0, false) else (w32 (a.tdiv b), true)
def remR (a b : Int) : Int × Bool := if b = 0 then (0, false) else (a.tmod b, true)
def two (o a b : Int) : Int × Bool :=
  if o = 8 then (w32 (a + b), true)
  else if o = 9 then (w32 (a - b), true)
  else if o = 10 then (w32 (a * b), true)
  else if o = 11 then quoR a b
  else if o = 12 then remR a b
  else if o = 14 then (bits .and .i32 a b, true)
  else if o = 15 then (bits .or .i32 a b, true)
  else if o = 16 then (bits .xor .i32 a b, true)
  else if o = 17 then (w32 (a * 2 ^ sh b), true)
  else if o = 18 then (a / 2 ^ sh b, true)
  else if o = 19 then (w32 (a % 4294967296 / 2 ^ sh b), true)
  else (0, false)
def one (o a : Int) : Int := if o = 13 then w32 (-a) else 0
/-- Does a stand to b as o (27 to 32) asks? -/
def stands (o a b : Int) : Bool :=
  if o = 27 then decide (a = b) else if o = 28 then decide (a ≠ b) else if o = 29 then decide (a < b)
  else if o = 30 then decide (b ≤ a) else if o = 31 then decide (b < a) else if o = 32 then decide (a ≤ b) else false
def goes (o a b : Int) : Bool := if 21 ≤ o ∧ o ≤ 26 then stands (o + 6) a 0 else stands o a b

theorem tmod_is {a b : Int} (ha : Is32 a) : Is32 (a.tmod b) := by
  unfold Is32 at *
  have h1 := Int.natAbs_tmod a b
  have h2 : (a.tmod b).natAbs ≤ a.natAbs := by rw [h1]; exact Nat.mod_le _ _
  by_cases h : 0 ≤ a
  · have := Int.tmod_nonneg b h; omega
  · have e : a.tmod b = -((-a).tmod b) := by rw [Int.neg_tmod, Int.neg_neg]
    have := Int.tmod_nonneg b (show 0 ≤ -a by omega)
    omega
theorem pow_pos32 (b : Int) : (0 : Int) < 2 ^ sh b := Int.pow_pos (by decide)
theorem shr_is {a : Int} (ha : Is32 a) (n : Nat) : Is32 (a / 2 ^ n) := by
  unfold Is32 at *
  have hp : (0 : Int) < 2 ^ n := Int.pow_pos (by decide)
  have h1 : (1 : Int) ≤ 2 ^ n := hp
  by_cases h : 0 ≤ a
  · have e1 := Int.ediv_nonneg h (Int.le_of_lt hp)
    have e2 := Int.ediv_le_self (2 ^ n) h
    omega
  · have e3 : a / 2 ^ n < 0 := Int.ediv_neg_of_neg_of_pos (by omega) hp
    have e4 : -2147483648 ≤ a / 2 ^ n := by
      rw [Int.le_ediv_iff_mul_le hp]
      have := Int.mul_le_mul_of_nonneg_left h1 (show (0 : Int) ≤ 2147483648 by decide)
      omega
    omega
theorem ushr_bd (a : Int) (n : Nat) : 0 ≤ a % 4294967296 / 2 ^ n ∧ a % 4294967296 / 2 ^ n < 4294967296 := by
  have hp : (0 : Int) < 2 ^ n := Int.pow_pos (by decide)
  have h : 0 ≤ a % 4294967296 := by omega
  have e1 := Int.ediv_nonneg h (Int.le_of_lt hp)
  have e2 := Int.ediv_le_self (2 ^ n) h
  omega
theorem bits_is (o : BinOp) (a b : Int) : Is32 (bits o .i32 a b) := by rw [← wrap_bits32, wrap_w32]; exact w32_is _
theorem zero_is : Is32 0 := by unfold Is32; omega
theorem two_is {o a b : Int} (ha : Is32 a) : Is32 (two o a b).1 := by
  have r : ∀ n t, Is32 ((w32 n, t) : Int × Bool).1 := fun n t => w32_is n
  have r0 : ∀ t, Is32 ((0, t) : Int × Bool).1 := fun t => zero_is
  have rb : ∀ op t, Is32 ((bits op .i32 a b, t) : Int × Bool).1 := fun op t => bits_is op a b
  have rt : ∀ t, Is32 ((a.tmod b, t) : Int × Bool).1 := fun t => tmod_is ha
  have rs : ∀ n t, Is32 ((a / 2 ^ n, t) : Int × Bool).1 := fun n t => shr_is ha n
  unfold two quoR remR
  generalize sh b = k
  repeat' split
  all_goals first | exact r0 _ | (apply rt) | (with_reducible apply r) | (with_reducible apply rs) | (with_reducible apply rb)

/-! ### What the laws ask of them -/
theorem w32_ex (n : Int) : ∃ k, w32 n = n + 4294967296 * k := ⟨-((n + 2147483648) / 4294967296), by unfold w32 wrap32; omega⟩
theorem w32_add (n k : Int) : w32 (n + 4294967296 * k) = w32 n := by unfold w32 wrap32; omega
theorem add_comm32 (a b : Int) : (two 8 b a).1 = (two 8 a b).1 := congrArg w32 (Int.add_comm b a)
theorem mul_comm32 (a b : Int) : (two 10 b a).1 = (two 10 a b).1 := congrArg w32 (Int.mul_comm b a)
theorem sub_add {a : Int} (b : Int) (ha : Is32 a) : (two 9 (two 8 a b).1 b).1 = a := by
  show w32 (w32 (a + b) - b) = a
  unfold Is32 at ha; unfold w32 wrap32; omega
theorem add_neg (a : Int) : (two 8 a (one 13 a)).1 = 0 := by
  show w32 (a + w32 (-a)) = 0
  unfold w32 wrap32; omega
theorem two_div {a b : Int} (h : b ≠ 0) : two 11 a b = (w32 (a.tdiv b), true) := by show quoR a b = _; unfold quoR; rw [if_neg h]
theorem two_rem {a b : Int} (h : b ≠ 0) : two 12 a b = (a.tmod b, true) := by show remR a b = _; unfold remR; rw [if_neg h]
theorem back {a b : Int} (ha : Is32 a) : (two 8 (two 10 (w32 (a.tdiv b)) b).1 (a.tmod b)).1 = a := by
  show w32 (w32 (w32 (a.tdiv b) * b) + a.tmod b) = a
  obtain ⟨k, hk⟩ := w32_ex (a.tdiv b)
  obtain ⟨j, hj⟩ := w32_ex (w32 (a.tdiv b) * b)
  have e1 : w32 (a.tdiv b) * b = b * a.tdiv b + 4294967296 * (k * b) := by rw [hk]; grind
  have e2 := Int.mul_tdiv_add_tmod a b
  rw [hj, e1]
  have e3 : b * a.tdiv b + 4294967296 * (k * b) + 4294967296 * j + a.tmod b = a + 4294967296 * (k * b + j) := by omega
  rw [e3, w32_add, w32_id ha]
theorem sh_32 (n : Int) : sh (w32 (n + 32)) = sh n := by unfold sh w32 wrap32; omega
theorem shift_same {o : Int} (a n : Int) (h : o = 17 ∨ o = 18 ∨ o = 19) : two o a (w32 (n + 32)) = two o a n := by
  rcases h with rfl | rfl | rfl
  · show (w32 (a * 2 ^ sh (w32 (n + 32))), true) = (w32 (a * 2 ^ sh n), true)
    rw [sh_32]
  · show (a / 2 ^ sh (w32 (n + 32)), true) = (a / 2 ^ sh n, true)
    rw [sh_32]
  · show (w32 (a % 4294967296 / 2 ^ sh (w32 (n + 32))), true) = (w32 (a % 4294967296 / 2 ^ sh n), true)
    rw [sh_32]
theorem shift_none {o a : Int} (ha : Is32 a) (h : o = 17 ∨ o = 18 ∨ o = 19) : (two o a 32).1 = a := by
  rcases h with rfl | rfl | rfl
  · show w32 (a * 2 ^ 0) = a
    rw [Int.pow_zero, Int.mul_one, w32_id ha]
  · show a / 2 ^ 0 = a
    rw [Int.pow_zero, Int.ediv_one]
  · show w32 (a % 4294967296 / 2 ^ 0) = a
    rw [Int.pow_zero, Int.ediv_one]
    unfold Is32 at ha; unfold w32 wrap32; omega
theorem shift_twice (a : Int) : (two 17 a 1).1 = (two 8 a a).1 := by
  show w32 (a * 2 ^ 1) = w32 (a + a)
  rw [show a * 2 ^ 1 = a + a by omega]
theorem ushr_31 {a : Int} (ha : Is32 a) : (two 19 a 31).1 = if a < 0 then 1 else 0 := by
  show w32 (a % 4294967296 / 2 ^ 31) = _
  unfold Is32 at ha; unfold w32 wrap32; split <;> omega
theorem shr_31 {a : Int} (ha : Is32 a) : (two 18 a 31).1 = if a < 0 then -1 else 0 := by
  show a / 2 ^ 31 = _
  unfold Is32 at ha; split <;> omega
end Ints
end Go.Proofs.Ytgajddfpkchdgaa
