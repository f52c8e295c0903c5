/- Plain facts on CRC-32 (no program in them): it is linear, a burst of up to four bytes turns it, no two bits of a short text turn it alike. -/
import Derived.Laws.BitsLemmas
namespace Go.Proofs.YthnomabipbnnmaaDoor
namespace Crc
set_option linter.unusedVariables false

def poly : Nat := 3988292384
def st (c : Nat) : Nat := if c % 2 = 1 then (c / 2) ^^^ poly else c / 2
def stn : Nat → Nat → Nat
  | 0, c => c
  | k + 1, c => stn k (st c)
def byt (c x : Nat) : Nat := stn 8 (c ^^^ x)
def run (c : Nat) : List Nat → Nat
  | [] => c
  | x :: r => run (byt c x) r
def ones : Nat := 4294967295
def inv (c : Nat) : Nat := c ^^^ ones
def sum (xs : List Nat) : Nat := inv (run ones xs)
def more (s : Nat) (xs : List Nat) : Nat := inv (run (inv s) xs)
def xorL (a b : List Nat) : List Nat := List.zipWith (· ^^^ ·) a b
theorem xorL_nil : xorL [] [] = [] := rfl
theorem xorL_cons (x y : Nat) (a b : List Nat) : xorL (x :: a) (y :: b) = (x ^^^ y) :: xorL a b := rfl
theorem run_nil (c : Nat) : run c [] = c := rfl
theorem run_cons (c x : Nat) (r : List Nat) : run c (x :: r) = run (byt c x) r := rfl

theorem xor_half (a b : Nat) : (a ^^^ b) / 2 = a / 2 ^^^ b / 2 := by
  apply Nat.eq_of_testBit_eq; intro i
  simp [Nat.testBit_div_two]
theorem xor_odd (a b : Nat) : (a ^^^ b) % 2 = (a % 2 + b % 2) % 2 := by
  have h := Nat.testBit_xor a b 0
  simp only [Nat.testBit_zero] at h
  rcases Nat.mod_two_eq_zero_or_one a with ha | ha <;> rcases Nat.mod_two_eq_zero_or_one b with hb | hb <;> rcases Nat.mod_two_eq_zero_or_one (a ^^^ b) with hc | hc <;> simp [ha, hb, hc] at h ⊢
theorem st_xor (a b : Nat) : st (a ^^^ b) = st a ^^^ st b := by
  unfold st
  rw [xor_odd, xor_half]
  rcases Nat.mod_two_eq_zero_or_one a with ha | ha <;> rcases Nat.mod_two_eq_zero_or_one b with hb | hb <;> simp only [ha, hb]
  · simp
  · simp [Nat.xor_assoc]
  · simp only [if_true, if_false, Nat.zero_ne_one]
    rw [Nat.xor_assoc, Nat.xor_assoc, Nat.xor_comm (b / 2) poly]
  · simp only [Nat.reduceAdd, Nat.reduceMod, if_true, if_false, Nat.zero_ne_one]
    rw [Nat.xor_assoc, Nat.xor_comm poly (b / 2 ^^^ poly), Nat.xor_assoc (b / 2), Nat.xor_self, Nat.xor_zero]
theorem st_lt {c : Nat} (h : c < 4294967296) : st c < 4294967296 := by
  unfold st
  split
  · exact Nat.xor_lt_two_pow (n := 32) (by omega) (by decide)
  · omega
theorem st_zero : st 0 = 0 := rfl
theorem st_eq_zero {c : Nat} (h : c < 4294967296) (h0 : st c = 0) : c = 0 := by
  unfold st at h0
  split at h0
  · have : c / 2 = poly := by
      have := congrArg (· ^^^ poly) h0
      simpa [Nat.xor_assoc] using this
    unfold poly at this
    omega
  · omega

theorem stn_xor : ∀ (k a b : Nat), stn k (a ^^^ b) = stn k a ^^^ stn k b
  | 0, a, b => rfl
  | k + 1, a, b => by simp only [stn]; rw [st_xor, stn_xor k]
theorem stn_lt : ∀ (k : Nat) {c : Nat}, c < 4294967296 → stn k c < 4294967296
  | 0, c, h => h
  | k + 1, c, h => stn_lt k (st_lt h)
theorem stn_zero : ∀ (k : Nat), stn k 0 = 0
  | 0 => rfl
  | k + 1 => stn_zero k
theorem stn_eq_zero : ∀ (k : Nat) {c : Nat}, c < 4294967296 → stn k c = 0 → c = 0
  | 0, c, h, h0 => h0
  | k + 1, c, h, h0 => st_eq_zero h (stn_eq_zero k (st_lt h) h0)
theorem stn_add : ∀ (j k c : Nat), stn (j + k) c = stn k (stn j c)
  | 0, k, c => by rw [Nat.zero_add]; rfl
  | j + 1, k, c => by rw [show j + 1 + k = (j + k) + 1 by omega]; exact stn_add j k (st c)

theorem byt_xor (c d x y : Nat) : byt (c ^^^ d) (x ^^^ y) = byt c x ^^^ byt d y := by
  unfold byt
  rw [← stn_xor]
  congr 1
  rw [Nat.xor_assoc, Nat.xor_assoc, ← Nat.xor_assoc d, Nat.xor_comm d x, Nat.xor_assoc]
theorem byt_zero (c : Nat) : byt c 0 = stn 8 c := by unfold byt; rw [Nat.xor_zero]
theorem zero_byt (x : Nat) : byt 0 x = stn 8 x := by unfold byt; rw [Nat.zero_xor]
def Small (xs : List Nat) : Prop := ∀ x ∈ xs, x < 256
theorem byt_lt {c x : Nat} (h : c < 4294967296) (hx : x < 256) : byt c x < 4294967296 := stn_lt 8 (Nat.xor_lt_two_pow (n := 32) h (by omega))
theorem run_lt : ∀ (xs : List Nat) {c : Nat}, Small xs → c < 4294967296 → run c xs < 4294967296
  | [], c, _, h => h
  | x :: r, c, hs, h => run_lt r (fun y hy => hs y (by simp [hy])) (byt_lt h (hs x (by simp)))
theorem run_append : ∀ (a b : List Nat) (c : Nat), run c (a ++ b) = run (run c a) b
  | [], b, c => rfl
  | x :: a, b, c => run_append a b (byt c x)
theorem run_xor : ∀ (a b : List Nat) (c d : Nat), a.length = b.length → run (c ^^^ d) (xorL a b) = run c a ^^^ run d b := by
  intro a
  induction a with
  | nil =>
    intro b c d h
    cases b with
    | nil => rw [xorL_nil, run_nil, run_nil, run_nil]
    | cons y b => simp at h
  | cons x a ih =>
    intro b c d h
    cases b with
    | nil => simp at h
    | cons y b =>
      have e := ih b (byt c x) (byt d y) (by simpa using h)
      rewrite [← byt_xor] at e
      rewrite [xorL_cons, run_cons, run_cons, run_cons]
      exact e
theorem inv_inv (c : Nat) : inv (inv c) = c := by unfold inv; rw [Nat.xor_assoc, Nat.xor_self, Nat.xor_zero]
theorem inv_inj {a b : Nat} (h : inv a = inv b) : a = b := by rw [← inv_inv a, ← inv_inv b, h]
theorem inv_lt {c : Nat} (h : c < 4294967296) : inv c < 4294967296 := Nat.xor_lt_two_pow (n := 32) h (by decide)
theorem sum_lt (xs : List Nat) (h : Small xs) : sum xs < 4294967296 := inv_lt (run_lt xs h (by decide))
theorem more_sum (a b : List Nat) : more (sum a) b = sum (a ++ b) := by
  unfold more sum
  rw [inv_inv, run_append]
theorem sum_nil : sum [] = 0 := rfl

/-- Of three texts of one length. -/
theorem xorL_length : ∀ (a b : List Nat), a.length = b.length → (xorL a b).length = a.length := by
  intro a
  induction a with
  | nil => intro b h; cases b <;> rfl
  | cons x a ih =>
    intro b h
    cases b with
    | nil => simp at h
    | cons y b => rw [xorL_cons, List.length_cons, List.length_cons, ih b (by simpa using h)]
theorem sum_three (a b c : List Nat) (h1 : a.length = b.length) (h2 : b.length = c.length) : sum (xorL (xorL a b) c) = sum a ^^^ sum b ^^^ sum c := by
  have e := run_xor (xorL a b) c (ones ^^^ ones) ones (by rw [xorL_length a b h1]; omega)
  rw [run_xor a b _ _ h1] at e
  have e0 : (ones ^^^ ones ^^^ ones : Nat) = ones := by rw [Nat.xor_self, Nat.zero_xor]
  rw [e0] at e
  unfold sum
  rw [e]
  unfold inv
  generalize run ones a = p
  generalize run ones b = q
  generalize run ones c = r
  have k : ∀ x y : Nat, (x ^^^ ones) ^^^ (y ^^^ ones) = x ^^^ y := fun x y => by
    rw [Nat.xor_assoc, ← Nat.xor_assoc ones y, Nat.xor_comm ones y, Nat.xor_assoc y, Nat.xor_self, Nat.xor_zero]
  rw [k, Nat.xor_assoc]

/-! ### Zeros, bursts -/
theorem run_zeros : ∀ (n : Nat) (c : Nat), run c (List.replicate n 0) = stn (8 * n) c
  | 0, c => rfl
  | n + 1, c => by
    have e : 8 * (n + 1) = 8 + 8 * n := by omega
    rewrite [List.replicate_succ, run_cons, run_zeros n, e, stn_add 8 (8 * n) c, byt_zero]
    rfl
def word : List Nat → Nat
  | [] => 0
  | x :: r => x + 256 * word r
theorem add_eq_xor (x y : Nat) (hx : x < 256) : x + 256 * y = x ^^^ 256 * y := by
  have := Nat.two_pow_add_eq_or_of_lt (i := 8) (b := x) (by simpa using hx) y
  have h2 : 2 ^ 8 * y ||| x = 2 ^ 8 * y ^^^ x := by
    apply Nat.eq_of_testBit_eq; intro i
    rw [Nat.testBit_or, Nat.testBit_xor]
    by_cases hi : i < 8
    · have : (2 ^ 8 * y).testBit i = false := by rw [Nat.testBit_two_pow_mul]; simp; omega
      simp [this]
    · have : x.testBit i = false := Nat.testBit_lt_two_pow (Nat.lt_of_lt_of_le (show x < 2 ^ 8 by simpa using hx) (Nat.pow_le_pow_right (by decide) (by omega)))
      simp [this]
  have h3 : (2 ^ 8 : Nat) = 256 := rfl
  rw [h3] at this h2
  rw [Nat.add_comm, this, h2, Nat.xor_comm]
theorem st_even (y : Nat) : st (2 * y) = y := by unfold st; rw [if_neg (by omega)]; omega
theorem stn_pow : ∀ (k y : Nat), stn k (2 ^ k * y) = y
  | 0, y => by simp [stn]
  | k + 1, y => by
    simp only [stn]
    rw [show 2 ^ (k + 1) * y = 2 * (2 ^ k * y) by rw [Nat.pow_succ, Nat.mul_comm (2 ^ k) 2, Nat.mul_assoc], st_even]
    exact stn_pow k y
theorem run_word : ∀ (x : List Nat) (c : Nat), Small x → run c x = stn (8 * x.length) (c ^^^ word x)
  | [], c, _ => by rewrite [run_nil]; show c = c ^^^ 0; rw [Nat.xor_zero]
  | x :: r, c, h => by
    have e : 8 * (x :: r).length = 8 + 8 * r.length := by rw [List.length_cons]; omega
    have p : stn 8 (256 * word r) = word r := stn_pow 8 (word r)
    have q : word (x :: r) = x ^^^ 256 * word r := add_eq_xor x (word r) (h x (by simp))
    rewrite [run_cons, run_word r _ (fun y hy => h y (by simp [hy])), e, q, stn_add, ← Nat.xor_assoc, stn_xor 8 (c ^^^ x), p]
    rfl
theorem word_lt : ∀ (x : List Nat), Small x → word x < 256 ^ x.length
  | [], _ => by simp [word]
  | x :: r, h => by
    have h1 := word_lt r (fun y hy => h y (by simp [hy]))
    have h2 := h x (by simp)
    simp only [word, List.length_cons, Nat.pow_succ]
    omega
theorem word_zero : ∀ (x : List Nat), word x = 0 → ∀ y ∈ x, y = 0
  | [], _, y, hy => by simp at hy
  | x :: r, h, y, hy => by
    simp only [word] at h
    rcases List.mem_cons.1 hy with rfl | hy
    · omega
    · exact word_zero r (by omega) y hy

/-- What two texts that differ by z leave between their runs. -/
theorem run_diff (a b : List Nat) (c : Nat) (h : a.length = b.length) : run c a ^^^ run c b = run 0 (xorL a b) := by
  rw [← run_xor a b c c h, Nat.xor_self]
theorem sum_ne {a b : List Nat} (h : a.length = b.length) (hz : run 0 (xorL a b) ≠ 0) : sum a ≠ sum b := fun e => hz (by
  rw [← run_diff a b ones h, inv_inj e, Nat.xor_self])
theorem burst (n m : Nat) (x : List Nat) (hx : Small x) (hl : x.length ≤ 4) (hs : ∃ y ∈ x, y ≠ 0) : run 0 (List.replicate n 0 ++ (x ++ List.replicate m 0)) ≠ 0 := by
  rewrite [run_append, run_append, run_zeros, run_zeros, stn_zero, run_word x 0 hx, Nat.zero_xor]
  have hw : word x < 4294967296 := Nat.lt_of_lt_of_le (word_lt x hx) (show 256 ^ x.length ≤ 256 ^ 4 from Nat.pow_le_pow_right (by decide) hl)
  intro h0
  have h1 := stn_eq_zero _ (stn_lt _ hw) h0
  have h2 := stn_eq_zero _ hw h1
  obtain ⟨y, hy, hne⟩ := hs
  exact hne (word_zero x h2 y hy)

/-! ### One bit -/
theorem run_bit (p j m : Nat) (hj : j < 8) : run 0 (List.replicate p 0 ++ (2 ^ j :: List.replicate m 0)) = stn (8 * m + (8 - j)) 1 := by
  rewrite [run_append, run_zeros, stn_zero, run_cons, zero_byt, run_zeros]
  have e : stn 8 (2 ^ j) = stn (8 - j) 1 := by
    have h := stn_add j (8 - j) (2 ^ j)
    rw [show j + (8 - j) = 8 by omega] at h
    rw [h]
    have := stn_pow j 1
    rw [Nat.mul_one] at this
    rw [this]
  rw [e, ← stn_add]
  congr 1; omega
/-- Of the first 800 steps none leads from 1 back to 1. -/
def noReturn : Nat → Nat → Bool
  | 0, _ => true
  | k + 1, c => (st c != 1) && noReturn k (st c)
theorem noReturn_spec : ∀ (k c : Nat), noReturn k c = true → ∀ d, 1 ≤ d → d ≤ k → stn d c ≠ 1
  | 0, c, _, d, h1, h2 => by omega
  | k + 1, c, h, d, h1, h2 => by
    simp only [noReturn, Bool.and_eq_true, bne_iff_ne] at h
    cases d with
    | zero => omega
    | succ d =>
      simp only [stn]
      cases d with
      | zero => exact h.1
      | succ d => exact noReturn_spec k (st c) h.2 (d + 1) (by omega) (by omega)
theorem no_return : noReturn 800 1 = true := by decide +kernel
theorem stn_one_inj (a b : Nat) (ha : a ≤ 800) (hb : b ≤ 800) (h : stn a 1 = stn b 1) : a = b := by
  have key : ∀ a b : Nat, a < b → b ≤ 800 → stn a 1 = stn b 1 → False := by
    intro a b hab hb h
    have e : stn b 1 = stn a (stn (b - a) 1) := by rw [← stn_add]; congr 1; omega
    rw [e] at h
    have h2 : stn a (1 ^^^ stn (b - a) 1) = 0 := by rw [stn_xor, h, Nat.xor_self]
    have h3 := stn_eq_zero a (Nat.xor_lt_two_pow (n := 32) (by decide) (stn_lt _ (by decide))) h2
    have h4 : stn (b - a) 1 = 1 := by
      have := congrArg (1 ^^^ ·) h3
      simp only [Nat.xor_zero] at this
      rw [← Nat.xor_assoc, Nat.xor_self, Nat.zero_xor] at this
      exact this
    exact noReturn_spec 800 1 no_return (b - a) (by omega) (by omega) h4
  rcases Nat.lt_trichotomy a b with h1 | h1 | h1
  · exact (key a b h1 hb h).elim
  · exact h1
  · exact (key b a h1 ha h.symm).elim

/-! ### What the text's own operations come to -/
theorem wrap_u32 (n : Nat) (h : n < 4294967296) : IntKind.u32.wrap (n : Int) = n := by rw [IntKind.wrap_u32]; omega
theorem ofInt_u32 (a : Nat) (h : a < 4294967296) : (BitVec.ofInt 32 (a : Int)).toNat = a := by
  rw [BitVec.ofInt_natCast, BitVec.toNat_ofNat, Nat.mod_eq_of_lt (by simpa using h)]
theorem xor_u32 (a b : Nat) (ha : a < 4294967296) (hb : b < 4294967296) : bits .xor .u32 (a : Int) (b : Int) = ((a ^^^ b : Nat) : Int) := by
  show IntKind.u32.wrap ((BitVec.ofInt 32 (a : Int) ^^^ BitVec.ofInt 32 (b : Int)).toNat : Int) = _
  rw [BitVec.toNat_xor, ofInt_u32 a ha, ofInt_u32 b hb, wrap_u32 _ (Nat.xor_lt_two_pow (n := 32) ha hb)]
theorem not_u32 (a : Nat) (ha : a < 4294967296) : bits .xor .u32 IntKind.u32.max (a : Int) = ((inv a : Nat) : Int) := by
  have e : IntKind.u32.max = ((4294967295 : Nat) : Int) := rfl
  rw [e, xor_u32 _ _ (by decide) ha, Nat.xor_comm]
  rfl
theorem st_odd (C : Nat) (h : C % 2 = 1) (hC : C < 4294967296) : bits .xor .u32 ((C : Int) / 2) 3988292384 = ((st C : Nat) : Int) := by
  have e : ((C : Int) / 2) = ((C / 2 : Nat) : Int) := by omega
  have e2 : (3988292384 : Int) = ((3988292384 : Nat) : Int) := rfl
  rw [e, e2, xor_u32 _ _ (by omega) (by decide)]
  unfold st
  rw [if_pos h]
  rfl
theorem st_even' (C : Nat) (h : ¬ C % 2 = 1) : ((C : Int) / 2) = ((st C : Nat) : Int) := by
  unfold st
  rw [if_neg h]
  omega
theorem wraps_u32 (n : Int) (h₀ : 0 ≤ n) (h₁ : n < 2 ^ 32) : IntKind.u32.wrap n = n := by rw [IntKind.wrap_u32]; omega
theorem and1_u32 (D : Nat) (h : D < 4294967296) : bits .and .u32 (D : Int) 1 = (D : Int) % 2 := bits_mask .u32 32 (by decide) wraps_u32 1 (by decide) D (by omega) (by omega)
def nats (xs : List Int) : List Nat := xs.map Int.toNat
theorem nats_length (xs : List Int) : (nats xs).length = xs.length := by simp [nats]
theorem nats_append (a b : List Int) : nats (a ++ b) = nats a ++ nats b := by simp [nats]
theorem nats_small (xs : List Int) (h : ∀ x ∈ xs, 0 ≤ x ∧ x ≤ 255) : Small (nats xs) := by
  intro y hy
  obtain ⟨x, hx, rfl⟩ := List.mem_map.1 hy
  have := h x hx
  omega
theorem run_ext (c : Nat) (a b : List Nat) (h : a = b) : run c a = run c b := by rw [h]
theorem nats_step {xs : List Int} {k : Nat} (hk : k < xs.length) : (nats xs).drop k = (xs.getD k 0).toNat :: (nats xs).drop (k + 1) := by
  rw [List.drop_eq_getElem_cons (by rw [nats_length]; exact hk)]
  simp [nats, List.getD, List.getElem?_eq_getElem hk]

theorem xor_u8 (a b : Nat) (ha : a < 256) (hb : b < 256) : bits .xor .u8 (a : Int) (b : Int) = ((a ^^^ b : Nat) : Int) := by
  have e : ∀ x : Nat, x < 256 → (BitVec.ofInt 8 (x : Int)).toNat = x := fun x hx => by rw [BitVec.ofInt_natCast, BitVec.toNat_ofNat, Nat.mod_eq_of_lt (by simpa using hx)]
  show IntKind.u8.wrap ((BitVec.ofInt 8 (a : Int) ^^^ BitVec.ofInt 8 (b : Int)).toNat : Int) = _
  rw [BitVec.toNat_xor, e a ha, e b hb, IntKind.wrap_u8]
  have := Nat.xor_lt_two_pow (n := 8) (show a < 2 ^ 8 from ha) (show b < 2 ^ 8 from hb)
  omega
def ints (X : List Nat) : List Int := X.map fun n : Nat => (n : Int)
theorem nats_ints (X : List Nat) : nats (ints X) = X := by
  unfold nats ints
  rw [List.map_map]
  conv => rhs; rw [← List.map_id X]
  apply List.map_congr_left
  intro n _
  simp
theorem ints_length (X : List Nat) : (ints X).length = X.length := by simp [ints]
/-- A row that is filled from its head on. -/
theorem fill_step {X : List Nat} {N k : Nat} (hX : X.length = N) (hk : k < N) :
    (ints (X.take k ++ List.replicate (N - k) 0)).set k (X.getD k 0 : Nat) = ints (X.take (k + 1) ++ List.replicate (N - (k + 1)) 0) := by
  have e : N - k = (N - (k + 1)) + 1 := by omega
  have hkl : k < X.length := by omega
  rw [e, List.replicate_succ]
  unfold ints
  rw [List.map_append, List.set_append_right _ _ (by simp; omega)]
  simp only [List.map_cons, List.length_map, List.length_take, Nat.min_eq_left (Nat.le_of_lt hkl), Nat.sub_self, List.set_cons_zero]
  have hg : X.getD k 0 = X[k] := by simp [List.getD, List.getElem?_eq_getElem hkl]
  rw [List.take_succ_eq_append_getElem hkl, hg]
  simp only [List.map_append, List.map_cons, List.append_assoc, List.singleton_append]
theorem ints_bytes {X : List Nat} (h : Small X) : ∀ x ∈ ints X, 0 ≤ x ∧ x ≤ 255 := by
  intro x hx
  obtain ⟨n, hn, rfl⟩ := List.mem_map.1 hx
  have := h n hn
  omega
theorem xorL_small : ∀ {a b : List Nat}, Small a → Small b → Small (xorL a b) := by
  intro a
  induction a with
  | nil => intro b _ _ x hx; simp [xorL] at hx
  | cons y a ih =>
    intro b ha hb x hx
    cases b with
    | nil => simp [xorL] at hx
    | cons z b =>
      rw [xorL_cons] at hx
      rcases List.mem_cons.1 hx with rfl | hx
      · exact Nat.xor_lt_two_pow (n := 8) (ha y (by simp)) (hb z (by simp))
      · exact ih (fun u hu => ha u (by simp [hu])) (fun u hu => hb u (by simp [hu])) x hx
theorem xorL_getD {a b : List Nat} {k : Nat} (h : a.length = b.length) (hk : k < a.length) : (xorL a b).getD k 0 = a.getD k 0 ^^^ b.getD k 0 := by
  have hb : k < b.length := by omega
  simp [xorL, List.getD, List.getElem?_zipWith, List.getElem?_eq_getElem hk, List.getElem?_eq_getElem hb]
theorem nats_getD (xs : List Int) (k : Nat) : (nats xs).getD k 0 = (xs.getD k 0).toNat := by
  simp only [nats, List.getD, List.getElem?_map]
  cases xs[k]? <;> simp

end Crc
end Go.Proofs.YthnomabipbnnmaaDoor
