/- What the document says of types' texts, over a text's bytes as numbers (no program in it). -/
import Derived.Test.YtbfcjflgomedgaaLibHas
import Derived.Lib.Strings
namespace Go.Proofs.Ytbfcjflgomedgaa
namespace Kind
open Num
set_option linter.unusedVariables false
set_option maxRecDepth 100000

def great (x : Int) : Bool := decide (65 ≤ x) && decide (x ≤ 90)
def little (x : Int) : Bool := decide (97 ≤ x) && decide (x ≤ 122)
def digit (x : Int) : Bool := decide (48 ≤ x) && decide (x ≤ 57)
def okC (f : Bool) (x : Int) : Bool := great x || (!f && (little x || digit x))
def okN (f : Bool) (x : Int) : Bool := little x || (!f && (great x || digit x))
def allOk (p : Bool → Int → Bool) : Bool → List Int → Bool
  | _, [] => true
  | f, x :: r => p f x && allOk p false r
def classB (l : List Int) : Bool := allOk okC true l && (decide (2 ≤ l.length) && decide (l.length ≤ 8))
def initL : List Int := [36, 105, 110, 105, 116]
def nameB (l : List Int) : Bool := (l == initL) || (allOk okN true l && (decide (1 ≤ l.length) && decide (l.length ≤ 8)))
def strip : Nat → List Int → List Int
  | 0, l => l
  | _ + 1, [] => []
  | n + 1, x :: r => if x = 91 then strip n r else x :: r
def mayB (l : List Int) : Bool := (strip 2 l == [73]) || classB (strip 2 l)
def retB (l : List Int) : Bool := (l == [86]) || mayB l
def refB (l : List Int) : Bool := !(l == [73]) && mayB l
def elemF (l : List Int) : List Int × Bool := if mayB l = true ∧ l.getD 0 0 = 91 then (l.drop 1, true) else ([], false)
def arrayF (l : List Int) : List Int := if mayB (91 :: l) then 91 :: l else []

theorem nums_inj {s t : ByteArray} (h : nums s = nums t) : s = t := by rw [← str_nums s, ← str_nums t, h]
theorem map_toNat_inj : ∀ (a b : List UInt8), (a.map fun x => (x.toNat : Int)) = (b.map fun x => (x.toNat : Int)) → a = b
  | [], [], _ => rfl
  | [], y :: b, h => by simp at h
  | x :: a, [], h => by simp at h
  | x :: a, y :: b, h => by
    simp only [List.map_cons, List.cons.injEq] at h
    have e : x = y := UInt8.toNat_inj.1 (by omega)
    rw [map_toNat_inj a b h.2, e]
theorem beq_nums (s : ByteArray) (l : List UInt8) (m : List Int) (hm : (l.map fun x => (x.toNat : Int)) = m) : (s.toList == l) = (nums s == m) := by
  subst hm
  rw [Lib.toList_data]
  unfold nums
  by_cases h : s.data.toList = l
  · rw [h]; simp
  · rw [beq_eq_false_iff_ne.2 h, beq_eq_false_iff_ne.2 (fun e => h (map_toNat_inj _ _ e))]
theorem nums_getD (s : ByteArray) (k : Nat) (h : k < s.size) : (nums s).getD k 0 = ((s[k]'h).toNat : Int) := by
  have hl : k < s.data.toList.length := by rw [Array.length_toList]; exact h
  simp only [nums, List.getD, List.getElem?_map, List.getElem?_eq_getElem hl, Option.map_some, Option.getD_some]
  rfl
theorem nums_tail (s : ByteArray) : nums (s.extract 1 s.size) = (nums s).drop 1 := by
  unfold nums
  rw [Lib.extract_data, ← List.map_drop, List.take_of_length_le]
  rw [List.length_drop, ← Lib.size_eq]
  omega
theorem nums_bracket (s : ByteArray) : nums (⟨#[91]⟩ ++ s) = 91 :: nums s := by
  unfold nums
  rw [ByteArray.data_append]
  simp

theorem allOk_step (p : Bool → Int → Bool) (l : List Int) (k : Nat) (hk : k < l.length) : allOk p (decide (k = 0)) (l.drop k) = (p (decide (k = 0)) (l.getD k 0) && allOk p (decide (k + 1 = 0)) (l.drop (k + 1))) := by
  rw [drop_step hk]
  rfl
theorem strip_done {n : Nat} {l : List Int} (h : n = 0 ∨ l = [] ∨ l.getD 0 0 ≠ 91) : strip n l = l := by
  cases n with
  | zero => rfl
  | succ n =>
    cases l with
    | nil => rfl
    | cons x r =>
      have hx : x ≠ 91 := by
        rcases h with h | h | h
        · omega
        · cases h
        · simpa using h
      unfold strip
      rw [if_neg hx]
theorem strip_more {n : Nat} {l : List Int} (h : 0 < l.length) (h0 : l.getD 0 0 = 91) : strip (n + 1) l = strip n (l.drop 1) := by
  cases l with
  | nil => simp at h
  | cons x r =>
    have hx : x = 91 := by simpa using h0
    rw [hx]
    rfl
theorem may_pos {l : List Int} (h : mayB l = true) : 0 < l.length := by
  cases l with
  | nil => exact absurd h (by decide)
  | cons x r => simp
/-- No array of arrays of arrays. -/
theorem may_three (l : List Int) : mayB (91 :: 91 :: 91 :: l) = false := by
  have e : strip 2 (91 :: 91 :: 91 :: l) = 91 :: l := rfl
  unfold mayB
  rw [e]
  unfold classB
  have h : allOk okC true (91 :: l) = false := by
    show (okC true 91 && allOk okC false l) = false
    rw [show okC true 91 = false by decide]
    rfl
  rw [h]
  simp
end Kind
end Go.Proofs.Ytbfcjflgomedgaa
