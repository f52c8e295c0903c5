/- What the document says of instructions (no program in it): C and M are their bytes as numbers. -/
import Derived.Test.YtbfcjflgomedgaaKindSpec
namespace Go.Proofs.Ytbfcjflgomedgaa
namespace Op4
open Num Kind
set_option linter.unusedVariables false
set_option maxRecDepth 100000

def jumpsB (o : Int) : Bool := decide (20 ≤ o) && decide (o ≤ 36)
def endsB (o : Int) : Bool := decide (o = 20 ∨ o = 46 ∨ o = 47 ∨ o = 48 ∨ o = 58 ∨ o = 61)
/-- Has it a number, a class (1) or a type (2), a name? -/
def partsF (o : Int) : Bool × Int × Bool :=
  if o = 1 ∨ o = 3 ∨ o = 4 ∨ (20 ≤ o ∧ o ≤ 36) then (true, 0, false)
  else if o = 37 then (false, 1, false)
  else if 38 ≤ o ∧ o ≤ 45 then (false, 1, true)
  else if o = 50 ∨ o = 56 ∨ o = 57 then (false, 2, false)
  else (false, 0, false)
def numberB (o a : Int) : Bool :=
  if o = 1 then decide (-2147483648 ≤ a ∧ a < 2147483648) else if 20 ≤ o ∧ o ≤ 36 then decide (0 ≤ a ∧ a < 100) else decide (0 ≤ a ∧ a < 16)
def mayIns (o a : Int) (c m : List Int) : Bool :=
  if o < 1 ∨ 61 < o then false
  else if ((partsF o).1 && !numberB o a) || (!(partsF o).1 && (a != 0)) then false
  else if (((partsF o).2.1 == 0) && !(c == [])) || (((partsF o).2.1 == 1) && !classB c) || (((partsF o).2.1 == 2) && !refB c) then false
  else if (partsF o).2.2 then nameB m && !(m == initL)
  else m == []

/-- The five kinds of instructions, by their numbers. -/
theorem kinds (o : Int) : (((o = 1 ∨ o = 3 ∨ o = 4) ∨ (20 ≤ o ∧ o ≤ 36)) ∧ partsF o = (true, 0, false)) ∨ (o = 37 ∧ partsF o = (false, 1, false)) ∨ ((38 ≤ o ∧ o ≤ 45) ∧ partsF o = (false, 1, true)) ∨
    ((o = 50 ∨ o = 56 ∨ o = 57) ∧ partsF o = (false, 2, false)) ∨ ((¬ (o = 1 ∨ o = 3 ∨ o = 4 ∨ (20 ≤ o ∧ o ≤ 36)) ∧ ¬ o = 37 ∧ ¬ (38 ≤ o ∧ o ≤ 45) ∧ ¬ (o = 50 ∨ o = 56 ∨ o = 57)) ∧ partsF o = (false, 0, false)) := by
  unfold partsF
  by_cases h1 : o = 1 ∨ o = 3 ∨ o = 4 ∨ (20 ≤ o ∧ o ≤ 36)
  · rw [if_pos h1]; exact .inl ⟨by omega, rfl⟩
  · rw [if_neg h1]
    by_cases h2 : o = 37
    · rw [if_pos h2]; exact .inr (.inl ⟨h2, rfl⟩)
    · rw [if_neg h2]
      by_cases h3 : 38 ≤ o ∧ o ≤ 45
      · rw [if_pos h3]; exact .inr (.inr (.inl ⟨h3, rfl⟩))
      · rw [if_neg h3]
        by_cases h4 : o = 50 ∨ o = 56 ∨ o = 57
        · rw [if_pos h4]; exact .inr (.inr (.inr (.inl ⟨h4, rfl⟩)))
        · rw [if_neg h4]; exact .inr (.inr (.inr (.inr ⟨⟨h1, h2, h3, h4⟩, rfl⟩)))
end Op4
end Go.Proofs.Ytbfcjflgomedgaa
