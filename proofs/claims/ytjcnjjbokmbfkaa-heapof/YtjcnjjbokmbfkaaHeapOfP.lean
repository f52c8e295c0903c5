/- Of two words: is it an object? -/
import Derived.Test.YtjcnjjbokmbfkaaHeapRow
namespace Go.Proofs.Ytjcnjjbokmbfkaa
namespace HeapOf
open Mem Heap
open Go.RowKit
set_option linter.unusedVariables false
set_option linter.unusedSimpArgs false
set_option maxRecDepth 100000

theorem big_false {A : Nat} {X0 X1 : Int} {L : Nat} {l : List Int} (h0 : l.getD 0 0 = X0) (h1 : l.getD 1 0 = X1) (hl : l.length = L - A) (hA : A < L) (h : ¬ (A + 1 < L) ∨ X0 < 0 ∨ 10000 < X0 ∨ X1 < 0 ∨ 1000 < X1 ∨ (L : Int) - A - 2 < X1) : wholeB l = false := by
  unfold wholeB mayB
  rw [h0, h1, hl]
  rw [Bool.eq_false_iff]
  intro hc
  simp only [Bool.and_eq_true, decide_eq_true_eq] at hc
  omega
theorem big_true {A : Nat} {X0 X1 : Int} {L : Nat} {l : List Int} (h0 : l.getD 0 0 = X0) (h1 : l.getD 1 0 = X1) (hl : l.length = L - A) (hA : A + 1 < L) (h : ¬ X0 < 0 ∧ ¬ 10000 < X0 ∧ ¬ X1 < 0 ∧ ¬ 1000 < X1 ∧ ¬ (L : Int) - A - 2 < X1) : wholeB l = true := by
  unfold wholeB mayB
  rw [h0, h1, hl]
  simp only [Bool.and_eq_true, decide_eq_true_eq]
  omega
end HeapOf
end Go.Proofs.Ytjcnjjbokmbfkaa
