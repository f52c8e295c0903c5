/- Plain facts on reading an instruction. -/
import Derived.Test.YtbfcjflgomedgaaGreatOpGetSpec
namespace Go.Proofs.YtbfcjflgomedgaaGreat
namespace Op4
open Num Kind
set_option linter.unusedVariables false
set_option maxRecDepth 100000

theorem nums_str {s : List Int} (h : Bytes s) : nums (strOfNums s) = s := by
  unfold nums strOfNums
  show ((s.map fun n => UInt8.ofNat n.toNat).toArray.toList.map fun b => (b.toNat : Int)) = s
  rw [List.toList_toArray, List.map_map]
  conv => rhs; rw [← List.map_id s]
  apply List.map_congr_left
  intro x hx
  have := h x hx
  simp
  omega
theorem str_size {s : List Int} : (strOfNums s).size = s.length := by
  unfold strOfNums
  show ((s.map fun n => UInt8.ofNat n.toNat).toArray).size = s.length
  simp
theorem bytes_drop' {xs : List Int} (h : Bytes xs) (k : Nat) : Bytes (xs.drop k) := fun x hx => h x (List.mem_of_mem_drop hx)
theorem getText_bd (xs : List Int) (hb : Bytes xs) : Bytes (getText xs).1 ∧ (getText xs).1.length ≤ xs.length ∧ 0 ≤ (getText xs).2.1 ∧ (getText xs).2.1 ≤ xs.length ∧ 0 ≤ (getText xs).2.2 ∧ (getText xs).2.2 ≤ 2 := by
  have g := get_bd xs hb
  have e0 : Bytes [] := fun x hx => by simp at hx
  unfold getText
  split
  · exact ⟨e0, by simp, by simp, by simp, by simp; omega, by simp; omega⟩
  · split
    · exact ⟨e0, by simp, by simp, by simp, by simp, by simp⟩
    · split
      · exact ⟨e0, by simp, by simp, by simp, by simp, by simp⟩
      · refine ⟨bytes_take (bytes_drop' hb _) _, ?_, ?_, ?_, by simp, by simp⟩
        · simp; omega
        · simp only; omega
        · simp only; omega
theorem get_nil : get [] = (0, 0, 2) := rfl
theorem getText_nil : getText [] = ([], 0, 2) := rfl
end Op4
end Go.Proofs.YtbfcjflgomedgaaGreat
