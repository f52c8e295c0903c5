/- What the document says of reading an instruction (no program in it), and that an instruction that was written is read. -/
import Derived.Test.YtbfcjflgomedgaaGreatOpPut
namespace Go.Proofs.YtbfcjflgomedgaaGreat
namespace Op4
open Num Kind
set_option linter.unusedVariables false
set_option maxRecDepth 100000

abbrev ResI : Type := (Int × Int × List Int × List Int) × Int × Int
def failI (e : Int) : ResI := ((0, 0, [], []), 0, e)
def textB (k : Int) (s : List Int) : Bool := if k = 1 then classB s else refB s
def getM (o a : Int) (c : List Int) (n : Nat) (xs : List Int) : ResI :=
  if (partsF o).2.2 = true then
    (if (getText (xs.drop n)).2.2 ≠ 0 then failI (getText (xs.drop n)).2.2
     else if (nameB (getText (xs.drop n)).1 && !((getText (xs.drop n)).1 == initL)) = true then ((o, a, c, (getText (xs.drop n)).1), n + (getText (xs.drop n)).2.1, 0) else failI 1)
  else ((o, a, c, []), n, 0)
def getC (o a : Int) (n : Nat) (xs : List Int) : ResI :=
  if 0 < (partsF o).2.1 then
    (if (getText (xs.drop n)).2.2 ≠ 0 then failI (getText (xs.drop n)).2.2
     else if textB (partsF o).2.1 (getText (xs.drop n)).1 = true then getM o a (getText (xs.drop n)).1 (n + (getText (xs.drop n)).2.1.toNat) xs else failI 1)
  else getM o a [] n xs
def getA (o : Int) (n : Nat) (xs : List Int) : ResI :=
  if (partsF o).1 = true then
    (if (get (xs.drop n)).2.2 ≠ 0 then failI (get (xs.drop n)).2.2
     else if numberB o (get (xs.drop n)).1 = true then getC o (get (xs.drop n)).1 (n + (get (xs.drop n)).2.1.toNat) xs else failI 1)
  else getC o 0 n xs
def getI (xs : List Int) : ResI :=
  if (get xs).2.2 ≠ 0 then failI (get xs).2.2 else if (get xs).1 < 1 ∨ 61 < (get xs).1 then failI 1 else getA (get xs).1 (get xs).2.1.toNat xs

theorem getI_put (o a : Int) (c m : ByteArray) (R : List Int) (h : mayIns o a (nums c) (nums m) = true) (ho : Is64 o) (ha : Is64 a) (hc : c.size ≤ 100) (hm : m.size ≤ 100) :
    getI (putI o a c m ++ R) = ((o, a, nums c, nums m), ((putI o a c m).length : Int), 0) := by
  unfold mayIns at h
  split at h
  · cases h
  rename_i h1
  split at h
  · cases h
  rename_i h2
  split at h
  · cases h
  rename_i h3
  have go := fun T => get_enc o T ho
  have ga := fun T => get_enc a T ha
  have gc := fun T => getText_enc c T hc
  have gm := fun T => getText_enc m T hm
  rcases kinds o with ⟨hk, hp⟩ | ⟨hk, hp⟩ | ⟨hk, hp⟩ | ⟨hk, hp⟩ | ⟨hk, hp⟩
  · simp [hp] at h h2 h3
    have e : putI o a c m ++ R = enc o ++ (enc a ++ R) := by unfold putI; rw [hp]; simp
    have e2 : (putI o a c m).length = (enc o).length + (enc a).length := by unfold putI; rw [hp]; simp
    unfold getI
    rw [e2, e, go]
    simp only [ne_eq, not_true, if_false, h1]
    unfold getA
    simp only [hp, Int.toNat_natCast, List.drop_left, ga]
    simp [h2, getC, getM, hp, h3, h]
  · simp [hp] at h h2 h3
    have e : putI o a c m ++ R = enc o ++ (encT c ++ R) := by unfold putI; rw [hp]; simp
    have e2 : (putI o a c m).length = (enc o).length + (encT c).length := by unfold putI; rw [hp]; simp
    unfold getI
    rw [e2, e, go]
    simp only [ne_eq, not_true, if_false, h1]
    unfold getA getC
    simp only [hp, Int.toNat_natCast, List.drop_left, gc]
    simp [h2, textB, getM, hp, h3, h]
  · simp [hp] at h h2 h3
    have e : putI o a c m ++ R = enc o ++ (encT c ++ (encT m ++ R)) := by unfold putI; rw [hp]; simp
    have e2 : (putI o a c m).length = (enc o).length + (encT c).length + (encT m).length := by unfold putI; rw [hp]; simp; omega
    unfold getI
    rw [e2, e, go]
    simp only [ne_eq, not_true, if_false, h1]
    unfold getA getC
    simp only [hp, Int.toNat_natCast, List.drop_left, gc]
    unfold getM
    rw [← List.append_assoc, ← List.length_append]
    simp only [hp, List.drop_left]
    simp [h2, textB, h3, h, gm]
  · simp [hp] at h h2 h3
    have e : putI o a c m ++ R = enc o ++ (encT c ++ R) := by unfold putI; rw [hp]; simp
    have e2 : (putI o a c m).length = (enc o).length + (encT c).length := by unfold putI; rw [hp]; simp
    unfold getI
    rw [e2, e, go]
    simp only [ne_eq, not_true, if_false, h1]
    unfold getA getC
    simp only [hp, Int.toNat_natCast, List.drop_left, gc]
    simp [h2, textB, getM, hp, h3, h]
  · simp [hp] at h h2 h3
    have e : putI o a c m ++ R = enc o ++ R := by unfold putI; rw [hp]; simp
    have e2 : (putI o a c m).length = (enc o).length := by unfold putI; rw [hp]; simp
    unfold getI
    rw [e2, e, go]
    simp only [ne_eq, not_true, if_false, h1]
    simp [h2, getA, getC, getM, hp, h3, h]
end Op4
end Go.Proofs.YtbfcjflgomedgaaGreat
