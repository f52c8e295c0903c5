/- Objects by their numbers, for the law HeapAll (no program in it). -/
import Derived.Test.YtpjccmcbagoplaaCollIdx
namespace Go.Proofs.Ytpjccmcbagoplaa
namespace Heap
open Coll
set_option linter.unusedVariables false
set_option linter.unusedSimpArgs false

theorem put_pre' (pre : List Ob) (o : Ob) (post : List Ob) (i : Nat) (x : Int) (hi : i < o.v.length) : holdsO (pre ++ o :: post) ((wordsO pre).length : Int) (i : Int) = true ∧ putO (pre ++ o :: post) (wordsO pre).length i x = pre ++ ⟨o.k, o.v.set i x⟩ :: post := by
  have hh : holdsO (pre ++ o :: post) ((wordsO pre).length : Int) (i : Int) = true := by
    unfold holdsO
    rw [len_at]
    simp; omega
  exact ⟨hh, put_at _ _ _ _ _⟩
theorem pl_kind (os : List Ob) (i : Nat) (o : Ob) (hi : os[i]? = some o) : kindO os (pl os i : Int) = (o.k : Int) ∧ lenO os (pl os i : Int) = (o.v.length : Int) ∧ hasO os (pl os i : Int) = true := by
  obtain ⟨hl, e⟩ := List.getElem?_eq_some_iff.1 hi
  have hs := pl_split os i hl
  rw [e] at hs
  have h1 := kind_at (os.take i) o (os.drop (i + 1))
  have h2 := len_at (os.take i) o (os.drop (i + 1))
  rw [← hs] at h1 h2
  exact ⟨h1, h2, pl_has os i hl⟩
theorem pl_get (os : List Ob) (i j : Nat) (o : Ob) (x : Int) (hi : os[i]? = some o) (hj : o.v[j]? = some x) : getO os (pl os i : Int) (j : Int) = x := by
  obtain ⟨hl, e⟩ := List.getElem?_eq_some_iff.1 hi
  obtain ⟨hjl, ex⟩ := List.getElem?_eq_some_iff.1 hj
  have hs := pl_split os i hl
  rw [e] at hs
  have h1 := Heap.get_at (os.take i) o (os.drop (i + 1)) j hjl
  rw [← hs] at h1
  refine h1.trans ?_
  simp [List.getD, hjl, ex]
theorem holds_idx (os : List Ob) (i : Nat) (o : Ob) (I : Int) (hi : os[i]? = some o) : holdsO os (pl os i : Int) I = (decide (0 ≤ I) && decide (I < (o.v.length : Int))) := by
  unfold holdsO
  rw [(pl_kind os i o hi).2.1]
theorem get_out (os : List Ob) (a I : Int) (h : holdsO os a I = false) : getO os a I = 0 := by
  unfold getO
  rw [h]
  rfl
theorem no_obj (os : List Ob) (a : Int) (h : hasO os a = false) : kindO os a = -1 ∧ lenO os a = 0 ∧ ∀ I, holdsO os a I = false := by
  refine ⟨by unfold kindO; rw [h]; rfl, by unfold lenO; rw [h]; rfl, fun I => ?_⟩
  unfold holdsO lenO
  rw [h]
  simp only [Bool.false_eq_true, if_false, Bool.and_eq_false_iff, decide_eq_false_iff_not]
  omega
theorem set_pl (os : List Ob) (i j : Nat) (o : Ob) (x : Int) (hi : os[i]? = some o) (b : Nat) : pl (os.set i ⟨o.k, o.v.set j x⟩) b = pl os b := by
  apply pl_same
  obtain ⟨hl, e⟩ := List.getElem?_eq_some_iff.1 hi
  apply List.ext_getElem
  · simp
  · intro c h1 h2
    simp only [List.getElem_map, List.getElem_set]
    by_cases hc : i = c
    · subst hc; rw [if_pos rfl, e]; simp
    · rw [if_neg hc]
theorem put_idx2 (os : List Ob) (i j : Nat) (o : Ob) (x : Int) (hi : os[i]? = some o) (hj : j < o.v.length) : holdsO os (pl os i : Int) (j : Int) = true ∧ putO os (pl os i) j x = os.set i ⟨o.k, o.v.set j x⟩ := by
  obtain ⟨hl, e⟩ := List.getElem?_eq_some_iff.1 hi
  have hs := pl_split os i hl
  rw [e] at hs
  have h := put_pre' (os.take i) o (os.drop (i + 1)) j x hj
  rw [← hs] at h
  refine ⟨h.1, h.2.trans ?_⟩
  generalize (⟨o.k, o.v.set j x⟩ : Ob) = o'
  rw [List.set_eq_take_append_cons_drop, if_pos hl]
theorem pl_snoc (os : List Ob) (o : Ob) (b : Nat) (hb : b ≤ os.length) : pl (os ++ [o]) b = pl os b := by
  unfold pl
  rw [List.take_append_of_le_length hb]
end Heap
end Go.Proofs.Ytpjccmcbagoplaa
