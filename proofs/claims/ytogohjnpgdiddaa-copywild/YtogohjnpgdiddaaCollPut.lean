/- A word put into the object of number i. -/
import Derived.Test.YtogohjnpgdiddaaCollRing
import Derived.Test.YtogohjnpgdiddaaCollBegun
namespace Go.Proofs.Ytogohjnpgdiddaa
namespace Coll
open Mem Heap
open Go.RowKit
set_option linter.unusedVariables false
set_option linter.unusedSimpArgs false
set_option maxRecDepth 100000

theorem put_idx (os : List Ob) (i j : Nat) (x : Int) (hi : i < os.length) (hj : j < os[i].v.length) : holdsO os (pl os i : Int) (j : Int) = true ∧ putS os (pl os i : Int) (j : Int) x = os.set i ⟨os[i].k, os[i].v.set j x⟩ := by
  have e := pl_split os i hi
  have h := put_pre (os.take i) os[i] (os.drop (i + 1)) j x hj
  rw [← e] at h
  refine ⟨h.1, h.2.trans ?_⟩
  generalize (⟨os[i].k, os[i].v.set j x⟩ : Ob) = o'
  rw [List.set_eq_take_append_cons_drop, if_pos hi]
theorem get_idx (os : List Ob) (i j : Nat) (hi : i < os.length) (hj : j < os[i].v.length) : getO os (pl os i : Int) (j : Int) = os[i].v.getD j 0 := by
  have e := pl_split os i hi
  have h := Heap.get_at (os.take i) os[i] (os.drop (i + 1)) j hj
  rw [← e] at h
  exact h
theorem mul3 (n i m : Nat) (hi : i ≤ n) : pl (ringO n m) i = 3 * i := by
  unfold pl ringO
  rw [← List.map_take, List.take_range, Nat.min_eq_left hi]
  have : ∀ l : List Nat, (wordsO (l.map fun i => (⟨2, [if i < m then ((3 * nx n i + 1 : Nat) : Int) else 0]⟩ : Ob))).length = 3 * l.length := by
    intro l
    induction l with
    | nil => rfl
    | cons a r ih => rw [List.map_cons, wordsO_cons, List.length_append, obW_len, ih]; simp; omega
  rw [this, List.length_range]
theorem ringO_len (n m : Nat) : (ringO n m).length = n := by simp [ringO]
theorem ring_put (n j : Nat) (hj : j < n) : holdsO (ringO n j) ((3 * j : Nat) : Int) 0 = true ∧ putS (ringO n j) ((3 * j : Nat) : Int) 0 ((3 * nx n j + 1 : Nat) : Int) = ringO n (j + 1) := by
  have h := put_idx (ringO n j) j 0 ((3 * nx n j + 1 : Nat) : Int) (by rw [ringO_len]; exact hj) (by simp [ringO])
  rw [mul3 n j j (by omega)] at h
  refine ⟨h.1, h.2.trans ?_⟩
  apply List.ext_getElem
  · simp [ringO]
  · intro i h1 h2
    rw [List.getElem_set]
    simp only [ringO, List.getElem_map, List.getElem_range]
    by_cases hi : j = i
    · subst hi
      rw [if_pos rfl]
      simp
    · rw [if_neg hi]
      have : (i < j + 1) = (i < j) := by simp; omega
      simp only [this]
theorem ring_get (n j : Nat) (hj : j < n) : getO (ringO n n) ((3 * j : Nat) : Int) 0 = ((3 * nx n j + 1 : Nat) : Int) := by
  have h := get_idx (ringO n n) j 0 (by rw [ringO_len]; exact hj) (by simp [ringO])
  rw [mul3 n j n (by omega)] at h
  refine h.trans ?_
  simp [ringO, hj]
theorem ring_zero (n : Nat) : ringO n 0 = List.replicate n ⟨2, [0]⟩ := by
  apply List.ext_getElem
  · simp [ringO]
  · intro i h1 h2; simp [ringO]
theorem words_rep (j : Nat) : (wordsO (List.replicate j (⟨2, [0]⟩ : Ob))).length = 3 * j := by
  induction j with
  | zero => rfl
  | succ j ih => rw [List.replicate_succ, wordsO_cons, List.length_append, obW_len, ih]; simp; omega
theorem make_rep (C j : Nat) (h : 3 * j + 3 ≤ C) : makeB C (List.replicate j ⟨2, [0]⟩) 2 1 = true ∧ makeA C (List.replicate j ⟨2, [0]⟩) 2 1 = ((3 * j : Nat) : Int) ∧ makeS C (List.replicate j ⟨2, [0]⟩) 2 1 = List.replicate (j + 1) ⟨2, [0]⟩ := by
  have hm := make_fit (n := C) (ts := List.replicate j ⟨2, [0]⟩) (o := ⟨2, [0]⟩) ⟨by decide, by decide, fun x hx => by simp at hx; subst hx; exact ⟨by omega, by omega⟩⟩ (by rw [words_rep]; simp; omega)
  refine ⟨hm.1, ?_, ?_⟩
  · exact hm.2.1.trans (by rw [words_rep])
  · refine hm.2.2.trans ?_
    rw [List.replicate_succ']
    rfl
/-- A list that is nil. -/
theorem live_none (f : Nat → Nat → Bool) (rf : Value) (hrf : Rf rf f) (Bf : Nat) (w : World) (Sf : Nat → Prop) (p n : Nat) (os : List Ob) (HF : Hp Bf w Sf p n os) :
    Calls Try.prog 23 #[.pointer (some ⟨p, 0, none⟩), rf, .slice none 0 0] w fun e w' => e = .returned (.int .i64 0) ∧ Below w.heap.size w w' := by
  have := live_any f rf hrf _ _ _ _ _ _ _ _ _ _ HF (Reads.none .i64 w) (by omega)
  have h0 : live f os [] = [] := by unfold live; exact clo_stop (by simp [rootN])
  rw [h0] at this
  exact this
theorem live_minus (f : Nat → Nat → Bool) (os : List Ob) : live f os [-1] = [] := by
  unfold live
  have h1 : rootN os [-1] ([-1] : List Int).length = [] := by
    show rootN os [-1] 1 = _
    rw [rootN, rootN]
    exact add_no (no_minus _ _ (by simp))
  rw [h1]
  exact clo_stop (by simp)
theorem place_minus (os : List Ob) (out : List Nat) : placeR os out (-1) = -1 := by
  unfold placeR
  rw [no_minus _ _ (by omega)]
  rfl
end Coll
end Go.Proofs.Ytogohjnpgdiddaa
