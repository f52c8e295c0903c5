/- Lists of instructions: in memory, as bytes, picked. -/
import Derived.Test.YtegamajcipgkhaaOpEq
import Derived.Test.YtegamajcipgkhaaOpBox
import Derived.Test.YtegamajcipgkhaaOpCut
import Derived.Deep.Slices
import Derived.Lib.SmallJoins
namespace Go.Proofs.Ytegamajcipgkhaa
namespace Op4
open Num Kind
open Go.RowKit
set_option linter.unusedVariables false

abbrev I4 : Type := Int × Int × ByteArray × ByteArray
def cells4 (x : I4) : List Value := [.int .i64 x.1, .int .i64 x.2.1, .string x.2.2.1, .string x.2.2.2]
def cellsI (L : List I4) : List Value := L.flatMap cells4
theorem cellsI_nil : cellsI [] = [] := rfl
theorem cellsI_append (a b : List I4) : cellsI (a ++ b) = cellsI a ++ cellsI b := by simp [cellsI]
theorem cellsI_one (x : I4) : cellsI [x] = cells4 x := by simp [cellsI]
theorem cellsI_length : ∀ (L : List I4), (cellsI L).length = L.length * 4
  | [] => rfl
  | x :: L => by
    have := cellsI_length L
    rw [show x :: L = [x] ++ L from rfl, cellsI_append, List.length_append, cellsI_one, List.length_append, this]
    simp [cells4]
    omega
theorem cellsI_at : ∀ (L : List I4) (k j : Nat), j < 4 → (cellsI L)[k * 4 + j]? = (L[k]?).bind fun x => (cells4 x)[j]?
  | [], k, j, hj => by simp [cellsI]
  | x :: L, 0, j, hj => by
    rw [show x :: L = [x] ++ L from rfl, cellsI_append, cellsI_one, Nat.zero_mul, Nat.zero_add, List.getElem?_append_left (by simpa [cells4] using hj)]
    simp
  | x :: L, k + 1, j, hj => by
    have := cellsI_at L k j hj
    rw [show x :: L = [x] ++ L from rfl, cellsI_append, cellsI_one, List.getElem?_append_right (by simp [cells4]; omega), show (k + 1) * 4 + j - (cells4 x).length = k * 4 + j by simp [cells4]; omega, this]
    simp
def okI (x : I4) : Prop := Is64 x.1 ∧ Is64 x.2.1 ∧ x.2.2.1.size ≤ maxLen ∧ x.2.2.2.size ≤ maxLen
def cutI (x : I4) : I4 := (x.1, x.2.1, cutS x.2.2.1 14, cutS x.2.2.2 12)
def mayI (x : I4) : Bool := mayIns x.1 x.2.1 (nums x.2.2.1) (nums x.2.2.2)
def putX (x : I4) : List Int := putI x.1 x.2.1 x.2.2.1 x.2.2.2
def fl (L : List I4) : List Int := L.flatMap putX
theorem fl_append (a b : List I4) : fl (a ++ b) = fl a ++ fl b := by simp [fl]
def pickI (L : List I4) : List I4 := (L.map cutI).filter mayI
theorem pickI_step (L : List I4) (k : Nat) (hk : k < L.length) : pickI (L.take (k + 1)) = pickI (L.take k) ++ if mayI (cutI L[k]) = true then [cutI L[k]] else [] := by
  unfold pickI
  rw [List.take_succ_eq_append_getElem hk, List.map_append, List.filter_append]
  congr 1
  by_cases h : mayI (cutI L[k]) = true <;> simp [h]
/-- An instruction that may be, and is not too long. -/
structure Good (x : I4) : Prop where
  may : mayI x = true
  o : Is64 x.1
  a : Is64 x.2.1
  c : x.2.2.1.size ≤ 100
  m : x.2.2.2.size ≤ 100
theorem good_of {x : I4} (h : okI x) (hm : mayI (cutI x) = true) : Good (cutI x) :=
  ⟨hm, h.1, h.2.1, by have := cutS_size x.2.2.1 14; show (cutS _ _).size ≤ _; omega, by have := cutS_size x.2.2.2 12; show (cutS _ _).size ≤ _; omega⟩
theorem pick_good (L : List I4) (h : ∀ x ∈ L, okI x) : ∀ x ∈ pickI L, Good x := by
  intro x hx
  unfold pickI at hx
  obtain ⟨h1, h2⟩ := List.mem_filter.1 hx
  obtain ⟨y, hy, rfl⟩ := List.mem_map.1 h1
  exact good_of (h y hy) h2
theorem pick_length (L : List I4) : (pickI L).length ≤ L.length := by
  unfold pickI
  have := List.length_filter_le mayI (L.map cutI)
  rwa [List.length_map] at this
theorem fl_length : ∀ (F : List I4), (∀ x ∈ F, Good x) → (fl F).length ≤ F.length * 300
  | [], _ => by simp [fl]
  | x :: F, h => by
    have h1 := fl_length F (fun y hy => h y (by simp [hy]))
    have hx := h x (by simp)
    have h2 := (putI_len x.1 x.2.1 x.2.2.1 x.2.2.2 hx.c hx.m).2
    rw [show x :: F = [x] ++ F from rfl, fl_append, List.length_append, List.length_append]
    simp [fl, putX] at h1 h2 ⊢
    omega
theorem fl_bytes : ∀ (F : List I4), (∀ x ∈ F, Good x) → Bytes (fl F)
  | [], _ => fun x hx => by simp [fl] at hx
  | x :: F, h => by
    have hx := h x (by simp)
    rw [show x :: F = [x] ++ F from rfl, fl_append]
    refine bytes_append ?_ (fl_bytes F (fun y hy => h y (by simp [hy])))
    simpa [fl, putX] using putI_bytes x.1 x.2.1 x.2.2.1 x.2.2.2 hx.o hx.a hx.c hx.m
/-- Rows of unlike elements are apart. -/
theorem own_apart {w : World} {B B' : Nat} {e e' : TypeId} {s s' : Nat} {v v' : Value} {n n' : Nat} {xs xs' : List Value} (h : w.ownsRow B e s v n xs) (h' : w.ownsRow B' e' s' v' n' xs') (hne : e ≠ e') : v.ownBlock = none ∨ v.ownBlock ≠ v'.ownBlock := by
  rcases h.2 with ⟨rfl, _⟩ | ⟨g, cap, cur, rfl, _, hg, _⟩
  · exact .inl rfl
  · right
    rcases h'.2 with ⟨rfl, _⟩ | ⟨g', cap', cur', rfl, _, hg', _⟩
    · intro e; cases e
    · intro e
      have e1 : g = g' := by simpa [Value.ownBlock] using e
      subst e1
      rw [hg] at hg'
      simp at hg'
      exact hne hg'.2
end Op4
end Go.Proofs.Ytegamajcipgkhaa
