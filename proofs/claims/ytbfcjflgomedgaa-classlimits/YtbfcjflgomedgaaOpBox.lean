/- An instruction in a variable of the call's own, carried on and stored into. -/
import Derived.Test.YtbfcjflgomedgaaOpAt
namespace Go.Proofs.Ytbfcjflgomedgaa
namespace Op4
open Num Kind
open Go.RowKit
set_option linter.unusedVariables false
set_option maxRecDepth 100000

structure Box (w : World) (b : Nat) (o a : Int) (c m : ByteArray) : Prop where
  lt : b < w.heap.size
  c0 : w.cell? ⟨b, 0, none⟩ = some (.int .i64 o)
  c1 : w.cell? ⟨b, 1, none⟩ = some (.int .i64 a)
  c2 : w.cell? ⟨b, 2, none⟩ = some (.string c)
  c3 : w.cell? ⟨b, 3, none⟩ = some (.string m)
  f0 : w.frozen? ⟨b, 0, none⟩ = false
  f1 : w.frozen? ⟨b, 1, none⟩ = false
  f2 : w.frozen? ⟨b, 2, none⟩ = false
  f3 : w.frozen? ⟨b, 3, none⟩ = false
theorem Box.upto {w w' : World} {b B : Nat} {o a : Int} {c m : ByteArray} (h : Box w b o a c m) (hb : Below B w w') (hB : b < B) : Box w' b o a c m := by
  refine ⟨Nat.lt_of_lt_of_le h.lt hb.size, ?_, ?_, ?_, ?_, ?_, ?_, ?_, ?_⟩
  · rw [hb.cell (p := ⟨b, 0, none⟩) hB]; exact h.c0
  · rw [hb.cell (p := ⟨b, 1, none⟩) hB]; exact h.c1
  · rw [hb.cell (p := ⟨b, 2, none⟩) hB]; exact h.c2
  · rw [hb.cell (p := ⟨b, 3, none⟩) hB]; exact h.c3
  · rw [hb.frozen (p := ⟨b, 0, none⟩) hB]; exact h.f0
  · rw [hb.frozen (p := ⟨b, 1, none⟩) hB]; exact h.f1
  · rw [hb.frozen (p := ⟨b, 2, none⟩) hB]; exact h.f2
  · rw [hb.frozen (p := ⟨b, 3, none⟩) hB]; exact h.f3
theorem Box.later {w w' : World} {b : Nat} {o a : Int} {c m : ByteArray} (h : Box w b o a c m) (hb : Below w.heap.size w w') : Box w' b o a c m := h.upto hb h.lt
theorem Box.alloc {w : World} {b : Nat} {o a : Int} {c m : ByteArray} (h : Box w b o a c m) (x : Obj) : Box (w.alloc x) b o a c m := h.later ((Below.refl _ _).alloc (Nat.le_refl _) _)
theorem Box.new (w : World) (o a : Int) (c m : ByteArray) (t : TypeId) : Box (w.alloc (.cells #[.int .i64 o, .int .i64 a, .string c, .string m] t)) w.heap.size o a c m := by
  have h := heap_alloc_new w (.cells #[.int .i64 o, .int .i64 a, .string c, .string m] t)
  refine ⟨by simp, cell_new _ _ _ 0, cell_new _ _ _ 1, cell_new _ _ _ 2, cell_new _ _ _ 3, ?_, ?_, ?_, ?_⟩ <;> (simp only [World.frozen?, h]; rfl)
/-- A whole instruction stored. -/
def put4 (w : World) (b : Nat) (o a : Int) (c m : ByteArray) : World :=
  (((w.setCell ⟨b, 0, none⟩ (.int .i64 o)).setCell ⟨b, 1, none⟩ (.int .i64 a)).setCell ⟨b, 2, none⟩ (.string c)).setCell ⟨b, 3, none⟩ (.string m)
theorem set_near (W : World) (b i j : Nat) (v : Value) (h : j ≠ i) : (W.setCell ⟨b, j, none⟩ v).cell? ⟨b, i, none⟩ = W.cell? ⟨b, i, none⟩ := by
  apply World.cell?_setCell_other
  intro e
  cases e
  exact h rfl
theorem set_far (W : World) (b b' i j : Nat) (v : Value) (h : b' ≠ b) : (W.setCell ⟨b', j, none⟩ v).cell? ⟨b, i, none⟩ = W.cell? ⟨b, i, none⟩ := by
  apply World.cell?_setCell_other
  intro e
  cases e
  exact h rfl
theorem set_same (W : World) (b i : Nat) (v u : Value) (h : W.cell? ⟨b, i, none⟩ = some u) : (W.setCell ⟨b, i, none⟩ v).cell? ⟨b, i, none⟩ = some v := by
  apply World.cell?_setCell_same
  exact h
theorem Box.stored {w : World} {b : Nat} {o a : Int} {c m : ByteArray} (h : Box w b o a c m) (o' a' : Int) (c' m' : ByteArray) : Box (put4 w b o' a' c' m') b o' a' c' m' := by
  unfold put4
  refine ⟨by simpa [World.setCell] using h.lt, ?_, ?_, ?_, ?_, by simpa using h.f0, by simpa using h.f1, by simpa using h.f2, by simpa using h.f3⟩
  · rw [set_near _ _ _ _ _ (by decide), set_near _ _ _ _ _ (by decide), set_near _ _ _ _ _ (by decide)]
    exact set_same _ _ _ _ _ h.c0
  · rw [set_near _ _ _ _ _ (by decide), set_near _ _ _ _ _ (by decide)]
    exact set_same _ _ _ _ (.int .i64 a) (by rw [set_near _ _ _ _ _ (by decide)]; exact h.c1)
  · rw [set_near _ _ _ _ _ (by decide)]
    exact set_same _ _ _ _ (.string c) (by rw [set_near _ _ _ _ _ (by decide), set_near _ _ _ _ _ (by decide)]; exact h.c2)
  · exact set_same _ _ _ _ (.string m) (by rw [set_near _ _ _ _ _ (by decide), set_near _ _ _ _ _ (by decide), set_near _ _ _ _ _ (by decide)]; exact h.c3)
theorem put4_below {B : Nat} {w0 w : World} (h : Below B w0 w) {b : Nat} (hb : B ≤ b) (o a : Int) (c m : ByteArray) : Below B w0 (put4 w b o a c m) :=
  (((h.setCell (p := ⟨b, 0, none⟩) hb _).setCell (p := ⟨b, 1, none⟩) hb _).setCell (p := ⟨b, 2, none⟩) hb _).setCell (p := ⟨b, 3, none⟩) hb _
theorem Box.other {w : World} {b b' : Nat} {o a : Int} {c m : ByteArray} (h : Box w b o a c m) (hne : b ≠ b') (o' a' : Int) (c' m' : ByteArray) : Box (put4 w b' o' a' c' m') b o a c m := by
  unfold put4
  refine ⟨by simpa [World.setCell] using h.lt, ?_, ?_, ?_, ?_, by simpa using h.f0, by simpa using h.f1, by simpa using h.f2, by simpa using h.f3⟩
  · rw [set_far _ _ _ _ _ _ hne.symm, set_far _ _ _ _ _ _ hne.symm, set_far _ _ _ _ _ _ hne.symm, set_far _ _ _ _ _ _ hne.symm]; exact h.c0
  · rw [set_far _ _ _ _ _ _ hne.symm, set_far _ _ _ _ _ _ hne.symm, set_far _ _ _ _ _ _ hne.symm, set_far _ _ _ _ _ _ hne.symm]; exact h.c1
  · rw [set_far _ _ _ _ _ _ hne.symm, set_far _ _ _ _ _ _ hne.symm, set_far _ _ _ _ _ _ hne.symm, set_far _ _ _ _ _ _ hne.symm]; exact h.c2
  · rw [set_far _ _ _ _ _ _ hne.symm, set_far _ _ _ _ _ _ hne.symm, set_far _ _ _ _ _ _ hne.symm, set_far _ _ _ _ _ _ hne.symm]; exact h.c3
theorem Box.grown {w w' : World} {b : Nat} {o a : Int} {c m : ByteArray} {row : Option Nat} (h : Box w b o a c m) (hg : w.grownBy w' row) (hne : some b ≠ row) : Box w' b o a c m := by
  have e : w'.heap[b]? = w.heap[b]? := hg.block b h.lt hne
  have cl : ∀ i, w'.cell? ⟨b, i, none⟩ = w.cell? ⟨b, i, none⟩ := fun i => World.cell?_of_block (w := w) e
  have fr : ∀ i, w'.frozen? ⟨b, i, none⟩ = w.frozen? ⟨b, i, none⟩ := fun i => World.frozen?_of_block (w := w) e
  exact ⟨Nat.lt_of_lt_of_le h.lt hg.size, by rw [cl]; exact h.c0, by rw [cl]; exact h.c1, by rw [cl]; exact h.c2, by rw [cl]; exact h.c3, by rw [fr]; exact h.f0, by rw [fr]; exact h.f1, by rw [fr]; exact h.f2, by rw [fr]; exact h.f3⟩
end Op4
end Go.Proofs.Ytbfcjflgomedgaa
