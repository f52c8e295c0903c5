/- Contracts and laws, texts of mine put into one. -/
import Derived.Test.YtbfcjflgomedgaaGreatBaseKind
import Derived.Deep.Light
import Derived.Test.YtbfcjflgomedgaaGreatLibOwn
/- What the document says of instructions (no program in it): C and M are their bytes as numbers. -/
namespace Go.Proofs.YtbfcjflgomedgaaGreat
namespace Op4
open Num Kind
set_option linter.unusedVariables false
set_option maxRecDepth 100000

def jumpsB (o : Int) : Bool := decide (20 ≤ o) && decide (o ≤ 36)
def endsB (o : Int) : Bool := decide (o = 20 ∨ o = 46 ∨ o = 47 ∨ o = 48 ∨ o = 58 ∨ o = 61)
/-- Has it a number, a class (1) or a type (2), a name? -/
def partsF (o : Int) : Bool × Int × Bool :=
  if o = 1 ∨ o = 3 ∨ o = 4 ∨ (20 ≤ o ∧ o ≤ 36) then (true, 0, false)
  else if o = 37 then (false, 1, false)
  else if 38 ≤ o ∧ o ≤ 45 then (false, 1, true)
  else if o = 50 ∨ o = 56 ∨ o = 57 then (false, 2, false)
  else (false, 0, false)
def numberB (o a : Int) : Bool :=
  if o = 1 then decide (-2147483648 ≤ a ∧ a < 2147483648) else if 20 ≤ o ∧ o ≤ 36 then decide (0 ≤ a ∧ a < 100) else decide (0 ≤ a ∧ a < 16)
def mayIns (o a : Int) (c m : List Int) : Bool :=
  if o < 1 ∨ 61 < o then false
  else if ((partsF o).1 && !numberB o a) || (!(partsF o).1 && (a != 0)) then false
  else if (((partsF o).2.1 == 0) && !(c == [])) || (((partsF o).2.1 == 1) && !classB c) || (((partsF o).2.1 == 2) && !refB c) then false
  else if (partsF o).2.2 then nameB m && !(m == initL)
  else m == []

/-- The five kinds of instructions, by their numbers. -/
theorem kinds (o : Int) : (((o = 1 ∨ o = 3 ∨ o = 4) ∨ (20 ≤ o ∧ o ≤ 36)) ∧ partsF o = (true, 0, false)) ∨ (o = 37 ∧ partsF o = (false, 1, false)) ∨ ((38 ≤ o ∧ o ≤ 45) ∧ partsF o = (false, 1, true)) ∨
    ((o = 50 ∨ o = 56 ∨ o = 57) ∧ partsF o = (false, 2, false)) ∨ ((¬ (o = 1 ∨ o = 3 ∨ o = 4 ∨ (20 ≤ o ∧ o ≤ 36)) ∧ ¬ o = 37 ∧ ¬ (38 ≤ o ∧ o ≤ 45) ∧ ¬ (o = 50 ∨ o = 56 ∨ o = 57)) ∧ partsF o = (false, 0, false)) := by
  unfold partsF
  by_cases h1 : o = 1 ∨ o = 3 ∨ o = 4 ∨ (20 ≤ o ∧ o ≤ 36)
  · rw [if_pos h1]; exact .inl ⟨by omega, rfl⟩
  · rw [if_neg h1]
    by_cases h2 : o = 37
    · rw [if_pos h2]; exact .inr (.inl ⟨h2, rfl⟩)
    · rw [if_neg h2]
      by_cases h3 : 38 ≤ o ∧ o ≤ 45
      · rw [if_pos h3]; exact .inr (.inr (.inl ⟨h3, rfl⟩))
      · rw [if_neg h3]
        by_cases h4 : o = 50 ∨ o = 56 ∨ o = 57
        · rw [if_pos h4]; exact .inr (.inr (.inr (.inl ⟨h4, rfl⟩)))
        · rw [if_neg h4]; exact .inr (.inr (.inr (.inr ⟨⟨h1, h2, h3, h4⟩, rfl⟩)))
end Op4
end Go.Proofs.YtbfcjflgomedgaaGreat

/- The contracts of the document's own answers on instructions: Jumps, Ends, parts, number, EqIns. -/
namespace Go.Proofs.YtbfcjflgomedgaaGreat
namespace Op4
open Num Kind
open Go.RowKit
set_option linter.unusedVariables false
set_option maxRecDepth 100000

theorem ret_b {a b : Bool} (h : a = b) : Ending.returned (.bool a) = .returned (.bool b) := by rw [h]
theorem jumps_any (o : Int) (w : World) : Calls Tryz.prog 68 #[.int .i64 o] w fun e w' => e = .returned (.bool (jumpsB o)) ∧ w = w' := by
  by_cases h1 : 20 ≤ o
  · have e0 : jumpsB o = decide (o ≤ 36) := by unfold jumpsB; simp [h1]
    rw [e0]
    clear e0
    go_enter Tryz.func68, Tryz.ntmps68
    go_wp2_with fail
    go_ret
    exact ⟨rfl, rfl⟩
  · have e0 : jumpsB o = false := by unfold jumpsB; simp; omega
    rw [e0]
    clear e0
    go_enter Tryz.func68, Tryz.ntmps68
    go_wp2_with fail
    go_ret
    exact ⟨rfl, rfl⟩
theorem ends_any (o : Int) (w : World) : Calls Tryz.prog 66 #[.int .i64 o] w fun e w' => e = .returned (.bool (endsB o)) ∧ w = w' := by
  go_enter Tryz.func66, Tryz.ntmps66
  go_wp2_with fail
  all_goals
    go_ret
    refine ⟨ret_b ?_, rfl⟩
    go_light
    simp_all [endsB]
def resP (r : Bool × Int × Bool) : Value := .tuple #[.bool r.1, .int .i64 r.2.1, .bool r.2.2]
theorem ret_p {a c : Bool} {b : Int} {r : Bool × Int × Bool} (h : (a, b, c) = r) : Ending.returned (.tuple #[.bool a, .int .i64 b, .bool c]) = .returned (resP r) := by rw [← h]; rfl
theorem parts_any (o : Int) (w : World) : Calls Tryz.prog 90 #[.int .i64 o] w fun e w' => e = .returned (resP (partsF o)) ∧ w = w' := by
  go_enter Tryz.func90, Tryz.ntmps90
  go_wp2_with (go_at_call 68; refine (jumps_any o _).mono ?_; rintro e w' ⟨rfl, rfl⟩)
  all_goals
    go_ret3
    refine ⟨ret_p ?_, rfl⟩
    go_light
    simp_all [partsF, jumpsB]
    try (repeat' split) <;> first | rfl | (exfalso; omega)
theorem number_any (o a : Int) (w : World) : Calls Tryz.prog 91 #[.int .i64 o, .int .i64 a] w fun e w' => e = .returned (.bool (numberB o a)) ∧ w = w' := by
  go_enter Tryz.func91, Tryz.ntmps91
  go_wp2_with (go_at_call 68; refine (jumps_any o _).mono ?_; rintro e w' ⟨rfl, rfl⟩)
  all_goals
    go_ret
    refine ⟨ret_b ?_, rfl⟩
    go_light
    simp_all [numberB, jumpsB]
    try (repeat' split) <;> first | rfl | omega | (exfalso; omega)
end Op4
end Go.Proofs.YtbfcjflgomedgaaGreat

/- The contracts over instructions as values: EqIns, MayIns. -/
namespace Go.Proofs.YtbfcjflgomedgaaGreat
namespace Op4
open Num Kind
open Go.RowKit
set_option linter.unusedVariables false
set_option maxRecDepth 100000

/-- An instruction as the text has it. -/
def insV (o a : Int) (c m : ByteArray) : Value := .agg #[.int .i64 o, .int .i64 a, .string c, .string m]
def eqB (o a : Int) (c m : ByteArray) (o' a' : Int) (c' m' : ByteArray) : Bool := decide (o = o' ∧ a = a' ∧ c.toList = c'.toList ∧ m.toList = m'.toList)

set_option maxHeartbeats 1000000 in
theorem eq_any (o a : Int) (c m : ByteArray) (o' a' : Int) (c' m' : ByteArray) (w : World) :
    Calls Tryz.prog 47 #[insV o a c m, insV o' a' c' m'] w fun e w' => e = .returned (.bool (eqB o a c m o' a' c' m')) ∧ Below w.heap.size w w' := by
  unfold insV
  go_enter Tryz.func47, Tryz.ntmps47
  go_wp2_with fail
  all_goals
    go_ret
    refine ⟨ret_b ?_, ((Below.refl _ _).alloc (Nat.le_refl _) _).alloc (by simp) _⟩
    go_light
    simp_all [eqB]
    try (rw [Bool.eq_iff_iff]; simp)

theorem empty_nums (c : ByteArray) : c.toList.isEmpty = (nums c == []) := by
  rw [← beq_nums c [] [] rfl]
  cases c.toList <;> rfl

set_option maxRecDepth 100000 in
set_option maxHeartbeats 2000000 in
theorem may_ins (o a : Int) (c m : ByteArray) (w : World) (hc : c.size ≤ maxLen) (hm : m.size ≤ maxLen) :
    Calls Tryz.prog 67 #[insV o a c m] w fun e w' => e = .returned (.bool (mayIns o a (nums c) (nums m))) ∧ Below w.heap.size w w' := by
  unfold insV
  have hce := empty_nums c
  have hme := empty_nums m
  have hmi := beq_nums m [36, 105, 110, 105, 116] initL rfl
  rcases kinds o with ⟨hk, hp⟩ | ⟨hk, hp⟩ | ⟨hk, hp⟩ | ⟨hk, hp⟩ | ⟨hk, hp⟩
  all_goals
    have HP : Hid _ := hp
    have HK : Hid _ := hk
    clear hp hk
    go_enter Tryz.func67, Tryz.ntmps67
    go_wp2_with fail
    refine (parts_any o _).mono ?_
    rintro e w' ⟨rfl, rfl⟩
    rw [HP.out]
    simp only [resP]
    go_wp2_with (first | (go_at_call 91; refine (number_any o a _).mono ?_; rintro e w' ⟨rfl, rfl⟩) | (go_at_call 17; refine (class_any c _ hc).mono ?_; rintro e w' ⟨rfl, rfl⟩) | (go_at_call 92; refine (ref_any c _ hc).mono ?_; rintro e w' ⟨rfl, rfl⟩) | (go_at_call 18; refine (name_any m _ hm).mono ?_; rintro e w' ⟨rfl, rfl⟩))
  all_goals
    go_ret
    refine ⟨ret_b ?_, (Below.refl _ _).alloc (Nat.le_refl _) _⟩
    go_light
    have hp := HP.out
    clear HP HK
    unfold mayIns
    rw [hp]
    simp_all
    try (repeat' split) <;> first | rfl | omega | (exfalso; omega)
end Op4
end Go.Proofs.YtbfcjflgomedgaaGreat

/- An instruction in memory, carried on. -/
namespace Go.Proofs.YtbfcjflgomedgaaGreat
namespace Op4
open Num Kind
open Go.RowKit
set_option linter.unusedVariables false
set_option maxRecDepth 100000

structure InsAt (w : World) (b off : Nat) (o a : Int) (c m : ByteArray) : Prop where
  c0 : w.cell? ⟨b, off, none⟩ = some (.int .i64 o)
  c1 : w.cell? ⟨b, off + 1, none⟩ = some (.int .i64 a)
  c2 : w.cell? ⟨b, off + 2, none⟩ = some (.string c)
  c3 : w.cell? ⟨b, off + 3, none⟩ = some (.string m)
theorem InsAt.later {w w' : World} {b off : Nat} {o a : Int} {c m : ByteArray} (h : InsAt w b off o a c m) (hb : Below w.heap.size w w') : InsAt w' b off o a c m :=
  ⟨cellOn h.c0 hb, cellOn h.c1 hb, cellOn h.c2 hb, cellOn h.c3 hb⟩
theorem InsAt.new (w : World) (o a : Int) (c m : ByteArray) (t : TypeId) : InsAt (w.alloc (.cells #[.int .i64 o, .int .i64 a, .string c, .string m] t)) w.heap.size 0 o a c m :=
  ⟨cell_new _ _ _ 0, cell_new _ _ _ 1, cell_new _ _ _ 2, cell_new _ _ _ 3⟩
theorem InsAt.alloc {w : World} {b off : Nat} {o a : Int} {c m : ByteArray} (h : InsAt w b off o a c m) (x : Obj) : InsAt (w.alloc x) b off o a c m :=
  h.later ((Below.refl _ _).alloc (Nat.le_refl _) _)
end Op4
end Go.Proofs.YtbfcjflgomedgaaGreat

/- An instruction in a variable of the call's own, carried on and stored into. -/
namespace Go.Proofs.YtbfcjflgomedgaaGreat
namespace Op4
open Num Kind
open Go.RowKit
set_option linter.unusedVariables false
set_option maxRecDepth 100000

structure Box (w : World) (b : Nat) (o a : Int) (c m : ByteArray) : Prop where
  lt : b < w.heap.size
  c0 : w.cell? ⟨b, 0, none⟩ = some (.int .i64 o)
  c1 : w.cell? ⟨b, 1, none⟩ = some (.int .i64 a)
  c2 : w.cell? ⟨b, 2, none⟩ = some (.string c)
  c3 : w.cell? ⟨b, 3, none⟩ = some (.string m)
  f0 : w.frozen? ⟨b, 0, none⟩ = false
  f1 : w.frozen? ⟨b, 1, none⟩ = false
  f2 : w.frozen? ⟨b, 2, none⟩ = false
  f3 : w.frozen? ⟨b, 3, none⟩ = false
theorem Box.upto {w w' : World} {b B : Nat} {o a : Int} {c m : ByteArray} (h : Box w b o a c m) (hb : Below B w w') (hB : b < B) : Box w' b o a c m := by
  refine ⟨Nat.lt_of_lt_of_le h.lt hb.size, ?_, ?_, ?_, ?_, ?_, ?_, ?_, ?_⟩
  · rw [hb.cell (p := ⟨b, 0, none⟩) hB]; exact h.c0
  · rw [hb.cell (p := ⟨b, 1, none⟩) hB]; exact h.c1
  · rw [hb.cell (p := ⟨b, 2, none⟩) hB]; exact h.c2
  · rw [hb.cell (p := ⟨b, 3, none⟩) hB]; exact h.c3
  · rw [hb.frozen (p := ⟨b, 0, none⟩) hB]; exact h.f0
  · rw [hb.frozen (p := ⟨b, 1, none⟩) hB]; exact h.f1
  · rw [hb.frozen (p := ⟨b, 2, none⟩) hB]; exact h.f2
  · rw [hb.frozen (p := ⟨b, 3, none⟩) hB]; exact h.f3
theorem Box.later {w w' : World} {b : Nat} {o a : Int} {c m : ByteArray} (h : Box w b o a c m) (hb : Below w.heap.size w w') : Box w' b o a c m := h.upto hb h.lt
theorem Box.alloc {w : World} {b : Nat} {o a : Int} {c m : ByteArray} (h : Box w b o a c m) (x : Obj) : Box (w.alloc x) b o a c m := h.later ((Below.refl _ _).alloc (Nat.le_refl _) _)
theorem Box.new (w : World) (o a : Int) (c m : ByteArray) (t : TypeId) : Box (w.alloc (.cells #[.int .i64 o, .int .i64 a, .string c, .string m] t)) w.heap.size o a c m := by
  have h := heap_alloc_new w (.cells #[.int .i64 o, .int .i64 a, .string c, .string m] t)
  refine ⟨by simp, cell_new _ _ _ 0, cell_new _ _ _ 1, cell_new _ _ _ 2, cell_new _ _ _ 3, ?_, ?_, ?_, ?_⟩ <;> (simp only [World.frozen?, h]; rfl)
/-- A whole instruction stored. -/
def put4 (w : World) (b : Nat) (o a : Int) (c m : ByteArray) : World :=
  (((w.setCell ⟨b, 0, none⟩ (.int .i64 o)).setCell ⟨b, 1, none⟩ (.int .i64 a)).setCell ⟨b, 2, none⟩ (.string c)).setCell ⟨b, 3, none⟩ (.string m)
theorem set_near (W : World) (b i j : Nat) (v : Value) (h : j ≠ i) : (W.setCell ⟨b, j, none⟩ v).cell? ⟨b, i, none⟩ = W.cell? ⟨b, i, none⟩ := by
  apply World.cell?_setCell_other
  intro e
  cases e
  exact h rfl
theorem set_far (W : World) (b b' i j : Nat) (v : Value) (h : b' ≠ b) : (W.setCell ⟨b', j, none⟩ v).cell? ⟨b, i, none⟩ = W.cell? ⟨b, i, none⟩ := by
  apply World.cell?_setCell_other
  intro e
  cases e
  exact h rfl
theorem set_same (W : World) (b i : Nat) (v u : Value) (h : W.cell? ⟨b, i, none⟩ = some u) : (W.setCell ⟨b, i, none⟩ v).cell? ⟨b, i, none⟩ = some v := by
  apply World.cell?_setCell_same
  exact h
theorem Box.stored {w : World} {b : Nat} {o a : Int} {c m : ByteArray} (h : Box w b o a c m) (o' a' : Int) (c' m' : ByteArray) : Box (put4 w b o' a' c' m') b o' a' c' m' := by
  unfold put4
  refine ⟨by simpa [World.setCell] using h.lt, ?_, ?_, ?_, ?_, by simpa using h.f0, by simpa using h.f1, by simpa using h.f2, by simpa using h.f3⟩
  · rw [set_near _ _ _ _ _ (by decide), set_near _ _ _ _ _ (by decide), set_near _ _ _ _ _ (by decide)]
    exact set_same _ _ _ _ _ h.c0
  · rw [set_near _ _ _ _ _ (by decide), set_near _ _ _ _ _ (by decide)]
    exact set_same _ _ _ _ (.int .i64 a) (by rw [set_near _ _ _ _ _ (by decide)]; exact h.c1)
  · rw [set_near _ _ _ _ _ (by decide)]
    exact set_same _ _ _ _ (.string c) (by rw [set_near _ _ _ _ _ (by decide), set_near _ _ _ _ _ (by decide)]; exact h.c2)
  · exact set_same _ _ _ _ (.string m) (by rw [set_near _ _ _ _ _ (by decide), set_near _ _ _ _ _ (by decide), set_near _ _ _ _ _ (by decide)]; exact h.c3)
theorem put4_below {B : Nat} {w0 w : World} (h : Below B w0 w) {b : Nat} (hb : B ≤ b) (o a : Int) (c m : ByteArray) : Below B w0 (put4 w b o a c m) :=
  (((h.setCell (p := ⟨b, 0, none⟩) hb _).setCell (p := ⟨b, 1, none⟩) hb _).setCell (p := ⟨b, 2, none⟩) hb _).setCell (p := ⟨b, 3, none⟩) hb _
theorem Box.other {w : World} {b b' : Nat} {o a : Int} {c m : ByteArray} (h : Box w b o a c m) (hne : b ≠ b') (o' a' : Int) (c' m' : ByteArray) : Box (put4 w b' o' a' c' m') b o a c m := by
  unfold put4
  refine ⟨by simpa [World.setCell] using h.lt, ?_, ?_, ?_, ?_, by simpa using h.f0, by simpa using h.f1, by simpa using h.f2, by simpa using h.f3⟩
  · rw [set_far _ _ _ _ _ _ hne.symm, set_far _ _ _ _ _ _ hne.symm, set_far _ _ _ _ _ _ hne.symm, set_far _ _ _ _ _ _ hne.symm]; exact h.c0
  · rw [set_far _ _ _ _ _ _ hne.symm, set_far _ _ _ _ _ _ hne.symm, set_far _ _ _ _ _ _ hne.symm, set_far _ _ _ _ _ _ hne.symm]; exact h.c1
  · rw [set_far _ _ _ _ _ _ hne.symm, set_far _ _ _ _ _ _ hne.symm, set_far _ _ _ _ _ _ hne.symm, set_far _ _ _ _ _ _ hne.symm]; exact h.c2
  · rw [set_far _ _ _ _ _ _ hne.symm, set_far _ _ _ _ _ _ hne.symm, set_far _ _ _ _ _ _ hne.symm, set_far _ _ _ _ _ _ hne.symm]; exact h.c3
theorem Box.grown {w w' : World} {b : Nat} {o a : Int} {c m : ByteArray} {row : Option Nat} (h : Box w b o a c m) (hg : w.grownBy w' row) (hne : some b ≠ row) : Box w' b o a c m := by
  have e : w'.heap[b]? = w.heap[b]? := hg.block b h.lt hne
  have cl : ∀ i, w'.cell? ⟨b, i, none⟩ = w.cell? ⟨b, i, none⟩ := fun i => World.cell?_of_block (w := w) e
  have fr : ∀ i, w'.frozen? ⟨b, i, none⟩ = w.frozen? ⟨b, i, none⟩ := fun i => World.frozen?_of_block (w := w) e
  exact ⟨Nat.lt_of_lt_of_le h.lt hg.size, by rw [cl]; exact h.c0, by rw [cl]; exact h.c1, by rw [cl]; exact h.c2, by rw [cl]; exact h.c3, by rw [fr]; exact h.f0, by rw [fr]; exact h.f1, by rw [fr]; exact h.f2, by rw [fr]; exact h.f3⟩
end Op4
end Go.Proofs.YtbfcjflgomedgaaGreat
