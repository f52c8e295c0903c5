/- The laws' own class with one method. -/
import Derived.Test.YtjblmgdjaaeedaaGreatClsMayAll
import Derived.Test.YtjblmgdjaaeedaaGreatClsEqG
namespace Go.Proofs.YtjblmgdjaaeedaaGreat
namespace Cls
open Num Kind Op4
open Go.RowKit
set_option linter.unusedVariables false
set_option maxRecDepth 100000

def oneW (w : World) (v27 : Array Value) (lo : Int) : World :=
  ((((w.alloc (.cells v27 26)).alloc (.cells #[.string ⟨#[120]⟩, .string ⟨#[73]⟩, .bool false] 40)).alloc
    (.cells #[.int .i64 46, .int .i64 0, .string ⟨#[]⟩, .string ⟨#[]⟩] 48)).alloc
    (.cells #[.string ⟨#[109, 97, 105, 110]⟩, .slice none 0 0, .string ⟨#[86]⟩, .bool true, .bool false, .int .i64 lo, .int .i64 0, .slice (some ⟨w.heap.size + 1 + 1, 0, none⟩) 1 1, .slice none 0 0, .slice none 0 0] 46))
def oneC (w : World) (n : ByteArray) : Array Value := #[.string n, .string ⟨#[79, 98, 106, 101, 99, 116]⟩, .bool false, .slice none 0 0, .slice (some ⟨w.heap.size + 1, 0, none⟩) 1 1, .slice (some ⟨w.heap.size + 1 + 1 + 1, 0, none⟩) 1 1]
def oneF : FieldL := ⟨⟨#[120]⟩, ⟨#[73]⟩, false⟩
def oneI : InsL := ⟨46, 0, ⟨#[]⟩, ⟨#[]⟩⟩
def oneM (lo : Int) : MethL := ⟨⟨#[109, 97, 105, 110]⟩, [], ⟨#[86]⟩, true, false, lo, 0, [oneI], [], []⟩
def oneL (n : ByteArray) (lo : Int) : ClsL := ⟨n, ⟨#[79, 98, 106, 101, 99, 116]⟩, false, [], [oneF], [oneM lo]⟩
theorem one_any (n : ByteArray) (w : World) :
    Calls Tryz.prog 17 #[.string n] w fun e w' => e = .returned (.agg (oneC w n)) ∧ oneW w (oneC w n) 0 = w' := by
  go_enter Tryz.func17, Tryz.ntmps17
  go_wp2_with fail
  go_returns
  exact ⟨rfl, rfl⟩
theorem alloc1 (w : World) (o : Obj) : Below w.heap.size w (w.alloc o) := (Below.refl _ _).alloc (Nat.le_refl _) o
theorem oneW_size (w : World) (v : Array Value) (lo : Int) : (oneW w v lo).heap.size = w.heap.size + 1 + 1 + 1 + 1 := by
  unfold oneW
  rw [alloc_size, alloc_size, alloc_size, alloc_size]
theorem oneW_below (w : World) (v : Array Value) (lo : Int) : Below w.heap.size w (oneW w v lo) := by
  unfold oneW
  have b1 := (Below.refl w.heap.size w).alloc (Nat.le_refl _) (.cells v 26)
  have b2 := b1.alloc b1.size (.cells #[.string ⟨#[120]⟩, .string ⟨#[73]⟩, .bool false] 40)
  have b3 := b2.alloc b2.size (.cells #[.int .i64 46, .int .i64 0, .string ⟨#[]⟩, .string ⟨#[]⟩] 48)
  exact b3.alloc b3.size _
/-- A slice of one element. -/
theorem Sl.one {α : Type} {E : World → Nat → Nat → α → Prop} {size : Nat} {w : World} {b : Nat} {x : α} (hb : b < w.heap.size) (h : E w b 0 x) : Sl E size w (.slice (some ⟨b, 0, Option.none⟩) 1 1) [x] := by
  refine ⟨_, 1, rfl, Nat.le_refl _, by unfold maxLen; omega, fun e => (by cases e), fun _ => ⟨b, 0, rfl, hb, fun i hi => ?_⟩⟩
  obtain rfl : i = 0 := by simpa using hi
  simpa using h
theorem allocOn {w : World} {b off : Nat} {v : Value} (h : w.cell? ⟨b, off, none⟩ = some v) (o : Obj) : (w.alloc o).cell? ⟨b, off, none⟩ = some v := cellOn h ((Below.refl _ _).alloc (Nat.le_refl _) o)
theorem one_code (w : World) (v : Array Value) (lo : Int) : Sl insE 4 (oneW w v lo) (.slice (some ⟨w.heap.size + 1 + 1, 0, none⟩) 1 1) [oneI] := by
  have hsz := oneW_size w v lo
  have C := fun j => cell_new ((w.alloc (.cells v 26)).alloc (.cells #[.string ⟨#[120]⟩, .string ⟨#[73]⟩, .bool false] 40)) #[.int .i64 46, .int .i64 0, .string ⟨#[]⟩, .string ⟨#[]⟩] 48 j
  rw [alloc_size, alloc_size] at C
  exact Sl.one (by omega) ⟨⟨allocOn (C 0) _, allocOn (C 1) _, allocOn (C 2) _, allocOn (C 3) _⟩, by decide, by decide⟩
theorem one_cls (w : World) (v : Array Value) (n : ByteArray) (lo : Int) (hn : n.size ≤ maxLen) :
    ClsV (oneW w v lo) (.slice none 0 0) (.slice (some ⟨w.heap.size + 1, 0, none⟩) 1 1) (.slice (some ⟨w.heap.size + 1 + 1 + 1, 0, none⟩) 1 1) (oneL n lo) := by
  have hsz := oneW_size w v lo
  have F := fun j => cell_new (w.alloc (.cells v 26)) #[.string ⟨#[120]⟩, .string ⟨#[73]⟩, .bool false] 40 j
  rw [alloc_size] at F
  have C := fun j => cell_new ((w.alloc (.cells v 26)).alloc (.cells #[.string ⟨#[120]⟩, .string ⟨#[73]⟩, .bool false] 40)) #[.int .i64 46, .int .i64 0, .string ⟨#[]⟩, .string ⟨#[]⟩] 48 j
  rw [alloc_size, alloc_size] at C
  have M := fun j => cell_new (((w.alloc (.cells v 26)).alloc (.cells #[.string ⟨#[120]⟩, .string ⟨#[73]⟩, .bool false] 40)).alloc (.cells #[.int .i64 46, .int .i64 0, .string ⟨#[]⟩, .string ⟨#[]⟩] 48)) #[.string ⟨#[109, 97, 105, 110]⟩, .slice none 0 0, .string ⟨#[86]⟩, .bool true, .bool false, .int .i64 lo, .int .i64 0, .slice (some ⟨w.heap.size + 1 + 1, 0, none⟩) 1 1, .slice none 0 0, .slice none 0 0] 46 j
  rw [alloc_size, alloc_size, alloc_size] at M
  refine ⟨Sl.none _ _ _, Sl.one (by omega) ⟨?_, ?_, ?_, by decide, by decide⟩, Sl.one (by omega) ⟨.slice none 0 0, .slice (some ⟨w.heap.size + 1 + 1, 0, none⟩) 1 1, .slice none 0 0, .slice none 0 0, ⟨Sl.none _ _ _, Sl.one (by omega) ⟨⟨?_, ?_, ?_, ?_⟩, by decide, by decide⟩, Sl.none _ _ _, Sl.none _ _ _, (by decide : (4 : Nat) ≤ maxLen), (by decide : (1 : Nat) ≤ maxLen)⟩, fun j hj => ?_⟩, hn, (by decide : (6 : Nat) ≤ maxLen)⟩
  · exact allocOn (allocOn (F 0) _) _
  · exact allocOn (allocOn (F 1) _) _
  · exact allocOn (allocOn (F 2) _) _
  · exact allocOn (C 0) _
  · exact allocOn (C 1) _
  · exact allocOn (C 2) _
  · exact allocOn (C 3) _
  · rw [Nat.zero_add]
    exact M j
/-- One, of which the world is told by what lies in it alone. -/
theorem one_abs (n : ByteArray) (w : World) (hn : n.size ≤ maxLen) :
    Calls Tryz.prog 17 #[.string n] w fun e w' => ∃ b4 b5, e = .returned (.agg #[.string n, .string ⟨#[79, 98, 106, 101, 99, 116]⟩, .bool false, .slice none 0 0, .slice (some ⟨b4, 0, none⟩) 1 1, .slice (some ⟨b5, 0, none⟩) 1 1]) ∧
      ClsV w' (.slice none 0 0) (.slice (some ⟨b4, 0, none⟩) 1 1) (.slice (some ⟨b5, 0, none⟩) 1 1) (oneL n 0) ∧ Below w.heap.size w w' := by
  refine (one_any n w).mono ?_
  rintro e w' ⟨rfl, rfl⟩
  exact ⟨_, _, rfl, one_cls w _ n 0 hn, oneW_below _ _ _⟩
structure ClsCells (w : World) (B : Nat) (v0 v1 v2 v3 v4 v5 : Value) : Prop where
  c0 : w.cell? ⟨B, 0, none⟩ = some v0
  c1 : w.cell? ⟨B, 1, none⟩ = some v1
  c2 : w.cell? ⟨B, 2, none⟩ = some v2
  c3 : w.cell? ⟨B, 3, none⟩ = some v3
  c4 : w.cell? ⟨B, 4, none⟩ = some v4
  c5 : w.cell? ⟨B, 5, none⟩ = some v5
theorem ClsCells.later {w w' : World} {B : Nat} {v0 v1 v2 v3 v4 v5 : Value} (h : ClsCells w B v0 v1 v2 v3 v4 v5) (hb : Below w.heap.size w w') : ClsCells w' B v0 v1 v2 v3 v4 v5 :=
  ⟨cellOn h.c0 hb, cellOn h.c1 hb, cellOn h.c2 hb, cellOn h.c3 hb, cellOn h.c4 hb, cellOn h.c5 hb⟩
theorem ClsCells.new (w : World) (v0 v1 v2 v3 v4 v5 : Value) (t : Nat) : ClsCells (w.alloc (.cells #[v0, v1, v2, v3, v4, v5] t)) w.heap.size v0 v1 v2 v3 v4 v5 :=
  ⟨cell_new _ _ _ 0, cell_new _ _ _ 1, cell_new _ _ _ 2, cell_new _ _ _ 3, cell_new _ _ _ 4, cell_new _ _ _ 5⟩
end Cls
end Go.Proofs.YtjblmgdjaaeedaaGreat
