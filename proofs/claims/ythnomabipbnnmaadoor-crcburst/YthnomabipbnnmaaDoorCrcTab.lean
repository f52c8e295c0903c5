/- The program's table of sums, as its row lays it, and how it is carried on; plain facts on a step of four bits. -/
import Derived.Test.YthnomabipbnnmaaDoorLibHas
import Derived.Test.YthnomabipbnnmaaDoorCrcMath
import Derived.Lib.LaidTab
import Derived.LaidLaws
namespace Go.Proofs.YthnomabipbnnmaaDoor
namespace Crc
open Num
open Go.RowKit
set_option linter.unusedVariables false

def tabn : List Nat := [0, 498536548, 997073096, 651767980, 1994146192, 1802195444, 1303535960, 1342533948, 3988292384, 4027552580, 3604390888, 3412177804, 2607071920, 2262029012, 2685067896, 3183342108]
def tb (i : Nat) : Nat := tabn.getD i 0
/-- The table stands in its variable's block (the first of all). -/
structure Tab (w : World) : Prop where
  lt : 0 < w.heap.size
  cell : ∀ i : Nat, i < 16 → w.cell? ⟨0, i, none⟩ = some (.int .u32 (tb i : Nat))
theorem Tab.later {w w' : World} (h : Tab w) (hb : Below w.heap.size w w') : Tab w' :=
  ⟨Nat.lt_of_lt_of_le h.lt hb.size, fun i hi => (hb.cell (p := ⟨0, i, Option.none⟩) h.lt).trans (h.cell i hi)⟩

/-! ### From the row's list to the table; a world for the witness -/
theorem gTab : Tryd.prog.globalNamed "daguerre/crc.steps" = some 0 := by kernel_rfl
theorem gTabType : (Tryd.prog.globals[0]?).map (·.type) = some 35 := by kernel_rfl
theorem cellsTab : Tryd.prog.cellsOf 35 = 16 := by kernel_rfl
theorem cellsU32 : Tryd.prog.cellsOf 25 = 1 := by kernel_rfl
theorem tabOf {W : World} (h : laidMetH Tryd.prog [("daguerre/crc.steps", Rows.laid_daguerre_crc_steps)] W) : Tab W := by
  have t : Lib.TabIs Tryd.prog W "daguerre/crc.steps" .u32 (tabn.map fun n : Nat => (n : Int)) :=
    Lib.tabIs_of_head (rest := []) gTab gTabType Tryd.underlying35 Tryd.underlying25 cellsU32 cellsTab h
  have c : ∀ i : Nat, i < 16 → W.cell? ⟨0, i, none⟩ = some (.int .u32 (tb i : Nat)) := by
    intro i hi
    have := t.cell gTab i hi
    have e : (tabn.map fun n : Nat => (n : Int)).getD i 0 = ((tb i : Nat) : Int) := by
      simp only [tb, List.getD, List.getElem?_map]
      cases tabn[i]? <;> rfl
    rwa [e] at this
  refine ⟨?_, c⟩
  have c0 := c 0 (by decide)
  rcases Nat.eq_zero_or_pos W.heap.size with h0 | h0
  · have e : W.heap[0]? = none := Array.getElem?_eq_none (by omega)
    simp [World.cell?, e] at c0
  · exact h0
def layTab (w : World) : World :=
  { w with heap := w.heap.modify 0 fun
      | .cells _ t frozen => .cells #[.int .u32 0, .int .u32 498536548, .int .u32 997073096, .int .u32 651767980, .int .u32 1994146192, .int .u32 1802195444, .int .u32 1303535960, .int .u32 1342533948, .int .u32 3988292384, .int .u32 4027552580, .int .u32 3604390888, .int .u32 3412177804, .int .u32 2607071920, .int .u32 2262029012, .int .u32 2685067896, .int .u32 3183342108] t frozen
      | o => o }

theorem st_two (q : Nat) : st (2 * q) = q := by
  unfold st
  rw [if_neg (by omega)]
  omega
theorem stn4_high (q : Nat) : stn 4 (16 * q) = q := by
  show st (st (st (st (16 * q)))) = q
  rw [show 16 * q = 2 * (2 * (2 * (2 * q))) by omega, st_two, st_two, st_two, st_two]
theorem stn4_low : ∀ i, i < 16 → stn 4 i = tb i := by decide
theorem split16 (r : Nat) : r = (16 * (r / 16)) ^^^ (r % 16) := by
  apply Nat.eq_of_testBit_eq
  intro i
  rw [Nat.testBit_xor, show 16 * (r / 16) = (r / 2 ^ 4) * 2 ^ 4 by omega, Nat.testBit_mul_two_pow, show (16 : Nat) = 2 ^ 4 from rfl, Nat.testBit_mod_two_pow]
  by_cases h : 4 ≤ i
  · rw [Nat.testBit_div_two_pow, show i - 4 + 4 = i by omega]
    simp [h, show ¬ i < 4 by omega]
  · simp [h, show i < 4 by omega]
theorem stn4 (r : Nat) : (r / 16) ^^^ tb (r % 16) = stn 4 r := by
  conv => rhs; rw [split16 r]
  rw [stn_xor, stn4_high, stn4_low _ (Nat.mod_lt _ (by decide))]
theorem tabn_lt : ∀ i, i < 16 → tb i < 4294967296 := by decide
end Crc
end Go.Proofs.YthnomabipbnnmaaDoor
