/- The contract of the laws' own 'begun': it answers true; nothing old is turned. -/
import Derived.Test.YtpjccmcbagoplaaHeapOfA
namespace Go.Proofs.Ytpjccmcbagoplaa
namespace Heap
open Mem
open Go.RowKit
set_option linter.unusedVariables false
set_option linter.unusedSimpArgs false
set_option maxRecDepth 100000

def bo1 : List Ob := [⟨3, [0, 0]⟩]
def bo2 : List Ob := [⟨3, [0, 0]⟩, ⟨1, [0, 0, 0]⟩]
def bo3 : List Ob := [⟨3, [0, 0]⟩, ⟨1, [0, 0, 7]⟩]
set_option maxHeartbeats 2000000 in
theorem begun_any (w : World) : Calls Try.prog 4 #[] w fun e w' => e = .returned (.bool true) ∧ Below w.heap.size w w' := by
  have c10 : clampN 10 = 10 := by decide
  have c20 : clampN 20 = 20 := by decide
  have B1 : makeB 10 [] 3 2 = true := by decide
  have A1 : makeA 10 [] 3 2 = 0 := by decide
  have S1 : makeS 10 [] 3 2 = bo1 := by kernel_rfl
  have B2 : makeB 10 bo1 1 3 = true := by decide
  have A2 : makeA 10 bo1 1 3 = 4 := by decide
  have S2 : makeS 10 bo1 1 3 = bo2 := by kernel_rfl
  have B3 : makeB 10 bo2 0 0 = false := by decide
  have A3 : makeA 10 bo2 0 0 = -1 := by decide
  have S3 : makeS 10 bo2 0 0 = bo2 := by kernel_rfl
  have P1 : putS bo2 4 2 7 = bo3 := by kernel_rfl
  have P2 : holdsO bo2 4 2 = true := by decide
  have O1 : ofO (wordsO bo3) 20 = some bo3 := by kernel_rfl
  have L1 : (wordsO bo3).length = 9 := by decide
  have q1 : kindO bo3 0 = 3 := by decide
  have q2 : lenO bo3 4 = 3 := by decide
  have q3 : getO bo3 4 2 = 7 := by decide
  have q4 : hasO bo3 1 = false := by decide
  go_enter Try.func4, Try.ntmps4
  go_wp2_with fail
  refine (new_any 10 w (by omega)).mono ?_
  rintro e w1 ⟨rfl, H1, b1⟩
  rw [c10] at H1
  go_wp2_with fail
  refine (make_any _ _ _ _ _ _ 3 2 H1).mono ?_
  rintro e w2 ⟨rfl, S', H2, o2, hS2⟩
  rw [B1, A1]
  rw [S1] at H2
  have b2 := b1.trans (o2.to (B := w.heap.size) (fun k e => by subst e; exact Nat.le_refl _) b1.size)
  go_wp2_with fail
  refine (make_any _ _ _ _ _ _ 1 3 H2).mono ?_
  rintro e w3 ⟨rfl, S'', H3, o3, hS3⟩
  rw [B2, A2]
  rw [S2] at H3
  have b3 := b2.trans (o3.to (B := w.heap.size) (fun k e => (H2.raw.low k e).1) b2.size)
  go_wp2_with fail
  refine (make_any _ _ _ _ _ _ 0 0 H3).mono ?_
  rintro e w4 ⟨rfl, S4, H4, o4, hS4⟩
  rw [B3, A3]
  rw [S3] at H4
  have b4 := b3.trans (o4.to (B := w.heap.size) (fun k e => (H3.raw.low k e).1) b3.size)
  go_wp2_with fail
  refine (put_any _ _ _ _ _ _ 4 2 7 H4 ⟨by omega, by omega⟩).mono ?_
  rintro e w5 ⟨rfl, H5, o5, _⟩
  rw [P2]
  rw [P1] at H5
  have b5 := b4.trans (o5.to (B := w.heap.size) (fun k e => (H4.raw.low k e).1) b4.size)
  go_wp2_with fail
  refine (words_any _ _ _ _ _ _ _ H5.raw).mono ?_
  rintro e w6 ⟨v', rfl, own6, k6⟩
  obtain ⟨va, vc, rfl, hr6⟩ := Reads.own own6
  have H6 := H5.later k6
  have b6 := b5.trans (k6.mono b5.size)
  rw [L1] at hr6
  rw [L1]
  go_wp2_with fail
  refine (of_any va 9 vc (wordsO bo3) 20 _ hr6 (words_is32 _ H6.ok) (by omega) (by omega)).mono ?_
  rintro e w7 h7
  rcases h7 with ⟨hn, _⟩ | ⟨os, p7, S7, ho, rfl, H7, _, k7⟩
  · rw [O1] at hn; cases hn
  obtain rfl := Option.some.inj (O1.symm.trans ho)
  rw [c20] at H7
  have H8 := H6.later k7
  have b7 := b6.trans (k7.mono b6.size)
  clear H1 H2 H3 H4 H5 H6 b1 b2 b3 b4 b5 b6 o2 o3 o4 o5 hS2 hS3 hS4 own6 hr6 k6 k7 B1 A1 S1 B2 A2 S2 B3 A3 S3 P1 P2 O1
  have HK := kind_any _ _ _ _ _ _ 0 H8
  have HL := len_any _ _ _ _ _ _ 4 H8
  have HG := get_any _ _ _ _ _ _ 4 2 H8
  have HH := has_any _ _ _ _ _ _ 1 H8
  have HU := used_any _ _ _ _ _ _ _ H8.raw
  have HS := size_any _ _ _ _ _ _ _ H8.raw
  have HG7 := get_any _ _ _ _ _ _ 4 2 H7
  have HS7 := size_any _ _ _ _ _ _ _ H7.raw
  rw [q1] at HK
  rw [q2] at HL
  rw [q3] at HG HG7
  rw [q4] at HH
  rw [L1] at HU
  go_wp2_with fail
  refine HK.mono ?_
  rintro e w' ⟨rfl, rfl⟩
  go_wp2_with fail
  refine HL.mono ?_
  rintro e w' ⟨rfl, rfl⟩
  go_wp2_with fail
  refine HG.mono ?_
  rintro e w' ⟨rfl, rfl⟩
  go_wp2_with fail
  refine HH.mono ?_
  rintro e w' ⟨rfl, rfl⟩
  go_wp2_with fail
  refine HU.mono ?_
  rintro e w' ⟨rfl, rfl⟩
  go_wp2_with fail
  refine HS.mono ?_
  rintro e w' ⟨rfl, rfl⟩
  go_wp2_with fail
  refine HG7.mono ?_
  rintro e w' ⟨rfl, rfl⟩
  go_wp2_with fail
  refine HS7.mono ?_
  rintro e w' ⟨rfl, rfl⟩
  go_wp2_with fail
  go_ret
  exact ⟨rfl, b7⟩
end Heap
end Go.Proofs.Ytpjccmcbagoplaa
