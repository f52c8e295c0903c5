/- The contract of the laws' own 'begun': it answers true; nothing old is turned. -/
import Derived.Test.YtogohjnpgdiddaaCollCopy
namespace Go.Proofs.Ytogohjnpgdiddaa
namespace Coll
open Mem Heap
open Go.RowKit
set_option linter.unusedVariables false
set_option linter.unusedSimpArgs false
set_option maxRecDepth 100000

/-- A list that is written out. -/
theorem reads_lit (w : World) (k : IntKind) (T : Nat) (xs : List Int) (h0 : 0 < xs.length) (h1 : xs.length ≤ 1000) : Reads k (w.alloc (.cells (xs.map (Value.int k)).toArray T)) (some ⟨w.heap.size, 0, none⟩) xs.length xs.length xs := by
  refine ⟨rfl, Nat.le_refl _, by unfold maxLen; omega, fun e => (by cases e), fun _ => ⟨_, _, rfl, fun i hi => ?_⟩⟩
  rw [Nat.zero_add, blk_cell (blk_new w _ T) i]
  simp [List.getD, hi]
/-- Make, where there is room. -/
theorem make_ok (B : Nat) (w : World) (S : Nat → Prop) (p n : Nat) (os os' : List Ob) (k m A : Int) (H : Hp B w S p n os) (hb : makeB n os k m = true) (ha : makeA n os k m = A) (hs : makeS n os k m = os') :
    Calls Try.prog 27 #[.pointer (some ⟨p, 0, none⟩), .int .i64 k, .int .i64 m] w fun e w' => e = .returned (.tuple #[.int .i64 A, .bool true]) ∧ ∃ S', Hp B w' S' p n os' ∧ Below B w w' := by
  have := make_any B w S p n os k m H
  rw [hb, ha, hs] at this
  exact this.mono fun e w' ⟨h1, S', h2, h3, _⟩ => ⟨h1, S', h2, h3.to (fun k e => (H.raw.low k e).1) (Nat.le_of_lt (Nat.lt_of_le_of_lt (H.raw.low p H.raw.here).1 (H.raw.low p H.raw.here).2))⟩
theorem put_ok (B : Nat) (w : World) (S : Nat → Prop) (p n : Nat) (os os' : List Ob) (a i x : Int) (H : Hp B w S p n os) (hx : Is32 x) (hh : holdsO os a i = true) (hs : putS os a i x = os') :
    Calls Try.prog 25 #[.pointer (some ⟨p, 0, none⟩), .int .i64 a, .int .i64 i, .int .i32 x] w fun e w' => e = .returned (.bool true) ∧ Hp B w' S p n os' ∧ Below B w w' := by
  have := put_any B w S p n os a i x H hx
  rw [hh, hs] at this
  exact this.mono fun e w' ⟨h1, h2, h3, _⟩ => ⟨h1, h2, h3.to (fun k e => (H.raw.low k e).1) (Nat.le_of_lt (Nat.lt_of_le_of_lt (H.raw.low p H.raw.here).1 (H.raw.low p H.raw.here).2))⟩
theorem copy_lit (f : Nat → Nat → Bool) (rf : Value) (hrf : Rf rf f) (Bf : Nat) (w : World) (Sf : Nat → Prop) (p n : Nat) (os ts : List Ob) (xs ys : List Int) (HF : Hp Bf w Sf p n os) (h0 : 0 < xs.length) (h1 : xs.length ≤ 1000) (ht : (live f os xs).map (turnO f os (live f os xs)) = ts) (hy : xs.map (placeR os (live f os xs)) = ys) :
    Calls Try.prog 13 #[.pointer (some ⟨p, 0, none⟩), rf, .slice (some ⟨w.heap.size, 0, none⟩) xs.length xs.length] (w.alloc (.cells (xs.map (Value.int .i64)).toArray 3)) fun e w' => ∃ q S g cap, e = .returned (.tuple #[.pointer (some ⟨q, 0, none⟩), .slice (some ⟨g, 0, none⟩) xs.length cap]) ∧ Hp w.heap.size w' S q n ts ∧ w'.ownsRow w.heap.size 3 1 (.slice (some ⟨g, 0, none⟩) xs.length cap) xs.length (ys.map (Value.int .i64)) ∧ ¬ S g ∧ Below w.heap.size w w' := by
  have ka := alloc1 w (.cells (xs.map (Value.int .i64)).toArray 3)
  have := copy_any f rf hrf _ _ _ _ _ _ _ _ _ _ (HF.later ka) (reads_lit w .i64 3 xs h0 h1) (by omega)
  rw [ht, hy] at this
  refine this.mono ?_
  rintro e w' ⟨q, S, v, rfl, h2, h3, h4, h5⟩
  obtain ⟨g, cap, rfl, _, _, _, _⟩ := own_some h3 h0
  exact ⟨q, S, g, cap, rfl, h2.lower ka.size, own_low h3 ka.size, h4 g rfl, ka.trans (h5.mono ka.size)⟩
theorem live_lit (f : Nat → Nat → Bool) (rf : Value) (hrf : Rf rf f) (Bf : Nat) (w : World) (Sf : Nat → Prop) (p n : Nat) (os : List Ob) (xs : List Int) (t : Nat) (HF : Hp Bf w Sf p n os) (h0 : 0 < xs.length) (h1 : xs.length ≤ 1000) (ht : total os (live f os xs) = t) :
    Calls Try.prog 23 #[.pointer (some ⟨p, 0, none⟩), rf, .slice (some ⟨w.heap.size, 0, none⟩) xs.length xs.length] (w.alloc (.cells (xs.map (Value.int .i64)).toArray 3)) fun e w' => e = .returned (.int .i64 (t : Int)) ∧ Below w.heap.size w w' := by
  have ka := alloc1 w (.cells (xs.map (Value.int .i64)).toArray 3)
  have := live_any f rf hrf _ _ _ _ _ _ _ _ _ _ (HF.later ka) (reads_lit w .i64 3 xs h0 h1) (by omega)
  rw [ht] at this
  refine this.mono ?_
  rintro e w' ⟨rfl, h5⟩
  exact ⟨rfl, ka.trans (h5.mono ka.size)⟩
theorem below_begun (w : World) : Calls Try.prog 28 #[] w fun e w' => e = .returned (.bool true) ∧ Below w.heap.size w w' := by
  go_enter Try.func28, Try.ntmps28
  go_wp2_with fail
  refine (Heap.begun_any w).mono ?_
  rintro e w1 ⟨rfl, b1⟩
  go_wp2_with fail
  go_ret
  exact ⟨rfl, b1⟩
def co1 : List Ob := [⟨2, [0]⟩]
def co2 : List Ob := [⟨2, [0]⟩, ⟨2, [0]⟩]
def co3 : List Ob := [⟨2, [0]⟩, ⟨2, [0]⟩, ⟨4, []⟩]
def co4 : List Ob := [⟨2, [0]⟩, ⟨2, [7]⟩, ⟨4, []⟩]
def co5 : List Ob := [⟨4, []⟩, ⟨2, [1]⟩]
set_option maxHeartbeats 2000000 in
theorem begun_any (w : World) : Calls Try.prog 9 #[] w fun e w' => e = .returned (.bool true) ∧ Below w.heap.size w w' := by
  have c30 : clampN 30 = 30 := by decide
  have L1 : live refsB co4 [6, -1, 3] = [6, 3] := by kernel_rfl
  have L2 : live refsB co4 [3] = [3, 6] := by kernel_rfl
  have L3 : (live refsB co4 [6, -1, 3]).map (turnO refsB co4 (live refsB co4 [6, -1, 3])) = co5 := by kernel_rfl
  have L4 : [6, -1, 3].map (placeR co4 (live refsB co4 [6, -1, 3])) = [0, -1, 2] := by kernel_rfl
  have L5 : total co4 (live refsB co4 [3]) = 5 := by kernel_rfl
  have L6 : (wordsO co4).length = 8 := by decide
  have L7 : (wordsO co5).length = 5 := by decide
  have q1 : kindO co5 0 = 4 := by decide
  have q2 : kindO co5 2 = 2 := by decide
  have q3 : getO co5 2 0 = 1 := by decide
  go_enter Try.func9, Try.ntmps9
  go_wp2_with fail
  refine (new_any 30 w (by omega)).mono ?_
  rintro e w1 ⟨rfl, H1, b1⟩
  rw [c30] at H1
  go_wp2_with fail
  refine (make_ok _ _ _ _ _ _ co1 2 1 0 H1 (by decide) (by decide) (by kernel_rfl)).mono ?_
  rintro e w2 ⟨rfl, S2, H2, k2⟩
  have b2 := b1.trans (k2.mono (Nat.le_refl _))
  go_wp2_with fail
  refine (make_ok _ _ _ _ _ _ co2 2 1 3 H2 (by decide) (by decide) (by kernel_rfl)).mono ?_
  rintro e w3 ⟨rfl, S3, H3, k3⟩
  have b3 := b2.trans (k3.mono (Nat.le_refl _))
  go_wp2_with fail
  refine (make_ok _ _ _ _ _ _ co3 4 0 6 H3 (by decide) (by decide) (by kernel_rfl)).mono ?_
  rintro e w4 ⟨rfl, S4, H4, k4⟩
  have b4 := b3.trans (k4.mono (Nat.le_refl _))
  go_wp2_with fail
  refine (put_ok _ _ _ _ _ _ co4 3 0 7 H4 ⟨by omega, by omega⟩ (by decide) (by kernel_rfl)).mono ?_
  rintro e w5 ⟨rfl, H5, k5⟩
  have b5 := b4.trans (k5.mono (Nat.le_refl _))
  clear k2 k3 k4 k5 b1 b2 b3 b4 H1 H2 H3 H4
  go_wp2_with fail
  refine (copy_lit refsB _ rf_refs _ _ _ _ _ _ co5 [6, -1, 3] [0, -1, 2] H5 (by decide) (by decide) L3 L4).mono ?_
  rintro e w6 ⟨q, S, g, cap, rfl, H6, own6, _, b6⟩
  have H56 := H5.later b6
  have z0 := own_cell own6 0 (.int .i64 0) (by rfl)
  have z1 := own_cell own6 1 (.int .i64 (-1)) (by rfl)
  have z2 := own_cell own6 2 (.int .i64 2) (by rfl)
  have b56 := b5.trans (b6.mono b5.size)
  clear own6
  clear L1 L2 L3 L4 H5 b5
  go_wp2_with fail
  refine (below_begun _).mono ?_
  rintro e w7 ⟨rfl, b7⟩
  have H7 := H6.later b7
  have H57 := H56.later b7
  have y0 := cellOn z0 b7
  have y1 := cellOn z1 b7
  have y2 := cellOn z2 b7
  have b57 := b56.trans (b7.mono b56.size)
  clear z0 z1 z2 H6 H56 b7
  have HU := used_any _ _ _ _ _ _ _ H7.raw
  rw [L7] at HU
  have HS := size_any _ _ _ _ _ _ _ H7.raw
  have HK0 := kind_any _ _ _ _ _ _ 0 H7
  rw [q1] at HK0
  have HK2 := kind_any _ _ _ _ _ _ 2 H7
  rw [q2] at HK2
  have HG := get_any _ _ _ _ _ _ 2 0 H7
  rw [q3] at HG
  go_wp2_with fail
  refine HU.mono ?_
  rintro e w' ⟨rfl, rfl⟩
  go_wp2_with fail
  refine HS.mono ?_
  rintro e w' ⟨rfl, rfl⟩
  go_wp2_with fail
  refine HK0.mono ?_
  rintro e w' ⟨rfl, rfl⟩
  go_wp2_with fail
  refine HK2.mono ?_
  rintro e w' ⟨rfl, rfl⟩
  go_wp2_with fail
  refine HG.mono ?_
  rintro e w' ⟨rfl, rfl⟩
  go_wp2_with fail
  refine (live_lit refsB _ rf_refs _ _ _ _ _ _ [3] 5 H57 (by decide) (by decide) L5).mono ?_
  rintro e w8 ⟨rfl, b8⟩
  have HU8 := used_any _ _ _ _ _ _ _ (H57.later b8).raw
  rw [L6] at HU8
  go_wp2_with fail
  refine HU8.mono ?_
  rintro e w' ⟨rfl, rfl⟩
  go_wp2_with fail
  go_ret
  exact ⟨rfl, b57.trans (b8.mono b57.size)⟩
end Coll
end Go.Proofs.Ytogohjnpgdiddaa
