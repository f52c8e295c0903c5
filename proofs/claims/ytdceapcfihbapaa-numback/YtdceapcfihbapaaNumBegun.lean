/- The contract of the laws' own 'begun': it answers true and writes nothing that was there. -/
import Derived.Test.YtdceapcfihbapaaNumText
namespace Go.Proofs.Ytdceapcfihbapaa
namespace Num
open Go.RowKit
set_option linter.unusedVariables false

theorem get1 : get [128, 1] = (64, 2, 0) := by decide +kernel
theorem getT1 : getText [4, 97, 98, 9] = ([97, 98], 3, 0) := by decide +kernel
theorem ab_eq : encT ⟨#[97, 98]⟩ = [4, 97, 98] := by decide +kernel
theorem enc_m1 : enc (-1) = [1] := by decide +kernel
theorem four1 : four 258 = [0, 0, 1, 2] := by decide +kernel

set_option maxHeartbeats 1000000 in
theorem begun_any (w : World) : Calls Try.prog 7 #[] w fun e w' => e = .returned (.bool true) ∧ Below w.heap.size w w' := by
  obtain ⟨i0, hi, hz0, hz1, hz2⟩ := info_parts info8
  go_enter Try.func7, Try.ntmps7
  go_wp2_with fail
  have b0 : Below w.heap.size w (w.alloc (.cells (cellsOf [128, 1]).toArray 5)) := (Below.refl _ _).alloc (Nat.le_refl _) _
  refine (get_any _ 2 2 [128, 1] _ (Has.lit w [128, 1] (by simp [maxLen])) (by intro x hx; simp at hx; omega)).mono ?_
  rintro e w1 ⟨rfl, hw1⟩
  rw [get1]
  simp only [resG]
  change w.alloc (.cells (cellsOf [128, 1]).toArray 5) = w1 at hw1
  rw [hw1] at b0
  clear hw1
  go_wp2_with fail
  refine (get_any none 0 0 [] _ (Has.none _) (by intro x hx; simp at hx)).mono ?_
  rintro e w2 ⟨rfl, rfl⟩
  rw [get_nil]
  simp only [resG]
  go_wp2_with fail
  refine (put_text none 0 0 [] _ _ (Has.none _) (by decide)).mono ?_
  rintro e w2 ⟨g, cap, rfl, hown, hb⟩
  rw [ab_eq] at hown ⊢
  simp only [List.length_cons, List.length_nil, Nat.zero_add, List.nil_append] at hown ⊢
  have b2 : Below w.heap.size w w2 := b0.trans (hb.mono b0.size)
  go_wp2_with (at_builtin; go_must (refine wpList_append_lies _ rfl _ _ 22 rfl w1.heap.size 5 i0 (.int .u8 0) 1 1 Try.underlying22 hi hz0 hz1 hz2 rfl (by decide) _ _ _ rfl (hown.alloc _) ⟨w2.heap.size, 0, none⟩ 1 1 [.int .u8 9] rfl rfl (cell_one_new _ _ _) (ints_oneCell .u8 [9]) (by decide) (by unfold maxLen; omega) (by omega) (by have := hb.size; simp; omega) _ rfl ?_; intro g' cap' w3 hown3 hgrow3 hat hlt))
  have hg1 := (hown.lt g rfl).1
  have hs0 := b0.size
  have hs2 := b2.size
  have b3 : Below w.heap.size w w3 := (b2.alloc hs2 _).grown hgrow3 (by simp; omega) (fun k e => by cases e; show w.heap.size ≤ g; omega)
  have hh : Has w3 (some ⟨g', 0, none⟩) 4 cap' [4, 97, 98, 9] := Has.own hown3
  clear hown3 hgrow3 hat hown
  refine (get_text _ 4 cap' [4, 97, 98, 9] _ hh (by intro x hx; simp at hx; omega) (by decide)).mono ?_
  rintro e w4 ⟨rfl, rfl⟩
  rw [getT1]
  simp only [resT]
  clear hh hlt hb b0 b2 hs0 hs2 hg1
  go_wp2_with fail
  refine (put_any none 0 0 [] (-1) _ (Has.none _) (by unfold Is64; omega) (by decide)).mono ?_
  rintro e w5 ⟨g5, cap5, rfl, hown5, hb5⟩
  rw [enc_m1] at hown5 ⊢
  simp only [List.length_cons, List.length_nil, Nat.zero_add, List.nil_append] at hown5 ⊢
  have b5 : Below w.heap.size w w5 := b3.trans (hb5.mono b3.size)
  have hst := (Has.own hown5).str
  have hs1 : ((strOfNums [1]).toList == [1]) = true := by decide +kernel
  have hs2 : ((strOfNums [97, 98]).toList == [97, 98]) = true := by decide +kernel
  clear hown5 hb5 b3
  go_wp2_with fail
  refine (four_any 258 _ (by decide) (by decide)).mono ?_
  rintro e w6 ⟨g6, rfl, hh6, hb6⟩
  rw [four1] at hh6
  have hst6 := hh6.str
  have hs3 : ((strOfNums [0, 0, 1, 2]).toList == [0, 0, 1, 2]) = true := by decide +kernel
  have b6 : Below w.heap.size w w6 := b5.trans (hb6.mono b5.size)
  clear hh6 hb6 hst b5 hs1 hs2
  go_wp2_with fail
  go_ret
  exact ⟨rfl, b6⟩
end Num
end Go.Proofs.Ytdceapcfihbapaa
