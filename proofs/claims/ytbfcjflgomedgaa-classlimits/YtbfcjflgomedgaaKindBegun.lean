/- The contract of kind's laws' own 'begun': it answers true and writes nothing. -/
import Derived.Test.YtbfcjflgomedgaaKindCode
import Derived.Test.YtbfcjflgomedgaaLibCut
namespace Go.Proofs.Ytbfcjflgomedgaa
namespace Kind
open Num
open Go.RowKit
set_option linter.unusedVariables false
set_option maxRecDepth 100000

set_option maxRecDepth 100000 in
set_option maxHeartbeats 1000000 in
theorem begun_any (w : World) : Calls Try.prog 70 #[] w fun e w' => e = .returned (.bool true) ∧ w = w' := by
  have e1 : elemF (nums ⟨#[91, 91, 65, 98]⟩) = ([91, 65, 98], true) := by decide +kernel
  have e2 : elemF (nums ⟨#[65, 98]⟩) = ([], false) := by decide +kernel
  have c1 : classB (nums ⟨#[65, 98]⟩) = true := by decide +kernel
  have c2 : classB (nums ⟨#[65]⟩) = false := by decide +kernel
  have n1 : nameB (nums ⟨#[97, 98]⟩) = true := by decide +kernel
  have n2 : nameB (nums ⟨#[36, 105, 110, 105, 116]⟩) = true := by decide +kernel
  have n3 : nameB (nums ⟨#[65, 98]⟩) = false := by decide +kernel
  have m1 : mayB (nums ⟨#[91, 91, 73]⟩) = true := by decide +kernel
  have m2 : mayB (nums ⟨#[91, 91, 91, 73]⟩) = false := by decide +kernel
  have m3 : mayB (nums ⟨#[86]⟩) = false := by decide +kernel
  have r1 : retB (nums ⟨#[86]⟩) = true := by decide +kernel
  have f1 : refB (nums ⟨#[91, 73]⟩) = true := by decide +kernel
  have f2 : refB (nums ⟨#[73]⟩) = false := by decide +kernel
  have a1 : arrayF (nums ⟨#[73]⟩) = [91, 73] := by decide +kernel
  have a2 : arrayF (nums ⟨#[91, 91, 73]⟩) = [] := by decide +kernel
  have s1 : ((strOfNums [91, 65, 98]).toList == [91, 65, 98]) = true := by decide +kernel
  have s2 : ((strOfNums [91, 73]).toList == [91, 73]) = true := by decide +kernel
  have s3 : ((strOfNums []).toList == []) = true := by decide +kernel
  have s4 : (strOfNums []).toList.isEmpty = true := by decide +kernel
  go_enter Try.func70, Try.ntmps70
  go_wp2_with fail
  refine (kelem_any _ _ (by decide)).mono ?_
  rintro e w' ⟨rfl, rfl⟩
  rw [e1]
  simp only [resE]
  go_wp2_with fail
  refine (kelem_any _ _ (by decide)).mono ?_
  rintro e w' ⟨rfl, rfl⟩
  rw [e2]
  simp only [resE]
  go_wp2_with (first | (go_at_call 13; refine (kclass_any _ _ (by decide)).mono ?_; rintro e w' ⟨rfl, rfl⟩) | (go_at_call 48; refine (kname_any _ _ (by decide)).mono ?_; rintro e w' ⟨rfl, rfl⟩) | (go_at_call 49; refine (kmay_any _ _ (by decide)).mono ?_; rintro e w' ⟨rfl, rfl⟩) | (go_at_call 51; refine (kret_any _ _ (by decide)).mono ?_; rintro e w' ⟨rfl, rfl⟩) | (go_at_call 87; refine (kref_any _ _ (by decide)).mono ?_; rintro e w' ⟨rfl, rfl⟩) | (go_at_call 89; refine (karray_any _ _ (by decide)).mono ?_; rintro e w' ⟨rfl, rfl⟩))
  go_ret
  exact ⟨rfl, rfl⟩
end Kind
end Go.Proofs.Ytbfcjflgomedgaa
