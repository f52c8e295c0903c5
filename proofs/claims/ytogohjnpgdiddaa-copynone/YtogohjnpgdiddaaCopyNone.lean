/- The closed law CopyNone answers true: no heap; no references; no condition. -/
import Derived.Test.YtogohjnpgdiddaaRows
import Derived.Test.YtogohjnpgdiddaaCollBegun
import Derived.WalkKit
import Derived.ProofKit
import Derived.OpenShut
import Derived.ShutString
import Derived.ChangeOld
import Derived.Below
namespace Go.Proofs.Ytogohjnpgdiddaa
namespace CopyNone
open Mem Heap Coll
open Go.ChangeShapes Go.WideShapes Go.ChangeAt Go.RowKit
open Go.ChangeMaps (open_string shut_string)
set_option linter.unusedVariables false
set_option linter.unusedSimpArgs false
set_option maxRecDepth 100000

def no1 : List Ob := [⟨2, [0]⟩]
def no2 : List Ob := [⟨2, [0]⟩, ⟨2, []⟩]
def no3 : List Ob := [⟨2, [4]⟩, ⟨2, []⟩]
def no4 : List Ob := [⟨2, [4]⟩]
set_option maxHeartbeats 1000000 in
theorem walk (w : World) : Calls Try.prog 6 #[] w fun e w' => e = .returned (.bool true) ∧ Below w.heap.size w w' := by
  have c20 : clampN 20 = 20 := by decide
  have L3 : (live (fun _ _ => false) no3 [0]).map (turnO (fun _ _ => false) no3 (live (fun _ _ => false) no3 [0])) = no4 := by kernel_rfl
  have L4 : [0].map (placeR no3 (live (fun _ _ => false) no3 [0])) = [0] := by kernel_rfl
  have L7 : (wordsO no4).length = 3 := by decide
  have q3 : getO no4 0 0 = 4 := by decide
  go_enter Try.func6, Try.ntmps6
  go_wp2_with fail
  refine (copy_nil _ _ _).mono ?_
  rintro e w1 ⟨rfl, rfl⟩
  have b0 := alloc1 w (.cells #[.int .i64 1] 3)
  generalize w.alloc _ = w1 at *
  go_wp2_with fail
  refine (new_any 20 _ (by omega)).mono ?_
  rintro e w2 ⟨rfl, H2, b2⟩
  rw [c20] at H2
  have b02 := b0.trans (b2.mono b0.size)
  go_wp2_with fail
  refine (make_ok _ _ _ _ _ _ no1 2 1 0 H2 (by decide) (by decide) (by kernel_rfl)).mono ?_
  rintro e w3 ⟨rfl, S3, H3, k3⟩
  have b03 := b02.trans (k3.mono b0.size)
  go_wp2_with fail
  refine (make_ok _ _ _ _ _ _ no2 2 0 3 H3 (by decide) (by decide) (by kernel_rfl)).mono ?_
  rintro e w4 ⟨rfl, S4, H4, k4⟩
  have b04 := b03.trans (k4.mono b0.size)
  go_wp2_with fail
  refine (put_ok _ _ _ _ _ _ no3 0 0 4 H4 ⟨by omega, by omega⟩ (by decide) (by kernel_rfl)).mono ?_
  rintro e w5 ⟨rfl, H5, k5⟩
  have b05 := b04.trans (k5.mono b0.size)
  clear k3 k4 k5 b2 b02 b03 b04 H2 H3 H4
  go_wp2_with fail
  refine (copy_lit _ _ rf_nil _ _ _ _ _ _ no4 [0] [0] H5 (by decide) (by decide) L3 L4).mono ?_
  rintro e w6 ⟨q, S, g, cap, rfl, H6, own6, _, b6⟩
  have b56 := b05.trans (b6.mono b05.size)
  clear own6 L3 L4 H5
  go_wp2_with fail
  refine (Coll.begun_any _).mono ?_
  rintro e w7 ⟨rfl, b7⟩
  have H7 := H6.later b7
  have b57 := b56.trans (b7.mono b56.size)
  have HU := used_any _ _ _ _ _ _ _ H7.raw
  rw [L7] at HU
  have HG := get_any _ _ _ _ _ _ 0 0 H7
  rw [q3] at HG
  go_wp2_with fail
  refine (live_nil _ _ _).mono ?_
  rintro e w' ⟨rfl, rfl⟩
  go_wp2_with fail
  refine HU.mono ?_
  rintro e w' ⟨rfl, rfl⟩
  go_wp2_with fail
  refine HG.mono ?_
  rintro e w' ⟨rfl, rfl⟩
  go_wp2_with fail
  go_ret
  exact ⟨rfl, b57⟩

/-! ### The row -/
theorem own : ownKnob Try.prog.godebug = none := by kernel_rfl
theorem laidOut : laidOutB Try.prog = true := by kernel_rfl
set_option maxRecDepth 100000 in
theorem lifted (os : Os) (started : os.Started) (H : Type) (enc : TypeId × Value → H) :
    ReturnsInHanded {} Try.checked os 6 .any (Rows.copyNoneSpec.pre6 enc Try.prog Try.f6 Rows.copyNoneRow.domain false) (Rows.copyNoneSpec.post enc Try.prog Try.f6 false true false false) := by
  refine returnsInHanded_of_change (C := Try.checked) own started (by kernel_rfl) Try.func6
    (ChangeSpec.witness6 (enc := enc) (C := Try.checked) false ⟨#[], #[], []⟩ 8 (by kernel_rfl) (by kernel_rfl) (by kernel_rfl) (by kernel_rfl)) ?_
  intro W base args ds gs before hval0 hW hcnd _
  have hval : ∀ (j : Nat) t v, Try.f6.params[j]? = some t → args[j]? = some v → Value.okWide Try.prog W .any base t v := hval0
  have hW' := hW
  obtain ⟨p, q, hA0, hV, rfl, hfz, hnd⟩ := hW
  have hA : DataW.TrodAll enc Try.prog W 0 (fun _ => true) true Try.f6.params.toList args.toList ds p := hA0
  rw [Try.params6] at hA hval

  obtain ⟨hargs, rfl, rfl⟩ := trodAll_nil hA
  obtain rfl : args = #[] := by cases args; simp_all
  obtain ⟨rfl, rfl⟩ := trodVars_none hV

  clear hA0 hval0
  refine (walk  W ).mono fun e W' ⟨he, bel⟩ => ?_
  subst he
  exact ⟨_, rfl, _, _, _, [], _, [], hW', trodAll_mk1 (shut_bool Try.underlying4 _), trodAll_mk0, rfl, bel.frame _, fun h => by cases h⟩

theorem over : Rows.copyNoneRow.holds Try.pinned (OpenSpec.ofChange Rows.copyNoneSpec) :=
  OpenClaim.holds_of_wide 6 Try.f6 rfl rfl rfl rfl rfl rfl rfl ⟨rfl, rfl, rfl, rfl, rfl⟩ rfl rfl rfl rfl rfl (by kernel_rfl) Try.func6 (by kernel_rfl)
    (of_decide_eq_true (by kernel_rfl)) (by unfold Func.isWrapper; first | (rw [if_pos (by decide +kernel)]; kernel_rfl) | (rw [if_neg (by decide +kernel)]; exact ⟨rfl, rfl⟩))
    (fun os started H enc _ => lifted os started H enc)

end CopyNone

theorem copyNone_holds : Rows.CopyNoneSaid := CopyNone.over
#print axioms copyNone_holds
end Go.Proofs.Ytogohjnpgdiddaa
