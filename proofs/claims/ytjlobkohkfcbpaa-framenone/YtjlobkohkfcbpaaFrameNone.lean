/- No frame answers nothing, and takes nothing; begun answers true. -/
import Derived.Test.YtjlobkohkfcbpaaRows
import Derived.Test.YtjlobkohkfcbpaaFrBegun
import Derived.WalkKit
import Derived.ProofKit
import Derived.OpenShut
import Derived.ShutString
import Derived.ChangeOld
import Derived.Below
namespace Go.Proofs.Ytjlobkohkfcbpaa
namespace FrameNone
open Mem Fr
open Go.ChangeShapes Go.WideShapes Go.ChangeAt Go.RowKit
open Go.ChangeMaps (open_string shut_string)
set_option linter.unusedVariables false
set_option linter.unusedSimpArgs false
set_option maxRecDepth 100000

set_option maxHeartbeats 4000000 in
theorem walk (w : World) : Calls Try.prog 5 #[] w fun e w' => e = .returned (.bool true) ∧ Below w.heap.size w w' := by
  have kA := alloc1 w (.cells #[.int .i64 1] 3)
  have I1 : Is (w.alloc (.cells #[.int .i64 1] 3)) (.slice (some ⟨w.heap.size, 0, none⟩) 1 1) [1] := is_new w [1] (by simp) (by decide)
  have C1 := setrefs_nil _ _ _ I1
  clear I1
  go_enter Try.func5, Try.ntmps5
  go_wp2_with fail
  refine (goto_nil 3 w).mono ?_
  rintro e w' ⟨rfl, rfl⟩
  go_wp2_with fail
  refine (clear_nil w).mono ?_
  rintro e w' ⟨rfl, rfl⟩
  go_wp2_with fail
  refine C1.mono ?_
  rintro e w1 ⟨rfl, rfl⟩
  clear C1
  generalize w.alloc (.cells #[.int .i64 1] 3) = w1 at *
  go_wp2_with fail
  refine (load_nil 0 w1).mono ?_
  rintro e w2 ⟨rfl, k2⟩
  have K2 := kA.trans (k2.mono kA.size)
  go_upto_region 6 with fail
  have K3 := K2.trans ((alloc1 w2 (.cells #[.bool false, .int .i32 0] 31)).mono K2.size)
  clear K2 k2 kA
  generalize w2.alloc (.cells #[.bool false, .int .i32 0] 31) = w3 at *
  go_wp2_with fail
  refine (pop_nil 0 w3).mono ?_
  rintro e w' ⟨rfl, rfl⟩
  go_wp2_with fail
  refine (begun_any w3).mono ?_
  rintro e w4 ⟨rfl, k4⟩
  have K4 := K3.trans (k4.mono K3.size)
  clear K3 k4
  go_wp2_with fail
  refine (store_nil 0 _ _ false 0 w4 rfl rfl).mono ?_
  rintro e w5 ⟨rfl, k5⟩
  have K5 := K4.trans (k5.mono K4.size)
  clear K4 k5
  go_wp2_with fail
  refine (push_nil _ w5).mono ?_
  rintro e w6 ⟨rfl, nq, rfl⟩
  have K6 := K5.trans ((below_draws w5.heap.size w5 nq).mono K5.size)
  clear K5
  generalize w5.drewN nq = w6 at *
  go_wp2_with fail
  refine (method_nil w6).mono ?_
  rintro e w' ⟨rfl, rfl⟩
  go_wp2_with fail
  refine (pc_nil w6).mono ?_
  rintro e w' ⟨rfl, rfl⟩
  go_wp2_with fail
  refine (depth_nil w6).mono ?_
  rintro e w' ⟨rfl, rfl⟩
  go_wp2_with fail
  refine (refs_nil_any w6).mono ?_
  rintro e w' ⟨rfl, rfl⟩
  go_wp2_with fail
  go_ret
  exact ⟨rfl, K6⟩

/-! ### The row -/
theorem own : ownKnob Try.prog.godebug = none := by kernel_rfl
theorem laidOut : laidOutB Try.prog = true := by kernel_rfl
set_option maxRecDepth 100000 in
theorem lifted (os : Os) (started : os.Started) (H : Type) (enc : TypeId × Value → H) :
    ReturnsInHanded {} Try.checked os 5 .any (Rows.frameNoneSpec.pre6 enc Try.prog Try.f5 Rows.frameNoneRow.domain false) (Rows.frameNoneSpec.post enc Try.prog Try.f5 false true false false) := by
  refine returnsInHanded_of_change (C := Try.checked) own started (by kernel_rfl) Try.func5
    (ChangeSpec.witness6 (enc := enc) (C := Try.checked) false ⟨#[], #[], []⟩ 8 (by kernel_rfl) (by kernel_rfl) (by kernel_rfl) (by kernel_rfl)) ?_
  intro W base args ds gs before hval0 hW hcnd _
  have hval : ∀ (j : Nat) t v, Try.f5.params[j]? = some t → args[j]? = some v → Value.okWide Try.prog W .any base t v := hval0
  have hW' := hW
  obtain ⟨p, q, hA0, hV, rfl, hfz, hnd⟩ := hW
  have hA : DataW.TrodAll enc Try.prog W 0 (fun _ => true) true Try.f5.params.toList args.toList ds p := hA0
  rw [Try.params5] at hA hval

  obtain ⟨hargs, rfl, rfl⟩ := trodAll_nil hA
  obtain rfl : args = #[] := by cases args; simp_all
  obtain ⟨rfl, rfl⟩ := trodVars_none hV

  clear hA0 hval0
  refine (walk  W ).mono fun e W' ⟨he, bel⟩ => ?_
  subst he
  exact ⟨_, rfl, _, _, _, [], _, [], hW', trodAll_mk1 (shut_bool Try.underlying4 _), trodAll_mk0, rfl, bel.frame _, fun h => by cases h⟩

theorem over : Rows.frameNoneRow.holds Try.pinned (OpenSpec.ofChange Rows.frameNoneSpec) :=
  OpenClaim.holds_of_wide 5 Try.f5 rfl rfl rfl rfl rfl rfl rfl ⟨rfl, rfl, rfl, rfl, rfl⟩ rfl rfl rfl rfl rfl (by kernel_rfl) Try.func5 (by kernel_rfl)
    (of_decide_eq_true (by kernel_rfl)) (by unfold Func.isWrapper; first | (rw [if_pos (by decide +kernel)]; kernel_rfl) | (rw [if_neg (by decide +kernel)]; exact ⟨rfl, rfl⟩))
    (fun os started H enc _ => lifted os started H enc)

end FrameNone

theorem frameNone_holds : Rows.FrameNoneSaid := FrameNone.over
#print axioms frameNone_holds
end Go.Proofs.Ytjlobkohkfcbpaa
