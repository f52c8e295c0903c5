/- For all numbers the law IntsLaws answers true: sums and products in any order, what is divided is the product and the rest; no condition on the input. -/
import Derived.Test.YtgajddfpkchdgaaRows
import Derived.Test.YtgajddfpkchdgaaIntsBegun
import Derived.WalkKit
import Derived.ProofKit
import Derived.OpenShut
import Derived.ShutString
import Derived.ChangeOld
import Derived.Below
namespace Go.Proofs.Ytgajddfpkchdgaa
namespace IntsLaws
open Ints
open Go.ChangeShapes Go.WideShapes Go.ChangeAt Go.RowKit
open Go.ChangeMaps (open_string shut_string)
set_option linter.unusedVariables false
set_option maxRecDepth 100000

set_option maxHeartbeats 1000000 in
theorem walk (a b : Int) (w : World) (h1 : (Lit.int .i32 a).wf = true) (h2 : (Lit.int .i32 b).wf = true) :
    Calls Try.prog 5 #[.int .i32 a, .int .i32 b] w fun e w' => e = .returned (.bool true) ∧ Below w.heap.size w w' := by
  have ha : Is32 a := bounds_i32 h1
  have hB : Is32 b := bounds_i32 h2
  clear h1 h2
  have o1 : Is32 (one 13 a) := w32_is _
  have t1 : ∀ o, Is32 (two o a b).1 := fun o => two_is ha
  have t2 : ∀ o, Is32 (two o b a).1 := fun o => two_is hB
  go_enter Try.func5, Try.ntmps5
  go_wp2_with fail
  refine (begun_any _).mono ?_
  rintro e w' ⟨rfl, rfl⟩
  go_wp2_with fail
  (go_at_call 9; refine (itwo_any _ _ _ _ (by first | exact ha | exact hB | exact o1 | exact t1 _ | exact t2 _ | exact two_is (t1 _) | exact two_is (w32_is _) | exact w32_is _ | exact tmod_is ha | exact is32_lit _ rfl) (by first | exact ha | exact hB | exact o1 | exact t1 _ | exact t2 _ | exact two_is (w32_is _) | exact w32_is _ | exact tmod_is ha | exact is32_lit _ rfl)).mono ?_; rintro e w' ⟨rfl, rfl⟩; simp only [resT])
  go_wp2_with fail
  (go_at_call 9; refine (itwo_any _ _ _ _ (by first | exact ha | exact hB | exact o1 | exact t1 _ | exact t2 _ | exact two_is (t1 _) | exact two_is (w32_is _) | exact w32_is _ | exact tmod_is ha | exact is32_lit _ rfl) (by first | exact ha | exact hB | exact o1 | exact t1 _ | exact t2 _ | exact two_is (w32_is _) | exact w32_is _ | exact tmod_is ha | exact is32_lit _ rfl)).mono ?_; rintro e w' ⟨rfl, rfl⟩; simp only [resT])
  try rw [add_comm32 a b]
  go_wp2_with fail
  (go_at_call 9; refine (itwo_any _ _ _ _ (by first | exact ha | exact hB | exact o1 | exact t1 _ | exact t2 _ | exact two_is (t1 _) | exact two_is (w32_is _) | exact w32_is _ | exact tmod_is ha | exact is32_lit _ rfl) (by first | exact ha | exact hB | exact o1 | exact t1 _ | exact t2 _ | exact two_is (w32_is _) | exact w32_is _ | exact tmod_is ha | exact is32_lit _ rfl)).mono ?_; rintro e w' ⟨rfl, rfl⟩; simp only [resT])
  try rw [sub_add b ha]
  go_wp2_with fail
  (go_at_call 9; refine (itwo_any _ _ _ _ (by first | exact ha | exact hB | exact o1 | exact t1 _ | exact t2 _ | exact two_is (t1 _) | exact two_is (w32_is _) | exact w32_is _ | exact tmod_is ha | exact is32_lit _ rfl) (by first | exact ha | exact hB | exact o1 | exact t1 _ | exact t2 _ | exact two_is (w32_is _) | exact w32_is _ | exact tmod_is ha | exact is32_lit _ rfl)).mono ?_; rintro e w' ⟨rfl, rfl⟩; simp only [resT])
  go_wp2_with fail
  (go_at_call 9; refine (itwo_any _ _ _ _ (by first | exact ha | exact hB | exact o1 | exact t1 _ | exact t2 _ | exact two_is (t1 _) | exact two_is (w32_is _) | exact w32_is _ | exact tmod_is ha | exact is32_lit _ rfl) (by first | exact ha | exact hB | exact o1 | exact t1 _ | exact t2 _ | exact two_is (w32_is _) | exact w32_is _ | exact tmod_is ha | exact is32_lit _ rfl)).mono ?_; rintro e w' ⟨rfl, rfl⟩; simp only [resT])
  try rw [mul_comm32 a b]
  go_wp2_with (go_at_call 12; refine (one_any _ _ _).mono ?_; rintro e w' ⟨rfl, rfl⟩)
  (go_at_call 9; refine (itwo_any _ _ _ _ (by first | exact ha | exact hB | exact o1 | exact t1 _ | exact t2 _ | exact two_is (t1 _) | exact two_is (w32_is _) | exact w32_is _ | exact tmod_is ha | exact is32_lit _ rfl) (by first | exact ha | exact hB | exact o1 | exact t1 _ | exact t2 _ | exact two_is (w32_is _) | exact w32_is _ | exact tmod_is ha | exact is32_lit _ rfl)).mono ?_; rintro e w' ⟨rfl, rfl⟩; simp only [resT])
  rw [add_neg]
  by_cases h : b = 0
  · subst h
    go_wp2_with fail
    (go_at_call 9; refine (itwo_any _ _ _ _ (by first | exact ha | exact hB | exact o1 | exact t1 _ | exact t2 _ | exact two_is (t1 _) | exact two_is (w32_is _) | exact w32_is _ | exact tmod_is ha | exact is32_lit _ rfl) (by first | exact ha | exact hB | exact o1 | exact t1 _ | exact t2 _ | exact two_is (w32_is _) | exact w32_is _ | exact tmod_is ha | exact is32_lit _ rfl)).mono ?_; rintro e w' ⟨rfl, rfl⟩; simp only [resT])
    rw [show two 11 a 0 = (0, false) from rfl]
    go_wp2_with fail
    (go_at_call 9; refine (itwo_any _ _ _ _ (by first | exact ha | exact hB | exact o1 | exact t1 _ | exact t2 _ | exact two_is (t1 _) | exact two_is (w32_is _) | exact w32_is _ | exact tmod_is ha | exact is32_lit _ rfl) (by first | exact ha | exact hB | exact o1 | exact t1 _ | exact t2 _ | exact two_is (w32_is _) | exact w32_is _ | exact tmod_is ha | exact is32_lit _ rfl)).mono ?_; rintro e w' ⟨rfl, rfl⟩; simp only [resT])
    rw [show two 12 a 0 = (0, false) from rfl]
    go_wp2_with fail
    (go_at_call 9; refine (itwo_any _ _ _ _ (by first | exact ha | exact hB | exact o1 | exact t1 _ | exact t2 _ | exact two_is (t1 _) | exact two_is (w32_is _) | exact w32_is _ | exact tmod_is ha | exact is32_lit _ rfl) (by first | exact ha | exact hB | exact o1 | exact t1 _ | exact t2 _ | exact two_is (w32_is _) | exact w32_is _ | exact tmod_is ha | exact is32_lit _ rfl)).mono ?_; rintro e w' ⟨rfl, rfl⟩; simp only [resT])
    go_wp2_with fail
    (go_at_call 9; refine (itwo_any _ _ _ _ (by first | exact ha | exact hB | exact o1 | exact t1 _ | exact t2 _ | exact two_is (t1 _) | exact two_is (w32_is _) | exact w32_is _ | exact tmod_is ha | exact is32_lit _ rfl) (by first | exact ha | exact hB | exact o1 | exact t1 _ | exact t2 _ | exact two_is (w32_is _) | exact w32_is _ | exact tmod_is ha | exact is32_lit _ rfl)).mono ?_; rintro e w' ⟨rfl, rfl⟩; simp only [resT])
    go_wp2_with fail
    go_ret
    exact ⟨rfl, Below.refl _ _⟩
  · have d1 := two_div (a := a) h
    have d2 := two_rem (a := a) h
    go_wp2_with fail
    (go_at_call 9; refine (itwo_any _ _ _ _ (by first | exact ha | exact hB | exact o1 | exact t1 _ | exact t2 _ | exact two_is (t1 _) | exact two_is (w32_is _) | exact w32_is _ | exact tmod_is ha | exact is32_lit _ rfl) (by first | exact ha | exact hB | exact o1 | exact t1 _ | exact t2 _ | exact two_is (w32_is _) | exact w32_is _ | exact tmod_is ha | exact is32_lit _ rfl)).mono ?_; rintro e w' ⟨rfl, rfl⟩; simp only [resT])
    rw [d1]
    go_wp2_with fail
    (go_at_call 9; refine (itwo_any _ _ _ _ (by first | exact ha | exact hB | exact o1 | exact t1 _ | exact t2 _ | exact two_is (t1 _) | exact two_is (w32_is _) | exact w32_is _ | exact tmod_is ha | exact is32_lit _ rfl) (by first | exact ha | exact hB | exact o1 | exact t1 _ | exact t2 _ | exact two_is (w32_is _) | exact w32_is _ | exact tmod_is ha | exact is32_lit _ rfl)).mono ?_; rintro e w' ⟨rfl, rfl⟩; simp only [resT])
    rw [d2]
    go_wp2_with fail
    (go_at_call 9; refine (itwo_any _ _ _ _ (by first | exact ha | exact hB | exact o1 | exact t1 _ | exact t2 _ | exact two_is (t1 _) | exact two_is (w32_is _) | exact w32_is _ | exact tmod_is ha | exact is32_lit _ rfl) (by first | exact ha | exact hB | exact o1 | exact t1 _ | exact t2 _ | exact two_is (w32_is _) | exact w32_is _ | exact tmod_is ha | exact is32_lit _ rfl)).mono ?_; rintro e w' ⟨rfl, rfl⟩; simp only [resT])
    go_wp2_with fail
    (go_at_call 9; refine (itwo_any _ _ _ _ (by first | exact ha | exact hB | exact o1 | exact t1 _ | exact t2 _ | exact two_is (t1 _) | exact two_is (w32_is _) | exact w32_is _ | exact tmod_is ha | exact is32_lit _ rfl) (by first | exact ha | exact hB | exact o1 | exact t1 _ | exact t2 _ | exact two_is (w32_is _) | exact w32_is _ | exact tmod_is ha | exact is32_lit _ rfl)).mono ?_; rintro e w' ⟨rfl, rfl⟩; simp only [resT])
    rw [back ha]
    go_wp2_with fail
    go_ret
    exact ⟨ret_b (by simp [h]), Below.refl _ _⟩

/-! ### The row -/
theorem own : ownKnob Try.prog.godebug = none := by kernel_rfl
theorem laidOut : laidOutB Try.prog = true := by kernel_rfl
set_option maxRecDepth 100000 in
theorem lifted (os : Os) (started : os.Started) (H : Type) (enc : TypeId × Value → H) :
    ReturnsInHanded {} Try.checked os 5 .any (Rows.intsLawsSpec.pre6 enc Try.prog Try.f5 Rows.intsLawsRow.domain false) (Rows.intsLawsSpec.post enc Try.prog Try.f5 false true false false) := by
  refine returnsInHanded_of_change (C := Try.checked) own started (by kernel_rfl) Try.func5
    (ChangeSpec.witness6 (enc := enc) (C := Try.checked) false ⟨#[], #[.int .i32 0, .int .i32 0], []⟩ 8 (by kernel_rfl) (by kernel_rfl) (by kernel_rfl) (by kernel_rfl)) ?_
  intro W base args ds gs before hval0 hW hcnd _
  have hval : ∀ (j : Nat) t v, Try.f5.params[j]? = some t → args[j]? = some v → Value.okWide Try.prog W .any base t v := hval0
  have hW' := hW
  obtain ⟨p, q, hA0, hV, rfl, hfz, hnd⟩ := hW
  have hA : DataW.TrodAll enc Try.prog W 0 (fun _ => true) true Try.f5.params.toList args.toList ds p := hA0
  rw [Try.params5] at hA hval
  obtain ⟨v0, vs0, d0, ds0, p0, q0, hargs, rfl, rfl, h0, r0⟩ := trodAll_cons hA
  obtain ⟨v1, vs1, d1, ds1, p1, q1, rfl, rfl, rfl, h1, r1⟩ := trodAll_cons r0
  obtain ⟨rfl, rfl, rfl⟩ := trodAll_nil r1
  obtain rfl : args = #[v0, v1] := by cases args; simp_all
  obtain ⟨rfl, rfl⟩ := trodVars_none hV
  obtain ⟨a0, rfl, rfl, rfl, w0⟩ := open_int Try.underlying21 (hval 0 21 v0 rfl rfl) h0
  obtain ⟨a1, rfl, rfl, rfl, w1⟩ := open_int Try.underlying21 (hval 1 21 v1 rfl rfl) h1
  clear hA0 hval0
  refine (walk a0 a1 W w0 w1).mono fun e W' ⟨he, bel⟩ => ?_
  subst he
  exact ⟨_, rfl, _, _, _, [], _, [], hW', trodAll_mk1 (shut_bool Try.underlying4 _), (trodAll_cons_mk (shut_int Try.underlying21 w0) (trodAll_cons_mk (shut_int Try.underlying21 w1) trodAll_mk0)), rfl, bel.frame _, fun h => by cases h⟩

theorem over : Rows.intsLawsRow.holds Try.pinned (OpenSpec.ofChange Rows.intsLawsSpec) :=
  OpenClaim.holds_of_wide 5 Try.f5 rfl rfl rfl rfl rfl rfl rfl ⟨rfl, rfl, rfl, rfl, rfl⟩ rfl rfl rfl rfl rfl (by kernel_rfl) Try.func5 (by kernel_rfl)
    (of_decide_eq_true (by kernel_rfl)) (by unfold Func.isWrapper; first | (rw [if_pos (by decide +kernel)]; kernel_rfl) | (rw [if_neg (by decide +kernel)]; exact ⟨rfl, rfl⟩))
    (fun os started H enc _ => lifted os started H enc)

end IntsLaws

theorem intsLaws_holds : Rows.IntsLawsSaid := IntsLaws.over
#print axioms intsLaws_holds
end Go.Proofs.Ytgajddfpkchdgaa
