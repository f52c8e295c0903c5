/- For all numbers the law IntsOrder answers true: of each pair of tests just one goes, they are an order; no condition on the input. -/
import Derived.Test.YtgajddfpkchdgaaRows
import Derived.Test.YtgajddfpkchdgaaIntsBegun
import Derived.WalkKit
import Derived.ProofKit
import Derived.OpenShut
import Derived.ShutString
import Derived.ChangeOld
import Derived.Below
namespace Go.Proofs.Ytgajddfpkchdgaa
namespace IntsOrder
open Ints
open Go.ChangeShapes Go.WideShapes Go.ChangeAt Go.RowKit
open Go.ChangeMaps (open_string shut_string)
set_option linter.unusedVariables false
set_option maxRecDepth 100000

theorem p1 (a b : Int) : (goes 21 a b == goes 22 a b) = false := by
  show (decide (a = 0) == decide (a ≠ 0)) = false
  by_cases h : a = 0 <;> simp [h]
theorem p2 (a b : Int) : (goes 23 a b == goes 24 a b) = false := by
  show (decide (a < 0) == decide (0 ≤ a)) = false
  by_cases h : a < 0 <;> simp [h] <;> omega
theorem p3 (a b : Int) : (goes 27 a b == goes 28 a b) = false := by
  show (decide (a = b) == decide (a ≠ b)) = false
  by_cases h : a = b <;> simp [h]
theorem p4 (a b : Int) : (goes 29 a b == goes 30 a b) = false := by
  show (decide (a < b) == decide (b ≤ a)) = false
  by_cases h : a < b <;> simp [h] <;> omega
theorem q2 (a b : Int) : goes 32 a b = (goes 29 a b || goes 27 a b) := by
  show decide (a ≤ b) = (decide (a < b) || decide (a = b))
  rw [Bool.eq_iff_iff]; simp; omega
theorem q4 (a b : Int) : goes 26 a b = !goes 25 a b := by
  show decide (a ≤ 0) = !decide (0 < a)
  rw [Bool.eq_iff_iff]; simp
theorem last (a b : Int) : ((goes 29 a b == goes 31 b a) && ((goes 32 a b == (goes 29 a b || goes 27 a b)) && ((goes 25 a b == goes 31 a 0) && (goes 26 a b == !goes 25 a b)))) = true := by
  rw [show goes 31 b a = goes 29 a b from rfl, q2, show goes 31 a 0 = goes 25 a b from rfl, q4]
  simp

set_option maxHeartbeats 1000000 in
theorem walk (a b : Int) (w : World) (h1 : (Lit.int .i32 a).wf = true) (h2 : (Lit.int .i32 b).wf = true) :
    Calls Try.prog 7 #[.int .i32 a, .int .i32 b] w fun e w' => e = .returned (.bool true) ∧ Below w.heap.size w w' := by
  have ha : Is32 a := bounds_i32 h1
  have hB : Is32 b := bounds_i32 h2
  clear h1 h2
  have P1 := p1 a b
  have P2 := p2 a b
  have P3 := p3 a b
  have P4 := p4 a b
  go_enter Try.func7, Try.ntmps7
  go_wp2_with fail
  refine (begun_any _).mono ?_
  rintro e w' ⟨rfl, rfl⟩
  go_wp2_with fail
  go_loopw [6] (fun i wr => ∃ k : Nat, k ≤ 6 ∧ i = .int .i64 (21 + 2 * k) ∧ wr = w) (fun i _ => 34 - (intOf i).toNat)
  case atStart => exact ⟨0, by omega, rfl, rfl⟩
  case round =>
    obtain ⟨k, hk, rfl, rfl⟩ := hrel
    have hcs : k = 0 ∨ k = 1 ∨ k = 2 ∨ k = 3 ∨ k = 4 ∨ k = 5 ∨ k = 6 := by omega
    clear hk
    rcases hcs with rfl | rfl | rfl | rfl | rfl | rfl | rfl
    · go_wp2_with (go_at_call 13; refine (igo_any _ _ _ _ (by first | exact ha | exact hB | exact is32_lit _ rfl) (by first | exact ha | exact hB | exact is32_lit _ rfl)).mono ?_; rintro e w' ⟨rfl, rfl⟩)
      go_roundw
      case rel => exact ⟨1, by omega, by go_num, by first | rfl | trivial⟩
      case measure => simp [intOf]
    · go_wp2_with (go_at_call 13; refine (igo_any _ _ _ _ (by first | exact ha | exact hB | exact is32_lit _ rfl) (by first | exact ha | exact hB | exact is32_lit _ rfl)).mono ?_; rintro e w' ⟨rfl, rfl⟩)
      go_roundw
      case rel => exact ⟨2, by omega, by go_num, by first | rfl | trivial⟩
      case measure => simp [intOf]
    · go_wp2_with (go_at_call 13; refine (igo_any _ _ _ _ (by first | exact ha | exact hB | exact is32_lit _ rfl) (by first | exact ha | exact hB | exact is32_lit _ rfl)).mono ?_; rintro e w' ⟨rfl, rfl⟩)
      go_roundw
      case rel => exact ⟨3, by omega, by go_num, by first | rfl | trivial⟩
      case measure => simp [intOf]
    · go_wp2_with (go_at_call 13; refine (igo_any _ _ _ _ (by first | exact ha | exact hB | exact is32_lit _ rfl) (by first | exact ha | exact hB | exact is32_lit _ rfl)).mono ?_; rintro e w' ⟨rfl, rfl⟩)
      go_roundw
      case rel => exact ⟨4, by omega, by go_num, by first | rfl | trivial⟩
      case measure => simp [intOf]
    · go_wp2_with (go_at_call 13; refine (igo_any _ _ _ _ (by first | exact ha | exact hB | exact is32_lit _ rfl) (by first | exact ha | exact hB | exact is32_lit _ rfl)).mono ?_; rintro e w' ⟨rfl, rfl⟩)
      go_roundw
      case rel => exact ⟨5, by omega, by go_num, by first | rfl | trivial⟩
      case measure => simp [intOf]
    · go_wp2_with (go_at_call 13; refine (igo_any _ _ _ _ (by first | exact ha | exact hB | exact is32_lit _ rfl) (by first | exact ha | exact hB | exact is32_lit _ rfl)).mono ?_; rintro e w' ⟨rfl, rfl⟩)
      go_roundw
      case rel => exact ⟨6, by omega, by go_num, by first | rfl | trivial⟩
      case measure => simp [intOf]
    · have q1 : goes 31 b a = goes 29 a b := rfl
      have Q2 := q2 a b
      have q3 : goes 31 a 0 = goes 25 a b := rfl
      have Q4 := q4 a b
      go_wp2_with (go_at_call 13; refine (igo_any _ _ _ _ (by first | exact ha | exact hB | exact is32_lit _ rfl) (by first | exact ha | exact hB | exact is32_lit _ rfl)).mono ?_; rintro e w' ⟨rfl, rfl⟩)
      trace_state
      all_goals
        go_ret
        exact ⟨by simp_all, Below.refl _ _⟩

/-! ### The row -/
theorem own : ownKnob Try.prog.godebug = none := by kernel_rfl
theorem laidOut : laidOutB Try.prog = true := by kernel_rfl
set_option maxRecDepth 100000 in
theorem lifted (os : Os) (started : os.Started) (H : Type) (enc : TypeId × Value → H) :
    ReturnsInHanded {} Try.checked os 7 .any (Rows.intsOrderSpec.pre6 enc Try.prog Try.f7 Rows.intsOrderRow.domain false) (Rows.intsOrderSpec.post enc Try.prog Try.f7 false true false false) := by
  refine returnsInHanded_of_change (C := Try.checked) own started (by kernel_rfl) Try.func7
    (ChangeSpec.witness6 (enc := enc) (C := Try.checked) false ⟨#[], #[.int .i32 0, .int .i32 0], []⟩ 8 (by kernel_rfl) (by kernel_rfl) (by kernel_rfl) (by kernel_rfl)) ?_
  intro W base args ds gs before hval0 hW hcnd _
  have hval : ∀ (j : Nat) t v, Try.f7.params[j]? = some t → args[j]? = some v → Value.okWide Try.prog W .any base t v := hval0
  have hW' := hW
  obtain ⟨p, q, hA0, hV, rfl, hfz, hnd⟩ := hW
  have hA : DataW.TrodAll enc Try.prog W 0 (fun _ => true) true Try.f7.params.toList args.toList ds p := hA0
  rw [Try.params7] at hA hval
  obtain ⟨v0, vs0, d0, ds0, p0, q0, hargs, rfl, rfl, h0, r0⟩ := trodAll_cons hA
  obtain ⟨v1, vs1, d1, ds1, p1, q1, rfl, rfl, rfl, h1, r1⟩ := trodAll_cons r0
  obtain ⟨rfl, rfl, rfl⟩ := trodAll_nil r1
  obtain rfl : args = #[v0, v1] := by cases args; simp_all
  obtain ⟨rfl, rfl⟩ := trodVars_none hV
  obtain ⟨a0, rfl, rfl, rfl, w0⟩ := open_int Try.underlying21 (hval 0 21 v0 rfl rfl) h0
  obtain ⟨a1, rfl, rfl, rfl, w1⟩ := open_int Try.underlying21 (hval 1 21 v1 rfl rfl) h1
  clear hA0 hval0
  refine (walk a0 a1 W w0 w1).mono fun e W' ⟨he, bel⟩ => ?_
  subst he
  exact ⟨_, rfl, _, _, _, [], _, [], hW', trodAll_mk1 (shut_bool Try.underlying4 _), (trodAll_cons_mk (shut_int Try.underlying21 w0) (trodAll_cons_mk (shut_int Try.underlying21 w1) trodAll_mk0)), rfl, bel.frame _, fun h => by cases h⟩

theorem over : Rows.intsOrderRow.holds Try.pinned (OpenSpec.ofChange Rows.intsOrderSpec) :=
  OpenClaim.holds_of_wide 7 Try.f7 rfl rfl rfl rfl rfl rfl rfl ⟨rfl, rfl, rfl, rfl, rfl⟩ rfl rfl rfl rfl rfl (by kernel_rfl) Try.func7 (by kernel_rfl)
    (of_decide_eq_true (by kernel_rfl)) (by unfold Func.isWrapper; first | (rw [if_pos (by decide +kernel)]; kernel_rfl) | (rw [if_neg (by decide +kernel)]; exact ⟨rfl, rfl⟩))
    (fun os started H enc _ => lifted os started H enc)

end IntsOrder

theorem intsOrder_holds : Rows.IntsOrderSaid := IntsOrder.over
#print axioms intsOrder_holds
end Go.Proofs.Ytgajddfpkchdgaa
