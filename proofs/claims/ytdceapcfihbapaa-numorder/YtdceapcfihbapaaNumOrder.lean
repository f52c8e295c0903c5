/- For every two numbers a and b the law NumOrder answers true: of two numbers that are not negative, and of their opposites, the one nearer to nought takes no more bytes; no condition on the input. -/
import Derived.Test.YtdceapcfihbapaaRows
import Derived.Test.YtdceapcfihbapaaNumBegun
import Derived.WalkKit
import Derived.ProofKit
import Derived.OpenShut
import Derived.ShutString
import Derived.ChangeOld
import Derived.Below
namespace Go.Proofs.Ytdceapcfihbapaa
namespace NumOrder
open Num
open Go.ChangeShapes Go.WideShapes Go.ChangeAt Go.RowKit
open Go.ChangeMaps (open_string shut_string)
set_option linter.unusedVariables false

theorem zig_le (a b : Int) (h0 : 0 ≤ a) (h : a ≤ b) : zig a ≤ zig b ∧ zig (-a) ≤ zig (-b) := by
  unfold zig
  constructor <;> (split <;> split <;> omega)

set_option maxHeartbeats 400000 in
theorem walk (a b : Int) (w : World) (w0 : (Lit.int .i64 a).wf = true) (w1 : (Lit.int .i64 b).wf = true) :
    Calls Try.prog 6 #[.int .i64 a, .int .i64 b] w fun e w' => e = .returned (.bool true) ∧ Below w.heap.size w w' := by
  have ha := bounds_i64 w0
  have hb := bounds_i64 w1
  clear w0 w1
  by_cases h1 : a < 0
  · go_enter Try.func6, Try.ntmps6
    go_wp2_with fail
    refine (begun_any _).mono ?_
    rintro e w1 ⟨rfl, b1⟩
    go_wp2_with fail
    go_ret
    exact ⟨rfl, b1⟩
  · by_cases h2 : b < a
    · go_enter Try.func6, Try.ntmps6
      go_wp2_with fail
      refine (begun_any _).mono ?_
      rintro e w1 ⟨rfl, b1⟩
      go_wp2_with fail
      go_ret
      exact ⟨rfl, b1⟩
    · have hz := zig_le a b (by omega) (by omega)
      have hl1 : ((((enc a).length : Nat) : Int) ≤ ((enc b).length : Nat)) := by have := enc_mono a b hz.1; omega
      have hl2 : ((((enc (-a)).length : Nat) : Int) ≤ ((enc (-b)).length : Nat)) := by have := enc_mono (-a) (-b) hz.2; omega
      clear hz
      have hn1 : Is64 a := ha
      have hn2 : Is64 b := hb
      have hn3 : Is64 (-a) := by unfold Is64; omega
      have hn4 : Is64 (-b) := by unfold Is64; omega
      go_enter Try.func6, Try.ntmps6
      go_wp2_with fail
      refine (begun_any _).mono ?_
      rintro e w1 ⟨rfl, b1⟩
      go_wp2_with fail
      refine (put_any none 0 0 [] a _ (Has.none _) hn1 (by decide)).mono ?_
      rintro e w2 ⟨g2, c2, rfl, _, b2⟩
      simp only [Nat.zero_add]
      have d2 : Below w.heap.size w w2 := b1.trans (b2.mono b1.size)
      clear b1 b2
      go_wp2_with fail
      refine (put_any none 0 0 [] b _ (Has.none _) hn2 (by decide)).mono ?_
      rintro e w3 ⟨g3, c3, rfl, _, b3⟩
      simp only [Nat.zero_add]
      have d3 : Below w.heap.size w w3 := d2.trans (b3.mono d2.size)
      clear d2 b3
      go_wp2_with fail
      refine (put_any none 0 0 [] (-a) _ (Has.none _) hn3 (by decide)).mono ?_
      rintro e w4 ⟨g4, c4, rfl, _, b4⟩
      simp only [Nat.zero_add]
      have d4 : Below w.heap.size w w4 := d3.trans (b4.mono d3.size)
      clear d3 b4
      go_wp2_with fail
      refine (put_any none 0 0 [] (-b) _ (Has.none _) hn4 (by decide)).mono ?_
      rintro e w5 ⟨g5, c5, rfl, _, b5⟩
      simp only [Nat.zero_add]
      have d5 : Below w.heap.size w w5 := d4.trans (b5.mono d4.size)
      clear d4 b5
      go_wp2_with fail
      go_ret
      exact ⟨rfl, d5⟩

/-! ### The row -/
theorem own : ownKnob Try.prog.godebug = none := by kernel_rfl
theorem laidOut : laidOutB Try.prog = true := by kernel_rfl
set_option maxRecDepth 100000 in
theorem lifted (os : Os) (started : os.Started) (H : Type) (enc : TypeId × Value → H) :
    ReturnsInHanded {} Try.checked os 6 .any (Rows.numOrderSpec.pre6 enc Try.prog Try.f6 Rows.numOrderRow.domain false) (Rows.numOrderSpec.post enc Try.prog Try.f6 false true false false) := by
  refine returnsInHanded_of_change (C := Try.checked) own started (by kernel_rfl) Try.func6
    (ChangeSpec.witness6 (enc := enc) (C := Try.checked) false ⟨#[], #[.int .i64 0, .int .i64 0], []⟩ 8 (by kernel_rfl) (by kernel_rfl) (by kernel_rfl) (by kernel_rfl)) ?_
  intro W base args ds gs before hval0 hW hcnd _
  have hval : ∀ (j : Nat) t v, Try.f6.params[j]? = some t → args[j]? = some v → Value.okWide Try.prog W .any base t v := hval0
  have hW' := hW
  obtain ⟨p, q, hA0, hV, rfl, hfz, hnd⟩ := hW
  have hA : DataW.TrodAll enc Try.prog W 0 (fun _ => true) true Try.f6.params.toList args.toList ds p := hA0
  rw [Try.params6] at hA hval
  obtain ⟨v0, vs0, d0, ds0, p0, q0, hargs, rfl, rfl, h0, r0⟩ := trodAll_cons hA
  obtain ⟨v1, vs1, d1, ds1, p1, q1, rfl, rfl, rfl, h1, r1⟩ := trodAll_cons r0
  obtain ⟨rfl, rfl, rfl⟩ := trodAll_nil r1
  obtain rfl : args = #[v0, v1] := by cases args; simp_all
  obtain ⟨rfl, rfl⟩ := trodVars_none hV
  obtain ⟨a0, rfl, rfl, rfl, w0⟩ := open_int Try.underlying2 (hval 0 2 v0 rfl rfl) h0
  obtain ⟨a1, rfl, rfl, rfl, w1⟩ := open_int Try.underlying2 (hval 1 2 v1 rfl rfl) h1
  clear hA0 hval0
  refine (walk a0 a1 W w0 w1).mono fun e W' ⟨he, bel⟩ => ?_
  subst he
  exact ⟨_, rfl, _, _, _, [], _, [], hW', trodAll_mk1 (shut_bool Try.underlying4 _), (trodAll_cons_mk (shut_int Try.underlying2 w0) (trodAll_cons_mk (shut_int Try.underlying2 w1) trodAll_mk0)), rfl, bel.frame _, fun h => by cases h⟩

theorem over : Rows.numOrderRow.holds Try.pinned (OpenSpec.ofChange Rows.numOrderSpec) :=
  OpenClaim.holds_of_wide 6 Try.f6 rfl rfl rfl rfl rfl rfl rfl ⟨rfl, rfl, rfl, rfl, rfl⟩ rfl rfl rfl rfl rfl (by kernel_rfl) Try.func6 (by kernel_rfl)
    (of_decide_eq_true (by kernel_rfl)) (by unfold Func.isWrapper; first | (rw [if_pos (by decide +kernel)]; kernel_rfl) | (rw [if_neg (by decide +kernel)]; exact ⟨rfl, rfl⟩))
    (fun os started H enc _ => lifted os started H enc)

end NumOrder

theorem numOrder_holds : Rows.NumOrderSaid := NumOrder.over
#print axioms numOrder_holds
end Go.Proofs.Ytdceapcfihbapaa
