/- For every text the law KindAll answers true: package kind says of it what the document says; no condition on the input. -/
import Derived.Test.YtbabfpcnfflogaaRows
import Derived.Test.YtbabfpcnfflogaaKindBegun
import Derived.WalkKit
import Derived.ProofKit
import Derived.OpenShut
import Derived.ShutString
import Derived.ChangeOld
import Derived.Below
namespace Go.Proofs.Ytbabfpcnfflogaa
namespace KindAll
open Num Kind
open Go.ChangeShapes Go.WideShapes Go.ChangeAt Go.RowKit
open Go.ChangeMaps (open_string shut_string)
set_option linter.unusedVariables false

set_option maxRecDepth 100000 in
set_option maxHeartbeats 1000000 in
theorem walk (s : ByteArray) (w : World) (w0 : s.size ≤ maxLen) :
    Calls Try.prog 3 #[.string s] w fun e w' => e = .returned (.bool true) ∧ Below w.heap.size w w' := by
  have hc := fun W => cut_any s W 15 15 rfl (by decide) w0
  have hz := cutS_size s 15
  have HC : Hid _ := hc
  clear hc
  generalize cutS s 15 = t at *
  have ht : t.size ≤ maxLen := by unfold maxLen; omega
  have ht1 : t.size + 1 ≤ 9223372036854775807 := by omega
  go_enter Try.func3, Try.ntmps3
  go_wp2_with fail
  refine (begun_any _).mono ?_
  rintro e w1 ⟨rfl, rfl⟩
  go_wp2_with fail
  refine (HC.out _).mono ?_
  rintro e w1 ⟨rfl, rfl⟩
  go_wp2_with fail
  refine (kelem_any _ _ ht).mono ?_
  rintro e w1 ⟨rfl, rfl⟩
  simp only [resE]
  go_wp2_with fail
  refine (elem_any _ _ ht).mono ?_
  rintro e w1 ⟨rfl, rfl⟩
  simp only [resE]
  go_wp2_with (first | (go_at_call 12; refine (kclass_any _ _ ht).mono ?_; rintro e w' ⟨rfl, rfl⟩) | (go_at_call 13; refine (class_any _ _ ht).mono ?_; rintro e w' ⟨rfl, rfl⟩) | (go_at_call 14; refine (kname_any _ _ ht).mono ?_; rintro e w' ⟨rfl, rfl⟩) | (go_at_call 15; refine (name_any _ _ ht).mono ?_; rintro e w' ⟨rfl, rfl⟩) | (go_at_call 16; refine (kmay_any _ _ ht).mono ?_; rintro e w' ⟨rfl, rfl⟩) | (go_at_call 17; refine (may_any _ _ ht).mono ?_; rintro e w' ⟨rfl, rfl⟩) | (go_at_call 18; refine (kret_any _ _ ht).mono ?_; rintro e w' ⟨rfl, rfl⟩) | (go_at_call 19; refine (ret_any _ _ ht).mono ?_; rintro e w' ⟨rfl, rfl⟩) | (go_at_call 20; refine (kref_any _ _ ht).mono ?_; rintro e w' ⟨rfl, rfl⟩) | (go_at_call 21; refine (ref_any _ _ ht).mono ?_; rintro e w' ⟨rfl, rfl⟩) | (go_at_call 22; refine (karray_any _ _ ht1).mono ?_; rintro e w' ⟨rfl, rfl⟩) | (go_at_call 23; refine (array_any _ _ ht1).mono ?_; rintro e w' ⟨rfl, rfl⟩))
  go_ret
  exact ⟨rfl, Below.refl _ _⟩

/-! ### The row -/
theorem own : ownKnob Try.prog.godebug = none := by kernel_rfl
theorem laidOut : laidOutB Try.prog = true := by kernel_rfl
set_option maxRecDepth 100000 in
theorem lifted (os : Os) (started : os.Started) (H : Type) (enc : TypeId × Value → H) :
    ReturnsInHanded {} Try.checked os 3 .any (Rows.kindAllSpec.pre6 enc Try.prog Try.f3 Rows.kindAllRow.domain false) (Rows.kindAllSpec.post enc Try.prog Try.f3 false true false false) := by
  refine returnsInHanded_of_change (C := Try.checked) own started (by kernel_rfl) Try.func3
    (ChangeSpec.witness6 (enc := enc) (C := Try.checked) false ⟨#[], #[.string ByteArray.empty], []⟩ 8 (by kernel_rfl) (by kernel_rfl) (by kernel_rfl) (by kernel_rfl)) ?_
  intro W base args ds gs before hval0 hW hcnd _
  have hval : ∀ (j : Nat) t v, Try.f3.params[j]? = some t → args[j]? = some v → Value.okWide Try.prog W .any base t v := hval0
  have hW' := hW
  obtain ⟨p, q, hA0, hV, rfl, hfz, hnd⟩ := hW
  have hA : DataW.TrodAll enc Try.prog W 0 (fun _ => true) true Try.f3.params.toList args.toList ds p := hA0
  rw [Try.params3] at hA hval
  obtain ⟨v0, vs0, d0, ds0, p0, q0, hargs, rfl, rfl, h0, r0⟩ := trodAll_cons hA
  obtain ⟨rfl, rfl, rfl⟩ := trodAll_nil r0
  obtain rfl : args = #[v0] := by cases args; simp_all
  obtain ⟨rfl, rfl⟩ := trodVars_none hV
  obtain ⟨a0, rfl, rfl, rfl, w0⟩ := open_string Try.underlying9 (hval 0 9 v0 rfl rfl) h0
  clear hA0 hval0
  refine (walk a0 W w0).mono fun e W' ⟨he, bel⟩ => ?_
  subst he
  exact ⟨_, rfl, _, _, _, [], _, [], hW', trodAll_mk1 (shut_bool Try.underlying4 _), (trodAll_cons_mk (shut_string Try.underlying9 w0) trodAll_mk0), rfl, bel.frame _, fun h => by cases h⟩

theorem over : Rows.kindAllRow.holds Try.pinned (OpenSpec.ofChange Rows.kindAllSpec) :=
  OpenClaim.holds_of_wide 3 Try.f3 rfl rfl rfl rfl rfl rfl rfl ⟨rfl, rfl, rfl, rfl, rfl⟩ rfl rfl rfl rfl rfl (by kernel_rfl) Try.func3 (by kernel_rfl)
    (of_decide_eq_true (by kernel_rfl)) (by unfold Func.isWrapper; first | (rw [if_pos (by decide +kernel)]; kernel_rfl) | (rw [if_neg (by decide +kernel)]; exact ⟨rfl, rfl⟩))
    (fun os started H enc _ => lifted os started H enc)

end KindAll

theorem kindAll_holds : Rows.KindAllSaid := KindAll.over
#print axioms kindAll_holds
end Go.Proofs.Ytbabfpcnfflogaa
