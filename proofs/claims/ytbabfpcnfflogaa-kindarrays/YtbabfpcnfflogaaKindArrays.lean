/- For every text the law KindArrays answers true: an array has the elements that it was made of, and there is no array of arrays of arrays; no condition on the input. -/
import Derived.Test.YtbabfpcnfflogaaRows
import Derived.Test.YtbabfpcnfflogaaKindBegun
import Derived.WalkKit
import Derived.ProofKit
import Derived.OpenShut
import Derived.ShutString
import Derived.ChangeOld
import Derived.Below
namespace Go.Proofs.Ytbabfpcnfflogaa
namespace KindArrays
open Num Kind
open Go.ChangeShapes Go.WideShapes Go.ChangeAt Go.RowKit
open Go.ChangeMaps (open_string shut_string)
set_option linter.unusedVariables false

theorem not_empty {A : ByteArray} {x : Int} {l : List Int} (h : nums A = x :: l) : A.toList.isEmpty = false := by
  have := beq_nums A [] [] rfl
  rw [h] at this
  cases hl : A.toList with
  | nil => rw [hl] at this; exact absurd this (by simp)
  | cons y r => rfl

set_option maxRecDepth 100000 in
set_option maxHeartbeats 1000000 in
theorem walk (s : ByteArray) (w : World) (w0 : s.size ≤ maxLen) :
    Calls Try.prog 5 #[.string s] w fun e w' => e = .returned (.bool true) ∧ Below w.heap.size w w' := by
  have hc := fun W => cut_any s W 12 12 rfl (by decide) w0
  have hz := cutS_size s 12
  have HC : Hid _ := hc
  clear hc
  generalize cutS s 12 = t at *
  have ht : t.size ≤ maxLen := by unfold maxLen; omega
  have ht1 : t.size + 1 ≤ 9223372036854775807 := by omega
  have s4 : (strOfNums []).toList.isEmpty = true := by decide +kernel
  have hb := nums_bracket t
  have hbs : (⟨#[91]⟩ ++ t : ByteArray).size = 1 + t.size := ByteArray.size_append
  have hst := bracket_str t
  cases hm : mayB (91 :: nums t)
  · have ha : arrayF (nums t) = [] := by unfold arrayF; rw [hm]; rfl
    have hk : ∀ W, Calls Try.prog 16 #[.string (⟨#[91]⟩ ++ t)] W fun e w' => e = .returned (.bool false) ∧ W = w' := fun W => by
      have := kmay_any (⟨#[91]⟩ ++ t) W (by rw [hbs]; unfold maxLen; omega)
      rw [hb, hm] at this
      exact this
    have HK : Hid _ := hk
    have HA : Hid _ := ha
    clear hk ha hb hbs hst hm
    go_enter Try.func5, Try.ntmps5
    go_wp2_with fail
    refine (begun_any _).mono ?_
    rintro e w1 ⟨rfl, rfl⟩
    go_wp2_with fail
    refine (HC.out _).mono ?_
    rintro e w1 ⟨rfl, rfl⟩
    go_wp2_with fail
    refine (karray_any _ _ ht1).mono ?_
    rintro e w1 ⟨rfl, rfl⟩
    rw [HA.out]
    go_wp2_with fail
    refine (HK.out _).mono ?_
    rintro e w1 ⟨rfl, rfl⟩
    go_wp2_with fail
    go_ret
    exact ⟨rfl, Below.refl _ _⟩
  · have ha : arrayF (nums t) = 91 :: nums t := by unfold arrayF; rw [hm]; rfl
    have HA : Hid (strOfNums (arrayF (nums t)) = (⟨#[91]⟩ ++ t : ByteArray)) := by show _ = _; rw [ha, hst]
    generalize (⟨#[91]⟩ ++ t : ByteArray) = A at *
    have hA : A.size ≤ maxLen := by rw [hbs]; unfold maxLen; omega
    have hA1 : A.size + 1 ≤ 9223372036854775807 := by rw [hbs]; omega
    have hne := not_empty hb
    have he : elemF (nums A) = (nums t, true) := by unfold elemF; rw [hb, if_pos ⟨hm, rfl⟩]; rfl
    have hr : refB (nums A) = true := by unfold refB; rw [hb, hm]; simp
    have HE : Hid _ := he
    have HR : Hid _ := hr
    have hself : (t.toList == t.toList) = true := by simp
    cases hm2 : mayB (91 :: 91 :: nums t)
    · have HB : Hid (arrayF (nums A) = []) := by show _ = _; unfold arrayF; rw [hb, hm2]; rfl
      clear ha he hr hst hb hbs hm hm2 hself
      go_enter Try.func5, Try.ntmps5
      go_wp2_with fail
      refine (begun_any _).mono ?_
      rintro e w1 ⟨rfl, rfl⟩
      go_wp2_with fail
      refine (HC.out _).mono ?_
      rintro e w1 ⟨rfl, rfl⟩
      go_wp2_with fail
      refine (karray_any _ _ ht1).mono ?_
      rintro e w1 ⟨rfl, rfl⟩
      rw [HA.out]
      go_wp2_with fail
      refine (kelem_any _ _ hA).mono ?_
      rintro e w1 ⟨rfl, rfl⟩
      rw [HE.out]
      simp only [resE, str_nums]
      go_wp2_with fail
      refine (karray_any _ _ hA1).mono ?_
      rintro e w1 ⟨rfl, rfl⟩
      rw [HB.out]
      go_wp2_with fail
      refine (kref_any _ _ hA).mono ?_
      rintro e w1 ⟨rfl, rfl⟩
      rw [HR.out]
      go_wp2_with fail
      go_ret
      exact ⟨rfl, Below.refl _ _⟩
    · have hb2 := nums_bracket A
      have hbs2 : (⟨#[91]⟩ ++ A : ByteArray).size = 1 + A.size := ByteArray.size_append
      have HB : Hid (strOfNums (arrayF (nums A)) = (⟨#[91]⟩ ++ A : ByteArray)) := by show _ = _; rw [bracket_str A]; unfold arrayF; rw [hb, hm2]; rfl
      generalize (⟨#[91]⟩ ++ A : ByteArray) = B at *
      have hB1 : B.size + 1 ≤ 9223372036854775807 := by rw [hbs2, hbs]; omega
      have hne2 := not_empty hb2
      have HD : Hid (arrayF (nums B) = []) := by show _ = _; unfold arrayF; rw [hb2, hb, may_three]; rfl
      clear ha he hr hst hb hbs hm hm2 hself hb2 hbs2
      go_enter Try.func5, Try.ntmps5
      go_wp2_with fail
      refine (begun_any _).mono ?_
      rintro e w1 ⟨rfl, rfl⟩
      go_wp2_with fail
      refine (HC.out _).mono ?_
      rintro e w1 ⟨rfl, rfl⟩
      go_wp2_with fail
      refine (karray_any _ _ ht1).mono ?_
      rintro e w1 ⟨rfl, rfl⟩
      rw [HA.out]
      go_wp2_with fail
      refine (kelem_any _ _ hA).mono ?_
      rintro e w1 ⟨rfl, rfl⟩
      rw [HE.out]
      simp only [resE, str_nums]
      go_wp2_with fail
      refine (karray_any _ _ hA1).mono ?_
      rintro e w1 ⟨rfl, rfl⟩
      rw [HB.out]
      go_wp2_with fail
      refine (kref_any _ _ hA).mono ?_
      rintro e w1 ⟨rfl, rfl⟩
      rw [HR.out]
      go_wp2_with fail
      refine (karray_any _ _ hB1).mono ?_
      rintro e w1 ⟨rfl, rfl⟩
      rw [HD.out]
      go_wp2_with fail
      go_ret
      exact ⟨rfl, Below.refl _ _⟩

/-! ### The row -/
theorem own : ownKnob Try.prog.godebug = none := by kernel_rfl
theorem laidOut : laidOutB Try.prog = true := by kernel_rfl
set_option maxRecDepth 100000 in
theorem lifted (os : Os) (started : os.Started) (H : Type) (enc : TypeId × Value → H) :
    ReturnsInHanded {} Try.checked os 5 .any (Rows.kindArraysSpec.pre6 enc Try.prog Try.f5 Rows.kindArraysRow.domain false) (Rows.kindArraysSpec.post enc Try.prog Try.f5 false true false false) := by
  refine returnsInHanded_of_change (C := Try.checked) own started (by kernel_rfl) Try.func5
    (ChangeSpec.witness6 (enc := enc) (C := Try.checked) false ⟨#[], #[.string ByteArray.empty], []⟩ 8 (by kernel_rfl) (by kernel_rfl) (by kernel_rfl) (by kernel_rfl)) ?_
  intro W base args ds gs before hval0 hW hcnd _
  have hval : ∀ (j : Nat) t v, Try.f5.params[j]? = some t → args[j]? = some v → Value.okWide Try.prog W .any base t v := hval0
  have hW' := hW
  obtain ⟨p, q, hA0, hV, rfl, hfz, hnd⟩ := hW
  have hA : DataW.TrodAll enc Try.prog W 0 (fun _ => true) true Try.f5.params.toList args.toList ds p := hA0
  rw [Try.params5] at hA hval
  obtain ⟨v0, vs0, d0, ds0, p0, q0, hargs, rfl, rfl, h0, r0⟩ := trodAll_cons hA
  obtain ⟨rfl, rfl, rfl⟩ := trodAll_nil r0
  obtain rfl : args = #[v0] := by cases args; simp_all
  obtain ⟨rfl, rfl⟩ := trodVars_none hV
  obtain ⟨a0, rfl, rfl, rfl, w0⟩ := open_string Try.underlying9 (hval 0 9 v0 rfl rfl) h0
  clear hA0 hval0
  refine (walk a0 W w0).mono fun e W' ⟨he, bel⟩ => ?_
  subst he
  exact ⟨_, rfl, _, _, _, [], _, [], hW', trodAll_mk1 (shut_bool Try.underlying4 _), (trodAll_cons_mk (shut_string Try.underlying9 w0) trodAll_mk0), rfl, bel.frame _, fun h => by cases h⟩

theorem over : Rows.kindArraysRow.holds Try.pinned (OpenSpec.ofChange Rows.kindArraysSpec) :=
  OpenClaim.holds_of_wide 5 Try.f5 rfl rfl rfl rfl rfl rfl rfl ⟨rfl, rfl, rfl, rfl, rfl⟩ rfl rfl rfl rfl rfl (by kernel_rfl) Try.func5 (by kernel_rfl)
    (of_decide_eq_true (by kernel_rfl)) (by unfold Func.isWrapper; first | (rw [if_pos (by decide +kernel)]; kernel_rfl) | (rw [if_neg (by decide +kernel)]; exact ⟨rfl, rfl⟩))
    (fun os started H enc _ => lifted os started H enc)

end KindArrays

theorem kindArrays_holds : Rows.KindArraysSaid := KindArrays.over
#print axioms kindArrays_holds
end Go.Proofs.Ytbabfpcnfflogaa
