/- For every three texts the law ClassNames answers true: no two fields and no two methods of a class have one name, a field and a method may; no condition on the input. -/
import Derived.Test.YtbfcjflgomedgaaClassNamesA
import Derived.WalkKit
import Derived.ProofKit
import Derived.OpenShut
import Derived.ShutString
import Derived.ChangeOld
import Derived.Below
namespace Go.Proofs.Ytbfcjflgomedgaa
namespace ClassNames
open Num Kind Op4 Cls
open Go.ChangeShapes Go.WideShapes Go.ChangeAt Go.RowKit
open Go.ChangeMaps (open_string shut_string)
set_option linter.unusedVariables false
set_option maxRecDepth 100000

set_option maxHeartbeats 8000000 in
theorem walk (a b c : ByteArray) (w : World) (w0 : a.size ≤ maxLen) (w1 : b.size ≤ maxLen) (w2 : c.size ≤ maxLen) :
    Calls Try.prog 4 #[.string a, .string b, .string c] w fun e w' => e = .returned (.bool true) ∧ Below w.heap.size w w' := by
  have NA := fun W => name_any a W w0
  have NB := fun W => name_any b W w1
  have NC := fun W => name_any c W w2
  have IA := beq_nums a [36, 105, 110, 105, 116] initL rfl
  have IB := beq_nums b [36, 105, 110, 105, 116] initL rfl
  have IC := beq_nums c [36, 105, 110, 105, 116] initL rfl
  have s0 : Hid _ := w0
  have s1 : Hid _ := w1
  have s2 : Hid _ := w2
  unfold maxLen at w0 w1 w2
  by_cases hA : a.size ≤ 10
  case neg =>
    go_enter Try.func4, Try.ntmps4
    go_wp2_with fail
    refine (Cls.begun_any _).mono ?_
    rintro e w1 ⟨rfl, e1⟩
    go_wp2_with (first | (go_at_call_of 7 a; refine (NA _).mono ?_; rintro e w' ⟨rfl, rfl⟩) | (go_at_call_of 7 b; refine (NB _).mono ?_; rintro e w' ⟨rfl, rfl⟩) | (go_at_call_of 7 c; refine (NC _).mono ?_; rintro e w' ⟨rfl, rfl⟩))
    go_ret
    exact ⟨rfl, e1⟩
  by_cases hB : b.size ≤ 10
  case neg =>
    go_enter Try.func4, Try.ntmps4
    go_wp2_with fail
    refine (Cls.begun_any _).mono ?_
    rintro e w1 ⟨rfl, e1⟩
    go_wp2_with (first | (go_at_call_of 7 a; refine (NA _).mono ?_; rintro e w' ⟨rfl, rfl⟩) | (go_at_call_of 7 b; refine (NB _).mono ?_; rintro e w' ⟨rfl, rfl⟩) | (go_at_call_of 7 c; refine (NC _).mono ?_; rintro e w' ⟨rfl, rfl⟩))
    go_ret
    exact ⟨rfl, e1⟩
  by_cases hC : c.size ≤ 10
  case neg =>
    go_enter Try.func4, Try.ntmps4
    go_wp2_with fail
    refine (Cls.begun_any _).mono ?_
    rintro e w1 ⟨rfl, e1⟩
    go_wp2_with (first | (go_at_call_of 7 a; refine (NA _).mono ?_; rintro e w' ⟨rfl, rfl⟩) | (go_at_call_of 7 b; refine (NB _).mono ?_; rintro e w' ⟨rfl, rfl⟩) | (go_at_call_of 7 c; refine (NC _).mono ?_; rintro e w' ⟨rfl, rfl⟩))
    go_ret
    exact ⟨rfl, e1⟩
  have HM := nam_may a b c
  have HMM : Hid _ := HM
  clear HM
  generalize nameB (nums a) = qa at *
  cases qa
  case false =>
    go_enter Try.func4, Try.ntmps4
    go_wp2_with fail
    refine (Cls.begun_any _).mono ?_
    rintro e w1 ⟨rfl, e1⟩
    go_wp2_with (first | (go_at_call_of 7 a; refine (NA _).mono ?_; rintro e w' ⟨rfl, rfl⟩) | (go_at_call_of 7 b; refine (NB _).mono ?_; rintro e w' ⟨rfl, rfl⟩) | (go_at_call_of 7 c; refine (NC _).mono ?_; rintro e w' ⟨rfl, rfl⟩))
    go_ret
    exact ⟨rfl, e1⟩
  generalize nameB (nums b) = qb at *
  cases qb
  case false =>
    go_enter Try.func4, Try.ntmps4
    go_wp2_with fail
    refine (Cls.begun_any _).mono ?_
    rintro e w1 ⟨rfl, e1⟩
    go_wp2_with (first | (go_at_call_of 7 a; refine (NA _).mono ?_; rintro e w' ⟨rfl, rfl⟩) | (go_at_call_of 7 b; refine (NB _).mono ?_; rintro e w' ⟨rfl, rfl⟩) | (go_at_call_of 7 c; refine (NC _).mono ?_; rintro e w' ⟨rfl, rfl⟩))
    go_ret
    exact ⟨rfl, e1⟩
  generalize nameB (nums c) = qc at *
  cases qc
  case false =>
    go_enter Try.func4, Try.ntmps4
    go_wp2_with fail
    refine (Cls.begun_any _).mono ?_
    rintro e w1 ⟨rfl, e1⟩
    go_wp2_with (first | (go_at_call_of 7 a; refine (NA _).mono ?_; rintro e w' ⟨rfl, rfl⟩) | (go_at_call_of 7 b; refine (NB _).mono ?_; rintro e w' ⟨rfl, rfl⟩) | (go_at_call_of 7 c; refine (NC _).mono ?_; rintro e w' ⟨rfl, rfl⟩))
    go_ret
    exact ⟨rfl, e1⟩
  generalize (nums a == initL) = ja at *
  cases ja
  case true =>
    go_enter Try.func4, Try.ntmps4
    go_wp2_with fail
    refine (Cls.begun_any _).mono ?_
    rintro e w1 ⟨rfl, e1⟩
    go_wp2_with (first | (go_at_call_of 7 a; refine (NA _).mono ?_; rintro e w' ⟨rfl, rfl⟩) | (go_at_call_of 7 b; refine (NB _).mono ?_; rintro e w' ⟨rfl, rfl⟩) | (go_at_call_of 7 c; refine (NC _).mono ?_; rintro e w' ⟨rfl, rfl⟩))
    go_ret
    exact ⟨rfl, e1⟩
  generalize (nums b == initL) = jb at *
  cases jb
  case true =>
    go_enter Try.func4, Try.ntmps4
    go_wp2_with fail
    refine (Cls.begun_any _).mono ?_
    rintro e w1 ⟨rfl, e1⟩
    go_wp2_with (first | (go_at_call_of 7 a; refine (NA _).mono ?_; rintro e w' ⟨rfl, rfl⟩) | (go_at_call_of 7 b; refine (NB _).mono ?_; rintro e w' ⟨rfl, rfl⟩) | (go_at_call_of 7 c; refine (NC _).mono ?_; rintro e w' ⟨rfl, rfl⟩))
    go_ret
    exact ⟨rfl, e1⟩
  generalize (nums c == initL) = jc at *
  cases jc
  case true =>
    go_enter Try.func4, Try.ntmps4
    go_wp2_with fail
    refine (Cls.begun_any _).mono ?_
    rintro e w1 ⟨rfl, e1⟩
    go_wp2_with (first | (go_at_call_of 7 a; refine (NA _).mono ?_; rintro e w' ⟨rfl, rfl⟩) | (go_at_call_of 7 b; refine (NB _).mono ?_; rintro e w' ⟨rfl, rfl⟩) | (go_at_call_of 7 c; refine (NC _).mono ?_; rintro e w' ⟨rfl, rfl⟩))
    go_ret
    exact ⟨rfl, e1⟩
  have hmay := HMM.out rfl rfl rfl rfl rfl rfl
  have HMY : Hid _ := hmay
  clear HMM hmay
  go_enter Try.func4, Try.ntmps4
  go_wp2_with fail
  refine (Cls.begun_any _).mono ?_
  rintro e w1 ⟨rfl, e1⟩
  go_upto_region 6 with (first | (go_at_call_of 7 a; refine (NA _).mono ?_; rintro e w' ⟨rfl, rfl⟩) | (go_at_call_of 7 b; refine (NB _).mono ?_; rintro e w' ⟨rfl, rfl⟩) | (go_at_call_of 7 c; refine (NC _).mono ?_; rintro e w' ⟨rfl, rfl⟩))
  clear IA IB IC NA NB NC
  go_upto_region 13 with (go_at_call 8; refine (one_any _ _).mono ?_; rintro e w' ⟨rfl, rfl⟩; simp only [oneC, oneW])
  obtain ⟨e2, C2, V2⟩ := nam_all w1 a b c s0.out s1.out s2.out
  have k2 := e1.trans (e2.mono e1.size)
  show Code.wp _ _ _ _ (namW w1 a b c)
  generalize namW w1 a b c = W2 at *
  clear e1 e2
  have HC : Hid _ := C2
  have f1 := nam_f1 a b c
  have HF1 : Hid _ := f1
  clear f1
  obtain ⟨c0, c1, c2, c3, c4, c5⟩ := C2
  cases hab : (a.toList == b.toList) <;> cases hca : (c.toList == a.toList)
  all_goals
    have HY2 : Hid _ := HMY.out
    rw [hab, hca] at HY2
    rw [hab] at HF1
    go_wp2_with fail
    refine (cmay_any _ _ _ (namL a b c) _ V2).mono ?_
    rintro e w6 ⟨rfl, b6⟩
    rw [HY2.out]
    have C6 := ClsCells.later HC.out b6
    have HC6 : Hid _ := C6
    have V6 := V2.later b6
    have k6 := k2.trans (b6.mono k2.size)
    clear c0 c1 c2 c3 c4 c5 HC V2 k2 b6 HY2 HMY
    obtain ⟨c0, c1, c2, c3, c4, c5⟩ := C6
    go_wp2_with fail
    refine (cfield_any _ _ _ (namL a b c) _ _ V6).mono ?_
    rintro e w7 ⟨rfl, b7⟩
    rw [nam_f0 a b c]
    have C7 := ClsCells.later HC6.out b7
    have HC7 : Hid _ := C7
    have V7 := V6.later b7
    have k7 := k6.trans (b7.mono k6.size)
    clear c0 c1 c2 c3 c4 c5 HC6 V6 k6 b7
    obtain ⟨c0, c1, c2, c3, c4, c5⟩ := C7
    go_wp2_with fail
    refine (cfield_any _ _ _ (namL a b c) _ _ V7).mono ?_
    rintro e w8 ⟨rfl, b8⟩
    rw [HF1.out]
    have C8 := ClsCells.later HC7.out b8
    have V8 := V7.later b8
    have k8 := k7.trans (b8.mono k7.size)
    clear c0 c1 c2 c3 c4 c5 HC7 V7 k7 b8 HF1
    obtain ⟨c0, c1, c2, c3, c4, c5⟩ := C8
    go_wp2_with fail
    refine (cmethod_any _ _ _ (namL a b c) _ _ V8).mono ?_
    rintro e w9 ⟨rfl, b9⟩
    rw [nam_m0 a b c]
    have k9 := k8.trans (b9.mono k8.size)
    clear c0 c1 c2 c3 c4 c5 V8 k8 b9
    go_wp2_with fail
    go_ret
    exact ⟨rfl, k9⟩
/-! ### The row -/
theorem own : ownKnob Try.prog.godebug = none := by kernel_rfl
theorem laidOut : laidOutB Try.prog = true := by kernel_rfl
set_option maxRecDepth 100000 in
theorem lifted (os : Os) (started : os.Started) (H : Type) (enc : TypeId × Value → H) :
    ReturnsInHanded {} Try.checked os 4 .any (Rows.classNamesSpec.pre6 enc Try.prog Try.f4 Rows.classNamesRow.domain false) (Rows.classNamesSpec.post enc Try.prog Try.f4 false true false false) := by
  refine returnsInHanded_of_change (C := Try.checked) own started (by kernel_rfl) Try.func4
    (ChangeSpec.witness6 (enc := enc) (C := Try.checked) false ⟨#[], #[.string ByteArray.empty, .string ByteArray.empty, .string ByteArray.empty], []⟩ 8 (by kernel_rfl) (by kernel_rfl) (by kernel_rfl) (by kernel_rfl)) ?_
  intro W base args ds gs before hval0 hW hcnd _
  have hval : ∀ (j : Nat) t v, Try.f4.params[j]? = some t → args[j]? = some v → Value.okWide Try.prog W .any base t v := hval0
  have hW' := hW
  obtain ⟨p, q, hA0, hV, rfl, hfz, hnd⟩ := hW
  have hA : DataW.TrodAll enc Try.prog W 0 (fun _ => true) true Try.f4.params.toList args.toList ds p := hA0
  rw [Try.params4] at hA hval
  obtain ⟨v0, vs0, d0, ds0, p0, q0, hargs, rfl, rfl, h0, r0⟩ := trodAll_cons hA
  obtain ⟨v1, vs1, d1, ds1, p1, q1, rfl, rfl, rfl, h1, r1⟩ := trodAll_cons r0
  obtain ⟨v2, vs2, d2, ds2, p2, q2, rfl, rfl, rfl, h2, r2⟩ := trodAll_cons r1
  obtain ⟨rfl, rfl, rfl⟩ := trodAll_nil r2
  obtain rfl : args = #[v0, v1, v2] := by cases args; simp_all
  obtain ⟨rfl, rfl⟩ := trodVars_none hV
  obtain ⟨a0, rfl, rfl, rfl, w0⟩ := open_string Try.underlying9 (hval 0 9 v0 rfl rfl) h0
  obtain ⟨a1, rfl, rfl, rfl, w1⟩ := open_string Try.underlying9 (hval 1 9 v1 rfl rfl) h1
  obtain ⟨a2, rfl, rfl, rfl, w2⟩ := open_string Try.underlying9 (hval 2 9 v2 rfl rfl) h2
  clear hA0 hval0
  refine (walk a0 a1 a2 W w0 w1 w2).mono fun e W' ⟨he, bel⟩ => ?_
  subst he
  exact ⟨_, rfl, _, _, _, [], _, [], hW', trodAll_mk1 (shut_bool Try.underlying4 _), (trodAll_cons_mk (shut_string Try.underlying9 w0) (trodAll_cons_mk (shut_string Try.underlying9 w1) (trodAll_cons_mk (shut_string Try.underlying9 w2) trodAll_mk0))), rfl, bel.frame _, fun h => by cases h⟩

theorem over : Rows.classNamesRow.holds Try.pinned (OpenSpec.ofChange Rows.classNamesSpec) :=
  OpenClaim.holds_of_wide 4 Try.f4 rfl rfl rfl rfl rfl rfl rfl ⟨rfl, rfl, rfl, rfl, rfl⟩ rfl rfl rfl rfl rfl (by kernel_rfl) Try.func4 (by kernel_rfl)
    (of_decide_eq_true (by kernel_rfl)) (by unfold Func.isWrapper; first | (rw [if_pos (by decide +kernel)]; kernel_rfl) | (rw [if_neg (by decide +kernel)]; exact ⟨rfl, rfl⟩))
    (fun os started H enc _ => lifted os started H enc)

end ClassNames

theorem classNames_holds : Rows.ClassNamesSaid := ClassNames.over
#print axioms classNames_holds
end Go.Proofs.Ytbfcjflgomedgaa
