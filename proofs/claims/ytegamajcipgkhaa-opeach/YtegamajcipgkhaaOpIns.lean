/- The contracts over instructions as values: EqIns, MayIns. -/
import Derived.Test.YtegamajcipgkhaaOpRef
import Derived.Test.YtegamajcipgkhaaKindRef
import Derived.Deep.Light
namespace Go.Proofs.Ytegamajcipgkhaa
namespace Op4
open Num Kind
open Go.RowKit
set_option linter.unusedVariables false

/-- An instruction as the text has it. -/
def insV (o a : Int) (c m : ByteArray) : Value := .agg #[.int .i64 o, .int .i64 a, .string c, .string m]
def eqB (o a : Int) (c m : ByteArray) (o' a' : Int) (c' m' : ByteArray) : Bool := decide (o = o' ∧ a = a' ∧ c.toList = c'.toList ∧ m.toList = m'.toList)

set_option maxHeartbeats 1000000 in
theorem eq_any (o a : Int) (c m : ByteArray) (o' a' : Int) (c' m' : ByteArray) (w : World) :
    Calls Try.prog 18 #[insV o a c m, insV o' a' c' m'] w fun e w' => e = .returned (.bool (eqB o a c m o' a' c' m')) ∧ Below w.heap.size w w' := by
  unfold insV
  go_enter Try.func18, Try.ntmps18
  go_wp2_with fail
  all_goals
    go_ret
    refine ⟨ret_b ?_, ((Below.refl _ _).alloc (Nat.le_refl _) _).alloc (by simp) _⟩
    go_light
    simp_all [eqB]
    try (rw [Bool.eq_iff_iff]; simp)

theorem empty_nums (c : ByteArray) : c.toList.isEmpty = (nums c == []) := by
  rw [← beq_nums c [] [] rfl]
  cases c.toList <;> rfl

set_option maxRecDepth 100000 in
set_option maxHeartbeats 2000000 in
theorem may_ins (o a : Int) (c m : ByteArray) (w : World) (hc : c.size ≤ maxLen) (hm : m.size ≤ maxLen) :
    Calls Try.prog 9 #[insV o a c m] w fun e w' => e = .returned (.bool (mayIns o a (nums c) (nums m))) ∧ Below w.heap.size w w' := by
  unfold insV
  have hce := empty_nums c
  have hme := empty_nums m
  have hmi := beq_nums m [36, 105, 110, 105, 116] initL rfl
  rcases kinds o with ⟨hk, hp⟩ | ⟨hk, hp⟩ | ⟨hk, hp⟩ | ⟨hk, hp⟩ | ⟨hk, hp⟩
  all_goals
    have HP : Hid _ := hp
    have HK : Hid _ := hk
    clear hp hk
    go_enter Try.func9, Try.ntmps9
    go_wp2_with fail
    refine (parts_any o _).mono ?_
    rintro e w' ⟨rfl, rfl⟩
    rw [HP.out]
    simp only [resP]
    go_wp2_with (first | (go_at_call 22; refine (number_any o a _).mono ?_; rintro e w' ⟨rfl, rfl⟩) | (go_at_call 23; refine (class_any c _ hc).mono ?_; rintro e w' ⟨rfl, rfl⟩) | (go_at_call 24; refine (ref_any c _ hc).mono ?_; rintro e w' ⟨rfl, rfl⟩) | (go_at_call 25; refine (name_any m _ hm).mono ?_; rintro e w' ⟨rfl, rfl⟩))
  all_goals
    go_ret
    refine ⟨ret_b ?_, (Below.refl _ _).alloc (Nat.le_refl _) _⟩
    go_light
    have hp := HP.out
    clear HP HK
    unfold mayIns
    rw [hp]
    simp_all
    try (repeat' split) <;> first | rfl | omega | (exfalso; omega)
end Op4
end Go.Proofs.Ytegamajcipgkhaa
