/- Which words are references: collect's says, of the laws' own refs and of none. -/
import Derived.Test.YtogohjnpgdiddaaCollSpec
import Derived.Test.YtogohjnpgdiddaaHeapBegun
import Derived.Defers
import Derived.Recover
namespace Go.Proofs.Ytogohjnpgdiddaa
namespace Coll
open Mem Heap
open Go.RowKit
set_option linter.unusedVariables false
set_option linter.unusedSimpArgs false
set_option maxRecDepth 100000

theorem idle (w : World) : CallsD Try.prog 40 #[] .returning w fun e u' w' => e = .returned (.tuple #[]) ∧ u' = .returning ∧ w' = w := by
  refine callsD_of_wpS Try.func40 rfl fun c₀ cs hu => ?_
  apply wpS_region
  simp [wpOpsS, go_sem, recoverD, hu, Try.ntmps40, Exit.thenS, bodyPostS, results, Try.results40]
  cases c₀
  simp_all

theorem nil_ne (w : World) : (binOp .neq 32 Value.nilFunc Value.nilFunc).run Try.prog w = .ok (.bool false) w := by kernel_rfl
theorem refs_ne (w : World) : (binOp .neq 32 (.func (.func 14) #[] #[]) Value.nilFunc).run Try.prog w = .ok (.bool true) w := by kernel_rfl
theorem says_nil (k i : Int) (w : World) : Calls Try.prog 38 #[Value.nilFunc, .int .i64 k, .int .i64 i] w fun e w' => e = .returned (.bool false) ∧ w' = w := by
  have hq := nil_ne
  go_enter_defers Try.func38, Try.ntmps38
  go_wp2_with fail
  refine leaves_cons (f := 40) (args := #[]) (by simp) (by simp [go_sem]) ?_
  refine (idle _).mono ?_
  rintro e u' w'' ⟨rfl, rfl, rfl⟩
  simp [Leaves, settle, results, Try.results38, go_sem]
/-- The laws' own refs. -/
def refsB (k i : Nat) : Bool := decide (k % 2 = 0) || decide (i = 0)
theorem refs_any (k i : Nat) (w : World) : Calls Try.prog 14 #[.int .i64 (k : Int), .int .i64 (i : Int)] w fun e w' => e = .returned (.bool (refsB k i)) ∧ w' = w := by
  have HE : Hid (((k : Int) % 2 == 0 || (i : Int) == 0) = refsB k i) := by
    show ((k : Int) % 2 == 0 || (i : Int) == 0) = refsB k i
    unfold refsB
    rw [Bool.eq_iff_iff]
    simp
    omega
  have HT : Hid ((k : Int) % 2 = 0 → true = refsB k i) := by
    show (k : Int) % 2 = 0 → true = refsB k i
    intro h
    rw [← HE.out, h]
    rfl
  go_enter Try.func14, Try.ntmps14
  go_wp2_with fail
  · go_ret
    rename_i h
    exact ⟨ret_b (HT.out h), rfl⟩
  · go_ret
    exact ⟨ret_b HE.out, rfl⟩
theorem says_refs (k i : Nat) (w : World) : Calls Try.prog 38 #[.func (.func 14) #[] #[], .int .i64 (k : Int), .int .i64 (i : Int)] w fun e w' => e = .returned (.bool (refsB k i)) ∧ w' = w := by
  have hq := refs_ne
  go_enter_defers Try.func38, Try.ntmps38
  go_wp2_with fail
  refine (refs_any k i _).mono ?_
  rintro e w' ⟨rfl, rfl⟩
  go_wp2_with fail
  refine leaves_cons (f := 40) (args := #[]) (by simp) (by simp [go_sem]) ?_
  refine (idle _).mono ?_
  rintro e u' w'' ⟨rfl, rfl, rfl⟩
  simp [Leaves, settle, results, Try.results38, go_sem]
/-- What rf says: f. -/
def Rf (rf : Value) (f : Nat → Nat → Bool) : Prop := ∀ (k i : Nat) (w : World), Calls Try.prog 38 #[rf, .int .i64 (k : Int), .int .i64 (i : Int)] w fun e w' => e = .returned (.bool (f k i)) ∧ w' = w
theorem rf_nil : Rf Value.nilFunc fun _ _ => false := fun k i w => says_nil _ _ w
theorem rf_refs : Rf (.func (.func 14) #[] #[]) refsB := says_refs
end Coll
end Go.Proofs.Ytogohjnpgdiddaa
