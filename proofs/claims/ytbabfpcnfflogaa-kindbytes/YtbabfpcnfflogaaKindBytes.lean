/- For every two bytes the law KindBytes answers true: alone, behind letters and behind brackets package kind says of them what the document says; no condition on the input. -/
import Derived.Test.YtbabfpcnfflogaaRows
import Derived.Test.YtbabfpcnfflogaaKindBegun
import Derived.WalkKit
import Derived.ProofKit
import Derived.OpenShut
import Derived.ShutString
import Derived.ChangeOld
import Derived.Below
import Derived.BigQuiet
import Derived.Deep.QuietTactic
namespace Go.Proofs.Ytbabfpcnfflogaa
namespace KindBytes
open Num Kind
open Go.ChangeShapes Go.WideShapes Go.ChangeAt Go.RowKit
open Go.ChangeMaps (open_string shut_string)
set_option linter.unusedVariables false

theorem conv_at (W : World) (B : Nat) (xs : List Int) (hB : B = W.heap.size) (hx : xs.length ≤ 4) :
    Sem.run Try.prog (convert 28 9 (.slice (some ⟨B, 0, none⟩) xs.length xs.length)) (W.alloc (.cells (cellsOf xs).toArray 5)) = .ok (.string (strOfNums xs)) (W.alloc (.cells (cellsOf xs).toArray 5)) := by
  subst hB
  exact (Has.lit W xs (by unfold maxLen; omega)).str

set_option maxRecDepth 100000 in
set_option maxHeartbeats 2000000 in
theorem walk (a b : Int) (w : World) (w0 : (Lit.int .u8 a).wf = true) (w1 : (Lit.int .u8 b).wf = true) :
    Calls Try.prog 4 #[.int .u8 a, .int .u8 b] w fun e w' => e = .returned (.bool true) ∧ Below w.heap.size w w' := by
  have c1 : ∀ (W : World) (B : Nat) (x : Int), B = W.heap.size → Sem.run Try.prog (convert 28 9 (.slice (some ⟨B, 0, none⟩) 1 1)) (W.alloc (.cells #[.int .u8 x] 5)) = .ok (.string (strOfNums [x])) (W.alloc (.cells #[.int .u8 x] 5)) := fun W B x h => conv_at W B [x] h (by simp)
  have c2 : ∀ (W : World) (B : Nat) (x y : Int), B = W.heap.size → Sem.run Try.prog (convert 28 9 (.slice (some ⟨B, 0, none⟩) 2 2)) (W.alloc (.cells #[.int .u8 x, .int .u8 y] 5)) = .ok (.string (strOfNums [x, y])) (W.alloc (.cells #[.int .u8 x, .int .u8 y] 5)) := fun W B x y h => conv_at W B [x, y] h (by simp)
  have c3 : ∀ (W : World) (B : Nat) (x y z : Int), B = W.heap.size → Sem.run Try.prog (convert 28 9 (.slice (some ⟨B, 0, none⟩) 3 3)) (W.alloc (.cells #[.int .u8 x, .int .u8 y, .int .u8 z] 5)) = .ok (.string (strOfNums [x, y, z])) (W.alloc (.cells #[.int .u8 x, .int .u8 y, .int .u8 z] 5)) := fun W B x y z h => conv_at W B [x, y, z] h (by simp)
  have c4 : ∀ (W : World) (B : Nat) (x y z u : Int), B = W.heap.size → Sem.run Try.prog (convert 28 9 (.slice (some ⟨B, 0, none⟩) 4 4)) (W.alloc (.cells #[.int .u8 x, .int .u8 y, .int .u8 z, .int .u8 u] 5)) = .ok (.string (strOfNums [x, y, z, u])) (W.alloc (.cells #[.int .u8 x, .int .u8 y, .int .u8 z, .int .u8 u] 5)) := fun W B x y z u h => conv_at W B [x, y, z, u] h (by simp)
  clear w0 w1
  go_enter Try.func4, Try.ntmps4
  go_wp2_with fail
  refine (begun_any _).mono ?_
  rintro e w1 ⟨rfl, rfl⟩
  go_wp2_with fail
  clear c1 c2 c3 c4
  go_loopw [7] (fun i wr => ∃ k : Nat, k ≤ 6 ∧ i = .int .i64 k ∧ (∀ j, j < 6 → ∃ x : ByteArray, wr.cell? ⟨w.heap.size + 1 + 1 + 1 + 1 + 1 + 1, j, none⟩ = some (.string x) ∧ x.size ≤ 4) ∧ Below w.heap.size w wr) (fun i _ => 6 - (intOf i).toNat)
  case atStart =>
    refine ⟨0, by omega, rfl, ?_, ?_⟩
    · intro j hj
      match j, hj with
      | 0, _ => exact ⟨strOfNums [a], by go_simp, by rw [strOfNums_size]; simp⟩
      | 1, _ => exact ⟨strOfNums [a, b], by go_simp, by rw [strOfNums_size]; simp⟩
      | 2, _ => exact ⟨strOfNums [65, a], by go_simp, by rw [strOfNums_size]; simp⟩
      | 3, _ => exact ⟨strOfNums [97, a, b], by go_simp, by rw [strOfNums_size]; simp⟩
      | 4, _ => exact ⟨strOfNums [91, a, b], by go_simp, by rw [strOfNums_size]; simp⟩
      | 5, _ => exact ⟨strOfNums [91, 91, 65, a], by go_simp, by rw [strOfNums_size]; simp⟩
    · exact (((((((Below.refl _ _).alloc (by simp) _).alloc (by simp) _).alloc (by simp; omega) _).alloc (by simp; omega) _).alloc (by simp; omega) _).alloc (by simp; omega) _).alloc (by simp; omega) _
  case round =>
    obtain ⟨k, hk, rfl, hcell, hbel⟩ := hrel
    by_cases hlt : k < 6
    · obtain ⟨x, hc, hx4⟩ := hcell k hlt
      have hx : x.size ≤ maxLen := by unfold maxLen; omega
      have hki : (k : Int) < 6 := by omega
      have HX : Hid _ := hcell
      have q1 : (classB (nums x) != classB (nums x)) = false := by simp
      have q2 : (nameB (nums x) != nameB (nums x)) = false := by simp
      have q3 : (mayB (nums x) != mayB (nums x)) = false := by simp
      have q4 : (refB (nums x) != refB (nums x)) = false := by simp
      clear hcell
      go_wp2_with fail
      go_quiet (first | (go_at_call 12; exact Calls.quiet_of_same ((kclass_any x _ hx).mono fun _ _ h => ⟨h.1, h.2.symm⟩)) | (go_at_call 13; exact Calls.quiet_of_same ((class_any x _ hx).mono fun _ _ h => ⟨h.1, h.2.symm⟩)) | (go_at_call 14; exact Calls.quiet_of_same ((kname_any x _ hx).mono fun _ _ h => ⟨h.1, h.2.symm⟩)) | (go_at_call 15; exact Calls.quiet_of_same ((name_any x _ hx).mono fun _ _ h => ⟨h.1, h.2.symm⟩)) | (go_at_call 16; exact Calls.quiet_of_same ((kmay_any x _ hx).mono fun _ _ h => ⟨h.1, h.2.symm⟩)) | (go_at_call 17; exact Calls.quiet_of_same ((may_any x _ hx).mono fun _ _ h => ⟨h.1, h.2.symm⟩)) | (go_at_call 20; exact Calls.quiet_of_same ((kref_any x _ hx).mono fun _ _ h => ⟨h.1, h.2.symm⟩)) | (go_at_call 21; exact Calls.quiet_of_same ((ref_any x _ hx).mono fun _ _ h => ⟨h.1, h.2.symm⟩)))
      go_wp2_with fail
      go_roundw
      case rel => exact ⟨k + 1, by omega, by go_num, HX.out, below_drewN hbel _⟩
      case measure => simp [intOf]; omega
    · clear hcell
      go_wp2_with fail
      go_ret
      exact ⟨rfl, hbel⟩

/-! ### The row -/
theorem own : ownKnob Try.prog.godebug = none := by kernel_rfl
theorem laidOut : laidOutB Try.prog = true := by kernel_rfl
set_option maxRecDepth 100000 in
theorem lifted (os : Os) (started : os.Started) (H : Type) (enc : TypeId × Value → H) :
    ReturnsInHanded {} Try.checked os 4 .any (Rows.kindBytesSpec.pre6 enc Try.prog Try.f4 Rows.kindBytesRow.domain false) (Rows.kindBytesSpec.post enc Try.prog Try.f4 false true false false) := by
  refine returnsInHanded_of_change (C := Try.checked) own started (by kernel_rfl) Try.func4
    (ChangeSpec.witness6 (enc := enc) (C := Try.checked) false ⟨#[], #[.int .u8 0, .int .u8 0], []⟩ 8 (by kernel_rfl) (by kernel_rfl) (by kernel_rfl) (by kernel_rfl)) ?_
  intro W base args ds gs before hval0 hW hcnd _
  have hval : ∀ (j : Nat) t v, Try.f4.params[j]? = some t → args[j]? = some v → Value.okWide Try.prog W .any base t v := hval0
  have hW' := hW
  obtain ⟨p, q, hA0, hV, rfl, hfz, hnd⟩ := hW
  have hA : DataW.TrodAll enc Try.prog W 0 (fun _ => true) true Try.f4.params.toList args.toList ds p := hA0
  rw [Try.params4] at hA hval
  obtain ⟨v0, vs0, d0, ds0, p0, q0, hargs, rfl, rfl, h0, r0⟩ := trodAll_cons hA
  obtain ⟨v1, vs1, d1, ds1, p1, q1, rfl, rfl, rfl, h1, r1⟩ := trodAll_cons r0
  obtain ⟨rfl, rfl, rfl⟩ := trodAll_nil r1
  obtain rfl : args = #[v0, v1] := by cases args; simp_all
  obtain ⟨rfl, rfl⟩ := trodVars_none hV
  obtain ⟨a0, rfl, rfl, rfl, w0⟩ := open_int Try.underlying5 (hval 0 5 v0 rfl rfl) h0
  obtain ⟨a1, rfl, rfl, rfl, w1⟩ := open_int Try.underlying5 (hval 1 5 v1 rfl rfl) h1
  clear hA0 hval0
  refine (walk a0 a1 W w0 w1).mono fun e W' ⟨he, bel⟩ => ?_
  subst he
  exact ⟨_, rfl, _, _, _, [], _, [], hW', trodAll_mk1 (shut_bool Try.underlying4 _), (trodAll_cons_mk (shut_int Try.underlying5 w0) (trodAll_cons_mk (shut_int Try.underlying5 w1) trodAll_mk0)), rfl, bel.frame _, fun h => by cases h⟩

theorem over : Rows.kindBytesRow.holds Try.pinned (OpenSpec.ofChange Rows.kindBytesSpec) :=
  OpenClaim.holds_of_wide 4 Try.f4 rfl rfl rfl rfl rfl rfl rfl ⟨rfl, rfl, rfl, rfl, rfl⟩ rfl rfl rfl rfl rfl (by kernel_rfl) Try.func4 (by kernel_rfl)
    (of_decide_eq_true (by kernel_rfl)) (by unfold Func.isWrapper; first | (rw [if_pos (by decide +kernel)]; kernel_rfl) | (rw [if_neg (by decide +kernel)]; exact ⟨rfl, rfl⟩))
    (fun os started H enc _ => lifted os started H enc)

end KindBytes

theorem kindBytes_holds : Rows.KindBytesSaid := KindBytes.over
#print axioms kindBytes_holds
end Go.Proofs.Ytbabfpcnfflogaa
