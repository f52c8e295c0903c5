/- For all numbers the law HeapFull answers true: a heap takes as many words as it has, and not one more; no condition on the input. -/
import Derived.Test.YtjcnjjbokmbfkaaRows
import Derived.Test.YtjcnjjbokmbfkaaHeapBegun
import Derived.WalkKit
import Derived.ProofKit
import Derived.OpenShut
import Derived.ShutString
import Derived.ChangeOld
import Derived.Below
namespace Go.Proofs.Ytjcnjjbokmbfkaa
namespace HeapFull
open Mem Heap
open Go.ChangeShapes Go.WideShapes Go.ChangeAt Go.RowKit
open Go.ChangeMaps (open_string shut_string)
set_option linter.unusedVariables false
set_option linter.unusedSimpArgs false
set_option maxRecDepth 100000

set_option maxHeartbeats 2000000 in
theorem walk (n k : Int) (w : World) (h1 : (Lit.int .i64 n).wf = true) (h2 : (Lit.int .i64 k).wf = true) : Calls Try.prog 5 #[.int .i64 n, .int .i64 k] w fun e w' => e = .returned (.bool true) ∧ Below w.heap.size w w' := by
  have hn := bounds_i64 h1
  have hk := bounds_i64 h2
  clear h1 h2
  cases d1 : decide (n < 0)
  case true =>
    go_enter Try.func5, Try.ntmps5
    go_wp2_with fail
    refine (begun_any _).mono ?_
    rintro e w1 ⟨rfl, b1⟩
    go_wp2_with fail
    go_ret
    exact ⟨rfl, b1⟩
  cases d2 : decide (3000 < n)
  case true =>
    go_enter Try.func5, Try.ntmps5
    go_wp2_with fail
    refine (begun_any _).mono ?_
    rintro e w1 ⟨rfl, b1⟩
    go_wp2_with fail
    go_ret
    exact ⟨rfl, b1⟩
  cases d3 : decide (k < 0)
  case true =>
    go_enter Try.func5, Try.ntmps5
    go_wp2_with fail
    refine (begun_any _).mono ?_
    rintro e w1 ⟨rfl, b1⟩
    go_wp2_with fail
    go_ret
    exact ⟨rfl, b1⟩
  cases d4 : decide (1000 < k)
  case true =>
    go_enter Try.func5, Try.ntmps5
    go_wp2_with fail
    refine (begun_any _).mono ?_
    rintro e w1 ⟨rfl, b1⟩
    go_wp2_with fail
    go_ret
    exact ⟨rfl, b1⟩
  have g1 := of_decide_eq_false d1
  have g2 := of_decide_eq_false d2
  have g3 := of_decide_eq_false d3
  have g4 := of_decide_eq_false d4
  obtain ⟨n, rfl⟩ := Int.eq_ofNat_of_zero_le (show 0 ≤ n by omega)
  obtain ⟨k, rfl⟩ := Int.eq_ofNat_of_zero_le (show 0 ≤ k by omega)
  have hN := fun w => new_any (n : Int) w (by omega)
  have hC : clampN (n : Int) = n := by unfold clampN; omega
  rw [hC] at hN
  clear hC
  have HN : Hid _ := hN
  clear hN
  go_enter Try.func5, Try.ntmps5
  go_wp2_with fail
  refine (begun_any _).mono ?_
  rintro e w1 ⟨rfl, b1⟩
  go_wp2_with fail
  refine (HN.out w1).mono ?_
  rintro e w2 ⟨rfl, H2, b2⟩
  have b12 := b1.trans (b2.mono b1.size)
  have H2 : Hid _ := H2
  go_upto_region 8 with fail
  go_loopw [7] (fun i wr => ∃ (j U : Nat) (os : List Ob) (S : Nat → Prop), i = .int .i64 j ∧ 2 * j ≤ U ∧ U ≤ n ∧ Hid ((U : Int) = (j : Int) * ((k : Int) + 2)) ∧ Hid ((wordsO os).length = U) ∧ Hid (Hp w1.heap.size wr S w1.heap.size n os) ∧ Below w.heap.size w wr) (fun i _ => 1600 - (intOf i).toNat)
  case atStart => exact ⟨0, 0, [], _, rfl, by omega, by omega, (show ((0 : Nat) : Int) = ((0 : Nat) : Int) * ((k : Int) + 2) by simp), (show (wordsO []).length = 0 from rfl), H2, b12⟩
  case round =>
    obtain ⟨j, U, os, S, rfl, hjU, hUn, HU, HL, HH, bw⟩ := hrel
    have d5 : decide ((j : Int) < 1600) = true := by simp; omega
    have d6 : decide (j < 1600) = true := by simp; omega
    cases hq : makeB n os (j : Int) (k : Int)
    · have hno : ¬ (2 + (k : Int) ≤ (n : Int) - (U : Int)) := by
        intro h
        have : makeB n os (j : Int) (k : Int) = true := by
          unfold makeB mayB
          rw [HL.out]
          simp
          omega
        rw [hq] at this
        cases this
      have HQ : Hid _ := hq
      clear hq
      go_wp2_with fail
      refine (make_any _ _ _ _ _ _ (j : Int) (k : Int) HH.out).mono ?_
      rintro e w3 ⟨rfl, S3, H3, o3, hS3⟩
      rw [HQ.out]
      have b3 := bw.trans (o3.to (B := w.heap.size) (fun k e => Nat.le_trans b1.size (HH.out.raw.low k e).1) bw.size)
      have hS : makeS n os (j : Int) (k : Int) = os := by unfold makeS; rw [HQ.out]; rfl
      rw [hS] at H3
      clear hS
      have US := used_any _ _ _ _ _ _ _ H3.raw
      rw [HL.out] at US
      have H3 : Hid _ := H3
      have eM : (j : Int) * ((k : Int) + 2) = (U : Int) := HU.out.symm
      have e7 : decide ((n : Int) - (U : Int) < (k : Int) + 2) = true := by simp; omega
      go_wp2_with fail
      refine US.mono ?_
      rintro e w' ⟨rfl, rfl⟩
      go_wp2_with fail
      refine US.mono ?_
      rintro e w' ⟨rfl, rfl⟩
      go_wp2_with fail
      go_ret
      exact ⟨rfl, b3⟩
    · have HQ : Hid _ := hq
      have hyes : 2 + (k : Int) ≤ (n : Int) - (U : Int) := by
        unfold makeB at hq
        rw [HL.out] at hq
        simp only [Bool.and_eq_true, decide_eq_true_eq] at hq
        exact hq.2
      clear hq
      go_wp2_with fail
      refine (make_any _ _ _ _ _ _ (j : Int) (k : Int) HH.out).mono ?_
      rintro e w3 ⟨rfl, S3, H3, o3, hS3⟩
      rw [HQ.out]
      have b3 := bw.trans (o3.to (B := w.heap.size) (fun k e => Nat.le_trans b1.size (HH.out.raw.low k e).1) bw.size)
      have hS : makeS n os (j : Int) (k : Int) = os ++ [newOb (j : Int) (k : Int)] := by unfold makeS; rw [HQ.out]; rfl
      rw [hS] at H3
      clear hS
      have H3 : Hid _ := H3
      go_wp2_with fail
      refine ⟨⟨j + 1, U + (k + 2), _, S3, by go_num, by omega, by omega, ?_, ?_, H3, b3⟩, by simp [intOf]; omega⟩
      · show ((U + (k + 2) : Nat) : Int) = ((j + 1 : Nat) : Int) * ((k : Int) + 2)
        have := HU.out
        rw [Int.natCast_add, this, Int.natCast_add, Int.natCast_add, Int.add_mul]
        omega
      · show (wordsO _).length = _
        rw [wordsO_append, List.length_append, HL.out, wordsO_cons, List.length_append, obW_len]
        simp [newOb, wordsO]

/-! ### The row -/
theorem own : ownKnob Try.prog.godebug = none := by kernel_rfl
theorem laidOut : laidOutB Try.prog = true := by kernel_rfl
set_option maxRecDepth 100000 in
theorem lifted (os : Os) (started : os.Started) (H : Type) (enc : TypeId × Value → H) :
    ReturnsInHanded {} Try.checked os 5 .any (Rows.heapFullSpec.pre6 enc Try.prog Try.f5 Rows.heapFullRow.domain false) (Rows.heapFullSpec.post enc Try.prog Try.f5 false true false false) := by
  refine returnsInHanded_of_change (C := Try.checked) own started (by kernel_rfl) Try.func5
    (ChangeSpec.witness6 (enc := enc) (C := Try.checked) false ⟨#[], #[.int .i64 0, .int .i64 0], []⟩ 8 (by kernel_rfl) (by kernel_rfl) (by kernel_rfl) (by kernel_rfl)) ?_
  intro W base args ds gs before hval0 hW hcnd _
  have hval : ∀ (j : Nat) t v, Try.f5.params[j]? = some t → args[j]? = some v → Value.okWide Try.prog W .any base t v := hval0
  have hW' := hW
  obtain ⟨p, q, hA0, hV, rfl, hfz, hnd⟩ := hW
  have hA : DataW.TrodAll enc Try.prog W 0 (fun _ => true) true Try.f5.params.toList args.toList ds p := hA0
  rw [Try.params5] at hA hval
  obtain ⟨v0, vs0, d0, ds0, p0, q0, hargs, rfl, rfl, h0, r0⟩ := trodAll_cons hA
  obtain ⟨v1, vs1, d1, ds1, p1, q1, rfl, rfl, rfl, h1, r1⟩ := trodAll_cons r0
  obtain ⟨rfl, rfl, rfl⟩ := trodAll_nil r1
  obtain rfl : args = #[v0, v1] := by cases args; simp_all
  obtain ⟨rfl, rfl⟩ := trodVars_none hV
  obtain ⟨a0, rfl, rfl, rfl, w0⟩ := open_int Try.underlying3 (hval 0 3 v0 rfl rfl) h0
  obtain ⟨a1, rfl, rfl, rfl, w1⟩ := open_int Try.underlying3 (hval 1 3 v1 rfl rfl) h1
  clear hA0 hval0
  refine (walk a0 a1 W w0 w1).mono fun e W' ⟨he, bel⟩ => ?_
  subst he
  exact ⟨_, rfl, _, _, _, [], _, [], hW', trodAll_mk1 (shut_bool Try.underlying4 _), (trodAll_cons_mk (shut_int Try.underlying3 w0) (trodAll_cons_mk (shut_int Try.underlying3 w1) trodAll_mk0)), rfl, bel.frame _, fun h => by cases h⟩

theorem over : Rows.heapFullRow.holds Try.pinned (OpenSpec.ofChange Rows.heapFullSpec) :=
  OpenClaim.holds_of_wide 5 Try.f5 rfl rfl rfl rfl rfl rfl rfl ⟨rfl, rfl, rfl, rfl, rfl⟩ rfl rfl rfl rfl rfl (by kernel_rfl) Try.func5 (by kernel_rfl)
    (of_decide_eq_true (by kernel_rfl)) (by unfold Func.isWrapper; first | (rw [if_pos (by decide +kernel)]; kernel_rfl) | (rw [if_neg (by decide +kernel)]; exact ⟨rfl, rfl⟩))
    (fun os started H enc _ => lifted os started H enc)

end HeapFull

theorem heapFull_holds : Rows.HeapFullSaid := HeapFull.over
#print axioms heapFull_holds
end Go.Proofs.Ytjcnjjbokmbfkaa
