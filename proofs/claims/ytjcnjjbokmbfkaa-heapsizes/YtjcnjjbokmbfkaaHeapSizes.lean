/- For every number the law HeapSizes answers true: a heap has as many words as it was made with, from none to 2^20; no condition on the input. -/
import Derived.Test.YtjcnjjbokmbfkaaRows
import Derived.Test.YtjcnjjbokmbfkaaHeapBegun
import Derived.WalkKit
import Derived.ProofKit
import Derived.OpenShut
import Derived.ShutString
import Derived.ChangeOld
import Derived.Below
namespace Go.Proofs.Ytjcnjjbokmbfkaa
namespace HeapSizes
open Mem Heap
open Go.ChangeShapes Go.WideShapes Go.ChangeAt Go.RowKit
open Go.ChangeMaps (open_string shut_string)
set_option linter.unusedVariables false
set_option linter.unusedSimpArgs false
set_option maxRecDepth 100000

set_option maxHeartbeats 2000000 in
theorem walk (n : Int) (w : World) (h1 : (Lit.int .i64 n).wf = true) : Calls Try.prog 8 #[.int .i64 n] w fun e w' => e = .returned (.bool true) ∧ Below w.heap.size w w' := by
  have hn := bounds_i64 h1
  clear h1
  by_cases hb : 100000 < n ∧ n < 1048576
  · have d1 : decide (100000 < n) = true := by simp; omega
    have d2 : decide (n < 1048576) = true := by simp; omega
    go_enter Try.func8, Try.ntmps8
    go_wp2_with fail
    refine (begun_any _).mono ?_
    rintro e w1 ⟨rfl, b1⟩
    go_wp2_with fail
    go_ret
    exact ⟨rfl, b1⟩
  have hcs : n < 0 ∨ n = 0 ∨ n = 1 ∨ (2 ≤ n ∧ n ≤ 100000) ∨ n = 1048576 ∨ 1048576 < n := by omega
  rcases hcs with h | rfl | rfl | h | rfl | h
  · have hh := h
    have hN := new_any n
    have hC : clampN n = 0 := by unfold clampN; omega
    rw [hC] at hN
    clear hC
    have hB : makeB (0) [] 1 0 = false := by simp [makeB, mayB, wordsO]
    have HB : Hid _ := hB
    clear hB
    have d1 : decide (100000 < n) = false := by simp; omega
    have d2 : decide (n < 0) = true := by simp; omega
    go_enter Try.func8, Try.ntmps8
    go_wp2_with fail
    refine (begun_any _).mono ?_
    rintro e w1 ⟨rfl, b1⟩
    go_wp2_with fail
    refine (hN w1 (by omega)).mono ?_
    rintro e w2 ⟨rfl, H2, b2⟩
    have b12 := b1.trans (b2.mono b1.size)
    go_wp2_with fail
    refine (make_any _ _ _ _ _ _ 1 0 H2).mono ?_
    rintro e w3 ⟨rfl, S3, H3, o3, hS3⟩
    have b3 := b12.trans (o3.to (B := w.heap.size) (fun k e => by subst e; exact b1.size) b12.size)
    have HA : Hid _ := H3
    clear H3
    rw [HB.out]
    have HS := size_any _ _ _ _ _ _ _ HA.out.raw
    go_wp2_with fail
    refine HS.mono ?_
    rintro e w' ⟨rfl, rfl⟩
    go_wp2_with fail
    go_ret
    exact ⟨rfl, b3⟩
  · have hN := new_any 0
    have hC : clampN 0 = 0 := by unfold clampN; omega
    rw [hC] at hN
    clear hC
    have hB : makeB (0) [] 1 0 = false := by simp [makeB, mayB, wordsO]
    have HB : Hid _ := hB
    clear hB
    go_enter Try.func8, Try.ntmps8
    go_wp2_with fail
    refine (begun_any _).mono ?_
    rintro e w1 ⟨rfl, b1⟩
    go_wp2_with fail
    refine (hN w1 (by omega)).mono ?_
    rintro e w2 ⟨rfl, H2, b2⟩
    have b12 := b1.trans (b2.mono b1.size)
    go_wp2_with fail
    refine (make_any _ _ _ _ _ _ 1 0 H2).mono ?_
    rintro e w3 ⟨rfl, S3, H3, o3, hS3⟩
    have b3 := b12.trans (o3.to (B := w.heap.size) (fun k e => by subst e; exact b1.size) b12.size)
    have HA : Hid _ := H3
    clear H3
    rw [HB.out]
    have HS := size_any _ _ _ _ _ _ _ HA.out.raw
    go_wp2_with fail
    refine HS.mono ?_
    rintro e w' ⟨rfl, rfl⟩
    go_wp2_with fail
    go_ret
    exact ⟨rfl, b3⟩
  · have hN := new_any 1
    have hC : clampN 1 = 1 := by unfold clampN; omega
    rw [hC] at hN
    clear hC
    have hB : makeB (1) [] 1 0 = false := by simp [makeB, mayB, wordsO]
    have HB : Hid _ := hB
    clear hB
    go_enter Try.func8, Try.ntmps8
    go_wp2_with fail
    refine (begun_any _).mono ?_
    rintro e w1 ⟨rfl, b1⟩
    go_wp2_with fail
    refine (hN w1 (by omega)).mono ?_
    rintro e w2 ⟨rfl, H2, b2⟩
    have b12 := b1.trans (b2.mono b1.size)
    go_wp2_with fail
    refine (make_any _ _ _ _ _ _ 1 0 H2).mono ?_
    rintro e w3 ⟨rfl, S3, H3, o3, hS3⟩
    have b3 := b12.trans (o3.to (B := w.heap.size) (fun k e => by subst e; exact b1.size) b12.size)
    have HA : Hid _ := H3
    clear H3
    rw [HB.out]
    have HS := size_any _ _ _ _ _ _ _ HA.out.raw
    go_wp2_with fail
    refine HS.mono ?_
    rintro e w' ⟨rfl, rfl⟩
    go_wp2_with fail
    go_ret
    exact ⟨rfl, b3⟩
  · obtain ⟨m, rfl⟩ := Int.eq_ofNat_of_zero_le (show 0 ≤ n by omega)
    have hN := new_any (m : Int)
    have hC : clampN (m : Int) = m := by unfold clampN; omega
    rw [hC] at hN
    clear hC
    have hB : makeB (m) [] 1 0 = true := by simp [makeB, mayB, wordsO]; omega
    have HB : Hid _ := hB
    clear hB
    have d1 : decide (100000 < (m : Int)) = false := by simp; omega
    have d3 : decide ((2 : Int) ≤ (m : Int)) = true := by simp; omega
    have d4 : decide (2 ≤ m) = true := by simp; omega
    go_enter Try.func8, Try.ntmps8
    go_wp2_with fail
    refine (begun_any _).mono ?_
    rintro e w1 ⟨rfl, b1⟩
    go_wp2_with fail
    refine (hN w1 (by omega)).mono ?_
    rintro e w2 ⟨rfl, H2, b2⟩
    have b12 := b1.trans (b2.mono b1.size)
    go_wp2_with fail
    refine (make_any _ _ _ _ _ _ 1 0 H2).mono ?_
    rintro e w3 ⟨rfl, S3, H3, o3, hS3⟩
    have b3 := b12.trans (o3.to (B := w.heap.size) (fun k e => by subst e; exact b1.size) b12.size)
    have HA : Hid _ := H3
    clear H3
    rw [HB.out]
    have HS := size_any _ _ _ _ _ _ _ HA.out.raw
    go_wp2_with fail
    refine HS.mono ?_
    rintro e w' ⟨rfl, rfl⟩
    have HU := used_any _ _ _ _ _ _ _ HA.out.raw
    have hl : (wordsO (makeS (m) [] 1 0)).length = 2 := by unfold makeS; rw [HB.out]; rfl
    rw [hl] at HU
    clear hl
    go_wp2_with fail
    refine HU.mono ?_
    rintro e w' ⟨rfl, rfl⟩
    go_wp2_with fail
    go_ret
    exact ⟨rfl, b3⟩
  · have hN := new_any 1048576
    have hC : clampN 1048576 = 1048576 := by unfold clampN; omega
    rw [hC] at hN
    clear hC
    have hB : makeB (1048576) [] 1 0 = true := by simp [makeB, mayB, wordsO]
    have HB : Hid _ := hB
    clear hB
    go_enter Try.func8, Try.ntmps8
    go_wp2_with fail
    refine (begun_any _).mono ?_
    rintro e w1 ⟨rfl, b1⟩
    go_wp2_with fail
    refine (hN w1 (by omega)).mono ?_
    rintro e w2 ⟨rfl, H2, b2⟩
    have b12 := b1.trans (b2.mono b1.size)
    go_wp2_with fail
    refine (make_any _ _ _ _ _ _ 1 0 H2).mono ?_
    rintro e w3 ⟨rfl, S3, H3, o3, hS3⟩
    have b3 := b12.trans (o3.to (B := w.heap.size) (fun k e => by subst e; exact b1.size) b12.size)
    have HA : Hid _ := H3
    clear H3
    rw [HB.out]
    have HS := size_any _ _ _ _ _ _ _ HA.out.raw
    go_wp2_with fail
    refine HS.mono ?_
    rintro e w' ⟨rfl, rfl⟩
    have HU := used_any _ _ _ _ _ _ _ HA.out.raw
    have hl : (wordsO (makeS (1048576) [] 1 0)).length = 2 := by unfold makeS; rw [HB.out]; rfl
    rw [hl] at HU
    clear hl
    go_wp2_with fail
    refine HU.mono ?_
    rintro e w' ⟨rfl, rfl⟩
    go_wp2_with fail
    go_ret
    exact ⟨rfl, b3⟩
  · have hh := h
    have hN := new_any n
    have hC : clampN n = 1048576 := by unfold clampN; omega
    rw [hC] at hN
    clear hC
    have hB : makeB (1048576) [] 1 0 = true := by simp [makeB, mayB, wordsO]
    have HB : Hid _ := hB
    clear hB
    have d1 : decide (100000 < n) = true := by simp; omega
    have d2 : decide (n < 1048576) = false := by simp; omega
    have d3 : decide (1048576 < n) = true := by simp; omega
    have d4 : ¬ (n ≤ 1048576) := by omega
    go_enter Try.func8, Try.ntmps8
    go_wp2_with fail
    refine (begun_any _).mono ?_
    rintro e w1 ⟨rfl, b1⟩
    go_wp2_with fail
    refine (hN w1 (by omega)).mono ?_
    rintro e w2 ⟨rfl, H2, b2⟩
    have b12 := b1.trans (b2.mono b1.size)
    go_wp2_with fail
    refine (make_any _ _ _ _ _ _ 1 0 H2).mono ?_
    rintro e w3 ⟨rfl, S3, H3, o3, hS3⟩
    have b3 := b12.trans (o3.to (B := w.heap.size) (fun k e => by subst e; exact b1.size) b12.size)
    have HA : Hid _ := H3
    clear H3
    rw [HB.out]
    have HS := size_any _ _ _ _ _ _ _ HA.out.raw
    go_wp2_with fail
    refine HS.mono ?_
    rintro e w' ⟨rfl, rfl⟩
    have HU := used_any _ _ _ _ _ _ _ HA.out.raw
    have hl : (wordsO (makeS (1048576) [] 1 0)).length = 2 := by unfold makeS; rw [HB.out]; rfl
    rw [hl] at HU
    clear hl
    go_wp2_with fail
    refine HU.mono ?_
    rintro e w' ⟨rfl, rfl⟩
    go_wp2_with fail
    go_ret
    exact ⟨rfl, b3⟩

/-! ### The row -/
theorem own : ownKnob Try.prog.godebug = none := by kernel_rfl
theorem laidOut : laidOutB Try.prog = true := by kernel_rfl
set_option maxRecDepth 100000 in
theorem lifted (os : Os) (started : os.Started) (H : Type) (enc : TypeId × Value → H) :
    ReturnsInHanded {} Try.checked os 8 .any (Rows.heapSizesSpec.pre6 enc Try.prog Try.f8 Rows.heapSizesRow.domain false) (Rows.heapSizesSpec.post enc Try.prog Try.f8 false true false false) := by
  refine returnsInHanded_of_change (C := Try.checked) own started (by kernel_rfl) Try.func8
    (ChangeSpec.witness6 (enc := enc) (C := Try.checked) false ⟨#[], #[.int .i64 0], []⟩ 8 (by kernel_rfl) (by kernel_rfl) (by kernel_rfl) (by kernel_rfl)) ?_
  intro W base args ds gs before hval0 hW hcnd _
  have hval : ∀ (j : Nat) t v, Try.f8.params[j]? = some t → args[j]? = some v → Value.okWide Try.prog W .any base t v := hval0
  have hW' := hW
  obtain ⟨p, q, hA0, hV, rfl, hfz, hnd⟩ := hW
  have hA : DataW.TrodAll enc Try.prog W 0 (fun _ => true) true Try.f8.params.toList args.toList ds p := hA0
  rw [Try.params8] at hA hval
  obtain ⟨v0, vs0, d0, ds0, p0, q0, hargs, rfl, rfl, h0, r0⟩ := trodAll_cons hA
  obtain ⟨rfl, rfl, rfl⟩ := trodAll_nil r0
  obtain rfl : args = #[v0] := by cases args; simp_all
  obtain ⟨rfl, rfl⟩ := trodVars_none hV
  obtain ⟨a0, rfl, rfl, rfl, w0⟩ := open_int Try.underlying3 (hval 0 3 v0 rfl rfl) h0
  clear hA0 hval0
  refine (walk a0 W w0).mono fun e W' ⟨he, bel⟩ => ?_
  subst he
  exact ⟨_, rfl, _, _, _, [], _, [], hW', trodAll_mk1 (shut_bool Try.underlying4 _), (trodAll_cons_mk (shut_int Try.underlying3 w0) trodAll_mk0), rfl, bel.frame _, fun h => by cases h⟩

theorem over : Rows.heapSizesRow.holds Try.pinned (OpenSpec.ofChange Rows.heapSizesSpec) :=
  OpenClaim.holds_of_wide 8 Try.f8 rfl rfl rfl rfl rfl rfl rfl ⟨rfl, rfl, rfl, rfl, rfl⟩ rfl rfl rfl rfl rfl (by kernel_rfl) Try.func8 (by kernel_rfl)
    (of_decide_eq_true (by kernel_rfl)) (by unfold Func.isWrapper; first | (rw [if_pos (by decide +kernel)]; kernel_rfl) | (rw [if_neg (by decide +kernel)]; exact ⟨rfl, rfl⟩))
    (fun os started H enc _ => lifted os started H enc)

end HeapSizes

theorem heapSizes_holds : Rows.HeapSizesSaid := HeapSizes.over
#print axioms heapSizes_holds
end Go.Proofs.Ytjcnjjbokmbfkaa
