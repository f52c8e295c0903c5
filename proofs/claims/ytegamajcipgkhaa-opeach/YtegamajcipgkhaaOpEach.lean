/- For all numbers o, a and texts c, m the law OpEach answers true: which instructions may be, jump, end; no condition on the input. -/
import Derived.Test.YtegamajcipgkhaaRows
import Derived.Test.YtegamajcipgkhaaOpBegun
import Derived.Test.YtegamajcipgkhaaOpCut
import Derived.Deep.RegionHeld
import Derived.Deep.CutRange
import Derived.WalkKit
import Derived.ProofKit
import Derived.OpenShut
import Derived.ShutString
import Derived.ChangeOld
import Derived.Below
namespace Go.Proofs.Ytegamajcipgkhaa
namespace OpEach
open Num Kind Op4
open Go.ChangeShapes Go.WideShapes Go.ChangeAt Go.RowKit
open Go.ChangeMaps (open_string shut_string)
set_option linter.unusedVariables false

set_option maxRecDepth 100000 in
set_option maxHeartbeats 4000000 in
theorem walk (o a : Int) (c m : ByteArray) (w : World) (h0 : (Lit.int .i64 o).wf = true) (h1 : (Lit.int .i64 a).wf = true) (h2 : c.size ≤ maxLen) (h3 : m.size ≤ maxLen) :
    Calls Try.prog 4 #[.int .i64 o, .int .i64 a, .string c, .string m] w fun e w' => e = .returned (.bool true) ∧ Below w.heap.size w w' := by
  have sc : (cutS c 10).size ≤ maxLen := by have := cutS_size c 10; unfold maxLen; omega
  have sm : (cutS m 10).size ≤ maxLen := by have := cutS_size m 10; unfold maxLen; omega
  clear h0 h1
  go_enter Try.func4, Try.ntmps4
  go_wp2_with fail
  refine (Op4.begun_any _).mono ?_
  rintro e w1 ⟨rfl, b1⟩
  go_wp2_with fail
  refine (cut_any c _ 10 10 rfl (by decide) h2).mono ?_
  rintro e w2 ⟨rfl, rfl⟩
  go_wp2_with fail
  refine (cut_any m _ 10 10 rfl (by decide) h3).mono ?_
  rintro e w2 ⟨rfl, rfl⟩
  generalize cutS c 10 = C at *
  generalize cutS m 10 = M at *
  clear h2 h3
  go_wp2_with fail
  go_loopw [10, 11] (fun i _ wr => ∃ k : Nat, k ≤ 8 ∧ i = .int .i64 k ∧ Below w.heap.size w wr) (fun i _ _ => 8 - (intOf i).toNat)
  case atStart => exact ⟨0, by omega, rfl, b1⟩
  case round =>
    obtain ⟨k, hk, rfl, hbel⟩ := hrel
    by_cases hlt : k < 8
    · have hcs : k = 0 ∨ k = 1 ∨ k = 2 ∨ k = 3 ∨ k = 4 ∨ k = 5 ∨ k = 6 ∨ k = 7 := by omega
      clear b1 hk hlt
      rcases hcs with rfl | rfl | rfl | rfl | rfl | rfl | rfl | rfl
      · go_upto_region 15 with fail
        have X := InsAt.new wr o 0 ⟨#[]⟩ ⟨#[]⟩ 23
        have hb2 := hbel.alloc hbel.size (.cells #[.int .i64 o, .int .i64 0, .string ⟨#[]⟩, .string ⟨#[]⟩] 23)
        generalize wr.alloc (.cells #[.int .i64 o, .int .i64 0, .string ⟨#[]⟩, .string ⟨#[]⟩] 23) = W at *
        have kk : Below W.heap.size W W.drew := (Below.refl _ _).drew
        have X1 := X.later kk
        obtain ⟨x0, x1, x2, x3⟩ := X1
        go_region_held (fun W' => W'.cell? ⟨wr.heap.size, 0, none⟩ = some (.int .i64 o) ∧ W'.cell? ⟨wr.heap.size, 1, none⟩ = some (.int .i64 0) ∧ W'.cell? ⟨wr.heap.size, 2, none⟩ = some (.string ⟨#[]⟩) ∧ W'.cell? ⟨wr.heap.size, 3, none⟩ = some (.string ⟨#[]⟩)) (first | assumption | exact ⟨x0, x1, x2, x3⟩) (first | (go_at_call 10; refine (omay_any o 0 ⟨#[]⟩ ⟨#[]⟩ _ (by decide) (by decide)).mono ?_; rintro e w' ⟨rfl, b'⟩; have x0 := cellOn x0 b'; have x1 := cellOn x1 b'; have x2 := cellOn x2 b'; have x3 := cellOn x3 b'; have kk := kk.trans (b'.mono kk.size)) | (go_at_call 9; refine (may_ins o 0 ⟨#[]⟩ ⟨#[]⟩ _ (by decide) (by decide)).mono ?_; rintro e w' ⟨rfl, b'⟩; have x0 := cellOn x0 b'; have x1 := cellOn x1 b'; have x2 := cellOn x2 b'; have x3 := cellOn x3 b'; have kk := kk.trans (b'.mono kk.size)))
        all_goals
          go_wp2_with fail
          go_roundw
          case rel => exact ⟨1, by omega, by go_num, hb2.trans (kk.mono hb2.size)⟩
          case measure => simp [intOf]
      · go_upto_region 15 with fail
        have X := InsAt.new wr o a ⟨#[]⟩ ⟨#[]⟩ 23
        have hb2 := hbel.alloc hbel.size (.cells #[.int .i64 o, .int .i64 a, .string ⟨#[]⟩, .string ⟨#[]⟩] 23)
        generalize wr.alloc (.cells #[.int .i64 o, .int .i64 a, .string ⟨#[]⟩, .string ⟨#[]⟩] 23) = W at *
        have kk : Below W.heap.size W W.drew := (Below.refl _ _).drew
        have X1 := X.later kk
        obtain ⟨x0, x1, x2, x3⟩ := X1
        go_region_held (fun W' => W'.cell? ⟨wr.heap.size, 0, none⟩ = some (.int .i64 o) ∧ W'.cell? ⟨wr.heap.size, 1, none⟩ = some (.int .i64 a) ∧ W'.cell? ⟨wr.heap.size, 2, none⟩ = some (.string ⟨#[]⟩) ∧ W'.cell? ⟨wr.heap.size, 3, none⟩ = some (.string ⟨#[]⟩)) (first | assumption | exact ⟨x0, x1, x2, x3⟩) (first | (go_at_call 10; refine (omay_any o a ⟨#[]⟩ ⟨#[]⟩ _ (by decide) (by decide)).mono ?_; rintro e w' ⟨rfl, b'⟩; have x0 := cellOn x0 b'; have x1 := cellOn x1 b'; have x2 := cellOn x2 b'; have x3 := cellOn x3 b'; have kk := kk.trans (b'.mono kk.size)) | (go_at_call 9; refine (may_ins o a ⟨#[]⟩ ⟨#[]⟩ _ (by decide) (by decide)).mono ?_; rintro e w' ⟨rfl, b'⟩; have x0 := cellOn x0 b'; have x1 := cellOn x1 b'; have x2 := cellOn x2 b'; have x3 := cellOn x3 b'; have kk := kk.trans (b'.mono kk.size)))
        all_goals
          go_wp2_with fail
          go_roundw
          case rel => exact ⟨2, by omega, by go_num, hb2.trans (kk.mono hb2.size)⟩
          case measure => simp [intOf]
      · go_upto_region 15 with fail
        have X := InsAt.new wr o 0 C ⟨#[]⟩ 23
        have hb2 := hbel.alloc hbel.size (.cells #[.int .i64 o, .int .i64 0, .string C, .string ⟨#[]⟩] 23)
        generalize wr.alloc (.cells #[.int .i64 o, .int .i64 0, .string C, .string ⟨#[]⟩] 23) = W at *
        have kk : Below W.heap.size W W.drew := (Below.refl _ _).drew
        have X1 := X.later kk
        obtain ⟨x0, x1, x2, x3⟩ := X1
        go_region_held (fun W' => W'.cell? ⟨wr.heap.size, 0, none⟩ = some (.int .i64 o) ∧ W'.cell? ⟨wr.heap.size, 1, none⟩ = some (.int .i64 0) ∧ W'.cell? ⟨wr.heap.size, 2, none⟩ = some (.string C) ∧ W'.cell? ⟨wr.heap.size, 3, none⟩ = some (.string ⟨#[]⟩)) (first | assumption | exact ⟨x0, x1, x2, x3⟩) (first | (go_at_call 10; refine (omay_any o 0 C ⟨#[]⟩ _ sc (by decide)).mono ?_; rintro e w' ⟨rfl, b'⟩; have x0 := cellOn x0 b'; have x1 := cellOn x1 b'; have x2 := cellOn x2 b'; have x3 := cellOn x3 b'; have kk := kk.trans (b'.mono kk.size)) | (go_at_call 9; refine (may_ins o 0 C ⟨#[]⟩ _ sc (by decide)).mono ?_; rintro e w' ⟨rfl, b'⟩; have x0 := cellOn x0 b'; have x1 := cellOn x1 b'; have x2 := cellOn x2 b'; have x3 := cellOn x3 b'; have kk := kk.trans (b'.mono kk.size)))
        all_goals
          go_wp2_with fail
          go_roundw
          case rel => exact ⟨3, by omega, by go_num, hb2.trans (kk.mono hb2.size)⟩
          case measure => simp [intOf]
      · go_upto_region 15 with fail
        have X := InsAt.new wr o a C ⟨#[]⟩ 23
        have hb2 := hbel.alloc hbel.size (.cells #[.int .i64 o, .int .i64 a, .string C, .string ⟨#[]⟩] 23)
        generalize wr.alloc (.cells #[.int .i64 o, .int .i64 a, .string C, .string ⟨#[]⟩] 23) = W at *
        have kk : Below W.heap.size W W.drew := (Below.refl _ _).drew
        have X1 := X.later kk
        obtain ⟨x0, x1, x2, x3⟩ := X1
        go_region_held (fun W' => W'.cell? ⟨wr.heap.size, 0, none⟩ = some (.int .i64 o) ∧ W'.cell? ⟨wr.heap.size, 1, none⟩ = some (.int .i64 a) ∧ W'.cell? ⟨wr.heap.size, 2, none⟩ = some (.string C) ∧ W'.cell? ⟨wr.heap.size, 3, none⟩ = some (.string ⟨#[]⟩)) (first | assumption | exact ⟨x0, x1, x2, x3⟩) (first | (go_at_call 10; refine (omay_any o a C ⟨#[]⟩ _ sc (by decide)).mono ?_; rintro e w' ⟨rfl, b'⟩; have x0 := cellOn x0 b'; have x1 := cellOn x1 b'; have x2 := cellOn x2 b'; have x3 := cellOn x3 b'; have kk := kk.trans (b'.mono kk.size)) | (go_at_call 9; refine (may_ins o a C ⟨#[]⟩ _ sc (by decide)).mono ?_; rintro e w' ⟨rfl, b'⟩; have x0 := cellOn x0 b'; have x1 := cellOn x1 b'; have x2 := cellOn x2 b'; have x3 := cellOn x3 b'; have kk := kk.trans (b'.mono kk.size)))
        all_goals
          go_wp2_with fail
          go_roundw
          case rel => exact ⟨4, by omega, by go_num, hb2.trans (kk.mono hb2.size)⟩
          case measure => simp [intOf]
      · go_upto_region 15 with fail
        have X := InsAt.new wr o 0 ⟨#[]⟩ M 23
        have hb2 := hbel.alloc hbel.size (.cells #[.int .i64 o, .int .i64 0, .string ⟨#[]⟩, .string M] 23)
        generalize wr.alloc (.cells #[.int .i64 o, .int .i64 0, .string ⟨#[]⟩, .string M] 23) = W at *
        have kk : Below W.heap.size W W.drew := (Below.refl _ _).drew
        have X1 := X.later kk
        obtain ⟨x0, x1, x2, x3⟩ := X1
        go_region_held (fun W' => W'.cell? ⟨wr.heap.size, 0, none⟩ = some (.int .i64 o) ∧ W'.cell? ⟨wr.heap.size, 1, none⟩ = some (.int .i64 0) ∧ W'.cell? ⟨wr.heap.size, 2, none⟩ = some (.string ⟨#[]⟩) ∧ W'.cell? ⟨wr.heap.size, 3, none⟩ = some (.string M)) (first | assumption | exact ⟨x0, x1, x2, x3⟩) (first | (go_at_call 10; refine (omay_any o 0 ⟨#[]⟩ M _ (by decide) sm).mono ?_; rintro e w' ⟨rfl, b'⟩; have x0 := cellOn x0 b'; have x1 := cellOn x1 b'; have x2 := cellOn x2 b'; have x3 := cellOn x3 b'; have kk := kk.trans (b'.mono kk.size)) | (go_at_call 9; refine (may_ins o 0 ⟨#[]⟩ M _ (by decide) sm).mono ?_; rintro e w' ⟨rfl, b'⟩; have x0 := cellOn x0 b'; have x1 := cellOn x1 b'; have x2 := cellOn x2 b'; have x3 := cellOn x3 b'; have kk := kk.trans (b'.mono kk.size)))
        all_goals
          go_wp2_with fail
          go_roundw
          case rel => exact ⟨5, by omega, by go_num, hb2.trans (kk.mono hb2.size)⟩
          case measure => simp [intOf]
      · go_upto_region 15 with fail
        have X := InsAt.new wr o a ⟨#[]⟩ M 23
        have hb2 := hbel.alloc hbel.size (.cells #[.int .i64 o, .int .i64 a, .string ⟨#[]⟩, .string M] 23)
        generalize wr.alloc (.cells #[.int .i64 o, .int .i64 a, .string ⟨#[]⟩, .string M] 23) = W at *
        have kk : Below W.heap.size W W.drew := (Below.refl _ _).drew
        have X1 := X.later kk
        obtain ⟨x0, x1, x2, x3⟩ := X1
        go_region_held (fun W' => W'.cell? ⟨wr.heap.size, 0, none⟩ = some (.int .i64 o) ∧ W'.cell? ⟨wr.heap.size, 1, none⟩ = some (.int .i64 a) ∧ W'.cell? ⟨wr.heap.size, 2, none⟩ = some (.string ⟨#[]⟩) ∧ W'.cell? ⟨wr.heap.size, 3, none⟩ = some (.string M)) (first | assumption | exact ⟨x0, x1, x2, x3⟩) (first | (go_at_call 10; refine (omay_any o a ⟨#[]⟩ M _ (by decide) sm).mono ?_; rintro e w' ⟨rfl, b'⟩; have x0 := cellOn x0 b'; have x1 := cellOn x1 b'; have x2 := cellOn x2 b'; have x3 := cellOn x3 b'; have kk := kk.trans (b'.mono kk.size)) | (go_at_call 9; refine (may_ins o a ⟨#[]⟩ M _ (by decide) sm).mono ?_; rintro e w' ⟨rfl, b'⟩; have x0 := cellOn x0 b'; have x1 := cellOn x1 b'; have x2 := cellOn x2 b'; have x3 := cellOn x3 b'; have kk := kk.trans (b'.mono kk.size)))
        all_goals
          go_wp2_with fail
          go_roundw
          case rel => exact ⟨6, by omega, by go_num, hb2.trans (kk.mono hb2.size)⟩
          case measure => simp [intOf]
      · go_upto_region 15 with fail
        have X := InsAt.new wr o 0 C M 23
        have hb2 := hbel.alloc hbel.size (.cells #[.int .i64 o, .int .i64 0, .string C, .string M] 23)
        generalize wr.alloc (.cells #[.int .i64 o, .int .i64 0, .string C, .string M] 23) = W at *
        have kk : Below W.heap.size W W.drew := (Below.refl _ _).drew
        have X1 := X.later kk
        obtain ⟨x0, x1, x2, x3⟩ := X1
        go_region_held (fun W' => W'.cell? ⟨wr.heap.size, 0, none⟩ = some (.int .i64 o) ∧ W'.cell? ⟨wr.heap.size, 1, none⟩ = some (.int .i64 0) ∧ W'.cell? ⟨wr.heap.size, 2, none⟩ = some (.string C) ∧ W'.cell? ⟨wr.heap.size, 3, none⟩ = some (.string M)) (first | assumption | exact ⟨x0, x1, x2, x3⟩) (first | (go_at_call 10; refine (omay_any o 0 C M _ sc sm).mono ?_; rintro e w' ⟨rfl, b'⟩; have x0 := cellOn x0 b'; have x1 := cellOn x1 b'; have x2 := cellOn x2 b'; have x3 := cellOn x3 b'; have kk := kk.trans (b'.mono kk.size)) | (go_at_call 9; refine (may_ins o 0 C M _ sc sm).mono ?_; rintro e w' ⟨rfl, b'⟩; have x0 := cellOn x0 b'; have x1 := cellOn x1 b'; have x2 := cellOn x2 b'; have x3 := cellOn x3 b'; have kk := kk.trans (b'.mono kk.size)))
        all_goals
          go_wp2_with fail
          go_roundw
          case rel => exact ⟨7, by omega, by go_num, hb2.trans (kk.mono hb2.size)⟩
          case measure => simp [intOf]
      · go_upto_region 15 with fail
        have X := InsAt.new wr o a C M 23
        have hb2 := hbel.alloc hbel.size (.cells #[.int .i64 o, .int .i64 a, .string C, .string M] 23)
        generalize wr.alloc (.cells #[.int .i64 o, .int .i64 a, .string C, .string M] 23) = W at *
        have kk : Below W.heap.size W W.drew := (Below.refl _ _).drew
        have X1 := X.later kk
        obtain ⟨x0, x1, x2, x3⟩ := X1
        go_region_held (fun W' => W'.cell? ⟨wr.heap.size, 0, none⟩ = some (.int .i64 o) ∧ W'.cell? ⟨wr.heap.size, 1, none⟩ = some (.int .i64 a) ∧ W'.cell? ⟨wr.heap.size, 2, none⟩ = some (.string C) ∧ W'.cell? ⟨wr.heap.size, 3, none⟩ = some (.string M)) (first | assumption | exact ⟨x0, x1, x2, x3⟩) (first | (go_at_call 10; refine (omay_any o a C M _ sc sm).mono ?_; rintro e w' ⟨rfl, b'⟩; have x0 := cellOn x0 b'; have x1 := cellOn x1 b'; have x2 := cellOn x2 b'; have x3 := cellOn x3 b'; have kk := kk.trans (b'.mono kk.size)) | (go_at_call 9; refine (may_ins o a C M _ sc sm).mono ?_; rintro e w' ⟨rfl, b'⟩; have x0 := cellOn x0 b'; have x1 := cellOn x1 b'; have x2 := cellOn x2 b'; have x3 := cellOn x3 b'; have kk := kk.trans (b'.mono kk.size)))
        all_goals
          go_wp2_with fail
          go_roundw
          case rel => exact ⟨8, by omega, by go_num, hb2.trans (kk.mono hb2.size)⟩
          case measure => simp [intOf]
    · obtain rfl : k = 8 := by omega
      clear hk hlt b1 sc sm
      go_wp2_with (first | (go_at_call 11; refine (ojumps_any o _).mono ?_; rintro e w' ⟨rfl, rfl⟩) | (go_at_call 13; refine (oends_any o _).mono ?_; rintro e w' ⟨rfl, rfl⟩))
      all_goals
        go_ret
        refine ⟨ret_b ?_, hbel⟩
        go_light
        simp_all [jumpsB, endsB]
        try (first | omega | (rw [Bool.eq_iff_iff]; simp; omega))

/-! ### The row -/
theorem own : ownKnob Try.prog.godebug = none := by kernel_rfl
theorem laidOut : laidOutB Try.prog = true := by kernel_rfl
set_option maxRecDepth 100000 in
theorem lifted (os : Os) (started : os.Started) (H : Type) (enc : TypeId × Value → H) :
    ReturnsInHanded {} Try.checked os 4 .any (Rows.opEachSpec.pre6 enc Try.prog Try.f4 Rows.opEachRow.domain false) (Rows.opEachSpec.post enc Try.prog Try.f4 false true false false) := by
  refine returnsInHanded_of_change (C := Try.checked) own started (by kernel_rfl) Try.func4
    (ChangeSpec.witness6 (enc := enc) (C := Try.checked) false ⟨#[], #[.int .i64 0, .int .i64 0, .string ByteArray.empty, .string ByteArray.empty], []⟩ 8 (by kernel_rfl) (by kernel_rfl) (by kernel_rfl) (by kernel_rfl)) ?_
  intro W base args ds gs before hval0 hW hcnd _
  have hval : ∀ (j : Nat) t v, Try.f4.params[j]? = some t → args[j]? = some v → Value.okWide Try.prog W .any base t v := hval0
  have hW' := hW
  obtain ⟨p, q, hA0, hV, rfl, hfz, hnd⟩ := hW
  have hA : DataW.TrodAll enc Try.prog W 0 (fun _ => true) true Try.f4.params.toList args.toList ds p := hA0
  rw [Try.params4] at hA hval
  obtain ⟨v0, vs0, d0, ds0, p0, q0, hargs, rfl, rfl, h0, r0⟩ := trodAll_cons hA
  obtain ⟨v1, vs1, d1, ds1, p1, q1, rfl, rfl, rfl, h1, r1⟩ := trodAll_cons r0
  obtain ⟨v2, vs2, d2, ds2, p2, q2, rfl, rfl, rfl, h2, r2⟩ := trodAll_cons r1
  obtain ⟨v3, vs3, d3, ds3, p3, q3, rfl, rfl, rfl, h3, r3⟩ := trodAll_cons r2
  obtain ⟨rfl, rfl, rfl⟩ := trodAll_nil r3
  obtain rfl : args = #[v0, v1, v2, v3] := by cases args; simp_all
  obtain ⟨rfl, rfl⟩ := trodVars_none hV
  obtain ⟨a0, rfl, rfl, rfl, w0⟩ := open_int Try.underlying3 (hval 0 3 v0 rfl rfl) h0
  obtain ⟨a1, rfl, rfl, rfl, w1⟩ := open_int Try.underlying3 (hval 1 3 v1 rfl rfl) h1
  obtain ⟨a2, rfl, rfl, rfl, w2⟩ := open_string Try.underlying9 (hval 2 9 v2 rfl rfl) h2
  obtain ⟨a3, rfl, rfl, rfl, w3⟩ := open_string Try.underlying9 (hval 3 9 v3 rfl rfl) h3
  clear hA0 hval0
  refine (walk a0 a1 a2 a3 W w0 w1 w2 w3).mono fun e W' ⟨he, bel⟩ => ?_
  subst he
  exact ⟨_, rfl, _, _, _, [], _, [], hW', trodAll_mk1 (shut_bool Try.underlying4 _), (trodAll_cons_mk (shut_int Try.underlying3 w0) (trodAll_cons_mk (shut_int Try.underlying3 w1) (trodAll_cons_mk (shut_string Try.underlying9 w2) (trodAll_cons_mk (shut_string Try.underlying9 w3) trodAll_mk0)))), rfl, bel.frame _, fun h => by cases h⟩

theorem over : Rows.opEachRow.holds Try.pinned (OpenSpec.ofChange Rows.opEachSpec) :=
  OpenClaim.holds_of_wide 4 Try.f4 rfl rfl rfl rfl rfl rfl rfl ⟨rfl, rfl, rfl, rfl, rfl⟩ rfl rfl rfl rfl rfl (by kernel_rfl) Try.func4 (by kernel_rfl)
    (of_decide_eq_true (by kernel_rfl)) (by unfold Func.isWrapper; first | (rw [if_pos (by decide +kernel)]; kernel_rfl) | (rw [if_neg (by decide +kernel)]; exact ⟨rfl, rfl⟩))
    (fun os started H enc _ => lifted os started H enc)

end OpEach

theorem opEach_holds : Rows.OpEachSaid := OpEach.over
#print axioms opEach_holds
end Go.Proofs.Ytegamajcipgkhaa
