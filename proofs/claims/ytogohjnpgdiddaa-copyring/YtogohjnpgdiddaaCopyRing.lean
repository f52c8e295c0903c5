/- For all numbers the law CopyRing answers true: objects in a ring live by any one of them; no condition on the input. -/
import Derived.Test.YtogohjnpgdiddaaRows
import Derived.Test.YtogohjnpgdiddaaCollPut
import Derived.WalkKit
import Derived.ProofKit
import Derived.OpenShut
import Derived.ShutString
import Derived.ChangeOld
import Derived.Below
namespace Go.Proofs.Ytogohjnpgdiddaa
namespace CopyRing
open Mem Heap Coll
open Go.ChangeShapes Go.WideShapes Go.ChangeAt Go.RowKit
open Go.ChangeMaps (open_string shut_string)
set_option linter.unusedVariables false
set_option linter.unusedSimpArgs false
set_option maxRecDepth 100000

theorem mod_range (x : Int) (n : Nat) (hn : 0 < n) (h64 : n ≤ 1000000) (hx : -9223372036854775808 ≤ x ∧ x ≤ 9223372036854775807) : ∃ m : Nat, (wrap64 (x.tmod n + n)).tmod n = (m : Int) ∧ IntKind.i64.wrap (x.tmod n + n) = x.tmod n + n ∧ (x.tmod n + n).tmod n = (m : Int) ∧ m < n := by
  have h1 : -(n : Int) < x.tmod n := by
    have := Int.lt_tmod_of_pos x (show (0 : Int) < n by omega)
    omega
  have h2 : x.tmod n < n := Int.tmod_lt_of_pos x (by omega)
  have hw : wrap64 (x.tmod n + n) = x.tmod n + n := by unfold wrap64; omega
  have h3 : 0 ≤ (x.tmod n + n).tmod n := Int.tmod_nonneg _ (by omega)
  have h4 : (x.tmod n + n).tmod n < n := Int.tmod_lt_of_pos _ (by omega)
  refine ⟨((x.tmod n + n).tmod n).toNat, ?_, ?_, ?_, ?_⟩
  · rw [hw]; omega
  · rw [IntKind.wrap_i64]; omega
  · omega
  · omega
theorem nx_mod (n j : Nat) (hj : j < n) : ((j : Int) + 1).tmod (n : Int) = (nx n j : Int) ∧ ((j : Int) + 1) % (n : Int) = (nx n j : Int) ∧ nx n j ≤ n := by
  have e : (((j + 1 : Nat) : Int)) % (n : Int) = (nx n j : Int) := by
    rw [← Int.natCast_emod]
    congr 1
    unfold nx
    split
    · exact Nat.mod_eq_of_lt (by assumption)
    · have : j + 1 = n := by omega
      rw [this, Nat.mod_self]
  refine ⟨?_, by exact_mod_cast e, by unfold nx; split <;> omega⟩
  rw [Int.tmod_eq_emod_of_nonneg (by omega)]
  exact_mod_cast e
set_option maxHeartbeats 4000000 in
theorem walk (n root : Int) (w : World) (h1 : (Lit.int .i64 n).wf = true) (h2 : (Lit.int .i64 root).wf = true) : Calls Try.prog 7 #[.int .i64 n, .int .i64 root] w fun e w' => e = .returned (.bool true) ∧ Below w.heap.size w w' := by
  have hn := bounds_i64 h1
  have hroot := bounds_i64 h2
  clear h1 h2
  cases d1 : decide (n < 1)
  case true =>
    go_enter Try.func7, Try.ntmps7
    go_wp2_with fail
    refine (Coll.begun_any _).mono ?_
    rintro e w1 ⟨rfl, b1⟩
    go_wp2_with fail
    go_ret
    exact ⟨rfl, b1⟩
  cases d2 : decide (60 < n)
  case true =>
    go_enter Try.func7, Try.ntmps7
    go_wp2_with fail
    refine (Coll.begun_any _).mono ?_
    rintro e w1 ⟨rfl, b1⟩
    go_wp2_with fail
    go_ret
    exact ⟨rfl, b1⟩
  have g1 := of_decide_eq_false d1
  have g2 := of_decide_eq_false d2
  obtain ⟨n, rfl⟩ := Int.eq_ofNat_of_zero_le (show 0 ≤ n by omega)
  have n1 : 1 ≤ n := by omega
  have n2 : n ≤ 60 := by omega
  have hN := fun w => new_any ((n : Int) * 3) w (by omega)
  have hC : clampN ((n : Int) * 3) = 3 * n := by unfold clampN; omega
  rw [hC] at hN
  clear hC
  have HN : Hid (∀ w, Calls Try.prog 26 #[.int .i64 ((n : Int) * 3)] w fun e w' => e = .returned (.pointer (some ⟨w.heap.size, 0, none⟩)) ∧ Hp w.heap.size w' (fun k => k = w.heap.size) w.heap.size (3 * n) [] ∧ Below w.heap.size w w') := hN
  clear hN
  go_enter Try.func7, Try.ntmps7
  go_wp2_with fail
  refine (Coll.begun_any _).mono ?_
  rintro e w1 ⟨rfl, b1⟩
  go_wp2_with fail
  refine (HN.out w1).mono ?_
  rintro e w2 ⟨rfl, H2, b2⟩
  have b12 := b1.trans (b2.mono b1.size)
  have H2 : Hid _ := H2
  go_upto_region 8 with fail
  go_loopw [7] (fun i wr => ∃ (j : Nat) (S : Nat → Prop), i = .int .i64 j ∧ j ≤ n ∧ Hid (Hp w1.heap.size wr S w1.heap.size (3 * n) (List.replicate j ⟨2, [0]⟩)) ∧ Below w.heap.size w wr) (fun i _ => n - (intOf i).toNat)
  case atStart => exact ⟨0, _, rfl, by omega, H2, b12⟩
  case round =>
    clear H2 HN
    obtain ⟨j, S, rfl, hj, HH, bw⟩ := hrel
    by_cases hlj : j < n
    · have d5 : decide ((j : Int) < (n : Int)) = true := by simp; omega
      have d6 : decide (j < n) = true := by simp; omega
      obtain ⟨m1, m2, m3⟩ := make_rep (3 * n) j (by omega)
      have HM : Hid (Calls Try.prog 27 #[.pointer (some ⟨w1.heap.size, 0, none⟩), .int .i64 2, .int .i64 1] wr fun e w' => e = .returned (.tuple #[.int .i64 ((3 * j : Nat) : Int), .bool true]) ∧ ∃ S', Hp w1.heap.size w' S' w1.heap.size (3 * n) (List.replicate (j + 1) ⟨2, [0]⟩) ∧ Below w1.heap.size wr w') := make_ok _ _ _ _ _ _ _ 2 1 _ HH.out m1 m2 m3
      clear m1 m2 m3
      have HJ : Hid (j < n) := hlj
      clear hlj
      go_wp2_with fail
      refine HM.out.mono ?_
      rintro e w3 ⟨rfl, S3, H3, k3⟩
      have H3 : Hid _ := H3
      have b3 := bw.trans (k3.mono b1.size)
      clear HM
      go_wp2_with fail
      refine ⟨⟨j + 1, S3, by go_num, HJ.out, H3, b3⟩, by have := HJ.out; simp [intOf]; omega⟩
    · have ej : j = n := by omega
      subst ej
      have HZ : Hid (Hp w1.heap.size wr S w1.heap.size (3 * j) (ringO j 0)) := by
        have := HH.out
        rw [← ring_zero] at this
        exact this
      have d5 : decide ((j : Int) < (j : Int)) = false := by simp
      have d6 : decide (j < j) = false := by simp
      clear HH
      go_wp2_with fail
      clear d5 d6
      go_loopw [10] (fun i wr => ∃ (k : Nat), i = .int .i64 k ∧ k ≤ j ∧ Hid (Hp w1.heap.size wr S w1.heap.size (3 * j) (ringO j k)) ∧ Below w.heap.size w wr) (fun i _ => j - (intOf i).toNat)
      case atStart => exact ⟨0, rfl, by omega, HZ, bw⟩
      case round =>
        clear HZ bw
        obtain ⟨k, rfl, hk, HH, bw⟩ := hrel
        by_cases hlk : k < j
        · have d5 : decide ((k : Int) < (j : Int)) = true := by simp; omega
          have d6 : decide (k < j) = true := by simp; omega
          obtain ⟨q1, q2⟩ := ring_put j k hlk
          obtain ⟨t1, t2, t3⟩ := nx_mod j k hlk
          have HP : Hid (Calls Try.prog 25 #[.pointer (some ⟨w1.heap.size, 0, none⟩), .int .i64 (3 * (k : Int)), .int .i64 0, .int .i32 (3 * (nx j k : Int) + 1)] wr fun e w' => e = .returned (.bool true) ∧ Hp w1.heap.size w' S w1.heap.size (3 * j) (ringO j (k + 1)) ∧ Below w1.heap.size wr w') := by
            have := put_ok _ _ _ _ _ _ _ _ _ _ HH.out (show Is32 ((3 * nx j k + 1 : Nat) : Int) from ⟨by omega, by omega⟩) q1 q2
            have e1 : ((3 * k : Nat) : Int) = 3 * (k : Int) := by omega
            have e2 : ((3 * nx j k + 1 : Nat) : Int) = 3 * (nx j k : Int) + 1 := by omega
            rw [e1, e2] at this
            exact this
          clear q1 q2
          generalize nx j k = X at *
          have dz : decide ((j : Int) = 0) = false := by simp; omega
          have dz2 : decide (j = 0) = false := by simp; omega
          have dz3 : ((j : Int) == 0) = false := by simp; omega
          have HJ : Hid (k < j) := hlk
          have X60 : (X : Int) ≤ 60 := by omega
          go_wp2_with fail
          refine HP.out.mono ?_
          rintro e w3 ⟨rfl, H3, k3⟩
          have H3 : Hid _ := H3
          have b3 := bw.trans (k3.mono b1.size)
          clear HP t1 t2 t3 X60 dz dz2 dz3
          go_wp2_with fail
          refine ⟨⟨k + 1, by go_num, HJ.out, H3, b3⟩, by have := HJ.out; simp [intOf]; omega⟩
        · have ek : k = j := by omega
          subst ek
          obtain ⟨r, hq1, _, hq3, hr⟩ := mod_range root k (by omega) (by omega) hroot
          have HQ : Hid _ := hq1
          clear hq1
          obtain ⟨a1, a2, a3⟩ := ring_all k r hr
          have e1 : ((3 * r : Nat) : Int) = 3 * (r : Int) := by omega
          rw [e1] at a1 a2 a3
          have A1 : Hid _ := a1
          have A2 : Hid _ := a2
          have A3 : Hid _ := a3
          clear a1 a2 a3 e1
          have dz : decide ((k : Int) = 0) = false := by simp; omega
          have dz2 : decide (k = 0) = false := by simp; omega
          have dz3 : ((k : Int) == 0) = false := by simp; omega
          have d5 : decide ((k : Int) < (k : Int)) = false := by simp
          have d6 : decide (k < k) = false := by simp
          have r60 : (r : Int) < 60 := by omega
          have hq1 := HQ.out
          go_wp2_with fail
          refine (copy_lit refsB _ rf_refs _ _ _ _ _ _ (ringO k k) [3 * (r : Int)] [0] HH.out (by simp) (by simp) A1.out A2.out).mono ?_
          rintro e w6 ⟨q, SQ, g, cap, rfl, H6, own6, _, b6⟩
          have z0 := own_cell own6 0 (.int .i64 0) (by rfl)
          have HH6 : Hid _ := HH.out.later b6
          have H6 : Hid _ := H6
          have b56 := bw.trans (b6.mono bw.size)
          clear own6 d5 d6
          go_wp2_with fail
          refine (copy_lit refsB _ rf_refs _ _ _ _ _ _ [] [-1] [-1] HH6.out (by decide) (by decide) (by rw [live_minus]; rfl) (by rw [live_minus]; simp [place_minus])).mono ?_
          rintro e w7 ⟨q7, SQ7, g7, cap7, rfl, H7, own7, _, b7⟩
          have z7 := own_cell own7 0 (.int .i64 (-1)) (by rfl)
          have y0 := cellOn z0 b7
          have HH7 : Hid _ := HH6.out.later b7
          have H67 : Hid _ := H6.out.later b7
          have b57 := b56.trans (b7.mono b56.size)
          have HU1 := used_any _ _ _ _ _ _ _ H67.out.raw
          have HU2 := used_any _ _ _ _ _ _ _ H7.raw
          rw [show (wordsO (ringO k k)).length = 3 * k by rw [← pl_all, ringO_len, mul3 k k k (Nat.le_refl _)], show ((3 * k : Nat) : Int) = 3 * (k : Int) by omega] at HU1
          clear own7 z0 HH6 H6 H7 b6 b7 HH
          go_wp2_with fail
          refine HU1.mono ?_
          rintro e w' ⟨rfl, rfl⟩
          go_wp2_with fail
          refine HU2.mono ?_
          rintro e w' ⟨rfl, rfl⟩
          have hw0 : ((wordsO []).length : Int) = 0 := rfl
          rw [hw0]
          clear hw0 HU1 HU2 z7 y0 hq1
          go_wp2_with fail
          go_loopw [16] (fun i wr => ∃ (t : Nat), i = .int .i64 t ∧ t ≤ k ∧ Hid (Below w7.heap.size w7 wr)) (fun i _ => k - (intOf i).toNat)
          case atStart => exact ⟨0, rfl, by omega, Below.refl _ _⟩
          case round =>
            obtain ⟨t, rfl, ht, hb⟩ := hrel
            by_cases hlt : t < k
            · have d5 : decide ((t : Int) < (k : Int)) = true := by simp; omega
              have d6 : decide (t < k) = true := by simp; omega
              obtain ⟨t1, t2, t3⟩ := nx_mod k t hlt
              have e1 : ((3 * t : Nat) : Int) = 3 * (t : Int) := by omega
              have e2 : ((3 * nx k t + 1 : Nat) : Int) = 3 * (nx k t : Int) + 1 := by omega
              have HGn : Hid (∀ nn, Calls Try.prog 20 #[.pointer (some ⟨q, 0, none⟩), .int .i64 (3 * (t : Int)), .int .i64 0] (wr.drewN nn) fun e w' => e = .returned (.int .i32 (3 * (nx k t : Int) + 1)) ∧ w' = wr.drewN nn) := fun nn => by
                have := get_any _ _ _ _ _ _ ((3 * t : Nat) : Int) 0 ((H67.out.later hb.out).later (below_draws _ wr nn))
                rw [ring_get k t hlt, e1, e2] at this
                exact this.mono fun _ _ h => ⟨h.1, h.2.symm⟩
              clear e1 e2
              generalize nx k t = X at *
              have HJ : Hid (t < k) := hlt
              clear hlt
              have X60 : (X : Int) ≤ 60 := by omega
              have w1e : IntKind.i64.wrap ((t : Int) + 1) = (t : Int) + 1 := by rw [IntKind.wrap_i64]; omega
              have w2e : IntKind.i64.wrap (3 * (t : Int)) = 3 * (t : Int) := by rw [IntKind.wrap_i64]; omega
              have w3e : IntKind.i64.wrap (3 * (X : Int)) = 3 * (X : Int) := by rw [IntKind.wrap_i64]; omega
              have w4e : IntKind.i64.wrap (3 * (X : Int) + 1) = 3 * (X : Int) + 1 := by rw [IntKind.wrap_i64]; omega
              have w5e : IntKind.i32.wrap (3 * (X : Int) + 1) = 3 * (X : Int) + 1 := by rw [IntKind.wrap_i32]; omega
              have w6e : IntKind.i64.wrap (X : Int) = (X : Int) := by rw [IntKind.wrap_i64]; omega
              go_upto_region 25 with fail
              go_quiet ((go_at_call 20; exact Calls.quiet_of_same (HGn.out _)))
              have kq := below_draws wr.heap.size wr nq
              have hb2 : Hid (Below w7.heap.size w7 (wr.drewN nq)) := hb.out.trans (kq.mono hb.out.size)
              generalize wr.drewN nq = w9 at *
              clear kq
              go_wp2_with fail
              go_roundw
              case rel =>
                first
                | exact ⟨t + 1, by go_num, HJ.out, hb2⟩
                | ((repeat apply Exists.intro); exact ⟨⟨t + 1, by go_num, HJ.out, hb2⟩, rfl⟩)
              case measure => have := HJ.out; simp [intOf]; omega
            · have et : t = k := by omega
              subst et
              have d5 : decide ((t : Int) < (t : Int)) = false := by simp
              have d6 : decide (t < t) = false := by simp
              have hh := HH7.out.later hb.out
              have b8 := b57.trans (hb.out.mono b57.size)
              have LL := live_lit refsB _ rf_refs _ wr _ _ _ _ [3 * (r : Int)] (3 * t) hh (by simp) (by simp) A3.out
              have LL : Hid (Calls Try.prog 23 #[.pointer (some ⟨w1.heap.size, 0, none⟩), .func (.func 14) #[] #[], .slice (some ⟨wr.heap.size, 0, none⟩) 1 1] (wr.alloc (.cells #[.int .i64 (3 * (r : Int))] 3)) fun e w' => e = .returned (.int .i64 (3 * (t : Int))) ∧ Below wr.heap.size wr w') := by
                have e1 : ((3 * t : Nat) : Int) = 3 * (t : Int) := by omega
                rw [e1] at LL
                exact LL
              clear hh
              go_wp2_with fail
              refine LL.out.mono ?_
              rintro e w9 ⟨rfl, b9⟩
              have b10 := b8.trans (b9.mono b8.size)
              go_wp2_with fail
              refine (live_none refsB _ rf_refs _ _ _ _ _ _ ((HH7.out.later hb.out).later b9)).mono ?_
              rintro e w10 ⟨rfl, b11⟩
              go_wp2_with fail
              go_ret
              exact ⟨rfl, b10.trans (b11.mono b10.size)⟩

/-! ### The row -/
theorem own : ownKnob Try.prog.godebug = none := by kernel_rfl
theorem laidOut : laidOutB Try.prog = true := by kernel_rfl
set_option maxRecDepth 100000 in
theorem lifted (os : Os) (started : os.Started) (H : Type) (enc : TypeId × Value → H) :
    ReturnsInHanded {} Try.checked os 7 .any (Rows.copyRingSpec.pre6 enc Try.prog Try.f7 Rows.copyRingRow.domain false) (Rows.copyRingSpec.post enc Try.prog Try.f7 false true false false) := by
  refine returnsInHanded_of_change (C := Try.checked) own started (by kernel_rfl) Try.func7
    (ChangeSpec.witness6 (enc := enc) (C := Try.checked) false ⟨#[], #[.int .i64 0, .int .i64 0], []⟩ 8 (by kernel_rfl) (by kernel_rfl) (by kernel_rfl) (by kernel_rfl)) ?_
  intro W base args ds gs before hval0 hW hcnd _
  have hval : ∀ (j : Nat) t v, Try.f7.params[j]? = some t → args[j]? = some v → Value.okWide Try.prog W .any base t v := hval0
  have hW' := hW
  obtain ⟨p, q, hA0, hV, rfl, hfz, hnd⟩ := hW
  have hA : DataW.TrodAll enc Try.prog W 0 (fun _ => true) true Try.f7.params.toList args.toList ds p := hA0
  rw [Try.params7] at hA hval
  obtain ⟨v0, vs0, d0, ds0, p0, q0, hargs, rfl, rfl, h0, r0⟩ := trodAll_cons hA
  obtain ⟨v1, vs1, d1, ds1, p1, q1, rfl, rfl, rfl, h1, r1⟩ := trodAll_cons r0
  obtain ⟨rfl, rfl, rfl⟩ := trodAll_nil r1
  obtain rfl : args = #[v0, v1] := by cases args; simp_all
  obtain ⟨rfl, rfl⟩ := trodVars_none hV
  obtain ⟨a0, rfl, rfl, rfl, w0⟩ := open_int Try.underlying3 (hval 0 3 v0 rfl rfl) h0
  obtain ⟨a1, rfl, rfl, rfl, w1⟩ := open_int Try.underlying3 (hval 1 3 v1 rfl rfl) h1
  clear hA0 hval0
  refine (walk a0 a1 W w0 w1).mono fun e W' ⟨he, bel⟩ => ?_
  subst he
  exact ⟨_, rfl, _, _, _, [], _, [], hW', trodAll_mk1 (shut_bool Try.underlying4 _), (trodAll_cons_mk (shut_int Try.underlying3 w0) (trodAll_cons_mk (shut_int Try.underlying3 w1) trodAll_mk0)), rfl, bel.frame _, fun h => by cases h⟩

theorem over : Rows.copyRingRow.holds Try.pinned (OpenSpec.ofChange Rows.copyRingSpec) :=
  OpenClaim.holds_of_wide 7 Try.f7 rfl rfl rfl rfl rfl rfl rfl ⟨rfl, rfl, rfl, rfl, rfl⟩ rfl rfl rfl rfl rfl (by kernel_rfl) Try.func7 (by kernel_rfl)
    (of_decide_eq_true (by kernel_rfl)) (by unfold Func.isWrapper; first | (rw [if_pos (by decide +kernel)]; kernel_rfl) | (rw [if_neg (by decide +kernel)]; exact ⟨rfl, rfl⟩))
    (fun os started H enc _ => lifted os started H enc)

end CopyRing

theorem copyRing_holds : Rows.CopyRingSaid := CopyRing.over
#print axioms copyRing_holds
end Go.Proofs.Ytogohjnpgdiddaa
