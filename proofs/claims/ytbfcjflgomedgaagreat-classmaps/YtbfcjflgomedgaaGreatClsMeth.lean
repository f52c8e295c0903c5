/- The contract of class's test of a method. -/
import Derived.Test.YtbfcjflgomedgaaGreatClsMethP
namespace Go.Proofs.YtbfcjflgomedgaaGreat
namespace Cls
open Num Kind Op4
open Go.RowKit
set_option linter.unusedVariables false
set_option maxRecDepth 100000

set_option maxHeartbeats 4000000 in
theorem meth_any (v1 v7 v8 v9 : Value) (m : MethL) (w : World) (h : MethV w v1 v7 v8 v9 m) :
    Calls Tryz.prog 34 #[methVal v1 v7 v8 v9 m] w fun e w' => e = .returned (.bool (methP m)) ∧ Below w.heap.size w w' := by
  unfold methVal methCells
  have HV : Hid _ := h
  obtain ⟨nm, ps, rt, st, ab, lo, sk, code, maps, traps⟩ := m
  simp only
  have b0 := (Below.refl w.heap.size w).alloc (Nat.le_refl _) (.cells #[.string nm, v1, .string rt, .bool st, .bool ab, .int .i64 lo, .int .i64 sk, v7, v8, v9] 35)
  have M := MethCells.new w nm v1 rt st ab lo sk v7 v8 v9 35
  have HN := fun W => kname_any nm W h.s0
  have HP := params_any v1 ps _ (h.params.later strE_stable b0)
  have HR := fun W => kret_any rt W h.s2
  have HB := begins_any nm rt st ab lo sk v1 v7 v8 v9 ps _ (h.params.later strE_stable b0)
  have HL := bodiless_any nm rt st ab lo sk v1 v7 v8 v9 code maps traps _ (h.code.later insE_stable b0) (h.maps.later mapE_stable b0) (h.traps.later trapE_stable b0)
  have hini := beq_nums nm [36, 105, 110, 105, 116] initL rfl
  have HQ : methP ⟨nm, ps, rt, st, ab, lo, sk, code, maps, traps⟩ = ((nameB (nums nm) && (paramsP ps && retB (nums rt))) &&
    (if ab then !st && (!(nums nm == initL) && bodilessP lo sk code.length maps.length traps.length)
     else if (nums nm == initL) && !beginsP ps.length st rt then false
     else roomP ps.length st lo sk && (codeP code && (trapsP code.length traps && (decide (maps.length ≤ 100) && mapsP code.length lo sk 0 maps))))) := rfl
  have HQQ : Hid _ := HQ
  have HPS : Hid (paramsP ps = true → ps.length ≤ 6) := fun hh => by unfold paramsP at hh; simp at hh; omega
  have HCD : Hid (codeP code = true → code.length ≤ 100) := fun hh => by unfold codeP withinB at hh; simp at hh; omega
  generalize methP ⟨nm, ps, rt, st, ab, lo, sk, code, maps, traps⟩ = R at *
  clear HQ
  generalize nameB (nums nm) = qn at *
  generalize paramsP ps = qp at *
  generalize retB (nums rt) = qr at *
  generalize (nums nm == initL) = qi at *
  cases qn
  · have e : Hid (R = false) := by show _ = _; rw [HQQ.out]; rfl
    clear HQQ HV h M HL HB
    go_enter Tryz.func34, Tryz.ntmps34
    go_wp2_with (go_at_call 56; refine (HN _).mono ?_; rintro e w' ⟨rfl, rfl⟩)
    go_ret
    exact ⟨ret_b e.out.symm, b0⟩
  cases qp
  · have e : Hid (R = false) := by show _ = _; rw [HQQ.out]; rfl
    clear HQQ HV h M HL HB
    go_enter Tryz.func34, Tryz.ntmps34
    go_wp2_with (first | (go_at_call 56; refine (HN _).mono ?_; rintro e w' ⟨rfl, rfl⟩) | (go_at_call 58; refine HP.mono ?_; rintro e w' ⟨rfl, rfl⟩))
    go_ret
    exact ⟨ret_b e.out.symm, b0⟩
  cases qr
  · have e : Hid (R = false) := by show _ = _; rw [HQQ.out]; rfl
    clear HQQ HV h M HL HB
    go_enter Tryz.func34, Tryz.ntmps34
    go_wp2_with (first | (go_at_call 56; refine (HN _).mono ?_; rintro e w' ⟨rfl, rfl⟩) | (go_at_call 58; refine HP.mono ?_; rintro e w' ⟨rfl, rfl⟩) | (go_at_call 59; refine (HR _).mono ?_; rintro e w' ⟨rfl, rfl⟩))
    go_ret
    exact ⟨ret_b e.out.symm, b0⟩
  cases ab
  case true =>
    have HQ2 : Hid (R = (!st && (!qi && bodilessP lo sk code.length maps.length traps.length))) := by show _ = _; rw [HQQ.out]; rfl
    clear HQQ HV h M HB
    cases st
    case true =>
      have e : Hid (R = false) := by show _ = _; rw [HQ2.out]; rfl
      clear HQ2 HL
      go_enter Tryz.func34, Tryz.ntmps34
      go_wp2_with (first | (go_at_call 56; refine (HN _).mono ?_; rintro e w' ⟨rfl, rfl⟩) | (go_at_call 58; refine HP.mono ?_; rintro e w' ⟨rfl, rfl⟩) | (go_at_call 59; refine (HR _).mono ?_; rintro e w' ⟨rfl, rfl⟩))
      go_ret
      exact ⟨ret_b e.out.symm, b0⟩
    cases qi
    case true =>
      have e : Hid (R = false) := by show _ = _; rw [HQ2.out]; rfl
      clear HQ2 HL
      go_enter Tryz.func34, Tryz.ntmps34
      go_wp2_with (first | (go_at_call 56; refine (HN _).mono ?_; rintro e w' ⟨rfl, rfl⟩) | (go_at_call 58; refine HP.mono ?_; rintro e w' ⟨rfl, rfl⟩) | (go_at_call 59; refine (HR _).mono ?_; rintro e w' ⟨rfl, rfl⟩))
      go_ret
      exact ⟨ret_b e.out.symm, b0⟩
    have e : Hid (R = bodilessP lo sk code.length maps.length traps.length) := by show _ = _; rw [HQ2.out]; rfl
    clear HQ2
    generalize bodilessP lo sk code.length maps.length traps.length = qb at *
    go_enter Tryz.func34, Tryz.ntmps34
    go_wp2_with (first | (go_at_call 56; refine (HN _).mono ?_; rintro e w' ⟨rfl, rfl⟩) | (go_at_call 58; refine HP.mono ?_; rintro e w' ⟨rfl, rfl⟩) | (go_at_call 59; refine (HR _).mono ?_; rintro e w' ⟨rfl, rfl⟩))
    refine HL.mono ?_
    rintro e w2 ⟨rfl, b2⟩
    have k2 := b0.trans (b2.mono b0.size)
    go_wp2_with fail
    go_ret
    exact ⟨ret_b e.out.symm, k2⟩
  have HQ3 : Hid (R = if qi && !beginsP ps.length st rt then false else roomP ps.length st lo sk && (codeP code && (trapsP code.length traps && (decide (maps.length ≤ 100) && mapsP code.length lo sk 0 maps)))) := by show _ = _; rw [HQQ.out]; rfl
  have HM : Hid _ := M
  have hps := HPS.out rfl
  clear HQQ HL M HPS
  have HRM : Hid (∀ W, Below w.heap.size w W → _) := fun W hb => room_any nm rt st false lo sk v1 v7 v8 v9 ps W (HV.out.params.later strE_stable hb) hps
  have HCO : Hid (∀ W, Below w.heap.size w W → _) := fun W hb => code_any v7 code W (HV.out.code.later insE_stable hb)
  have HTR : Hid (code.length ≤ 100 → ∀ W, Below w.heap.size w W → _) := fun hc W hb => traps_any v9 traps (code.length : Int) W (HV.out.traps.later trapE_stable hb) (by omega) (by omega)
  have HMA : Hid (code.length ≤ 100 → ∀ W, Below w.heap.size w W → _) := fun hc W hb => maps_any nm rt st false lo sk v1 v7 v8 v9 code maps W (HV.out.code.later insE_stable hb) (HV.out.maps.later mapE_stable hb) hc
  obtain ⟨a7, cp7, hv7, hl7, hm7, _, hx7⟩ := HV.out.code
  clear hx7
  subst hv7
  unfold maxLen at hm7
  clear h HV
  generalize beginsP ps.length st rt = qb at *
  generalize roomP ps.length st lo sk = q1 at *
  generalize codeP code = q2 at *
  generalize trapsP code.length traps = q3 at *
  generalize (decide (maps.length ≤ 100) && mapsP code.length lo sk 0 maps) = q4 at *
  generalize code.length = n at *
  cases qi
  case false =>
    cases q1
    · have e : Hid (R = false) := by show _ = _; rw [HQ3.out]; rfl
      clear HQ3 HB
      go_enter Tryz.func34, Tryz.ntmps34
      go_wp2_with (first | (go_at_call 56; refine (HN _).mono ?_; rintro e w' ⟨rfl, rfl⟩) | (go_at_call 58; refine HP.mono ?_; rintro e w' ⟨rfl, rfl⟩) | (go_at_call 59; refine (HR _).mono ?_; rintro e w' ⟨rfl, rfl⟩))
      refine (HRM.out _ b0).mono ?_
      rintro e w3 ⟨rfl, b3⟩
      have k3 := b0.trans (b3.mono b0.size)
      obtain ⟨c0, c1, c2, c3, c4, c5, c6, c7, c8, c9⟩ := HM.out.later (b3)
      go_wp2_with fail
      go_ret
      exact ⟨ret_b e.out.symm, k3⟩
    cases q2
    · have e : Hid (R = false) := by show _ = _; rw [HQ3.out]; rfl
      clear HQ3 HB
      go_enter Tryz.func34, Tryz.ntmps34
      go_wp2_with (first | (go_at_call 56; refine (HN _).mono ?_; rintro e w' ⟨rfl, rfl⟩) | (go_at_call 58; refine HP.mono ?_; rintro e w' ⟨rfl, rfl⟩) | (go_at_call 59; refine (HR _).mono ?_; rintro e w' ⟨rfl, rfl⟩))
      refine (HRM.out _ b0).mono ?_
      rintro e w3 ⟨rfl, b3⟩
      have k3 := b0.trans (b3.mono b0.size)
      obtain ⟨c0, c1, c2, c3, c4, c5, c6, c7, c8, c9⟩ := HM.out.later (b3)
      go_wp2_with fail
      refine (HCO.out _ k3).mono ?_
      rintro e w4 ⟨rfl, b4⟩
      have k4 := k3.trans (b4.mono k3.size)
      replace c0 := cellOn c0 b4
      replace c1 := cellOn c1 b4
      replace c2 := cellOn c2 b4
      replace c3 := cellOn c3 b4
      replace c4 := cellOn c4 b4
      replace c5 := cellOn c5 b4
      replace c6 := cellOn c6 b4
      replace c7 := cellOn c7 b4
      replace c8 := cellOn c8 b4
      replace c9 := cellOn c9 b4
      go_wp2_with fail
      go_ret
      exact ⟨ret_b e.out.symm, k4⟩
    cases q3
    · have e : Hid (R = false) := by show _ = _; rw [HQ3.out]; rfl
      clear HQ3 HB
      go_enter Tryz.func34, Tryz.ntmps34
      go_wp2_with (first | (go_at_call 56; refine (HN _).mono ?_; rintro e w' ⟨rfl, rfl⟩) | (go_at_call 58; refine HP.mono ?_; rintro e w' ⟨rfl, rfl⟩) | (go_at_call 59; refine (HR _).mono ?_; rintro e w' ⟨rfl, rfl⟩))
      refine (HRM.out _ b0).mono ?_
      rintro e w3 ⟨rfl, b3⟩
      have k3 := b0.trans (b3.mono b0.size)
      obtain ⟨c0, c1, c2, c3, c4, c5, c6, c7, c8, c9⟩ := HM.out.later (b3)
      go_wp2_with fail
      refine (HCO.out _ k3).mono ?_
      rintro e w4 ⟨rfl, b4⟩
      have k4 := k3.trans (b4.mono k3.size)
      replace c0 := cellOn c0 b4
      replace c1 := cellOn c1 b4
      replace c2 := cellOn c2 b4
      replace c3 := cellOn c3 b4
      replace c4 := cellOn c4 b4
      replace c5 := cellOn c5 b4
      replace c6 := cellOn c6 b4
      replace c7 := cellOn c7 b4
      replace c8 := cellOn c8 b4
      replace c9 := cellOn c9 b4
      go_wp2_with fail
      refine (HTR.out (HCD.out (by trivial)) _ k4).mono ?_
      rintro e w5 ⟨rfl, b5⟩
      have k5 := k4.trans (b5.mono k4.size)
      replace c0 := cellOn c0 b5
      replace c1 := cellOn c1 b5
      replace c2 := cellOn c2 b5
      replace c3 := cellOn c3 b5
      replace c4 := cellOn c4 b5
      replace c5 := cellOn c5 b5
      replace c6 := cellOn c6 b5
      replace c7 := cellOn c7 b5
      replace c8 := cellOn c8 b5
      replace c9 := cellOn c9 b5
      go_wp2_with fail
      go_ret
      exact ⟨ret_b e.out.symm, k5⟩
    have e : Hid (R = q4) := by show _ = _; rw [HQ3.out]; rfl
    clear HQ3 HB
    go_enter Tryz.func34, Tryz.ntmps34
    go_wp2_with (first | (go_at_call 56; refine (HN _).mono ?_; rintro e w' ⟨rfl, rfl⟩) | (go_at_call 58; refine HP.mono ?_; rintro e w' ⟨rfl, rfl⟩) | (go_at_call 59; refine (HR _).mono ?_; rintro e w' ⟨rfl, rfl⟩))
    refine (HRM.out _ b0).mono ?_
    rintro e w3 ⟨rfl, b3⟩
    have k3 := b0.trans (b3.mono b0.size)
    obtain ⟨c0, c1, c2, c3, c4, c5, c6, c7, c8, c9⟩ := HM.out.later (b3)
    go_wp2_with fail
    refine (HCO.out _ k3).mono ?_
    rintro e w4 ⟨rfl, b4⟩
    have k4 := k3.trans (b4.mono k3.size)
    replace c0 := cellOn c0 b4
    replace c1 := cellOn c1 b4
    replace c2 := cellOn c2 b4
    replace c3 := cellOn c3 b4
    replace c4 := cellOn c4 b4
    replace c5 := cellOn c5 b4
    replace c6 := cellOn c6 b4
    replace c7 := cellOn c7 b4
    replace c8 := cellOn c8 b4
    replace c9 := cellOn c9 b4
    go_wp2_with fail
    refine (HTR.out (HCD.out (by trivial)) _ k4).mono ?_
    rintro e w5 ⟨rfl, b5⟩
    have k5 := k4.trans (b5.mono k4.size)
    replace c0 := cellOn c0 b5
    replace c1 := cellOn c1 b5
    replace c2 := cellOn c2 b5
    replace c3 := cellOn c3 b5
    replace c4 := cellOn c4 b5
    replace c5 := cellOn c5 b5
    replace c6 := cellOn c6 b5
    replace c7 := cellOn c7 b5
    replace c8 := cellOn c8 b5
    replace c9 := cellOn c9 b5
    go_wp2_with fail
    refine (HMA.out (HCD.out (by trivial)) _ k5).mono ?_
    rintro e w6 ⟨rfl, b6⟩
    have k6 := k5.trans (b6.mono k5.size)
    go_wp2_with fail
    go_ret
    exact ⟨ret_b e.out.symm, k6⟩
  cases qb
  case false =>
    have e : Hid (R = false) := by show _ = _; rw [HQ3.out]; rfl
    clear HQ3
    go_enter Tryz.func34, Tryz.ntmps34
    go_wp2_with (first | (go_at_call 56; refine (HN _).mono ?_; rintro e w' ⟨rfl, rfl⟩) | (go_at_call 58; refine HP.mono ?_; rintro e w' ⟨rfl, rfl⟩) | (go_at_call 59; refine (HR _).mono ?_; rintro e w' ⟨rfl, rfl⟩))
    refine HB.mono ?_
    rintro e w2 ⟨rfl, b2⟩
    have k2 := b0.trans (b2.mono b0.size)
    obtain ⟨c0, c1, c2, c3, c4, c5, c6, c7, c8, c9⟩ := HM.out.later b2
    go_wp2_with fail
    go_ret
    exact ⟨ret_b e.out.symm, k2⟩
  cases q1
  · have e : Hid (R = false) := by show _ = _; rw [HQ3.out]; rfl
    clear HQ3
    go_enter Tryz.func34, Tryz.ntmps34
    go_wp2_with (first | (go_at_call 56; refine (HN _).mono ?_; rintro e w' ⟨rfl, rfl⟩) | (go_at_call 58; refine HP.mono ?_; rintro e w' ⟨rfl, rfl⟩) | (go_at_call 59; refine (HR _).mono ?_; rintro e w' ⟨rfl, rfl⟩))
    refine HB.mono ?_
    rintro e w2 ⟨rfl, b2⟩
    have k2 := b0.trans (b2.mono b0.size)
    obtain ⟨c0, c1, c2, c3, c4, c5, c6, c7, c8, c9⟩ := HM.out.later b2
    go_wp2_with fail
    clear c0 c1 c2 c3 c4 c5 c6 c7 c8 c9
    refine (HRM.out _ k2).mono ?_
    rintro e w3 ⟨rfl, b3⟩
    have k3 := k2.trans (b3.mono k2.size)
    obtain ⟨c0, c1, c2, c3, c4, c5, c6, c7, c8, c9⟩ := HM.out.later (b2.trans (b3.mono b2.size))
    go_wp2_with fail
    go_ret
    exact ⟨ret_b e.out.symm, k3⟩
  cases q2
  · have e : Hid (R = false) := by show _ = _; rw [HQ3.out]; rfl
    clear HQ3
    go_enter Tryz.func34, Tryz.ntmps34
    go_wp2_with (first | (go_at_call 56; refine (HN _).mono ?_; rintro e w' ⟨rfl, rfl⟩) | (go_at_call 58; refine HP.mono ?_; rintro e w' ⟨rfl, rfl⟩) | (go_at_call 59; refine (HR _).mono ?_; rintro e w' ⟨rfl, rfl⟩))
    refine HB.mono ?_
    rintro e w2 ⟨rfl, b2⟩
    have k2 := b0.trans (b2.mono b0.size)
    obtain ⟨c0, c1, c2, c3, c4, c5, c6, c7, c8, c9⟩ := HM.out.later b2
    go_wp2_with fail
    clear c0 c1 c2 c3 c4 c5 c6 c7 c8 c9
    refine (HRM.out _ k2).mono ?_
    rintro e w3 ⟨rfl, b3⟩
    have k3 := k2.trans (b3.mono k2.size)
    obtain ⟨c0, c1, c2, c3, c4, c5, c6, c7, c8, c9⟩ := HM.out.later (b2.trans (b3.mono b2.size))
    go_wp2_with fail
    refine (HCO.out _ k3).mono ?_
    rintro e w4 ⟨rfl, b4⟩
    have k4 := k3.trans (b4.mono k3.size)
    replace c0 := cellOn c0 b4
    replace c1 := cellOn c1 b4
    replace c2 := cellOn c2 b4
    replace c3 := cellOn c3 b4
    replace c4 := cellOn c4 b4
    replace c5 := cellOn c5 b4
    replace c6 := cellOn c6 b4
    replace c7 := cellOn c7 b4
    replace c8 := cellOn c8 b4
    replace c9 := cellOn c9 b4
    go_wp2_with fail
    go_ret
    exact ⟨ret_b e.out.symm, k4⟩
  cases q3
  · have e : Hid (R = false) := by show _ = _; rw [HQ3.out]; rfl
    clear HQ3
    go_enter Tryz.func34, Tryz.ntmps34
    go_wp2_with (first | (go_at_call 56; refine (HN _).mono ?_; rintro e w' ⟨rfl, rfl⟩) | (go_at_call 58; refine HP.mono ?_; rintro e w' ⟨rfl, rfl⟩) | (go_at_call 59; refine (HR _).mono ?_; rintro e w' ⟨rfl, rfl⟩))
    refine HB.mono ?_
    rintro e w2 ⟨rfl, b2⟩
    have k2 := b0.trans (b2.mono b0.size)
    obtain ⟨c0, c1, c2, c3, c4, c5, c6, c7, c8, c9⟩ := HM.out.later b2
    go_wp2_with fail
    clear c0 c1 c2 c3 c4 c5 c6 c7 c8 c9
    refine (HRM.out _ k2).mono ?_
    rintro e w3 ⟨rfl, b3⟩
    have k3 := k2.trans (b3.mono k2.size)
    obtain ⟨c0, c1, c2, c3, c4, c5, c6, c7, c8, c9⟩ := HM.out.later (b2.trans (b3.mono b2.size))
    go_wp2_with fail
    refine (HCO.out _ k3).mono ?_
    rintro e w4 ⟨rfl, b4⟩
    have k4 := k3.trans (b4.mono k3.size)
    replace c0 := cellOn c0 b4
    replace c1 := cellOn c1 b4
    replace c2 := cellOn c2 b4
    replace c3 := cellOn c3 b4
    replace c4 := cellOn c4 b4
    replace c5 := cellOn c5 b4
    replace c6 := cellOn c6 b4
    replace c7 := cellOn c7 b4
    replace c8 := cellOn c8 b4
    replace c9 := cellOn c9 b4
    go_wp2_with fail
    refine (HTR.out (HCD.out (by trivial)) _ k4).mono ?_
    rintro e w5 ⟨rfl, b5⟩
    have k5 := k4.trans (b5.mono k4.size)
    replace c0 := cellOn c0 b5
    replace c1 := cellOn c1 b5
    replace c2 := cellOn c2 b5
    replace c3 := cellOn c3 b5
    replace c4 := cellOn c4 b5
    replace c5 := cellOn c5 b5
    replace c6 := cellOn c6 b5
    replace c7 := cellOn c7 b5
    replace c8 := cellOn c8 b5
    replace c9 := cellOn c9 b5
    go_wp2_with fail
    go_ret
    exact ⟨ret_b e.out.symm, k5⟩
  have e : Hid (R = q4) := by show _ = _; rw [HQ3.out]; rfl
  clear HQ3
  go_enter Tryz.func34, Tryz.ntmps34
  go_wp2_with (first | (go_at_call 56; refine (HN _).mono ?_; rintro e w' ⟨rfl, rfl⟩) | (go_at_call 58; refine HP.mono ?_; rintro e w' ⟨rfl, rfl⟩) | (go_at_call 59; refine (HR _).mono ?_; rintro e w' ⟨rfl, rfl⟩))
  refine HB.mono ?_
  rintro e w2 ⟨rfl, b2⟩
  have k2 := b0.trans (b2.mono b0.size)
  obtain ⟨c0, c1, c2, c3, c4, c5, c6, c7, c8, c9⟩ := HM.out.later b2
  go_wp2_with fail
  clear c0 c1 c2 c3 c4 c5 c6 c7 c8 c9
  refine (HRM.out _ k2).mono ?_
  rintro e w3 ⟨rfl, b3⟩
  have k3 := k2.trans (b3.mono k2.size)
  obtain ⟨c0, c1, c2, c3, c4, c5, c6, c7, c8, c9⟩ := HM.out.later (b2.trans (b3.mono b2.size))
  go_wp2_with fail
  refine (HCO.out _ k3).mono ?_
  rintro e w4 ⟨rfl, b4⟩
  have k4 := k3.trans (b4.mono k3.size)
  replace c0 := cellOn c0 b4
  replace c1 := cellOn c1 b4
  replace c2 := cellOn c2 b4
  replace c3 := cellOn c3 b4
  replace c4 := cellOn c4 b4
  replace c5 := cellOn c5 b4
  replace c6 := cellOn c6 b4
  replace c7 := cellOn c7 b4
  replace c8 := cellOn c8 b4
  replace c9 := cellOn c9 b4
  go_wp2_with fail
  refine (HTR.out (HCD.out (by trivial)) _ k4).mono ?_
  rintro e w5 ⟨rfl, b5⟩
  have k5 := k4.trans (b5.mono k4.size)
  replace c0 := cellOn c0 b5
  replace c1 := cellOn c1 b5
  replace c2 := cellOn c2 b5
  replace c3 := cellOn c3 b5
  replace c4 := cellOn c4 b5
  replace c5 := cellOn c5 b5
  replace c6 := cellOn c6 b5
  replace c7 := cellOn c7 b5
  replace c8 := cellOn c8 b5
  replace c9 := cellOn c9 b5
  go_wp2_with fail
  refine (HMA.out (HCD.out (by trivial)) _ k5).mono ?_
  rintro e w6 ⟨rfl, b6⟩
  have k6 := k5.trans (b6.mono k5.size)
  go_wp2_with fail
  go_ret
  exact ⟨ret_b e.out.symm, k6⟩
end Cls
end Go.Proofs.YtbfcjflgomedgaaGreat
