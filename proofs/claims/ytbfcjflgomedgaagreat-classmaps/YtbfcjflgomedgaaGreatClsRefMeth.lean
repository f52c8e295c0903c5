/- The contract of the document's own test of a method: it answers as package class's parts ask. -/
import Derived.Test.YtbfcjflgomedgaaGreatClsBodyAll
import Derived.Test.YtbfcjflgomedgaaGreatClsMapsAll
import Derived.Test.YtbfcjflgomedgaaGreatClsMapsP
namespace Go.Proofs.YtbfcjflgomedgaaGreat
namespace Cls
open Num Kind Op4
open Go.RowKit
set_option linter.unusedVariables false
set_option linter.unusedSimpArgs false
set_option maxRecDepth 100000

theorem trapB_eq (n : Nat) (t : TrapL) : trapB n t = trapP n t := by
  unfold trapB trapP withinB
  rw [Bool.eq_iff_iff]
  cases (nums t.c == []) <;> cases classB (nums t.c) <;> simp <;> omega
theorem body_eq (m : MethL) : bodyB m = (codeP m.code && trapsP m.code.length m.traps) := by
  have e : m.traps.all (trapB m.code.length) = m.traps.all (trapP m.code.length) := by
    congr 1
    funext t
    exact trapB_eq _ t
  unfold bodyB codeP trapsP withinB
  rw [e, Bool.eq_iff_iff]
  simp
  constructor
  · rintro ⟨⟨h1, h2⟩, h3, h4, h5, h6⟩
    exact ⟨⟨⟨by omega, by omega⟩, h5, h3⟩, h4, h6⟩
  · rintro ⟨⟨⟨h1, h2⟩, h5, h3⟩, h4, h6⟩
    exact ⟨⟨by omega, by omega⟩, h3, h4, h5, h6⟩
theorem may_ref (l : List Int) : mayB l = ((l == [73]) || refB l) := by
  unfold refB
  cases h : (l == [73])
  · rfl
  · have : l = [73] := by simpa using h
    subst this
    decide +kernel
theorem loc_eq : localB = locB := by
  funext s
  unfold localB locB valueB
  rw [may_ref]
  cases (nums s == [84]) <;> cases (nums s == [78]) <;> cases (nums s == [73]) <;> rfl
theorem stack_eq : stackB = valueB := by
  funext s
  unfold stackB valueB
  rw [may_ref]
  cases (nums s == [78]) <;> cases (nums s == [73]) <;> rfl
theorem mapsB_eq (n : Nat) (lo sk : Int) : ∀ (l : List MapL) (prev : Option Int) (least : Int), ((prev = none ∧ least = 0) ∨ ∃ p, prev = some p ∧ 0 ≤ p ∧ least = p + 1) → mapsB n lo sk prev l = mapsP n lo sk least l
  | [], _, _, _ => rfl
  | x :: r, prev, least, h => by
    unfold mapsB mapsP standB withinB
    rw [loc_eq, stack_eq]
    by_cases h0 : 0 ≤ x.at'
    · rw [mapsB_eq n lo sk r (some x.at') (x.at' + 1) (.inr ⟨_, rfl, h0, rfl⟩)]
      rw [Bool.eq_iff_iff]
      rcases h with ⟨rfl, rfl⟩ | ⟨p, rfl, hp, rfl⟩
      · simp
        constructor
        · rintro ⟨⟨⟨⟨_, h2⟩, h3⟩, h4⟩, h5, h6, h7⟩
          exact ⟨⟨⟨h0, by omega⟩, ⟨h3, h4⟩, h5, h6⟩, h7⟩
        · rintro ⟨⟨⟨_, h2⟩, ⟨h3, h4⟩, h5, h6⟩, h7⟩
          exact ⟨⟨⟨⟨h0, by omega⟩, h3⟩, h4⟩, h5, h6, h7⟩
      · simp
        constructor
        · rintro ⟨⟨⟨⟨⟨_, h2⟩, h8⟩, h3⟩, h4⟩, h5, h6, h7⟩
          exact ⟨⟨⟨by omega, by omega⟩, ⟨h3, h4⟩, h5, h6⟩, h7⟩
        · rintro ⟨⟨⟨h8, h2⟩, ⟨h3, h4⟩, h5, h6⟩, h7⟩
          exact ⟨⟨⟨⟨⟨h0, by omega⟩, by omega⟩, h3⟩, h4⟩, h5, h6, h7⟩
    · have e1 : decide (0 ≤ x.at') = false := by simpa using h0
      have e2 : decide (least ≤ x.at') = false := by
        rcases h with ⟨_, rfl⟩ | ⟨p, _, hp, rfl⟩ <;> (simp; omega)
      rw [e1, e2]
      simp
theorem room_eq (np : Nat) (st : Bool) (lo sk : Int) (a : Int) (ha : a = if st then (np : Int) else np + 1) : roomP np st lo sk = !(decide (lo < a) || (decide (16 < lo) || (decide (sk < 0) || decide (16 < sk)))) := by
  subst ha
  unfold roomP withinB
  rw [Bool.eq_iff_iff]
  simp
  omega
set_option maxHeartbeats 16000000 in
theorem rmeth_any (v1 v7 v8 v9 : Value) (m : MethL) (w : World) (h : MethV w v1 v7 v8 v9 m) :
    Calls Tryz.prog 22 #[methVal v1 v7 v8 v9 m] w fun e w' => e = .returned (.bool (methP m)) ∧ Below w.heap.size w w' := by
  have hpe := body_eq m
  have hme := mapsB_eq m.code.length m.locals m.stack m.maps none 0 (.inl ⟨rfl, rfl⟩)
  obtain ⟨nm, ps, rt, st, ab, lo, sk, code, maps, traps⟩ := m
  simp only at hpe hme
  obtain ⟨a1, cp1, hv1, hl1, hm1, _, hx1⟩ := h.params
  obtain ⟨a7, cp7, hv7, hl7, hm7, _, hx7⟩ := h.code
  obtain ⟨a8, cp8, hv8, hl8, hm8, _, hx8⟩ := h.maps
  obtain ⟨a9, cp9, hv9, hl9, hm9, _, hx9⟩ := h.traps
  subst hv1 hv7 hv8 hv9
  simp only at hl1 hl7 hl8 hl9
  clear hx1 hx7 hx8 hx9
  unfold maxLen at hm1 hm7 hm8 hm9
  unfold methVal methCells
  simp only
  have b0 := (Below.refl w.heap.size w).alloc (Nat.le_refl _) (.cells #[.string nm, .slice a1 ps.length cp1, .string rt, .bool st, .bool ab, .int .i64 lo, .int .i64 sk, .slice a7 code.length cp7, .slice a8 maps.length cp8, .slice a9 traps.length cp9] 35)
  have M := MethCells.new w nm (.slice a1 ps.length cp1) rt st ab lo sk (.slice a7 code.length cp7) (.slice a8 maps.length cp8) (.slice a9 traps.length cp9) 35
  have HN := fun W => name_any nm W h.s0
  have HR := fun W => ret_any rt W h.s2
  have HB := rbody_any _ _ _ _ _ _ (h.later b0)
  have HMP : Hid (∀ W, Below w.heap.size w W → _) := fun W hb => rmaps_any _ _ _ _ _ W (h.later hb)
  simp only [methVal, methCells] at HB HMP
  rw [hpe] at HB
  rw [hme] at HMP
  have hini := beq_nums nm [36, 105, 110, 105, 116] initL rfl
  have h86 := beq_nums rt [86] [86] rfl
  have HSP : Hid _ := h.params.later strE_stable b0
  have HQ : methP ⟨nm, ps, rt, st, ab, lo, sk, code, maps, traps⟩ = ((nameB (nums nm) && ((decide (ps.length ≤ 6) && ps.all fun p => mayB (nums p)) && retB (nums rt))) &&
    (if ab then !st && (!(nums nm == initL) && bodilessP lo sk code.length maps.length traps.length)
     else if (nums nm == initL) && !(st && (decide (ps.length = 0) && (nums rt == [86]))) then false
     else roomP ps.length st lo sk && ((codeP code && trapsP code.length traps) && (decide (maps.length ≤ 100) && mapsP code.length lo sk 0 maps)))) := by
    unfold methP paramsP beginsP
    simp only [Bool.and_assoc]
  have HQQ : Hid _ := HQ
  generalize methP ⟨nm, ps, rt, st, ab, lo, sk, code, maps, traps⟩ = R at *
  generalize (codeP code && trapsP code.length traps) = qB at *
  generalize (decide (maps.length ≤ 100) && mapsP code.length lo sk 0 maps) = qM at *
  clear HQ hpe hme h
  generalize nameB (nums nm) = qn at *
  generalize retB (nums rt) = qr at *
  generalize (nums nm == initL) = qi at *
  generalize (nums rt == [86]) = qv at *
  cases qn
  case false =>
    have e : Hid (R = false) := by show _ = _; rw [HQQ.out]; simp
    clear HQQ M HB HMP HSP
    go_enter Tryz.func22, Tryz.ntmps22
    go_wp2_with (first | (go_at_call 18; refine (HN _).mono ?_; rintro e w' ⟨rfl, rfl⟩) | (go_at_call 38; refine (HR _).mono ?_; rintro e w' ⟨rfl, rfl⟩))
    go_ret
    exact ⟨ret_b e.out.symm, b0⟩
  by_cases h6 : ps.length ≤ 6
  case neg =>
    have e : Hid (R = false) := by show _ = _; rw [HQQ.out]; simp [h6]
    clear HQQ M HB HMP HSP
    go_enter Tryz.func22, Tryz.ntmps22
    go_wp2_with (first | (go_at_call 18; refine (HN _).mono ?_; rintro e w' ⟨rfl, rfl⟩) | (go_at_call 38; refine (HR _).mono ?_; rintro e w' ⟨rfl, rfl⟩))
    go_ret
    exact ⟨ret_b e.out.symm, b0⟩
  cases qr
  case false =>
    have e : Hid (R = false) := by show _ = _; rw [HQQ.out]; simp
    clear HQQ M HB HMP HSP
    go_enter Tryz.func22, Tryz.ntmps22
    go_wp2_with (first | (go_at_call 18; refine (HN _).mono ?_; rintro e w' ⟨rfl, rfl⟩) | (go_at_call 38; refine (HR _).mono ?_; rintro e w' ⟨rfl, rfl⟩))
    go_ret
    exact ⟨ret_b e.out.symm, b0⟩
  have HQ2 : Hid (R = ((ps.all fun p => mayB (nums p)) && (if ab then !st && (!qi && bodilessP lo sk code.length maps.length traps.length) else if qi && !(st && (decide (ps.length = 0) && qv)) then false else roomP ps.length st lo sk && (qB && qM)))) := by show _ = _; rw [HQQ.out]; simp [h6]
  clear HQQ
  go_enter Tryz.func22, Tryz.ntmps22
  go_wp2_with (first | (go_at_call 18; refine (HN _).mono ?_; rintro e w' ⟨rfl, rfl⟩) | (go_at_call 38; refine (HR _).mono ?_; rintro e w' ⟨rfl, rfl⟩))
  go_loop [3] (fun i => ∃ k : Nat, k ≤ ps.length ∧ i = .int .i64 k ∧ (ps.drop k).all (fun p => mayB (nums p)) = ps.all fun p => mayB (nums p)) (fun i => ps.length - (intOf i).toNat)
  case atStart => exact ⟨0, by omega, rfl, rfl⟩
  case round =>
    obtain ⟨k, hk, rfl, hall⟩ := hrel
    have HA : Hid _ := hall
    clear hall
    by_cases hlk : k < ps.length
    case pos =>
      obtain ⟨aa, cc, ev, _, _, _, hx9⟩ := HSP.out
      simp only [Value.slice.injEq, true_and] at ev
      obtain ⟨rfl, rfl⟩ := ev
      obtain ⟨b9, off9, rfl, _, hx9⟩ := hx9 (by show 0 < ps.length; omega)
      obtain ⟨c0, c1⟩ := hx9 k hlk
      have HS := all_step (fun p => mayB (nums p)) ps k hlk
      rw [HA.out] at HS
      have HS2 : Hid _ := HS
      simp only [Nat.mul_one] at c0
      have HM := fun W => may_any ps[k] W c1
      clear HS hx9 HA M HB HMP HSP
      generalize ps[k] = X at *
      generalize mayB (nums X) = q at *
      cases q
      case false =>
        have HF : Hid (R = false) := by show _ = _; rw [HQ2.out, HS2.out]; rfl
        clear HS2 HQ2
        go_wp2_with (go_at_call 19; refine (HM _).mono ?_; rintro e w' ⟨rfl, rfl⟩)
        go_ret
        exact ⟨ret_b HF.out.symm, b0⟩
      have HF : Hid ((ps.drop (k + 1)).all (fun p => mayB (nums p)) = ps.all fun p => mayB (nums p)) := by show _ = _; rw [HS2.out]; simp
      clear HS2 HQ2
      go_wp2_with (go_at_call 19; refine (HM _).mono ?_; rintro e w' ⟨rfl, rfl⟩)
      go_round
      case rel => exact ⟨k + 1, by omega, by go_num, HF.out⟩
      case measure => simp [intOf]; omega
    have HF : Hid (ps.all (fun p => mayB (nums p)) = true) := by show _ = _; rw [← HA.out, all_end _ _ _ (by omega)]
    have HQ3 : Hid (R = (if ab then !st && (!qi && bodilessP lo sk code.length maps.length traps.length) else if qi && !(st && (decide (ps.length = 0) && qv)) then false else roomP ps.length st lo sk && (qB && qM))) := by show _ = _; rw [HQ2.out, HF.out, Bool.true_and]
    clear HQ2 HF HA HSP
    cases ab
    case true =>
      have HQ4 : Hid (R = (!st && (!qi && (decide (lo = 0) && (decide (sk = 0) && (decide (code.length = 0) && (decide (maps.length = 0) && decide (traps.length = 0)))))))) := HQ3.out
      clear HQ3 M HB HMP
      have e1 : (lo == 0) = decide (lo = 0) := by rw [Bool.eq_iff_iff]; simp
      have e2 : (sk == 0) = decide (sk = 0) := by rw [Bool.eq_iff_iff]; simp
      have e3 : ((code.length : Int) == 0) = decide (code.length = 0) := by rw [Bool.eq_iff_iff]; simp
      have e4 : ((maps.length : Int) == 0) = decide (maps.length = 0) := by rw [Bool.eq_iff_iff]; simp
      have e5 : ((traps.length : Int) == 0) = decide (traps.length = 0) := by rw [Bool.eq_iff_iff]; simp
      generalize decide (lo = 0) = q1 at *
      generalize decide (sk = 0) = q2 at *
      generalize decide (code.length = 0) = q3 at *
      generalize decide (maps.length = 0) = q4 at *
      generalize decide (traps.length = 0) = q5 at *
      generalize code.length = n7 at *
      generalize maps.length = n8 at *
      generalize traps.length = n9 at *
      cases st
      case true =>
        have e : Hid (R = false) := by show _ = _; rw [HQ4.out]; rfl
        clear HQ4
        go_wp2_with fail
        go_ret
        exact ⟨ret_b e.out.symm, b0⟩
      cases qi
      case true =>
        have e : Hid (R = false) := by show _ = _; rw [HQ4.out]; rfl
        clear HQ4
        go_wp2_with fail
        go_ret
        exact ⟨ret_b e.out.symm, b0⟩
      cases q1
      case false =>
        have e : Hid (R = false) := by show _ = _; rw [HQ4.out]; rfl
        clear HQ4
        go_wp2_with fail
        go_ret
        exact ⟨ret_b e.out.symm, b0⟩
      cases q2
      case false =>
        have e : Hid (R = false) := by show _ = _; rw [HQ4.out]; rfl
        clear HQ4
        go_wp2_with fail
        go_ret
        exact ⟨ret_b e.out.symm, b0⟩
      cases q3
      case false =>
        have e : Hid (R = false) := by show _ = _; rw [HQ4.out]; rfl
        clear HQ4
        go_wp2_with fail
        go_ret
        exact ⟨ret_b e.out.symm, b0⟩
      cases q4
      case false =>
        have e : Hid (R = false) := by show _ = _; rw [HQ4.out]; rfl
        clear HQ4
        go_wp2_with fail
        go_ret
        exact ⟨ret_b e.out.symm, b0⟩
      have e : Hid (R = q5) := by show _ = _; rw [HQ4.out]; rfl
      clear HQ4
      go_wp2_with fail
      go_ret
      exact ⟨ret_b e.out.symm, b0⟩
    have HM : Hid _ := M
    have hadd : IntKind.i64.wrap ((ps.length : Int) + 1) = (ps.length : Int) + 1 := IntWalk.i64_in _ (by omega)
    have HQ4 : Hid (R = if qi && !(st && (decide (ps.length = 0) && qv)) then false else roomP ps.length st lo sk && (qB && qM)) := HQ3.out
    clear HQ3 M
    cases qi
    case false =>
      cases st
      case false =>
        have HQ5 : Hid (R = (!(decide (lo < ((ps.length : Int) + 1)) || (decide (16 < lo) || (decide (sk < 0) || decide (16 < sk)))) && (qB && qM))) := by show _ = _; rw [HQ4.out, room_eq ps.length false lo sk ((ps.length : Int) + 1) rfl]; first | rfl | simp
        clear HQ4
        have E1 : Hid (∃ q, decide (lo < ((ps.length : Int) + 1)) = q) := ⟨_, rfl⟩
        obtain ⟨r1, hr1⟩ := E1.out
        have E2 : Hid (∃ q, decide (16 < lo) = q) := ⟨_, rfl⟩
        obtain ⟨r2, hr2⟩ := E2.out
        have E3 : Hid (∃ q, decide (sk < 0) = q) := ⟨_, rfl⟩
        obtain ⟨r3, hr3⟩ := E3.out
        have E4 : Hid (∃ q, decide (16 < sk) = q) := ⟨_, rfl⟩
        obtain ⟨r4, hr4⟩ := E4.out
        rw [hr1, hr2, hr3, hr4] at HQ5
        clear E1 E2 E3 E4
        cases r1
        case true =>
          have e : Hid (R = false) := by show _ = _; rw [HQ5.out]; rfl
          clear HQ5 HB HMP HM
          go_wp2_with fail
          go_ret
          exact ⟨ret_b e.out.symm, b0⟩
        cases r2
        case true =>
          have e : Hid (R = false) := by show _ = _; rw [HQ5.out]; rfl
          clear HQ5 HB HMP HM
          go_wp2_with fail
          go_ret
          exact ⟨ret_b e.out.symm, b0⟩
        cases r3
        case true =>
          have e : Hid (R = false) := by show _ = _; rw [HQ5.out]; rfl
          clear HQ5 HB HMP HM
          go_wp2_with fail
          go_ret
          exact ⟨ret_b e.out.symm, b0⟩
        cases r4
        case true =>
          have e : Hid (R = false) := by show _ = _; rw [HQ5.out]; rfl
          clear HQ5 HB HMP HM
          go_wp2_with fail
          go_ret
          exact ⟨ret_b e.out.symm, b0⟩
        cases qB
        case false =>
          have e : Hid (R = false) := by show _ = _; rw [HQ5.out]; rfl
          clear HQ5 HMP HM
          go_wp2_with fail
          refine HB.mono ?_
          rintro e w2 ⟨rfl, b2⟩
          have k2 := b0.trans (b2.mono b0.size)
          go_wp2_with fail
          go_ret
          exact ⟨ret_b e.out.symm, k2⟩
        have e : Hid (R = qM) := by show _ = _; rw [HQ5.out]; rfl
        clear HQ5
        go_wp2_with fail
        refine HB.mono ?_
        rintro e w2 ⟨rfl, b2⟩
        have k2 := b0.trans (b2.mono b0.size)
        obtain ⟨c0, c1, c2, c3, c4, c5, c6, c7, c8, c9⟩ := MethCells.later HM.out b2
        go_wp2_with fail
        refine (HMP.out _ k2).mono ?_
        rintro e w3 ⟨rfl, b3⟩
        have k3 := k2.trans (b3.mono k2.size)
        go_wp2_with fail
        go_ret
        exact ⟨ret_b e.out.symm, k3⟩
      have HQ5 : Hid (R = (!(decide (lo < (ps.length : Int)) || (decide (16 < lo) || (decide (sk < 0) || decide (16 < sk)))) && (qB && qM))) := by show _ = _; rw [HQ4.out, room_eq ps.length true lo sk (ps.length : Int) rfl]; first | rfl | simp
      clear HQ4
      have E1 : Hid (∃ q, decide (lo < (ps.length : Int)) = q) := ⟨_, rfl⟩
      obtain ⟨r1, hr1⟩ := E1.out
      have E2 : Hid (∃ q, decide (16 < lo) = q) := ⟨_, rfl⟩
      obtain ⟨r2, hr2⟩ := E2.out
      have E3 : Hid (∃ q, decide (sk < 0) = q) := ⟨_, rfl⟩
      obtain ⟨r3, hr3⟩ := E3.out
      have E4 : Hid (∃ q, decide (16 < sk) = q) := ⟨_, rfl⟩
      obtain ⟨r4, hr4⟩ := E4.out
      rw [hr1, hr2, hr3, hr4] at HQ5
      clear E1 E2 E3 E4
      cases r1
      case true =>
        have e : Hid (R = false) := by show _ = _; rw [HQ5.out]; rfl
        clear HQ5 HB HMP HM
        go_wp2_with fail
        go_ret
        exact ⟨ret_b e.out.symm, b0⟩
      cases r2
      case true =>
        have e : Hid (R = false) := by show _ = _; rw [HQ5.out]; rfl
        clear HQ5 HB HMP HM
        go_wp2_with fail
        go_ret
        exact ⟨ret_b e.out.symm, b0⟩
      cases r3
      case true =>
        have e : Hid (R = false) := by show _ = _; rw [HQ5.out]; rfl
        clear HQ5 HB HMP HM
        go_wp2_with fail
        go_ret
        exact ⟨ret_b e.out.symm, b0⟩
      cases r4
      case true =>
        have e : Hid (R = false) := by show _ = _; rw [HQ5.out]; rfl
        clear HQ5 HB HMP HM
        go_wp2_with fail
        go_ret
        exact ⟨ret_b e.out.symm, b0⟩
      cases qB
      case false =>
        have e : Hid (R = false) := by show _ = _; rw [HQ5.out]; rfl
        clear HQ5 HMP HM
        go_wp2_with fail
        refine HB.mono ?_
        rintro e w2 ⟨rfl, b2⟩
        have k2 := b0.trans (b2.mono b0.size)
        go_wp2_with fail
        go_ret
        exact ⟨ret_b e.out.symm, k2⟩
      have e : Hid (R = qM) := by show _ = _; rw [HQ5.out]; rfl
      clear HQ5
      go_wp2_with fail
      refine HB.mono ?_
      rintro e w2 ⟨rfl, b2⟩
      have k2 := b0.trans (b2.mono b0.size)
      obtain ⟨c0, c1, c2, c3, c4, c5, c6, c7, c8, c9⟩ := MethCells.later HM.out b2
      go_wp2_with fail
      refine (HMP.out _ k2).mono ?_
      rintro e w3 ⟨rfl, b3⟩
      have k3 := k2.trans (b3.mono k2.size)
      go_wp2_with fail
      go_ret
      exact ⟨ret_b e.out.symm, k3⟩
    cases st
    case false =>
      have e : Hid (R = false) := by show _ = _; rw [HQ4.out]; rfl
      clear HQ4 HB HMP HM
      go_wp2_with fail
      go_ret
      exact ⟨ret_b e.out.symm, b0⟩
    have D0 : Hid (∃ q, decide (0 < ps.length) = q) := ⟨_, rfl⟩
    obtain ⟨d0, hd0⟩ := D0.out
    have hd1 : decide (0 < (ps.length : Int)) = d0 := by rw [← hd0, Bool.eq_iff_iff]; simp
    have hd2 : decide (ps.length = 0) = !d0 := by rw [← hd0, Bool.eq_iff_iff]; simp
    rw [hd2] at HQ4
    clear D0 hd2
    cases d0
    case true =>
      have e : Hid (R = false) := by show _ = _; rw [HQ4.out]; simp
      clear HQ4 HB HMP HM
      go_wp2_with fail
      go_ret
      exact ⟨ret_b e.out.symm, b0⟩
    cases qv
    case false =>
      have e : Hid (R = false) := by show _ = _; rw [HQ4.out]; rfl
      clear HQ4 HB HMP HM
      go_wp2_with fail
      go_ret
      exact ⟨ret_b e.out.symm, b0⟩
    have HQ5 : Hid (R = (!(decide (lo < (ps.length : Int)) || (decide (16 < lo) || (decide (sk < 0) || decide (16 < sk)))) && (qB && qM))) := by show _ = _; rw [HQ4.out, room_eq ps.length true lo sk (ps.length : Int) rfl]; first | rfl | simp
    clear HQ4
    have E1 : Hid (∃ q, decide (lo < (ps.length : Int)) = q) := ⟨_, rfl⟩
    obtain ⟨r1, hr1⟩ := E1.out
    have E2 : Hid (∃ q, decide (16 < lo) = q) := ⟨_, rfl⟩
    obtain ⟨r2, hr2⟩ := E2.out
    have E3 : Hid (∃ q, decide (sk < 0) = q) := ⟨_, rfl⟩
    obtain ⟨r3, hr3⟩ := E3.out
    have E4 : Hid (∃ q, decide (16 < sk) = q) := ⟨_, rfl⟩
    obtain ⟨r4, hr4⟩ := E4.out
    rw [hr1, hr2, hr3, hr4] at HQ5
    clear E1 E2 E3 E4
    cases r1
    case true =>
      have e : Hid (R = false) := by show _ = _; rw [HQ5.out]; rfl
      clear HQ5 HB HMP HM
      go_wp2_with fail
      go_ret
      exact ⟨ret_b e.out.symm, b0⟩
    cases r2
    case true =>
      have e : Hid (R = false) := by show _ = _; rw [HQ5.out]; rfl
      clear HQ5 HB HMP HM
      go_wp2_with fail
      go_ret
      exact ⟨ret_b e.out.symm, b0⟩
    cases r3
    case true =>
      have e : Hid (R = false) := by show _ = _; rw [HQ5.out]; rfl
      clear HQ5 HB HMP HM
      go_wp2_with fail
      go_ret
      exact ⟨ret_b e.out.symm, b0⟩
    cases r4
    case true =>
      have e : Hid (R = false) := by show _ = _; rw [HQ5.out]; rfl
      clear HQ5 HB HMP HM
      go_wp2_with fail
      go_ret
      exact ⟨ret_b e.out.symm, b0⟩
    cases qB
    case false =>
      have e : Hid (R = false) := by show _ = _; rw [HQ5.out]; rfl
      clear HQ5 HMP HM
      go_wp2_with fail
      refine HB.mono ?_
      rintro e w2 ⟨rfl, b2⟩
      have k2 := b0.trans (b2.mono b0.size)
      go_wp2_with fail
      go_ret
      exact ⟨ret_b e.out.symm, k2⟩
    have e : Hid (R = qM) := by show _ = _; rw [HQ5.out]; rfl
    clear HQ5
    go_wp2_with fail
    refine HB.mono ?_
    rintro e w2 ⟨rfl, b2⟩
    have k2 := b0.trans (b2.mono b0.size)
    obtain ⟨c0, c1, c2, c3, c4, c5, c6, c7, c8, c9⟩ := MethCells.later HM.out b2
    go_wp2_with fail
    refine (HMP.out _ k2).mono ?_
    rintro e w3 ⟨rfl, b3⟩
    have k3 := k2.trans (b3.mono k2.size)
    go_wp2_with fail
    go_ret
    exact ⟨ret_b e.out.symm, k3⟩
end Cls
end Go.Proofs.YtbfcjflgomedgaaGreat
