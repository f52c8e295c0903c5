/- The contracts of class's tests of fields, methods and interfaces. -/
import Derived.Test.YtbfcjflgomedgaaGreatClsFind
import Derived.Test.YtbfcjflgomedgaaGreatClsMeth
namespace Go.Proofs.YtbfcjflgomedgaaGreat
namespace Cls
open Num Kind Op4
open Go.RowKit
set_option linter.unusedVariables false
set_option maxRecDepth 100000

theorem field1_any (nm ty : ByteArray) (st : Bool) (w : World) (h0 : nm.size ≤ maxLen) (h1 : ty.size ≤ maxLen) :
    Calls Tryz.prog 33 #[.agg #[.string nm, .string ty, .bool st]] w fun e w' => e = .returned (.bool (fieldB ⟨nm, ty, st⟩)) ∧ Below w.heap.size w w' := by
  have b0 := (Below.refl w.heap.size w).alloc (Nat.le_refl _) (.cells #[.string nm, .string ty, .bool st] 45)
  have hini := beq_nums nm [36, 105, 110, 105, 116] initL rfl
  have HN := fun W => kname_any nm W h0
  have HM := fun W => kmay_any ty W h1
  unfold fieldB
  simp only
  generalize (nums nm == initL) = qi at *
  generalize nameB (nums nm) = q1 at *
  generalize mayB (nums ty) = q2 at *
  cases qi <;> cases q1
  all_goals
    go_enter Tryz.func33, Tryz.ntmps33
    go_wp2_with (first | (go_at_call 56; refine (HN _).mono ?_; rintro e w' ⟨rfl, rfl⟩) | (go_at_call 57; refine (HM _).mono ?_; rintro e w' ⟨rfl, rfl⟩))
    go_ret
    exact ⟨ret_b (by simp), b0⟩
set_option maxHeartbeats 2000000 in
theorem fields_any (v : Value) (F : List FieldL) (w : World) (h : Sl fieldE 3 w v F) :
    Calls Tryz.prog 14 #[v] w fun e w' => e = .returned (.bool (fieldsP F)) ∧ Below w.heap.size w w' := by
  have HT : Hid _ := h
  have HFO : Hid (∀ n W, Below w.heap.size w W → _) := fun n W hb => fieldOf_any v F n W (h.later fieldE_stable hb)
  obtain ⟨a, cp, rfl, hl, hm, hnil, hx⟩ := h
  unfold maxLen at hm
  have HQ : Hid (fieldsP F = (decide (F.length ≤ 8) && allI (fun k f => fieldB f && (fplace F f.name == (k : Int))) 0 F)) := rfl
  generalize fieldsP F = R at *
  clear hx hnil
  by_cases h6 : F.length ≤ 8
  · have HQ2 : Hid (R = allI (fun k f => fieldB f && (fplace F f.name == (k : Int))) 0 F) := by show _ = _; rw [HQ.out]; simp [h6]
    clear HQ
    go_enter Tryz.func14, Tryz.ntmps14
    go_wp2_with fail
    go_loopw [3, 4, 10] (fun _ _ i wr => ∃ k : Nat, k ≤ F.length ∧ i = .int .i64 k ∧ allI (fun k f => fieldB f && (fplace F f.name == (k : Int))) k (F.drop k) = R ∧ Below w.heap.size w wr) (fun _ _ i _ => F.length - (intOf i).toNat)
    case atStart => exact ⟨0, by omega, rfl, HQ2.out.symm, Below.refl _ _⟩
    case round =>
      obtain ⟨k, hk, rfl, hall, hbel⟩ := hrel
      have HA : Hid _ := hall
      clear hall HQ2
      by_cases hlk : k < F.length
      · obtain ⟨aa, cc, ev, _, _, _, hx9⟩ := Sl.later fieldE_stable HT.out hbel
        simp only [Value.slice.injEq, true_and] at ev
        obtain ⟨rfl, rfl⟩ := ev
        obtain ⟨b9, off9, rfl, _, hx9⟩ := hx9 (by omega)
        obtain ⟨x0, x1, x2, s0, s1⟩ := hx9 k hlk
        have HS := allI_step (fun k f => fieldB f && (fplace F f.name == (k : Int))) F k hlk
        rw [HA.out] at HS
        have HS2 : Hid _ := HS
        clear HS HA hx9
        generalize F[k] = X at *
        obtain ⟨nm, ty, st⟩ := X
        simp only at x0 x1 x2 s0 s1 HS2
        have e1 := (Below.refl wr.heap.size wr).alloc (Nat.le_refl _) (.cells #[.string nm, .string ty, .bool st] 45)
        have y0 := cell_new wr #[.string nm, .string ty, .bool st] 45 0
        simp only [List.getElem?_toArray, List.getElem?_cons_zero] at y0
        have HC := fun W => field1_any nm ty st W s0 s1
        have k1 := hbel.trans (e1.mono hbel.size)
        generalize fieldB ⟨nm, ty, st⟩ = q at *
        cases q
        · have HF : Hid (R = false) := by show _ = _; rw [HS2.out]; rfl
          clear HS2
          go_wp2_with fail
          refine (HC _).mono ?_
          rintro e w2 ⟨rfl, b2⟩
          have k2 := k1.trans (b2.mono k1.size)
          go_wp2_with fail
          go_ret
          exact ⟨ret_b HF.out.symm, k2⟩
        · have HP : Hid (∃ p, fplace F nm = p) := ⟨_, rfl⟩
          obtain ⟨p, hp⟩ := HP.out
          rw [hp] at HS2
          have HFN := HFO.out nm
          rw [hp] at HFN
          have HFN2 : Hid _ := HFN
          clear HFN HP hp
          cases hpk : (p == (k : Int))
          · have HF : Hid (R = false) := by show _ = _; rw [HS2.out, hpk]; rfl
            have hpk' : (p != (k : Int)) = true := by simp only [bne, hpk]; rfl
            clear HS2 hpk
            go_wp2_with fail
            refine (HC _).mono ?_
            rintro e w2 ⟨rfl, b2⟩
            have k2 := k1.trans (b2.mono k1.size)
            have y1 := cellOn y0 b2
            go_wp2_with fail
            refine (HFN2.out _ k2).mono ?_
            rintro e w3 ⟨rfl, b3⟩
            have k3 := k2.trans (b3.mono k2.size)
            go_wp2_with fail
            go_ret
            exact ⟨ret_b HF.out.symm, k3⟩
          · have HF : Hid (allI (fun k f => fieldB f && (fplace F f.name == (k : Int))) (k + 1) (F.drop (k + 1)) = R) := by show _ = _; rw [HS2.out, hpk]; rfl
            have hpk' : (p != (k : Int)) = false := by simp only [bne, hpk]; rfl
            clear HS2 hpk
            go_wp2_with fail
            refine (HC _).mono ?_
            rintro e w2 ⟨rfl, b2⟩
            have k2 := k1.trans (b2.mono k1.size)
            have y1 := cellOn y0 b2
            go_wp2_with fail
            refine (HFN2.out _ k2).mono ?_
            rintro e w3 ⟨rfl, b3⟩
            have k3 := k2.trans (b3.mono k2.size)
            go_wp2_with fail
            go_roundw
            case rel => exact ⟨k + 1, by omega, by go_num, HF.out, k3⟩
            case measure => simp [intOf]; omega
      · have HF : Hid (R = true) := by show _ = _; rw [← HA.out, allI_end _ _ _ (by omega)]
        clear HA
        go_wp2_with fail
        go_ret
        exact ⟨ret_b HF.out.symm, hbel⟩
  · have HF : Hid (R = false) := by show _ = _; rw [HQ.out]; simp [h6]
    clear HQ
    go_enter Tryz.func14, Tryz.ntmps14
    go_wp2_with fail
    go_ret
    exact ⟨ret_b HF.out.symm, Below.refl _ _⟩
set_option maxHeartbeats 2000000 in
theorem impl_any (v : Value) (F : List ByteArray) (w : World) (h : Sl strE 1 w v F) :
    Calls Tryz.prog 13 #[v] w fun e w' => e = .returned (.bool (implP F)) ∧ w = w' := by
  have HT : Hid _ := h
  have HFO : Hid (∀ n, _) := fun n => sindex_any v F n w h
  obtain ⟨a, cp, rfl, hl, hm, hnil, hx⟩ := h
  unfold maxLen at hm
  have HQ : Hid (implP F = (decide (F.length ≤ 4) && allI (fun k f => classB (nums f) && (splace F f == (k : Int))) 0 F)) := rfl
  generalize implP F = R at *
  clear hx hnil
  by_cases h6 : F.length ≤ 4
  · have HQ2 : Hid (R = allI (fun k f => classB (nums f) && (splace F f == (k : Int))) 0 F) := by show _ = _; rw [HQ.out]; simp [h6]
    clear HQ
    go_enter Tryz.func13, Tryz.ntmps13
    go_wp2_with fail
    go_loop [3, 4, 10] (fun _ _ i => ∃ k : Nat, k ≤ F.length ∧ i = .int .i64 k ∧ allI (fun k f => classB (nums f) && (splace F f == (k : Int))) k (F.drop k) = R) (fun _ _ i => F.length - (intOf i).toNat)
    case atStart => exact ⟨0, by omega, rfl, HQ2.out.symm⟩
    case round =>
      obtain ⟨k, hk, rfl, hall⟩ := hrel
      have HA : Hid _ := hall
      clear hall HQ2
      by_cases hlk : k < F.length
      · obtain ⟨aa, cc, ev, _, _, _, hx9⟩ := HT.out
        simp only [Value.slice.injEq, true_and] at ev
        obtain ⟨rfl, rfl⟩ := ev
        obtain ⟨b9, off9, rfl, _, hx9⟩ := hx9 (by omega)
        obtain ⟨x0, s0⟩ := hx9 k hlk
        simp only [Nat.mul_one] at x0
        have HS := allI_step (fun k f => classB (nums f) && (splace F f == (k : Int))) F k hlk
        rw [HA.out] at HS
        have HS2 : Hid _ := HS
        clear HS HA hx9
        generalize F[k] = X at *
        have HC := fun W => kclass_any X W s0
        have HFN2 : Hid _ := HFO.out X
        generalize splace F X = p at *
        generalize classB (nums X) = q at *
        cases q
        · have HF : Hid (R = false) := by show _ = _; rw [HS2.out]; rfl
          clear HS2
          go_wp2_with (go_at_call 12; refine (HC _).mono ?_; rintro e w' ⟨rfl, rfl⟩)
          go_ret
          exact ⟨ret_b HF.out.symm, rfl⟩
        · cases hpk : (p == (k : Int))
          · have HF : Hid (R = false) := by show _ = _; rw [HS2.out, hpk]; rfl
            have hpk' : (p != (k : Int)) = true := by simp only [bne, hpk]; rfl
            clear HS2 hpk
            go_wp2_with (go_at_call 12; refine (HC _).mono ?_; rintro e w' ⟨rfl, rfl⟩)
            refine Calls.mono HFN2.out ?_
            rintro e w3 ⟨rfl, rfl⟩
            go_wp2_with fail
            go_ret
            exact ⟨ret_b HF.out.symm, rfl⟩
          · have HF : Hid (allI (fun k f => classB (nums f) && (splace F f == (k : Int))) (k + 1) (F.drop (k + 1)) = R) := by show _ = _; rw [HS2.out, hpk]; rfl
            have hpk' : (p != (k : Int)) = false := by simp only [bne, hpk]; rfl
            clear HS2 hpk
            go_wp2_with (go_at_call 12; refine (HC _).mono ?_; rintro e w' ⟨rfl, rfl⟩)
            refine Calls.mono HFN2.out ?_
            rintro e w3 ⟨rfl, rfl⟩
            go_wp2_with fail
            go_round
            case rel => exact ⟨k + 1, by omega, by go_num, HF.out⟩
            case measure => simp [intOf]; omega
      · have HF : Hid (R = true) := by show _ = _; rw [← HA.out, allI_end _ _ _ (by omega)]
        clear HA
        go_wp2_with fail
        go_ret
        exact ⟨ret_b HF.out.symm, rfl⟩
  · have HF : Hid (R = false) := by show _ = _; rw [HQ.out]; simp [h6]
    clear HQ
    go_enter Tryz.func13, Tryz.ntmps13
    go_wp2_with fail
    go_ret
    exact ⟨ret_b HF.out.symm, rfl⟩
end Cls
end Go.Proofs.YtbfcjflgomedgaaGreat
