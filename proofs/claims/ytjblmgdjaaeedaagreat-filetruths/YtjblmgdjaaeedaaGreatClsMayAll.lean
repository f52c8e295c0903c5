/- The contract of class.May. -/
import Derived.Test.YtjblmgdjaaeedaaGreatClsA
namespace Go.Proofs.YtjblmgdjaaeedaaGreat
namespace Cls
open Num Kind Op4
open Go.RowKit
set_option linter.unusedVariables false
set_option maxRecDepth 100000

set_option maxHeartbeats 2000000 in
theorem meths_any (v : Value) (F : List MethL) (w : World) (h : Sl methE 10 w v F) :
    Calls Tryz.prog 47 #[v] w fun e w' => e = .returned (.bool (methsP F)) ∧ Below w.heap.size w w' := by
  have HT : Hid _ := h
  have HFO : Hid (∀ n W, Below w.heap.size w W → _) := fun n W hb => methodOf_any v F n W (h.later methE_stable hb)
  obtain ⟨a, cp, rfl, hl, hm, hnil, hx⟩ := h
  unfold maxLen at hm
  have HQ : Hid (methsP F = (decide (F.length ≤ 8) && allI (fun k f => methP f && (mplace F f.name == (k : Int))) 0 F)) := rfl
  generalize methsP F = R at *
  clear hx hnil
  by_cases h6 : F.length ≤ 8
  · have HQ2 : Hid (R = allI (fun k f => methP f && (mplace F f.name == (k : Int))) 0 F) := by show _ = _; rw [HQ.out]; simp [h6]
    clear HQ
    go_enter Tryz.func47, Tryz.ntmps47
    go_wp2_with fail
    go_loopw [3, 4, 10] (fun _ _ i wr => ∃ k : Nat, k ≤ F.length ∧ i = .int .i64 k ∧ allI (fun k f => methP f && (mplace F f.name == (k : Int))) k (F.drop k) = R ∧ Below w.heap.size w wr) (fun _ _ i _ => F.length - (intOf i).toNat)
    case atStart => exact ⟨0, by omega, rfl, HQ2.out.symm, Below.refl _ _⟩
    case round =>
      obtain ⟨k, hk, rfl, hall, hbel⟩ := hrel
      have HA : Hid _ := hall
      clear hall HQ2
      by_cases hlk : k < F.length
      · obtain ⟨aa, cc, ev, _, _, _, hx9⟩ := Sl.later methE_stable HT.out hbel
        simp only [Value.slice.injEq, true_and] at ev
        obtain ⟨rfl, rfl⟩ := ev
        obtain ⟨b9, off9, rfl, _, hx9⟩ := hx9 (by omega)
        obtain ⟨v1, v7, v8, v9, HV, hce⟩ := hx9 k hlk
        have HS := allI_step (fun k f => methP f && (mplace F f.name == (k : Int))) F k hlk
        rw [HA.out] at HS
        have HS2 : Hid _ := HS
        clear HS HA hx9
        generalize F[k] = X at *
        obtain ⟨nm, ps, rt, st, ab, lo, sk, code, maps, traps⟩ := X
        have x0 := hce 0 (by decide)
        have x1 := hce 1 (by decide)
        have x2 := hce 2 (by decide)
        have x3 := hce 3 (by decide)
        have x4 := hce 4 (by decide)
        have x5 := hce 5 (by decide)
        have x6 := hce 6 (by decide)
        have x7 := hce 7 (by decide)
        have x8 := hce 8 (by decide)
        have x9 := hce 9 (by decide)
        simp only [methCells, List.getElem?_toArray, List.getElem?_cons_zero, List.getElem?_cons_succ, Nat.add_zero] at x0 x1 x2 x3 x4 x5 x6 x7 x8 x9
        simp only at HS2
        clear hce
        have HVV : Hid _ := HV
        obtain ⟨a1, cp1, rfl, _, _, _, hz1⟩ := HV.params
        obtain ⟨a7, cp7, rfl, _, _, _, hz7⟩ := HV.code
        obtain ⟨a8, cp8, rfl, _, _, _, hz8⟩ := HV.maps
        obtain ⟨a9, cp9, rfl, _, _, _, hz9⟩ := HV.traps
        simp only at x1 x7 x8 x9 HVV
        clear HV hz1 hz7 hz8 hz9
        have e1 := (Below.refl wr.heap.size wr).alloc (Nat.le_refl _) (.cells #[.string nm, .slice a1 ps.length cp1, .string rt, .bool st, .bool ab, .int .i64 lo, .int .i64 sk, .slice a7 code.length cp7, .slice a8 maps.length cp8, .slice a9 traps.length cp9] 46)
        have y0 := cell_new wr #[.string nm, .slice a1 ps.length cp1, .string rt, .bool st, .bool ab, .int .i64 lo, .int .i64 sk, .slice a7 code.length cp7, .slice a8 maps.length cp8, .slice a9 traps.length cp9] 46 0
        simp only [List.getElem?_toArray, List.getElem?_cons_zero] at y0
        have HC := meth_any _ _ _ _ _ _ (MethV.later HVV.out e1)
        simp only [methVal, methCells] at HC
        have k1 := hbel.trans (e1.mono hbel.size)
        clear HVV
        generalize methP ⟨nm, ps, rt, st, ab, lo, sk, code, maps, traps⟩ = q at *
        cases q
        · have HF : Hid (R = false) := by show _ = _; rw [HS2.out]; rfl
          clear HS2
          go_wp2_with fail
          refine HC.mono ?_
          rintro e w2 ⟨rfl, b2⟩
          have k2 := k1.trans (b2.mono k1.size)
          go_wp2_with fail
          go_ret
          exact ⟨ret_b HF.out.symm, k2⟩
        · have HP : Hid (∃ p, mplace F nm = p) := ⟨_, rfl⟩
          obtain ⟨p, hp⟩ := HP.out
          rw [hp] at HS2
          have HFN := HFO.out nm
          rw [hp] at HFN
          have HFN2 : Hid _ := HFN
          clear HFN HP hp
          cases hpk : (p == (k : Int))
          · have HF : Hid (R = false) := by show _ = _; rw [HS2.out, hpk]; rfl
            have hpk' : (p != (k : Int)) = true := by simp only [bne, hpk]; rfl
            clear HS2 hpk
            go_wp2_with fail
            refine HC.mono ?_
            rintro e w2 ⟨rfl, b2⟩
            have k2 := k1.trans (b2.mono k1.size)
            have y1 := cellOn y0 b2
            go_wp2_with fail
            refine (HFN2.out _ k2).mono ?_
            rintro e w3 ⟨rfl, b3⟩
            have k3 := k2.trans (b3.mono k2.size)
            go_wp2_with fail
            go_ret
            exact ⟨ret_b HF.out.symm, k3⟩
          · have HF : Hid (allI (fun k f => methP f && (mplace F f.name == (k : Int))) (k + 1) (F.drop (k + 1)) = R) := by show _ = _; rw [HS2.out, hpk]; rfl
            have hpk' : (p != (k : Int)) = false := by simp only [bne, hpk]; rfl
            clear HS2 hpk
            go_wp2_with fail
            refine HC.mono ?_
            rintro e w2 ⟨rfl, b2⟩
            have k2 := k1.trans (b2.mono k1.size)
            have y1 := cellOn y0 b2
            go_wp2_with fail
            refine (HFN2.out _ k2).mono ?_
            rintro e w3 ⟨rfl, b3⟩
            have k3 := k2.trans (b3.mono k2.size)
            go_wp2_with fail
            go_roundw
            case rel => exact ⟨k + 1, by omega, by go_num, HF.out, k3⟩
            case measure => simp [intOf]; omega
      · have HF : Hid (R = true) := by show _ = _; rw [← HA.out, allI_end _ _ _ (by omega)]
        clear HA
        go_wp2_with fail
        go_ret
        exact ⟨ret_b HF.out.symm, hbel⟩
  · have HF : Hid (R = false) := by show _ = _; rw [HQ.out]; simp [h6]
    clear HQ
    go_enter Tryz.func47, Tryz.ntmps47
    go_wp2_with fail
    go_ret
    exact ⟨ret_b HF.out.symm, Below.refl _ _⟩
set_option maxHeartbeats 2000000 in
theorem keeps_any (v3 v4 v5 : Value) (c : ClsL) (w : World) (h : ClsV w v3 v4 v5 c) :
    Calls Tryz.prog 48 #[clsVal v3 v4 v5 c] w fun e w' => e = .returned (.bool (keepsP c)) ∧ Below w.heap.size w w' := by
  unfold clsVal
  have b0 := (Below.refl w.heap.size w).alloc (Nat.le_refl _) (.cells #[.string c.name, .string c.super, .bool c.iface, v3, v4, v5] 26)
  have y2 := cell_new w #[.string c.name, .string c.super, .bool c.iface, v3, v4, v5] 26 2
  have hob := beq_nums c.super [79, 98, 106, 101, 99, 116] objectL rfl
  have HT : Hid _ := h.methods
  have HQ : Hid (keepsP c = (!(c.iface && (!(nums c.super == objectL) || decide (0 < c.fields.length))) && c.methods.all fun m => m.abstract == c.iface)) := rfl
  obtain ⟨a4, cp4, hv4, _, hm4, _, hx4⟩ := h.fields
  obtain ⟨a, cp, hv5, hl, hm, hnil, hx⟩ := h.methods
  subst hv4
  subst hv5
  unfold maxLen at hm hm4
  clear hx4 hx hnil
  generalize keepsP c = R at *
  obtain ⟨nm, su, ifc, impl, Fs, F⟩ := c
  simp only [List.getElem?_toArray, List.getElem?_cons_zero, List.getElem?_cons_succ] at y2
  simp only at HQ HT b0 hm hm4 hob hl ⊢
  generalize (nums su == objectL) = qo at *
  clear h
  have HD : Hid (∃ q, decide (0 < Fs.length) = q) := ⟨_, rfl⟩
  obtain ⟨qf, hqf⟩ := HD.out
  rw [hqf] at HQ
  have hqf' : decide (0 < (Fs.length : Int)) = qf := by rw [← hqf, Bool.eq_iff_iff]; simp
  clear HD
  generalize Fs.length = nF at *
  cases hbad : (ifc && (!qo || qf))
  case true =>
    have HF : Hid (R = false) := by show _ = _; rw [HQ.out, hbad]; rfl
    clear HQ
    cases ifc
    case false => simp at hbad
    cases qo
    case false =>
      clear hbad
      go_enter Tryz.func48, Tryz.ntmps48
      go_wp2_with fail
      go_ret
      exact ⟨ret_b HF.out.symm, b0⟩
    cases qf
    case false => simp at hbad
    clear hbad
    go_enter Tryz.func48, Tryz.ntmps48
    go_wp2_with fail
    go_ret
    exact ⟨ret_b HF.out.symm, b0⟩
  have HQ2 : Hid (R = F.all fun m => m.abstract == ifc) := by show _ = _; rw [HQ.out, hbad]; rfl
  cases ifc
  case false =>
    clear HQ hbad
    go_enter Tryz.func48, Tryz.ntmps48
    go_wp2_with fail
    go_loopw [4, 21] (fun _ i wr => ∃ k : Nat, k ≤ F.length ∧ i = .int .i64 k ∧ ((F.drop k).all fun m => m.abstract == false) = R ∧ wr.cell? ⟨w.heap.size, 2, none⟩ = some (.bool false) ∧ Below w.heap.size w wr) (fun _ i _ => F.length - (intOf i).toNat)
    case atStart => exact ⟨0, by omega, rfl, HQ2.out.symm, y2, b0⟩
    case round =>
      clear y2 b0 HQ2
      obtain ⟨k, hk, rfl, hall, y2, hbel⟩ := hrel
      have HA : Hid _ := hall
      clear hall
      by_cases hlk : k < F.length
      · obtain ⟨aa, cc, ev, _, _, _, hx9⟩ := Sl.later methE_stable HT.out hbel
        simp only [Value.slice.injEq, true_and] at ev
        obtain ⟨rfl, rfl⟩ := ev
        obtain ⟨b9, off9, rfl, _, hx9⟩ := hx9 (by omega)
        obtain ⟨v1, v7, v8, v9, HV, hce⟩ := hx9 k hlk
        have HS := all_step (fun m : MethL => m.abstract == false) F k hlk
        rw [HA.out] at HS
        have HS2 : Hid _ := HS
        clear HS HA hx9
        generalize F[k] = X at *
        obtain ⟨nm9, ps, rt, st, ab, lo, sk, code, maps, traps⟩ := X
        have x0 := hce 0 (by decide)
        have x1 := hce 1 (by decide)
        have x2 := hce 2 (by decide)
        have x3 := hce 3 (by decide)
        have x4 := hce 4 (by decide)
        have x5 := hce 5 (by decide)
        have x6 := hce 6 (by decide)
        have x7 := hce 7 (by decide)
        have x8 := hce 8 (by decide)
        have x9 := hce 9 (by decide)
        simp only [methCells, List.getElem?_toArray, List.getElem?_cons_zero, List.getElem?_cons_succ, Nat.add_zero] at x0 x1 x2 x3 x4 x5 x6 x7 x8 x9
        simp only at HS2
        clear hce
        obtain ⟨a1, cp1, rfl, _, _, _, hz1⟩ := HV.params
        obtain ⟨a7, cp7, rfl, _, _, _, hz7⟩ := HV.code
        obtain ⟨a8, cp8, rfl, _, _, _, hz8⟩ := HV.maps
        obtain ⟨a9, cp9, rfl, _, _, _, hz9⟩ := HV.traps
        simp only at x1 x7 x8 x9
        clear HV hz1 hz7 hz8 hz9
        have e1 := (Below.refl wr.heap.size wr).alloc (Nat.le_refl _) (.cells #[.string nm9, .slice a1 ps.length cp1, .string rt, .bool st, .bool ab, .int .i64 lo, .int .i64 sk, .slice a7 code.length cp7, .slice a8 maps.length cp8, .slice a9 traps.length cp9] 46)
        have k1 := hbel.trans (e1.mono hbel.size)
        have y3 := cellOn y2 e1
        cases ab
        · have HF : Hid (((F.drop (k + 1)).all fun m => m.abstract == false) = R) := by show _ = _; rw [HS2.out]; rfl
          clear HS2
          go_wp2_with fail
          go_roundw
          case rel => exact ⟨k + 1, by omega, by go_num, HF.out, y3, k1⟩
          case measure => simp [intOf]; omega
        · have HF : Hid (R = false) := by show _ = _; rw [HS2.out]; rfl
          clear HS2
          go_wp2_with fail
          go_ret
          exact ⟨ret_b HF.out.symm, k1⟩
      · have HF : Hid (R = true) := by show _ = _; rw [← HA.out, all_end _ _ _ (by omega)]
        clear HA
        go_wp2_with fail
        go_ret
        exact ⟨ret_b HF.out.symm, hbel⟩
  cases qo
  case false => simp at hbad
  cases qf
  case true => simp at hbad
  clear HQ hbad
  go_enter Tryz.func48, Tryz.ntmps48
  go_wp2_with fail
  go_loopw [4, 21] (fun _ i wr => ∃ k : Nat, k ≤ F.length ∧ i = .int .i64 k ∧ ((F.drop k).all fun m => m.abstract == true) = R ∧ wr.cell? ⟨w.heap.size, 2, none⟩ = some (.bool true) ∧ Below w.heap.size w wr) (fun _ i _ => F.length - (intOf i).toNat)
  case atStart => exact ⟨0, by omega, rfl, HQ2.out.symm, y2, b0⟩
  case round =>
    clear y2 b0 HQ2
    obtain ⟨k, hk, rfl, hall, y2, hbel⟩ := hrel
    have HA : Hid _ := hall
    clear hall
    by_cases hlk : k < F.length
    · obtain ⟨aa, cc, ev, _, _, _, hx9⟩ := Sl.later methE_stable HT.out hbel
      simp only [Value.slice.injEq, true_and] at ev
      obtain ⟨rfl, rfl⟩ := ev
      obtain ⟨b9, off9, rfl, _, hx9⟩ := hx9 (by omega)
      obtain ⟨v1, v7, v8, v9, HV, hce⟩ := hx9 k hlk
      have HS := all_step (fun m : MethL => m.abstract == true) F k hlk
      rw [HA.out] at HS
      have HS2 : Hid _ := HS
      clear HS HA hx9
      generalize F[k] = X at *
      obtain ⟨nm9, ps, rt, st, ab, lo, sk, code, maps, traps⟩ := X
      have x0 := hce 0 (by decide)
      have x1 := hce 1 (by decide)
      have x2 := hce 2 (by decide)
      have x3 := hce 3 (by decide)
      have x4 := hce 4 (by decide)
      have x5 := hce 5 (by decide)
      have x6 := hce 6 (by decide)
      have x7 := hce 7 (by decide)
      have x8 := hce 8 (by decide)
      have x9 := hce 9 (by decide)
      simp only [methCells, List.getElem?_toArray, List.getElem?_cons_zero, List.getElem?_cons_succ, Nat.add_zero] at x0 x1 x2 x3 x4 x5 x6 x7 x8 x9
      simp only at HS2
      clear hce
      obtain ⟨a1, cp1, rfl, _, _, _, hz1⟩ := HV.params
      obtain ⟨a7, cp7, rfl, _, _, _, hz7⟩ := HV.code
      obtain ⟨a8, cp8, rfl, _, _, _, hz8⟩ := HV.maps
      obtain ⟨a9, cp9, rfl, _, _, _, hz9⟩ := HV.traps
      simp only at x1 x7 x8 x9
      clear HV hz1 hz7 hz8 hz9
      have e1 := (Below.refl wr.heap.size wr).alloc (Nat.le_refl _) (.cells #[.string nm9, .slice a1 ps.length cp1, .string rt, .bool st, .bool ab, .int .i64 lo, .int .i64 sk, .slice a7 code.length cp7, .slice a8 maps.length cp8, .slice a9 traps.length cp9] 46)
      have k1 := hbel.trans (e1.mono hbel.size)
      have y3 := cellOn y2 e1
      cases ab
      · have HF : Hid (R = false) := by show _ = _; rw [HS2.out]; rfl
        clear HS2
        go_wp2_with fail
        go_ret
        exact ⟨ret_b HF.out.symm, k1⟩
      · have HF : Hid (((F.drop (k + 1)).all fun m => m.abstract == true) = R) := by show _ = _; rw [HS2.out]; rfl
        clear HS2
        go_wp2_with fail
        go_roundw
        case rel => exact ⟨k + 1, by omega, by go_num, HF.out, y3, k1⟩
        case measure => simp [intOf]; omega
    · have HF : Hid (R = true) := by show _ = _; rw [← HA.out, all_end _ _ _ (by omega)]
      clear HA
      go_wp2_with fail
      go_ret
      exact ⟨ret_b HF.out.symm, hbel⟩
set_option maxHeartbeats 4000000 in
theorem cmay_any (v3 v4 v5 : Value) (c : ClsL) (w : World) (h : ClsV w v3 v4 v5 c) :
    Calls Tryz.prog 22 #[clsVal v3 v4 v5 c] w fun e w' => e = .returned (.bool (mayP c)) ∧ Below w.heap.size w w' := by
  unfold clsVal
  have b0 := (Below.refl w.heap.size w).alloc (Nat.le_refl _) (.cells #[.string c.name, .string c.super, .bool c.iface, v3, v4, v5] 26)
  have H1 := fun W => kclass_any c.name W h.s0
  have H2 := fun W => kclass_any c.super W h.s1
  have H3 := impl_any v3 c.impl _ (h.impl.later strE_stable b0)
  have H4 := fields_any v4 c.fields _ (h.fields.later fieldE_stable b0)
  have H5 : Hid (∀ W, Below w.heap.size w W → _) := fun W hb => meths_any v5 c.methods W (h.methods.later methE_stable hb)
  have H6 : Hid (∀ W, Below w.heap.size w W → _) := fun W hb => keeps_any v3 v4 v5 c W (h.later hb)
  simp only [clsVal] at H6
  have HQ : Hid (mayP c = (classB (nums c.name) && (classB (nums c.super) && (implP c.impl && (fieldsP c.fields && (methsP c.methods && keepsP c)))))) := rfl
  generalize mayP c = R at *
  generalize implP c.impl = q3 at *
  generalize fieldsP c.fields = q4 at *
  generalize methsP c.methods = q5 at *
  generalize keepsP c = q6 at *
  clear h
  obtain ⟨nm, su, ifc, impl, Fs, F⟩ := c
  simp only at b0 H1 H2 H3 H4 H6 HQ ⊢
  have z0 := cell_new w #[.string nm, .string su, .bool ifc, v3, v4, v5] 26 0
  have z1 := cell_new w #[.string nm, .string su, .bool ifc, v3, v4, v5] 26 1
  have z2 := cell_new w #[.string nm, .string su, .bool ifc, v3, v4, v5] 26 2
  have z3 := cell_new w #[.string nm, .string su, .bool ifc, v3, v4, v5] 26 3
  have z4 := cell_new w #[.string nm, .string su, .bool ifc, v3, v4, v5] 26 4
  have z5 := cell_new w #[.string nm, .string su, .bool ifc, v3, v4, v5] 26 5
  simp only [List.getElem?_toArray, List.getElem?_cons_zero, List.getElem?_cons_succ] at z0 z1 z2 z3 z4 z5
  generalize classB (nums nm) = q1 at *
  generalize classB (nums su) = q2 at *
  cases q1
  · have e : Hid (R = false) := by show _ = _; rw [HQ.out]; rfl
    clear HQ
    go_enter Tryz.func22, Tryz.ntmps22
    go_wp2_with (go_at_call_of 44 nm; refine (H1 _).mono ?_; rintro e w' ⟨rfl, rfl⟩)
    go_ret
    exact ⟨ret_b e.out.symm, b0⟩
  cases q2
  · have e : Hid (R = false) := by show _ = _; rw [HQ.out]; rfl
    clear HQ
    go_enter Tryz.func22, Tryz.ntmps22
    go_wp2_with (first | (go_at_call_of 44 nm; refine (H1 _).mono ?_; rintro e w' ⟨rfl, rfl⟩) | (go_at_call_of 44 su; refine (H2 _).mono ?_; rintro e w' ⟨rfl, rfl⟩))
    go_ret
    exact ⟨ret_b e.out.symm, b0⟩
  cases q3
  · have e : Hid (R = false) := by show _ = _; rw [HQ.out]; rfl
    clear HQ
    go_enter Tryz.func22, Tryz.ntmps22
    go_wp2_with (first | (go_at_call_of 44 nm; refine (H1 _).mono ?_; rintro e w' ⟨rfl, rfl⟩) | (go_at_call_of 44 su; refine (H2 _).mono ?_; rintro e w' ⟨rfl, rfl⟩) | (go_at_call 45; refine H3.mono ?_; rintro e w' ⟨rfl, rfl⟩))
    go_ret
    exact ⟨ret_b e.out.symm, b0⟩
  cases q4
  · have e : Hid (R = false) := by show _ = _; rw [HQ.out]; rfl
    clear HQ
    go_enter Tryz.func22, Tryz.ntmps22
    go_wp2_with (first | (go_at_call_of 44 nm; refine (H1 _).mono ?_; rintro e w' ⟨rfl, rfl⟩) | (go_at_call_of 44 su; refine (H2 _).mono ?_; rintro e w' ⟨rfl, rfl⟩) | (go_at_call 45; refine H3.mono ?_; rintro e w' ⟨rfl, rfl⟩))
    refine H4.mono ?_
    rintro e w2 ⟨rfl, b2⟩
    have k2 := b0.trans (b2.mono b0.size)
    go_wp2_with fail
    go_ret
    exact ⟨ret_b e.out.symm, k2⟩
  cases q5
  · have e : Hid (R = false) := by show _ = _; rw [HQ.out]; rfl
    clear HQ
    go_enter Tryz.func22, Tryz.ntmps22
    go_wp2_with (first | (go_at_call_of 44 nm; refine (H1 _).mono ?_; rintro e w' ⟨rfl, rfl⟩) | (go_at_call_of 44 su; refine (H2 _).mono ?_; rintro e w' ⟨rfl, rfl⟩) | (go_at_call 45; refine H3.mono ?_; rintro e w' ⟨rfl, rfl⟩))
    refine H4.mono ?_
    rintro e w2 ⟨rfl, b2⟩
    have k2 := b0.trans (b2.mono b0.size)
    have y5 := cellOn z5 b2
    go_wp2_with fail
    refine (H5.out _ k2).mono ?_
    rintro e w3 ⟨rfl, b3⟩
    have k3 := k2.trans (b3.mono k2.size)
    go_wp2_with fail
    go_ret
    exact ⟨ret_b e.out.symm, k3⟩
  have e : Hid (R = q6) := by show _ = _; rw [HQ.out]; rfl
  clear HQ
  go_enter Tryz.func22, Tryz.ntmps22
  go_wp2_with (first | (go_at_call_of 44 nm; refine (H1 _).mono ?_; rintro e w' ⟨rfl, rfl⟩) | (go_at_call_of 44 su; refine (H2 _).mono ?_; rintro e w' ⟨rfl, rfl⟩) | (go_at_call 45; refine H3.mono ?_; rintro e w' ⟨rfl, rfl⟩))
  refine H4.mono ?_
  rintro e w2 ⟨rfl, b2⟩
  have k2 := b0.trans (b2.mono b0.size)
  have y5 := cellOn z5 b2
  go_wp2_with fail
  refine (H5.out _ k2).mono ?_
  rintro e w3 ⟨rfl, b3⟩
  have k3 := k2.trans (b3.mono k2.size)
  have k32 := b2.trans (b3.mono b2.size)
  clear y5
  have y0 := cellOn z0 k32
  have y1 := cellOn z1 k32
  have y2 := cellOn z2 k32
  have y3 := cellOn z3 k32
  have y4 := cellOn z4 k32
  have y5 := cellOn z5 k32
  go_wp2_with fail
  refine (H6.out _ k3).mono ?_
  rintro e w4 ⟨rfl, b4⟩
  have k4 := k3.trans (b4.mono k3.size)
  go_wp2_with fail
  go_ret
  exact ⟨ret_b e.out.symm, k4⟩
end Cls
end Go.Proofs.YtjblmgdjaaeedaaGreat
