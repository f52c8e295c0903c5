/- The contract of class.Eq. -/
import Derived.Test.YthioaedhabfkgaaGreatClsSameM
namespace Go.Proofs.YthioaedhabfkgaaGreat
namespace Cls
open Num Kind Op4
open Go.RowKit
set_option linter.unusedVariables false
set_option maxRecDepth 100000

set_option maxHeartbeats 4000000 in
theorem methsEq_any (v v' : Value) (l m : List MethL) (w : World) (h : Sl methE 10 w v l) (h' : Sl methE 10 w v' m) :
    Calls Tryz.prog 104 #[v, v', .func (.func 105) #[] #[]] w fun e w' => e = .returned (.bool (eqL methEq l m)) ∧ Below w.heap.size w w' := by
  have HT : Hid _ := h
  have HT' : Hid _ := h'
  obtain ⟨a, cp, rfl, hl, hm, hnil, hx⟩ := h
  obtain ⟨a', cp', rfl, hl', hm', hnil', hx'⟩ := h'
  unfold maxLen at hm hm'
  clear hx hnil hx' hnil'
  by_cases hlen : l.length = m.length
  · have hne : ((l.length : Int) != (m.length : Int)) = false := by rw [hlen]; simp
    have HLN : Hid _ := hlen
    clear hlen
    go_enter Tryz.func104, Tryz.ntmps104
    go_wp2_with fail
    go_loopw [7, 8, 9, 17] (fun _ _ _ i wr => ∃ k : Nat, k ≤ l.length ∧ i = .int .i64 k ∧ eqL methEq (l.drop k) (m.drop k) = eqL methEq l m ∧ Below w.heap.size w wr) (fun _ _ _ i _ => l.length - (intOf i).toNat)
    case atStart => exact ⟨0, by omega, rfl, rfl, Below.refl _ _⟩
    case round =>
      obtain ⟨k, hk, rfl, hp, hbel⟩ := hrel
      have HA : Hid _ := hp
      clear hp
      by_cases hlk : k < l.length
      · have hlk' : k < m.length := by rw [← HLN.out]; exact hlk
        obtain ⟨aa, cc, ev, _, _, _, hx9⟩ := Sl.later methE_stable HT.out hbel
        simp only [Value.slice.injEq, true_and] at ev
        obtain ⟨rfl, rfl⟩ := ev
        obtain ⟨b9, off9, rfl, _, hx9⟩ := hx9 (by omega)
        obtain ⟨v11, v71, v81, v91, HV1, hce1⟩ := hx9 k hlk
        obtain ⟨aa, cc, ev, _, _, _, hx8⟩ := Sl.later methE_stable HT'.out hbel
        simp only [Value.slice.injEq, true_and] at ev
        obtain ⟨rfl, rfl⟩ := ev
        obtain ⟨b8, off8, rfl, _, hx8⟩ := hx8 (by omega)
        obtain ⟨v12, v72, v82, v92, HV2, hce2⟩ := hx8 k hlk'
        have HS := eqL_step methEq l m k hlk hlk'
        rw [HA.out] at HS
        have HS2 : Hid _ := HS
        clear HS HA hx9 hx8 hne
        generalize l[k] = X at *
        generalize m[k] = Y at *
        obtain ⟨nm1, ps1, rt1, st1, ab1, lo1, sk1, cd1, mp1, tr1⟩ := X
        obtain ⟨nm2, ps2, rt2, st2, ab2, lo2, sk2, cd2, mp2, tr2⟩ := Y
        have x0 := hce1 0 (by decide)
        have x1 := hce1 1 (by decide)
        have x2 := hce1 2 (by decide)
        have x3 := hce1 3 (by decide)
        have x4 := hce1 4 (by decide)
        have x5 := hce1 5 (by decide)
        have x6 := hce1 6 (by decide)
        have x7 := hce1 7 (by decide)
        have x8 := hce1 8 (by decide)
        have x9 := hce1 9 (by decide)
        have y0 := hce2 0 (by decide)
        have y1 := hce2 1 (by decide)
        have y2 := hce2 2 (by decide)
        have y3 := hce2 3 (by decide)
        have y4 := hce2 4 (by decide)
        have y5 := hce2 5 (by decide)
        have y6 := hce2 6 (by decide)
        have y7 := hce2 7 (by decide)
        have y8 := hce2 8 (by decide)
        have y9 := hce2 9 (by decide)
        simp only [methCells, List.getElem?_toArray, List.getElem?_cons_zero, List.getElem?_cons_succ, Nat.add_zero] at x0 x1 x2 x3 x4 x5 x6 x7 x8 x9 y0 y1 y2 y3 y4 y5 y6 y7 y8 y9
        clear hce1 hce2
        have HVa : Hid _ := HV1
        have HVb : Hid _ := HV2
        obtain ⟨a11, c11, rfl, _, _, _, hz⟩ := HV1.params
        clear hz
        obtain ⟨a71, c71, rfl, _, _, _, hz⟩ := HV1.code
        clear hz
        obtain ⟨a81, c81, rfl, _, _, _, hz⟩ := HV1.maps
        clear hz
        obtain ⟨a91, c91, rfl, _, _, _, hz⟩ := HV1.traps
        clear hz
        obtain ⟨a12, c12, rfl, _, _, _, hz⟩ := HV2.params
        clear hz
        obtain ⟨a72, c72, rfl, _, _, _, hz⟩ := HV2.code
        clear hz
        obtain ⟨a82, c82, rfl, _, _, _, hz⟩ := HV2.maps
        clear hz
        obtain ⟨a92, c92, rfl, _, _, _, hz⟩ := HV2.traps
        clear hz
        simp only at x1 x7 x8 x9 y1 y7 y8 y9 HVa HVb
        clear HV1 HV2
        have e0 := (Below.refl wr.heap.size wr).alloc (Nat.le_refl _) (.cells #[.string nm1, .slice a11 ps1.length c11, .string rt1, .bool st1, .bool ab1, .int .i64 lo1, .int .i64 sk1, .slice a71 cd1.length c71, .slice a81 mp1.length c81, .slice a91 tr1.length c91] 46)
        have e1 := e0.alloc e0.size (.cells #[.string nm2, .slice a12 ps2.length c12, .string rt2, .bool st2, .bool ab2, .int .i64 lo2, .int .i64 sk2, .slice a72 cd2.length c72, .slice a82 mp2.length c82, .slice a92 tr2.length c92] 46)
        have t0 := cellOn y0 e0
        have t1 := cellOn y1 e0
        have t2 := cellOn y2 e0
        have t3 := cellOn y3 e0
        have t4 := cellOn y4 e0
        have t5 := cellOn y5 e0
        have t6 := cellOn y6 e0
        have t7 := cellOn y7 e0
        have t8 := cellOn y8 e0
        have t9 := cellOn y9 e0
        have HC := smeth_any _ _ _ _ _ _ _ _ _ _ ps1 cd1 mp1 tr1 _ _ _ _ _ _ _ _ _ _ ps2 cd2 mp2 tr2 _ (MethV.later HVa.out e1) (MethV.later HVb.out e1)
        have k1 := hbel.trans (e1.mono hbel.size)
        clear HVa HVb
        generalize methEq ⟨nm1, ps1, rt1, st1, ab1, lo1, sk1, cd1, mp1, tr1⟩ ⟨nm2, ps2, rt2, st2, ab2, lo2, sk2, cd2, mp2, tr2⟩ = q at *
        cases q
        · have HF : Hid (eqL methEq l m = false) := by show _ = _; rw [HS2.out]; rfl
          clear HS2
          go_wp2_with fail
          refine HC.mono ?_
          rintro e w2 ⟨rfl, b2⟩
          have k2 := k1.trans (b2.mono k1.size)
          go_wp2_with fail
          go_ret
          exact ⟨ret_b HF.out.symm, k2⟩
        · have HF : Hid (eqL methEq (l.drop (k + 1)) (m.drop (k + 1)) = eqL methEq l m) := by show _ = _; rw [HS2.out]; rfl
          clear HS2
          go_wp2_with fail
          refine HC.mono ?_
          rintro e w2 ⟨rfl, b2⟩
          have k2 := k1.trans (b2.mono k1.size)
          go_wp2_with fail
          go_roundw
          case rel => exact ⟨k + 1, by omega, by go_num, HF.out, k2⟩
          case measure => simp [intOf]; omega
      · have HF : Hid (eqL methEq l m = true) := by show _ = _; rw [← HA.out, eqL_end _ _ _ _ (by omega) (by rw [← HLN.out]; omega)]
        clear HA
        go_wp2_with fail
        go_ret
        exact ⟨ret_b HF.out.symm, hbel⟩
  · have hne : ((l.length : Int) != (m.length : Int)) = true := by simp; omega
    have HF : Hid (eqL methEq l m = false) := eqL_len _ _ _ hlen
    clear hlen
    go_enter Tryz.func104, Tryz.ntmps104
    go_wp2_with fail
    go_ret
    exact ⟨ret_b HF.out.symm, Below.refl _ _⟩
def clsEq (x y : ClsL) : Bool := (x.name.toList == y.name.toList) && ((x.super.toList == y.super.toList) && ((x.iface == y.iface) && (eqL seq x.impl y.impl && (eqL feq x.fields y.fields && eqL methEq x.methods y.methods))))
set_option maxHeartbeats 4000000 in
theorem ceq_any (v31 v41 v51 v32 v42 v52 : Value) (c1 c2 : ClsL) (w : World) (h1 : ClsV w v31 v41 v51 c1) (h2 : ClsV w v32 v42 v52 c2) :
    Calls Tryz.prog 70 #[clsVal v31 v41 v51 c1, clsVal v32 v42 v52 c2] w fun e w' => e = .returned (.bool (clsEq c1 c2)) ∧ Below w.heap.size w w' := by
  unfold clsVal clsEq
  obtain ⟨nm1, su1, if1, im1, fs1, ms1⟩ := c1
  obtain ⟨nm2, su2, if2, im2, fs2, ms2⟩ := c2
  simp only
  have b00 := (Below.refl w.heap.size w).alloc (Nat.le_refl _) (.cells #[.string nm1, .string su1, .bool if1, v31, v41, v51] 26)
  have b0 := b00.alloc b00.size (.cells #[.string nm2, .string su2, .bool if2, v32, v42, v52] 26)
  have H1 := sequal_any v31 v32 im1 im2 _ (h1.impl.later strE_stable b0) (h2.impl.later strE_stable b0)
  have H2 : Hid (∀ W, Below w.heap.size w W → _) := fun W hb => fequal_any v41 v42 fs1 fs2 W (h1.fields.later fieldE_stable hb) (h2.fields.later fieldE_stable hb)
  have H3 : Hid (∀ W, Below w.heap.size w W → _) := fun W hb => methsEq_any v51 v52 ms1 ms2 W (h1.methods.later methE_stable hb) (h2.methods.later methE_stable hb)
  have x4 := cell_new w #[.string nm1, .string su1, .bool if1, v31, v41, v51] 26 4
  have x5 := cell_new w #[.string nm1, .string su1, .bool if1, v31, v41, v51] 26 5
  have y4 := cell_new (w.alloc (.cells #[.string nm1, .string su1, .bool if1, v31, v41, v51] 26)) #[.string nm2, .string su2, .bool if2, v32, v42, v52] 26 4
  have y5 := cell_new (w.alloc (.cells #[.string nm1, .string su1, .bool if1, v31, v41, v51] 26)) #[.string nm2, .string su2, .bool if2, v32, v42, v52] 26 5
  simp only [List.getElem?_toArray, List.getElem?_cons_zero, List.getElem?_cons_succ] at x4 x5 y4 y5
  rw [alloc_size] at y4 y5
  replace x4 := cellOn x4 ((Below.refl _ _).alloc (Nat.le_refl _) (.cells #[.string nm2, .string su2, .bool if2, v32, v42, v52] 26))
  replace x5 := cellOn x5 ((Below.refl _ _).alloc (Nat.le_refl _) (.cells #[.string nm2, .string su2, .bool if2, v32, v42, v52] 26))
  clear h1 h2
  generalize eqL seq im1 im2 = q1 at *
  generalize eqL feq fs1 fs2 = q2 at *
  generalize eqL methEq ms1 ms2 = q3 at *
  cases hq : (nm1.toList == nm2.toList)
  · clear x4 x5 y4 y5 H1 H2 H3
    go_enter Tryz.func70, Tryz.ntmps70
    go_wp2_with fail
    go_ret
    exact ⟨rfl, b0⟩
  cases hq2 : (su1.toList == su2.toList)
  · clear x4 x5 y4 y5 H1 H2 H3
    go_enter Tryz.func70, Tryz.ntmps70
    go_wp2_with fail
    go_ret
    exact ⟨rfl, b0⟩
  cases hq3 : (if1 == if2)
  · clear x4 x5 y4 y5 H1 H2 H3
    go_enter Tryz.func70, Tryz.ntmps70
    go_wp2_with fail
    go_ret
    exact ⟨rfl, b0⟩
  cases q1
  · clear x4 x5 y4 y5 H2 H3
    go_enter Tryz.func70, Tryz.ntmps70
    go_wp2_with fail
    refine H1.mono ?_
    rintro e w2 ⟨rfl, b2⟩
    have k2 := b0.trans (b2.mono b0.size)
    go_wp2_with fail
    go_ret
    exact ⟨rfl, k2⟩
  cases q2
  · clear H3
    go_enter Tryz.func70, Tryz.ntmps70
    go_wp2_with fail
    refine H1.mono ?_
    rintro e w2 ⟨rfl, b2⟩
    have k2 := b0.trans (b2.mono b0.size)
    replace x4 := cellOn x4 b2
    replace y4 := cellOn y4 b2
    replace x5 := cellOn x5 b2
    replace y5 := cellOn y5 b2
    go_wp2_with fail
    refine (H2.out _ k2).mono ?_
    rintro e w3 ⟨rfl, b3⟩
    have k3 := k2.trans (b3.mono k2.size)
    go_wp2_with fail
    go_ret
    exact ⟨rfl, k3⟩
  go_enter Tryz.func70, Tryz.ntmps70
  go_wp2_with fail
  refine H1.mono ?_
  rintro e w2 ⟨rfl, b2⟩
  have k2 := b0.trans (b2.mono b0.size)
  replace x4 := cellOn x4 b2
  replace y4 := cellOn y4 b2
  replace x5 := cellOn x5 b2
  replace y5 := cellOn y5 b2
  go_wp2_with fail
  refine (H2.out _ k2).mono ?_
  rintro e w3 ⟨rfl, b3⟩
  have k3 := k2.trans (b3.mono k2.size)
  replace x5 := cellOn x5 b3
  replace y5 := cellOn y5 b3
  go_wp2_with fail
  refine (H3.out _ k3).mono ?_
  rintro e w4 ⟨rfl, b4⟩
  have k4 := k3.trans (b4.mono k3.size)
  go_wp2_with fail
  go_ret
  exact ⟨rfl, k4⟩
end Cls
end Go.Proofs.YthioaedhabfkgaaGreat
