/- The contract of the document's own test of a method's Maps. -/
import Derived.Test.YtbfcjflgomedgaaGreatClsBody
import Derived.Deep.QuietTactic
import Derived.BigQuiet
import Derived.Lib.SmallJoins
import Derived.Deep.CutRange
import Derived.Deep.DeepCutAuto
namespace Go.Proofs.YtbfcjflgomedgaaGreat
namespace Cls
open Num Kind Op4
open Go.RowKit
set_option linter.unusedVariables false
set_option linter.unusedSimpArgs false

def prevAt (l : List MapL) (k : Nat) : Option Int := if k = 0 then none else (l[k - 1]?).map (·.at')
theorem mapsB_step (n : Nat) (lo st : Int) (l : List MapL) (k : Nat) (h : k < l.length) : mapsB n lo st (prevAt l k) (l.drop k) =
    ((decide (0 ≤ l[k].at') && decide (l[k].at' < (n : Int)) && (match prevAt l k with | none => true | some p => decide (p < l[k].at')) && decide ((l[k].locals.length : Int) = lo) && decide ((l[k].stack.length : Int) ≤ st)) &&
      (l[k].locals.all localB && (l[k].stack.all stackB && mapsB n lo st (prevAt l (k + 1)) (l.drop (k + 1))))) := by
  rw [List.drop_eq_getElem_cons h]
  have e : prevAt l (k + 1) = some l[k].at' := by simp [prevAt, List.getElem?_eq_getElem h]
  rw [e]
  rfl

def good5 (x n : Int) (pv : Option Int) (la lo ls st : Int) : Bool := decide (0 ≤ x) && decide (x < n) && (match pv with | none => true | some p => decide (p < x)) && decide (la = lo) && decide (ls ≤ st)
theorem g1 {x n : Int} {pv : Option Int} {la lo ls st : Int} (h : decide (x < 0) = true) : (!good5 x n pv la lo ls st) = true := by
  have : ¬ 0 ≤ x := by simpa using h
  simp [good5, this]
theorem g2 {x n : Int} {pv : Option Int} {la lo ls st : Int} (h : decide (n ≤ x) = true) : (!good5 x n pv la lo ls st) = true := by
  have : ¬ x < n := by simpa using h
  simp [good5, this]
theorem g3 {x n p : Int} {la lo ls st : Int} (h : decide (x ≤ p) = true) : (!good5 x n (some p) la lo ls st) = true := by
  have : ¬ p < x := by simpa using h
  simp [good5, this]
theorem g4 {x n : Int} {pv : Option Int} {la lo ls st : Int} (h : (la != lo) = true) : (!good5 x n pv la lo ls st) = true := by
  have : ¬ la = lo := by simpa using h
  simp [good5, this]
theorem g5 {x n : Int} {pv : Option Int} {la lo ls st : Int} (h : decide (st < ls) = true) : (!good5 x n pv la lo ls st) = true := by
  have : ¬ ls ≤ st := by simpa using h
  simp [good5, this]
theorem g6 {x n : Int} {la lo ls st : Int} (h0 : decide (x < 0) = false) (h2 : decide (n ≤ x) = false) (h4 : (la != lo) = false) (h5 : decide (st < ls) = false) : (!good5 x n none la lo ls st) = false := by
  have a0 : 0 ≤ x := by simpa using h0
  have a2 : x < n := by simpa using h2
  have a4 : la = lo := by simpa using h4
  have a5 : ls ≤ st := by simpa using h5
  simp [good5, a0, a2, a4, a5]
theorem g7 {x n p : Int} {la lo ls st : Int} (h0 : decide (x < 0) = false) (h2 : decide (n ≤ x) = false) (h3 : decide (x ≤ p) = false) (h4 : (la != lo) = false) (h5 : decide (st < ls) = false) : (!good5 x n (some p) la lo ls st) = false := by
  have a0 : 0 ≤ x := by simpa using h0
  have a2 : x < n := by simpa using h2
  have a3 : p < x := by simpa using h3
  have a4 : la = lo := by simpa using h4
  have a5 : ls ≤ st := by simpa using h5
  simp [good5, a0, a2, a3, a4, a5]

set_option maxRecDepth 100000 in
set_option maxHeartbeats 4000000 in
theorem maps_some (b off L cp : Nat) (v1 v7 v9 : Value) (m : MethL) (w : World) (hL : m.maps.length = L) (hL0 : 0 < L) (hL2 : L ≤ 100) (hcp : L ≤ cp) (hcm : cp ≤ maxLen)
    (hx : ∀ i (h : i < m.maps.length), mapE w b (off + i * 3) m.maps[i]) (hc : Sl insE 4 w v7 m.code) :
    Calls Tryz.prog 40 #[methVal v1 v7 (.slice (some ⟨b, off, none⟩) L cp) v9 m] w fun e w' => e = .returned (.bool (mapsB m.code.length m.locals m.stack none m.maps)) ∧ Below w.heap.size w w' := by
  unfold methVal methCells
  obtain ⟨a7, cp7, rfl, hl7, hm7, _, h7x⟩ := hc
  clear h7x
  unfold maxLen at hm7 hcm
  have b0 := (Below.refl w.heap.size w).alloc (Nat.le_refl _) (.cells #[.string m.name, v1, .string m.ret, .bool m.static, .bool m.abstract, .int .i64 m.locals, .int .i64 m.stack, .slice a7 m.code.length cp7, .slice (some ⟨b, off, none⟩) L cp, v9] 35)
  have c5 := cell_new w #[.string m.name, v1, .string m.ret, .bool m.static, .bool m.abstract, .int .i64 m.locals, .int .i64 m.stack, .slice a7 m.code.length cp7, .slice (some ⟨b, off, none⟩) L cp, v9] 35 5
  have c6 := cell_new w #[.string m.name, v1, .string m.ret, .bool m.static, .bool m.abstract, .int .i64 m.locals, .int .i64 m.stack, .slice a7 m.code.length cp7, .slice (some ⟨b, off, none⟩) L cp, v9] 35 6
  have c7 := cell_new w #[.string m.name, v1, .string m.ret, .bool m.static, .bool m.abstract, .int .i64 m.locals, .int .i64 m.stack, .slice a7 m.code.length cp7, .slice (some ⟨b, off, none⟩) L cp, v9] 35 7
  have c8 := cell_new w #[.string m.name, v1, .string m.ret, .bool m.static, .bool m.abstract, .int .i64 m.locals, .int .i64 m.stack, .slice a7 m.code.length cp7, .slice (some ⟨b, off, none⟩) L cp, v9] 35 8
  simp only [List.getElem?_toArray, List.getElem?_cons_succ, List.getElem?_cons_zero] at c5 c6 c7 c8
  generalize hn : m.code.length = n at *
  have HXX : ∀ W, Below w.heap.size w W → ∀ i (h : i < m.maps.length), mapE W b (off + i * 3) m.maps[i] := fun W hb i hi => mapE_stable _ _ _ _ _ (hx i hi) hb
  have HX : Hid _ := HXX
  have HN : Hid _ := hL
  clear hx HXX hL hn
  go_enter Tryz.func40, Tryz.ntmps40
  go_wp2_with fail
  go_loopw [3, 4, 5, 6, 7, 8] (fun i _ _ _ _ _ wr => ∃ k : Nat, k ≤ L ∧ i = .int .i64 k ∧ mapsB n m.locals m.stack (prevAt m.maps k) (m.maps.drop k) = mapsB n m.locals m.stack none m.maps ∧ wr.cell? ⟨w.heap.size, 5, none⟩ = some (.int .i64 m.locals) ∧ wr.cell? ⟨w.heap.size, 6, none⟩ = some (.int .i64 m.stack) ∧ wr.cell? ⟨w.heap.size, 7, none⟩ = some (.slice a7 n cp7) ∧ wr.cell? ⟨w.heap.size, 8, none⟩ = some (.slice (some ⟨b, off, none⟩) L cp) ∧ Below w.heap.size w wr) (fun i _ _ _ _ _ _ => L - (intOf i).toNat)
  case atStart => exact ⟨0, by omega, rfl, rfl, c5, c6, c7, c8, b0⟩
  case round =>
    clear c5 c6 c7 c8 b0
    obtain ⟨k, hk, rfl, hall, c5, c6, c7, c8, hbel⟩ := hrel
    by_cases hlk : k < L
    · have hkc : k < m.maps.length := by rw [HN.out]; exact hlk
      rw [mapsB_step n _ _ _ k hkc] at hall
      have HA : Hid _ := hall
      clear hall
      obtain ⟨u1, u2, x0, x1, x2, S1, S2⟩ := HX.out wr hbel k hkc
      have HPV : 0 < k → ∃ p, prevAt m.maps k = some p ∧ wr.cell? ⟨b, off + (k - 1) * 3, none⟩ = some (.int .i64 p) := fun h0 => by
        obtain ⟨_, _, y0, _⟩ := HX.out wr hbel (k - 1) (by omega)
        exact ⟨_, by simp [prevAt, show ¬ k = 0 by omega, List.getElem?_eq_getElem (show k - 1 < m.maps.length by omega)], y0⟩
      have HPN : k = 0 → prevAt m.maps k = none := fun h0 => by simp [prevAt, h0]
      generalize prevAt m.maps k = pv at *
      generalize m.maps[k] = X at *
      obtain ⟨at0, los, sts⟩ := X
      simp only at x0 x1 x2 S1 S2 HA
      have e1 := (Below.refl wr.heap.size wr).alloc (Nat.le_refl _) (.cells #[.int .i64 at0, u1, u2] 39)
      obtain ⟨aL, cL, hvL, hlL, hmL, _, hxL⟩ := S1.later strE_stable e1
      obtain ⟨aS, cS, hvS, hlS, hmS, _, hxS⟩ := S2.later strE_stable e1
      have HSL : Hid _ := S1.later strE_stable e1
      have HSS : Hid _ := S2.later strE_stable e1
      subst hvL
      subst hvS
      unfold maxLen at hmL hmS
      have d5 := cellOn c5 e1
      have d6 := cellOn c6 e1
      have d7 := cellOn c7 e1
      have d8 := cellOn c8 e1
      have k1 := hbel.trans (e1.mono hbel.size)
      have HBAD : ∃ bad, bad = !good5 at0 n pv los.length m.locals sts.length m.stack := ⟨_, rfl⟩
      obtain ⟨bad, hbad⟩ := HBAD
      have HBD : Hid _ := hbad
      have hsub : 0 < k → IntKind.i64.wrap ((k : Int) - 1) = ((k - 1 : Nat) : Int) := fun h0 => by rw [IntWalk.i64_in _ (by omega)]; omega
      clear hbad S1 S2
      go_upto_region 7 with fail
      have k0 : decide (at0 < 0) = true ∨ decide (at0 < 0) = false := by cases decide (at0 < 0) <;> simp
      have k2 : decide ((n : Int) ≤ at0) = true ∨ decide ((n : Int) ≤ at0) = false := by cases decide ((n : Int) ≤ at0) <;> simp
      have k4 : ((los.length : Int) != m.locals) = true ∨ ((los.length : Int) != m.locals) = false := by cases ((los.length : Int) != m.locals) <;> simp
      have k5 : decide (m.stack < (sts.length : Int)) = true ∨ decide (m.stack < (sts.length : Int)) = false := by cases decide (m.stack < (sts.length : Int)) <;> simp
      go_cut [67] from 13 to 109 (fun s67 wc => s67 = .bool bad ∧ Below (wr.alloc (.cells #[.int .i64 at0, .slice aL los.length cL, .slice aS sts.length cS] 39)).heap.size (wr.alloc (.cells #[.int .i64 at0, .slice aL los.length cL, .slice aS sts.length cS] 39)) wc)
      case first =>
        rcases k0 with k0 | k0
        · have hv := HBD.out.trans (g1 k0)
          clear HBD HA hxL hxS HPV
          go_quiet (fail)
          go_wp2_with fail
          go_meet
          exact ⟨by rw [hv], Joins.below_draws _ _ _⟩
        · rcases k2 with k2 | k2
          · have hv := HBD.out.trans (g2 k2)
            clear HBD HA hxL hxS HPV
            go_quiet (fail)
            go_wp2_with fail
            go_meet
            exact ⟨by rw [hv], Joins.below_draws _ _ _⟩
          · by_cases hz : k = 0
            · have hk0 : decide (0 < ((k : Nat) : Int)) = false := by simp; omega
              have hk0n : decide (0 < k) = false := by simp; omega
              obtain rfl : pv = none := HPN hz
              clear hz HPN
              rcases k4 with k4 | k4
              · have hv := HBD.out.trans (g4 k4)
                clear HBD HA hxL hxS HPV
                go_quiet (fail)
                go_wp2_with fail
                go_meet
                exact ⟨by rw [hv], Joins.below_draws _ _ _⟩
              · rcases k5 with k5 | k5
                · have hv := HBD.out.trans (g5 k5)
                  clear HBD HA hxL hxS HPV
                  go_quiet (fail)
                  go_wp2_with fail
                  go_meet
                  exact ⟨by rw [hv], Joins.below_draws _ _ _⟩
                · have hv := HBD.out.trans (g6 k0 k2 k4 k5)
                  clear HBD HA hxL hxS HPV
                  go_quiet (fail)
                  go_wp2_with fail
                  go_meet
                  exact ⟨by rw [hv], Joins.below_draws _ _ _⟩
            · have hk0 : decide (0 < ((k : Nat) : Int)) = true := by simp; omega
              have hk0n : decide (0 < k) = true := by simp; omega
              obtain ⟨p, rfl, y0⟩ := HPV (by omega)
              have y1 := cellOn y0 e1
              have hs1 := hsub (by omega)
              have hk1 : k - 1 < L := by omega
              have k3 : decide (at0 ≤ p) = true ∨ decide (at0 ≤ p) = false := by cases decide (at0 ≤ p) <;> simp
              clear y0 hsub
              rcases k3 with k3 | k3
              · have hv := HBD.out.trans (g3 k3)
                clear HBD HA hxL hxS HPV
                go_quiet (fail)
                go_wp2_with fail
                go_meet
                exact ⟨by rw [hv], Joins.below_draws _ _ _⟩
              · rcases k4 with k4 | k4
                · have hv := HBD.out.trans (g4 k4)
                  clear HBD HA hxL hxS HPV
                  go_quiet (fail)
                  go_wp2_with fail
                  go_meet
                  exact ⟨by rw [hv], Joins.below_draws _ _ _⟩
                · rcases k5 with k5 | k5
                  · have hv := HBD.out.trans (g5 k5)
                    clear HBD HA hxL hxS HPV
                    go_quiet (fail)
                    go_wp2_with fail
                    go_meet
                    exact ⟨by rw [hv], Joins.below_draws _ _ _⟩
                  · have hv := HBD.out.trans (g7 k0 k2 k3 k4 k5)
                    clear HBD HA hxL hxS HPV
                    go_quiet (fail)
                    go_wp2_with fail
                    go_meet
                    exact ⟨by rw [hv], Joins.below_draws _ _ _⟩
      case rest =>
      obtain ⟨rfl, bW⟩ := hcut
      have x1' := cellOn (cell_new wr #[.int .i64 at0, .slice aL los.length cL, .slice aS sts.length cS] 39 1) bW
      have x2' := cellOn (cell_new wr #[.int .i64 at0, .slice aL los.length cL, .slice aS sts.length cS] 39 2) bW
      have f5 := cellOn d5 bW
      have f6 := cellOn d6 bW
      have f7 := cellOn d7 bW
      have f8 := cellOn d8 bW
      have kf := k1.trans (bW.mono k1.size)
      have SL2 := Sl.later strE_stable HSL.out bW
      have SS2 := Sl.later strE_stable HSS.out bW
      have HA2 : Hid ((good5 at0 n pv los.length m.locals sts.length m.stack && (los.all localB && (sts.all stackB && mapsB n m.locals m.stack (prevAt m.maps (k + 1)) (m.maps.drop (k + 1))))) = mapsB n m.locals m.stack none m.maps) := HA.out
      clear c5 c6 c7 c8 d5 d6 d7 d8 x0 x1 x2 HPV HPN HA hxL hxS k0 k2 k4 k5 e1 k1 bW hbel HSL HSS hsub
      cases bad
      · have hg : good5 at0 n pv los.length m.locals sts.length m.stack = true := by have := HBD.out; simpa using this.symm
        have HA3 : Hid ((los.all localB && (sts.all stackB && mapsB n m.locals m.stack (prevAt m.maps (k + 1)) (m.maps.drop (k + 1)))) = mapsB n m.locals m.stack none m.maps) := by
          have := HA2.out
          rw [hg] at this
          exact this
        clear hg HA2 HBD
        go_wp2_with fail
        go_loop [5, 6] (fun i _ => ∃ j : Nat, j ≤ los.length ∧ i = .int .i64 j ∧ (los.drop j).all localB = los.all localB) (fun i _ => los.length - (intOf i).toNat)
        case atStart => exact ⟨0, by omega, rfl, rfl⟩
        case round =>
          obtain ⟨j, hj, rfl, hal⟩ := hrel
          by_cases hlj : j < los.length
          · obtain ⟨a1, c1, ev, _, _, _, hx1⟩ := id SL2
            simp only [Value.slice.injEq, true_and] at ev
            obtain ⟨rfl, rfl⟩ := ev
            obtain ⟨bL, offL, rfl, _, hx1⟩ := hx1 (by omega)
            obtain ⟨y0, ys⟩ := hx1 j hlj
            rw [Nat.mul_one] at y0
            rw [all_step _ _ j hlj] at hal
            have HL : Hid _ := hal
            have hT := beq_nums los[j] [84] [84] rfl
            have hN := beq_nums los[j] [78] [78] rfl
            have HM := fun W => may_any los[j] W ys
            have HLB : Hid (localB los[j] = ((nums los[j] == [84]) || ((nums los[j] == [78]) || mayB (nums los[j])))) := rfl
            clear hal hx1 SL2 SS2
            generalize los[j] = X at *
            generalize localB X = lb at *
            generalize (nums X == [84]) = p1 at *
            generalize (nums X == [78]) = p2 at *
            generalize mayB (nums X) = p3 at *
            cases p1
            · cases p2
              · cases p3
                · have HF : Hid (los.all localB = false) := by
                    show _ = _
                    have h1 := HL.out
                    have h2 := HLB.out
                    simp only [Bool.or_self] at h2
                    rw [h2, Bool.false_and] at h1
                    exact h1.symm
                  clear HL HLB
                  go_wp2_with (go_at_call 19; refine (HM _).mono ?_; rintro e w' ⟨rfl, rfl⟩)
                  go_ret
                  exact ⟨ret_b (by rw [← HA3.out, HF.out]; rfl), kf⟩
                · have HF : Hid ((los.drop (j + 1)).all localB = los.all localB) := by
                    show _ = _
                    have h1 := HL.out
                    have h2 := HLB.out
                    simp only [Bool.or_true, Bool.true_or] at h2
                    rw [h2, Bool.true_and] at h1
                    exact h1
                  clear HL HLB
                  go_wp2_with (go_at_call 19; refine (HM _).mono ?_; rintro e w' ⟨rfl, rfl⟩)
                  go_round
                  case rel => exact ⟨j + 1, by omega, by go_num, HF.out⟩
                  case measure => simp [intOf]; omega
              · have HF : Hid ((los.drop (j + 1)).all localB = los.all localB) := by
                  show _ = _
                  have h1 := HL.out
                  have h2 := HLB.out
                  simp only [Bool.or_true, Bool.true_or] at h2
                  rw [h2, Bool.true_and] at h1
                  exact h1
                clear HL HLB
                go_wp2_with fail
                go_round
                case rel => exact ⟨j + 1, by omega, by go_num, HF.out⟩
                case measure => simp [intOf]; omega
            · have HF : Hid ((los.drop (j + 1)).all localB = los.all localB) := by
                show _ = _
                have h1 := HL.out
                have h2 := HLB.out
                simp only [Bool.or_true, Bool.true_or] at h2
                rw [h2, Bool.true_and] at h1
                exact h1
              clear HL HLB
              go_wp2_with fail
              go_round
              case rel => exact ⟨j + 1, by omega, by go_num, HF.out⟩
              case measure => simp [intOf]; omega
          · rw [all_end _ _ j (by omega)] at hal
            have HL : Hid _ := hal
            clear hal
            have HA4 : Hid ((sts.all stackB && mapsB n m.locals m.stack (prevAt m.maps (k + 1)) (m.maps.drop (k + 1))) = mapsB n m.locals m.stack none m.maps) := by
              have := HA3.out
              rw [← HL.out] at this
              exact this
            clear HA3 HL SL2
            go_wp2_with fail
            go_loop [7, 8] (fun i _ => ∃ j2 : Nat, j2 ≤ sts.length ∧ i = .int .i64 j2 ∧ (sts.drop j2).all stackB = sts.all stackB) (fun i _ => sts.length - (intOf i).toNat)
            case atStart => exact ⟨0, by omega, rfl, rfl⟩
            case round =>
              obtain ⟨j2, hj2, rfl, hal⟩ := hrel
              by_cases hlj2 : j2 < sts.length
              · obtain ⟨a1, c1, ev, _, _, _, hx1⟩ := id SS2
                simp only [Value.slice.injEq, true_and] at ev
                obtain ⟨rfl, rfl⟩ := ev
                obtain ⟨bL, offL, rfl, _, hx1⟩ := hx1 (by omega)
                obtain ⟨y0, ys⟩ := hx1 j2 hlj2
                rw [Nat.mul_one] at y0
                rw [all_step _ _ j2 hlj2] at hal
                have HL2 : Hid _ := hal
                have hN := beq_nums sts[j2] [78] [78] rfl
                have HM := fun W => may_any sts[j2] W ys
                have HLB : Hid (stackB sts[j2] = ((nums sts[j2] == [78]) || mayB (nums sts[j2]))) := rfl
                clear hal hx1 SS2
                generalize sts[j2] = X at *
                generalize stackB X = lb at *
                generalize (nums X == [78]) = p2 at *
                generalize mayB (nums X) = p3 at *
                cases p2
                · cases p3
                  · have HF : Hid (sts.all stackB = false) := by
                      show _ = _
                      have h1 := HL2.out
                      have h2 := HLB.out
                      simp only [Bool.or_self] at h2
                      rw [h2, Bool.false_and] at h1
                      exact h1.symm
                    clear HL2 HLB
                    go_wp2_with (go_at_call 19; refine (HM _).mono ?_; rintro e w' ⟨rfl, rfl⟩)
                    go_ret
                    exact ⟨ret_b (by rw [← HA4.out, HF.out]; rfl), kf⟩
                  · have HF : Hid ((sts.drop (j2 + 1)).all stackB = sts.all stackB) := by
                      show _ = _
                      have h1 := HL2.out
                      have h2 := HLB.out
                      simp only [Bool.or_true, Bool.true_or] at h2
                      rw [h2, Bool.true_and] at h1
                      exact h1
                    clear HL2 HLB
                    go_wp2_with (go_at_call 19; refine (HM _).mono ?_; rintro e w' ⟨rfl, rfl⟩)
                    go_round
                    case rel => exact ⟨j2 + 1, by omega, by go_num, HF.out⟩
                    case measure => simp [intOf]; omega
                · have HF : Hid ((sts.drop (j2 + 1)).all stackB = sts.all stackB) := by
                    show _ = _
                    have h1 := HL2.out
                    have h2 := HLB.out
                    simp only [Bool.or_true, Bool.true_or] at h2
                    rw [h2, Bool.true_and] at h1
                    exact h1
                  clear HL2 HLB
                  go_wp2_with fail
                  go_round
                  case rel => exact ⟨j2 + 1, by omega, by go_num, HF.out⟩
                  case measure => simp [intOf]; omega
              · rw [all_end _ _ j2 (by omega)] at hal
                have HL2 : Hid _ := hal
                clear hal
                have HA5 : Hid (mapsB n m.locals m.stack (prevAt m.maps (k + 1)) (m.maps.drop (k + 1)) = mapsB n m.locals m.stack none m.maps) := by
                  have := HA4.out
                  rw [← HL2.out] at this
                  exact this
                clear HA4 HL2 SS2
                go_wp2_with fail
                go_roundw
                case rel => exact ⟨k + 1, by omega, by go_num, HA5.out, f5, f6, f7, f8, kf⟩
                case measure => simp [intOf]; omega
      · have hg : good5 at0 n pv los.length m.locals sts.length m.stack = false := by have := HBD.out; simpa using this.symm
        have HF : Hid (mapsB n m.locals m.stack none m.maps = false) := by
          show _ = _
          have := HA2.out
          rw [hg] at this
          exact this.symm
        clear hg HA2 HBD SL2 SS2
        go_wp2_with fail
        go_ret
        exact ⟨ret_b HF.out.symm, kf⟩
    · rw [List.drop_eq_nil_of_le (by rw [HN.out]; omega)] at hall
      have HA : Hid (true = mapsB n m.locals m.stack none m.maps) := by
        show _ = _
        rw [← hall]
        cases prevAt m.maps k <;> rfl
      clear hall
      go_wp2_with fail
      go_ret
      exact ⟨ret_b HA.out, hbel⟩
end Cls
end Go.Proofs.YtbfcjflgomedgaaGreat
