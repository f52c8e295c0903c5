/- The contract of the document's own test of a class: it answers as package class's parts ask. -/
import Derived.Test.YtbfcjflgomedgaaGreatClsRefMeth
import Derived.Test.YtbfcjflgomedgaaGreatClsPlace
import Derived.Test.YtbfcjflgomedgaaGreatClsOne
namespace Go.Proofs.YtbfcjflgomedgaaGreat
namespace Cls
open Num Kind Op4
open Go.RowKit
set_option linter.unusedVariables false
set_option linter.unusedSimpArgs false
set_option maxRecDepth 100000

theorem place_hit {α : Type} (p : α → Bool) : ∀ (l : List α) (s i : Nat) (h : i < l.length), p l[i] = true → (∀ j (hj : j < i), p (l[j]'(by omega)) = false) → place p s l = ((s + i : Nat) : Int)
  | x :: r, s, 0, _, h1, _ => by
    show (if p x = true then (s : Int) else _) = _
    rw [if_pos (by simpa using h1)]
    rfl
  | x :: r, s, i + 1, h, h1, h2 => by
    have h0 : p x = false := h2 0 (by omega)
    show (if p x = true then (s : Int) else place p (s + 1) r) = _
    rw [h0, if_neg (by decide), place_hit p r (s + 1) i (by simpa using h) (by simpa using h1) (fun j hj => by
      have := h2 (j + 1) (by omega)
      simpa using this)]
    congr 1
    omega
theorem place_miss {α : Type} (p : α → Bool) : ∀ (l : List α) (s i : Nat) (h : i < l.length), p l[i] = true → place p s l ≤ ((s + i : Nat) : Int)
  | x :: r, s, 0, _, h1 => by
    show (if p x = true then (s : Int) else _) ≤ _
    rw [if_pos (by simpa using h1)]
    simp
  | x :: r, s, i + 1, h, h1 => by
    show (if p x = true then (s : Int) else place p (s + 1) r) ≤ _
    split
    · omega
    · have := place_miss p r (s + 1) i (by simpa using h) (by simpa using h1)
      omega
theorem allI_and {α : Type} (p q : Nat → α → Bool) : ∀ (l : List α) (k : Nat), allI (fun i x => p i x && q i x) k l = (allI p k l && allI q k l)
  | [], _ => rfl
  | x :: r, k => by
    show ((p k x && q k x) && allI _ (k + 1) r) = ((p k x && allI p (k + 1) r) && (q k x && allI q (k + 1) r))
    rw [allI_and p q r (k + 1)]
    cases p k x <;> cases q k x <;> simp
theorem allI_all {α : Type} (p : α → Bool) : ∀ (l : List α) (k : Nat), allI (fun _ x => p x) k l = l.all p
  | [], _ => rfl
  | x :: r, k => by
    show (p x && allI _ (k + 1) r) = (p x && r.all p)
    rw [allI_all p r (k + 1)]
theorem allI_comm {α : Type} (p q : Nat → α → Bool) (h : ∀ k x, p k x = q k x) (l : List α) (k : Nat) : allI p k l = allI q k l := by
  have : p = q := funext fun k => funext fun x => h k x
  rw [this]
theorem mayP_eq (nm su : ByteArray) (ifc : Bool) (im : List ByteArray) (fs : List FieldL) (ms : List MethL) :
    mayP ⟨nm, su, ifc, im, fs, ms⟩ = (classB (nums nm) && (classB (nums su) && (decide (im.length ≤ 4) && (decide (fs.length ≤ 8) && (decide (ms.length ≤ 8) && (!(ifc && (!(nums su == objectL) || decide (0 < fs.length))) && (allI (fun k f => classB (nums f) && (splace im f == ((k : Nat) : Int))) 0 im && (allI (fun k f => fieldB f && (fplace fs f.name == ((k : Nat) : Int))) 0 fs && allI (fun k f => (f.abstract == ifc) && ((mplace ms f.name == ((k : Nat) : Int)) && methP f)) 0 ms)))))))) := by
  have e : allI (fun k f => (f.abstract == ifc) && ((mplace ms f.name == ((k : Nat) : Int)) && methP f)) 0 ms = (allI (fun k f => methP f && (mplace ms f.name == ((k : Nat) : Int))) 0 ms && ms.all fun m => m.abstract == ifc) := by
    rw [allI_and (fun k f => f.abstract == ifc) (fun k f => (mplace ms f.name == ((k : Nat) : Int)) && methP f), allI_all, allI_comm (fun k f => (mplace ms f.name == ((k : Nat) : Int)) && methP f) (fun k f => methP f && (mplace ms f.name == ((k : Nat) : Int))) (fun k x => Bool.and_comm _ _), Bool.and_comm]
  unfold mayP implP fieldsP methsP keepsP
  simp only
  rw [e]
  generalize classB (nums nm) = x1
  generalize classB (nums su) = x2
  generalize decide (im.length ≤ 4) = x3
  generalize decide (fs.length ≤ 8) = x4
  generalize decide (ms.length ≤ 8) = x5
  generalize (ifc && (!(nums su == objectL) || decide (0 < fs.length))) = x6
  generalize allI (fun k f => classB (nums f) && (splace im f == ((k : Nat) : Int))) 0 im = x7
  generalize allI (fun k f => fieldB f && (fplace fs f.name == ((k : Nat) : Int))) 0 fs = x8
  generalize allI (fun k f => methP f && (mplace ms f.name == ((k : Nat) : Int))) 0 ms = x9
  generalize (ms.all fun m => m.abstract == ifc) = x10
  cases x1 <;> cases x2 <;> cases x3 <;> cases x4 <;> cases x5 <;> simp <;> cases x6 <;> cases x7 <;> cases x8 <;> cases x9 <;> simp
set_option maxHeartbeats 16000000 in
theorem rcls_any (v3 v4 v5 : Value) (c : ClsL) (w : World) (h : ClsV w v3 v4 v5 c) :
    Calls Tryz.prog 7 #[clsVal v3 v4 v5 c] w fun e w' => e = .returned (.bool (mayP c)) ∧ Below w.heap.size w w' := by
  obtain ⟨nm, su, ifc, im, fs, ms⟩ := c
  obtain ⟨a3, c3, hv3, hl3, hm3, _, hx3⟩ := h.impl
  obtain ⟨a4, c4, hv4, hl4, hm4, _, hx4⟩ := h.fields
  obtain ⟨a5, c5, hv5, hl5, hm5, _, hx5⟩ := h.methods
  subst hv3 hv4 hv5
  simp only at hl3 hl4 hl5
  clear hx3 hx4 hx5
  unfold maxLen at hm3 hm4 hm5
  unfold clsVal
  simp only
  have b0 := (Below.refl w.heap.size w).alloc (Nat.le_refl _) (.cells #[.string nm, .string su, .bool ifc, .slice a3 im.length c3, .slice a4 fs.length c4, .slice a5 ms.length c5] 28)
  have M := ClsCells.new w (.string nm) (.string su) (.bool ifc) (.slice a3 im.length c3) (.slice a4 fs.length c4) (.slice a5 ms.length c5) 28
  have HV : Hid (∀ W, Below w.heap.size w W → _) := fun W hb => ClsV.later h hb
  have H1 := fun W => class_any nm W h.s0
  have H2 := fun W => class_any su W h.s1
  have hob := beq_nums su [79, 98, 106, 101, 99, 116] objectL rfl
  have HQ : Hid _ := mayP_eq nm su ifc im fs ms
  generalize mayP ⟨nm, su, ifc, im, fs, ms⟩ = R at *
  clear h
  generalize classB (nums nm) = q1 at *
  generalize classB (nums su) = q2 at *
  generalize (nums su == objectL) = qo at *
  cases q1
  case false =>
    have e : Hid (R = false) := by show _ = _; rw [HQ.out]; rfl
    clear HQ M HV
    go_enter Tryz.func7, Tryz.ntmps7
    go_wp2_with (first | (go_at_call_of 17 nm; refine (H1 _).mono ?_; rintro e w' ⟨rfl, rfl⟩) | (go_at_call_of 17 su; refine (H2 _).mono ?_; rintro e w' ⟨rfl, rfl⟩))
    go_ret
    exact ⟨ret_b e.out.symm, b0⟩
  cases q2
  case false =>
    have e : Hid (R = false) := by show _ = _; rw [HQ.out]; rfl
    clear HQ M HV
    go_enter Tryz.func7, Tryz.ntmps7
    go_wp2_with (first | (go_at_call_of 17 nm; refine (H1 _).mono ?_; rintro e w' ⟨rfl, rfl⟩) | (go_at_call_of 17 su; refine (H2 _).mono ?_; rintro e w' ⟨rfl, rfl⟩))
    go_ret
    exact ⟨ret_b e.out.symm, b0⟩
  by_cases h4 : im.length ≤ 4
  case neg =>
    have e : Hid (R = false) := by show _ = _; rw [HQ.out]; simp [h4]
    clear HQ M HV
    go_enter Tryz.func7, Tryz.ntmps7
    go_wp2_with (first | (go_at_call_of 17 nm; refine (H1 _).mono ?_; rintro e w' ⟨rfl, rfl⟩) | (go_at_call_of 17 su; refine (H2 _).mono ?_; rintro e w' ⟨rfl, rfl⟩))
    go_ret
    exact ⟨ret_b e.out.symm, b0⟩
  by_cases h8 : fs.length ≤ 8
  case neg =>
    have e : Hid (R = false) := by show _ = _; rw [HQ.out]; simp [h8]
    clear HQ M HV
    go_enter Tryz.func7, Tryz.ntmps7
    go_wp2_with (first | (go_at_call_of 17 nm; refine (H1 _).mono ?_; rintro e w' ⟨rfl, rfl⟩) | (go_at_call_of 17 su; refine (H2 _).mono ?_; rintro e w' ⟨rfl, rfl⟩))
    go_ret
    exact ⟨ret_b e.out.symm, b0⟩
  by_cases h9 : ms.length ≤ 8
  case neg =>
    have e : Hid (R = false) := by show _ = _; rw [HQ.out]; simp [h9]
    clear HQ M HV
    go_enter Tryz.func7, Tryz.ntmps7
    go_wp2_with (first | (go_at_call_of 17 nm; refine (H1 _).mono ?_; rintro e w' ⟨rfl, rfl⟩) | (go_at_call_of 17 su; refine (H2 _).mono ?_; rintro e w' ⟨rfl, rfl⟩))
    go_ret
    exact ⟨ret_b e.out.symm, b0⟩
  have HQ2 : Hid (R = (!(ifc && (!qo || decide (0 < fs.length))) && (allI (fun k f => classB (nums f) && (splace im f == ((k : Nat) : Int))) 0 im && (allI (fun k f => fieldB f && (fplace fs f.name == ((k : Nat) : Int))) 0 fs && allI (fun k f => (f.abstract == ifc) && ((mplace ms f.name == ((k : Nat) : Int)) && methP f)) 0 ms)))) := by show _ = _; rw [HQ.out]; simp [h4, h8, h9]
  have D0 : Hid (∃ q, decide (0 < fs.length) = q) := ⟨_, rfl⟩
  obtain ⟨qf, hqf⟩ := D0.out
  rw [hqf] at HQ2
  have hqf' : decide (0 < (fs.length : Int)) = qf := by rw [← hqf, Bool.eq_iff_iff]; simp
  clear HQ D0
  cases hbad : (ifc && (!qo || qf))
  case true =>
    have HF : Hid (R = false) := by show _ = _; rw [HQ2.out, hbad]; rfl
    clear HQ2
    cases ifc
    case false => simp at hbad
    cases qo
    case false =>
      have e : Hid (R = false) := HF.out
      clear hbad HF M HV
      go_enter Tryz.func7, Tryz.ntmps7
      go_wp2_with (first | (go_at_call_of 17 nm; refine (H1 _).mono ?_; rintro e w' ⟨rfl, rfl⟩) | (go_at_call_of 17 su; refine (H2 _).mono ?_; rintro e w' ⟨rfl, rfl⟩))
      go_ret
      exact ⟨ret_b e.out.symm, b0⟩
    cases qf
    case false => simp at hbad
    have e : Hid (R = false) := HF.out
    clear hbad HF M HV
    go_enter Tryz.func7, Tryz.ntmps7
    go_wp2_with (first | (go_at_call_of 17 nm; refine (H1 _).mono ?_; rintro e w' ⟨rfl, rfl⟩) | (go_at_call_of 17 su; refine (H2 _).mono ?_; rintro e w' ⟨rfl, rfl⟩))
    go_ret
    exact ⟨ret_b e.out.symm, b0⟩
  have HQ3 : Hid (R = (allI (fun k f => classB (nums f) && (splace im f == ((k : Nat) : Int))) 0 im && (allI (fun k f => fieldB f && (fplace fs f.name == ((k : Nat) : Int))) 0 fs && allI (fun k f => (f.abstract == ifc) && ((mplace ms f.name == ((k : Nat) : Int)) && methP f)) 0 ms))) := by show _ = _; rw [HQ2.out, hbad]; rfl
  clear HQ2
  have HM : Hid _ := M
  obtain ⟨z0, z1, z2, z3, z4, z5⟩ := M
  have HGO : ifc = false ∨ (ifc = true ∧ qo = true ∧ qf = false) := by
    cases ifc
    · exact .inl rfl
    · right
      cases qo <;> cases qf <;> simp_all
  clear hbad
  rcases HGO with rfl | ⟨rfl, rfl, rfl⟩
  case inl =>
    go_enter Tryz.func7, Tryz.ntmps7
    go_wp2_with (first | (go_at_call_of 17 nm; refine (H1 _).mono ?_; rintro e w' ⟨rfl, rfl⟩) | (go_at_call_of 17 su; refine (H2 _).mono ?_; rintro e w' ⟨rfl, rfl⟩))
    go_loopw [3] (fun i wr => ∃ k : Nat, k ≤ im.length ∧ i = .int .i64 k ∧ allI (fun k f => classB (nums f) && (splace im f == ((k : Nat) : Int))) k (im.drop k) = allI (fun k f => classB (nums f) && (splace im f == ((k : Nat) : Int))) 0 im ∧ ClsCells wr w.heap.size (.string nm) (.string su) (.bool false) (.slice a3 im.length c3) (.slice a4 fs.length c4) (.slice a5 ms.length c5) ∧ Below w.heap.size w wr) (fun i _ => im.length - (intOf i).toNat)
    case atStart => exact ⟨0, by omega, rfl, rfl, HM.out, b0⟩
    case round =>
      clear z0 z1 z2 z3 z4 z5 b0 HM
      obtain ⟨k, hk, rfl, hall, M, hbel⟩ := hrel
      have HA : Hid _ := hall
      have HM : Hid _ := M
      obtain ⟨z0, z1, z2, z3, z4, z5⟩ := M
      clear hall
      by_cases hlk : k < im.length
      case pos =>
        obtain ⟨aa, cc, ev, _, _, _, hx9⟩ := (HV.out wr hbel).impl
        simp only [Value.slice.injEq, true_and] at ev
        obtain ⟨rfl, rfl⟩ := ev
        obtain ⟨b9, off9, rfl, hb9, hx9⟩ := hx9 (by show 0 < im.length; omega)
        have HXX : Hid (∀ W, Below wr.heap.size wr W → ∀ i (h : i < im.length), strE W b9 (off9 + i * 1) im[i]) := fun W hb i hi => strE_stable _ _ _ _ _ (hx9 i hi) hb
        obtain ⟨c0, c1⟩ := hx9 k hlk
        simp only [Nat.mul_one] at c0
        have HS := allI_step (fun k f => classB (nums f) && (splace im f == ((k : Nat) : Int))) im k hlk
        rw [HA.out] at HS
        have HS2 : Hid _ := HS
        have HC := fun W => class_any im[k] W c1
        clear HS hx9 HA
        have HXk : Hid (∃ X, im[k] = X) := ⟨_, rfl⟩
        obtain ⟨X, hX⟩ := HXk.out
        have HX : Hid _ := hX
        rw [hX] at c0 HC HS2
        clear hX HXk
        cases hqc : classB (nums X)
        case false =>
          have HF : Hid (R = false) := by show _ = _; rw [HQ3.out, HS2.out, hqc]; rfl
          clear HS2 HQ3
          rw [hqc] at HC
          go_wp2_with (go_at_call 17; refine (HC _).mono ?_; rintro e w' ⟨rfl, rfl⟩)
          go_ret
          exact ⟨ret_b HF.out.symm, hbel⟩
        rw [hqc] at HC
        have HQC : Hid _ := hqc
        clear hqc
        rename World => wo
        go_wp2_with (go_at_call 17; refine (HC _).mono ?_; rintro e w' ⟨rfl, rfl⟩)
        go_loopw [4] (fun i wr => ∃ l : Nat, l ≤ k ∧ i = .int .i64 l ∧ (∀ q (hq : q < l), ∃ hq' : q < im.length, (X.toList == (im[q]'hq').toList) = false) ∧ Below wo.heap.size wo wr) (fun i _ => k - (intOf i).toNat)
        case atStart => exact ⟨0, by omega, rfl, fun q hq => absurd hq (by omega), Below.refl _ _⟩
        case round =>
          clear z0 z1 z2 z3 z4 z5 c0
          obtain ⟨l, hl, rfl, hno, hb2⟩ := hrel
          have HNO : Hid _ := hno
          clear hno
          have MM := ClsCells.later HM.out hb2
          have HMM : Hid _ := MM
          obtain ⟨z0, z1, z2, z3, z4, z5⟩ := MM
          have kw := hbel.trans (hb2.mono hbel.size)
          by_cases hlt : l < k
          case pos =>
            obtain ⟨y0, y1⟩ := HXX.out wr hb2 l (by omega)
            obtain ⟨x0, x1⟩ := HXX.out wr hb2 k hlk
            simp only [Nat.mul_one] at x0 y0
            rw [HX.out] at x0
            have HYk : Hid (∃ Y, im[l] = Y) := ⟨_, rfl⟩
            obtain ⟨Y, hY⟩ := HYk.out
            have HY : Hid _ := hY
            rw [hY] at y0
            clear hY HYk
            have hsy : (X.toList == Y.toList) = (Y.toList == X.toList) := by rw [Bool.eq_iff_iff]; simp only [beq_iff_eq]; exact ⟨Eq.symm, Eq.symm⟩
            cases hq : (Y.toList == X.toList)
            case true =>
              have HF : Hid (R = false) := by
                show _ = _
                have hp : place (fun f : ByteArray => X.toList == f.toList) 0 im ≤ ((0 + l : Nat) : Int) := place_miss _ im 0 l (by omega) (by rw [HY.out, hsy, hq])
                have hne : (splace im X == (k : Int)) = false := by
                  unfold splace
                  rw [beq_eq_false_iff_ne]
                  omega
                rw [HQ3.out, HS2.out, hne]
                simp
              clear HS2 HQ3 hsy
              go_wp2_with fail
              go_quiet (fail)
              go_wp2_with fail
              go_ret
              exact ⟨ret_b HF.out.symm, kw.trans ((Joins.below_draws _ _ _).mono kw.size)⟩
            have hno2 : ∀ q (hq : q < l + 1), ∃ hq' : q < im.length, (X.toList == (im[q]'hq').toList) = false := by
              intro q hql
              by_cases hq2 : q < l
              · exact HNO.out q hq2
              · obtain rfl : q = l := by omega
                exact ⟨by omega, by rw [HY.out, hsy, hq]⟩
            have HNO2 : Hid _ := hno2
            clear hno2 hsy
            go_wp2_with fail
            go_quiet (fail)
            go_wp2_with fail
            go_roundw
            case rel => exact ⟨l + 1, by omega, by go_num, HNO2.out, hb2.trans ((Joins.below_draws _ _ _).mono hb2.size)⟩
            case measure => simp [intOf]; omega
          have HF : Hid (allI (fun k f => classB (nums f) && (splace im f == ((k : Nat) : Int))) (k + 1) (im.drop (k + 1)) = allI (fun k f => classB (nums f) && (splace im f == ((k : Nat) : Int))) 0 im) := by
            show _ = _
            have hp : place (fun f : ByteArray => X.toList == f.toList) 0 im = ((0 + k : Nat) : Int) := place_hit _ im 0 k hlk (by rw [HX.out]; simp) (fun j hj => (HNO.out j (by omega)).2)
            have hne : (splace im X == (k : Int)) = true := by
              unfold splace
              rw [hp]
              simp
            rw [HS2.out, HQC.out, hne]
            simp
          clear HS2
          go_wp2_with fail
          go_roundw
          case rel => exact ⟨k + 1, by omega, by go_num, HF.out, HMM.out, kw⟩
          case measure => simp [intOf]; omega
      have HQ4 : Hid (R = (allI (fun k f => fieldB f && (fplace fs f.name == ((k : Nat) : Int))) 0 fs && allI (fun k f => (f.abstract == false) && ((mplace ms f.name == ((k : Nat) : Int)) && methP f)) 0 ms)) := by
        show _ = _
        have h1 : allI (fun k f => classB (nums f) && (splace im f == ((k : Nat) : Int))) 0 im = true := by rw [← HA.out, allI_end _ _ _ (by omega)]
        rw [HQ3.out, h1, Bool.true_and]
      clear HQ3 HA
      go_wp2_with fail
      go_loopw [5, 6] (fun i _ wr => ∃ k : Nat, k ≤ fs.length ∧ i = .int .i64 k ∧ allI (fun k f => fieldB f && (fplace fs f.name == ((k : Nat) : Int))) k (fs.drop k) = allI (fun k f => fieldB f && (fplace fs f.name == ((k : Nat) : Int))) 0 fs ∧ ClsCells wr w.heap.size (.string nm) (.string su) (.bool false) (.slice a3 im.length c3) (.slice a4 fs.length c4) (.slice a5 ms.length c5) ∧ Below w.heap.size w wr) (fun i _ _ => fs.length - (intOf i).toNat)
      case atStart => exact ⟨0, by omega, rfl, rfl, HM.out, hbel⟩
      case round =>
        clear z0 z1 z2 z3 z4 z5 hbel HM hlk
        obtain ⟨kf, hkf, rfl, hall, M, hbel⟩ := hrel
        have HA : Hid _ := hall
        have HM : Hid _ := M
        obtain ⟨z0, z1, z2, z3, z4, z5⟩ := M
        clear hall
        by_cases hlk : kf < fs.length
        case pos =>
          obtain ⟨aa, cc, ev, _, _, _, hx9⟩ := (HV.out wr hbel).fields
          simp only [Value.slice.injEq, true_and] at ev
          obtain ⟨rfl, rfl⟩ := ev
          obtain ⟨b9, off9, rfl, hb9, hx9⟩ := hx9 (by show 0 < fs.length; omega)
          obtain ⟨x0, x1, x2, s0, s1⟩ := hx9 kf hlk
          have HS := allI_step (fun k f => fieldB f && (fplace fs f.name == ((k : Nat) : Int))) fs kf hlk
          rw [HA.out] at HS
          have HS2 : Hid _ := HS
          clear HS hx9 HA
          generalize fs[kf] = X at *
          obtain ⟨fn, ft, fst⟩ := X
          simp only at x0 x1 x2 s0 s1 HS2
          have e1 := (Below.refl wr.heap.size wr).alloc (Nat.le_refl _) (.cells #[.string fn, .string ft, .bool fst] 45)
          have k1 := hbel.trans (e1.mono hbel.size)
          have MM := ClsCells.later HM.out e1
          have HMM : Hid _ := MM
          obtain ⟨t0, t1, t2, t3, t4, t5⟩ := MM
          have hfi := beq_nums fn [36, 105, 110, 105, 116] initL rfl
          have HN := fun W => name_any fn W s0
          have HMY := fun W => may_any ft W s1
          have HFD := field_any _ _ _ _ fn _ (HV.out _ k1) s0
          simp only [clsVal] at HFD
          have hfp : fieldP ⟨nm, su, false, im, fs, ms⟩ fn = fplace fs fn := rfl
          rw [hfp] at HFD
          have HFB : Hid (fieldB ⟨fn, ft, fst⟩ = (!(nums fn == initL) && (nameB (nums fn) && mayB (nums ft)))) := rfl
          rw [HFB.out] at HS2
          clear hfp HFB
          generalize fplace fs fn = p at *
          generalize (nums fn == initL) = qi at *
          generalize nameB (nums fn) = qn at *
          generalize mayB (nums ft) = qm at *
          cases qn
          case false =>
            have HF : Hid (R = false) := by show _ = _; rw [HQ4.out, HS2.out]; simp
            clear HS2 HQ4 HFD
            go_wp2_with (first | (go_at_call 18; refine (HN _).mono ?_; rintro e w' ⟨rfl, rfl⟩) | (go_at_call 19; refine (HMY _).mono ?_; rintro e w' ⟨rfl, rfl⟩))
            go_ret
            exact ⟨ret_b HF.out.symm, k1⟩
          cases qi
          case true =>
            have HF : Hid (R = false) := by show _ = _; rw [HQ4.out, HS2.out]; simp
            clear HS2 HQ4 HFD
            go_wp2_with (first | (go_at_call 18; refine (HN _).mono ?_; rintro e w' ⟨rfl, rfl⟩) | (go_at_call 19; refine (HMY _).mono ?_; rintro e w' ⟨rfl, rfl⟩))
            go_ret
            exact ⟨ret_b HF.out.symm, k1⟩
          cases qm
          case false =>
            have HF : Hid (R = false) := by show _ = _; rw [HQ4.out, HS2.out]; simp
            clear HS2 HQ4 HFD
            go_wp2_with (first | (go_at_call 18; refine (HN _).mono ?_; rintro e w' ⟨rfl, rfl⟩) | (go_at_call 19; refine (HMY _).mono ?_; rintro e w' ⟨rfl, rfl⟩))
            go_ret
            exact ⟨ret_b HF.out.symm, k1⟩
          cases hpk : (p == (kf : Int))
          case false =>
            have HF : Hid (R = false) := by show _ = _; rw [HQ4.out, HS2.out, hpk]; rfl
            have hpk' : (p != (kf : Int)) = true := by simp only [bne, hpk]; rfl
            clear HS2 HQ4 hpk
            go_wp2_with (first | (go_at_call 18; refine (HN _).mono ?_; rintro e w' ⟨rfl, rfl⟩) | (go_at_call 19; refine (HMY _).mono ?_; rintro e w' ⟨rfl, rfl⟩))
            refine HFD.mono ?_
            rintro e w3 ⟨rfl, b3⟩
            have k3 := k1.trans (b3.mono k1.size)
            go_wp2_with fail
            go_ret
            exact ⟨ret_b HF.out.symm, k3⟩
          have HF : Hid (allI (fun k f => fieldB f && (fplace fs f.name == ((k : Nat) : Int))) (kf + 1) (fs.drop (kf + 1)) = allI (fun k f => fieldB f && (fplace fs f.name == ((k : Nat) : Int))) 0 fs) := by show _ = _; rw [HS2.out, hpk]; rfl
          have hpk' : (p != (kf : Int)) = false := by simp only [bne, hpk]; rfl
          clear HS2 hpk
          go_wp2_with (first | (go_at_call 18; refine (HN _).mono ?_; rintro e w' ⟨rfl, rfl⟩) | (go_at_call 19; refine (HMY _).mono ?_; rintro e w' ⟨rfl, rfl⟩))
          refine HFD.mono ?_
          rintro e w3 ⟨rfl, b3⟩
          have k3 := k1.trans (b3.mono k1.size)
          go_wp2_with fail
          go_roundw
          case rel => exact ⟨kf + 1, by omega, by go_num, HF.out, ClsCells.later HMM.out b3, k3⟩
          case measure => simp [intOf]; omega
        have HQ5 : Hid (R = allI (fun k f => (f.abstract == false) && ((mplace ms f.name == ((k : Nat) : Int)) && methP f)) 0 ms) := by
          show _ = _
          have h1 : allI (fun k f => fieldB f && (fplace fs f.name == ((k : Nat) : Int))) 0 fs = true := by rw [← HA.out, allI_end _ _ _ (by omega)]
          rw [HQ4.out, h1, Bool.true_and]
        clear HQ4 HA
        go_wp2_with fail
        go_loopw [7, 8] (fun i _ wr => ∃ k : Nat, k ≤ ms.length ∧ i = .int .i64 k ∧ allI (fun k f => (f.abstract == false) && ((mplace ms f.name == ((k : Nat) : Int)) && methP f)) k (ms.drop k) = allI (fun k f => (f.abstract == false) && ((mplace ms f.name == ((k : Nat) : Int)) && methP f)) 0 ms ∧ ClsCells wr w.heap.size (.string nm) (.string su) (.bool false) (.slice a3 im.length c3) (.slice a4 fs.length c4) (.slice a5 ms.length c5) ∧ Below w.heap.size w wr) (fun i _ _ => ms.length - (intOf i).toNat)
        case atStart => exact ⟨0, by omega, rfl, rfl, HM.out, hbel⟩
        case round =>
          clear z0 z1 z2 z3 z4 z5 hbel HM hlk
          obtain ⟨km, hkm, rfl, hall, M, hbel⟩ := hrel
          have HA : Hid _ := hall
          have HM : Hid _ := M
          obtain ⟨z0, z1, z2, z3, z4, z5⟩ := M
          clear hall
          by_cases hlk : km < ms.length
          case pos =>
            obtain ⟨aa, cc, ev, _, _, _, hx9⟩ := (HV.out wr hbel).methods
            simp only [Value.slice.injEq, true_and] at ev
            obtain ⟨rfl, rfl⟩ := ev
            obtain ⟨b9, off9, rfl, hb9, hx9⟩ := hx9 (by show 0 < ms.length; omega)
            obtain ⟨v1, v7, v8, v9, MV, hce⟩ := hx9 km hlk
            have HS := allI_step (fun k f => (f.abstract == false) && ((mplace ms f.name == ((k : Nat) : Int)) && methP f)) ms km hlk
            rw [HA.out] at HS
            have HS2 : Hid _ := HS
            clear HS hx9 HA
            simp only at hce MV
            generalize ms[km] = X at *
            obtain ⟨mn, ps, rt, st, ab, lo, sk, code, maps, traps⟩ := X
            have x0 := hce 0 (by decide)
            have x1 := hce 1 (by decide)
            have x2 := hce 2 (by decide)
            have x3 := hce 3 (by decide)
            have x4 := hce 4 (by decide)
            have x5 := hce 5 (by decide)
            have x6 := hce 6 (by decide)
            have x7 := hce 7 (by decide)
            have x8 := hce 8 (by decide)
            have x9 := hce 9 (by decide)
            simp only [methCells, List.getElem?_toArray, List.getElem?_cons_zero, List.getElem?_cons_succ, Nat.add_zero] at x0 x1 x2 x3 x4 x5 x6 x7 x8 x9
            simp only at HS2
            clear hce
            have HVV : Hid _ := MV
            obtain ⟨a1, cp1, rfl, _, _, _, hz1⟩ := MV.params
            obtain ⟨a7, cp7, rfl, _, _, _, hz7⟩ := MV.code
            obtain ⟨a8, cp8, rfl, _, _, _, hz8⟩ := MV.maps
            obtain ⟨a9, cp9, rfl, _, _, _, hz9⟩ := MV.traps
            simp only at x1 x7 x8 x9 HVV
            clear MV hz1 hz7 hz8 hz9
            have e1 := (Below.refl wr.heap.size wr).alloc (Nat.le_refl _) (.cells #[.string mn, .slice a1 ps.length cp1, .string rt, .bool st, .bool ab, .int .i64 lo, .int .i64 sk, .slice a7 code.length cp7, .slice a8 maps.length cp8, .slice a9 traps.length cp9] 35)
            have k1 := hbel.trans (e1.mono hbel.size)
            have MM := ClsCells.later HM.out e1
            have HMM : Hid _ := MM
            obtain ⟨t0, t1, t2, t3, t4, t5⟩ := MM
            have MC := MethCells.new wr mn (.slice a1 ps.length cp1) rt st ab lo sk (.slice a7 code.length cp7) (.slice a8 maps.length cp8) (.slice a9 traps.length cp9) 35
            have HMC : Hid _ := MC
            clear MC
            have HFD := method_any _ _ _ _ mn _ (HV.out _ k1) (by have := HVV.out.s0; exact this)
            simp only [clsVal] at HFD
            have hfp : methodP ⟨nm, su, false, im, fs, ms⟩ mn = mplace ms mn := rfl
            rw [hfp] at HFD
            have HRM : Hid (∀ W, Below (wr.alloc (.cells #[.string mn, .slice a1 ps.length cp1, .string rt, .bool st, .bool ab, .int .i64 lo, .int .i64 sk, .slice a7 code.length cp7, .slice a8 maps.length cp8, .slice a9 traps.length cp9] 35)).heap.size (wr.alloc (.cells #[.string mn, .slice a1 ps.length cp1, .string rt, .bool st, .bool ab, .int .i64 lo, .int .i64 sk, .slice a7 code.length cp7, .slice a8 maps.length cp8, .slice a9 traps.length cp9] 35)) W → _) := fun W hb => rmeth_any _ _ _ _ _ W (MethV.later HVV.out (e1.trans (hb.mono e1.size)))
            simp only [methVal, methCells] at HRM
            clear hfp HVV
            generalize mplace ms mn = p at *
            generalize methP ⟨mn, ps, rt, st, ab, lo, sk, code, maps, traps⟩ = qm at *
            cases hab : (ab == false)
            case false =>
              have HF : Hid (R = false) := by show _ = _; rw [HQ5.out, HS2.out, hab]; rfl
              have hab' : (ab != false) = true := by simp only [bne, hab]; rfl
              obtain rfl : ab = true := by cases ab <;> simp_all
              clear HS2 HQ5 HFD HRM HMC hab hab'
              go_wp2_with fail
              go_ret
              exact ⟨ret_b HF.out.symm, k1⟩
            obtain rfl : ab = false := by simpa using hab
            clear hab
            cases hpk : (p == (km : Int))
            case false =>
              have HF : Hid (R = false) := by show _ = _; rw [HQ5.out, HS2.out, hpk]; rfl
              have hpk' : (p != (km : Int)) = true := by simp only [bne, hpk]; rfl
              clear HS2 HQ5 hpk HRM HMC
              go_wp2_with fail
              refine HFD.mono ?_
              rintro e w3 ⟨rfl, b3⟩
              have k3 := k1.trans (b3.mono k1.size)
              go_wp2_with fail
              go_ret
              exact ⟨ret_b HF.out.symm, k3⟩
            have hpk' : (p != (km : Int)) = false := by simp only [bne, hpk]; rfl
            cases qm
            case false =>
              have HF : Hid (R = false) := by show _ = _; rw [HQ5.out, HS2.out, hpk]; rfl
              clear HS2 HQ5 hpk
              go_wp2_with fail
              refine HFD.mono ?_
              rintro e w3 ⟨rfl, b3⟩
              have k3 := k1.trans (b3.mono k1.size)
              obtain ⟨r0, r1, r2, r3, r4, r5, r6, r7, r8, r9⟩ := MethCells.later HMC.out b3
              go_wp2_with fail
              refine (HRM.out _ b3).mono ?_
              rintro e w5 ⟨rfl, b5⟩
              have k5 := k3.trans (b5.mono k3.size)
              go_wp2_with fail
              go_ret
              exact ⟨ret_b HF.out.symm, k5⟩
            have HF : Hid (allI (fun k f => (f.abstract == false) && ((mplace ms f.name == ((k : Nat) : Int)) && methP f)) (km + 1) (ms.drop (km + 1)) = allI (fun k f => (f.abstract == false) && ((mplace ms f.name == ((k : Nat) : Int)) && methP f)) 0 ms) := by show _ = _; rw [HS2.out, hpk]; rfl
            clear HS2 hpk
            go_wp2_with fail
            refine HFD.mono ?_
            rintro e w3 ⟨rfl, b3⟩
            have k3 := k1.trans (b3.mono k1.size)
            obtain ⟨r0, r1, r2, r3, r4, r5, r6, r7, r8, r9⟩ := MethCells.later HMC.out b3
            go_wp2_with fail
            refine (HRM.out _ b3).mono ?_
            rintro e w5 ⟨rfl, b5⟩
            have k5 := k3.trans (b5.mono k3.size)
            have M5 := ClsCells.later (ClsCells.later HMM.out b3) b5
            go_wp2_with fail
            go_roundw
            case rel => exact ⟨km + 1, by omega, by go_num, HF.out, M5, k5⟩
            case measure => simp [intOf]; omega
          have HF : Hid (R = true) := by show _ = _; rw [HQ5.out, ← HA.out, allI_end _ _ _ (by omega)]
          clear HQ5 HA
          go_wp2_with fail
          go_ret
          exact ⟨ret_b HF.out.symm, hbel⟩
  go_enter Tryz.func7, Tryz.ntmps7
  go_wp2_with (first | (go_at_call_of 17 nm; refine (H1 _).mono ?_; rintro e w' ⟨rfl, rfl⟩) | (go_at_call_of 17 su; refine (H2 _).mono ?_; rintro e w' ⟨rfl, rfl⟩))
  go_loopw [3] (fun i wr => ∃ k : Nat, k ≤ im.length ∧ i = .int .i64 k ∧ allI (fun k f => classB (nums f) && (splace im f == ((k : Nat) : Int))) k (im.drop k) = allI (fun k f => classB (nums f) && (splace im f == ((k : Nat) : Int))) 0 im ∧ ClsCells wr w.heap.size (.string nm) (.string su) (.bool true) (.slice a3 im.length c3) (.slice a4 fs.length c4) (.slice a5 ms.length c5) ∧ Below w.heap.size w wr) (fun i _ => im.length - (intOf i).toNat)
  case atStart => exact ⟨0, by omega, rfl, rfl, HM.out, b0⟩
  case round =>
    clear z0 z1 z2 z3 z4 z5 b0 HM
    obtain ⟨k, hk, rfl, hall, M, hbel⟩ := hrel
    have HA : Hid _ := hall
    have HM : Hid _ := M
    obtain ⟨z0, z1, z2, z3, z4, z5⟩ := M
    clear hall
    by_cases hlk : k < im.length
    case pos =>
      obtain ⟨aa, cc, ev, _, _, _, hx9⟩ := (HV.out wr hbel).impl
      simp only [Value.slice.injEq, true_and] at ev
      obtain ⟨rfl, rfl⟩ := ev
      obtain ⟨b9, off9, rfl, hb9, hx9⟩ := hx9 (by show 0 < im.length; omega)
      have HXX : Hid (∀ W, Below wr.heap.size wr W → ∀ i (h : i < im.length), strE W b9 (off9 + i * 1) im[i]) := fun W hb i hi => strE_stable _ _ _ _ _ (hx9 i hi) hb
      obtain ⟨c0, c1⟩ := hx9 k hlk
      simp only [Nat.mul_one] at c0
      have HS := allI_step (fun k f => classB (nums f) && (splace im f == ((k : Nat) : Int))) im k hlk
      rw [HA.out] at HS
      have HS2 : Hid _ := HS
      have HC := fun W => class_any im[k] W c1
      clear HS hx9 HA
      have HXk : Hid (∃ X, im[k] = X) := ⟨_, rfl⟩
      obtain ⟨X, hX⟩ := HXk.out
      have HX : Hid _ := hX
      rw [hX] at c0 HC HS2
      clear hX HXk
      cases hqc : classB (nums X)
      case false =>
        have HF : Hid (R = false) := by show _ = _; rw [HQ3.out, HS2.out, hqc]; rfl
        clear HS2 HQ3
        rw [hqc] at HC
        go_wp2_with (go_at_call 17; refine (HC _).mono ?_; rintro e w' ⟨rfl, rfl⟩)
        go_ret
        exact ⟨ret_b HF.out.symm, hbel⟩
      rw [hqc] at HC
      have HQC : Hid _ := hqc
      clear hqc
      rename World => wo
      go_wp2_with (go_at_call 17; refine (HC _).mono ?_; rintro e w' ⟨rfl, rfl⟩)
      go_loopw [4] (fun i wr => ∃ l : Nat, l ≤ k ∧ i = .int .i64 l ∧ (∀ q (hq : q < l), ∃ hq' : q < im.length, (X.toList == (im[q]'hq').toList) = false) ∧ Below wo.heap.size wo wr) (fun i _ => k - (intOf i).toNat)
      case atStart => exact ⟨0, by omega, rfl, fun q hq => absurd hq (by omega), Below.refl _ _⟩
      case round =>
        clear z0 z1 z2 z3 z4 z5 c0
        obtain ⟨l, hl, rfl, hno, hb2⟩ := hrel
        have HNO : Hid _ := hno
        clear hno
        have MM := ClsCells.later HM.out hb2
        have HMM : Hid _ := MM
        obtain ⟨z0, z1, z2, z3, z4, z5⟩ := MM
        have kw := hbel.trans (hb2.mono hbel.size)
        by_cases hlt : l < k
        case pos =>
          obtain ⟨y0, y1⟩ := HXX.out wr hb2 l (by omega)
          obtain ⟨x0, x1⟩ := HXX.out wr hb2 k hlk
          simp only [Nat.mul_one] at x0 y0
          rw [HX.out] at x0
          have HYk : Hid (∃ Y, im[l] = Y) := ⟨_, rfl⟩
          obtain ⟨Y, hY⟩ := HYk.out
          have HY : Hid _ := hY
          rw [hY] at y0
          clear hY HYk
          have hsy : (X.toList == Y.toList) = (Y.toList == X.toList) := by rw [Bool.eq_iff_iff]; simp only [beq_iff_eq]; exact ⟨Eq.symm, Eq.symm⟩
          cases hq : (Y.toList == X.toList)
          case true =>
            have HF : Hid (R = false) := by
              show _ = _
              have hp : place (fun f : ByteArray => X.toList == f.toList) 0 im ≤ ((0 + l : Nat) : Int) := place_miss _ im 0 l (by omega) (by rw [HY.out, hsy, hq])
              have hne : (splace im X == (k : Int)) = false := by
                unfold splace
                rw [beq_eq_false_iff_ne]
                omega
              rw [HQ3.out, HS2.out, hne]
              simp
            clear HS2 HQ3 hsy
            go_wp2_with fail
            go_quiet (fail)
            go_wp2_with fail
            go_ret
            exact ⟨ret_b HF.out.symm, kw.trans ((Joins.below_draws _ _ _).mono kw.size)⟩
          have hno2 : ∀ q (hq : q < l + 1), ∃ hq' : q < im.length, (X.toList == (im[q]'hq').toList) = false := by
            intro q hql
            by_cases hq2 : q < l
            · exact HNO.out q hq2
            · obtain rfl : q = l := by omega
              exact ⟨by omega, by rw [HY.out, hsy, hq]⟩
          have HNO2 : Hid _ := hno2
          clear hno2 hsy
          go_wp2_with fail
          go_quiet (fail)
          go_wp2_with fail
          go_roundw
          case rel => exact ⟨l + 1, by omega, by go_num, HNO2.out, hb2.trans ((Joins.below_draws _ _ _).mono hb2.size)⟩
          case measure => simp [intOf]; omega
        have HF : Hid (allI (fun k f => classB (nums f) && (splace im f == ((k : Nat) : Int))) (k + 1) (im.drop (k + 1)) = allI (fun k f => classB (nums f) && (splace im f == ((k : Nat) : Int))) 0 im) := by
          show _ = _
          have hp : place (fun f : ByteArray => X.toList == f.toList) 0 im = ((0 + k : Nat) : Int) := place_hit _ im 0 k hlk (by rw [HX.out]; simp) (fun j hj => (HNO.out j (by omega)).2)
          have hne : (splace im X == (k : Int)) = true := by
            unfold splace
            rw [hp]
            simp
          rw [HS2.out, HQC.out, hne]
          simp
        clear HS2
        go_wp2_with fail
        go_roundw
        case rel => exact ⟨k + 1, by omega, by go_num, HF.out, HMM.out, kw⟩
        case measure => simp [intOf]; omega
    have HQ4 : Hid (R = (allI (fun k f => fieldB f && (fplace fs f.name == ((k : Nat) : Int))) 0 fs && allI (fun k f => (f.abstract == true) && ((mplace ms f.name == ((k : Nat) : Int)) && methP f)) 0 ms)) := by
      show _ = _
      have h1 : allI (fun k f => classB (nums f) && (splace im f == ((k : Nat) : Int))) 0 im = true := by rw [← HA.out, allI_end _ _ _ (by omega)]
      rw [HQ3.out, h1, Bool.true_and]
    clear HQ3 HA
    go_wp2_with fail
    go_loopw [5, 6] (fun i _ wr => ∃ k : Nat, k ≤ fs.length ∧ i = .int .i64 k ∧ allI (fun k f => fieldB f && (fplace fs f.name == ((k : Nat) : Int))) k (fs.drop k) = allI (fun k f => fieldB f && (fplace fs f.name == ((k : Nat) : Int))) 0 fs ∧ ClsCells wr w.heap.size (.string nm) (.string su) (.bool true) (.slice a3 im.length c3) (.slice a4 fs.length c4) (.slice a5 ms.length c5) ∧ Below w.heap.size w wr) (fun i _ _ => fs.length - (intOf i).toNat)
    case atStart => exact ⟨0, by omega, rfl, rfl, HM.out, hbel⟩
    case round =>
      clear z0 z1 z2 z3 z4 z5 hbel HM hlk
      obtain ⟨kf, hkf, rfl, hall, M, hbel⟩ := hrel
      have HA : Hid _ := hall
      have HM : Hid _ := M
      obtain ⟨z0, z1, z2, z3, z4, z5⟩ := M
      clear hall
      by_cases hlk : kf < fs.length
      case pos =>
        obtain ⟨aa, cc, ev, _, _, _, hx9⟩ := (HV.out wr hbel).fields
        simp only [Value.slice.injEq, true_and] at ev
        obtain ⟨rfl, rfl⟩ := ev
        obtain ⟨b9, off9, rfl, hb9, hx9⟩ := hx9 (by show 0 < fs.length; omega)
        obtain ⟨x0, x1, x2, s0, s1⟩ := hx9 kf hlk
        have HS := allI_step (fun k f => fieldB f && (fplace fs f.name == ((k : Nat) : Int))) fs kf hlk
        rw [HA.out] at HS
        have HS2 : Hid _ := HS
        clear HS hx9 HA
        generalize fs[kf] = X at *
        obtain ⟨fn, ft, fst⟩ := X
        simp only at x0 x1 x2 s0 s1 HS2
        have e1 := (Below.refl wr.heap.size wr).alloc (Nat.le_refl _) (.cells #[.string fn, .string ft, .bool fst] 45)
        have k1 := hbel.trans (e1.mono hbel.size)
        have MM := ClsCells.later HM.out e1
        have HMM : Hid _ := MM
        obtain ⟨t0, t1, t2, t3, t4, t5⟩ := MM
        have hfi := beq_nums fn [36, 105, 110, 105, 116] initL rfl
        have HN := fun W => name_any fn W s0
        have HMY := fun W => may_any ft W s1
        have HFD := field_any _ _ _ _ fn _ (HV.out _ k1) s0
        simp only [clsVal] at HFD
        have hfp : fieldP ⟨nm, su, true, im, fs, ms⟩ fn = fplace fs fn := rfl
        rw [hfp] at HFD
        have HFB : Hid (fieldB ⟨fn, ft, fst⟩ = (!(nums fn == initL) && (nameB (nums fn) && mayB (nums ft)))) := rfl
        rw [HFB.out] at HS2
        clear hfp HFB
        generalize fplace fs fn = p at *
        generalize (nums fn == initL) = qi at *
        generalize nameB (nums fn) = qn at *
        generalize mayB (nums ft) = qm at *
        cases qn
        case false =>
          have HF : Hid (R = false) := by show _ = _; rw [HQ4.out, HS2.out]; simp
          clear HS2 HQ4 HFD
          go_wp2_with (first | (go_at_call 18; refine (HN _).mono ?_; rintro e w' ⟨rfl, rfl⟩) | (go_at_call 19; refine (HMY _).mono ?_; rintro e w' ⟨rfl, rfl⟩))
          go_ret
          exact ⟨ret_b HF.out.symm, k1⟩
        cases qi
        case true =>
          have HF : Hid (R = false) := by show _ = _; rw [HQ4.out, HS2.out]; simp
          clear HS2 HQ4 HFD
          go_wp2_with (first | (go_at_call 18; refine (HN _).mono ?_; rintro e w' ⟨rfl, rfl⟩) | (go_at_call 19; refine (HMY _).mono ?_; rintro e w' ⟨rfl, rfl⟩))
          go_ret
          exact ⟨ret_b HF.out.symm, k1⟩
        cases qm
        case false =>
          have HF : Hid (R = false) := by show _ = _; rw [HQ4.out, HS2.out]; simp
          clear HS2 HQ4 HFD
          go_wp2_with (first | (go_at_call 18; refine (HN _).mono ?_; rintro e w' ⟨rfl, rfl⟩) | (go_at_call 19; refine (HMY _).mono ?_; rintro e w' ⟨rfl, rfl⟩))
          go_ret
          exact ⟨ret_b HF.out.symm, k1⟩
        cases hpk : (p == (kf : Int))
        case false =>
          have HF : Hid (R = false) := by show _ = _; rw [HQ4.out, HS2.out, hpk]; rfl
          have hpk' : (p != (kf : Int)) = true := by simp only [bne, hpk]; rfl
          clear HS2 HQ4 hpk
          go_wp2_with (first | (go_at_call 18; refine (HN _).mono ?_; rintro e w' ⟨rfl, rfl⟩) | (go_at_call 19; refine (HMY _).mono ?_; rintro e w' ⟨rfl, rfl⟩))
          refine HFD.mono ?_
          rintro e w3 ⟨rfl, b3⟩
          have k3 := k1.trans (b3.mono k1.size)
          go_wp2_with fail
          go_ret
          exact ⟨ret_b HF.out.symm, k3⟩
        have HF : Hid (allI (fun k f => fieldB f && (fplace fs f.name == ((k : Nat) : Int))) (kf + 1) (fs.drop (kf + 1)) = allI (fun k f => fieldB f && (fplace fs f.name == ((k : Nat) : Int))) 0 fs) := by show _ = _; rw [HS2.out, hpk]; rfl
        have hpk' : (p != (kf : Int)) = false := by simp only [bne, hpk]; rfl
        clear HS2 hpk
        go_wp2_with (first | (go_at_call 18; refine (HN _).mono ?_; rintro e w' ⟨rfl, rfl⟩) | (go_at_call 19; refine (HMY _).mono ?_; rintro e w' ⟨rfl, rfl⟩))
        refine HFD.mono ?_
        rintro e w3 ⟨rfl, b3⟩
        have k3 := k1.trans (b3.mono k1.size)
        go_wp2_with fail
        go_roundw
        case rel => exact ⟨kf + 1, by omega, by go_num, HF.out, ClsCells.later HMM.out b3, k3⟩
        case measure => simp [intOf]; omega
      have HQ5 : Hid (R = allI (fun k f => (f.abstract == true) && ((mplace ms f.name == ((k : Nat) : Int)) && methP f)) 0 ms) := by
        show _ = _
        have h1 : allI (fun k f => fieldB f && (fplace fs f.name == ((k : Nat) : Int))) 0 fs = true := by rw [← HA.out, allI_end _ _ _ (by omega)]
        rw [HQ4.out, h1, Bool.true_and]
      clear HQ4 HA
      go_wp2_with fail
      go_loopw [7, 8] (fun i _ wr => ∃ k : Nat, k ≤ ms.length ∧ i = .int .i64 k ∧ allI (fun k f => (f.abstract == true) && ((mplace ms f.name == ((k : Nat) : Int)) && methP f)) k (ms.drop k) = allI (fun k f => (f.abstract == true) && ((mplace ms f.name == ((k : Nat) : Int)) && methP f)) 0 ms ∧ ClsCells wr w.heap.size (.string nm) (.string su) (.bool true) (.slice a3 im.length c3) (.slice a4 fs.length c4) (.slice a5 ms.length c5) ∧ Below w.heap.size w wr) (fun i _ _ => ms.length - (intOf i).toNat)
      case atStart => exact ⟨0, by omega, rfl, rfl, HM.out, hbel⟩
      case round =>
        clear z0 z1 z2 z3 z4 z5 hbel HM hlk
        obtain ⟨km, hkm, rfl, hall, M, hbel⟩ := hrel
        have HA : Hid _ := hall
        have HM : Hid _ := M
        obtain ⟨z0, z1, z2, z3, z4, z5⟩ := M
        clear hall
        by_cases hlk : km < ms.length
        case pos =>
          obtain ⟨aa, cc, ev, _, _, _, hx9⟩ := (HV.out wr hbel).methods
          simp only [Value.slice.injEq, true_and] at ev
          obtain ⟨rfl, rfl⟩ := ev
          obtain ⟨b9, off9, rfl, hb9, hx9⟩ := hx9 (by show 0 < ms.length; omega)
          obtain ⟨v1, v7, v8, v9, MV, hce⟩ := hx9 km hlk
          have HS := allI_step (fun k f => (f.abstract == true) && ((mplace ms f.name == ((k : Nat) : Int)) && methP f)) ms km hlk
          rw [HA.out] at HS
          have HS2 : Hid _ := HS
          clear HS hx9 HA
          simp only at hce MV
          generalize ms[km] = X at *
          obtain ⟨mn, ps, rt, st, ab, lo, sk, code, maps, traps⟩ := X
          have x0 := hce 0 (by decide)
          have x1 := hce 1 (by decide)
          have x2 := hce 2 (by decide)
          have x3 := hce 3 (by decide)
          have x4 := hce 4 (by decide)
          have x5 := hce 5 (by decide)
          have x6 := hce 6 (by decide)
          have x7 := hce 7 (by decide)
          have x8 := hce 8 (by decide)
          have x9 := hce 9 (by decide)
          simp only [methCells, List.getElem?_toArray, List.getElem?_cons_zero, List.getElem?_cons_succ, Nat.add_zero] at x0 x1 x2 x3 x4 x5 x6 x7 x8 x9
          simp only at HS2
          clear hce
          have HVV : Hid _ := MV
          obtain ⟨a1, cp1, rfl, _, _, _, hz1⟩ := MV.params
          obtain ⟨a7, cp7, rfl, _, _, _, hz7⟩ := MV.code
          obtain ⟨a8, cp8, rfl, _, _, _, hz8⟩ := MV.maps
          obtain ⟨a9, cp9, rfl, _, _, _, hz9⟩ := MV.traps
          simp only at x1 x7 x8 x9 HVV
          clear MV hz1 hz7 hz8 hz9
          have e1 := (Below.refl wr.heap.size wr).alloc (Nat.le_refl _) (.cells #[.string mn, .slice a1 ps.length cp1, .string rt, .bool st, .bool ab, .int .i64 lo, .int .i64 sk, .slice a7 code.length cp7, .slice a8 maps.length cp8, .slice a9 traps.length cp9] 35)
          have k1 := hbel.trans (e1.mono hbel.size)
          have MM := ClsCells.later HM.out e1
          have HMM : Hid _ := MM
          obtain ⟨t0, t1, t2, t3, t4, t5⟩ := MM
          have MC := MethCells.new wr mn (.slice a1 ps.length cp1) rt st ab lo sk (.slice a7 code.length cp7) (.slice a8 maps.length cp8) (.slice a9 traps.length cp9) 35
          have HMC : Hid _ := MC
          clear MC
          have HFD := method_any _ _ _ _ mn _ (HV.out _ k1) (by have := HVV.out.s0; exact this)
          simp only [clsVal] at HFD
          have hfp : methodP ⟨nm, su, true, im, fs, ms⟩ mn = mplace ms mn := rfl
          rw [hfp] at HFD
          have HRM : Hid (∀ W, Below (wr.alloc (.cells #[.string mn, .slice a1 ps.length cp1, .string rt, .bool st, .bool ab, .int .i64 lo, .int .i64 sk, .slice a7 code.length cp7, .slice a8 maps.length cp8, .slice a9 traps.length cp9] 35)).heap.size (wr.alloc (.cells #[.string mn, .slice a1 ps.length cp1, .string rt, .bool st, .bool ab, .int .i64 lo, .int .i64 sk, .slice a7 code.length cp7, .slice a8 maps.length cp8, .slice a9 traps.length cp9] 35)) W → _) := fun W hb => rmeth_any _ _ _ _ _ W (MethV.later HVV.out (e1.trans (hb.mono e1.size)))
          simp only [methVal, methCells] at HRM
          clear hfp HVV
          generalize mplace ms mn = p at *
          generalize methP ⟨mn, ps, rt, st, ab, lo, sk, code, maps, traps⟩ = qm at *
          cases hab : (ab == true)
          case false =>
            have HF : Hid (R = false) := by show _ = _; rw [HQ5.out, HS2.out, hab]; rfl
            have hab' : (ab != true) = true := by simp only [bne, hab]; rfl
            obtain rfl : ab = false := by cases ab <;> simp_all
            clear HS2 HQ5 HFD HRM HMC hab hab'
            go_wp2_with fail
            go_ret
            exact ⟨ret_b HF.out.symm, k1⟩
          obtain rfl : ab = true := by simpa using hab
          clear hab
          cases hpk : (p == (km : Int))
          case false =>
            have HF : Hid (R = false) := by show _ = _; rw [HQ5.out, HS2.out, hpk]; rfl
            have hpk' : (p != (km : Int)) = true := by simp only [bne, hpk]; rfl
            clear HS2 HQ5 hpk HRM HMC
            go_wp2_with fail
            refine HFD.mono ?_
            rintro e w3 ⟨rfl, b3⟩
            have k3 := k1.trans (b3.mono k1.size)
            go_wp2_with fail
            go_ret
            exact ⟨ret_b HF.out.symm, k3⟩
          have hpk' : (p != (km : Int)) = false := by simp only [bne, hpk]; rfl
          cases qm
          case false =>
            have HF : Hid (R = false) := by show _ = _; rw [HQ5.out, HS2.out, hpk]; rfl
            clear HS2 HQ5 hpk
            go_wp2_with fail
            refine HFD.mono ?_
            rintro e w3 ⟨rfl, b3⟩
            have k3 := k1.trans (b3.mono k1.size)
            obtain ⟨r0, r1, r2, r3, r4, r5, r6, r7, r8, r9⟩ := MethCells.later HMC.out b3
            go_wp2_with fail
            refine (HRM.out _ b3).mono ?_
            rintro e w5 ⟨rfl, b5⟩
            have k5 := k3.trans (b5.mono k3.size)
            go_wp2_with fail
            go_ret
            exact ⟨ret_b HF.out.symm, k5⟩
          have HF : Hid (allI (fun k f => (f.abstract == true) && ((mplace ms f.name == ((k : Nat) : Int)) && methP f)) (km + 1) (ms.drop (km + 1)) = allI (fun k f => (f.abstract == true) && ((mplace ms f.name == ((k : Nat) : Int)) && methP f)) 0 ms) := by show _ = _; rw [HS2.out, hpk]; rfl
          clear HS2 hpk
          go_wp2_with fail
          refine HFD.mono ?_
          rintro e w3 ⟨rfl, b3⟩
          have k3 := k1.trans (b3.mono k1.size)
          obtain ⟨r0, r1, r2, r3, r4, r5, r6, r7, r8, r9⟩ := MethCells.later HMC.out b3
          go_wp2_with fail
          refine (HRM.out _ b3).mono ?_
          rintro e w5 ⟨rfl, b5⟩
          have k5 := k3.trans (b5.mono k3.size)
          have M5 := ClsCells.later (ClsCells.later HMM.out b3) b5
          go_wp2_with fail
          go_roundw
          case rel => exact ⟨km + 1, by omega, by go_num, HF.out, M5, k5⟩
          case measure => simp [intOf]; omega
        have HF : Hid (R = true) := by show _ = _; rw [HQ5.out, ← HA.out, allI_end _ _ _ (by omega)]
        clear HQ5 HA
        go_wp2_with fail
        go_ret
        exact ⟨ret_b HF.out.symm, hbel⟩
end Cls
end Go.Proofs.YtbfcjflgomedgaaGreat
