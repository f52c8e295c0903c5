/- Contracts and laws, texts of mine put into one. -/
import Derived.Test.YtjblmgdjaaeedaaGreatClsA
import Derived.Deep.Light
import Derived.Deep.QuietTactic
import Derived.BigQuiet
import Derived.Lib.SmallJoins
import Derived.Deep.CutRange
import Derived.Deep.DeepCutAuto
import Derived.Test.YtjblmgdjaaeedaaGreatClsMem
import Derived.Test.YtjblmgdjaaeedaaGreatClsOne
/- The contract of the document's own test of a body: instructions and traps. -/
namespace Go.Proofs.YtjblmgdjaaeedaaGreat
namespace Cls
open Num Kind Op4
open Go.RowKit
set_option linter.unusedVariables false

theorem empty_toList (c : ByteArray) : (c.toList == []) = (nums c == []) := beq_nums c [] [] rfl

set_option maxRecDepth 100000 in
set_option maxHeartbeats 4000000 in
theorem body_some (b off n cp : Nat) (v1 v8 v9 : Value) (m : MethL) (w : World) (hn : m.code.length = n) (hn1 : 1 ≤ n) (hn2 : n ≤ 100) (hcp : n ≤ cp) (hcm : cp ≤ maxLen) (hE : (m.code.getLast?.any fun x => endsB x.o) = true)
    (hx : ∀ i (h : i < m.code.length), insE w b (off + i * 4) m.code[i]) (ht : Sl trapE 4 w v9 m.traps) (ht6 : m.traps.length ≤ 6) :
    Calls Tryz.prog 62 #[methVal v1 (.slice (some ⟨b, off, none⟩) n cp) v8 v9 m] w fun e w' => e = .returned (.bool (m.code.all (insB n) && m.traps.all (trapB n))) ∧ Below w.heap.size w w' := by
  unfold methVal methCells
  have b0 := (Below.refl w.heap.size w).alloc (Nat.le_refl _) (.cells #[.string m.name, v1, .string m.ret, .bool m.static, .bool m.abstract, .int .i64 m.locals, .int .i64 m.stack, .slice (some ⟨b, off, none⟩) n cp, v8, v9] 46)
  have c7 : (w.alloc (.cells #[.string m.name, v1, .string m.ret, .bool m.static, .bool m.abstract, .int .i64 m.locals, .int .i64 m.stack, .slice (some ⟨b, off, none⟩) n cp, v8, v9] 46)).cell? ⟨w.heap.size, 7, none⟩ = some (.slice (some ⟨b, off, none⟩) n cp) := cell_new _ _ _ 7
  have c9 : (w.alloc (.cells #[.string m.name, v1, .string m.ret, .bool m.static, .bool m.abstract, .int .i64 m.locals, .int .i64 m.stack, .slice (some ⟨b, off, none⟩) n cp, v8, v9] 46)).cell? ⟨w.heap.size, 9, none⟩ = some v9 := cell_new _ _ _ 9
  unfold maxLen at hcm
  have HXX : ∀ W, Below w.heap.size w W → ∀ i (h : i < m.code.length), insE W b (off + i * 4) m.code[i] := fun W hb i hi => insE_stable _ _ _ _ _ (hx i hi) hb
  have HX : Hid _ := HXX
  have HT : Hid _ := ht
  have HN : Hid _ := hn
  obtain ⟨a9, cp9, hv9, hl9, hm9, _, _⟩ := ht
  subst hv9
  unfold maxLen at hm9
  have hlast : n - 1 < m.code.length := by omega
  obtain ⟨⟨l0, l1, l2, l3⟩, _, _⟩ := HX.out _ b0 (n - 1) hlast
  have hEo : endsB m.code[n - 1].o = true := by
    rw [List.getLast?_eq_getElem?, HN.out, List.getElem?_eq_getElem hlast] at hE
    simpa using hE
  generalize m.code[n - 1].o = ol at *
  have hsub : IntKind.i64.wrap ((n : Int) - 1) = ((n - 1 : Nat) : Int) := by rw [IntWalk.i64_in _ (by omega)]; omega
  clear hx hn HXX l1 l2 l3 hE
  go_enter Tryz.func62, Tryz.ntmps62
  go_wp2_with fail
  refine (ends_any ol _).mono ?_
  rintro e w1 ⟨rfl, rfl⟩
  rw [hEo]
  clear hEo l0
  go_wp2_with fail
  go_loopw [4, 5] (fun i _ wr => ∃ k : Nat, k ≤ n ∧ i = .int .i64 k ∧ (m.code.drop k).all (insB n) = m.code.all (insB n) ∧ wr.cell? ⟨w.heap.size, 7, none⟩ = some (.slice (some ⟨b, off, none⟩) n cp) ∧ wr.cell? ⟨w.heap.size, 9, none⟩ = some (.slice a9 m.traps.length cp9) ∧ Below w.heap.size w wr) (fun i _ _ => n - (intOf i).toNat)
  case atStart => exact ⟨0, by omega, rfl, rfl, c7, c9, b0⟩
  case round =>
    clear c7 c9 b0
    obtain ⟨k, hk, rfl, hall, c7, c9, hbel⟩ := hrel
    by_cases hlk : k < n
    · have hkc : k < m.code.length := by rw [HN.out]; exact hlk
      obtain ⟨⟨x0, x1, x2, x3⟩, s2, s3⟩ := HX.out wr hbel k hkc
      rw [all_step _ _ k hkc] at hall
      have HA : Hid _ := hall
      clear hall
      have HI : Hid (insB n m.code[k] = (mayIns m.code[k].o m.code[k].a (nums m.code[k].c) (nums m.code[k].m) && !(jumpsB m.code[k].o && decide ((n : Int) ≤ m.code[k].a)))) := rfl
      generalize m.code[k] = X at *
      obtain ⟨o, a, c, q⟩ := X
      simp only at x0 x1 x2 x3 s2 s3
      have Z := InsAt.new wr o a c q 48
      have e1 := (Below.refl wr.heap.size wr).alloc (Nat.le_refl _) (.cells #[.int .i64 o, .int .i64 a, .string c, .string q] 48)
      have d7 := cellOn c7 e1
      have d9 := cellOn c9 e1
      go_wp2_with fail
      refine (may_ins o a c q _ s2 s3).mono ?_
      rintro e w2 ⟨rfl, b2⟩
      have f7 := cellOn d7 b2
      have f9 := cellOn d9 b2
      obtain ⟨z0, z1, z2, z3⟩ := Z.later b2
      have k2 := hbel.trans ((e1.trans (b2.mono e1.size)).mono hbel.size)
      clear c7 c9 d7 d9 x0 x1 x2 x3 Z e1 b2 hbel
      have HQ : ∃ p, mayIns o a (nums c) (nums q) = p := ⟨_, rfl⟩
      obtain ⟨p, hp⟩ := HQ
      have HJ : ∃ j, jumpsB o = j := ⟨_, rfl⟩
      obtain ⟨j, hj⟩ := HJ
      have HI2 : Hid (insB n ⟨o, a, c, q⟩ = (p && !(j && decide ((n : Int) ≤ a)))) := by
        have := HI.out
        simp only [hp, hj] at this
        exact this
      rw [hp]
      have HJ2 : Hid _ := hj
      clear HI hp hj
      cases p
      · have HF : Hid (m.code.all (insB n) = false) := by
          show _ = _
          show _ = _
          have := HA.out
          rw [HI2.out] at this
          simpa using this.symm
        clear HA HI2
        go_wp2_with fail
        go_ret
        exact ⟨ret_b (by rw [HF.out]; rfl), k2⟩
      · go_wp2_with fail
        refine (jumps_any o _).mono ?_
        rintro e w3 ⟨rfl, rfl⟩
        rw [HJ2.out]
        clear HJ2
        cases j
        · have HF : Hid ((m.code.drop (k + 1)).all (insB n) = m.code.all (insB n)) := by
            show _ = _
            show _ = _
            have := HA.out
            rw [HI2.out] at this
            simpa using this
          clear HA HI2
          go_wp2_with fail
          go_roundw
          case rel => exact ⟨k + 1, by omega, by go_num, HF.out, f7, f9, k2⟩
          case measure => simp [intOf]; omega
        · by_cases han : (n : Int) ≤ a
          · have HF : Hid (m.code.all (insB n) = false) := by
              show _ = _
              show _ = _
              have := HA.out
              rw [HI2.out] at this
              simpa [han] using this.symm
            clear HA HI2
            go_wp2_with fail
            go_ret
            exact ⟨ret_b (by rw [HF.out]; rfl), k2⟩
          · have HF : Hid ((m.code.drop (k + 1)).all (insB n) = m.code.all (insB n)) := by
              show _ = _
              show _ = _
              have := HA.out
              rw [HI2.out] at this
              simpa [han] using this
            clear HA HI2
            go_wp2_with fail
            go_roundw
            case rel => exact ⟨k + 1, by omega, by go_num, HF.out, f7, f9, k2⟩
            case measure => simp [intOf]; omega
    · rw [all_end _ _ k (by rw [HN.out]; omega)] at hall
      have HA : Hid _ := hall
      clear hall
      clear c7
      go_wp2_with fail
      go_loopw [6, 7] (fun i _ wr => ∃ k2' : Nat, k2' ≤ m.traps.length ∧ i = .int .i64 k2' ∧ (m.traps.drop k2').all (trapB n) = m.traps.all (trapB n) ∧ wr.cell? ⟨w.heap.size, 9, none⟩ = some (.slice a9 m.traps.length cp9) ∧ Below w.heap.size w wr) (fun i _ _ => m.traps.length - (intOf i).toNat)
      case atStart => exact ⟨0, by omega, rfl, rfl, c9, hbel⟩
      case round =>
        clear c9 hbel
        obtain ⟨k2', hk2, rfl, hall, c9, hbel⟩ := hrel
        by_cases hlt : k2' < m.traps.length
        · obtain ⟨aa, cc, ev, _, _, _, hx9⟩ := Sl.later trapE_stable HT.out hbel
          simp only [Value.slice.injEq, true_and] at ev
          obtain ⟨rfl, rfl⟩ := ev
          obtain ⟨b9, off9, rfl, _, hx9⟩ := hx9 (by omega)
          obtain ⟨x0, x1, x2, x3, sz⟩ := hx9 k2' hlt
          rw [all_step _ _ k2' hlt] at hall
          have HB : Hid _ := hall
          clear hall hx9
          have hce := empty_nums m.traps[k2'].c
          have HI : Hid (trapB n m.traps[k2'] = !(decide (m.traps[k2'].from' < 0) || decide (m.traps[k2'].to ≤ m.traps[k2'].from') || decide ((n : Int) < m.traps[k2'].to) || decide (m.traps[k2'].at' < 0) || decide ((n : Int) ≤ m.traps[k2'].at') || (!(nums m.traps[k2'].c == []) && !classB (nums m.traps[k2'].c)))) := rfl
          have HC := fun W => class_any m.traps[k2'].c W sz
          generalize m.traps[k2'] = X at *
          obtain ⟨f, t, u, c⟩ := X
          simp only at x0 x1 x2 x3 sz HI HC hce
          have e1 := (Below.refl wr.heap.size wr).alloc (Nat.le_refl _) (.cells #[.int .i64 f, .int .i64 t, .int .i64 u, .string c] 80)
          have d9 := cellOn c9 e1
          have k2 := hbel.trans (e1.mono hbel.size)
          generalize (nums c == []) = em at *
          generalize classB (nums c) = cb at *
          clear hbel e1
          by_cases h0 : f < 0
          · have HF : Hid (m.traps.all (trapB n) = false) := by
              show _ = _
              have := HB.out
              rw [HI.out] at this
              simpa [h0] using this.symm
            clear HB HI
            go_wp2_with fail
            go_ret
            exact ⟨ret_b (by rw [HF.out]; simp), k2⟩
          · by_cases h1 : t ≤ f
            · have HF : Hid (m.traps.all (trapB n) = false) := by
                show _ = _
                have := HB.out
                rw [HI.out] at this
                simpa [h0, h1] using this.symm
              clear HB HI
              go_wp2_with fail
              go_ret
              exact ⟨ret_b (by rw [HF.out]; simp), k2⟩
            · by_cases h2 : (n : Int) < t
              · have HF : Hid (m.traps.all (trapB n) = false) := by
                  show _ = _
                  have := HB.out
                  rw [HI.out] at this
                  simpa [h0, h1, h2] using this.symm
                clear HB HI
                go_wp2_with fail
                go_ret
                exact ⟨ret_b (by rw [HF.out]; simp), k2⟩
              · by_cases h3 : u < 0
                · have HF : Hid (m.traps.all (trapB n) = false) := by
                    show _ = _
                    have := HB.out
                    rw [HI.out] at this
                    simpa [h0, h1, h2, h3] using this.symm
                  clear HB HI
                  go_wp2_with fail
                  go_ret
                  exact ⟨ret_b (by rw [HF.out]; simp), k2⟩
                · by_cases h4 : (n : Int) ≤ u
                  · have HF : Hid (m.traps.all (trapB n) = false) := by
                      show _ = _
                      have := HB.out
                      rw [HI.out] at this
                      simpa [h0, h1, h2, h3, h4] using this.symm
                    clear HB HI
                    go_wp2_with fail
                    go_ret
                    exact ⟨ret_b (by rw [HF.out]; simp), k2⟩
                  · cases em
                    · cases cb
                      · have HF : Hid (m.traps.all (trapB n) = false) := by
                          show _ = _
                          have := HB.out
                          rw [HI.out] at this
                          simpa [h0, h1, h2, h3, h4] using this.symm
                        clear HB HI
                        go_wp2_with (go_at_call 25; refine (HC _).mono ?_; rintro e w' ⟨rfl, rfl⟩)
                        go_ret
                        exact ⟨ret_b (by rw [HF.out]; simp), k2⟩
                      · have HF : Hid ((m.traps.drop (k2' + 1)).all (trapB n) = m.traps.all (trapB n)) := by
                          show _ = _
                          have := HB.out
                          rw [HI.out] at this
                          simpa [h0, h1, h2, h3, h4] using this
                        clear HB HI
                        go_wp2_with (go_at_call 25; refine (HC _).mono ?_; rintro e w' ⟨rfl, rfl⟩)
                        go_roundw
                        case rel => exact ⟨k2' + 1, by omega, by go_num, HF.out, d9, k2⟩
                        case measure => simp [intOf]; omega
                    · have HF : Hid ((m.traps.drop (k2' + 1)).all (trapB n) = m.traps.all (trapB n)) := by
                        show _ = _
                        have := HB.out
                        rw [HI.out] at this
                        simpa [h0, h1, h2, h3, h4] using this
                      clear HB HI
                      go_wp2_with fail
                      go_roundw
                      case rel => exact ⟨k2' + 1, by omega, by go_num, HF.out, d9, k2⟩
                      case measure => simp [intOf]; omega
        · rw [all_end _ _ k2' (by omega)] at hall
          have HB : Hid _ := hall
          clear hall
          go_wp2_with fail
          go_ret
          exact ⟨ret_b (by rw [← HA.out, ← HB.out]; rfl), hbel⟩
end Cls
end Go.Proofs.YtjblmgdjaaeedaaGreat

/- The contract of the document's own test of a body, whatever it is. -/
namespace Go.Proofs.YtjblmgdjaaeedaaGreat
namespace Cls
open Num Kind Op4
open Go.RowKit
set_option linter.unusedVariables false

set_option maxRecDepth 100000 in
set_option maxHeartbeats 2000000 in
theorem rbody_any (v1 v7 v8 v9 : Value) (m : MethL) (w : World) (h : MethV w v1 v7 v8 v9 m) :
    Calls Tryz.prog 62 #[methVal v1 v7 v8 v9 m] w fun e w' => e = .returned (.bool (bodyB m)) ∧ Below w.heap.size w w' := by
  have ht := h.traps
  obtain ⟨a, cp, rfl, hl, hm, hnil, hx⟩ := h.code
  have hm' := hm
  unfold maxLen at hm
  have hbb : bodyB m = ((decide (1 ≤ m.code.length) && decide (m.code.length ≤ 100)) && ((m.code.getLast?.any fun x => endsB x.o) && (decide (m.traps.length ≤ 6) && (m.code.all (insB m.code.length) && m.traps.all (trapB m.code.length))))) := rfl
  rw [hbb]
  clear hbb
  obtain ⟨a9, cp9, hv9, hl9, hm9, _, _⟩ := id ht
  unfold maxLen at hm9
  by_cases h1 : 1 ≤ m.code.length
  · by_cases h2 : m.code.length ≤ 100
    · obtain ⟨b, off, rfl, hlt, hx⟩ := hx (by omega)
      by_cases hE : (m.code.getLast?.any fun x => endsB x.o) = true
      · by_cases h6 : m.traps.length ≤ 6
        · simp only [h1, h2, hE, h6, decide_true, Bool.and_self, Bool.true_and]
          exact body_some b off _ cp v1 v8 v9 m w rfl h1 h2 hl hm' hE hx ht h6
        · simp only [h6, decide_false, Bool.false_and, Bool.and_false]
          subst hv9
          have hEo : endsB m.code[m.code.length - 1].o = true := by
            rw [List.getLast?_eq_getElem?, List.getElem?_eq_getElem (by omega)] at hE
            simpa using hE
          have b0 := (Below.refl w.heap.size w).alloc (Nat.le_refl _) (.cells #[.string m.name, v1, .string m.ret, .bool m.static, .bool m.abstract, .int .i64 m.locals, .int .i64 m.stack, .slice (some ⟨b, off, none⟩) m.code.length cp, v8, .slice a9 m.traps.length cp9] 46)
          obtain ⟨⟨l0, l1, l2, l3⟩, _, _⟩ := insE_stable _ _ _ _ _ (hx (m.code.length - 1) (by omega)) b0
          generalize m.code[m.code.length - 1].o = ol at *
          have hsub : IntKind.i64.wrap ((m.code.length : Int) - 1) = ((m.code.length - 1 : Nat) : Int) := by rw [IntWalk.i64_in _ (by omega)]; omega
          unfold methVal methCells
          clear hx ht h l1 l2 l3 hE
          go_enter Tryz.func62, Tryz.ntmps62
          go_wp2_with fail
          refine (ends_any ol _).mono ?_
          rintro e w1 ⟨rfl, rfl⟩
          rw [hEo]
          go_wp2_with fail
          go_ret
          exact ⟨rfl, b0⟩
      · have hE' : (m.code.getLast?.any fun x => endsB x.o) = false := by simpa using hE
        rw [hE', Bool.false_and, Bool.and_false]
        subst hv9
        have hEo : endsB m.code[m.code.length - 1].o = false := by
          rw [List.getLast?_eq_getElem?, List.getElem?_eq_getElem (by omega)] at hE'
          simpa using hE'
        have b0 := (Below.refl w.heap.size w).alloc (Nat.le_refl _) (.cells #[.string m.name, v1, .string m.ret, .bool m.static, .bool m.abstract, .int .i64 m.locals, .int .i64 m.stack, .slice (some ⟨b, off, none⟩) m.code.length cp, v8, .slice a9 m.traps.length cp9] 46)
        obtain ⟨⟨l0, l1, l2, l3⟩, _, _⟩ := insE_stable _ _ _ _ _ (hx (m.code.length - 1) (by omega)) b0
        generalize m.code[m.code.length - 1].o = ol at *
        have hsub : IntKind.i64.wrap ((m.code.length : Int) - 1) = ((m.code.length - 1 : Nat) : Int) := by rw [IntWalk.i64_in _ (by omega)]; omega
        unfold methVal methCells
        clear hx ht h l1 l2 l3 hE hE'
        go_enter Tryz.func62, Tryz.ntmps62
        go_wp2_with fail
        refine (ends_any ol _).mono ?_
        rintro e w1 ⟨rfl, rfl⟩
        rw [hEo]
        go_wp2_with fail
        go_ret
        exact ⟨rfl, b0⟩
    · simp only [h2, decide_false, Bool.and_false, Bool.false_and]
      subst hv9
      unfold methVal methCells
      clear hx ht h
      go_enter Tryz.func62, Tryz.ntmps62
      go_wp2_with fail
      go_ret
      exact ⟨rfl, (Below.refl _ _).alloc (Nat.le_refl _) _⟩
  · simp only [h1, decide_false, Bool.false_and]
    have h0 : m.code.length = 0 := by omega
    subst hv9
    unfold methVal methCells
    clear hx ht h
    go_enter Tryz.func62, Tryz.ntmps62
    go_wp2_with fail
    go_ret
    exact ⟨rfl, (Below.refl _ _).alloc (Nat.le_refl _) _⟩
end Cls
end Go.Proofs.YtjblmgdjaaeedaaGreat

/- The contract of the document's own test of a method's Maps. -/
namespace Go.Proofs.YtjblmgdjaaeedaaGreat
namespace Cls
open Num Kind Op4
open Go.RowKit
set_option linter.unusedVariables false
set_option linter.unusedSimpArgs false

def prevAt (l : List MapL) (k : Nat) : Option Int := if k = 0 then none else (l[k - 1]?).map (·.at')
theorem mapsB_step (n : Nat) (lo st : Int) (l : List MapL) (k : Nat) (h : k < l.length) : mapsB n lo st (prevAt l k) (l.drop k) =
    ((decide (0 ≤ l[k].at') && decide (l[k].at' < (n : Int)) && (match prevAt l k with | none => true | some p => decide (p < l[k].at')) && decide ((l[k].locals.length : Int) = lo) && decide ((l[k].stack.length : Int) ≤ st)) &&
      (l[k].locals.all localB && (l[k].stack.all stackB && mapsB n lo st (prevAt l (k + 1)) (l.drop (k + 1))))) := by
  rw [List.drop_eq_getElem_cons h]
  have e : prevAt l (k + 1) = some l[k].at' := by simp [prevAt, List.getElem?_eq_getElem h]
  rw [e]
  rfl

def good5 (x n : Int) (pv : Option Int) (la lo ls st : Int) : Bool := decide (0 ≤ x) && decide (x < n) && (match pv with | none => true | some p => decide (p < x)) && decide (la = lo) && decide (ls ≤ st)
theorem g1 {x n : Int} {pv : Option Int} {la lo ls st : Int} (h : decide (x < 0) = true) : (!good5 x n pv la lo ls st) = true := by
  have : ¬ 0 ≤ x := by simpa using h
  simp [good5, this]
theorem g2 {x n : Int} {pv : Option Int} {la lo ls st : Int} (h : decide (n ≤ x) = true) : (!good5 x n pv la lo ls st) = true := by
  have : ¬ x < n := by simpa using h
  simp [good5, this]
theorem g3 {x n p : Int} {la lo ls st : Int} (h : decide (x ≤ p) = true) : (!good5 x n (some p) la lo ls st) = true := by
  have : ¬ p < x := by simpa using h
  simp [good5, this]
theorem g4 {x n : Int} {pv : Option Int} {la lo ls st : Int} (h : (la != lo) = true) : (!good5 x n pv la lo ls st) = true := by
  have : ¬ la = lo := by simpa using h
  simp [good5, this]
theorem g5 {x n : Int} {pv : Option Int} {la lo ls st : Int} (h : decide (st < ls) = true) : (!good5 x n pv la lo ls st) = true := by
  have : ¬ ls ≤ st := by simpa using h
  simp [good5, this]
theorem g6 {x n : Int} {la lo ls st : Int} (h0 : decide (x < 0) = false) (h2 : decide (n ≤ x) = false) (h4 : (la != lo) = false) (h5 : decide (st < ls) = false) : (!good5 x n none la lo ls st) = false := by
  have a0 : 0 ≤ x := by simpa using h0
  have a2 : x < n := by simpa using h2
  have a4 : la = lo := by simpa using h4
  have a5 : ls ≤ st := by simpa using h5
  simp [good5, a0, a2, a4, a5]
theorem g7 {x n p : Int} {la lo ls st : Int} (h0 : decide (x < 0) = false) (h2 : decide (n ≤ x) = false) (h3 : decide (x ≤ p) = false) (h4 : (la != lo) = false) (h5 : decide (st < ls) = false) : (!good5 x n (some p) la lo ls st) = false := by
  have a0 : 0 ≤ x := by simpa using h0
  have a2 : x < n := by simpa using h2
  have a3 : p < x := by simpa using h3
  have a4 : la = lo := by simpa using h4
  have a5 : ls ≤ st := by simpa using h5
  simp [good5, a0, a2, a3, a4, a5]

set_option maxRecDepth 100000 in
set_option maxHeartbeats 4000000 in
theorem maps_some (b off L cp : Nat) (v1 v7 v9 : Value) (m : MethL) (w : World) (hL : m.maps.length = L) (hL0 : 0 < L) (hL2 : L ≤ 100) (hcp : L ≤ cp) (hcm : cp ≤ maxLen)
    (hx : ∀ i (h : i < m.maps.length), mapE w b (off + i * 3) m.maps[i]) (hc : Sl insE 4 w v7 m.code) :
    Calls Tryz.prog 63 #[methVal v1 v7 (.slice (some ⟨b, off, none⟩) L cp) v9 m] w fun e w' => e = .returned (.bool (mapsB m.code.length m.locals m.stack none m.maps)) ∧ Below w.heap.size w w' := by
  unfold methVal methCells
  obtain ⟨a7, cp7, rfl, hl7, hm7, _, h7x⟩ := hc
  clear h7x
  unfold maxLen at hm7 hcm
  have b0 := (Below.refl w.heap.size w).alloc (Nat.le_refl _) (.cells #[.string m.name, v1, .string m.ret, .bool m.static, .bool m.abstract, .int .i64 m.locals, .int .i64 m.stack, .slice a7 m.code.length cp7, .slice (some ⟨b, off, none⟩) L cp, v9] 46)
  have c5 := cell_new w #[.string m.name, v1, .string m.ret, .bool m.static, .bool m.abstract, .int .i64 m.locals, .int .i64 m.stack, .slice a7 m.code.length cp7, .slice (some ⟨b, off, none⟩) L cp, v9] 46 5
  have c6 := cell_new w #[.string m.name, v1, .string m.ret, .bool m.static, .bool m.abstract, .int .i64 m.locals, .int .i64 m.stack, .slice a7 m.code.length cp7, .slice (some ⟨b, off, none⟩) L cp, v9] 46 6
  have c7 := cell_new w #[.string m.name, v1, .string m.ret, .bool m.static, .bool m.abstract, .int .i64 m.locals, .int .i64 m.stack, .slice a7 m.code.length cp7, .slice (some ⟨b, off, none⟩) L cp, v9] 46 7
  have c8 := cell_new w #[.string m.name, v1, .string m.ret, .bool m.static, .bool m.abstract, .int .i64 m.locals, .int .i64 m.stack, .slice a7 m.code.length cp7, .slice (some ⟨b, off, none⟩) L cp, v9] 46 8
  simp only [List.getElem?_toArray, List.getElem?_cons_succ, List.getElem?_cons_zero] at c5 c6 c7 c8
  generalize hn : m.code.length = n at *
  have HXX : ∀ W, Below w.heap.size w W → ∀ i (h : i < m.maps.length), mapE W b (off + i * 3) m.maps[i] := fun W hb i hi => mapE_stable _ _ _ _ _ (hx i hi) hb
  have HX : Hid _ := HXX
  have HN : Hid _ := hL
  clear hx HXX hL hn
  go_enter Tryz.func63, Tryz.ntmps63
  go_wp2_with fail
  go_loopw [3, 4, 5, 6, 7, 8] (fun i _ _ _ _ _ wr => ∃ k : Nat, k ≤ L ∧ i = .int .i64 k ∧ mapsB n m.locals m.stack (prevAt m.maps k) (m.maps.drop k) = mapsB n m.locals m.stack none m.maps ∧ wr.cell? ⟨w.heap.size, 5, none⟩ = some (.int .i64 m.locals) ∧ wr.cell? ⟨w.heap.size, 6, none⟩ = some (.int .i64 m.stack) ∧ wr.cell? ⟨w.heap.size, 7, none⟩ = some (.slice a7 n cp7) ∧ wr.cell? ⟨w.heap.size, 8, none⟩ = some (.slice (some ⟨b, off, none⟩) L cp) ∧ Below w.heap.size w wr) (fun i _ _ _ _ _ _ => L - (intOf i).toNat)
  case atStart => exact ⟨0, by omega, rfl, rfl, c5, c6, c7, c8, b0⟩
  case round =>
    clear c5 c6 c7 c8 b0
    obtain ⟨k, hk, rfl, hall, c5, c6, c7, c8, hbel⟩ := hrel
    by_cases hlk : k < L
    · have hkc : k < m.maps.length := by rw [HN.out]; exact hlk
      rw [mapsB_step n _ _ _ k hkc] at hall
      have HA : Hid _ := hall
      clear hall
      obtain ⟨u1, u2, x0, x1, x2, S1, S2⟩ := HX.out wr hbel k hkc
      have HPV : 0 < k → ∃ p, prevAt m.maps k = some p ∧ wr.cell? ⟨b, off + (k - 1) * 3, none⟩ = some (.int .i64 p) := fun h0 => by
        obtain ⟨_, _, y0, _⟩ := HX.out wr hbel (k - 1) (by omega)
        exact ⟨_, by simp [prevAt, show ¬ k = 0 by omega, List.getElem?_eq_getElem (show k - 1 < m.maps.length by omega)], y0⟩
      have HPN : k = 0 → prevAt m.maps k = none := fun h0 => by simp [prevAt, h0]
      generalize prevAt m.maps k = pv at *
      generalize m.maps[k] = X at *
      obtain ⟨at0, los, sts⟩ := X
      simp only at x0 x1 x2 S1 S2 HA
      have e1 := (Below.refl wr.heap.size wr).alloc (Nat.le_refl _) (.cells #[.int .i64 at0, u1, u2] 50)
      obtain ⟨aL, cL, hvL, hlL, hmL, _, hxL⟩ := S1.later strE_stable e1
      obtain ⟨aS, cS, hvS, hlS, hmS, _, hxS⟩ := S2.later strE_stable e1
      have HSL : Hid _ := S1.later strE_stable e1
      have HSS : Hid _ := S2.later strE_stable e1
      subst hvL
      subst hvS
      unfold maxLen at hmL hmS
      have d5 := cellOn c5 e1
      have d6 := cellOn c6 e1
      have d7 := cellOn c7 e1
      have d8 := cellOn c8 e1
      have k1 := hbel.trans (e1.mono hbel.size)
      have HBAD : ∃ bad, bad = !good5 at0 n pv los.length m.locals sts.length m.stack := ⟨_, rfl⟩
      obtain ⟨bad, hbad⟩ := HBAD
      have HBD : Hid _ := hbad
      have hsub : 0 < k → IntKind.i64.wrap ((k : Int) - 1) = ((k - 1 : Nat) : Int) := fun h0 => by rw [IntWalk.i64_in _ (by omega)]; omega
      clear hbad S1 S2
      go_upto_region 7 with fail
      have k0 : decide (at0 < 0) = true ∨ decide (at0 < 0) = false := by cases decide (at0 < 0) <;> simp
      have k2 : decide ((n : Int) ≤ at0) = true ∨ decide ((n : Int) ≤ at0) = false := by cases decide ((n : Int) ≤ at0) <;> simp
      have k4 : ((los.length : Int) != m.locals) = true ∨ ((los.length : Int) != m.locals) = false := by cases ((los.length : Int) != m.locals) <;> simp
      have k5 : decide (m.stack < (sts.length : Int)) = true ∨ decide (m.stack < (sts.length : Int)) = false := by cases decide (m.stack < (sts.length : Int)) <;> simp
      go_cut [67] from 13 to 109 (fun s67 wc => s67 = .bool bad ∧ Below (wr.alloc (.cells #[.int .i64 at0, .slice aL los.length cL, .slice aS sts.length cS] 50)).heap.size (wr.alloc (.cells #[.int .i64 at0, .slice aL los.length cL, .slice aS sts.length cS] 50)) wc)
      case first =>
        rcases k0 with k0 | k0
        · have hv := HBD.out.trans (g1 k0)
          clear HBD HA hxL hxS HPV
          go_quiet (fail)
          go_wp2_with fail
          go_meet
          exact ⟨by rw [hv], Joins.below_draws _ _ _⟩
        · rcases k2 with k2 | k2
          · have hv := HBD.out.trans (g2 k2)
            clear HBD HA hxL hxS HPV
            go_quiet (fail)
            go_wp2_with fail
            go_meet
            exact ⟨by rw [hv], Joins.below_draws _ _ _⟩
          · by_cases hz : k = 0
            · have hk0 : decide (0 < ((k : Nat) : Int)) = false := by simp; omega
              have hk0n : decide (0 < k) = false := by simp; omega
              obtain rfl : pv = none := HPN hz
              clear hz HPN
              rcases k4 with k4 | k4
              · have hv := HBD.out.trans (g4 k4)
                clear HBD HA hxL hxS HPV
                go_quiet (fail)
                go_wp2_with fail
                go_meet
                exact ⟨by rw [hv], Joins.below_draws _ _ _⟩
              · rcases k5 with k5 | k5
                · have hv := HBD.out.trans (g5 k5)
                  clear HBD HA hxL hxS HPV
                  go_quiet (fail)
                  go_wp2_with fail
                  go_meet
                  exact ⟨by rw [hv], Joins.below_draws _ _ _⟩
                · have hv := HBD.out.trans (g6 k0 k2 k4 k5)
                  clear HBD HA hxL hxS HPV
                  go_quiet (fail)
                  go_wp2_with fail
                  go_meet
                  exact ⟨by rw [hv], Joins.below_draws _ _ _⟩
            · have hk0 : decide (0 < ((k : Nat) : Int)) = true := by simp; omega
              have hk0n : decide (0 < k) = true := by simp; omega
              obtain ⟨p, rfl, y0⟩ := HPV (by omega)
              have y1 := cellOn y0 e1
              have hs1 := hsub (by omega)
              have hk1 : k - 1 < L := by omega
              have k3 : decide (at0 ≤ p) = true ∨ decide (at0 ≤ p) = false := by cases decide (at0 ≤ p) <;> simp
              clear y0 hsub
              rcases k3 with k3 | k3
              · have hv := HBD.out.trans (g3 k3)
                clear HBD HA hxL hxS HPV
                go_quiet (fail)
                go_wp2_with fail
                go_meet
                exact ⟨by rw [hv], Joins.below_draws _ _ _⟩
              · rcases k4 with k4 | k4
                · have hv := HBD.out.trans (g4 k4)
                  clear HBD HA hxL hxS HPV
                  go_quiet (fail)
                  go_wp2_with fail
                  go_meet
                  exact ⟨by rw [hv], Joins.below_draws _ _ _⟩
                · rcases k5 with k5 | k5
                  · have hv := HBD.out.trans (g5 k5)
                    clear HBD HA hxL hxS HPV
                    go_quiet (fail)
                    go_wp2_with fail
                    go_meet
                    exact ⟨by rw [hv], Joins.below_draws _ _ _⟩
                  · have hv := HBD.out.trans (g7 k0 k2 k3 k4 k5)
                    clear HBD HA hxL hxS HPV
                    go_quiet (fail)
                    go_wp2_with fail
                    go_meet
                    exact ⟨by rw [hv], Joins.below_draws _ _ _⟩
      case rest =>
      obtain ⟨rfl, bW⟩ := hcut
      have x1' := cellOn (cell_new wr #[.int .i64 at0, .slice aL los.length cL, .slice aS sts.length cS] 50 1) bW
      have x2' := cellOn (cell_new wr #[.int .i64 at0, .slice aL los.length cL, .slice aS sts.length cS] 50 2) bW
      have f5 := cellOn d5 bW
      have f6 := cellOn d6 bW
      have f7 := cellOn d7 bW
      have f8 := cellOn d8 bW
      have kf := k1.trans (bW.mono k1.size)
      have SL2 := Sl.later strE_stable HSL.out bW
      have SS2 := Sl.later strE_stable HSS.out bW
      have HA2 : Hid ((good5 at0 n pv los.length m.locals sts.length m.stack && (los.all localB && (sts.all stackB && mapsB n m.locals m.stack (prevAt m.maps (k + 1)) (m.maps.drop (k + 1))))) = mapsB n m.locals m.stack none m.maps) := HA.out
      clear c5 c6 c7 c8 d5 d6 d7 d8 x0 x1 x2 HPV HPN HA hxL hxS k0 k2 k4 k5 e1 k1 bW hbel HSL HSS hsub
      cases bad
      · have hg : good5 at0 n pv los.length m.locals sts.length m.stack = true := by have := HBD.out; simpa using this.symm
        have HA3 : Hid ((los.all localB && (sts.all stackB && mapsB n m.locals m.stack (prevAt m.maps (k + 1)) (m.maps.drop (k + 1)))) = mapsB n m.locals m.stack none m.maps) := by
          have := HA2.out
          rw [hg] at this
          exact this
        clear hg HA2 HBD
        go_wp2_with fail
        go_loop [5, 6] (fun i _ => ∃ j : Nat, j ≤ los.length ∧ i = .int .i64 j ∧ (los.drop j).all localB = los.all localB) (fun i _ => los.length - (intOf i).toNat)
        case atStart => exact ⟨0, by omega, rfl, rfl⟩
        case round =>
          obtain ⟨j, hj, rfl, hal⟩ := hrel
          by_cases hlj : j < los.length
          · obtain ⟨a1, c1, ev, _, _, _, hx1⟩ := id SL2
            simp only [Value.slice.injEq, true_and] at ev
            obtain ⟨rfl, rfl⟩ := ev
            obtain ⟨bL, offL, rfl, _, hx1⟩ := hx1 (by omega)
            obtain ⟨y0, ys⟩ := hx1 j hlj
            rw [Nat.mul_one] at y0
            rw [all_step _ _ j hlj] at hal
            have HL : Hid _ := hal
            have hT := beq_nums los[j] [84] [84] rfl
            have hN := beq_nums los[j] [78] [78] rfl
            have HM := fun W => may_any los[j] W ys
            have HLB : Hid (localB los[j] = ((nums los[j] == [84]) || ((nums los[j] == [78]) || mayB (nums los[j])))) := rfl
            clear hal hx1 SL2 SS2
            generalize los[j] = X at *
            generalize localB X = lb at *
            generalize (nums X == [84]) = p1 at *
            generalize (nums X == [78]) = p2 at *
            generalize mayB (nums X) = p3 at *
            cases p1
            · cases p2
              · cases p3
                · have HF : Hid (los.all localB = false) := by
                    show _ = _
                    have h1 := HL.out
                    have h2 := HLB.out
                    simp only [Bool.or_self] at h2
                    rw [h2, Bool.false_and] at h1
                    exact h1.symm
                  clear HL HLB
                  go_wp2_with (go_at_call 27; refine (HM _).mono ?_; rintro e w' ⟨rfl, rfl⟩)
                  go_ret
                  exact ⟨ret_b (by rw [← HA3.out, HF.out]; rfl), kf⟩
                · have HF : Hid ((los.drop (j + 1)).all localB = los.all localB) := by
                    show _ = _
                    have h1 := HL.out
                    have h2 := HLB.out
                    simp only [Bool.or_true, Bool.true_or] at h2
                    rw [h2, Bool.true_and] at h1
                    exact h1
                  clear HL HLB
                  go_wp2_with (go_at_call 27; refine (HM _).mono ?_; rintro e w' ⟨rfl, rfl⟩)
                  go_round
                  case rel => exact ⟨j + 1, by omega, by go_num, HF.out⟩
                  case measure => simp [intOf]; omega
              · have HF : Hid ((los.drop (j + 1)).all localB = los.all localB) := by
                  show _ = _
                  have h1 := HL.out
                  have h2 := HLB.out
                  simp only [Bool.or_true, Bool.true_or] at h2
                  rw [h2, Bool.true_and] at h1
                  exact h1
                clear HL HLB
                go_wp2_with fail
                go_round
                case rel => exact ⟨j + 1, by omega, by go_num, HF.out⟩
                case measure => simp [intOf]; omega
            · have HF : Hid ((los.drop (j + 1)).all localB = los.all localB) := by
                show _ = _
                have h1 := HL.out
                have h2 := HLB.out
                simp only [Bool.or_true, Bool.true_or] at h2
                rw [h2, Bool.true_and] at h1
                exact h1
              clear HL HLB
              go_wp2_with fail
              go_round
              case rel => exact ⟨j + 1, by omega, by go_num, HF.out⟩
              case measure => simp [intOf]; omega
          · rw [all_end _ _ j (by omega)] at hal
            have HL : Hid _ := hal
            clear hal
            have HA4 : Hid ((sts.all stackB && mapsB n m.locals m.stack (prevAt m.maps (k + 1)) (m.maps.drop (k + 1))) = mapsB n m.locals m.stack none m.maps) := by
              have := HA3.out
              rw [← HL.out] at this
              exact this
            clear HA3 HL SL2
            go_wp2_with fail
            go_loop [7, 8] (fun i _ => ∃ j2 : Nat, j2 ≤ sts.length ∧ i = .int .i64 j2 ∧ (sts.drop j2).all stackB = sts.all stackB) (fun i _ => sts.length - (intOf i).toNat)
            case atStart => exact ⟨0, by omega, rfl, rfl⟩
            case round =>
              obtain ⟨j2, hj2, rfl, hal⟩ := hrel
              by_cases hlj2 : j2 < sts.length
              · obtain ⟨a1, c1, ev, _, _, _, hx1⟩ := id SS2
                simp only [Value.slice.injEq, true_and] at ev
                obtain ⟨rfl, rfl⟩ := ev
                obtain ⟨bL, offL, rfl, _, hx1⟩ := hx1 (by omega)
                obtain ⟨y0, ys⟩ := hx1 j2 hlj2
                rw [Nat.mul_one] at y0
                rw [all_step _ _ j2 hlj2] at hal
                have HL2 : Hid _ := hal
                have hN := beq_nums sts[j2] [78] [78] rfl
                have HM := fun W => may_any sts[j2] W ys
                have HLB : Hid (stackB sts[j2] = ((nums sts[j2] == [78]) || mayB (nums sts[j2]))) := rfl
                clear hal hx1 SS2
                generalize sts[j2] = X at *
                generalize stackB X = lb at *
                generalize (nums X == [78]) = p2 at *
                generalize mayB (nums X) = p3 at *
                cases p2
                · cases p3
                  · have HF : Hid (sts.all stackB = false) := by
                      show _ = _
                      have h1 := HL2.out
                      have h2 := HLB.out
                      simp only [Bool.or_self] at h2
                      rw [h2, Bool.false_and] at h1
                      exact h1.symm
                    clear HL2 HLB
                    go_wp2_with (go_at_call 27; refine (HM _).mono ?_; rintro e w' ⟨rfl, rfl⟩)
                    go_ret
                    exact ⟨ret_b (by rw [← HA4.out, HF.out]; rfl), kf⟩
                  · have HF : Hid ((sts.drop (j2 + 1)).all stackB = sts.all stackB) := by
                      show _ = _
                      have h1 := HL2.out
                      have h2 := HLB.out
                      simp only [Bool.or_true, Bool.true_or] at h2
                      rw [h2, Bool.true_and] at h1
                      exact h1
                    clear HL2 HLB
                    go_wp2_with (go_at_call 27; refine (HM _).mono ?_; rintro e w' ⟨rfl, rfl⟩)
                    go_round
                    case rel => exact ⟨j2 + 1, by omega, by go_num, HF.out⟩
                    case measure => simp [intOf]; omega
                · have HF : Hid ((sts.drop (j2 + 1)).all stackB = sts.all stackB) := by
                    show _ = _
                    have h1 := HL2.out
                    have h2 := HLB.out
                    simp only [Bool.or_true, Bool.true_or] at h2
                    rw [h2, Bool.true_and] at h1
                    exact h1
                  clear HL2 HLB
                  go_wp2_with fail
                  go_round
                  case rel => exact ⟨j2 + 1, by omega, by go_num, HF.out⟩
                  case measure => simp [intOf]; omega
              · rw [all_end _ _ j2 (by omega)] at hal
                have HL2 : Hid _ := hal
                clear hal
                have HA5 : Hid (mapsB n m.locals m.stack (prevAt m.maps (k + 1)) (m.maps.drop (k + 1)) = mapsB n m.locals m.stack none m.maps) := by
                  have := HA4.out
                  rw [← HL2.out] at this
                  exact this
                clear HA4 HL2 SS2
                go_wp2_with fail
                go_roundw
                case rel => exact ⟨k + 1, by omega, by go_num, HA5.out, f5, f6, f7, f8, kf⟩
                case measure => simp [intOf]; omega
      · have hg : good5 at0 n pv los.length m.locals sts.length m.stack = false := by have := HBD.out; simpa using this.symm
        have HF : Hid (mapsB n m.locals m.stack none m.maps = false) := by
          show _ = _
          have := HA2.out
          rw [hg] at this
          exact this.symm
        clear hg HA2 HBD SL2 SS2
        go_wp2_with fail
        go_ret
        exact ⟨ret_b HF.out.symm, kf⟩
    · rw [List.drop_eq_nil_of_le (by rw [HN.out]; omega)] at hall
      have HA : Hid (true = mapsB n m.locals m.stack none m.maps) := by
        show _ = _
        rw [← hall]
        cases prevAt m.maps k <;> rfl
      clear hall
      go_wp2_with fail
      go_ret
      exact ⟨ret_b HA.out, hbel⟩
end Cls
end Go.Proofs.YtjblmgdjaaeedaaGreat

/- The contract of the document's own test of Maps, whatever they are. -/
namespace Go.Proofs.YtjblmgdjaaeedaaGreat
namespace Cls
open Num Kind Op4
open Go.RowKit
set_option linter.unusedVariables false

set_option maxRecDepth 100000 in
set_option maxHeartbeats 2000000 in
theorem rmaps_any (v1 v7 v8 v9 : Value) (m : MethL) (w : World) (h : MethV w v1 v7 v8 v9 m) :
    Calls Tryz.prog 63 #[methVal v1 v7 v8 v9 m] w fun e w' => e = .returned (.bool (decide (m.maps.length ≤ 100) && mapsB m.code.length m.locals m.stack none m.maps)) ∧ Below w.heap.size w w' := by
  have hc := h.code
  obtain ⟨a, cp, rfl, hl, hm, hnil, hx⟩ := h.maps
  by_cases h1 : m.maps.length ≤ 100
  · rcases Nat.eq_zero_or_pos m.maps.length with h0 | h0
    · obtain hmp : m.maps = [] := List.eq_nil_of_length_eq_zero h0
      rw [hmp]
      simp only [List.length_nil, Nat.zero_le, decide_true, mapsB, Bool.and_self]
      unfold methVal methCells
      clear hx hc h
      go_enter Tryz.func63, Tryz.ntmps63
      go_wp2_with fail
      refine wp_loop_rounds 1 ?_
      rw [rounds_succ]
      go_wp2_with fail
      go_ret
      exact ⟨rfl, (Below.refl _ _).alloc (Nat.le_refl _) _⟩
    · obtain ⟨b, off, rfl, hlt, hx⟩ := hx h0
      simp only [h1, decide_true, Bool.true_and]
      exact maps_some b off _ cp v1 v7 v9 m w rfl h0 h1 hl hm hx hc
  · simp only [h1, decide_false, Bool.false_and]
    unfold methVal methCells
    unfold maxLen at hm
    clear hx hc h
    go_enter Tryz.func63, Tryz.ntmps63
    go_wp2_with fail
    go_ret
    exact ⟨rfl, (Below.refl _ _).alloc (Nat.le_refl _) _⟩
end Cls
end Go.Proofs.YtjblmgdjaaeedaaGreat

/- The contract of the document's own test of a method: it answers as package class's parts ask. -/
namespace Go.Proofs.YtjblmgdjaaeedaaGreat
namespace Cls
open Num Kind Op4
open Go.RowKit
set_option linter.unusedVariables false
set_option linter.unusedSimpArgs false
set_option maxRecDepth 100000

theorem trapB_eq (n : Nat) (t : TrapL) : trapB n t = trapP n t := by
  unfold trapB trapP withinB
  rw [Bool.eq_iff_iff]
  cases (nums t.c == []) <;> cases classB (nums t.c) <;> simp <;> omega
theorem body_eq (m : MethL) : bodyB m = (codeP m.code && trapsP m.code.length m.traps) := by
  have e : m.traps.all (trapB m.code.length) = m.traps.all (trapP m.code.length) := by
    congr 1
    funext t
    exact trapB_eq _ t
  unfold bodyB codeP trapsP withinB
  rw [e, Bool.eq_iff_iff]
  simp
  constructor
  · rintro ⟨⟨h1, h2⟩, h3, h4, h5, h6⟩
    exact ⟨⟨⟨by omega, by omega⟩, h5, h3⟩, h4, h6⟩
  · rintro ⟨⟨⟨h1, h2⟩, h5, h3⟩, h4, h6⟩
    exact ⟨⟨by omega, by omega⟩, h3, h4, h5, h6⟩
theorem may_ref (l : List Int) : mayB l = ((l == [73]) || refB l) := by
  unfold refB
  cases h : (l == [73])
  · rfl
  · have : l = [73] := by simpa using h
    subst this
    decide +kernel
theorem loc_eq : localB = locB := by
  funext s
  unfold localB locB valueB
  rw [may_ref]
  cases (nums s == [84]) <;> cases (nums s == [78]) <;> cases (nums s == [73]) <;> rfl
theorem stack_eq : stackB = valueB := by
  funext s
  unfold stackB valueB
  rw [may_ref]
  cases (nums s == [78]) <;> cases (nums s == [73]) <;> rfl
theorem mapsB_eq (n : Nat) (lo sk : Int) : ∀ (l : List MapL) (prev : Option Int) (least : Int), ((prev = none ∧ least = 0) ∨ ∃ p, prev = some p ∧ 0 ≤ p ∧ least = p + 1) → mapsB n lo sk prev l = mapsP n lo sk least l
  | [], _, _, _ => rfl
  | x :: r, prev, least, h => by
    unfold mapsB mapsP standB withinB
    rw [loc_eq, stack_eq]
    by_cases h0 : 0 ≤ x.at'
    · rw [mapsB_eq n lo sk r (some x.at') (x.at' + 1) (.inr ⟨_, rfl, h0, rfl⟩)]
      rw [Bool.eq_iff_iff]
      rcases h with ⟨rfl, rfl⟩ | ⟨p, rfl, hp, rfl⟩
      · simp
        constructor
        · rintro ⟨⟨⟨⟨_, h2⟩, h3⟩, h4⟩, h5, h6, h7⟩
          exact ⟨⟨⟨h0, by omega⟩, ⟨h3, h4⟩, h5, h6⟩, h7⟩
        · rintro ⟨⟨⟨_, h2⟩, ⟨h3, h4⟩, h5, h6⟩, h7⟩
          exact ⟨⟨⟨⟨h0, by omega⟩, h3⟩, h4⟩, h5, h6, h7⟩
      · simp
        constructor
        · rintro ⟨⟨⟨⟨⟨_, h2⟩, h8⟩, h3⟩, h4⟩, h5, h6, h7⟩
          exact ⟨⟨⟨by omega, by omega⟩, ⟨h3, h4⟩, h5, h6⟩, h7⟩
        · rintro ⟨⟨⟨h8, h2⟩, ⟨h3, h4⟩, h5, h6⟩, h7⟩
          exact ⟨⟨⟨⟨⟨h0, by omega⟩, by omega⟩, h3⟩, h4⟩, h5, h6, h7⟩
    · have e1 : decide (0 ≤ x.at') = false := by simpa using h0
      have e2 : decide (least ≤ x.at') = false := by
        rcases h with ⟨_, rfl⟩ | ⟨p, _, hp, rfl⟩ <;> (simp; omega)
      rw [e1, e2]
      simp
theorem room_eq (np : Nat) (st : Bool) (lo sk : Int) (a : Int) (ha : a = if st then (np : Int) else np + 1) : roomP np st lo sk = !(decide (lo < a) || (decide (16 < lo) || (decide (sk < 0) || decide (16 < sk)))) := by
  subst ha
  unfold roomP withinB
  rw [Bool.eq_iff_iff]
  simp
  omega
set_option maxHeartbeats 16000000 in
theorem rmeth_any (v1 v7 v8 v9 : Value) (m : MethL) (w : World) (h : MethV w v1 v7 v8 v9 m) :
    Calls Tryz.prog 30 #[methVal v1 v7 v8 v9 m] w fun e w' => e = .returned (.bool (methP m)) ∧ Below w.heap.size w w' := by
  have hpe := body_eq m
  have hme := mapsB_eq m.code.length m.locals m.stack m.maps none 0 (.inl ⟨rfl, rfl⟩)
  obtain ⟨nm, ps, rt, st, ab, lo, sk, code, maps, traps⟩ := m
  simp only at hpe hme
  obtain ⟨a1, cp1, hv1, hl1, hm1, _, hx1⟩ := h.params
  obtain ⟨a7, cp7, hv7, hl7, hm7, _, hx7⟩ := h.code
  obtain ⟨a8, cp8, hv8, hl8, hm8, _, hx8⟩ := h.maps
  obtain ⟨a9, cp9, hv9, hl9, hm9, _, hx9⟩ := h.traps
  subst hv1 hv7 hv8 hv9
  simp only at hl1 hl7 hl8 hl9
  clear hx1 hx7 hx8 hx9
  unfold maxLen at hm1 hm7 hm8 hm9
  unfold methVal methCells
  simp only
  have b0 := (Below.refl w.heap.size w).alloc (Nat.le_refl _) (.cells #[.string nm, .slice a1 ps.length cp1, .string rt, .bool st, .bool ab, .int .i64 lo, .int .i64 sk, .slice a7 code.length cp7, .slice a8 maps.length cp8, .slice a9 traps.length cp9] 46)
  have M := MethCells.new w nm (.slice a1 ps.length cp1) rt st ab lo sk (.slice a7 code.length cp7) (.slice a8 maps.length cp8) (.slice a9 traps.length cp9) 46
  have HN := fun W => name_any nm W h.s0
  have HR := fun W => ret_any rt W h.s2
  have HB := rbody_any _ _ _ _ _ _ (h.later b0)
  have HMP : Hid (∀ W, Below w.heap.size w W → _) := fun W hb => rmaps_any _ _ _ _ _ W (h.later hb)
  simp only [methVal, methCells] at HB HMP
  rw [hpe] at HB
  rw [hme] at HMP
  have hini := beq_nums nm [36, 105, 110, 105, 116] initL rfl
  have h86 := beq_nums rt [86] [86] rfl
  have HSP : Hid _ := h.params.later strE_stable b0
  have HQ : methP ⟨nm, ps, rt, st, ab, lo, sk, code, maps, traps⟩ = ((nameB (nums nm) && ((decide (ps.length ≤ 6) && ps.all fun p => mayB (nums p)) && retB (nums rt))) &&
    (if ab then !st && (!(nums nm == initL) && bodilessP lo sk code.length maps.length traps.length)
     else if (nums nm == initL) && !(st && (decide (ps.length = 0) && (nums rt == [86]))) then false
     else roomP ps.length st lo sk && ((codeP code && trapsP code.length traps) && (decide (maps.length ≤ 100) && mapsP code.length lo sk 0 maps)))) := by
    unfold methP paramsP beginsP
    simp only [Bool.and_assoc]
  have HQQ : Hid _ := HQ
  generalize methP ⟨nm, ps, rt, st, ab, lo, sk, code, maps, traps⟩ = R at *
  generalize (codeP code && trapsP code.length traps) = qB at *
  generalize (decide (maps.length ≤ 100) && mapsP code.length lo sk 0 maps) = qM at *
  clear HQ hpe hme h
  generalize nameB (nums nm) = qn at *
  generalize retB (nums rt) = qr at *
  generalize (nums nm == initL) = qi at *
  generalize (nums rt == [86]) = qv at *
  cases qn
  case false =>
    have e : Hid (R = false) := by show _ = _; rw [HQQ.out]; simp
    clear HQQ M HB HMP HSP
    go_enter Tryz.func30, Tryz.ntmps30
    go_wp2_with (first | (go_at_call 26; refine (HN _).mono ?_; rintro e w' ⟨rfl, rfl⟩) | (go_at_call 61; refine (HR _).mono ?_; rintro e w' ⟨rfl, rfl⟩))
    go_ret
    exact ⟨ret_b e.out.symm, b0⟩
  by_cases h6 : ps.length ≤ 6
  case neg =>
    have e : Hid (R = false) := by show _ = _; rw [HQQ.out]; simp [h6]
    clear HQQ M HB HMP HSP
    go_enter Tryz.func30, Tryz.ntmps30
    go_wp2_with (first | (go_at_call 26; refine (HN _).mono ?_; rintro e w' ⟨rfl, rfl⟩) | (go_at_call 61; refine (HR _).mono ?_; rintro e w' ⟨rfl, rfl⟩))
    go_ret
    exact ⟨ret_b e.out.symm, b0⟩
  cases qr
  case false =>
    have e : Hid (R = false) := by show _ = _; rw [HQQ.out]; simp
    clear HQQ M HB HMP HSP
    go_enter Tryz.func30, Tryz.ntmps30
    go_wp2_with (first | (go_at_call 26; refine (HN _).mono ?_; rintro e w' ⟨rfl, rfl⟩) | (go_at_call 61; refine (HR _).mono ?_; rintro e w' ⟨rfl, rfl⟩))
    go_ret
    exact ⟨ret_b e.out.symm, b0⟩
  have HQ2 : Hid (R = ((ps.all fun p => mayB (nums p)) && (if ab then !st && (!qi && bodilessP lo sk code.length maps.length traps.length) else if qi && !(st && (decide (ps.length = 0) && qv)) then false else roomP ps.length st lo sk && (qB && qM)))) := by show _ = _; rw [HQQ.out]; simp [h6]
  clear HQQ
  go_enter Tryz.func30, Tryz.ntmps30
  go_wp2_with (first | (go_at_call 26; refine (HN _).mono ?_; rintro e w' ⟨rfl, rfl⟩) | (go_at_call 61; refine (HR _).mono ?_; rintro e w' ⟨rfl, rfl⟩))
  go_loop [3] (fun i => ∃ k : Nat, k ≤ ps.length ∧ i = .int .i64 k ∧ (ps.drop k).all (fun p => mayB (nums p)) = ps.all fun p => mayB (nums p)) (fun i => ps.length - (intOf i).toNat)
  case atStart => exact ⟨0, by omega, rfl, rfl⟩
  case round =>
    obtain ⟨k, hk, rfl, hall⟩ := hrel
    have HA : Hid _ := hall
    clear hall
    by_cases hlk : k < ps.length
    case pos =>
      obtain ⟨aa, cc, ev, _, _, _, hx9⟩ := HSP.out
      simp only [Value.slice.injEq, true_and] at ev
      obtain ⟨rfl, rfl⟩ := ev
      obtain ⟨b9, off9, rfl, _, hx9⟩ := hx9 (by show 0 < ps.length; omega)
      obtain ⟨c0, c1⟩ := hx9 k hlk
      have HS := all_step (fun p => mayB (nums p)) ps k hlk
      rw [HA.out] at HS
      have HS2 : Hid _ := HS
      simp only [Nat.mul_one] at c0
      have HM := fun W => may_any ps[k] W c1
      clear HS hx9 HA M HB HMP HSP
      generalize ps[k] = X at *
      generalize mayB (nums X) = q at *
      cases q
      case false =>
        have HF : Hid (R = false) := by show _ = _; rw [HQ2.out, HS2.out]; rfl
        clear HS2 HQ2
        go_wp2_with (go_at_call 27; refine (HM _).mono ?_; rintro e w' ⟨rfl, rfl⟩)
        go_ret
        exact ⟨ret_b HF.out.symm, b0⟩
      have HF : Hid ((ps.drop (k + 1)).all (fun p => mayB (nums p)) = ps.all fun p => mayB (nums p)) := by show _ = _; rw [HS2.out]; simp
      clear HS2 HQ2
      go_wp2_with (go_at_call 27; refine (HM _).mono ?_; rintro e w' ⟨rfl, rfl⟩)
      go_round
      case rel => exact ⟨k + 1, by omega, by go_num, HF.out⟩
      case measure => simp [intOf]; omega
    have HF : Hid (ps.all (fun p => mayB (nums p)) = true) := by show _ = _; rw [← HA.out, all_end _ _ _ (by omega)]
    have HQ3 : Hid (R = (if ab then !st && (!qi && bodilessP lo sk code.length maps.length traps.length) else if qi && !(st && (decide (ps.length = 0) && qv)) then false else roomP ps.length st lo sk && (qB && qM))) := by show _ = _; rw [HQ2.out, HF.out, Bool.true_and]
    clear HQ2 HF HA HSP
    cases ab
    case true =>
      have HQ4 : Hid (R = (!st && (!qi && (decide (lo = 0) && (decide (sk = 0) && (decide (code.length = 0) && (decide (maps.length = 0) && decide (traps.length = 0)))))))) := HQ3.out
      clear HQ3 M HB HMP
      have e1 : (lo == 0) = decide (lo = 0) := by rw [Bool.eq_iff_iff]; simp
      have e2 : (sk == 0) = decide (sk = 0) := by rw [Bool.eq_iff_iff]; simp
      have e3 : ((code.length : Int) == 0) = decide (code.length = 0) := by rw [Bool.eq_iff_iff]; simp
      have e4 : ((maps.length : Int) == 0) = decide (maps.length = 0) := by rw [Bool.eq_iff_iff]; simp
      have e5 : ((traps.length : Int) == 0) = decide (traps.length = 0) := by rw [Bool.eq_iff_iff]; simp
      generalize decide (lo = 0) = q1 at *
      generalize decide (sk = 0) = q2 at *
      generalize decide (code.length = 0) = q3 at *
      generalize decide (maps.length = 0) = q4 at *
      generalize decide (traps.length = 0) = q5 at *
      generalize code.length = n7 at *
      generalize maps.length = n8 at *
      generalize traps.length = n9 at *
      cases st
      case true =>
        have e : Hid (R = false) := by show _ = _; rw [HQ4.out]; rfl
        clear HQ4
        go_wp2_with fail
        go_ret
        exact ⟨ret_b e.out.symm, b0⟩
      cases qi
      case true =>
        have e : Hid (R = false) := by show _ = _; rw [HQ4.out]; rfl
        clear HQ4
        go_wp2_with fail
        go_ret
        exact ⟨ret_b e.out.symm, b0⟩
      cases q1
      case false =>
        have e : Hid (R = false) := by show _ = _; rw [HQ4.out]; rfl
        clear HQ4
        go_wp2_with fail
        go_ret
        exact ⟨ret_b e.out.symm, b0⟩
      cases q2
      case false =>
        have e : Hid (R = false) := by show _ = _; rw [HQ4.out]; rfl
        clear HQ4
        go_wp2_with fail
        go_ret
        exact ⟨ret_b e.out.symm, b0⟩
      cases q3
      case false =>
        have e : Hid (R = false) := by show _ = _; rw [HQ4.out]; rfl
        clear HQ4
        go_wp2_with fail
        go_ret
        exact ⟨ret_b e.out.symm, b0⟩
      cases q4
      case false =>
        have e : Hid (R = false) := by show _ = _; rw [HQ4.out]; rfl
        clear HQ4
        go_wp2_with fail
        go_ret
        exact ⟨ret_b e.out.symm, b0⟩
      have e : Hid (R = q5) := by show _ = _; rw [HQ4.out]; rfl
      clear HQ4
      go_wp2_with fail
      go_ret
      exact ⟨ret_b e.out.symm, b0⟩
    have HM : Hid _ := M
    have hadd : IntKind.i64.wrap ((ps.length : Int) + 1) = (ps.length : Int) + 1 := IntWalk.i64_in _ (by omega)
    have HQ4 : Hid (R = if qi && !(st && (decide (ps.length = 0) && qv)) then false else roomP ps.length st lo sk && (qB && qM)) := HQ3.out
    clear HQ3 M
    cases qi
    case false =>
      cases st
      case false =>
        have HQ5 : Hid (R = (!(decide (lo < ((ps.length : Int) + 1)) || (decide (16 < lo) || (decide (sk < 0) || decide (16 < sk)))) && (qB && qM))) := by show _ = _; rw [HQ4.out, room_eq ps.length false lo sk ((ps.length : Int) + 1) rfl]; first | rfl | simp
        clear HQ4
        have E1 : Hid (∃ q, decide (lo < ((ps.length : Int) + 1)) = q) := ⟨_, rfl⟩
        obtain ⟨r1, hr1⟩ := E1.out
        have E2 : Hid (∃ q, decide (16 < lo) = q) := ⟨_, rfl⟩
        obtain ⟨r2, hr2⟩ := E2.out
        have E3 : Hid (∃ q, decide (sk < 0) = q) := ⟨_, rfl⟩
        obtain ⟨r3, hr3⟩ := E3.out
        have E4 : Hid (∃ q, decide (16 < sk) = q) := ⟨_, rfl⟩
        obtain ⟨r4, hr4⟩ := E4.out
        rw [hr1, hr2, hr3, hr4] at HQ5
        clear E1 E2 E3 E4
        cases r1
        case true =>
          have e : Hid (R = false) := by show _ = _; rw [HQ5.out]; rfl
          clear HQ5 HB HMP HM
          go_wp2_with fail
          go_ret
          exact ⟨ret_b e.out.symm, b0⟩
        cases r2
        case true =>
          have e : Hid (R = false) := by show _ = _; rw [HQ5.out]; rfl
          clear HQ5 HB HMP HM
          go_wp2_with fail
          go_ret
          exact ⟨ret_b e.out.symm, b0⟩
        cases r3
        case true =>
          have e : Hid (R = false) := by show _ = _; rw [HQ5.out]; rfl
          clear HQ5 HB HMP HM
          go_wp2_with fail
          go_ret
          exact ⟨ret_b e.out.symm, b0⟩
        cases r4
        case true =>
          have e : Hid (R = false) := by show _ = _; rw [HQ5.out]; rfl
          clear HQ5 HB HMP HM
          go_wp2_with fail
          go_ret
          exact ⟨ret_b e.out.symm, b0⟩
        cases qB
        case false =>
          have e : Hid (R = false) := by show _ = _; rw [HQ5.out]; rfl
          clear HQ5 HMP HM
          go_wp2_with fail
          refine HB.mono ?_
          rintro e w2 ⟨rfl, b2⟩
          have k2 := b0.trans (b2.mono b0.size)
          go_wp2_with fail
          go_ret
          exact ⟨ret_b e.out.symm, k2⟩
        have e : Hid (R = qM) := by show _ = _; rw [HQ5.out]; rfl
        clear HQ5
        go_wp2_with fail
        refine HB.mono ?_
        rintro e w2 ⟨rfl, b2⟩
        have k2 := b0.trans (b2.mono b0.size)
        obtain ⟨c0, c1, c2, c3, c4, c5, c6, c7, c8, c9⟩ := MethCells.later HM.out b2
        go_wp2_with fail
        refine (HMP.out _ k2).mono ?_
        rintro e w3 ⟨rfl, b3⟩
        have k3 := k2.trans (b3.mono k2.size)
        go_wp2_with fail
        go_ret
        exact ⟨ret_b e.out.symm, k3⟩
      have HQ5 : Hid (R = (!(decide (lo < (ps.length : Int)) || (decide (16 < lo) || (decide (sk < 0) || decide (16 < sk)))) && (qB && qM))) := by show _ = _; rw [HQ4.out, room_eq ps.length true lo sk (ps.length : Int) rfl]; first | rfl | simp
      clear HQ4
      have E1 : Hid (∃ q, decide (lo < (ps.length : Int)) = q) := ⟨_, rfl⟩
      obtain ⟨r1, hr1⟩ := E1.out
      have E2 : Hid (∃ q, decide (16 < lo) = q) := ⟨_, rfl⟩
      obtain ⟨r2, hr2⟩ := E2.out
      have E3 : Hid (∃ q, decide (sk < 0) = q) := ⟨_, rfl⟩
      obtain ⟨r3, hr3⟩ := E3.out
      have E4 : Hid (∃ q, decide (16 < sk) = q) := ⟨_, rfl⟩
      obtain ⟨r4, hr4⟩ := E4.out
      rw [hr1, hr2, hr3, hr4] at HQ5
      clear E1 E2 E3 E4
      cases r1
      case true =>
        have e : Hid (R = false) := by show _ = _; rw [HQ5.out]; rfl
        clear HQ5 HB HMP HM
        go_wp2_with fail
        go_ret
        exact ⟨ret_b e.out.symm, b0⟩
      cases r2
      case true =>
        have e : Hid (R = false) := by show _ = _; rw [HQ5.out]; rfl
        clear HQ5 HB HMP HM
        go_wp2_with fail
        go_ret
        exact ⟨ret_b e.out.symm, b0⟩
      cases r3
      case true =>
        have e : Hid (R = false) := by show _ = _; rw [HQ5.out]; rfl
        clear HQ5 HB HMP HM
        go_wp2_with fail
        go_ret
        exact ⟨ret_b e.out.symm, b0⟩
      cases r4
      case true =>
        have e : Hid (R = false) := by show _ = _; rw [HQ5.out]; rfl
        clear HQ5 HB HMP HM
        go_wp2_with fail
        go_ret
        exact ⟨ret_b e.out.symm, b0⟩
      cases qB
      case false =>
        have e : Hid (R = false) := by show _ = _; rw [HQ5.out]; rfl
        clear HQ5 HMP HM
        go_wp2_with fail
        refine HB.mono ?_
        rintro e w2 ⟨rfl, b2⟩
        have k2 := b0.trans (b2.mono b0.size)
        go_wp2_with fail
        go_ret
        exact ⟨ret_b e.out.symm, k2⟩
      have e : Hid (R = qM) := by show _ = _; rw [HQ5.out]; rfl
      clear HQ5
      go_wp2_with fail
      refine HB.mono ?_
      rintro e w2 ⟨rfl, b2⟩
      have k2 := b0.trans (b2.mono b0.size)
      obtain ⟨c0, c1, c2, c3, c4, c5, c6, c7, c8, c9⟩ := MethCells.later HM.out b2
      go_wp2_with fail
      refine (HMP.out _ k2).mono ?_
      rintro e w3 ⟨rfl, b3⟩
      have k3 := k2.trans (b3.mono k2.size)
      go_wp2_with fail
      go_ret
      exact ⟨ret_b e.out.symm, k3⟩
    cases st
    case false =>
      have e : Hid (R = false) := by show _ = _; rw [HQ4.out]; rfl
      clear HQ4 HB HMP HM
      go_wp2_with fail
      go_ret
      exact ⟨ret_b e.out.symm, b0⟩
    have D0 : Hid (∃ q, decide (0 < ps.length) = q) := ⟨_, rfl⟩
    obtain ⟨d0, hd0⟩ := D0.out
    have hd1 : decide (0 < (ps.length : Int)) = d0 := by rw [← hd0, Bool.eq_iff_iff]; simp
    have hd2 : decide (ps.length = 0) = !d0 := by rw [← hd0, Bool.eq_iff_iff]; simp
    rw [hd2] at HQ4
    clear D0 hd2
    cases d0
    case true =>
      have e : Hid (R = false) := by show _ = _; rw [HQ4.out]; simp
      clear HQ4 HB HMP HM
      go_wp2_with fail
      go_ret
      exact ⟨ret_b e.out.symm, b0⟩
    cases qv
    case false =>
      have e : Hid (R = false) := by show _ = _; rw [HQ4.out]; rfl
      clear HQ4 HB HMP HM
      go_wp2_with fail
      go_ret
      exact ⟨ret_b e.out.symm, b0⟩
    have HQ5 : Hid (R = (!(decide (lo < (ps.length : Int)) || (decide (16 < lo) || (decide (sk < 0) || decide (16 < sk)))) && (qB && qM))) := by show _ = _; rw [HQ4.out, room_eq ps.length true lo sk (ps.length : Int) rfl]; first | rfl | simp
    clear HQ4
    have E1 : Hid (∃ q, decide (lo < (ps.length : Int)) = q) := ⟨_, rfl⟩
    obtain ⟨r1, hr1⟩ := E1.out
    have E2 : Hid (∃ q, decide (16 < lo) = q) := ⟨_, rfl⟩
    obtain ⟨r2, hr2⟩ := E2.out
    have E3 : Hid (∃ q, decide (sk < 0) = q) := ⟨_, rfl⟩
    obtain ⟨r3, hr3⟩ := E3.out
    have E4 : Hid (∃ q, decide (16 < sk) = q) := ⟨_, rfl⟩
    obtain ⟨r4, hr4⟩ := E4.out
    rw [hr1, hr2, hr3, hr4] at HQ5
    clear E1 E2 E3 E4
    cases r1
    case true =>
      have e : Hid (R = false) := by show _ = _; rw [HQ5.out]; rfl
      clear HQ5 HB HMP HM
      go_wp2_with fail
      go_ret
      exact ⟨ret_b e.out.symm, b0⟩
    cases r2
    case true =>
      have e : Hid (R = false) := by show _ = _; rw [HQ5.out]; rfl
      clear HQ5 HB HMP HM
      go_wp2_with fail
      go_ret
      exact ⟨ret_b e.out.symm, b0⟩
    cases r3
    case true =>
      have e : Hid (R = false) := by show _ = _; rw [HQ5.out]; rfl
      clear HQ5 HB HMP HM
      go_wp2_with fail
      go_ret
      exact ⟨ret_b e.out.symm, b0⟩
    cases r4
    case true =>
      have e : Hid (R = false) := by show _ = _; rw [HQ5.out]; rfl
      clear HQ5 HB HMP HM
      go_wp2_with fail
      go_ret
      exact ⟨ret_b e.out.symm, b0⟩
    cases qB
    case false =>
      have e : Hid (R = false) := by show _ = _; rw [HQ5.out]; rfl
      clear HQ5 HMP HM
      go_wp2_with fail
      refine HB.mono ?_
      rintro e w2 ⟨rfl, b2⟩
      have k2 := b0.trans (b2.mono b0.size)
      go_wp2_with fail
      go_ret
      exact ⟨ret_b e.out.symm, k2⟩
    have e : Hid (R = qM) := by show _ = _; rw [HQ5.out]; rfl
    clear HQ5
    go_wp2_with fail
    refine HB.mono ?_
    rintro e w2 ⟨rfl, b2⟩
    have k2 := b0.trans (b2.mono b0.size)
    obtain ⟨c0, c1, c2, c3, c4, c5, c6, c7, c8, c9⟩ := MethCells.later HM.out b2
    go_wp2_with fail
    refine (HMP.out _ k2).mono ?_
    rintro e w3 ⟨rfl, b3⟩
    have k3 := k2.trans (b3.mono k2.size)
    go_wp2_with fail
    go_ret
    exact ⟨ret_b e.out.symm, k3⟩
end Cls
end Go.Proofs.YtjblmgdjaaeedaaGreat

/- The contracts of the document's own places of fields and methods. -/
namespace Go.Proofs.YtjblmgdjaaeedaaGreat
namespace Cls
open Num Kind Op4
open Go.RowKit
set_option linter.unusedVariables false

set_option maxRecDepth 100000 in
set_option maxHeartbeats 2000000 in
theorem field_any (v3 v4 v5 : Value) (c : ClsL) (n : ByteArray) (w : World) (h : ClsV w v3 v4 v5 c) (hn : n.size ≤ maxLen) :
    Calls Tryz.prog 28 #[clsVal v3 v4 v5 c, .string n] w fun e w' => e = .returned (.int .i64 (fieldP c n)) ∧ Below w.heap.size w w' := by
  unfold clsVal
  have b0 := (Below.refl w.heap.size w).alloc (Nat.le_refl _) (.cells #[.string c.name, .string c.super, .bool c.iface, v3, v4, v5] 26)
  obtain ⟨a, cp, rfl, hl, hm, hnil, hx⟩ := h.fields.later fieldE_stable b0
  unfold fieldP
  generalize hF : c.fields = F at *
  unfold maxLen at hm
  rcases Nat.eq_zero_or_pos F.length with h0 | h0
  · obtain rfl : F = [] := List.eq_nil_of_length_eq_zero h0
    simp only [List.length_nil, place] at *
    go_enter Tryz.func28, Tryz.ntmps28
    go_wp2_with fail
    refine wp_loop_rounds 1 ?_
    rw [rounds_succ]
    go_wp2_with fail
    go_ret
    exact ⟨rfl, b0⟩
  · obtain ⟨b, off, rfl, hlt, hx⟩ := hx h0
    have HX : Hid _ := hx
    clear hx hnil h hF
    go_enter Tryz.func28, Tryz.ntmps28
    go_wp2_with fail
    go_loop [5] (fun i => ∃ k : Nat, k ≤ F.length ∧ i = .int .i64 k ∧ place (fun f : FieldL => f.name.toList == n.toList) k (F.drop k) = place (fun f : FieldL => f.name.toList == n.toList) 0 F) (fun i => F.length - (intOf i).toNat)
    case atStart => exact ⟨0, by omega, rfl, rfl⟩
    case round =>
      obtain ⟨k, hk, rfl, hp⟩ := hrel
      by_cases hlk : k < F.length
      · have e := HX.out k hlk
        obtain ⟨c0, c1, c2, _, _⟩ := e
        rw [place_step _ F k hlk] at hp
        have HP : Hid _ := hp
        clear hp
        generalize F[k].name = X at *
        cases hq : (X.toList == n.toList)
        · have HP2 : Hid (place (fun f : FieldL => f.name.toList == n.toList) (k + 1) (F.drop (k + 1)) = place (fun f : FieldL => f.name.toList == n.toList) 0 F) := by
            have := HP.out
            rw [hq] at this
            exact this
          clear HP
          go_wp2_with fail
          go_round
          case rel => exact ⟨k + 1, by omega, by go_num, HP2.out⟩
          case measure => simp [intOf]; omega
        · have HP2 : Hid ((k : Int) = place (fun f : FieldL => f.name.toList == n.toList) 0 F) := by
            have := HP.out
            rw [hq] at this
            exact this
          clear HP
          go_wp2_with fail
          go_ret
          exact ⟨ret_int HP2.out.symm, b0⟩
      · rw [place_end _ F k (by omega)] at hp
        have HP : Hid _ := hp
        clear hp
        go_wp2_with fail
        go_ret
        exact ⟨ret_int HP.out.symm, b0⟩
set_option maxRecDepth 100000 in
set_option maxHeartbeats 2000000 in
theorem method_any (v3 v4 v5 : Value) (c : ClsL) (n : ByteArray) (w : World) (h : ClsV w v3 v4 v5 c) (hn : n.size ≤ maxLen) :
    Calls Tryz.prog 29 #[clsVal v3 v4 v5 c, .string n] w fun e w' => e = .returned (.int .i64 (methodP c n)) ∧ Below w.heap.size w w' := by
  unfold clsVal
  have b0 := (Below.refl w.heap.size w).alloc (Nat.le_refl _) (.cells #[.string c.name, .string c.super, .bool c.iface, v3, v4, v5] 26)
  obtain ⟨a, cp, rfl, hl, hm, hnil, hx⟩ := h.methods.later methE_stable b0
  unfold methodP
  generalize hF : c.methods = F at *
  unfold maxLen at hm
  rcases Nat.eq_zero_or_pos F.length with h0 | h0
  · obtain rfl : F = [] := List.eq_nil_of_length_eq_zero h0
    simp only [List.length_nil, place] at *
    go_enter Tryz.func29, Tryz.ntmps29
    go_wp2_with fail
    refine wp_loop_rounds 1 ?_
    rw [rounds_succ]
    go_wp2_with fail
    go_ret
    exact ⟨rfl, b0⟩
  · obtain ⟨b, off, rfl, hlt, hx⟩ := hx h0
    have HX : Hid _ := hx
    clear hx hnil h hF
    go_enter Tryz.func29, Tryz.ntmps29
    go_wp2_with fail
    go_loop [5] (fun i => ∃ k : Nat, k ≤ F.length ∧ i = .int .i64 k ∧ place (fun f : MethL => f.name.toList == n.toList) k (F.drop k) = place (fun f : MethL => f.name.toList == n.toList) 0 F) (fun i => F.length - (intOf i).toNat)
    case atStart => exact ⟨0, by omega, rfl, rfl⟩
    case round =>
      obtain ⟨k, hk, rfl, hp⟩ := hrel
      by_cases hlk : k < F.length
      · have e := HX.out k hlk
        obtain ⟨_, _, _, _, _, hce⟩ := e
        have c0 := hce 0 (by decide)
        simp only [methCells, List.getElem?_toArray, List.getElem?_cons_zero, Nat.add_zero] at c0
        clear hce
        rw [place_step _ F k hlk] at hp
        have HP : Hid _ := hp
        clear hp
        generalize F[k].name = X at *
        cases hq : (X.toList == n.toList)
        · have HP2 : Hid (place (fun f : MethL => f.name.toList == n.toList) (k + 1) (F.drop (k + 1)) = place (fun f : MethL => f.name.toList == n.toList) 0 F) := by
            have := HP.out
            rw [hq] at this
            exact this
          clear HP
          go_wp2_with fail
          go_round
          case rel => exact ⟨k + 1, by omega, by go_num, HP2.out⟩
          case measure => simp [intOf]; omega
        · have HP2 : Hid ((k : Int) = place (fun f : MethL => f.name.toList == n.toList) 0 F) := by
            have := HP.out
            rw [hq] at this
            exact this
          clear HP
          go_wp2_with fail
          go_ret
          exact ⟨ret_int HP2.out.symm, b0⟩
      · rw [place_end _ F k (by omega)] at hp
        have HP : Hid _ := hp
        clear hp
        go_wp2_with fail
        go_ret
        exact ⟨ret_int HP.out.symm, b0⟩
end Cls
end Go.Proofs.YtjblmgdjaaeedaaGreat

/- The contract of the document's own test of a class: it answers as package class's parts ask. -/
namespace Go.Proofs.YtjblmgdjaaeedaaGreat
namespace Cls
open Num Kind Op4
open Go.RowKit
set_option linter.unusedVariables false
set_option linter.unusedSimpArgs false
set_option maxRecDepth 100000

theorem place_hit {α : Type} (p : α → Bool) : ∀ (l : List α) (s i : Nat) (h : i < l.length), p l[i] = true → (∀ j (hj : j < i), p (l[j]'(by omega)) = false) → place p s l = ((s + i : Nat) : Int)
  | x :: r, s, 0, _, h1, _ => by
    show (if p x = true then (s : Int) else _) = _
    rw [if_pos (by simpa using h1)]
    rfl
  | x :: r, s, i + 1, h, h1, h2 => by
    have h0 : p x = false := h2 0 (by omega)
    show (if p x = true then (s : Int) else place p (s + 1) r) = _
    rw [h0, if_neg (by decide), place_hit p r (s + 1) i (by simpa using h) (by simpa using h1) (fun j hj => by
      have := h2 (j + 1) (by omega)
      simpa using this)]
    congr 1
    omega
theorem place_miss {α : Type} (p : α → Bool) : ∀ (l : List α) (s i : Nat) (h : i < l.length), p l[i] = true → place p s l ≤ ((s + i : Nat) : Int)
  | x :: r, s, 0, _, h1 => by
    show (if p x = true then (s : Int) else _) ≤ _
    rw [if_pos (by simpa using h1)]
    simp
  | x :: r, s, i + 1, h, h1 => by
    show (if p x = true then (s : Int) else place p (s + 1) r) ≤ _
    split
    · omega
    · have := place_miss p r (s + 1) i (by simpa using h) (by simpa using h1)
      omega
theorem allI_and {α : Type} (p q : Nat → α → Bool) : ∀ (l : List α) (k : Nat), allI (fun i x => p i x && q i x) k l = (allI p k l && allI q k l)
  | [], _ => rfl
  | x :: r, k => by
    show ((p k x && q k x) && allI _ (k + 1) r) = ((p k x && allI p (k + 1) r) && (q k x && allI q (k + 1) r))
    rw [allI_and p q r (k + 1)]
    cases p k x <;> cases q k x <;> simp
theorem allI_all {α : Type} (p : α → Bool) : ∀ (l : List α) (k : Nat), allI (fun _ x => p x) k l = l.all p
  | [], _ => rfl
  | x :: r, k => by
    show (p x && allI _ (k + 1) r) = (p x && r.all p)
    rw [allI_all p r (k + 1)]
theorem allI_comm {α : Type} (p q : Nat → α → Bool) (h : ∀ k x, p k x = q k x) (l : List α) (k : Nat) : allI p k l = allI q k l := by
  have : p = q := funext fun k => funext fun x => h k x
  rw [this]
theorem mayP_eq (nm su : ByteArray) (ifc : Bool) (im : List ByteArray) (fs : List FieldL) (ms : List MethL) :
    mayP ⟨nm, su, ifc, im, fs, ms⟩ = (classB (nums nm) && (classB (nums su) && (decide (im.length ≤ 4) && (decide (fs.length ≤ 8) && (decide (ms.length ≤ 8) && (!(ifc && (!(nums su == objectL) || decide (0 < fs.length))) && (allI (fun k f => classB (nums f) && (splace im f == ((k : Nat) : Int))) 0 im && (allI (fun k f => fieldB f && (fplace fs f.name == ((k : Nat) : Int))) 0 fs && allI (fun k f => (f.abstract == ifc) && ((mplace ms f.name == ((k : Nat) : Int)) && methP f)) 0 ms)))))))) := by
  have e : allI (fun k f => (f.abstract == ifc) && ((mplace ms f.name == ((k : Nat) : Int)) && methP f)) 0 ms = (allI (fun k f => methP f && (mplace ms f.name == ((k : Nat) : Int))) 0 ms && ms.all fun m => m.abstract == ifc) := by
    rw [allI_and (fun k f => f.abstract == ifc) (fun k f => (mplace ms f.name == ((k : Nat) : Int)) && methP f), allI_all, allI_comm (fun k f => (mplace ms f.name == ((k : Nat) : Int)) && methP f) (fun k f => methP f && (mplace ms f.name == ((k : Nat) : Int))) (fun k x => Bool.and_comm _ _), Bool.and_comm]
  unfold mayP implP fieldsP methsP keepsP
  simp only
  rw [e]
  generalize classB (nums nm) = x1
  generalize classB (nums su) = x2
  generalize decide (im.length ≤ 4) = x3
  generalize decide (fs.length ≤ 8) = x4
  generalize decide (ms.length ≤ 8) = x5
  generalize (ifc && (!(nums su == objectL) || decide (0 < fs.length))) = x6
  generalize allI (fun k f => classB (nums f) && (splace im f == ((k : Nat) : Int))) 0 im = x7
  generalize allI (fun k f => fieldB f && (fplace fs f.name == ((k : Nat) : Int))) 0 fs = x8
  generalize allI (fun k f => methP f && (mplace ms f.name == ((k : Nat) : Int))) 0 ms = x9
  generalize (ms.all fun m => m.abstract == ifc) = x10
  cases x1 <;> cases x2 <;> cases x3 <;> cases x4 <;> cases x5 <;> simp <;> cases x6 <;> cases x7 <;> cases x8 <;> cases x9 <;> simp
set_option maxHeartbeats 16000000 in
theorem rcls_any (v3 v4 v5 : Value) (c : ClsL) (w : World) (h : ClsV w v3 v4 v5 c) :
    Calls Tryz.prog 11 #[clsVal v3 v4 v5 c] w fun e w' => e = .returned (.bool (mayP c)) ∧ Below w.heap.size w w' := by
  obtain ⟨nm, su, ifc, im, fs, ms⟩ := c
  obtain ⟨a3, c3, hv3, hl3, hm3, _, hx3⟩ := h.impl
  obtain ⟨a4, c4, hv4, hl4, hm4, _, hx4⟩ := h.fields
  obtain ⟨a5, c5, hv5, hl5, hm5, _, hx5⟩ := h.methods
  subst hv3 hv4 hv5
  simp only at hl3 hl4 hl5
  clear hx3 hx4 hx5
  unfold maxLen at hm3 hm4 hm5
  unfold clsVal
  simp only
  have b0 := (Below.refl w.heap.size w).alloc (Nat.le_refl _) (.cells #[.string nm, .string su, .bool ifc, .slice a3 im.length c3, .slice a4 fs.length c4, .slice a5 ms.length c5] 26)
  have M := ClsCells.new w (.string nm) (.string su) (.bool ifc) (.slice a3 im.length c3) (.slice a4 fs.length c4) (.slice a5 ms.length c5) 26
  have HV : Hid (∀ W, Below w.heap.size w W → _) := fun W hb => ClsV.later h hb
  have H1 := fun W => class_any nm W h.s0
  have H2 := fun W => class_any su W h.s1
  have hob := beq_nums su [79, 98, 106, 101, 99, 116] objectL rfl
  have HQ : Hid _ := mayP_eq nm su ifc im fs ms
  generalize mayP ⟨nm, su, ifc, im, fs, ms⟩ = R at *
  clear h
  generalize classB (nums nm) = q1 at *
  generalize classB (nums su) = q2 at *
  generalize (nums su == objectL) = qo at *
  cases q1
  case false =>
    have e : Hid (R = false) := by show _ = _; rw [HQ.out]; rfl
    clear HQ M HV
    go_enter Tryz.func11, Tryz.ntmps11
    go_wp2_with (first | (go_at_call_of 25 nm; refine (H1 _).mono ?_; rintro e w' ⟨rfl, rfl⟩) | (go_at_call_of 25 su; refine (H2 _).mono ?_; rintro e w' ⟨rfl, rfl⟩))
    go_ret
    exact ⟨ret_b e.out.symm, b0⟩
  cases q2
  case false =>
    have e : Hid (R = false) := by show _ = _; rw [HQ.out]; rfl
    clear HQ M HV
    go_enter Tryz.func11, Tryz.ntmps11
    go_wp2_with (first | (go_at_call_of 25 nm; refine (H1 _).mono ?_; rintro e w' ⟨rfl, rfl⟩) | (go_at_call_of 25 su; refine (H2 _).mono ?_; rintro e w' ⟨rfl, rfl⟩))
    go_ret
    exact ⟨ret_b e.out.symm, b0⟩
  by_cases h4 : im.length ≤ 4
  case neg =>
    have e : Hid (R = false) := by show _ = _; rw [HQ.out]; simp [h4]
    clear HQ M HV
    go_enter Tryz.func11, Tryz.ntmps11
    go_wp2_with (first | (go_at_call_of 25 nm; refine (H1 _).mono ?_; rintro e w' ⟨rfl, rfl⟩) | (go_at_call_of 25 su; refine (H2 _).mono ?_; rintro e w' ⟨rfl, rfl⟩))
    go_ret
    exact ⟨ret_b e.out.symm, b0⟩
  by_cases h8 : fs.length ≤ 8
  case neg =>
    have e : Hid (R = false) := by show _ = _; rw [HQ.out]; simp [h8]
    clear HQ M HV
    go_enter Tryz.func11, Tryz.ntmps11
    go_wp2_with (first | (go_at_call_of 25 nm; refine (H1 _).mono ?_; rintro e w' ⟨rfl, rfl⟩) | (go_at_call_of 25 su; refine (H2 _).mono ?_; rintro e w' ⟨rfl, rfl⟩))
    go_ret
    exact ⟨ret_b e.out.symm, b0⟩
  by_cases h9 : ms.length ≤ 8
  case neg =>
    have e : Hid (R = false) := by show _ = _; rw [HQ.out]; simp [h9]
    clear HQ M HV
    go_enter Tryz.func11, Tryz.ntmps11
    go_wp2_with (first | (go_at_call_of 25 nm; refine (H1 _).mono ?_; rintro e w' ⟨rfl, rfl⟩) | (go_at_call_of 25 su; refine (H2 _).mono ?_; rintro e w' ⟨rfl, rfl⟩))
    go_ret
    exact ⟨ret_b e.out.symm, b0⟩
  have HQ2 : Hid (R = (!(ifc && (!qo || decide (0 < fs.length))) && (allI (fun k f => classB (nums f) && (splace im f == ((k : Nat) : Int))) 0 im && (allI (fun k f => fieldB f && (fplace fs f.name == ((k : Nat) : Int))) 0 fs && allI (fun k f => (f.abstract == ifc) && ((mplace ms f.name == ((k : Nat) : Int)) && methP f)) 0 ms)))) := by show _ = _; rw [HQ.out]; simp [h4, h8, h9]
  have D0 : Hid (∃ q, decide (0 < fs.length) = q) := ⟨_, rfl⟩
  obtain ⟨qf, hqf⟩ := D0.out
  rw [hqf] at HQ2
  have hqf' : decide (0 < (fs.length : Int)) = qf := by rw [← hqf, Bool.eq_iff_iff]; simp
  clear HQ D0
  cases hbad : (ifc && (!qo || qf))
  case true =>
    have HF : Hid (R = false) := by show _ = _; rw [HQ2.out, hbad]; rfl
    clear HQ2
    cases ifc
    case false => simp at hbad
    cases qo
    case false =>
      have e : Hid (R = false) := HF.out
      clear hbad HF M HV
      go_enter Tryz.func11, Tryz.ntmps11
      go_wp2_with (first | (go_at_call_of 25 nm; refine (H1 _).mono ?_; rintro e w' ⟨rfl, rfl⟩) | (go_at_call_of 25 su; refine (H2 _).mono ?_; rintro e w' ⟨rfl, rfl⟩))
      go_ret
      exact ⟨ret_b e.out.symm, b0⟩
    cases qf
    case false => simp at hbad
    have e : Hid (R = false) := HF.out
    clear hbad HF M HV
    go_enter Tryz.func11, Tryz.ntmps11
    go_wp2_with (first | (go_at_call_of 25 nm; refine (H1 _).mono ?_; rintro e w' ⟨rfl, rfl⟩) | (go_at_call_of 25 su; refine (H2 _).mono ?_; rintro e w' ⟨rfl, rfl⟩))
    go_ret
    exact ⟨ret_b e.out.symm, b0⟩
  have HQ3 : Hid (R = (allI (fun k f => classB (nums f) && (splace im f == ((k : Nat) : Int))) 0 im && (allI (fun k f => fieldB f && (fplace fs f.name == ((k : Nat) : Int))) 0 fs && allI (fun k f => (f.abstract == ifc) && ((mplace ms f.name == ((k : Nat) : Int)) && methP f)) 0 ms))) := by show _ = _; rw [HQ2.out, hbad]; rfl
  clear HQ2
  have HM : Hid _ := M
  obtain ⟨z0, z1, z2, z3, z4, z5⟩ := M
  have HGO : ifc = false ∨ (ifc = true ∧ qo = true ∧ qf = false) := by
    cases ifc
    · exact .inl rfl
    · right
      cases qo <;> cases qf <;> simp_all
  clear hbad
  rcases HGO with rfl | ⟨rfl, rfl, rfl⟩
  case inl =>
    go_enter Tryz.func11, Tryz.ntmps11
    go_wp2_with (first | (go_at_call_of 25 nm; refine (H1 _).mono ?_; rintro e w' ⟨rfl, rfl⟩) | (go_at_call_of 25 su; refine (H2 _).mono ?_; rintro e w' ⟨rfl, rfl⟩))
    go_loopw [3] (fun i wr => ∃ k : Nat, k ≤ im.length ∧ i = .int .i64 k ∧ allI (fun k f => classB (nums f) && (splace im f == ((k : Nat) : Int))) k (im.drop k) = allI (fun k f => classB (nums f) && (splace im f == ((k : Nat) : Int))) 0 im ∧ ClsCells wr w.heap.size (.string nm) (.string su) (.bool false) (.slice a3 im.length c3) (.slice a4 fs.length c4) (.slice a5 ms.length c5) ∧ Below w.heap.size w wr) (fun i _ => im.length - (intOf i).toNat)
    case atStart => exact ⟨0, by omega, rfl, rfl, HM.out, b0⟩
    case round =>
      clear z0 z1 z2 z3 z4 z5 b0 HM
      obtain ⟨k, hk, rfl, hall, M, hbel⟩ := hrel
      have HA : Hid _ := hall
      have HM : Hid _ := M
      obtain ⟨z0, z1, z2, z3, z4, z5⟩ := M
      clear hall
      by_cases hlk : k < im.length
      case pos =>
        obtain ⟨aa, cc, ev, _, _, _, hx9⟩ := (HV.out wr hbel).impl
        simp only [Value.slice.injEq, true_and] at ev
        obtain ⟨rfl, rfl⟩ := ev
        obtain ⟨b9, off9, rfl, hb9, hx9⟩ := hx9 (by show 0 < im.length; omega)
        have HXX : Hid (∀ W, Below wr.heap.size wr W → ∀ i (h : i < im.length), strE W b9 (off9 + i * 1) im[i]) := fun W hb i hi => strE_stable _ _ _ _ _ (hx9 i hi) hb
        obtain ⟨c0, c1⟩ := hx9 k hlk
        simp only [Nat.mul_one] at c0
        have HS := allI_step (fun k f => classB (nums f) && (splace im f == ((k : Nat) : Int))) im k hlk
        rw [HA.out] at HS
        have HS2 : Hid _ := HS
        have HC := fun W => class_any im[k] W c1
        clear HS hx9 HA
        have HXk : Hid (∃ X, im[k] = X) := ⟨_, rfl⟩
        obtain ⟨X, hX⟩ := HXk.out
        have HX : Hid _ := hX
        rw [hX] at c0 HC HS2
        clear hX HXk
        cases hqc : classB (nums X)
        case false =>
          have HF : Hid (R = false) := by show _ = _; rw [HQ3.out, HS2.out, hqc]; rfl
          clear HS2 HQ3
          rw [hqc] at HC
          go_wp2_with (go_at_call 25; refine (HC _).mono ?_; rintro e w' ⟨rfl, rfl⟩)
          go_ret
          exact ⟨ret_b HF.out.symm, hbel⟩
        rw [hqc] at HC
        have HQC : Hid _ := hqc
        clear hqc
        rename World => wo
        go_wp2_with (go_at_call 25; refine (HC _).mono ?_; rintro e w' ⟨rfl, rfl⟩)
        go_loopw [4] (fun i wr => ∃ l : Nat, l ≤ k ∧ i = .int .i64 l ∧ (∀ q (hq : q < l), ∃ hq' : q < im.length, (X.toList == (im[q]'hq').toList) = false) ∧ Below wo.heap.size wo wr) (fun i _ => k - (intOf i).toNat)
        case atStart => exact ⟨0, by omega, rfl, fun q hq => absurd hq (by omega), Below.refl _ _⟩
        case round =>
          clear z0 z1 z2 z3 z4 z5 c0
          obtain ⟨l, hl, rfl, hno, hb2⟩ := hrel
          have HNO : Hid _ := hno
          clear hno
          have MM := ClsCells.later HM.out hb2
          have HMM : Hid _ := MM
          obtain ⟨z0, z1, z2, z3, z4, z5⟩ := MM
          have kw := hbel.trans (hb2.mono hbel.size)
          by_cases hlt : l < k
          case pos =>
            obtain ⟨y0, y1⟩ := HXX.out wr hb2 l (by omega)
            obtain ⟨x0, x1⟩ := HXX.out wr hb2 k hlk
            simp only [Nat.mul_one] at x0 y0
            rw [HX.out] at x0
            have HYk : Hid (∃ Y, im[l] = Y) := ⟨_, rfl⟩
            obtain ⟨Y, hY⟩ := HYk.out
            have HY : Hid _ := hY
            rw [hY] at y0
            clear hY HYk
            have hsy : (X.toList == Y.toList) = (Y.toList == X.toList) := by rw [Bool.eq_iff_iff]; simp only [beq_iff_eq]; exact ⟨Eq.symm, Eq.symm⟩
            cases hq : (Y.toList == X.toList)
            case true =>
              have HF : Hid (R = false) := by
                show _ = _
                have hp : place (fun f : ByteArray => X.toList == f.toList) 0 im ≤ ((0 + l : Nat) : Int) := place_miss _ im 0 l (by omega) (by rw [HY.out, hsy, hq])
                have hne : (splace im X == (k : Int)) = false := by
                  unfold splace
                  rw [beq_eq_false_iff_ne]
                  omega
                rw [HQ3.out, HS2.out, hne]
                simp
              clear HS2 HQ3 hsy
              go_wp2_with fail
              go_quiet (fail)
              go_wp2_with fail
              go_ret
              exact ⟨ret_b HF.out.symm, kw.trans ((Joins.below_draws _ _ _).mono kw.size)⟩
            have hno2 : ∀ q (hq : q < l + 1), ∃ hq' : q < im.length, (X.toList == (im[q]'hq').toList) = false := by
              intro q hql
              by_cases hq2 : q < l
              · exact HNO.out q hq2
              · obtain rfl : q = l := by omega
                exact ⟨by omega, by rw [HY.out, hsy, hq]⟩
            have HNO2 : Hid _ := hno2
            clear hno2 hsy
            go_wp2_with fail
            go_quiet (fail)
            go_wp2_with fail
            go_roundw
            case rel => exact ⟨l + 1, by omega, by go_num, HNO2.out, hb2.trans ((Joins.below_draws _ _ _).mono hb2.size)⟩
            case measure => simp [intOf]; omega
          have HF : Hid (allI (fun k f => classB (nums f) && (splace im f == ((k : Nat) : Int))) (k + 1) (im.drop (k + 1)) = allI (fun k f => classB (nums f) && (splace im f == ((k : Nat) : Int))) 0 im) := by
            show _ = _
            have hp : place (fun f : ByteArray => X.toList == f.toList) 0 im = ((0 + k : Nat) : Int) := place_hit _ im 0 k hlk (by rw [HX.out]; simp) (fun j hj => (HNO.out j (by omega)).2)
            have hne : (splace im X == (k : Int)) = true := by
              unfold splace
              rw [hp]
              simp
            rw [HS2.out, HQC.out, hne]
            simp
          clear HS2
          go_wp2_with fail
          go_roundw
          case rel => exact ⟨k + 1, by omega, by go_num, HF.out, HMM.out, kw⟩
          case measure => simp [intOf]; omega
      have HQ4 : Hid (R = (allI (fun k f => fieldB f && (fplace fs f.name == ((k : Nat) : Int))) 0 fs && allI (fun k f => (f.abstract == false) && ((mplace ms f.name == ((k : Nat) : Int)) && methP f)) 0 ms)) := by
        show _ = _
        have h1 : allI (fun k f => classB (nums f) && (splace im f == ((k : Nat) : Int))) 0 im = true := by rw [← HA.out, allI_end _ _ _ (by omega)]
        rw [HQ3.out, h1, Bool.true_and]
      clear HQ3 HA
      go_wp2_with fail
      go_loopw [5, 6] (fun i _ wr => ∃ k : Nat, k ≤ fs.length ∧ i = .int .i64 k ∧ allI (fun k f => fieldB f && (fplace fs f.name == ((k : Nat) : Int))) k (fs.drop k) = allI (fun k f => fieldB f && (fplace fs f.name == ((k : Nat) : Int))) 0 fs ∧ ClsCells wr w.heap.size (.string nm) (.string su) (.bool false) (.slice a3 im.length c3) (.slice a4 fs.length c4) (.slice a5 ms.length c5) ∧ Below w.heap.size w wr) (fun i _ _ => fs.length - (intOf i).toNat)
      case atStart => exact ⟨0, by omega, rfl, rfl, HM.out, hbel⟩
      case round =>
        clear z0 z1 z2 z3 z4 z5 hbel HM hlk
        obtain ⟨kf, hkf, rfl, hall, M, hbel⟩ := hrel
        have HA : Hid _ := hall
        have HM : Hid _ := M
        obtain ⟨z0, z1, z2, z3, z4, z5⟩ := M
        clear hall
        by_cases hlk : kf < fs.length
        case pos =>
          obtain ⟨aa, cc, ev, _, _, _, hx9⟩ := (HV.out wr hbel).fields
          simp only [Value.slice.injEq, true_and] at ev
          obtain ⟨rfl, rfl⟩ := ev
          obtain ⟨b9, off9, rfl, hb9, hx9⟩ := hx9 (by show 0 < fs.length; omega)
          obtain ⟨x0, x1, x2, s0, s1⟩ := hx9 kf hlk
          have HS := allI_step (fun k f => fieldB f && (fplace fs f.name == ((k : Nat) : Int))) fs kf hlk
          rw [HA.out] at HS
          have HS2 : Hid _ := HS
          clear HS hx9 HA
          generalize fs[kf] = X at *
          obtain ⟨fn, ft, fst⟩ := X
          simp only at x0 x1 x2 s0 s1 HS2
          have e1 := (Below.refl wr.heap.size wr).alloc (Nat.le_refl _) (.cells #[.string fn, .string ft, .bool fst] 40)
          have k1 := hbel.trans (e1.mono hbel.size)
          have MM := ClsCells.later HM.out e1
          have HMM : Hid _ := MM
          obtain ⟨t0, t1, t2, t3, t4, t5⟩ := MM
          have hfi := beq_nums fn [36, 105, 110, 105, 116] initL rfl
          have HN := fun W => name_any fn W s0
          have HMY := fun W => may_any ft W s1
          have HFD := field_any _ _ _ _ fn _ (HV.out _ k1) s0
          simp only [clsVal] at HFD
          have hfp : fieldP ⟨nm, su, false, im, fs, ms⟩ fn = fplace fs fn := rfl
          rw [hfp] at HFD
          have HFB : Hid (fieldB ⟨fn, ft, fst⟩ = (!(nums fn == initL) && (nameB (nums fn) && mayB (nums ft)))) := rfl
          rw [HFB.out] at HS2
          clear hfp HFB
          generalize fplace fs fn = p at *
          generalize (nums fn == initL) = qi at *
          generalize nameB (nums fn) = qn at *
          generalize mayB (nums ft) = qm at *
          cases qn
          case false =>
            have HF : Hid (R = false) := by show _ = _; rw [HQ4.out, HS2.out]; simp
            clear HS2 HQ4 HFD
            go_wp2_with (first | (go_at_call 26; refine (HN _).mono ?_; rintro e w' ⟨rfl, rfl⟩) | (go_at_call 27; refine (HMY _).mono ?_; rintro e w' ⟨rfl, rfl⟩))
            go_ret
            exact ⟨ret_b HF.out.symm, k1⟩
          cases qi
          case true =>
            have HF : Hid (R = false) := by show _ = _; rw [HQ4.out, HS2.out]; simp
            clear HS2 HQ4 HFD
            go_wp2_with (first | (go_at_call 26; refine (HN _).mono ?_; rintro e w' ⟨rfl, rfl⟩) | (go_at_call 27; refine (HMY _).mono ?_; rintro e w' ⟨rfl, rfl⟩))
            go_ret
            exact ⟨ret_b HF.out.symm, k1⟩
          cases qm
          case false =>
            have HF : Hid (R = false) := by show _ = _; rw [HQ4.out, HS2.out]; simp
            clear HS2 HQ4 HFD
            go_wp2_with (first | (go_at_call 26; refine (HN _).mono ?_; rintro e w' ⟨rfl, rfl⟩) | (go_at_call 27; refine (HMY _).mono ?_; rintro e w' ⟨rfl, rfl⟩))
            go_ret
            exact ⟨ret_b HF.out.symm, k1⟩
          cases hpk : (p == (kf : Int))
          case false =>
            have HF : Hid (R = false) := by show _ = _; rw [HQ4.out, HS2.out, hpk]; rfl
            have hpk' : (p != (kf : Int)) = true := by simp only [bne, hpk]; rfl
            clear HS2 HQ4 hpk
            go_wp2_with (first | (go_at_call 26; refine (HN _).mono ?_; rintro e w' ⟨rfl, rfl⟩) | (go_at_call 27; refine (HMY _).mono ?_; rintro e w' ⟨rfl, rfl⟩))
            refine HFD.mono ?_
            rintro e w3 ⟨rfl, b3⟩
            have k3 := k1.trans (b3.mono k1.size)
            go_wp2_with fail
            go_ret
            exact ⟨ret_b HF.out.symm, k3⟩
          have HF : Hid (allI (fun k f => fieldB f && (fplace fs f.name == ((k : Nat) : Int))) (kf + 1) (fs.drop (kf + 1)) = allI (fun k f => fieldB f && (fplace fs f.name == ((k : Nat) : Int))) 0 fs) := by show _ = _; rw [HS2.out, hpk]; rfl
          have hpk' : (p != (kf : Int)) = false := by simp only [bne, hpk]; rfl
          clear HS2 hpk
          go_wp2_with (first | (go_at_call 26; refine (HN _).mono ?_; rintro e w' ⟨rfl, rfl⟩) | (go_at_call 27; refine (HMY _).mono ?_; rintro e w' ⟨rfl, rfl⟩))
          refine HFD.mono ?_
          rintro e w3 ⟨rfl, b3⟩
          have k3 := k1.trans (b3.mono k1.size)
          go_wp2_with fail
          go_roundw
          case rel => exact ⟨kf + 1, by omega, by go_num, HF.out, ClsCells.later HMM.out b3, k3⟩
          case measure => simp [intOf]; omega
        have HQ5 : Hid (R = allI (fun k f => (f.abstract == false) && ((mplace ms f.name == ((k : Nat) : Int)) && methP f)) 0 ms) := by
          show _ = _
          have h1 : allI (fun k f => fieldB f && (fplace fs f.name == ((k : Nat) : Int))) 0 fs = true := by rw [← HA.out, allI_end _ _ _ (by omega)]
          rw [HQ4.out, h1, Bool.true_and]
        clear HQ4 HA
        go_wp2_with fail
        go_loopw [7, 8] (fun i _ wr => ∃ k : Nat, k ≤ ms.length ∧ i = .int .i64 k ∧ allI (fun k f => (f.abstract == false) && ((mplace ms f.name == ((k : Nat) : Int)) && methP f)) k (ms.drop k) = allI (fun k f => (f.abstract == false) && ((mplace ms f.name == ((k : Nat) : Int)) && methP f)) 0 ms ∧ ClsCells wr w.heap.size (.string nm) (.string su) (.bool false) (.slice a3 im.length c3) (.slice a4 fs.length c4) (.slice a5 ms.length c5) ∧ Below w.heap.size w wr) (fun i _ _ => ms.length - (intOf i).toNat)
        case atStart => exact ⟨0, by omega, rfl, rfl, HM.out, hbel⟩
        case round =>
          clear z0 z1 z2 z3 z4 z5 hbel HM hlk
          obtain ⟨km, hkm, rfl, hall, M, hbel⟩ := hrel
          have HA : Hid _ := hall
          have HM : Hid _ := M
          obtain ⟨z0, z1, z2, z3, z4, z5⟩ := M
          clear hall
          by_cases hlk : km < ms.length
          case pos =>
            obtain ⟨aa, cc, ev, _, _, _, hx9⟩ := (HV.out wr hbel).methods
            simp only [Value.slice.injEq, true_and] at ev
            obtain ⟨rfl, rfl⟩ := ev
            obtain ⟨b9, off9, rfl, hb9, hx9⟩ := hx9 (by show 0 < ms.length; omega)
            obtain ⟨v1, v7, v8, v9, MV, hce⟩ := hx9 km hlk
            have HS := allI_step (fun k f => (f.abstract == false) && ((mplace ms f.name == ((k : Nat) : Int)) && methP f)) ms km hlk
            rw [HA.out] at HS
            have HS2 : Hid _ := HS
            clear HS hx9 HA
            simp only at hce MV
            generalize ms[km] = X at *
            obtain ⟨mn, ps, rt, st, ab, lo, sk, code, maps, traps⟩ := X
            have x0 := hce 0 (by decide)
            have x1 := hce 1 (by decide)
            have x2 := hce 2 (by decide)
            have x3 := hce 3 (by decide)
            have x4 := hce 4 (by decide)
            have x5 := hce 5 (by decide)
            have x6 := hce 6 (by decide)
            have x7 := hce 7 (by decide)
            have x8 := hce 8 (by decide)
            have x9 := hce 9 (by decide)
            simp only [methCells, List.getElem?_toArray, List.getElem?_cons_zero, List.getElem?_cons_succ, Nat.add_zero] at x0 x1 x2 x3 x4 x5 x6 x7 x8 x9
            simp only at HS2
            clear hce
            have HVV : Hid _ := MV
            obtain ⟨a1, cp1, rfl, _, _, _, hz1⟩ := MV.params
            obtain ⟨a7, cp7, rfl, _, _, _, hz7⟩ := MV.code
            obtain ⟨a8, cp8, rfl, _, _, _, hz8⟩ := MV.maps
            obtain ⟨a9, cp9, rfl, _, _, _, hz9⟩ := MV.traps
            simp only at x1 x7 x8 x9 HVV
            clear MV hz1 hz7 hz8 hz9
            have e1 := (Below.refl wr.heap.size wr).alloc (Nat.le_refl _) (.cells #[.string mn, .slice a1 ps.length cp1, .string rt, .bool st, .bool ab, .int .i64 lo, .int .i64 sk, .slice a7 code.length cp7, .slice a8 maps.length cp8, .slice a9 traps.length cp9] 46)
            have k1 := hbel.trans (e1.mono hbel.size)
            have MM := ClsCells.later HM.out e1
            have HMM : Hid _ := MM
            obtain ⟨t0, t1, t2, t3, t4, t5⟩ := MM
            have MC := MethCells.new wr mn (.slice a1 ps.length cp1) rt st ab lo sk (.slice a7 code.length cp7) (.slice a8 maps.length cp8) (.slice a9 traps.length cp9) 46
            have HMC : Hid _ := MC
            clear MC
            have HFD := method_any _ _ _ _ mn _ (HV.out _ k1) (by have := HVV.out.s0; exact this)
            simp only [clsVal] at HFD
            have hfp : methodP ⟨nm, su, false, im, fs, ms⟩ mn = mplace ms mn := rfl
            rw [hfp] at HFD
            have HRM : Hid (∀ W, Below (wr.alloc (.cells #[.string mn, .slice a1 ps.length cp1, .string rt, .bool st, .bool ab, .int .i64 lo, .int .i64 sk, .slice a7 code.length cp7, .slice a8 maps.length cp8, .slice a9 traps.length cp9] 46)).heap.size (wr.alloc (.cells #[.string mn, .slice a1 ps.length cp1, .string rt, .bool st, .bool ab, .int .i64 lo, .int .i64 sk, .slice a7 code.length cp7, .slice a8 maps.length cp8, .slice a9 traps.length cp9] 46)) W → _) := fun W hb => rmeth_any _ _ _ _ _ W (MethV.later HVV.out (e1.trans (hb.mono e1.size)))
            simp only [methVal, methCells] at HRM
            clear hfp HVV
            generalize mplace ms mn = p at *
            generalize methP ⟨mn, ps, rt, st, ab, lo, sk, code, maps, traps⟩ = qm at *
            cases hab : (ab == false)
            case false =>
              have HF : Hid (R = false) := by show _ = _; rw [HQ5.out, HS2.out, hab]; rfl
              have hab' : (ab != false) = true := by simp only [bne, hab]; rfl
              obtain rfl : ab = true := by cases ab <;> simp_all
              clear HS2 HQ5 HFD HRM HMC hab hab'
              go_wp2_with fail
              go_ret
              exact ⟨ret_b HF.out.symm, k1⟩
            obtain rfl : ab = false := by simpa using hab
            clear hab
            cases hpk : (p == (km : Int))
            case false =>
              have HF : Hid (R = false) := by show _ = _; rw [HQ5.out, HS2.out, hpk]; rfl
              have hpk' : (p != (km : Int)) = true := by simp only [bne, hpk]; rfl
              clear HS2 HQ5 hpk HRM HMC
              go_wp2_with fail
              refine HFD.mono ?_
              rintro e w3 ⟨rfl, b3⟩
              have k3 := k1.trans (b3.mono k1.size)
              go_wp2_with fail
              go_ret
              exact ⟨ret_b HF.out.symm, k3⟩
            have hpk' : (p != (km : Int)) = false := by simp only [bne, hpk]; rfl
            cases qm
            case false =>
              have HF : Hid (R = false) := by show _ = _; rw [HQ5.out, HS2.out, hpk]; rfl
              clear HS2 HQ5 hpk
              go_wp2_with fail
              refine HFD.mono ?_
              rintro e w3 ⟨rfl, b3⟩
              have k3 := k1.trans (b3.mono k1.size)
              obtain ⟨r0, r1, r2, r3, r4, r5, r6, r7, r8, r9⟩ := MethCells.later HMC.out b3
              go_wp2_with fail
              refine (HRM.out _ b3).mono ?_
              rintro e w5 ⟨rfl, b5⟩
              have k5 := k3.trans (b5.mono k3.size)
              go_wp2_with fail
              go_ret
              exact ⟨ret_b HF.out.symm, k5⟩
            have HF : Hid (allI (fun k f => (f.abstract == false) && ((mplace ms f.name == ((k : Nat) : Int)) && methP f)) (km + 1) (ms.drop (km + 1)) = allI (fun k f => (f.abstract == false) && ((mplace ms f.name == ((k : Nat) : Int)) && methP f)) 0 ms) := by show _ = _; rw [HS2.out, hpk]; rfl
            clear HS2 hpk
            go_wp2_with fail
            refine HFD.mono ?_
            rintro e w3 ⟨rfl, b3⟩
            have k3 := k1.trans (b3.mono k1.size)
            obtain ⟨r0, r1, r2, r3, r4, r5, r6, r7, r8, r9⟩ := MethCells.later HMC.out b3
            go_wp2_with fail
            refine (HRM.out _ b3).mono ?_
            rintro e w5 ⟨rfl, b5⟩
            have k5 := k3.trans (b5.mono k3.size)
            have M5 := ClsCells.later (ClsCells.later HMM.out b3) b5
            go_wp2_with fail
            go_roundw
            case rel => exact ⟨km + 1, by omega, by go_num, HF.out, M5, k5⟩
            case measure => simp [intOf]; omega
          have HF : Hid (R = true) := by show _ = _; rw [HQ5.out, ← HA.out, allI_end _ _ _ (by omega)]
          clear HQ5 HA
          go_wp2_with fail
          go_ret
          exact ⟨ret_b HF.out.symm, hbel⟩
  go_enter Tryz.func11, Tryz.ntmps11
  go_wp2_with (first | (go_at_call_of 25 nm; refine (H1 _).mono ?_; rintro e w' ⟨rfl, rfl⟩) | (go_at_call_of 25 su; refine (H2 _).mono ?_; rintro e w' ⟨rfl, rfl⟩))
  go_loopw [3] (fun i wr => ∃ k : Nat, k ≤ im.length ∧ i = .int .i64 k ∧ allI (fun k f => classB (nums f) && (splace im f == ((k : Nat) : Int))) k (im.drop k) = allI (fun k f => classB (nums f) && (splace im f == ((k : Nat) : Int))) 0 im ∧ ClsCells wr w.heap.size (.string nm) (.string su) (.bool true) (.slice a3 im.length c3) (.slice a4 fs.length c4) (.slice a5 ms.length c5) ∧ Below w.heap.size w wr) (fun i _ => im.length - (intOf i).toNat)
  case atStart => exact ⟨0, by omega, rfl, rfl, HM.out, b0⟩
  case round =>
    clear z0 z1 z2 z3 z4 z5 b0 HM
    obtain ⟨k, hk, rfl, hall, M, hbel⟩ := hrel
    have HA : Hid _ := hall
    have HM : Hid _ := M
    obtain ⟨z0, z1, z2, z3, z4, z5⟩ := M
    clear hall
    by_cases hlk : k < im.length
    case pos =>
      obtain ⟨aa, cc, ev, _, _, _, hx9⟩ := (HV.out wr hbel).impl
      simp only [Value.slice.injEq, true_and] at ev
      obtain ⟨rfl, rfl⟩ := ev
      obtain ⟨b9, off9, rfl, hb9, hx9⟩ := hx9 (by show 0 < im.length; omega)
      have HXX : Hid (∀ W, Below wr.heap.size wr W → ∀ i (h : i < im.length), strE W b9 (off9 + i * 1) im[i]) := fun W hb i hi => strE_stable _ _ _ _ _ (hx9 i hi) hb
      obtain ⟨c0, c1⟩ := hx9 k hlk
      simp only [Nat.mul_one] at c0
      have HS := allI_step (fun k f => classB (nums f) && (splace im f == ((k : Nat) : Int))) im k hlk
      rw [HA.out] at HS
      have HS2 : Hid _ := HS
      have HC := fun W => class_any im[k] W c1
      clear HS hx9 HA
      have HXk : Hid (∃ X, im[k] = X) := ⟨_, rfl⟩
      obtain ⟨X, hX⟩ := HXk.out
      have HX : Hid _ := hX
      rw [hX] at c0 HC HS2
      clear hX HXk
      cases hqc : classB (nums X)
      case false =>
        have HF : Hid (R = false) := by show _ = _; rw [HQ3.out, HS2.out, hqc]; rfl
        clear HS2 HQ3
        rw [hqc] at HC
        go_wp2_with (go_at_call 25; refine (HC _).mono ?_; rintro e w' ⟨rfl, rfl⟩)
        go_ret
        exact ⟨ret_b HF.out.symm, hbel⟩
      rw [hqc] at HC
      have HQC : Hid _ := hqc
      clear hqc
      rename World => wo
      go_wp2_with (go_at_call 25; refine (HC _).mono ?_; rintro e w' ⟨rfl, rfl⟩)
      go_loopw [4] (fun i wr => ∃ l : Nat, l ≤ k ∧ i = .int .i64 l ∧ (∀ q (hq : q < l), ∃ hq' : q < im.length, (X.toList == (im[q]'hq').toList) = false) ∧ Below wo.heap.size wo wr) (fun i _ => k - (intOf i).toNat)
      case atStart => exact ⟨0, by omega, rfl, fun q hq => absurd hq (by omega), Below.refl _ _⟩
      case round =>
        clear z0 z1 z2 z3 z4 z5 c0
        obtain ⟨l, hl, rfl, hno, hb2⟩ := hrel
        have HNO : Hid _ := hno
        clear hno
        have MM := ClsCells.later HM.out hb2
        have HMM : Hid _ := MM
        obtain ⟨z0, z1, z2, z3, z4, z5⟩ := MM
        have kw := hbel.trans (hb2.mono hbel.size)
        by_cases hlt : l < k
        case pos =>
          obtain ⟨y0, y1⟩ := HXX.out wr hb2 l (by omega)
          obtain ⟨x0, x1⟩ := HXX.out wr hb2 k hlk
          simp only [Nat.mul_one] at x0 y0
          rw [HX.out] at x0
          have HYk : Hid (∃ Y, im[l] = Y) := ⟨_, rfl⟩
          obtain ⟨Y, hY⟩ := HYk.out
          have HY : Hid _ := hY
          rw [hY] at y0
          clear hY HYk
          have hsy : (X.toList == Y.toList) = (Y.toList == X.toList) := by rw [Bool.eq_iff_iff]; simp only [beq_iff_eq]; exact ⟨Eq.symm, Eq.symm⟩
          cases hq : (Y.toList == X.toList)
          case true =>
            have HF : Hid (R = false) := by
              show _ = _
              have hp : place (fun f : ByteArray => X.toList == f.toList) 0 im ≤ ((0 + l : Nat) : Int) := place_miss _ im 0 l (by omega) (by rw [HY.out, hsy, hq])
              have hne : (splace im X == (k : Int)) = false := by
                unfold splace
                rw [beq_eq_false_iff_ne]
                omega
              rw [HQ3.out, HS2.out, hne]
              simp
            clear HS2 HQ3 hsy
            go_wp2_with fail
            go_quiet (fail)
            go_wp2_with fail
            go_ret
            exact ⟨ret_b HF.out.symm, kw.trans ((Joins.below_draws _ _ _).mono kw.size)⟩
          have hno2 : ∀ q (hq : q < l + 1), ∃ hq' : q < im.length, (X.toList == (im[q]'hq').toList) = false := by
            intro q hql
            by_cases hq2 : q < l
            · exact HNO.out q hq2
            · obtain rfl : q = l := by omega
              exact ⟨by omega, by rw [HY.out, hsy, hq]⟩
          have HNO2 : Hid _ := hno2
          clear hno2 hsy
          go_wp2_with fail
          go_quiet (fail)
          go_wp2_with fail
          go_roundw
          case rel => exact ⟨l + 1, by omega, by go_num, HNO2.out, hb2.trans ((Joins.below_draws _ _ _).mono hb2.size)⟩
          case measure => simp [intOf]; omega
        have HF : Hid (allI (fun k f => classB (nums f) && (splace im f == ((k : Nat) : Int))) (k + 1) (im.drop (k + 1)) = allI (fun k f => classB (nums f) && (splace im f == ((k : Nat) : Int))) 0 im) := by
          show _ = _
          have hp : place (fun f : ByteArray => X.toList == f.toList) 0 im = ((0 + k : Nat) : Int) := place_hit _ im 0 k hlk (by rw [HX.out]; simp) (fun j hj => (HNO.out j (by omega)).2)
          have hne : (splace im X == (k : Int)) = true := by
            unfold splace
            rw [hp]
            simp
          rw [HS2.out, HQC.out, hne]
          simp
        clear HS2
        go_wp2_with fail
        go_roundw
        case rel => exact ⟨k + 1, by omega, by go_num, HF.out, HMM.out, kw⟩
        case measure => simp [intOf]; omega
    have HQ4 : Hid (R = (allI (fun k f => fieldB f && (fplace fs f.name == ((k : Nat) : Int))) 0 fs && allI (fun k f => (f.abstract == true) && ((mplace ms f.name == ((k : Nat) : Int)) && methP f)) 0 ms)) := by
      show _ = _
      have h1 : allI (fun k f => classB (nums f) && (splace im f == ((k : Nat) : Int))) 0 im = true := by rw [← HA.out, allI_end _ _ _ (by omega)]
      rw [HQ3.out, h1, Bool.true_and]
    clear HQ3 HA
    go_wp2_with fail
    go_loopw [5, 6] (fun i _ wr => ∃ k : Nat, k ≤ fs.length ∧ i = .int .i64 k ∧ allI (fun k f => fieldB f && (fplace fs f.name == ((k : Nat) : Int))) k (fs.drop k) = allI (fun k f => fieldB f && (fplace fs f.name == ((k : Nat) : Int))) 0 fs ∧ ClsCells wr w.heap.size (.string nm) (.string su) (.bool true) (.slice a3 im.length c3) (.slice a4 fs.length c4) (.slice a5 ms.length c5) ∧ Below w.heap.size w wr) (fun i _ _ => fs.length - (intOf i).toNat)
    case atStart => exact ⟨0, by omega, rfl, rfl, HM.out, hbel⟩
    case round =>
      clear z0 z1 z2 z3 z4 z5 hbel HM hlk
      obtain ⟨kf, hkf, rfl, hall, M, hbel⟩ := hrel
      have HA : Hid _ := hall
      have HM : Hid _ := M
      obtain ⟨z0, z1, z2, z3, z4, z5⟩ := M
      clear hall
      by_cases hlk : kf < fs.length
      case pos =>
        obtain ⟨aa, cc, ev, _, _, _, hx9⟩ := (HV.out wr hbel).fields
        simp only [Value.slice.injEq, true_and] at ev
        obtain ⟨rfl, rfl⟩ := ev
        obtain ⟨b9, off9, rfl, hb9, hx9⟩ := hx9 (by show 0 < fs.length; omega)
        obtain ⟨x0, x1, x2, s0, s1⟩ := hx9 kf hlk
        have HS := allI_step (fun k f => fieldB f && (fplace fs f.name == ((k : Nat) : Int))) fs kf hlk
        rw [HA.out] at HS
        have HS2 : Hid _ := HS
        clear HS hx9 HA
        generalize fs[kf] = X at *
        obtain ⟨fn, ft, fst⟩ := X
        simp only at x0 x1 x2 s0 s1 HS2
        have e1 := (Below.refl wr.heap.size wr).alloc (Nat.le_refl _) (.cells #[.string fn, .string ft, .bool fst] 40)
        have k1 := hbel.trans (e1.mono hbel.size)
        have MM := ClsCells.later HM.out e1
        have HMM : Hid _ := MM
        obtain ⟨t0, t1, t2, t3, t4, t5⟩ := MM
        have hfi := beq_nums fn [36, 105, 110, 105, 116] initL rfl
        have HN := fun W => name_any fn W s0
        have HMY := fun W => may_any ft W s1
        have HFD := field_any _ _ _ _ fn _ (HV.out _ k1) s0
        simp only [clsVal] at HFD
        have hfp : fieldP ⟨nm, su, true, im, fs, ms⟩ fn = fplace fs fn := rfl
        rw [hfp] at HFD
        have HFB : Hid (fieldB ⟨fn, ft, fst⟩ = (!(nums fn == initL) && (nameB (nums fn) && mayB (nums ft)))) := rfl
        rw [HFB.out] at HS2
        clear hfp HFB
        generalize fplace fs fn = p at *
        generalize (nums fn == initL) = qi at *
        generalize nameB (nums fn) = qn at *
        generalize mayB (nums ft) = qm at *
        cases qn
        case false =>
          have HF : Hid (R = false) := by show _ = _; rw [HQ4.out, HS2.out]; simp
          clear HS2 HQ4 HFD
          go_wp2_with (first | (go_at_call 26; refine (HN _).mono ?_; rintro e w' ⟨rfl, rfl⟩) | (go_at_call 27; refine (HMY _).mono ?_; rintro e w' ⟨rfl, rfl⟩))
          go_ret
          exact ⟨ret_b HF.out.symm, k1⟩
        cases qi
        case true =>
          have HF : Hid (R = false) := by show _ = _; rw [HQ4.out, HS2.out]; simp
          clear HS2 HQ4 HFD
          go_wp2_with (first | (go_at_call 26; refine (HN _).mono ?_; rintro e w' ⟨rfl, rfl⟩) | (go_at_call 27; refine (HMY _).mono ?_; rintro e w' ⟨rfl, rfl⟩))
          go_ret
          exact ⟨ret_b HF.out.symm, k1⟩
        cases qm
        case false =>
          have HF : Hid (R = false) := by show _ = _; rw [HQ4.out, HS2.out]; simp
          clear HS2 HQ4 HFD
          go_wp2_with (first | (go_at_call 26; refine (HN _).mono ?_; rintro e w' ⟨rfl, rfl⟩) | (go_at_call 27; refine (HMY _).mono ?_; rintro e w' ⟨rfl, rfl⟩))
          go_ret
          exact ⟨ret_b HF.out.symm, k1⟩
        cases hpk : (p == (kf : Int))
        case false =>
          have HF : Hid (R = false) := by show _ = _; rw [HQ4.out, HS2.out, hpk]; rfl
          have hpk' : (p != (kf : Int)) = true := by simp only [bne, hpk]; rfl
          clear HS2 HQ4 hpk
          go_wp2_with (first | (go_at_call 26; refine (HN _).mono ?_; rintro e w' ⟨rfl, rfl⟩) | (go_at_call 27; refine (HMY _).mono ?_; rintro e w' ⟨rfl, rfl⟩))
          refine HFD.mono ?_
          rintro e w3 ⟨rfl, b3⟩
          have k3 := k1.trans (b3.mono k1.size)
          go_wp2_with fail
          go_ret
          exact ⟨ret_b HF.out.symm, k3⟩
        have HF : Hid (allI (fun k f => fieldB f && (fplace fs f.name == ((k : Nat) : Int))) (kf + 1) (fs.drop (kf + 1)) = allI (fun k f => fieldB f && (fplace fs f.name == ((k : Nat) : Int))) 0 fs) := by show _ = _; rw [HS2.out, hpk]; rfl
        have hpk' : (p != (kf : Int)) = false := by simp only [bne, hpk]; rfl
        clear HS2 hpk
        go_wp2_with (first | (go_at_call 26; refine (HN _).mono ?_; rintro e w' ⟨rfl, rfl⟩) | (go_at_call 27; refine (HMY _).mono ?_; rintro e w' ⟨rfl, rfl⟩))
        refine HFD.mono ?_
        rintro e w3 ⟨rfl, b3⟩
        have k3 := k1.trans (b3.mono k1.size)
        go_wp2_with fail
        go_roundw
        case rel => exact ⟨kf + 1, by omega, by go_num, HF.out, ClsCells.later HMM.out b3, k3⟩
        case measure => simp [intOf]; omega
      have HQ5 : Hid (R = allI (fun k f => (f.abstract == true) && ((mplace ms f.name == ((k : Nat) : Int)) && methP f)) 0 ms) := by
        show _ = _
        have h1 : allI (fun k f => fieldB f && (fplace fs f.name == ((k : Nat) : Int))) 0 fs = true := by rw [← HA.out, allI_end _ _ _ (by omega)]
        rw [HQ4.out, h1, Bool.true_and]
      clear HQ4 HA
      go_wp2_with fail
      go_loopw [7, 8] (fun i _ wr => ∃ k : Nat, k ≤ ms.length ∧ i = .int .i64 k ∧ allI (fun k f => (f.abstract == true) && ((mplace ms f.name == ((k : Nat) : Int)) && methP f)) k (ms.drop k) = allI (fun k f => (f.abstract == true) && ((mplace ms f.name == ((k : Nat) : Int)) && methP f)) 0 ms ∧ ClsCells wr w.heap.size (.string nm) (.string su) (.bool true) (.slice a3 im.length c3) (.slice a4 fs.length c4) (.slice a5 ms.length c5) ∧ Below w.heap.size w wr) (fun i _ _ => ms.length - (intOf i).toNat)
      case atStart => exact ⟨0, by omega, rfl, rfl, HM.out, hbel⟩
      case round =>
        clear z0 z1 z2 z3 z4 z5 hbel HM hlk
        obtain ⟨km, hkm, rfl, hall, M, hbel⟩ := hrel
        have HA : Hid _ := hall
        have HM : Hid _ := M
        obtain ⟨z0, z1, z2, z3, z4, z5⟩ := M
        clear hall
        by_cases hlk : km < ms.length
        case pos =>
          obtain ⟨aa, cc, ev, _, _, _, hx9⟩ := (HV.out wr hbel).methods
          simp only [Value.slice.injEq, true_and] at ev
          obtain ⟨rfl, rfl⟩ := ev
          obtain ⟨b9, off9, rfl, hb9, hx9⟩ := hx9 (by show 0 < ms.length; omega)
          obtain ⟨v1, v7, v8, v9, MV, hce⟩ := hx9 km hlk
          have HS := allI_step (fun k f => (f.abstract == true) && ((mplace ms f.name == ((k : Nat) : Int)) && methP f)) ms km hlk
          rw [HA.out] at HS
          have HS2 : Hid _ := HS
          clear HS hx9 HA
          simp only at hce MV
          generalize ms[km] = X at *
          obtain ⟨mn, ps, rt, st, ab, lo, sk, code, maps, traps⟩ := X
          have x0 := hce 0 (by decide)
          have x1 := hce 1 (by decide)
          have x2 := hce 2 (by decide)
          have x3 := hce 3 (by decide)
          have x4 := hce 4 (by decide)
          have x5 := hce 5 (by decide)
          have x6 := hce 6 (by decide)
          have x7 := hce 7 (by decide)
          have x8 := hce 8 (by decide)
          have x9 := hce 9 (by decide)
          simp only [methCells, List.getElem?_toArray, List.getElem?_cons_zero, List.getElem?_cons_succ, Nat.add_zero] at x0 x1 x2 x3 x4 x5 x6 x7 x8 x9
          simp only at HS2
          clear hce
          have HVV : Hid _ := MV
          obtain ⟨a1, cp1, rfl, _, _, _, hz1⟩ := MV.params
          obtain ⟨a7, cp7, rfl, _, _, _, hz7⟩ := MV.code
          obtain ⟨a8, cp8, rfl, _, _, _, hz8⟩ := MV.maps
          obtain ⟨a9, cp9, rfl, _, _, _, hz9⟩ := MV.traps
          simp only at x1 x7 x8 x9 HVV
          clear MV hz1 hz7 hz8 hz9
          have e1 := (Below.refl wr.heap.size wr).alloc (Nat.le_refl _) (.cells #[.string mn, .slice a1 ps.length cp1, .string rt, .bool st, .bool ab, .int .i64 lo, .int .i64 sk, .slice a7 code.length cp7, .slice a8 maps.length cp8, .slice a9 traps.length cp9] 46)
          have k1 := hbel.trans (e1.mono hbel.size)
          have MM := ClsCells.later HM.out e1
          have HMM : Hid _ := MM
          obtain ⟨t0, t1, t2, t3, t4, t5⟩ := MM
          have MC := MethCells.new wr mn (.slice a1 ps.length cp1) rt st ab lo sk (.slice a7 code.length cp7) (.slice a8 maps.length cp8) (.slice a9 traps.length cp9) 46
          have HMC : Hid _ := MC
          clear MC
          have HFD := method_any _ _ _ _ mn _ (HV.out _ k1) (by have := HVV.out.s0; exact this)
          simp only [clsVal] at HFD
          have hfp : methodP ⟨nm, su, true, im, fs, ms⟩ mn = mplace ms mn := rfl
          rw [hfp] at HFD
          have HRM : Hid (∀ W, Below (wr.alloc (.cells #[.string mn, .slice a1 ps.length cp1, .string rt, .bool st, .bool ab, .int .i64 lo, .int .i64 sk, .slice a7 code.length cp7, .slice a8 maps.length cp8, .slice a9 traps.length cp9] 46)).heap.size (wr.alloc (.cells #[.string mn, .slice a1 ps.length cp1, .string rt, .bool st, .bool ab, .int .i64 lo, .int .i64 sk, .slice a7 code.length cp7, .slice a8 maps.length cp8, .slice a9 traps.length cp9] 46)) W → _) := fun W hb => rmeth_any _ _ _ _ _ W (MethV.later HVV.out (e1.trans (hb.mono e1.size)))
          simp only [methVal, methCells] at HRM
          clear hfp HVV
          generalize mplace ms mn = p at *
          generalize methP ⟨mn, ps, rt, st, ab, lo, sk, code, maps, traps⟩ = qm at *
          cases hab : (ab == true)
          case false =>
            have HF : Hid (R = false) := by show _ = _; rw [HQ5.out, HS2.out, hab]; rfl
            have hab' : (ab != true) = true := by simp only [bne, hab]; rfl
            obtain rfl : ab = false := by cases ab <;> simp_all
            clear HS2 HQ5 HFD HRM HMC hab hab'
            go_wp2_with fail
            go_ret
            exact ⟨ret_b HF.out.symm, k1⟩
          obtain rfl : ab = true := by simpa using hab
          clear hab
          cases hpk : (p == (km : Int))
          case false =>
            have HF : Hid (R = false) := by show _ = _; rw [HQ5.out, HS2.out, hpk]; rfl
            have hpk' : (p != (km : Int)) = true := by simp only [bne, hpk]; rfl
            clear HS2 HQ5 hpk HRM HMC
            go_wp2_with fail
            refine HFD.mono ?_
            rintro e w3 ⟨rfl, b3⟩
            have k3 := k1.trans (b3.mono k1.size)
            go_wp2_with fail
            go_ret
            exact ⟨ret_b HF.out.symm, k3⟩
          have hpk' : (p != (km : Int)) = false := by simp only [bne, hpk]; rfl
          cases qm
          case false =>
            have HF : Hid (R = false) := by show _ = _; rw [HQ5.out, HS2.out, hpk]; rfl
            clear HS2 HQ5 hpk
            go_wp2_with fail
            refine HFD.mono ?_
            rintro e w3 ⟨rfl, b3⟩
            have k3 := k1.trans (b3.mono k1.size)
            obtain ⟨r0, r1, r2, r3, r4, r5, r6, r7, r8, r9⟩ := MethCells.later HMC.out b3
            go_wp2_with fail
            refine (HRM.out _ b3).mono ?_
            rintro e w5 ⟨rfl, b5⟩
            have k5 := k3.trans (b5.mono k3.size)
            go_wp2_with fail
            go_ret
            exact ⟨ret_b HF.out.symm, k5⟩
          have HF : Hid (allI (fun k f => (f.abstract == true) && ((mplace ms f.name == ((k : Nat) : Int)) && methP f)) (km + 1) (ms.drop (km + 1)) = allI (fun k f => (f.abstract == true) && ((mplace ms f.name == ((k : Nat) : Int)) && methP f)) 0 ms) := by show _ = _; rw [HS2.out, hpk]; rfl
          clear HS2 hpk
          go_wp2_with fail
          refine HFD.mono ?_
          rintro e w3 ⟨rfl, b3⟩
          have k3 := k1.trans (b3.mono k1.size)
          obtain ⟨r0, r1, r2, r3, r4, r5, r6, r7, r8, r9⟩ := MethCells.later HMC.out b3
          go_wp2_with fail
          refine (HRM.out _ b3).mono ?_
          rintro e w5 ⟨rfl, b5⟩
          have k5 := k3.trans (b5.mono k3.size)
          have M5 := ClsCells.later (ClsCells.later HMM.out b3) b5
          go_wp2_with fail
          go_roundw
          case rel => exact ⟨km + 1, by omega, by go_num, HF.out, M5, k5⟩
          case measure => simp [intOf]; omega
        have HF : Hid (R = true) := by show _ = _; rw [HQ5.out, ← HA.out, allI_end _ _ _ (by omega)]
        clear HQ5 HA
        go_wp2_with fail
        go_ret
        exact ⟨ret_b HF.out.symm, hbel⟩
end Cls
end Go.Proofs.YtjblmgdjaaeedaaGreat
