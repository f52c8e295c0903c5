/- The contract of the document's own test of a body: instructions and traps. -/
import Derived.Test.YtbfcjflgomedgaaGreatClsCode
import Derived.Deep.Light
namespace Go.Proofs.YtbfcjflgomedgaaGreat
namespace Cls
open Num Kind Op4
open Go.RowKit
set_option linter.unusedVariables false

theorem empty_toList (c : ByteArray) : (c.toList == []) = (nums c == []) := beq_nums c [] [] rfl

set_option maxRecDepth 100000 in
set_option maxHeartbeats 4000000 in
theorem body_some (b off n cp : Nat) (v1 v8 v9 : Value) (m : MethL) (w : World) (hn : m.code.length = n) (hn1 : 1 ≤ n) (hn2 : n ≤ 100) (hcp : n ≤ cp) (hcm : cp ≤ maxLen) (hE : (m.code.getLast?.any fun x => endsB x.o) = true)
    (hx : ∀ i (h : i < m.code.length), insE w b (off + i * 4) m.code[i]) (ht : Sl trapE 4 w v9 m.traps) (ht6 : m.traps.length ≤ 6) :
    Calls Tryz.prog 39 #[methVal v1 (.slice (some ⟨b, off, none⟩) n cp) v8 v9 m] w fun e w' => e = .returned (.bool (m.code.all (insB n) && m.traps.all (trapB n))) ∧ Below w.heap.size w w' := by
  unfold methVal methCells
  have b0 := (Below.refl w.heap.size w).alloc (Nat.le_refl _) (.cells #[.string m.name, v1, .string m.ret, .bool m.static, .bool m.abstract, .int .i64 m.locals, .int .i64 m.stack, .slice (some ⟨b, off, none⟩) n cp, v8, v9] 35)
  have c7 : (w.alloc (.cells #[.string m.name, v1, .string m.ret, .bool m.static, .bool m.abstract, .int .i64 m.locals, .int .i64 m.stack, .slice (some ⟨b, off, none⟩) n cp, v8, v9] 35)).cell? ⟨w.heap.size, 7, none⟩ = some (.slice (some ⟨b, off, none⟩) n cp) := cell_new _ _ _ 7
  have c9 : (w.alloc (.cells #[.string m.name, v1, .string m.ret, .bool m.static, .bool m.abstract, .int .i64 m.locals, .int .i64 m.stack, .slice (some ⟨b, off, none⟩) n cp, v8, v9] 35)).cell? ⟨w.heap.size, 9, none⟩ = some v9 := cell_new _ _ _ 9
  unfold maxLen at hcm
  have HXX : ∀ W, Below w.heap.size w W → ∀ i (h : i < m.code.length), insE W b (off + i * 4) m.code[i] := fun W hb i hi => insE_stable _ _ _ _ _ (hx i hi) hb
  have HX : Hid _ := HXX
  have HT : Hid _ := ht
  have HN : Hid _ := hn
  obtain ⟨a9, cp9, hv9, hl9, hm9, _, _⟩ := ht
  subst hv9
  unfold maxLen at hm9
  have hlast : n - 1 < m.code.length := by omega
  obtain ⟨⟨l0, l1, l2, l3⟩, _, _⟩ := HX.out _ b0 (n - 1) hlast
  have hEo : endsB m.code[n - 1].o = true := by
    rw [List.getLast?_eq_getElem?, HN.out, List.getElem?_eq_getElem hlast] at hE
    simpa using hE
  generalize m.code[n - 1].o = ol at *
  have hsub : IntKind.i64.wrap ((n : Int) - 1) = ((n - 1 : Nat) : Int) := by rw [IntWalk.i64_in _ (by omega)]; omega
  clear hx hn HXX l1 l2 l3 hE
  go_enter Tryz.func39, Tryz.ntmps39
  go_wp2_with fail
  refine (ends_any ol _).mono ?_
  rintro e w1 ⟨rfl, rfl⟩
  rw [hEo]
  clear hEo l0
  go_wp2_with fail
  go_loopw [4, 5] (fun i _ wr => ∃ k : Nat, k ≤ n ∧ i = .int .i64 k ∧ (m.code.drop k).all (insB n) = m.code.all (insB n) ∧ wr.cell? ⟨w.heap.size, 7, none⟩ = some (.slice (some ⟨b, off, none⟩) n cp) ∧ wr.cell? ⟨w.heap.size, 9, none⟩ = some (.slice a9 m.traps.length cp9) ∧ Below w.heap.size w wr) (fun i _ _ => n - (intOf i).toNat)
  case atStart => exact ⟨0, by omega, rfl, rfl, c7, c9, b0⟩
  case round =>
    clear c7 c9 b0
    obtain ⟨k, hk, rfl, hall, c7, c9, hbel⟩ := hrel
    by_cases hlk : k < n
    · have hkc : k < m.code.length := by rw [HN.out]; exact hlk
      obtain ⟨⟨x0, x1, x2, x3⟩, s2, s3⟩ := HX.out wr hbel k hkc
      rw [all_step _ _ k hkc] at hall
      have HA : Hid _ := hall
      clear hall
      have HI : Hid (insB n m.code[k] = (mayIns m.code[k].o m.code[k].a (nums m.code[k].c) (nums m.code[k].m) && !(jumpsB m.code[k].o && decide ((n : Int) ≤ m.code[k].a)))) := rfl
      generalize m.code[k] = X at *
      obtain ⟨o, a, c, q⟩ := X
      simp only at x0 x1 x2 x3 s2 s3
      have Z := InsAt.new wr o a c q 37
      have e1 := (Below.refl wr.heap.size wr).alloc (Nat.le_refl _) (.cells #[.int .i64 o, .int .i64 a, .string c, .string q] 37)
      have d7 := cellOn c7 e1
      have d9 := cellOn c9 e1
      go_wp2_with fail
      refine (may_ins o a c q _ s2 s3).mono ?_
      rintro e w2 ⟨rfl, b2⟩
      have f7 := cellOn d7 b2
      have f9 := cellOn d9 b2
      obtain ⟨z0, z1, z2, z3⟩ := Z.later b2
      have k2 := hbel.trans ((e1.trans (b2.mono e1.size)).mono hbel.size)
      clear c7 c9 d7 d9 x0 x1 x2 x3 Z e1 b2 hbel
      have HQ : ∃ p, mayIns o a (nums c) (nums q) = p := ⟨_, rfl⟩
      obtain ⟨p, hp⟩ := HQ
      have HJ : ∃ j, jumpsB o = j := ⟨_, rfl⟩
      obtain ⟨j, hj⟩ := HJ
      have HI2 : Hid (insB n ⟨o, a, c, q⟩ = (p && !(j && decide ((n : Int) ≤ a)))) := by
        have := HI.out
        simp only [hp, hj] at this
        exact this
      rw [hp]
      have HJ2 : Hid _ := hj
      clear HI hp hj
      cases p
      · have HF : Hid (m.code.all (insB n) = false) := by
          show _ = _
          show _ = _
          have := HA.out
          rw [HI2.out] at this
          simpa using this.symm
        clear HA HI2
        go_wp2_with fail
        go_ret
        exact ⟨ret_b (by rw [HF.out]; rfl), k2⟩
      · go_wp2_with fail
        refine (jumps_any o _).mono ?_
        rintro e w3 ⟨rfl, rfl⟩
        rw [HJ2.out]
        clear HJ2
        cases j
        · have HF : Hid ((m.code.drop (k + 1)).all (insB n) = m.code.all (insB n)) := by
            show _ = _
            show _ = _
            have := HA.out
            rw [HI2.out] at this
            simpa using this
          clear HA HI2
          go_wp2_with fail
          go_roundw
          case rel => exact ⟨k + 1, by omega, by go_num, HF.out, f7, f9, k2⟩
          case measure => simp [intOf]; omega
        · by_cases han : (n : Int) ≤ a
          · have HF : Hid (m.code.all (insB n) = false) := by
              show _ = _
              show _ = _
              have := HA.out
              rw [HI2.out] at this
              simpa [han] using this.symm
            clear HA HI2
            go_wp2_with fail
            go_ret
            exact ⟨ret_b (by rw [HF.out]; rfl), k2⟩
          · have HF : Hid ((m.code.drop (k + 1)).all (insB n) = m.code.all (insB n)) := by
              show _ = _
              show _ = _
              have := HA.out
              rw [HI2.out] at this
              simpa [han] using this
            clear HA HI2
            go_wp2_with fail
            go_roundw
            case rel => exact ⟨k + 1, by omega, by go_num, HF.out, f7, f9, k2⟩
            case measure => simp [intOf]; omega
    · rw [all_end _ _ k (by rw [HN.out]; omega)] at hall
      have HA : Hid _ := hall
      clear hall
      clear c7
      go_wp2_with fail
      go_loopw [6, 7] (fun i _ wr => ∃ k2' : Nat, k2' ≤ m.traps.length ∧ i = .int .i64 k2' ∧ (m.traps.drop k2').all (trapB n) = m.traps.all (trapB n) ∧ wr.cell? ⟨w.heap.size, 9, none⟩ = some (.slice a9 m.traps.length cp9) ∧ Below w.heap.size w wr) (fun i _ _ => m.traps.length - (intOf i).toNat)
      case atStart => exact ⟨0, by omega, rfl, rfl, c9, hbel⟩
      case round =>
        clear c9 hbel
        obtain ⟨k2', hk2, rfl, hall, c9, hbel⟩ := hrel
        by_cases hlt : k2' < m.traps.length
        · obtain ⟨aa, cc, ev, _, _, _, hx9⟩ := Sl.later trapE_stable HT.out hbel
          simp only [Value.slice.injEq, true_and] at ev
          obtain ⟨rfl, rfl⟩ := ev
          obtain ⟨b9, off9, rfl, _, hx9⟩ := hx9 (by omega)
          obtain ⟨x0, x1, x2, x3, sz⟩ := hx9 k2' hlt
          rw [all_step _ _ k2' hlt] at hall
          have HB : Hid _ := hall
          clear hall hx9
          have hce := empty_nums m.traps[k2'].c
          have HI : Hid (trapB n m.traps[k2'] = !(decide (m.traps[k2'].from' < 0) || decide (m.traps[k2'].to ≤ m.traps[k2'].from') || decide ((n : Int) < m.traps[k2'].to) || decide (m.traps[k2'].at' < 0) || decide ((n : Int) ≤ m.traps[k2'].at') || (!(nums m.traps[k2'].c == []) && !classB (nums m.traps[k2'].c)))) := rfl
          have HC := fun W => class_any m.traps[k2'].c W sz
          generalize m.traps[k2'] = X at *
          obtain ⟨f, t, u, c⟩ := X
          simp only at x0 x1 x2 x3 sz HI HC hce
          have e1 := (Below.refl wr.heap.size wr).alloc (Nat.le_refl _) (.cells #[.int .i64 f, .int .i64 t, .int .i64 u, .string c] 73)
          have d9 := cellOn c9 e1
          have k2 := hbel.trans (e1.mono hbel.size)
          generalize (nums c == []) = em at *
          generalize classB (nums c) = cb at *
          clear hbel e1
          by_cases h0 : f < 0
          · have HF : Hid (m.traps.all (trapB n) = false) := by
              show _ = _
              have := HB.out
              rw [HI.out] at this
              simpa [h0] using this.symm
            clear HB HI
            go_wp2_with fail
            go_ret
            exact ⟨ret_b (by rw [HF.out]; simp), k2⟩
          · by_cases h1 : t ≤ f
            · have HF : Hid (m.traps.all (trapB n) = false) := by
                show _ = _
                have := HB.out
                rw [HI.out] at this
                simpa [h0, h1] using this.symm
              clear HB HI
              go_wp2_with fail
              go_ret
              exact ⟨ret_b (by rw [HF.out]; simp), k2⟩
            · by_cases h2 : (n : Int) < t
              · have HF : Hid (m.traps.all (trapB n) = false) := by
                  show _ = _
                  have := HB.out
                  rw [HI.out] at this
                  simpa [h0, h1, h2] using this.symm
                clear HB HI
                go_wp2_with fail
                go_ret
                exact ⟨ret_b (by rw [HF.out]; simp), k2⟩
              · by_cases h3 : u < 0
                · have HF : Hid (m.traps.all (trapB n) = false) := by
                    show _ = _
                    have := HB.out
                    rw [HI.out] at this
                    simpa [h0, h1, h2, h3] using this.symm
                  clear HB HI
                  go_wp2_with fail
                  go_ret
                  exact ⟨ret_b (by rw [HF.out]; simp), k2⟩
                · by_cases h4 : (n : Int) ≤ u
                  · have HF : Hid (m.traps.all (trapB n) = false) := by
                      show _ = _
                      have := HB.out
                      rw [HI.out] at this
                      simpa [h0, h1, h2, h3, h4] using this.symm
                    clear HB HI
                    go_wp2_with fail
                    go_ret
                    exact ⟨ret_b (by rw [HF.out]; simp), k2⟩
                  · cases em
                    · cases cb
                      · have HF : Hid (m.traps.all (trapB n) = false) := by
                          show _ = _
                          have := HB.out
                          rw [HI.out] at this
                          simpa [h0, h1, h2, h3, h4] using this.symm
                        clear HB HI
                        go_wp2_with (go_at_call 17; refine (HC _).mono ?_; rintro e w' ⟨rfl, rfl⟩)
                        go_ret
                        exact ⟨ret_b (by rw [HF.out]; simp), k2⟩
                      · have HF : Hid ((m.traps.drop (k2' + 1)).all (trapB n) = m.traps.all (trapB n)) := by
                          show _ = _
                          have := HB.out
                          rw [HI.out] at this
                          simpa [h0, h1, h2, h3, h4] using this
                        clear HB HI
                        go_wp2_with (go_at_call 17; refine (HC _).mono ?_; rintro e w' ⟨rfl, rfl⟩)
                        go_roundw
                        case rel => exact ⟨k2' + 1, by omega, by go_num, HF.out, d9, k2⟩
                        case measure => simp [intOf]; omega
                    · have HF : Hid ((m.traps.drop (k2' + 1)).all (trapB n) = m.traps.all (trapB n)) := by
                        show _ = _
                        have := HB.out
                        rw [HI.out] at this
                        simpa [h0, h1, h2, h3, h4] using this
                      clear HB HI
                      go_wp2_with fail
                      go_roundw
                      case rel => exact ⟨k2' + 1, by omega, by go_num, HF.out, d9, k2⟩
                      case measure => simp [intOf]; omega
        · rw [all_end _ _ k2' (by omega)] at hall
          have HB : Hid _ := hall
          clear hall
          go_wp2_with fail
          go_ret
          exact ⟨ret_b (by rw [← HA.out, ← HB.out]; rfl), hbel⟩
end Cls
end Go.Proofs.YtbfcjflgomedgaaGreat
