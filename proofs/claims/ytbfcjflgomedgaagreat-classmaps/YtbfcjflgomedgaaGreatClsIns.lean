/- The contract of class's test of instructions. -/
import Derived.Test.YtbfcjflgomedgaaGreatClsCode
namespace Go.Proofs.YtbfcjflgomedgaaGreat
namespace Cls
open Num Kind Op4
open Go.RowKit
set_option linter.unusedVariables false
set_option maxRecDepth 100000

set_option maxHeartbeats 2000000 in
theorem code_any (v : Value) (l : List InsL) (w : World) (h : Sl insE 4 w v l) :
    Calls Tryz.prog 63 #[v] w fun e w' => e = .returned (.bool (codeP l)) ∧ Below w.heap.size w w' := by
  have HT : Hid _ := h
  obtain ⟨a, cp, rfl, hl, hm, hnil, hx⟩ := h
  unfold maxLen at hm
  have HQ : codeP l = (withinB l.length 1 100 && (l.all (insB l.length) && (l.getLast?.any fun x => endsB x.o))) := rfl
  have HW := fun W => within_any (l.length : Int) 1 100 W
  have HB : withinB l.length 1 100 = true → 1 ≤ l.length ∧ l.length ≤ 100 := fun hh => by unfold withinB at hh; simp at hh; omega
  have HBB : Hid _ := HB
  generalize withinB l.length 1 100 = q at *
  clear HB
  cases q
  · rw [Bool.false_and] at HQ
    clear hx hnil
    go_enter Tryz.func63, Tryz.ntmps63
    go_wp2_with fail
    refine (HW _).mono ?_
    rintro e w2 ⟨rfl, rfl⟩
    go_wp2_with fail
    go_ret
    exact ⟨ret_b HQ.symm, Below.refl _ _⟩
  obtain ⟨hn1, hn2⟩ := HBB.out rfl
  rw [Bool.true_and] at HQ
  obtain ⟨b, off, rfl, hlt, hx⟩ := hx (by omega)
  have HXX : ∀ W, Below w.heap.size w W → ∀ i (h : i < l.length), insE W b (off + i * 4) l[i] := fun W hb i hi => insE_stable _ _ _ _ _ (hx i hi) hb
  have HX : Hid _ := HXX
  have HN : Hid (∃ n, l.length = n) := ⟨_, rfl⟩
  obtain ⟨n, hn⟩ := HN.out
  have HNN : Hid _ := hn
  have hlast : n - 1 < l.length := by omega
  have hLE : (l.getLast?.any fun x => endsB x.o) = endsB l[n - 1].o := by
    rw [List.getLast?_eq_getElem?, hn, List.getElem?_eq_getElem hlast]
    rfl
  rw [hLE] at HQ
  rw [hn] at HQ HW hn1 hn2 hl
  have HQQ : Hid _ := HQ
  have hsub : IntKind.i64.wrap ((n : Int) - 1) = ((n - 1 : Nat) : Int) := by rw [IntWalk.i64_in _ (by omega)]; omega
  rw [hn]
  clear hx HXX hnil HBB HQ hLE HT HN hn
  go_enter Tryz.func63, Tryz.ntmps63
  go_wp2_with fail
  refine (HW _).mono ?_
  rintro e w2 ⟨rfl, rfl⟩
  clear HW
  go_wp2_with fail
  go_loopw [4, 11] (fun _ i wr => ∃ k : Nat, k ≤ n ∧ i = .int .i64 k ∧ (l.drop k).all (insB n) = l.all (insB n) ∧ Below w.heap.size w wr) (fun _ i _ => n - (intOf i).toNat)
  case atStart => exact ⟨0, by omega, rfl, rfl, Below.refl _ _⟩
  case round =>
    obtain ⟨k, hk, rfl, hall, hbel⟩ := hrel
    by_cases hlk : k < n
    · have hkc : k < l.length := by rw [HNN.out]; exact hlk
      obtain ⟨⟨x0, x1, x2, x3⟩, s2, s3⟩ := HX.out wr hbel k hkc
      rw [all_step _ _ k hkc] at hall
      have HA : Hid _ := hall
      clear hall
      have HI : Hid (insB n l[k] = (mayIns l[k].o l[k].a (nums l[k].c) (nums l[k].m) && !(jumpsB l[k].o && decide ((n : Int) ≤ l[k].a)))) := rfl
      generalize l[k] = X at *
      obtain ⟨o, a, c, q⟩ := X
      simp only at x0 x1 x2 x3 s2 s3
      have Z := InsAt.new wr o a c q 37
      have e1 := (Below.refl wr.heap.size wr).alloc (Nat.le_refl _) (.cells #[.int .i64 o, .int .i64 a, .string c, .string q] 37)
      go_wp2_with fail
      refine (omay_any o a c q _ s2 s3).mono ?_
      rintro e w2 ⟨rfl, b2⟩
      obtain ⟨z0, z1, z2, z3⟩ := Z.later b2
      have k2 := hbel.trans ((e1.trans (b2.mono e1.size)).mono hbel.size)
      clear x0 x1 x2 x3 Z e1 b2 hbel
      have HQ : ∃ p, mayIns o a (nums c) (nums q) = p := ⟨_, rfl⟩
      obtain ⟨p, hp⟩ := HQ
      have HJ : ∃ j, jumpsB o = j := ⟨_, rfl⟩
      obtain ⟨j, hj⟩ := HJ
      have HI2 : Hid (insB n ⟨o, a, c, q⟩ = (p && !(j && decide ((n : Int) ≤ a)))) := by
        have := HI.out
        simp only [hp, hj] at this
        exact this
      rw [hp]
      have HJ2 : Hid _ := hj
      clear HI hp hj
      cases p
      · have HF : Hid (l.all (insB n) = false) := by
          show _ = _
          show _ = _
          have := HA.out
          rw [HI2.out] at this
          simpa using this.symm
        clear HA HI2
        go_wp2_with fail
        go_ret
        exact ⟨ret_b (by rw [HQQ.out, HF.out]; rfl), k2⟩
      · go_wp2_with fail
        refine (ojumps_any o _).mono ?_
        rintro e w3 ⟨rfl, rfl⟩
        rw [HJ2.out]
        clear HJ2
        cases j
        · have HF : Hid ((l.drop (k + 1)).all (insB n) = l.all (insB n)) := by
            show _ = _
            show _ = _
            have := HA.out
            rw [HI2.out] at this
            simpa using this
          clear HA HI2
          go_wp2_with fail
          go_roundw
          case rel => exact ⟨k + 1, by omega, by go_num, HF.out, k2⟩
          case measure => simp [intOf]; omega
        · by_cases han : (n : Int) ≤ a
          · have HF : Hid (l.all (insB n) = false) := by
              show _ = _
              show _ = _
              have := HA.out
              rw [HI2.out] at this
              simpa [han] using this.symm
            clear HA HI2
            go_wp2_with fail
            go_ret
            exact ⟨ret_b (by rw [HQQ.out, HF.out]; rfl), k2⟩
          · have HF : Hid ((l.drop (k + 1)).all (insB n) = l.all (insB n)) := by
              show _ = _
              show _ = _
              have := HA.out
              rw [HI2.out] at this
              simpa [han] using this
            clear HA HI2
            go_wp2_with fail
            go_roundw
            case rel => exact ⟨k + 1, by omega, by go_num, HF.out, k2⟩
            case measure => simp [intOf]; omega
    · rw [all_end _ _ k (by rw [HNN.out]; omega)] at hall
      have HA : Hid _ := hall
      obtain ⟨⟨x0, x1, x2, x3⟩, s2, s3⟩ := HX.out wr hbel (n - 1) hlast
      clear hall x1 x2 x3
      generalize l[n - 1].o = ol at *
      go_wp2_with fail
      refine (oends_any ol _).mono ?_
      rintro e w3 ⟨rfl, rfl⟩
      go_wp2_with fail
      go_ret
      exact ⟨ret_b (by rw [HQQ.out, ← HA.out]; rfl), hbel⟩
end Cls
end Go.Proofs.YtbfcjflgomedgaaGreat
