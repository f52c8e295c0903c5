/- The contract of the document's own test of a body, whatever it is. -/
import Derived.Test.YtbfcjflgomedgaaGreatClsBody
namespace Go.Proofs.YtbfcjflgomedgaaGreat
namespace Cls
open Num Kind Op4
open Go.RowKit
set_option linter.unusedVariables false

set_option maxRecDepth 100000 in
set_option maxHeartbeats 2000000 in
theorem rbody_any (v1 v7 v8 v9 : Value) (m : MethL) (w : World) (h : MethV w v1 v7 v8 v9 m) :
    Calls Tryz.prog 39 #[methVal v1 v7 v8 v9 m] w fun e w' => e = .returned (.bool (bodyB m)) ∧ Below w.heap.size w w' := by
  have ht := h.traps
  obtain ⟨a, cp, rfl, hl, hm, hnil, hx⟩ := h.code
  have hm' := hm
  unfold maxLen at hm
  have hbb : bodyB m = ((decide (1 ≤ m.code.length) && decide (m.code.length ≤ 100)) && ((m.code.getLast?.any fun x => endsB x.o) && (decide (m.traps.length ≤ 6) && (m.code.all (insB m.code.length) && m.traps.all (trapB m.code.length))))) := rfl
  rw [hbb]
  clear hbb
  obtain ⟨a9, cp9, hv9, hl9, hm9, _, _⟩ := id ht
  unfold maxLen at hm9
  by_cases h1 : 1 ≤ m.code.length
  · by_cases h2 : m.code.length ≤ 100
    · obtain ⟨b, off, rfl, hlt, hx⟩ := hx (by omega)
      by_cases hE : (m.code.getLast?.any fun x => endsB x.o) = true
      · by_cases h6 : m.traps.length ≤ 6
        · simp only [h1, h2, hE, h6, decide_true, Bool.and_self, Bool.true_and]
          exact body_some b off _ cp v1 v8 v9 m w rfl h1 h2 hl hm' hE hx ht h6
        · simp only [h6, decide_false, Bool.false_and, Bool.and_false]
          subst hv9
          have hEo : endsB m.code[m.code.length - 1].o = true := by
            rw [List.getLast?_eq_getElem?, List.getElem?_eq_getElem (by omega)] at hE
            simpa using hE
          have b0 := (Below.refl w.heap.size w).alloc (Nat.le_refl _) (.cells #[.string m.name, v1, .string m.ret, .bool m.static, .bool m.abstract, .int .i64 m.locals, .int .i64 m.stack, .slice (some ⟨b, off, none⟩) m.code.length cp, v8, .slice a9 m.traps.length cp9] 35)
          obtain ⟨⟨l0, l1, l2, l3⟩, _, _⟩ := insE_stable _ _ _ _ _ (hx (m.code.length - 1) (by omega)) b0
          generalize m.code[m.code.length - 1].o = ol at *
          have hsub : IntKind.i64.wrap ((m.code.length : Int) - 1) = ((m.code.length - 1 : Nat) : Int) := by rw [IntWalk.i64_in _ (by omega)]; omega
          unfold methVal methCells
          clear hx ht h l1 l2 l3 hE
          go_enter Tryz.func39, Tryz.ntmps39
          go_wp2_with fail
          refine (ends_any ol _).mono ?_
          rintro e w1 ⟨rfl, rfl⟩
          rw [hEo]
          go_wp2_with fail
          go_ret
          exact ⟨rfl, b0⟩
      · have hE' : (m.code.getLast?.any fun x => endsB x.o) = false := by simpa using hE
        rw [hE', Bool.false_and, Bool.and_false]
        subst hv9
        have hEo : endsB m.code[m.code.length - 1].o = false := by
          rw [List.getLast?_eq_getElem?, List.getElem?_eq_getElem (by omega)] at hE'
          simpa using hE'
        have b0 := (Below.refl w.heap.size w).alloc (Nat.le_refl _) (.cells #[.string m.name, v1, .string m.ret, .bool m.static, .bool m.abstract, .int .i64 m.locals, .int .i64 m.stack, .slice (some ⟨b, off, none⟩) m.code.length cp, v8, .slice a9 m.traps.length cp9] 35)
        obtain ⟨⟨l0, l1, l2, l3⟩, _, _⟩ := insE_stable _ _ _ _ _ (hx (m.code.length - 1) (by omega)) b0
        generalize m.code[m.code.length - 1].o = ol at *
        have hsub : IntKind.i64.wrap ((m.code.length : Int) - 1) = ((m.code.length - 1 : Nat) : Int) := by rw [IntWalk.i64_in _ (by omega)]; omega
        unfold methVal methCells
        clear hx ht h l1 l2 l3 hE hE'
        go_enter Tryz.func39, Tryz.ntmps39
        go_wp2_with fail
        refine (ends_any ol _).mono ?_
        rintro e w1 ⟨rfl, rfl⟩
        rw [hEo]
        go_wp2_with fail
        go_ret
        exact ⟨rfl, b0⟩
    · simp only [h2, decide_false, Bool.and_false, Bool.false_and]
      subst hv9
      unfold methVal methCells
      clear hx ht h
      go_enter Tryz.func39, Tryz.ntmps39
      go_wp2_with fail
      go_ret
      exact ⟨rfl, (Below.refl _ _).alloc (Nat.le_refl _) _⟩
  · simp only [h1, decide_false, Bool.false_and]
    have h0 : m.code.length = 0 := by omega
    subst hv9
    unfold methVal methCells
    clear hx ht h
    go_enter Tryz.func39, Tryz.ntmps39
    go_wp2_with fail
    go_ret
    exact ⟨rfl, (Below.refl _ _).alloc (Nat.le_refl _) _⟩
end Cls
end Go.Proofs.YtbfcjflgomedgaaGreat
