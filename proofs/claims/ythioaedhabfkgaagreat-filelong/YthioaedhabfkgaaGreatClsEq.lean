/- The contracts of the library's slices.Equal at class's types. -/
import Derived.Test.YthioaedhabfkgaaGreatClsA
import Derived.Deep.RegionWith
import Derived.Deep.QuietTactic
import Derived.BigQuiet
import Derived.Lib.SmallJoins
namespace Go.Proofs.YthioaedhabfkgaaGreat
namespace Cls
open Num Kind Op4
open Go.RowKit
set_option linter.unusedVariables false
set_option maxRecDepth 100000

def eqL {α : Type} (p : α → α → Bool) : List α → List α → Bool
  | [], [] => true
  | x :: r, y :: s => p x y && eqL p r s
  | _, _ => false
theorem eqL_step {α : Type} (p : α → α → Bool) (l m : List α) (k : Nat) (h : k < l.length) (h' : k < m.length) : eqL p (l.drop k) (m.drop k) = (p l[k] m[k] && eqL p (l.drop (k + 1)) (m.drop (k + 1))) := by
  rw [List.drop_eq_getElem_cons h, List.drop_eq_getElem_cons h']
  rfl
theorem eqL_end {α : Type} (p : α → α → Bool) (l m : List α) (k : Nat) (h : l.length ≤ k) (h' : m.length ≤ k) : eqL p (l.drop k) (m.drop k) = true := by
  rw [List.drop_eq_nil_of_le h, List.drop_eq_nil_of_le h']
  rfl
theorem eqL_len {α : Type} (p : α → α → Bool) : ∀ (l m : List α), l.length ≠ m.length → eqL p l m = false
  | [], [], h => absurd rfl h
  | [], _ :: _, _ => rfl
  | _ :: _, [], _ => rfl
  | x :: r, y :: s, h => by
    show (p x y && eqL p r s) = false
    rw [eqL_len p r s (fun e => h (by simp [e]))]
    simp
def seq (x y : ByteArray) : Bool := x.toList == y.toList

def feq (x y : FieldL) : Bool := (x.name.toList == y.name.toList) && ((x.type.toList == y.type.toList) && (x.static == y.static))
def ieq (x y : InsL) : Bool := (x.o == y.o) && ((x.a == y.a) && ((x.c.toList == y.c.toList) && (x.m.toList == y.m.toList)))
def teq (x y : TrapL) : Bool := (x.from' == y.from') && ((x.to == y.to) && ((x.at' == y.at') && (x.c.toList == y.c.toList)))

set_option maxHeartbeats 4000000 in
theorem sequal_any (v v' : Value) (l m : List ByteArray) (w : World) (h : Sl strE 1 w v l) (h' : Sl strE 1 w v' m) :
    Calls Tryz.prog 102 #[v, v'] w fun e w' => e = .returned (.bool (eqL seq l m)) ∧ Below w.heap.size w w' := by
  have HT : Hid _ := h
  have HT' : Hid _ := h'
  obtain ⟨a, cp, rfl, hl, hm, hnil, hx⟩ := h
  obtain ⟨a', cp', rfl, hl', hm', hnil', hx'⟩ := h'
  unfold maxLen at hm hm'
  clear hx hnil hx' hnil'
  by_cases hlen : l.length = m.length
  · have hne : ((l.length : Int) != (m.length : Int)) = false := by rw [hlen]; simp
    have HLN : Hid _ := hlen
    clear hlen
    go_enter Tryz.func102, Tryz.ntmps102
    go_wp2_with fail
    go_loopw [5, 13] (fun _ i wr => ∃ k : Nat, k ≤ l.length ∧ i = .int .i64 k ∧ eqL seq (l.drop k) (m.drop k) = eqL seq l m ∧ Below w.heap.size w wr) (fun _ i _ => l.length - (intOf i).toNat)
    case atStart => exact ⟨0, by omega, rfl, rfl, Below.refl _ _⟩
    case round =>
      obtain ⟨k, hk, rfl, hp, hbel⟩ := hrel
      have HA : Hid _ := hp
      clear hp
      by_cases hlk : k < l.length
      · have hlk' : k < m.length := by rw [← HLN.out]; exact hlk
        obtain ⟨aa, cc, ev, _, _, _, hx9⟩ := Sl.later strE_stable HT.out hbel
        simp only [Value.slice.injEq, true_and] at ev
        obtain ⟨rfl, rfl⟩ := ev
        obtain ⟨b9, off9, rfl, _, hx9⟩ := hx9 (by omega)
        obtain ⟨x0, s0⟩ := hx9 k hlk
        obtain ⟨aa, cc, ev, _, _, _, hx8⟩ := Sl.later strE_stable HT'.out hbel
        simp only [Value.slice.injEq, true_and] at ev
        obtain ⟨rfl, rfl⟩ := ev
        obtain ⟨b8, off8, rfl, _, hx8⟩ := hx8 (by omega)
        obtain ⟨y0, t0⟩ := hx8 k hlk'
        simp only [Nat.mul_one] at x0 y0
        have HS := eqL_step seq l m k hlk hlk'
        rw [HA.out] at HS
        have HS2 : Hid _ := HS
        clear HS HA hx9 hx8 hne
        unfold seq at HS2
        generalize l[k] = X at *
        generalize m[k] = Y at *
        cases hq1 : (X.toList == Y.toList)
        case false =>
          have HF : Hid (eqL seq l m = false) := by
            show _ = _
            have := HS2.out
            rw [hq1] at this
            exact this.trans (by simp)
          clear HS2
          go_wp2_with fail
          go_quiet (fail)
          go_wp2_with fail
          go_ret
          exact ⟨ret_b HF.out.symm, hbel.trans ((Joins.below_draws _ _ _).mono hbel.size)⟩
        have HF : Hid (eqL seq (l.drop (k + 1)) (m.drop (k + 1)) = eqL seq l m) := by
          show _ = _
          have := HS2.out
          rw [hq1] at this
          exact this.symm
        clear HS2
        go_wp2_with fail
        go_quiet (fail)
        go_wp2_with fail
        go_roundw
        case rel => exact ⟨k + 1, by omega, by go_num, HF.out, hbel.trans ((Joins.below_draws _ _ _).mono hbel.size)⟩
        case measure => simp [intOf]; omega
      · have HF : Hid (eqL seq l m = true) := by show _ = _; rw [← HA.out, eqL_end _ _ _ _ (by omega) (by rw [← HLN.out]; omega)]
        clear HA
        go_wp2_with fail
        go_ret
        exact ⟨ret_b HF.out.symm, hbel⟩
  · have hne : ((l.length : Int) != (m.length : Int)) = true := by simp; omega
    have HF : Hid (eqL seq l m = false) := eqL_len _ _ _ hlen
    clear hlen
    go_enter Tryz.func102, Tryz.ntmps102
    go_wp2_with fail
    go_ret
    exact ⟨ret_b HF.out.symm, Below.refl _ _⟩
set_option maxHeartbeats 4000000 in
theorem fequal_any (v v' : Value) (l m : List FieldL) (w : World) (h : Sl fieldE 3 w v l) (h' : Sl fieldE 3 w v' m) :
    Calls Tryz.prog 103 #[v, v'] w fun e w' => e = .returned (.bool (eqL feq l m)) ∧ Below w.heap.size w w' := by
  have HT : Hid _ := h
  have HT' : Hid _ := h'
  obtain ⟨a, cp, rfl, hl, hm, hnil, hx⟩ := h
  obtain ⟨a', cp', rfl, hl', hm', hnil', hx'⟩ := h'
  unfold maxLen at hm hm'
  clear hx hnil hx' hnil'
  by_cases hlen : l.length = m.length
  · have hne : ((l.length : Int) != (m.length : Int)) = false := by rw [hlen]; simp
    have HLN : Hid _ := hlen
    clear hlen
    go_enter Tryz.func103, Tryz.ntmps103
    go_wp2_with fail
    go_loopw [5, 13] (fun _ i wr => ∃ k : Nat, k ≤ l.length ∧ i = .int .i64 k ∧ eqL feq (l.drop k) (m.drop k) = eqL feq l m ∧ Below w.heap.size w wr) (fun _ i _ => l.length - (intOf i).toNat)
    case atStart => exact ⟨0, by omega, rfl, rfl, Below.refl _ _⟩
    case round =>
      obtain ⟨k, hk, rfl, hp, hbel⟩ := hrel
      have HA : Hid _ := hp
      clear hp
      by_cases hlk : k < l.length
      · have hlk' : k < m.length := by rw [← HLN.out]; exact hlk
        obtain ⟨aa, cc, ev, _, _, _, hx9⟩ := Sl.later fieldE_stable HT.out hbel
        simp only [Value.slice.injEq, true_and] at ev
        obtain ⟨rfl, rfl⟩ := ev
        obtain ⟨b9, off9, rfl, _, hx9⟩ := hx9 (by omega)
        obtain ⟨x0, x1, x2, _, _⟩ := hx9 k hlk
        obtain ⟨aa, cc, ev, _, _, _, hx8⟩ := Sl.later fieldE_stable HT'.out hbel
        simp only [Value.slice.injEq, true_and] at ev
        obtain ⟨rfl, rfl⟩ := ev
        obtain ⟨b8, off8, rfl, _, hx8⟩ := hx8 (by omega)
        obtain ⟨y0, y1, y2, _, _⟩ := hx8 k hlk'
        have HS := eqL_step feq l m k hlk hlk'
        rw [HA.out] at HS
        have HS2 : Hid _ := HS
        clear HS HA hx9 hx8 hne
        unfold feq at HS2
        generalize l[k] = X at *
        generalize m[k] = Y at *
        obtain ⟨p1, p2, p3⟩ := X
        obtain ⟨r1, r2, r3⟩ := Y
        simp only at x0 x1 x2 y0 y1 y2 HS2
        cases hq1 : (p1.toList == r1.toList)
        case false =>
          have HF : Hid (eqL feq l m = false) := by
            show _ = _
            have := HS2.out
            rw [hq1] at this
            exact this.trans (by simp)
          clear HS2
          go_wp2_with fail
          go_quiet (fail)
          go_wp2_with fail
          go_ret
          exact ⟨ret_b HF.out.symm, hbel.trans ((Joins.below_draws _ _ _).mono hbel.size)⟩
        cases hq2 : (p2.toList == r2.toList)
        case false =>
          have HF : Hid (eqL feq l m = false) := by
            show _ = _
            have := HS2.out
            rw [hq1, hq2] at this
            exact this.trans (by simp)
          clear HS2
          go_wp2_with fail
          go_quiet (fail)
          go_wp2_with fail
          go_ret
          exact ⟨ret_b HF.out.symm, hbel.trans ((Joins.below_draws _ _ _).mono hbel.size)⟩
        cases hq3 : (p3 == r3)
        case false =>
          have HF : Hid (eqL feq l m = false) := by
            show _ = _
            have := HS2.out
            rw [hq1, hq2, hq3] at this
            exact this.trans (by simp)
          clear HS2
          go_wp2_with fail
          go_quiet (fail)
          go_wp2_with fail
          go_ret
          exact ⟨ret_b HF.out.symm, hbel.trans ((Joins.below_draws _ _ _).mono hbel.size)⟩
        have HF : Hid (eqL feq (l.drop (k + 1)) (m.drop (k + 1)) = eqL feq l m) := by
          show _ = _
          have := HS2.out
          rw [hq1, hq2, hq3] at this
          exact this.symm
        clear HS2
        go_wp2_with fail
        go_quiet (fail)
        go_wp2_with fail
        go_roundw
        case rel => exact ⟨k + 1, by omega, by go_num, HF.out, hbel.trans ((Joins.below_draws _ _ _).mono hbel.size)⟩
        case measure => simp [intOf]; omega
      · have HF : Hid (eqL feq l m = true) := by show _ = _; rw [← HA.out, eqL_end _ _ _ _ (by omega) (by rw [← HLN.out]; omega)]
        clear HA
        go_wp2_with fail
        go_ret
        exact ⟨ret_b HF.out.symm, hbel⟩
  · have hne : ((l.length : Int) != (m.length : Int)) = true := by simp; omega
    have HF : Hid (eqL feq l m = false) := eqL_len _ _ _ hlen
    clear hlen
    go_enter Tryz.func103, Tryz.ntmps103
    go_wp2_with fail
    go_ret
    exact ⟨ret_b HF.out.symm, Below.refl _ _⟩
set_option maxHeartbeats 4000000 in
theorem iequal_any (v v' : Value) (l m : List InsL) (w : World) (h : Sl insE 4 w v l) (h' : Sl insE 4 w v' m) :
    Calls Tryz.prog 160 #[v, v'] w fun e w' => e = .returned (.bool (eqL ieq l m)) ∧ Below w.heap.size w w' := by
  have HT : Hid _ := h
  have HT' : Hid _ := h'
  obtain ⟨a, cp, rfl, hl, hm, hnil, hx⟩ := h
  obtain ⟨a', cp', rfl, hl', hm', hnil', hx'⟩ := h'
  unfold maxLen at hm hm'
  clear hx hnil hx' hnil'
  by_cases hlen : l.length = m.length
  · have hne : ((l.length : Int) != (m.length : Int)) = false := by rw [hlen]; simp
    have HLN : Hid _ := hlen
    clear hlen
    go_enter Tryz.func160, Tryz.ntmps160
    go_wp2_with fail
    go_loopw [5, 13] (fun _ i wr => ∃ k : Nat, k ≤ l.length ∧ i = .int .i64 k ∧ eqL ieq (l.drop k) (m.drop k) = eqL ieq l m ∧ Below w.heap.size w wr) (fun _ i _ => l.length - (intOf i).toNat)
    case atStart => exact ⟨0, by omega, rfl, rfl, Below.refl _ _⟩
    case round =>
      obtain ⟨k, hk, rfl, hp, hbel⟩ := hrel
      have HA : Hid _ := hp
      clear hp
      by_cases hlk : k < l.length
      · have hlk' : k < m.length := by rw [← HLN.out]; exact hlk
        obtain ⟨aa, cc, ev, _, _, _, hx9⟩ := Sl.later insE_stable HT.out hbel
        simp only [Value.slice.injEq, true_and] at ev
        obtain ⟨rfl, rfl⟩ := ev
        obtain ⟨b9, off9, rfl, _, hx9⟩ := hx9 (by omega)
        obtain ⟨⟨x0, x1, x2, x3⟩, _, _⟩ := hx9 k hlk
        obtain ⟨aa, cc, ev, _, _, _, hx8⟩ := Sl.later insE_stable HT'.out hbel
        simp only [Value.slice.injEq, true_and] at ev
        obtain ⟨rfl, rfl⟩ := ev
        obtain ⟨b8, off8, rfl, _, hx8⟩ := hx8 (by omega)
        obtain ⟨⟨y0, y1, y2, y3⟩, _, _⟩ := hx8 k hlk'
        have HS := eqL_step ieq l m k hlk hlk'
        rw [HA.out] at HS
        have HS2 : Hid _ := HS
        clear HS HA hx9 hx8 hne
        unfold ieq at HS2
        generalize l[k] = X at *
        generalize m[k] = Y at *
        obtain ⟨p1, p2, p3, p4⟩ := X
        obtain ⟨r1, r2, r3, r4⟩ := Y
        simp only at x0 x1 x2 x3 y0 y1 y2 y3 HS2
        cases hq1 : (p1 == r1)
        case false =>
          have HF : Hid (eqL ieq l m = false) := by
            show _ = _
            have := HS2.out
            rw [hq1] at this
            exact this.trans (by simp)
          clear HS2
          go_wp2_with fail
          go_quiet (fail)
          go_wp2_with fail
          go_ret
          exact ⟨ret_b HF.out.symm, hbel.trans ((Joins.below_draws _ _ _).mono hbel.size)⟩
        cases hq2 : (p2 == r2)
        case false =>
          have HF : Hid (eqL ieq l m = false) := by
            show _ = _
            have := HS2.out
            rw [hq1, hq2] at this
            exact this.trans (by simp)
          clear HS2
          go_wp2_with fail
          go_quiet (fail)
          go_wp2_with fail
          go_ret
          exact ⟨ret_b HF.out.symm, hbel.trans ((Joins.below_draws _ _ _).mono hbel.size)⟩
        cases hq3 : (p3.toList == r3.toList)
        case false =>
          have HF : Hid (eqL ieq l m = false) := by
            show _ = _
            have := HS2.out
            rw [hq1, hq2, hq3] at this
            exact this.trans (by simp)
          clear HS2
          go_wp2_with fail
          go_quiet (fail)
          go_wp2_with fail
          go_ret
          exact ⟨ret_b HF.out.symm, hbel.trans ((Joins.below_draws _ _ _).mono hbel.size)⟩
        cases hq4 : (p4.toList == r4.toList)
        case false =>
          have HF : Hid (eqL ieq l m = false) := by
            show _ = _
            have := HS2.out
            rw [hq1, hq2, hq3, hq4] at this
            exact this.trans (by simp)
          clear HS2
          go_wp2_with fail
          go_quiet (fail)
          go_wp2_with fail
          go_ret
          exact ⟨ret_b HF.out.symm, hbel.trans ((Joins.below_draws _ _ _).mono hbel.size)⟩
        have HF : Hid (eqL ieq (l.drop (k + 1)) (m.drop (k + 1)) = eqL ieq l m) := by
          show _ = _
          have := HS2.out
          rw [hq1, hq2, hq3, hq4] at this
          exact this.symm
        clear HS2
        go_wp2_with fail
        go_quiet (fail)
        go_wp2_with fail
        go_roundw
        case rel => exact ⟨k + 1, by omega, by go_num, HF.out, hbel.trans ((Joins.below_draws _ _ _).mono hbel.size)⟩
        case measure => simp [intOf]; omega
      · have HF : Hid (eqL ieq l m = true) := by show _ = _; rw [← HA.out, eqL_end _ _ _ _ (by omega) (by rw [← HLN.out]; omega)]
        clear HA
        go_wp2_with fail
        go_ret
        exact ⟨ret_b HF.out.symm, hbel⟩
  · have hne : ((l.length : Int) != (m.length : Int)) = true := by simp; omega
    have HF : Hid (eqL ieq l m = false) := eqL_len _ _ _ hlen
    clear hlen
    go_enter Tryz.func160, Tryz.ntmps160
    go_wp2_with fail
    go_ret
    exact ⟨ret_b HF.out.symm, Below.refl _ _⟩
set_option maxHeartbeats 4000000 in
theorem tequal_any (v v' : Value) (l m : List TrapL) (w : World) (h : Sl trapE 4 w v l) (h' : Sl trapE 4 w v' m) :
    Calls Tryz.prog 163 #[v, v'] w fun e w' => e = .returned (.bool (eqL teq l m)) ∧ Below w.heap.size w w' := by
  have HT : Hid _ := h
  have HT' : Hid _ := h'
  obtain ⟨a, cp, rfl, hl, hm, hnil, hx⟩ := h
  obtain ⟨a', cp', rfl, hl', hm', hnil', hx'⟩ := h'
  unfold maxLen at hm hm'
  clear hx hnil hx' hnil'
  by_cases hlen : l.length = m.length
  · have hne : ((l.length : Int) != (m.length : Int)) = false := by rw [hlen]; simp
    have HLN : Hid _ := hlen
    clear hlen
    go_enter Tryz.func163, Tryz.ntmps163
    go_wp2_with fail
    go_loopw [5, 13] (fun _ i wr => ∃ k : Nat, k ≤ l.length ∧ i = .int .i64 k ∧ eqL teq (l.drop k) (m.drop k) = eqL teq l m ∧ Below w.heap.size w wr) (fun _ i _ => l.length - (intOf i).toNat)
    case atStart => exact ⟨0, by omega, rfl, rfl, Below.refl _ _⟩
    case round =>
      obtain ⟨k, hk, rfl, hp, hbel⟩ := hrel
      have HA : Hid _ := hp
      clear hp
      by_cases hlk : k < l.length
      · have hlk' : k < m.length := by rw [← HLN.out]; exact hlk
        obtain ⟨aa, cc, ev, _, _, _, hx9⟩ := Sl.later trapE_stable HT.out hbel
        simp only [Value.slice.injEq, true_and] at ev
        obtain ⟨rfl, rfl⟩ := ev
        obtain ⟨b9, off9, rfl, _, hx9⟩ := hx9 (by omega)
        obtain ⟨x0, x1, x2, x3, _⟩ := hx9 k hlk
        obtain ⟨aa, cc, ev, _, _, _, hx8⟩ := Sl.later trapE_stable HT'.out hbel
        simp only [Value.slice.injEq, true_and] at ev
        obtain ⟨rfl, rfl⟩ := ev
        obtain ⟨b8, off8, rfl, _, hx8⟩ := hx8 (by omega)
        obtain ⟨y0, y1, y2, y3, _⟩ := hx8 k hlk'
        have HS := eqL_step teq l m k hlk hlk'
        rw [HA.out] at HS
        have HS2 : Hid _ := HS
        clear HS HA hx9 hx8 hne
        unfold teq at HS2
        generalize l[k] = X at *
        generalize m[k] = Y at *
        obtain ⟨p1, p2, p3, p4⟩ := X
        obtain ⟨r1, r2, r3, r4⟩ := Y
        simp only at x0 x1 x2 x3 y0 y1 y2 y3 HS2
        cases hq1 : (p1 == r1)
        case false =>
          have HF : Hid (eqL teq l m = false) := by
            show _ = _
            have := HS2.out
            rw [hq1] at this
            exact this.trans (by simp)
          clear HS2
          go_wp2_with fail
          go_quiet (fail)
          go_wp2_with fail
          go_ret
          exact ⟨ret_b HF.out.symm, hbel.trans ((Joins.below_draws _ _ _).mono hbel.size)⟩
        cases hq2 : (p2 == r2)
        case false =>
          have HF : Hid (eqL teq l m = false) := by
            show _ = _
            have := HS2.out
            rw [hq1, hq2] at this
            exact this.trans (by simp)
          clear HS2
          go_wp2_with fail
          go_quiet (fail)
          go_wp2_with fail
          go_ret
          exact ⟨ret_b HF.out.symm, hbel.trans ((Joins.below_draws _ _ _).mono hbel.size)⟩
        cases hq3 : (p3 == r3)
        case false =>
          have HF : Hid (eqL teq l m = false) := by
            show _ = _
            have := HS2.out
            rw [hq1, hq2, hq3] at this
            exact this.trans (by simp)
          clear HS2
          go_wp2_with fail
          go_quiet (fail)
          go_wp2_with fail
          go_ret
          exact ⟨ret_b HF.out.symm, hbel.trans ((Joins.below_draws _ _ _).mono hbel.size)⟩
        cases hq4 : (p4.toList == r4.toList)
        case false =>
          have HF : Hid (eqL teq l m = false) := by
            show _ = _
            have := HS2.out
            rw [hq1, hq2, hq3, hq4] at this
            exact this.trans (by simp)
          clear HS2
          go_wp2_with fail
          go_quiet (fail)
          go_wp2_with fail
          go_ret
          exact ⟨ret_b HF.out.symm, hbel.trans ((Joins.below_draws _ _ _).mono hbel.size)⟩
        have HF : Hid (eqL teq (l.drop (k + 1)) (m.drop (k + 1)) = eqL teq l m) := by
          show _ = _
          have := HS2.out
          rw [hq1, hq2, hq3, hq4] at this
          exact this.symm
        clear HS2
        go_wp2_with fail
        go_quiet (fail)
        go_wp2_with fail
        go_roundw
        case rel => exact ⟨k + 1, by omega, by go_num, HF.out, hbel.trans ((Joins.below_draws _ _ _).mono hbel.size)⟩
        case measure => simp [intOf]; omega
      · have HF : Hid (eqL teq l m = true) := by show _ = _; rw [← HA.out, eqL_end _ _ _ _ (by omega) (by rw [← HLN.out]; omega)]
        clear HA
        go_wp2_with fail
        go_ret
        exact ⟨ret_b HF.out.symm, hbel⟩
  · have hne : ((l.length : Int) != (m.length : Int)) = true := by simp; omega
    have HF : Hid (eqL teq l m = false) := eqL_len _ _ _ hlen
    clear hlen
    go_enter Tryz.func163, Tryz.ntmps163
    go_wp2_with fail
    go_ret
    exact ⟨ret_b HF.out.symm, Below.refl _ _⟩
end Cls
end Go.Proofs.YthioaedhabfkgaaGreat
