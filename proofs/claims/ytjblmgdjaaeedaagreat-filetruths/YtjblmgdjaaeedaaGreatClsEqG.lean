/- Contracts and laws, texts of mine put into one. -/
import Derived.Test.YtjblmgdjaaeedaaGreatClsA
import Derived.Deep.RegionWith
import Derived.Deep.QuietTactic
import Derived.BigQuiet
import Derived.Lib.SmallJoins
/- The contracts of the library's slices.Equal at class's types. -/
namespace Go.Proofs.YtjblmgdjaaeedaaGreat
namespace Cls
open Num Kind Op4
open Go.RowKit
set_option linter.unusedVariables false
set_option maxRecDepth 100000

def eqL {α : Type} (p : α → α → Bool) : List α → List α → Bool
  | [], [] => true
  | x :: r, y :: s => p x y && eqL p r s
  | _, _ => false
theorem eqL_step {α : Type} (p : α → α → Bool) (l m : List α) (k : Nat) (h : k < l.length) (h' : k < m.length) : eqL p (l.drop k) (m.drop k) = (p l[k] m[k] && eqL p (l.drop (k + 1)) (m.drop (k + 1))) := by
  rw [List.drop_eq_getElem_cons h, List.drop_eq_getElem_cons h']
  rfl
theorem eqL_end {α : Type} (p : α → α → Bool) (l m : List α) (k : Nat) (h : l.length ≤ k) (h' : m.length ≤ k) : eqL p (l.drop k) (m.drop k) = true := by
  rw [List.drop_eq_nil_of_le h, List.drop_eq_nil_of_le h']
  rfl
theorem eqL_len {α : Type} (p : α → α → Bool) : ∀ (l m : List α), l.length ≠ m.length → eqL p l m = false
  | [], [], h => absurd rfl h
  | [], _ :: _, _ => rfl
  | _ :: _, [], _ => rfl
  | x :: r, y :: s, h => by
    show (p x y && eqL p r s) = false
    rw [eqL_len p r s (fun e => h (by simp [e]))]
    simp
def seq (x y : ByteArray) : Bool := x.toList == y.toList

def feq (x y : FieldL) : Bool := (x.name.toList == y.name.toList) && ((x.type.toList == y.type.toList) && (x.static == y.static))
def ieq (x y : InsL) : Bool := (x.o == y.o) && ((x.a == y.a) && ((x.c.toList == y.c.toList) && (x.m.toList == y.m.toList)))
def teq (x y : TrapL) : Bool := (x.from' == y.from') && ((x.to == y.to) && ((x.at' == y.at') && (x.c.toList == y.c.toList)))

set_option maxHeartbeats 4000000 in
theorem sequal_any (v v' : Value) (l m : List ByteArray) (w : World) (h : Sl strE 1 w v l) (h' : Sl strE 1 w v' m) :
    Calls Tryz.prog 102 #[v, v'] w fun e w' => e = .returned (.bool (eqL seq l m)) ∧ Below w.heap.size w w' := by
  have HT : Hid _ := h
  have HT' : Hid _ := h'
  obtain ⟨a, cp, rfl, hl, hm, hnil, hx⟩ := h
  obtain ⟨a', cp', rfl, hl', hm', hnil', hx'⟩ := h'
  unfold maxLen at hm hm'
  clear hx hnil hx' hnil'
  by_cases hlen : l.length = m.length
  · have hne : ((l.length : Int) != (m.length : Int)) = false := by rw [hlen]; simp
    have HLN : Hid _ := hlen
    clear hlen
    go_enter Tryz.func102, Tryz.ntmps102
    go_wp2_with fail
    go_loopw [5, 13] (fun _ i wr => ∃ k : Nat, k ≤ l.length ∧ i = .int .i64 k ∧ eqL seq (l.drop k) (m.drop k) = eqL seq l m ∧ Below w.heap.size w wr) (fun _ i _ => l.length - (intOf i).toNat)
    case atStart => exact ⟨0, by omega, rfl, rfl, Below.refl _ _⟩
    case round =>
      obtain ⟨k, hk, rfl, hp, hbel⟩ := hrel
      have HA : Hid _ := hp
      clear hp
      by_cases hlk : k < l.length
      · have hlk' : k < m.length := by rw [← HLN.out]; exact hlk
        obtain ⟨aa, cc, ev, _, _, _, hx9⟩ := Sl.later strE_stable HT.out hbel
        simp only [Value.slice.injEq, true_and] at ev
        obtain ⟨rfl, rfl⟩ := ev
        obtain ⟨b9, off9, rfl, _, hx9⟩ := hx9 (by omega)
        obtain ⟨x0, s0⟩ := hx9 k hlk
        obtain ⟨aa, cc, ev, _, _, _, hx8⟩ := Sl.later strE_stable HT'.out hbel
        simp only [Value.slice.injEq, true_and] at ev
        obtain ⟨rfl, rfl⟩ := ev
        obtain ⟨b8, off8, rfl, _, hx8⟩ := hx8 (by omega)
        obtain ⟨y0, t0⟩ := hx8 k hlk'
        simp only [Nat.mul_one] at x0 y0
        have HS := eqL_step seq l m k hlk hlk'
        rw [HA.out] at HS
        have HS2 : Hid _ := HS
        clear HS HA hx9 hx8 hne
        unfold seq at HS2
        generalize l[k] = X at *
        generalize m[k] = Y at *
        cases hq1 : (X.toList == Y.toList)
        case false =>
          have HF : Hid (eqL seq l m = false) := by
            show _ = _
            have := HS2.out
            rw [hq1] at this
            exact this.trans (by simp)
          clear HS2
          go_wp2_with fail
          go_quiet (fail)
          go_wp2_with fail
          go_ret
          exact ⟨ret_b HF.out.symm, hbel.trans ((Joins.below_draws _ _ _).mono hbel.size)⟩
        have HF : Hid (eqL seq (l.drop (k + 1)) (m.drop (k + 1)) = eqL seq l m) := by
          show _ = _
          have := HS2.out
          rw [hq1] at this
          exact this.symm
        clear HS2
        go_wp2_with fail
        go_quiet (fail)
        go_wp2_with fail
        go_roundw
        case rel => exact ⟨k + 1, by omega, by go_num, HF.out, hbel.trans ((Joins.below_draws _ _ _).mono hbel.size)⟩
        case measure => simp [intOf]; omega
      · have HF : Hid (eqL seq l m = true) := by show _ = _; rw [← HA.out, eqL_end _ _ _ _ (by omega) (by rw [← HLN.out]; omega)]
        clear HA
        go_wp2_with fail
        go_ret
        exact ⟨ret_b HF.out.symm, hbel⟩
  · have hne : ((l.length : Int) != (m.length : Int)) = true := by simp; omega
    have HF : Hid (eqL seq l m = false) := eqL_len _ _ _ hlen
    clear hlen
    go_enter Tryz.func102, Tryz.ntmps102
    go_wp2_with fail
    go_ret
    exact ⟨ret_b HF.out.symm, Below.refl _ _⟩
set_option maxHeartbeats 4000000 in
theorem fequal_any (v v' : Value) (l m : List FieldL) (w : World) (h : Sl fieldE 3 w v l) (h' : Sl fieldE 3 w v' m) :
    Calls Tryz.prog 103 #[v, v'] w fun e w' => e = .returned (.bool (eqL feq l m)) ∧ Below w.heap.size w w' := by
  have HT : Hid _ := h
  have HT' : Hid _ := h'
  obtain ⟨a, cp, rfl, hl, hm, hnil, hx⟩ := h
  obtain ⟨a', cp', rfl, hl', hm', hnil', hx'⟩ := h'
  unfold maxLen at hm hm'
  clear hx hnil hx' hnil'
  by_cases hlen : l.length = m.length
  · have hne : ((l.length : Int) != (m.length : Int)) = false := by rw [hlen]; simp
    have HLN : Hid _ := hlen
    clear hlen
    go_enter Tryz.func103, Tryz.ntmps103
    go_wp2_with fail
    go_loopw [5, 13] (fun _ i wr => ∃ k : Nat, k ≤ l.length ∧ i = .int .i64 k ∧ eqL feq (l.drop k) (m.drop k) = eqL feq l m ∧ Below w.heap.size w wr) (fun _ i _ => l.length - (intOf i).toNat)
    case atStart => exact ⟨0, by omega, rfl, rfl, Below.refl _ _⟩
    case round =>
      obtain ⟨k, hk, rfl, hp, hbel⟩ := hrel
      have HA : Hid _ := hp
      clear hp
      by_cases hlk : k < l.length
      · have hlk' : k < m.length := by rw [← HLN.out]; exact hlk
        obtain ⟨aa, cc, ev, _, _, _, hx9⟩ := Sl.later fieldE_stable HT.out hbel
        simp only [Value.slice.injEq, true_and] at ev
        obtain ⟨rfl, rfl⟩ := ev
        obtain ⟨b9, off9, rfl, _, hx9⟩ := hx9 (by omega)
        obtain ⟨x0, x1, x2, _, _⟩ := hx9 k hlk
        obtain ⟨aa, cc, ev, _, _, _, hx8⟩ := Sl.later fieldE_stable HT'.out hbel
        simp only [Value.slice.injEq, true_and] at ev
        obtain ⟨rfl, rfl⟩ := ev
        obtain ⟨b8, off8, rfl, _, hx8⟩ := hx8 (by omega)
        obtain ⟨y0, y1, y2, _, _⟩ := hx8 k hlk'
        have HS := eqL_step feq l m k hlk hlk'
        rw [HA.out] at HS
        have HS2 : Hid _ := HS
        clear HS HA hx9 hx8 hne
        unfold feq at HS2
        generalize l[k] = X at *
        generalize m[k] = Y at *
        obtain ⟨p1, p2, p3⟩ := X
        obtain ⟨r1, r2, r3⟩ := Y
        simp only at x0 x1 x2 y0 y1 y2 HS2
        cases hq1 : (p1.toList == r1.toList)
        case false =>
          have HF : Hid (eqL feq l m = false) := by
            show _ = _
            have := HS2.out
            rw [hq1] at this
            exact this.trans (by simp)
          clear HS2
          go_wp2_with fail
          go_quiet (fail)
          go_wp2_with fail
          go_ret
          exact ⟨ret_b HF.out.symm, hbel.trans ((Joins.below_draws _ _ _).mono hbel.size)⟩
        cases hq2 : (p2.toList == r2.toList)
        case false =>
          have HF : Hid (eqL feq l m = false) := by
            show _ = _
            have := HS2.out
            rw [hq1, hq2] at this
            exact this.trans (by simp)
          clear HS2
          go_wp2_with fail
          go_quiet (fail)
          go_wp2_with fail
          go_ret
          exact ⟨ret_b HF.out.symm, hbel.trans ((Joins.below_draws _ _ _).mono hbel.size)⟩
        cases hq3 : (p3 == r3)
        case false =>
          have HF : Hid (eqL feq l m = false) := by
            show _ = _
            have := HS2.out
            rw [hq1, hq2, hq3] at this
            exact this.trans (by simp)
          clear HS2
          go_wp2_with fail
          go_quiet (fail)
          go_wp2_with fail
          go_ret
          exact ⟨ret_b HF.out.symm, hbel.trans ((Joins.below_draws _ _ _).mono hbel.size)⟩
        have HF : Hid (eqL feq (l.drop (k + 1)) (m.drop (k + 1)) = eqL feq l m) := by
          show _ = _
          have := HS2.out
          rw [hq1, hq2, hq3] at this
          exact this.symm
        clear HS2
        go_wp2_with fail
        go_quiet (fail)
        go_wp2_with fail
        go_roundw
        case rel => exact ⟨k + 1, by omega, by go_num, HF.out, hbel.trans ((Joins.below_draws _ _ _).mono hbel.size)⟩
        case measure => simp [intOf]; omega
      · have HF : Hid (eqL feq l m = true) := by show _ = _; rw [← HA.out, eqL_end _ _ _ _ (by omega) (by rw [← HLN.out]; omega)]
        clear HA
        go_wp2_with fail
        go_ret
        exact ⟨ret_b HF.out.symm, hbel⟩
  · have hne : ((l.length : Int) != (m.length : Int)) = true := by simp; omega
    have HF : Hid (eqL feq l m = false) := eqL_len _ _ _ hlen
    clear hlen
    go_enter Tryz.func103, Tryz.ntmps103
    go_wp2_with fail
    go_ret
    exact ⟨ret_b HF.out.symm, Below.refl _ _⟩
set_option maxHeartbeats 4000000 in
theorem iequal_any (v v' : Value) (l m : List InsL) (w : World) (h : Sl insE 4 w v l) (h' : Sl insE 4 w v' m) :
    Calls Tryz.prog 160 #[v, v'] w fun e w' => e = .returned (.bool (eqL ieq l m)) ∧ Below w.heap.size w w' := by
  have HT : Hid _ := h
  have HT' : Hid _ := h'
  obtain ⟨a, cp, rfl, hl, hm, hnil, hx⟩ := h
  obtain ⟨a', cp', rfl, hl', hm', hnil', hx'⟩ := h'
  unfold maxLen at hm hm'
  clear hx hnil hx' hnil'
  by_cases hlen : l.length = m.length
  · have hne : ((l.length : Int) != (m.length : Int)) = false := by rw [hlen]; simp
    have HLN : Hid _ := hlen
    clear hlen
    go_enter Tryz.func160, Tryz.ntmps160
    go_wp2_with fail
    go_loopw [5, 13] (fun _ i wr => ∃ k : Nat, k ≤ l.length ∧ i = .int .i64 k ∧ eqL ieq (l.drop k) (m.drop k) = eqL ieq l m ∧ Below w.heap.size w wr) (fun _ i _ => l.length - (intOf i).toNat)
    case atStart => exact ⟨0, by omega, rfl, rfl, Below.refl _ _⟩
    case round =>
      obtain ⟨k, hk, rfl, hp, hbel⟩ := hrel
      have HA : Hid _ := hp
      clear hp
      by_cases hlk : k < l.length
      · have hlk' : k < m.length := by rw [← HLN.out]; exact hlk
        obtain ⟨aa, cc, ev, _, _, _, hx9⟩ := Sl.later insE_stable HT.out hbel
        simp only [Value.slice.injEq, true_and] at ev
        obtain ⟨rfl, rfl⟩ := ev
        obtain ⟨b9, off9, rfl, _, hx9⟩ := hx9 (by omega)
        obtain ⟨⟨x0, x1, x2, x3⟩, _, _⟩ := hx9 k hlk
        obtain ⟨aa, cc, ev, _, _, _, hx8⟩ := Sl.later insE_stable HT'.out hbel
        simp only [Value.slice.injEq, true_and] at ev
        obtain ⟨rfl, rfl⟩ := ev
        obtain ⟨b8, off8, rfl, _, hx8⟩ := hx8 (by omega)
        obtain ⟨⟨y0, y1, y2, y3⟩, _, _⟩ := hx8 k hlk'
        have HS := eqL_step ieq l m k hlk hlk'
        rw [HA.out] at HS
        have HS2 : Hid _ := HS
        clear HS HA hx9 hx8 hne
        unfold ieq at HS2
        generalize l[k] = X at *
        generalize m[k] = Y at *
        obtain ⟨p1, p2, p3, p4⟩ := X
        obtain ⟨r1, r2, r3, r4⟩ := Y
        simp only at x0 x1 x2 x3 y0 y1 y2 y3 HS2
        cases hq1 : (p1 == r1)
        case false =>
          have HF : Hid (eqL ieq l m = false) := by
            show _ = _
            have := HS2.out
            rw [hq1] at this
            exact this.trans (by simp)
          clear HS2
          go_wp2_with fail
          go_quiet (fail)
          go_wp2_with fail
          go_ret
          exact ⟨ret_b HF.out.symm, hbel.trans ((Joins.below_draws _ _ _).mono hbel.size)⟩
        cases hq2 : (p2 == r2)
        case false =>
          have HF : Hid (eqL ieq l m = false) := by
            show _ = _
            have := HS2.out
            rw [hq1, hq2] at this
            exact this.trans (by simp)
          clear HS2
          go_wp2_with fail
          go_quiet (fail)
          go_wp2_with fail
          go_ret
          exact ⟨ret_b HF.out.symm, hbel.trans ((Joins.below_draws _ _ _).mono hbel.size)⟩
        cases hq3 : (p3.toList == r3.toList)
        case false =>
          have HF : Hid (eqL ieq l m = false) := by
            show _ = _
            have := HS2.out
            rw [hq1, hq2, hq3] at this
            exact this.trans (by simp)
          clear HS2
          go_wp2_with fail
          go_quiet (fail)
          go_wp2_with fail
          go_ret
          exact ⟨ret_b HF.out.symm, hbel.trans ((Joins.below_draws _ _ _).mono hbel.size)⟩
        cases hq4 : (p4.toList == r4.toList)
        case false =>
          have HF : Hid (eqL ieq l m = false) := by
            show _ = _
            have := HS2.out
            rw [hq1, hq2, hq3, hq4] at this
            exact this.trans (by simp)
          clear HS2
          go_wp2_with fail
          go_quiet (fail)
          go_wp2_with fail
          go_ret
          exact ⟨ret_b HF.out.symm, hbel.trans ((Joins.below_draws _ _ _).mono hbel.size)⟩
        have HF : Hid (eqL ieq (l.drop (k + 1)) (m.drop (k + 1)) = eqL ieq l m) := by
          show _ = _
          have := HS2.out
          rw [hq1, hq2, hq3, hq4] at this
          exact this.symm
        clear HS2
        go_wp2_with fail
        go_quiet (fail)
        go_wp2_with fail
        go_roundw
        case rel => exact ⟨k + 1, by omega, by go_num, HF.out, hbel.trans ((Joins.below_draws _ _ _).mono hbel.size)⟩
        case measure => simp [intOf]; omega
      · have HF : Hid (eqL ieq l m = true) := by show _ = _; rw [← HA.out, eqL_end _ _ _ _ (by omega) (by rw [← HLN.out]; omega)]
        clear HA
        go_wp2_with fail
        go_ret
        exact ⟨ret_b HF.out.symm, hbel⟩
  · have hne : ((l.length : Int) != (m.length : Int)) = true := by simp; omega
    have HF : Hid (eqL ieq l m = false) := eqL_len _ _ _ hlen
    clear hlen
    go_enter Tryz.func160, Tryz.ntmps160
    go_wp2_with fail
    go_ret
    exact ⟨ret_b HF.out.symm, Below.refl _ _⟩
set_option maxHeartbeats 4000000 in
theorem tequal_any (v v' : Value) (l m : List TrapL) (w : World) (h : Sl trapE 4 w v l) (h' : Sl trapE 4 w v' m) :
    Calls Tryz.prog 163 #[v, v'] w fun e w' => e = .returned (.bool (eqL teq l m)) ∧ Below w.heap.size w w' := by
  have HT : Hid _ := h
  have HT' : Hid _ := h'
  obtain ⟨a, cp, rfl, hl, hm, hnil, hx⟩ := h
  obtain ⟨a', cp', rfl, hl', hm', hnil', hx'⟩ := h'
  unfold maxLen at hm hm'
  clear hx hnil hx' hnil'
  by_cases hlen : l.length = m.length
  · have hne : ((l.length : Int) != (m.length : Int)) = false := by rw [hlen]; simp
    have HLN : Hid _ := hlen
    clear hlen
    go_enter Tryz.func163, Tryz.ntmps163
    go_wp2_with fail
    go_loopw [5, 13] (fun _ i wr => ∃ k : Nat, k ≤ l.length ∧ i = .int .i64 k ∧ eqL teq (l.drop k) (m.drop k) = eqL teq l m ∧ Below w.heap.size w wr) (fun _ i _ => l.length - (intOf i).toNat)
    case atStart => exact ⟨0, by omega, rfl, rfl, Below.refl _ _⟩
    case round =>
      obtain ⟨k, hk, rfl, hp, hbel⟩ := hrel
      have HA : Hid _ := hp
      clear hp
      by_cases hlk : k < l.length
      · have hlk' : k < m.length := by rw [← HLN.out]; exact hlk
        obtain ⟨aa, cc, ev, _, _, _, hx9⟩ := Sl.later trapE_stable HT.out hbel
        simp only [Value.slice.injEq, true_and] at ev
        obtain ⟨rfl, rfl⟩ := ev
        obtain ⟨b9, off9, rfl, _, hx9⟩ := hx9 (by omega)
        obtain ⟨x0, x1, x2, x3, _⟩ := hx9 k hlk
        obtain ⟨aa, cc, ev, _, _, _, hx8⟩ := Sl.later trapE_stable HT'.out hbel
        simp only [Value.slice.injEq, true_and] at ev
        obtain ⟨rfl, rfl⟩ := ev
        obtain ⟨b8, off8, rfl, _, hx8⟩ := hx8 (by omega)
        obtain ⟨y0, y1, y2, y3, _⟩ := hx8 k hlk'
        have HS := eqL_step teq l m k hlk hlk'
        rw [HA.out] at HS
        have HS2 : Hid _ := HS
        clear HS HA hx9 hx8 hne
        unfold teq at HS2
        generalize l[k] = X at *
        generalize m[k] = Y at *
        obtain ⟨p1, p2, p3, p4⟩ := X
        obtain ⟨r1, r2, r3, r4⟩ := Y
        simp only at x0 x1 x2 x3 y0 y1 y2 y3 HS2
        cases hq1 : (p1 == r1)
        case false =>
          have HF : Hid (eqL teq l m = false) := by
            show _ = _
            have := HS2.out
            rw [hq1] at this
            exact this.trans (by simp)
          clear HS2
          go_wp2_with fail
          go_quiet (fail)
          go_wp2_with fail
          go_ret
          exact ⟨ret_b HF.out.symm, hbel.trans ((Joins.below_draws _ _ _).mono hbel.size)⟩
        cases hq2 : (p2 == r2)
        case false =>
          have HF : Hid (eqL teq l m = false) := by
            show _ = _
            have := HS2.out
            rw [hq1, hq2] at this
            exact this.trans (by simp)
          clear HS2
          go_wp2_with fail
          go_quiet (fail)
          go_wp2_with fail
          go_ret
          exact ⟨ret_b HF.out.symm, hbel.trans ((Joins.below_draws _ _ _).mono hbel.size)⟩
        cases hq3 : (p3 == r3)
        case false =>
          have HF : Hid (eqL teq l m = false) := by
            show _ = _
            have := HS2.out
            rw [hq1, hq2, hq3] at this
            exact this.trans (by simp)
          clear HS2
          go_wp2_with fail
          go_quiet (fail)
          go_wp2_with fail
          go_ret
          exact ⟨ret_b HF.out.symm, hbel.trans ((Joins.below_draws _ _ _).mono hbel.size)⟩
        cases hq4 : (p4.toList == r4.toList)
        case false =>
          have HF : Hid (eqL teq l m = false) := by
            show _ = _
            have := HS2.out
            rw [hq1, hq2, hq3, hq4] at this
            exact this.trans (by simp)
          clear HS2
          go_wp2_with fail
          go_quiet (fail)
          go_wp2_with fail
          go_ret
          exact ⟨ret_b HF.out.symm, hbel.trans ((Joins.below_draws _ _ _).mono hbel.size)⟩
        have HF : Hid (eqL teq (l.drop (k + 1)) (m.drop (k + 1)) = eqL teq l m) := by
          show _ = _
          have := HS2.out
          rw [hq1, hq2, hq3, hq4] at this
          exact this.symm
        clear HS2
        go_wp2_with fail
        go_quiet (fail)
        go_wp2_with fail
        go_roundw
        case rel => exact ⟨k + 1, by omega, by go_num, HF.out, hbel.trans ((Joins.below_draws _ _ _).mono hbel.size)⟩
        case measure => simp [intOf]; omega
      · have HF : Hid (eqL teq l m = true) := by show _ = _; rw [← HA.out, eqL_end _ _ _ _ (by omega) (by rw [← HLN.out]; omega)]
        clear HA
        go_wp2_with fail
        go_ret
        exact ⟨ret_b HF.out.symm, hbel⟩
  · have hne : ((l.length : Int) != (m.length : Int)) = true := by simp; omega
    have HF : Hid (eqL teq l m = false) := eqL_len _ _ _ hlen
    clear hlen
    go_enter Tryz.func163, Tryz.ntmps163
    go_wp2_with fail
    go_ret
    exact ⟨ret_b HF.out.symm, Below.refl _ _⟩
end Cls
end Go.Proofs.YtjblmgdjaaeedaaGreat

/- The contracts of class's test whether two Maps are the same. -/
namespace Go.Proofs.YtjblmgdjaaeedaaGreat
namespace Cls
open Num Kind Op4
open Go.RowKit
set_option linter.unusedVariables false
set_option maxRecDepth 100000

theorem alloc_size (w : World) (o : Obj) : (w.alloc o).heap.size = w.heap.size + 1 := by
  unfold World.alloc
  exact Array.size_push ..
def meq (x y : MapL) : Bool := (x.at' == y.at') && (eqL seq x.locals y.locals && eqL seq x.stack y.stack)
set_option maxHeartbeats 2000000 in
theorem smap_any (a1 a2 : Int) (u1 u2 z1 z2 : Value) (l1 s1 l2 s2 : List ByteArray) (w : World) (hu1 : Sl strE 1 w u1 l1) (hz1 : Sl strE 1 w z1 s1) (hu2 : Sl strE 1 w u2 l2) (hz2 : Sl strE 1 w z2 s2) :
    Calls Tryz.prog 162 #[.agg #[.int .i64 a1, u1, z1], .agg #[.int .i64 a2, u2, z2]] w fun e w' => e = .returned (.bool (meq ⟨a1, l1, s1⟩ ⟨a2, l2, s2⟩)) ∧ Below w.heap.size w w' := by
  have b00 := (Below.refl w.heap.size w).alloc (Nat.le_refl _) (.cells #[.int .i64 a1, u1, z1] 50)
  have b0 := b00.alloc b00.size (.cells #[.int .i64 a2, u2, z2] 50)
  have H1 := sequal_any u1 u2 l1 l2 _ (hu1.later strE_stable b0) (hu2.later strE_stable b0)
  have H2 : Hid (∀ W, Below w.heap.size w W → _) := fun W hb => sequal_any z1 z2 s1 s2 W (hz1.later strE_stable hb) (hz2.later strE_stable hb)
  have x2 := cell_new w #[.int .i64 a1, u1, z1] 50 2
  have y2 := cell_new (w.alloc (.cells #[.int .i64 a1, u1, z1] 50)) #[.int .i64 a2, u2, z2] 50 2
  simp only [List.getElem?_toArray, List.getElem?_cons_zero, List.getElem?_cons_succ] at x2 y2
  rw [alloc_size] at y2
  replace x2 := cellOn x2 ((Below.refl _ _).alloc (Nat.le_refl _) (.cells #[.int .i64 a2, u2, z2] 50))
  unfold meq
  simp only
  generalize eqL seq l1 l2 = q1 at *
  generalize eqL seq s1 s2 = q2 at *
  cases hq : (a1 == a2)
  · clear x2 y2 H1 H2
    go_enter Tryz.func162, Tryz.ntmps162
    go_wp2_with fail
    go_ret
    exact ⟨rfl, b0⟩
  cases q1
  · clear x2 y2 H2
    go_enter Tryz.func162, Tryz.ntmps162
    go_wp2_with fail
    refine H1.mono ?_
    rintro e w2 ⟨rfl, b2⟩
    have k2 := b0.trans (b2.mono b0.size)
    go_wp2_with fail
    go_ret
    exact ⟨rfl, k2⟩
  go_enter Tryz.func162, Tryz.ntmps162
  go_wp2_with fail
  refine H1.mono ?_
  rintro e w2 ⟨rfl, b2⟩
  have k2 := b0.trans (b2.mono b0.size)
  replace x2 := cellOn x2 b2
  replace y2 := cellOn y2 b2
  go_wp2_with fail
  refine (H2.out _ k2).mono ?_
  rintro e w3 ⟨rfl, b3⟩
  have k3 := k2.trans (b3.mono k2.size)
  go_wp2_with fail
  go_ret
  exact ⟨rfl, k3⟩
set_option maxHeartbeats 4000000 in
theorem mapsEq_any (v v' : Value) (l m : List MapL) (w : World) (h : Sl mapE 3 w v l) (h' : Sl mapE 3 w v' m) :
    Calls Tryz.prog 161 #[v, v', .func (.func 162) #[] #[]] w fun e w' => e = .returned (.bool (eqL meq l m)) ∧ Below w.heap.size w w' := by
  have HT : Hid _ := h
  have HT' : Hid _ := h'
  obtain ⟨a, cp, rfl, hl, hm, hnil, hx⟩ := h
  obtain ⟨a', cp', rfl, hl', hm', hnil', hx'⟩ := h'
  unfold maxLen at hm hm'
  clear hx hnil hx' hnil'
  by_cases hlen : l.length = m.length
  · have hne : ((l.length : Int) != (m.length : Int)) = false := by rw [hlen]; simp
    have HLN : Hid _ := hlen
    clear hlen
    go_enter Tryz.func161, Tryz.ntmps161
    go_wp2_with fail
    go_loopw [7, 8, 9, 17] (fun _ _ _ i wr => ∃ k : Nat, k ≤ l.length ∧ i = .int .i64 k ∧ eqL meq (l.drop k) (m.drop k) = eqL meq l m ∧ Below w.heap.size w wr) (fun _ _ _ i _ => l.length - (intOf i).toNat)
    case atStart => exact ⟨0, by omega, rfl, rfl, Below.refl _ _⟩
    case round =>
      obtain ⟨k, hk, rfl, hp, hbel⟩ := hrel
      have HA : Hid _ := hp
      clear hp
      by_cases hlk : k < l.length
      · have hlk' : k < m.length := by rw [← HLN.out]; exact hlk
        obtain ⟨aa, cc, ev, _, _, _, hx9⟩ := Sl.later mapE_stable HT.out hbel
        simp only [Value.slice.injEq, true_and] at ev
        obtain ⟨rfl, rfl⟩ := ev
        obtain ⟨b9, off9, rfl, _, hx9⟩ := hx9 (by omega)
        obtain ⟨u1, z1, x0, x1, x2, S1, S2⟩ := hx9 k hlk
        obtain ⟨aa, cc, ev, _, _, _, hx8⟩ := Sl.later mapE_stable HT'.out hbel
        simp only [Value.slice.injEq, true_and] at ev
        obtain ⟨rfl, rfl⟩ := ev
        obtain ⟨b8, off8, rfl, _, hx8⟩ := hx8 (by omega)
        obtain ⟨u2, z2, y0, y1, y2, S3, S4⟩ := hx8 k hlk'
        have HS := eqL_step meq l m k hlk hlk'
        rw [HA.out] at HS
        have HS2 : Hid _ := HS
        clear HS HA hx9 hx8 hne
        generalize l[k] = X at *
        generalize m[k] = Y at *
        obtain ⟨a1, l1, s1⟩ := X
        obtain ⟨a2, l2, s2⟩ := Y
        simp only at x0 x1 x2 y0 y1 y2 S1 S2 S3 S4
        have HS1 : Hid _ := S1
        have HSb : Hid _ := S2
        have HSc : Hid _ := S3
        have HSd : Hid _ := S4
        obtain ⟨aL, cL, rfl, _, _, _, _⟩ := S1
        obtain ⟨aS, cS, rfl, _, _, _, _⟩ := S2
        obtain ⟨aM, cM, rfl, _, _, _, _⟩ := S3
        obtain ⟨aT, cT, rfl, _, _, _, _⟩ := S4
        have e0 := (Below.refl wr.heap.size wr).alloc (Nat.le_refl _) (.cells #[.int .i64 a1, .slice aL l1.length cL, .slice aS s1.length cS] 50)
        have e1 := e0.alloc e0.size (.cells #[.int .i64 a2, .slice aM l2.length cM, .slice aT s2.length cT] 50)
        have y0' := cellOn y0 e0
        have y1' := cellOn y1 e0
        have y2' := cellOn y2 e0
        have HC := smap_any a1 a2 _ _ _ _ l1 s1 l2 s2 _ (Sl.later strE_stable HS1.out e1) (Sl.later strE_stable HSb.out e1) (Sl.later strE_stable HSc.out e1) (Sl.later strE_stable HSd.out e1)
        have k1 := hbel.trans (e1.mono hbel.size)
        clear HS1 HSb HSc HSd
        generalize meq ⟨a1, l1, s1⟩ ⟨a2, l2, s2⟩ = q at *
        cases q
        · have HF : Hid (eqL meq l m = false) := by show _ = _; rw [HS2.out]; rfl
          clear HS2
          go_wp2_with fail
          refine HC.mono ?_
          rintro e w2 ⟨rfl, b2⟩
          have k2 := k1.trans (b2.mono k1.size)
          go_wp2_with fail
          go_ret
          exact ⟨ret_b HF.out.symm, k2⟩
        · have HF : Hid (eqL meq (l.drop (k + 1)) (m.drop (k + 1)) = eqL meq l m) := by show _ = _; rw [HS2.out]; rfl
          clear HS2
          go_wp2_with fail
          refine HC.mono ?_
          rintro e w2 ⟨rfl, b2⟩
          have k2 := k1.trans (b2.mono k1.size)
          go_wp2_with fail
          go_roundw
          case rel => exact ⟨k + 1, by omega, by go_num, HF.out, k2⟩
          case measure => simp [intOf]; omega
      · have HF : Hid (eqL meq l m = true) := by show _ = _; rw [← HA.out, eqL_end _ _ _ _ (by omega) (by rw [← HLN.out]; omega)]
        clear HA
        go_wp2_with fail
        go_ret
        exact ⟨ret_b HF.out.symm, hbel⟩
  · have hne : ((l.length : Int) != (m.length : Int)) = true := by simp; omega
    have HF : Hid (eqL meq l m = false) := eqL_len _ _ _ hlen
    clear hlen
    go_enter Tryz.func161, Tryz.ntmps161
    go_wp2_with fail
    go_ret
    exact ⟨ret_b HF.out.symm, Below.refl _ _⟩
end Cls
end Go.Proofs.YtjblmgdjaaeedaaGreat

/- The contracts of class's test whether two methods are the same. -/
namespace Go.Proofs.YtjblmgdjaaeedaaGreat
namespace Cls
open Num Kind Op4
open Go.RowKit
set_option linter.unusedVariables false
set_option maxRecDepth 100000

def headEq (x y : MethL) : Bool := (x.name.toList == y.name.toList) && (eqL seq x.params y.params && ((x.ret.toList == y.ret.toList) && ((x.static == y.static) && (x.abstract == y.abstract))))
def bodyEq (x y : MethL) : Bool := (x.locals == y.locals) && ((x.stack == y.stack) && (eqL ieq x.code y.code && (eqL meq x.maps y.maps && eqL teq x.traps y.traps)))
def methEq (x y : MethL) : Bool := headEq x y && bodyEq x y
theorem MethCells.two (w : World) (nm1 : ByteArray) (v11 : Value) (rt1 : ByteArray) (st1 ab1 : Bool) (lo1 sk1 : Int) (v71 v81 v91 : Value) (nm2 : ByteArray) (v12 : Value) (rt2 : ByteArray) (st2 ab2 : Bool) (lo2 sk2 : Int) (v72 v82 v92 : Value) (t : Nat) : MethCells ((w.alloc (.cells #[.string nm1, v11, .string rt1, .bool st1, .bool ab1, .int .i64 lo1, .int .i64 sk1, v71, v81, v91] t)).alloc (.cells #[.string nm2, v12, .string rt2, .bool st2, .bool ab2, .int .i64 lo2, .int .i64 sk2, v72, v82, v92] t)) w.heap.size nm1 v11 rt1 st1 ab1 lo1 sk1 v71 v81 v91 ∧ MethCells ((w.alloc (.cells #[.string nm1, v11, .string rt1, .bool st1, .bool ab1, .int .i64 lo1, .int .i64 sk1, v71, v81, v91] t)).alloc (.cells #[.string nm2, v12, .string rt2, .bool st2, .bool ab2, .int .i64 lo2, .int .i64 sk2, v72, v82, v92] t)) (w.heap.size + 1) nm2 v12 rt2 st2 ab2 lo2 sk2 v72 v82 v92 := by
  refine ⟨(MethCells.new w nm1 v11 rt1 st1 ab1 lo1 sk1 v71 v81 v91 t).later ((Below.refl _ _).alloc (Nat.le_refl _) _), ?_⟩
  have h := MethCells.new (w.alloc (.cells #[.string nm1, v11, .string rt1, .bool st1, .bool ab1, .int .i64 lo1, .int .i64 sk1, v71, v81, v91] t)) nm2 v12 rt2 st2 ab2 lo2 sk2 v72 v82 v92 t
  rw [alloc_size] at h
  exact h
set_option maxHeartbeats 4000000 in
theorem head_any (nm1 : ByteArray) (v11 : Value) (rt1 : ByteArray) (st1 ab1 : Bool) (lo1 sk1 : Int) (v71 v81 v91 : Value) (ps1 : List ByteArray) (cd1 : List InsL) (mp1 : List MapL) (tr1 : List TrapL) (nm2 : ByteArray) (v12 : Value) (rt2 : ByteArray) (st2 ab2 : Bool) (lo2 sk2 : Int) (v72 v82 v92 : Value) (ps2 : List ByteArray) (cd2 : List InsL) (mp2 : List MapL) (tr2 : List TrapL) (w : World) (h1 : MethV w v11 v71 v81 v91 ⟨nm1, ps1, rt1, st1, ab1, lo1, sk1, cd1, mp1, tr1⟩) (h2 : MethV w v12 v72 v82 v92 ⟨nm2, ps2, rt2, st2, ab2, lo2, sk2, cd2, mp2, tr2⟩) :
    Calls Tryz.prog 140 #[.agg #[.string nm1, v11, .string rt1, .bool st1, .bool ab1, .int .i64 lo1, .int .i64 sk1, v71, v81, v91], .agg #[.string nm2, v12, .string rt2, .bool st2, .bool ab2, .int .i64 lo2, .int .i64 sk2, v72, v82, v92]] w fun e w' => e = .returned (.bool (headEq ⟨nm1, ps1, rt1, st1, ab1, lo1, sk1, cd1, mp1, tr1⟩ ⟨nm2, ps2, rt2, st2, ab2, lo2, sk2, cd2, mp2, tr2⟩)) ∧ Below w.heap.size w w' := by
  have b00 := (Below.refl w.heap.size w).alloc (Nat.le_refl _) (.cells #[.string nm1, v11, .string rt1, .bool st1, .bool ab1, .int .i64 lo1, .int .i64 sk1, v71, v81, v91] 46)
  have b0 := b00.alloc b00.size (.cells #[.string nm2, v12, .string rt2, .bool st2, .bool ab2, .int .i64 lo2, .int .i64 sk2, v72, v82, v92] 46)
  have M := MethCells.two w nm1 v11 rt1 st1 ab1 lo1 sk1 v71 v81 v91 nm2 v12 rt2 st2 ab2 lo2 sk2 v72 v82 v92 46
  have H1 := sequal_any v11 v12 ps1 ps2 _ (h1.params.later strE_stable b0) (h2.params.later strE_stable b0)
  unfold headEq
  simp only
  clear h1 h2
  generalize eqL seq ps1 ps2 = q1 at *
  cases hq : (nm1.toList == nm2.toList)
  · clear M H1
    go_enter Tryz.func140, Tryz.ntmps140
    go_wp2_with fail
    go_ret
    exact ⟨rfl, b0⟩
  cases q1
  · clear M
    go_enter Tryz.func140, Tryz.ntmps140
    go_wp2_with fail
    refine H1.mono ?_
    rintro e w2 ⟨rfl, b2⟩
    have k2 := b0.trans (b2.mono b0.size)
    go_wp2_with fail
    go_ret
    exact ⟨rfl, k2⟩
  cases hq2 : (rt1.toList == rt2.toList)
  · go_enter Tryz.func140, Tryz.ntmps140
    go_wp2_with fail
    refine H1.mono ?_
    rintro e w2 ⟨rfl, b2⟩
    have k2 := b0.trans (b2.mono b0.size)
    obtain ⟨x0, x1, x2, x3, x4, x5, x6, x7, x8, x9⟩ := M.1.later b2
    obtain ⟨y0, y1, y2, y3, y4, y5, y6, y7, y8, y9⟩ := M.2.later b2
    go_wp2_with fail
    go_ret
    exact ⟨rfl, k2⟩
  cases hq3 : (st1 == st2)
  · go_enter Tryz.func140, Tryz.ntmps140
    go_wp2_with fail
    refine H1.mono ?_
    rintro e w2 ⟨rfl, b2⟩
    have k2 := b0.trans (b2.mono b0.size)
    obtain ⟨x0, x1, x2, x3, x4, x5, x6, x7, x8, x9⟩ := M.1.later b2
    obtain ⟨y0, y1, y2, y3, y4, y5, y6, y7, y8, y9⟩ := M.2.later b2
    go_wp2_with fail
    go_ret
    exact ⟨rfl, k2⟩
  go_enter Tryz.func140, Tryz.ntmps140
  go_wp2_with fail
  refine H1.mono ?_
  rintro e w2 ⟨rfl, b2⟩
  have k2 := b0.trans (b2.mono b0.size)
  obtain ⟨x0, x1, x2, x3, x4, x5, x6, x7, x8, x9⟩ := M.1.later b2
  obtain ⟨y0, y1, y2, y3, y4, y5, y6, y7, y8, y9⟩ := M.2.later b2
  go_wp2_with fail
  go_ret
  exact ⟨rfl, k2⟩
set_option maxHeartbeats 4000000 in
theorem body2_any (nm1 : ByteArray) (v11 : Value) (rt1 : ByteArray) (st1 ab1 : Bool) (lo1 sk1 : Int) (v71 v81 v91 : Value) (ps1 : List ByteArray) (cd1 : List InsL) (mp1 : List MapL) (tr1 : List TrapL) (nm2 : ByteArray) (v12 : Value) (rt2 : ByteArray) (st2 ab2 : Bool) (lo2 sk2 : Int) (v72 v82 v92 : Value) (ps2 : List ByteArray) (cd2 : List InsL) (mp2 : List MapL) (tr2 : List TrapL) (w : World) (h1 : MethV w v11 v71 v81 v91 ⟨nm1, ps1, rt1, st1, ab1, lo1, sk1, cd1, mp1, tr1⟩) (h2 : MethV w v12 v72 v82 v92 ⟨nm2, ps2, rt2, st2, ab2, lo2, sk2, cd2, mp2, tr2⟩) :
    Calls Tryz.prog 141 #[.agg #[.string nm1, v11, .string rt1, .bool st1, .bool ab1, .int .i64 lo1, .int .i64 sk1, v71, v81, v91], .agg #[.string nm2, v12, .string rt2, .bool st2, .bool ab2, .int .i64 lo2, .int .i64 sk2, v72, v82, v92]] w fun e w' => e = .returned (.bool (bodyEq ⟨nm1, ps1, rt1, st1, ab1, lo1, sk1, cd1, mp1, tr1⟩ ⟨nm2, ps2, rt2, st2, ab2, lo2, sk2, cd2, mp2, tr2⟩)) ∧ Below w.heap.size w w' := by
  have b00 := (Below.refl w.heap.size w).alloc (Nat.le_refl _) (.cells #[.string nm1, v11, .string rt1, .bool st1, .bool ab1, .int .i64 lo1, .int .i64 sk1, v71, v81, v91] 46)
  have b0 := b00.alloc b00.size (.cells #[.string nm2, v12, .string rt2, .bool st2, .bool ab2, .int .i64 lo2, .int .i64 sk2, v72, v82, v92] 46)
  have M := MethCells.two w nm1 v11 rt1 st1 ab1 lo1 sk1 v71 v81 v91 nm2 v12 rt2 st2 ab2 lo2 sk2 v72 v82 v92 46
  have H1 := iequal_any v71 v72 cd1 cd2 _ (h1.code.later insE_stable b0) (h2.code.later insE_stable b0)
  have H2 : Hid (∀ W, Below w.heap.size w W → _) := fun W hb => mapsEq_any v81 v82 mp1 mp2 W (h1.maps.later mapE_stable hb) (h2.maps.later mapE_stable hb)
  have H3 : Hid (∀ W, Below w.heap.size w W → _) := fun W hb => tequal_any v91 v92 tr1 tr2 W (h1.traps.later trapE_stable hb) (h2.traps.later trapE_stable hb)
  unfold bodyEq
  simp only
  clear h1 h2
  generalize eqL ieq cd1 cd2 = q1 at *
  generalize eqL meq mp1 mp2 = q2 at *
  generalize eqL teq tr1 tr2 = q3 at *
  cases hq : (lo1 == lo2)
  · clear M H1 H2 H3
    go_enter Tryz.func141, Tryz.ntmps141
    go_wp2_with fail
    go_ret
    exact ⟨rfl, b0⟩
  cases hq2 : (sk1 == sk2)
  · clear M H1 H2 H3
    go_enter Tryz.func141, Tryz.ntmps141
    go_wp2_with fail
    go_ret
    exact ⟨rfl, b0⟩
  cases q1
  · clear M H2 H3
    go_enter Tryz.func141, Tryz.ntmps141
    go_wp2_with fail
    refine H1.mono ?_
    rintro e w2 ⟨rfl, b2⟩
    have k2 := b0.trans (b2.mono b0.size)
    go_wp2_with fail
    go_ret
    exact ⟨rfl, k2⟩
  cases q2
  · clear H3
    go_enter Tryz.func141, Tryz.ntmps141
    go_wp2_with fail
    refine H1.mono ?_
    rintro e w2 ⟨rfl, b2⟩
    have k2 := b0.trans (b2.mono b0.size)
    have m2 := M.1.later b2
    have n2 := M.2.later b2
    have m2h : Hid _ := m2
    have n2h : Hid _ := n2
    obtain ⟨x0, x1, x2, x3, x4, x5, x6, x7, x8, x9⟩ := m2
    obtain ⟨y0, y1, y2, y3, y4, y5, y6, y7, y8, y9⟩ := n2
    go_wp2_with fail
    refine (H2.out _ k2).mono ?_
    rintro e w3 ⟨rfl, b3⟩
    have k3 := k2.trans (b3.mono k2.size)
    go_wp2_with fail
    go_ret
    exact ⟨rfl, k3⟩
  go_enter Tryz.func141, Tryz.ntmps141
  go_wp2_with fail
  refine H1.mono ?_
  rintro e w2 ⟨rfl, b2⟩
  have k2 := b0.trans (b2.mono b0.size)
  have m2 := M.1.later b2
  have n2 := M.2.later b2
  have m2h : Hid _ := m2
  have n2h : Hid _ := n2
  obtain ⟨x0, x1, x2, x3, x4, x5, x6, x7, x8, x9⟩ := m2
  obtain ⟨y0, y1, y2, y3, y4, y5, y6, y7, y8, y9⟩ := n2
  go_wp2_with fail
  refine (H2.out _ k2).mono ?_
  rintro e w3 ⟨rfl, b3⟩
  have k3 := k2.trans (b3.mono k2.size)
  clear x0 x1 x2 x3 x4 x5 x6 x7 x8 x9 y0 y1 y2 y3 y4 y5 y6 y7 y8 y9
  obtain ⟨x0, x1, x2, x3, x4, x5, x6, x7, x8, x9⟩ := MethCells.later m2h.out b3
  obtain ⟨y0, y1, y2, y3, y4, y5, y6, y7, y8, y9⟩ := MethCells.later n2h.out b3
  go_wp2_with fail
  refine (H3.out _ k3).mono ?_
  rintro e w4 ⟨rfl, b4⟩
  have k4 := k3.trans (b4.mono k3.size)
  go_wp2_with fail
  go_ret
  exact ⟨rfl, k4⟩
set_option maxHeartbeats 4000000 in
theorem smeth_any (nm1 : ByteArray) (v11 : Value) (rt1 : ByteArray) (st1 ab1 : Bool) (lo1 sk1 : Int) (v71 v81 v91 : Value) (ps1 : List ByteArray) (cd1 : List InsL) (mp1 : List MapL) (tr1 : List TrapL) (nm2 : ByteArray) (v12 : Value) (rt2 : ByteArray) (st2 ab2 : Bool) (lo2 sk2 : Int) (v72 v82 v92 : Value) (ps2 : List ByteArray) (cd2 : List InsL) (mp2 : List MapL) (tr2 : List TrapL) (w : World) (h1 : MethV w v11 v71 v81 v91 ⟨nm1, ps1, rt1, st1, ab1, lo1, sk1, cd1, mp1, tr1⟩) (h2 : MethV w v12 v72 v82 v92 ⟨nm2, ps2, rt2, st2, ab2, lo2, sk2, cd2, mp2, tr2⟩) :
    Calls Tryz.prog 105 #[.agg #[.string nm1, v11, .string rt1, .bool st1, .bool ab1, .int .i64 lo1, .int .i64 sk1, v71, v81, v91], .agg #[.string nm2, v12, .string rt2, .bool st2, .bool ab2, .int .i64 lo2, .int .i64 sk2, v72, v82, v92]] w fun e w' => e = .returned (.bool (methEq ⟨nm1, ps1, rt1, st1, ab1, lo1, sk1, cd1, mp1, tr1⟩ ⟨nm2, ps2, rt2, st2, ab2, lo2, sk2, cd2, mp2, tr2⟩)) ∧ Below w.heap.size w w' := by
  have b00 := (Below.refl w.heap.size w).alloc (Nat.le_refl _) (.cells #[.string nm1, v11, .string rt1, .bool st1, .bool ab1, .int .i64 lo1, .int .i64 sk1, v71, v81, v91] 46)
  have b0 := b00.alloc b00.size (.cells #[.string nm2, v12, .string rt2, .bool st2, .bool ab2, .int .i64 lo2, .int .i64 sk2, v72, v82, v92] 46)
  have M := MethCells.two w nm1 v11 rt1 st1 ab1 lo1 sk1 v71 v81 v91 nm2 v12 rt2 st2 ab2 lo2 sk2 v72 v82 v92 46
  have H1 := head_any nm1 v11 rt1 st1 ab1 lo1 sk1 v71 v81 v91 ps1 cd1 mp1 tr1 nm2 v12 rt2 st2 ab2 lo2 sk2 v72 v82 v92 ps2 cd2 mp2 tr2 _ (h1.later b0) (h2.later b0)
  have H2 : Hid (∀ W, Below w.heap.size w W → _) := fun W hb => body2_any nm1 v11 rt1 st1 ab1 lo1 sk1 v71 v81 v91 ps1 cd1 mp1 tr1 nm2 v12 rt2 st2 ab2 lo2 sk2 v72 v82 v92 ps2 cd2 mp2 tr2 W (h1.later hb) (h2.later hb)
  unfold methEq
  clear h1 h2
  generalize headEq ⟨nm1, ps1, rt1, st1, ab1, lo1, sk1, cd1, mp1, tr1⟩ ⟨nm2, ps2, rt2, st2, ab2, lo2, sk2, cd2, mp2, tr2⟩ = q1 at *
  generalize bodyEq ⟨nm1, ps1, rt1, st1, ab1, lo1, sk1, cd1, mp1, tr1⟩ ⟨nm2, ps2, rt2, st2, ab2, lo2, sk2, cd2, mp2, tr2⟩ = q2 at *
  cases q1
  · clear M H2
    go_enter Tryz.func105, Tryz.ntmps105
    go_wp2_with fail
    refine H1.mono ?_
    rintro e w2 ⟨rfl, b2⟩
    have k2 := b0.trans (b2.mono b0.size)
    go_wp2_with fail
    go_ret
    exact ⟨rfl, k2⟩
  go_enter Tryz.func105, Tryz.ntmps105
  go_wp2_with fail
  refine H1.mono ?_
  rintro e w2 ⟨rfl, b2⟩
  have k2 := b0.trans (b2.mono b0.size)
  obtain ⟨x0, x1, x2, x3, x4, x5, x6, x7, x8, x9⟩ := M.1.later b2
  obtain ⟨y0, y1, y2, y3, y4, y5, y6, y7, y8, y9⟩ := M.2.later b2
  go_wp2_with fail
  refine (H2.out _ k2).mono ?_
  rintro e w3 ⟨rfl, b3⟩
  have k3 := k2.trans (b3.mono k2.size)
  go_wp2_with fail
  go_ret
  exact ⟨rfl, k3⟩
end Cls
end Go.Proofs.YtjblmgdjaaeedaaGreat

/- The contract of class.Eq. -/
namespace Go.Proofs.YtjblmgdjaaeedaaGreat
namespace Cls
open Num Kind Op4
open Go.RowKit
set_option linter.unusedVariables false
set_option maxRecDepth 100000

set_option maxHeartbeats 4000000 in
theorem methsEq_any (v v' : Value) (l m : List MethL) (w : World) (h : Sl methE 10 w v l) (h' : Sl methE 10 w v' m) :
    Calls Tryz.prog 104 #[v, v', .func (.func 105) #[] #[]] w fun e w' => e = .returned (.bool (eqL methEq l m)) ∧ Below w.heap.size w w' := by
  have HT : Hid _ := h
  have HT' : Hid _ := h'
  obtain ⟨a, cp, rfl, hl, hm, hnil, hx⟩ := h
  obtain ⟨a', cp', rfl, hl', hm', hnil', hx'⟩ := h'
  unfold maxLen at hm hm'
  clear hx hnil hx' hnil'
  by_cases hlen : l.length = m.length
  · have hne : ((l.length : Int) != (m.length : Int)) = false := by rw [hlen]; simp
    have HLN : Hid _ := hlen
    clear hlen
    go_enter Tryz.func104, Tryz.ntmps104
    go_wp2_with fail
    go_loopw [7, 8, 9, 17] (fun _ _ _ i wr => ∃ k : Nat, k ≤ l.length ∧ i = .int .i64 k ∧ eqL methEq (l.drop k) (m.drop k) = eqL methEq l m ∧ Below w.heap.size w wr) (fun _ _ _ i _ => l.length - (intOf i).toNat)
    case atStart => exact ⟨0, by omega, rfl, rfl, Below.refl _ _⟩
    case round =>
      obtain ⟨k, hk, rfl, hp, hbel⟩ := hrel
      have HA : Hid _ := hp
      clear hp
      by_cases hlk : k < l.length
      · have hlk' : k < m.length := by rw [← HLN.out]; exact hlk
        obtain ⟨aa, cc, ev, _, _, _, hx9⟩ := Sl.later methE_stable HT.out hbel
        simp only [Value.slice.injEq, true_and] at ev
        obtain ⟨rfl, rfl⟩ := ev
        obtain ⟨b9, off9, rfl, _, hx9⟩ := hx9 (by omega)
        obtain ⟨v11, v71, v81, v91, HV1, hce1⟩ := hx9 k hlk
        obtain ⟨aa, cc, ev, _, _, _, hx8⟩ := Sl.later methE_stable HT'.out hbel
        simp only [Value.slice.injEq, true_and] at ev
        obtain ⟨rfl, rfl⟩ := ev
        obtain ⟨b8, off8, rfl, _, hx8⟩ := hx8 (by omega)
        obtain ⟨v12, v72, v82, v92, HV2, hce2⟩ := hx8 k hlk'
        have HS := eqL_step methEq l m k hlk hlk'
        rw [HA.out] at HS
        have HS2 : Hid _ := HS
        clear HS HA hx9 hx8 hne
        generalize l[k] = X at *
        generalize m[k] = Y at *
        obtain ⟨nm1, ps1, rt1, st1, ab1, lo1, sk1, cd1, mp1, tr1⟩ := X
        obtain ⟨nm2, ps2, rt2, st2, ab2, lo2, sk2, cd2, mp2, tr2⟩ := Y
        have x0 := hce1 0 (by decide)
        have x1 := hce1 1 (by decide)
        have x2 := hce1 2 (by decide)
        have x3 := hce1 3 (by decide)
        have x4 := hce1 4 (by decide)
        have x5 := hce1 5 (by decide)
        have x6 := hce1 6 (by decide)
        have x7 := hce1 7 (by decide)
        have x8 := hce1 8 (by decide)
        have x9 := hce1 9 (by decide)
        have y0 := hce2 0 (by decide)
        have y1 := hce2 1 (by decide)
        have y2 := hce2 2 (by decide)
        have y3 := hce2 3 (by decide)
        have y4 := hce2 4 (by decide)
        have y5 := hce2 5 (by decide)
        have y6 := hce2 6 (by decide)
        have y7 := hce2 7 (by decide)
        have y8 := hce2 8 (by decide)
        have y9 := hce2 9 (by decide)
        simp only [methCells, List.getElem?_toArray, List.getElem?_cons_zero, List.getElem?_cons_succ, Nat.add_zero] at x0 x1 x2 x3 x4 x5 x6 x7 x8 x9 y0 y1 y2 y3 y4 y5 y6 y7 y8 y9
        clear hce1 hce2
        have HVa : Hid _ := HV1
        have HVb : Hid _ := HV2
        obtain ⟨a11, c11, rfl, _, _, _, hz⟩ := HV1.params
        clear hz
        obtain ⟨a71, c71, rfl, _, _, _, hz⟩ := HV1.code
        clear hz
        obtain ⟨a81, c81, rfl, _, _, _, hz⟩ := HV1.maps
        clear hz
        obtain ⟨a91, c91, rfl, _, _, _, hz⟩ := HV1.traps
        clear hz
        obtain ⟨a12, c12, rfl, _, _, _, hz⟩ := HV2.params
        clear hz
        obtain ⟨a72, c72, rfl, _, _, _, hz⟩ := HV2.code
        clear hz
        obtain ⟨a82, c82, rfl, _, _, _, hz⟩ := HV2.maps
        clear hz
        obtain ⟨a92, c92, rfl, _, _, _, hz⟩ := HV2.traps
        clear hz
        simp only at x1 x7 x8 x9 y1 y7 y8 y9 HVa HVb
        clear HV1 HV2
        have e0 := (Below.refl wr.heap.size wr).alloc (Nat.le_refl _) (.cells #[.string nm1, .slice a11 ps1.length c11, .string rt1, .bool st1, .bool ab1, .int .i64 lo1, .int .i64 sk1, .slice a71 cd1.length c71, .slice a81 mp1.length c81, .slice a91 tr1.length c91] 46)
        have e1 := e0.alloc e0.size (.cells #[.string nm2, .slice a12 ps2.length c12, .string rt2, .bool st2, .bool ab2, .int .i64 lo2, .int .i64 sk2, .slice a72 cd2.length c72, .slice a82 mp2.length c82, .slice a92 tr2.length c92] 46)
        have t0 := cellOn y0 e0
        have t1 := cellOn y1 e0
        have t2 := cellOn y2 e0
        have t3 := cellOn y3 e0
        have t4 := cellOn y4 e0
        have t5 := cellOn y5 e0
        have t6 := cellOn y6 e0
        have t7 := cellOn y7 e0
        have t8 := cellOn y8 e0
        have t9 := cellOn y9 e0
        have HC := smeth_any _ _ _ _ _ _ _ _ _ _ ps1 cd1 mp1 tr1 _ _ _ _ _ _ _ _ _ _ ps2 cd2 mp2 tr2 _ (MethV.later HVa.out e1) (MethV.later HVb.out e1)
        have k1 := hbel.trans (e1.mono hbel.size)
        clear HVa HVb
        generalize methEq ⟨nm1, ps1, rt1, st1, ab1, lo1, sk1, cd1, mp1, tr1⟩ ⟨nm2, ps2, rt2, st2, ab2, lo2, sk2, cd2, mp2, tr2⟩ = q at *
        cases q
        · have HF : Hid (eqL methEq l m = false) := by show _ = _; rw [HS2.out]; rfl
          clear HS2
          go_wp2_with fail
          refine HC.mono ?_
          rintro e w2 ⟨rfl, b2⟩
          have k2 := k1.trans (b2.mono k1.size)
          go_wp2_with fail
          go_ret
          exact ⟨ret_b HF.out.symm, k2⟩
        · have HF : Hid (eqL methEq (l.drop (k + 1)) (m.drop (k + 1)) = eqL methEq l m) := by show _ = _; rw [HS2.out]; rfl
          clear HS2
          go_wp2_with fail
          refine HC.mono ?_
          rintro e w2 ⟨rfl, b2⟩
          have k2 := k1.trans (b2.mono k1.size)
          go_wp2_with fail
          go_roundw
          case rel => exact ⟨k + 1, by omega, by go_num, HF.out, k2⟩
          case measure => simp [intOf]; omega
      · have HF : Hid (eqL methEq l m = true) := by show _ = _; rw [← HA.out, eqL_end _ _ _ _ (by omega) (by rw [← HLN.out]; omega)]
        clear HA
        go_wp2_with fail
        go_ret
        exact ⟨ret_b HF.out.symm, hbel⟩
  · have hne : ((l.length : Int) != (m.length : Int)) = true := by simp; omega
    have HF : Hid (eqL methEq l m = false) := eqL_len _ _ _ hlen
    clear hlen
    go_enter Tryz.func104, Tryz.ntmps104
    go_wp2_with fail
    go_ret
    exact ⟨ret_b HF.out.symm, Below.refl _ _⟩
def clsEq (x y : ClsL) : Bool := (x.name.toList == y.name.toList) && ((x.super.toList == y.super.toList) && ((x.iface == y.iface) && (eqL seq x.impl y.impl && (eqL feq x.fields y.fields && eqL methEq x.methods y.methods))))
set_option maxHeartbeats 4000000 in
theorem ceq_any (v31 v41 v51 v32 v42 v52 : Value) (c1 c2 : ClsL) (w : World) (h1 : ClsV w v31 v41 v51 c1) (h2 : ClsV w v32 v42 v52 c2) :
    Calls Tryz.prog 70 #[clsVal v31 v41 v51 c1, clsVal v32 v42 v52 c2] w fun e w' => e = .returned (.bool (clsEq c1 c2)) ∧ Below w.heap.size w w' := by
  unfold clsVal clsEq
  obtain ⟨nm1, su1, if1, im1, fs1, ms1⟩ := c1
  obtain ⟨nm2, su2, if2, im2, fs2, ms2⟩ := c2
  simp only
  have b00 := (Below.refl w.heap.size w).alloc (Nat.le_refl _) (.cells #[.string nm1, .string su1, .bool if1, v31, v41, v51] 26)
  have b0 := b00.alloc b00.size (.cells #[.string nm2, .string su2, .bool if2, v32, v42, v52] 26)
  have H1 := sequal_any v31 v32 im1 im2 _ (h1.impl.later strE_stable b0) (h2.impl.later strE_stable b0)
  have H2 : Hid (∀ W, Below w.heap.size w W → _) := fun W hb => fequal_any v41 v42 fs1 fs2 W (h1.fields.later fieldE_stable hb) (h2.fields.later fieldE_stable hb)
  have H3 : Hid (∀ W, Below w.heap.size w W → _) := fun W hb => methsEq_any v51 v52 ms1 ms2 W (h1.methods.later methE_stable hb) (h2.methods.later methE_stable hb)
  have x4 := cell_new w #[.string nm1, .string su1, .bool if1, v31, v41, v51] 26 4
  have x5 := cell_new w #[.string nm1, .string su1, .bool if1, v31, v41, v51] 26 5
  have y4 := cell_new (w.alloc (.cells #[.string nm1, .string su1, .bool if1, v31, v41, v51] 26)) #[.string nm2, .string su2, .bool if2, v32, v42, v52] 26 4
  have y5 := cell_new (w.alloc (.cells #[.string nm1, .string su1, .bool if1, v31, v41, v51] 26)) #[.string nm2, .string su2, .bool if2, v32, v42, v52] 26 5
  simp only [List.getElem?_toArray, List.getElem?_cons_zero, List.getElem?_cons_succ] at x4 x5 y4 y5
  rw [alloc_size] at y4 y5
  replace x4 := cellOn x4 ((Below.refl _ _).alloc (Nat.le_refl _) (.cells #[.string nm2, .string su2, .bool if2, v32, v42, v52] 26))
  replace x5 := cellOn x5 ((Below.refl _ _).alloc (Nat.le_refl _) (.cells #[.string nm2, .string su2, .bool if2, v32, v42, v52] 26))
  clear h1 h2
  generalize eqL seq im1 im2 = q1 at *
  generalize eqL feq fs1 fs2 = q2 at *
  generalize eqL methEq ms1 ms2 = q3 at *
  cases hq : (nm1.toList == nm2.toList)
  · clear x4 x5 y4 y5 H1 H2 H3
    go_enter Tryz.func70, Tryz.ntmps70
    go_wp2_with fail
    go_ret
    exact ⟨rfl, b0⟩
  cases hq2 : (su1.toList == su2.toList)
  · clear x4 x5 y4 y5 H1 H2 H3
    go_enter Tryz.func70, Tryz.ntmps70
    go_wp2_with fail
    go_ret
    exact ⟨rfl, b0⟩
  cases hq3 : (if1 == if2)
  · clear x4 x5 y4 y5 H1 H2 H3
    go_enter Tryz.func70, Tryz.ntmps70
    go_wp2_with fail
    go_ret
    exact ⟨rfl, b0⟩
  cases q1
  · clear x4 x5 y4 y5 H2 H3
    go_enter Tryz.func70, Tryz.ntmps70
    go_wp2_with fail
    refine H1.mono ?_
    rintro e w2 ⟨rfl, b2⟩
    have k2 := b0.trans (b2.mono b0.size)
    go_wp2_with fail
    go_ret
    exact ⟨rfl, k2⟩
  cases q2
  · clear H3
    go_enter Tryz.func70, Tryz.ntmps70
    go_wp2_with fail
    refine H1.mono ?_
    rintro e w2 ⟨rfl, b2⟩
    have k2 := b0.trans (b2.mono b0.size)
    replace x4 := cellOn x4 b2
    replace y4 := cellOn y4 b2
    replace x5 := cellOn x5 b2
    replace y5 := cellOn y5 b2
    go_wp2_with fail
    refine (H2.out _ k2).mono ?_
    rintro e w3 ⟨rfl, b3⟩
    have k3 := k2.trans (b3.mono k2.size)
    go_wp2_with fail
    go_ret
    exact ⟨rfl, k3⟩
  go_enter Tryz.func70, Tryz.ntmps70
  go_wp2_with fail
  refine H1.mono ?_
  rintro e w2 ⟨rfl, b2⟩
  have k2 := b0.trans (b2.mono b0.size)
  replace x4 := cellOn x4 b2
  replace y4 := cellOn y4 b2
  replace x5 := cellOn x5 b2
  replace y5 := cellOn y5 b2
  go_wp2_with fail
  refine (H2.out _ k2).mono ?_
  rintro e w3 ⟨rfl, b3⟩
  have k3 := k2.trans (b3.mono k2.size)
  replace x5 := cellOn x5 b3
  replace y5 := cellOn y5 b3
  go_wp2_with fail
  refine (H3.out _ k3).mono ?_
  rintro e w4 ⟨rfl, b4⟩
  have k4 := k3.trans (b4.mono k3.size)
  go_wp2_with fail
  go_ret
  exact ⟨rfl, k4⟩
end Cls
end Go.Proofs.YtjblmgdjaaeedaaGreat
