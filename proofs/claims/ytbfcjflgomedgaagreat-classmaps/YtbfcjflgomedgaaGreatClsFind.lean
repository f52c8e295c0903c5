/- The contracts of class's places of names. -/
import Derived.Test.YtbfcjflgomedgaaGreatClsCode
namespace Go.Proofs.YtbfcjflgomedgaaGreat
namespace Cls
open Num Kind Op4
open Go.RowKit
set_option linter.unusedVariables false
set_option maxRecDepth 100000

theorem fclo_any (nm ty : ByteArray) (st : Bool) (B : Nat) (n : ByteArray) (w : World) (hB : w.cell? ⟨B, 0, none⟩ = some (.string n)) :
    Calls Tryz.prog 53 #[.agg #[.string nm, .string ty, .bool st], .pointer (some ⟨B, 0, none⟩)] w fun e w' => e = .returned (.bool (nm.toList == n.toList)) ∧ Below w.heap.size w w' := by
  have b0 := (Below.refl w.heap.size w).alloc (Nat.le_refl _) (.cells #[.string nm, .string ty, .bool st] 45)
  have c0 := cellOn hB b0
  go_enter Tryz.func53, Tryz.ntmps53
  go_wp2_with fail
  go_ret
  exact ⟨rfl, b0⟩
theorem mclo_any (nm : ByteArray) (v1 : Value) (rt : ByteArray) (st ab : Bool) (lo sk : Int) (v7 v8 v9 : Value) (B : Nat) (n : ByteArray) (w : World) (hB : w.cell? ⟨B, 0, none⟩ = some (.string n)) :
    Calls Tryz.prog 51 #[.agg #[.string nm, v1, .string rt, .bool st, .bool ab, .int .i64 lo, .int .i64 sk, v7, v8, v9], .pointer (some ⟨B, 0, none⟩)] w fun e w' => e = .returned (.bool (nm.toList == n.toList)) ∧ Below w.heap.size w w' := by
  have b0 := (Below.refl w.heap.size w).alloc (Nat.le_refl _) (.cells #[.string nm, v1, .string rt, .bool st, .bool ab, .int .i64 lo, .int .i64 sk, v7, v8, v9] 35)
  have c0 := cellOn hB b0
  go_enter Tryz.func51, Tryz.ntmps51
  go_wp2_with fail
  go_ret
  exact ⟨rfl, b0⟩
set_option maxHeartbeats 2000000 in
theorem findex_any (v : Value) (F : List FieldL) (B : Nat) (n : ByteArray) (w : World) (h : Sl fieldE 3 w v F) (hB : w.cell? ⟨B, 0, none⟩ = some (.string n)) :
    Calls Tryz.prog 52 #[v, .func (.func 53) #[] #[.pointer (some ⟨B, 0, none⟩)]] w fun e w' => e = .returned (.int .i64 (fplace F n)) ∧ Below w.heap.size w w' := by
  have HT : Hid _ := h
  obtain ⟨a, cp, rfl, hl, hm, hnil, hx⟩ := h
  unfold maxLen at hm
  unfold fplace
  clear hx hnil
  go_enter Tryz.func52, Tryz.ntmps52
  go_wp2_with fail
  go_loopw [5, 8] (fun _ i wr => ∃ k : Nat, k ≤ F.length ∧ i = .int .i64 k ∧ place (fun f : FieldL => f.name.toList == n.toList) k (F.drop k) = place (fun f : FieldL => f.name.toList == n.toList) 0 F ∧ Below w.heap.size w wr) (fun _ i _ => F.length - (intOf i).toNat)
  case atStart => exact ⟨0, by omega, rfl, rfl, Below.refl _ _⟩
  case round =>
    obtain ⟨k, hk, rfl, hp, hbel⟩ := hrel
    have HA : Hid _ := hp
    clear hp
    by_cases hlk : k < F.length
    · obtain ⟨aa, cc, ev, _, _, _, hx9⟩ := Sl.later fieldE_stable HT.out hbel
      simp only [Value.slice.injEq, true_and] at ev
      obtain ⟨rfl, rfl⟩ := ev
      obtain ⟨b9, off9, rfl, _, hx9⟩ := hx9 (by omega)
      obtain ⟨x0, x1, x2, s0, s1⟩ := hx9 k hlk
      have HS := place_step (fun f : FieldL => f.name.toList == n.toList) F k hlk
      rw [HA.out] at HS
      have HS2 : Hid _ := HS
      clear HS HA hx9
      have HC := fclo_any F[k].name F[k].type F[k].static B n wr (cellOn hB hbel)
      generalize F[k] = X at *
      obtain ⟨nm, ty, st⟩ := X
      simp only at x0 x1 x2 HC HS2
      generalize (nm.toList == n.toList) = q at *
      cases q
      · have HF : Hid (place (fun f : FieldL => f.name.toList == n.toList) (k + 1) (F.drop (k + 1)) = place (fun f : FieldL => f.name.toList == n.toList) 0 F) := by show _ = _; exact HS2.out.symm
        clear HS2
        go_wp2_with fail
        refine HC.mono ?_
        rintro e w2 ⟨rfl, b2⟩
        have k2 := hbel.trans (b2.mono hbel.size)
        go_wp2_with fail
        go_roundw
        case rel => exact ⟨k + 1, by omega, by go_num, HF.out, k2⟩
        case measure => simp [intOf]; omega
      · have HF : Hid (place (fun f : FieldL => f.name.toList == n.toList) 0 F = (k : Int)) := by show _ = _; exact HS2.out
        clear HS2
        go_wp2_with fail
        refine HC.mono ?_
        rintro e w2 ⟨rfl, b2⟩
        have k2 := hbel.trans (b2.mono hbel.size)
        go_wp2_with fail
        go_ret
        exact ⟨ret_int HF.out, k2⟩
    · have HF : Hid (place (fun f : FieldL => f.name.toList == n.toList) 0 F = -1) := by show _ = _; rw [← HA.out, place_end _ _ _ (by omega)]
      clear HA
      go_wp2_with fail
      go_ret
      exact ⟨ret_int HF.out, hbel⟩
set_option maxHeartbeats 2000000 in
theorem mindex_any (v : Value) (F : List MethL) (B : Nat) (n : ByteArray) (w : World) (h : Sl methE 10 w v F) (hB : w.cell? ⟨B, 0, none⟩ = some (.string n)) :
    Calls Tryz.prog 50 #[v, .func (.func 51) #[] #[.pointer (some ⟨B, 0, none⟩)]] w fun e w' => e = .returned (.int .i64 (mplace F n)) ∧ Below w.heap.size w w' := by
  have HT : Hid _ := h
  obtain ⟨a, cp, rfl, hl, hm, hnil, hx⟩ := h
  unfold maxLen at hm
  unfold mplace
  clear hx hnil
  go_enter Tryz.func50, Tryz.ntmps50
  go_wp2_with fail
  go_loopw [5, 8] (fun _ i wr => ∃ k : Nat, k ≤ F.length ∧ i = .int .i64 k ∧ place (fun f : MethL => f.name.toList == n.toList) k (F.drop k) = place (fun f : MethL => f.name.toList == n.toList) 0 F ∧ Below w.heap.size w wr) (fun _ i _ => F.length - (intOf i).toNat)
  case atStart => exact ⟨0, by omega, rfl, rfl, Below.refl _ _⟩
  case round =>
    obtain ⟨k, hk, rfl, hp, hbel⟩ := hrel
    have HA : Hid _ := hp
    clear hp
    by_cases hlk : k < F.length
    · obtain ⟨aa, cc, ev, _, _, _, hx9⟩ := Sl.later methE_stable HT.out hbel
      simp only [Value.slice.injEq, true_and] at ev
      obtain ⟨rfl, rfl⟩ := ev
      obtain ⟨b9, off9, rfl, _, hx9⟩ := hx9 (by omega)
      obtain ⟨v1, v7, v8, v9, _, hce⟩ := hx9 k hlk
      have HS := place_step (fun f : MethL => f.name.toList == n.toList) F k hlk
      rw [HA.out] at HS
      have HS2 : Hid _ := HS
      clear HS HA hx9
      generalize F[k] = X at *
      obtain ⟨nm, ps, rt, st, ab, lo, sk, code, maps, traps⟩ := X
      have x0 := hce 0 (by decide)
      have x1 := hce 1 (by decide)
      have x2 := hce 2 (by decide)
      have x3 := hce 3 (by decide)
      have x4 := hce 4 (by decide)
      have x5 := hce 5 (by decide)
      have x6 := hce 6 (by decide)
      have x7 := hce 7 (by decide)
      have x8 := hce 8 (by decide)
      have x9 := hce 9 (by decide)
      simp only [methCells, List.getElem?_toArray, List.getElem?_cons_zero, List.getElem?_cons_succ, Nat.add_zero] at x0 x1 x2 x3 x4 x5 x6 x7 x8 x9
      have HC := mclo_any nm v1 rt st ab lo sk v7 v8 v9 B n wr (cellOn hB hbel)
      simp only at HS2
      clear hce
      generalize (nm.toList == n.toList) = q at *
      cases q
      · have HF : Hid (place (fun f : MethL => f.name.toList == n.toList) (k + 1) (F.drop (k + 1)) = place (fun f : MethL => f.name.toList == n.toList) 0 F) := by show _ = _; exact HS2.out.symm
        clear HS2
        go_wp2_with fail
        refine HC.mono ?_
        rintro e w2 ⟨rfl, b2⟩
        have k2 := hbel.trans (b2.mono hbel.size)
        go_wp2_with fail
        go_roundw
        case rel => exact ⟨k + 1, by omega, by go_num, HF.out, k2⟩
        case measure => simp [intOf]; omega
      · have HF : Hid (place (fun f : MethL => f.name.toList == n.toList) 0 F = (k : Int)) := by show _ = _; exact HS2.out
        clear HS2
        go_wp2_with fail
        refine HC.mono ?_
        rintro e w2 ⟨rfl, b2⟩
        have k2 := hbel.trans (b2.mono hbel.size)
        go_wp2_with fail
        go_ret
        exact ⟨ret_int HF.out, k2⟩
    · have HF : Hid (place (fun f : MethL => f.name.toList == n.toList) 0 F = -1) := by show _ = _; rw [← HA.out, place_end _ _ _ (by omega)]
      clear HA
      go_wp2_with fail
      go_ret
      exact ⟨ret_int HF.out, hbel⟩
set_option maxHeartbeats 2000000 in
theorem sindex_any (v : Value) (F : List ByteArray) (n : ByteArray) (w : World) (h : Sl strE 1 w v F) :
    Calls Tryz.prog 32 #[v, .string n] w fun e w' => e = .returned (.int .i64 (splace F n)) ∧ w = w' := by
  have HT : Hid _ := h
  obtain ⟨a, cp, rfl, hl, hm, hnil, hx⟩ := h
  unfold maxLen at hm
  unfold splace
  clear hx hnil
  go_enter Tryz.func32, Tryz.ntmps32
  go_wp2_with fail
  go_loop [5, 8] (fun _ i => ∃ k : Nat, k ≤ F.length ∧ i = .int .i64 k ∧ place (fun f : ByteArray => n.toList == f.toList) k (F.drop k) = place (fun f : ByteArray => n.toList == f.toList) 0 F) (fun _ i => F.length - (intOf i).toNat)
  case atStart => exact ⟨0, by omega, rfl, rfl⟩
  case round =>
    obtain ⟨k, hk, rfl, hp⟩ := hrel
    have HA : Hid _ := hp
    clear hp
    by_cases hlk : k < F.length
    · obtain ⟨aa, cc, ev, _, _, _, hx9⟩ := HT.out
      simp only [Value.slice.injEq, true_and] at ev
      obtain ⟨rfl, rfl⟩ := ev
      obtain ⟨b9, off9, rfl, _, hx9⟩ := hx9 (by omega)
      obtain ⟨x0, s0⟩ := hx9 k hlk
      simp only [Nat.mul_one] at x0
      have HS := place_step (fun f : ByteArray => n.toList == f.toList) F k hlk
      rw [HA.out] at HS
      have HS2 : Hid _ := HS
      clear HS HA hx9
      generalize F[k] = X at *
      cases hq : (n.toList == X.toList)
      · have HF : Hid (place (fun f : ByteArray => n.toList == f.toList) (k + 1) (F.drop (k + 1)) = place (fun f : ByteArray => n.toList == f.toList) 0 F) := by
          show _ = _
          have := HS2.out
          rw [hq] at this
          exact this.symm
        clear HS2
        go_wp2_with fail
        go_round
        case rel => exact ⟨k + 1, by omega, by go_num, HF.out⟩
        case measure => simp [intOf]; omega
      · have HF : Hid (place (fun f : ByteArray => n.toList == f.toList) 0 F = (k : Int)) := by
          show _ = _
          have := HS2.out
          rw [hq] at this
          exact this
        clear HS2
        go_wp2_with fail
        go_ret
        exact ⟨ret_int HF.out, rfl⟩
    · have HF : Hid (place (fun f : ByteArray => n.toList == f.toList) 0 F = -1) := by show _ = _; rw [← HA.out, place_end _ _ _ (by omega)]
      clear HA
      go_wp2_with fail
      go_ret
      exact ⟨ret_int HF.out, rfl⟩
theorem fieldOf_any (v : Value) (F : List FieldL) (n : ByteArray) (w : World) (h : Sl fieldE 3 w v F) :
    Calls Tryz.prog 29 #[v, .string n] w fun e w' => e = .returned (.int .i64 (fplace F n)) ∧ Below w.heap.size w w' := by
  have b0 := (Below.refl w.heap.size w).alloc (Nat.le_refl _) (.cells #[.string n] 9)
  have c0 := cell_new w #[.string n] 9 0
  simp only [List.getElem?_toArray, List.getElem?_cons_zero] at c0
  have H := findex_any v F w.heap.size n _ (h.later fieldE_stable b0) c0
  have hmf : ∀ (fn : Fn) (first cap : Array Value) (w : World), (Instr.makeFunc fn first cap).run Tryz.prog w = .ok (.func fn first cap) w := fun _ _ _ _ => rfl
  go_enter Tryz.func29, Tryz.ntmps29
  go_wp2_with fail
  refine H.mono ?_
  rintro e w2 ⟨rfl, b2⟩
  have k2 := b0.trans (b2.mono b0.size)
  go_wp2_with fail
  go_ret
  exact ⟨rfl, k2⟩
theorem methodOf_any (v : Value) (F : List MethL) (n : ByteArray) (w : World) (h : Sl methE 10 w v F) :
    Calls Tryz.prog 28 #[v, .string n] w fun e w' => e = .returned (.int .i64 (mplace F n)) ∧ Below w.heap.size w w' := by
  have b0 := (Below.refl w.heap.size w).alloc (Nat.le_refl _) (.cells #[.string n] 9)
  have c0 := cell_new w #[.string n] 9 0
  simp only [List.getElem?_toArray, List.getElem?_cons_zero] at c0
  have H := mindex_any v F w.heap.size n _ (h.later methE_stable b0) c0
  have hmf : ∀ (fn : Fn) (first cap : Array Value) (w : World), (Instr.makeFunc fn first cap).run Tryz.prog w = .ok (.func fn first cap) w := fun _ _ _ _ => rfl
  go_enter Tryz.func28, Tryz.ntmps28
  go_wp2_with fail
  refine H.mono ?_
  rintro e w2 ⟨rfl, b2⟩
  have k2 := b0.trans (b2.mono b0.size)
  go_wp2_with fail
  go_ret
  exact ⟨rfl, k2⟩
theorem cfield_any (v3 v4 v5 : Value) (c : ClsL) (n : ByteArray) (w : World) (h : ClsV w v3 v4 v5 c) :
    Calls Tryz.prog 11 #[clsVal v3 v4 v5 c, .string n] w fun e w' => e = .returned (.int .i64 (fplace c.fields n)) ∧ Below w.heap.size w w' := by
  unfold clsVal
  have b0 := (Below.refl w.heap.size w).alloc (Nat.le_refl _) (.cells #[.string c.name, .string c.super, .bool c.iface, v3, v4, v5] 28)
  have H := fieldOf_any v4 c.fields n _ (h.fields.later fieldE_stable b0)
  go_enter Tryz.func11, Tryz.ntmps11
  go_wp2_with fail
  refine H.mono ?_
  rintro e w2 ⟨rfl, b2⟩
  have k2 := b0.trans (b2.mono b0.size)
  go_wp2_with fail
  go_ret
  exact ⟨rfl, k2⟩
theorem cmethod_any (v3 v4 v5 : Value) (c : ClsL) (n : ByteArray) (w : World) (h : ClsV w v3 v4 v5 c) :
    Calls Tryz.prog 10 #[clsVal v3 v4 v5 c, .string n] w fun e w' => e = .returned (.int .i64 (mplace c.methods n)) ∧ Below w.heap.size w w' := by
  unfold clsVal
  have b0 := (Below.refl w.heap.size w).alloc (Nat.le_refl _) (.cells #[.string c.name, .string c.super, .bool c.iface, v3, v4, v5] 28)
  have H := methodOf_any v5 c.methods n _ (h.methods.later methE_stable b0)
  go_enter Tryz.func10, Tryz.ntmps10
  go_wp2_with fail
  refine H.mono ?_
  rintro e w2 ⟨rfl, b2⟩
  have k2 := b0.trans (b2.mono b0.size)
  go_wp2_with fail
  go_ret
  exact ⟨rfl, k2⟩
end Cls
end Go.Proofs.YtbfcjflgomedgaaGreat
