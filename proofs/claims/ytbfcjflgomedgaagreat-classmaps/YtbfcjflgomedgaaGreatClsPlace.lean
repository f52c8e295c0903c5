/- The contracts of the document's own places of fields and methods. -/
import Derived.Test.YtbfcjflgomedgaaGreatClsMem
namespace Go.Proofs.YtbfcjflgomedgaaGreat
namespace Cls
open Num Kind Op4
open Go.RowKit
set_option linter.unusedVariables false

set_option maxRecDepth 100000 in
set_option maxHeartbeats 2000000 in
theorem field_any (v3 v4 v5 : Value) (c : ClsL) (n : ByteArray) (w : World) (h : ClsV w v3 v4 v5 c) (hn : n.size ≤ maxLen) :
    Calls Tryz.prog 20 #[clsVal v3 v4 v5 c, .string n] w fun e w' => e = .returned (.int .i64 (fieldP c n)) ∧ Below w.heap.size w w' := by
  unfold clsVal
  have b0 := (Below.refl w.heap.size w).alloc (Nat.le_refl _) (.cells #[.string c.name, .string c.super, .bool c.iface, v3, v4, v5] 28)
  obtain ⟨a, cp, rfl, hl, hm, hnil, hx⟩ := h.fields.later fieldE_stable b0
  unfold fieldP
  generalize hF : c.fields = F at *
  unfold maxLen at hm
  rcases Nat.eq_zero_or_pos F.length with h0 | h0
  · obtain rfl : F = [] := List.eq_nil_of_length_eq_zero h0
    simp only [List.length_nil, place] at *
    go_enter Tryz.func20, Tryz.ntmps20
    go_wp2_with fail
    refine wp_loop_rounds 1 ?_
    rw [rounds_succ]
    go_wp2_with fail
    go_ret
    exact ⟨rfl, b0⟩
  · obtain ⟨b, off, rfl, hlt, hx⟩ := hx h0
    have HX : Hid _ := hx
    clear hx hnil h hF
    go_enter Tryz.func20, Tryz.ntmps20
    go_wp2_with fail
    go_loop [5] (fun i => ∃ k : Nat, k ≤ F.length ∧ i = .int .i64 k ∧ place (fun f : FieldL => f.name.toList == n.toList) k (F.drop k) = place (fun f : FieldL => f.name.toList == n.toList) 0 F) (fun i => F.length - (intOf i).toNat)
    case atStart => exact ⟨0, by omega, rfl, rfl⟩
    case round =>
      obtain ⟨k, hk, rfl, hp⟩ := hrel
      by_cases hlk : k < F.length
      · have e := HX.out k hlk
        obtain ⟨c0, c1, c2, _, _⟩ := e
        rw [place_step _ F k hlk] at hp
        have HP : Hid _ := hp
        clear hp
        generalize F[k].name = X at *
        cases hq : (X.toList == n.toList)
        · have HP2 : Hid (place (fun f : FieldL => f.name.toList == n.toList) (k + 1) (F.drop (k + 1)) = place (fun f : FieldL => f.name.toList == n.toList) 0 F) := by
            have := HP.out
            rw [hq] at this
            exact this
          clear HP
          go_wp2_with fail
          go_round
          case rel => exact ⟨k + 1, by omega, by go_num, HP2.out⟩
          case measure => simp [intOf]; omega
        · have HP2 : Hid ((k : Int) = place (fun f : FieldL => f.name.toList == n.toList) 0 F) := by
            have := HP.out
            rw [hq] at this
            exact this
          clear HP
          go_wp2_with fail
          go_ret
          exact ⟨ret_int HP2.out.symm, b0⟩
      · rw [place_end _ F k (by omega)] at hp
        have HP : Hid _ := hp
        clear hp
        go_wp2_with fail
        go_ret
        exact ⟨ret_int HP.out.symm, b0⟩
set_option maxRecDepth 100000 in
set_option maxHeartbeats 2000000 in
theorem method_any (v3 v4 v5 : Value) (c : ClsL) (n : ByteArray) (w : World) (h : ClsV w v3 v4 v5 c) (hn : n.size ≤ maxLen) :
    Calls Tryz.prog 21 #[clsVal v3 v4 v5 c, .string n] w fun e w' => e = .returned (.int .i64 (methodP c n)) ∧ Below w.heap.size w w' := by
  unfold clsVal
  have b0 := (Below.refl w.heap.size w).alloc (Nat.le_refl _) (.cells #[.string c.name, .string c.super, .bool c.iface, v3, v4, v5] 28)
  obtain ⟨a, cp, rfl, hl, hm, hnil, hx⟩ := h.methods.later methE_stable b0
  unfold methodP
  generalize hF : c.methods = F at *
  unfold maxLen at hm
  rcases Nat.eq_zero_or_pos F.length with h0 | h0
  · obtain rfl : F = [] := List.eq_nil_of_length_eq_zero h0
    simp only [List.length_nil, place] at *
    go_enter Tryz.func21, Tryz.ntmps21
    go_wp2_with fail
    refine wp_loop_rounds 1 ?_
    rw [rounds_succ]
    go_wp2_with fail
    go_ret
    exact ⟨rfl, b0⟩
  · obtain ⟨b, off, rfl, hlt, hx⟩ := hx h0
    have HX : Hid _ := hx
    clear hx hnil h hF
    go_enter Tryz.func21, Tryz.ntmps21
    go_wp2_with fail
    go_loop [5] (fun i => ∃ k : Nat, k ≤ F.length ∧ i = .int .i64 k ∧ place (fun f : MethL => f.name.toList == n.toList) k (F.drop k) = place (fun f : MethL => f.name.toList == n.toList) 0 F) (fun i => F.length - (intOf i).toNat)
    case atStart => exact ⟨0, by omega, rfl, rfl⟩
    case round =>
      obtain ⟨k, hk, rfl, hp⟩ := hrel
      by_cases hlk : k < F.length
      · have e := HX.out k hlk
        obtain ⟨_, _, _, _, _, hce⟩ := e
        have c0 := hce 0 (by decide)
        simp only [methCells, List.getElem?_toArray, List.getElem?_cons_zero, Nat.add_zero] at c0
        clear hce
        rw [place_step _ F k hlk] at hp
        have HP : Hid _ := hp
        clear hp
        generalize F[k].name = X at *
        cases hq : (X.toList == n.toList)
        · have HP2 : Hid (place (fun f : MethL => f.name.toList == n.toList) (k + 1) (F.drop (k + 1)) = place (fun f : MethL => f.name.toList == n.toList) 0 F) := by
            have := HP.out
            rw [hq] at this
            exact this
          clear HP
          go_wp2_with fail
          go_round
          case rel => exact ⟨k + 1, by omega, by go_num, HP2.out⟩
          case measure => simp [intOf]; omega
        · have HP2 : Hid ((k : Int) = place (fun f : MethL => f.name.toList == n.toList) 0 F) := by
            have := HP.out
            rw [hq] at this
            exact this
          clear HP
          go_wp2_with fail
          go_ret
          exact ⟨ret_int HP2.out.symm, b0⟩
      · rw [place_end _ F k (by omega)] at hp
        have HP : Hid _ := hp
        clear hp
        go_wp2_with fail
        go_ret
        exact ⟨ret_int HP.out.symm, b0⟩
end Cls
end Go.Proofs.YtbfcjflgomedgaaGreat
