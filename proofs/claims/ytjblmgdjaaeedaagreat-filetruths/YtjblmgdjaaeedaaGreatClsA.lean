/- Contracts and laws, texts of mine put into one. -/
import Derived.Test.YtjblmgdjaaeedaaGreatClsMay
import Derived.Test.YtjblmgdjaaeedaaGreatOpCode
import Derived.Deep.RegionWith
/- The contracts of package class's small functions. -/
namespace Go.Proofs.YtjblmgdjaaeedaaGreat
namespace Cls
open Num Kind Op4
open Go.RowKit
set_option linter.unusedVariables false
set_option maxRecDepth 100000

theorem all_step {α : Type} (p : α → Bool) (l : List α) (k : Nat) (h : k < l.length) : (l.drop k).all p = (p l[k] && (l.drop (k + 1)).all p) := by
  rw [List.drop_eq_getElem_cons h]
  rfl
theorem all_end {α : Type} (p : α → Bool) (l : List α) (k : Nat) (h : l.length ≤ k) : (l.drop k).all p = true := by
  rw [List.drop_eq_nil_of_le h]
  rfl
theorem within_any (n lo hi : Int) (w : World) : Calls Tryz.prog 143 #[.int .i64 n, .int .i64 lo, .int .i64 hi] w fun e w' => e = .returned (.bool (withinB n lo hi)) ∧ w = w' := by
  by_cases h1 : lo ≤ n
  · have e0 : withinB n lo hi = decide (n ≤ hi) := by unfold withinB; simp [h1]
    rw [e0]
    clear e0
    go_enter Tryz.func143, Tryz.ntmps143
    go_wp2_with fail
    go_ret
    exact ⟨rfl, rfl⟩
  · have e0 : withinB n lo hi = false := by unfold withinB; simp; omega
    rw [e0]
    clear e0
    go_enter Tryz.func143, Tryz.ntmps143
    go_wp2_with fail
    go_ret
    exact ⟨rfl, rfl⟩
theorem value_any (s : ByteArray) (w : World) (hs : s.size ≤ maxLen) : Calls Tryz.prog 165 #[.string s] w fun e w' => e = .returned (.bool (valueB s)) ∧ w = w' := by
  have h1 := beq_nums s [73] [73] rfl
  have h2 := beq_nums s [78] [78] rfl
  have H := fun W => kref_any s W hs
  unfold valueB
  generalize (nums s == [73]) = p at *
  generalize (nums s == [78]) = q at *
  generalize refB (nums s) = r at *
  cases p <;> cases q
  all_goals
    go_enter Tryz.func165, Tryz.ntmps165
    go_wp2_with (go_at_call 170; refine (H _).mono ?_; rintro e w' ⟨rfl, rfl⟩)
    go_ret
    exact ⟨ret_b (by simp), rfl⟩
set_option maxHeartbeats 1000000 in
theorem trap_any (f t u : Int) (c : ByteArray) (n : Int) (w : World) (hc : c.size ≤ maxLen) (hn : 0 ≤ n) (hn2 : n ≤ 1000) :
    Calls Tryz.prog 144 #[.agg #[.int .i64 f, .int .i64 t, .int .i64 u, .string c], .int .i64 n] w fun e w' => e = .returned (.bool (trapP n ⟨f, t, u, c⟩)) ∧ Below w.heap.size w w' := by
  have hce := empty_nums c
  have hsub : IntKind.i64.wrap (n - 1) = n - 1 := IntWalk.i64_in _ (by omega)
  have HW := fun W => within_any u 0 (n - 1) W
  have HC := fun W => kclass_any c W hc
  unfold trapP
  simp only
  generalize (nums c == []) = em at *
  generalize classB (nums c) = cb at *
  generalize withinB u 0 (n - 1) = q at *
  by_cases h0 : 0 ≤ f
  · by_cases h1 : f < t
    · by_cases h2 : t ≤ n
      · cases q
        · go_enter Tryz.func144, Tryz.ntmps144
          go_wp2_with (go_at_call 143; refine (HW _).mono ?_; rintro e w' ⟨rfl, rfl⟩)
          go_ret
          exact ⟨ret_b (by simp), (Below.refl _ _).alloc (Nat.le_refl _) _⟩
        · cases em
          · go_enter Tryz.func144, Tryz.ntmps144
            go_wp2_with (first | (go_at_call 143; refine (HW _).mono ?_; rintro e w' ⟨rfl, rfl⟩) | (go_at_call 44; refine (HC _).mono ?_; rintro e w' ⟨rfl, rfl⟩))
            go_ret
            exact ⟨ret_b (by simp [h0, h1, h2]), (Below.refl _ _).alloc (Nat.le_refl _) _⟩
          · go_enter Tryz.func144, Tryz.ntmps144
            go_wp2_with (go_at_call 143; refine (HW _).mono ?_; rintro e w' ⟨rfl, rfl⟩)
            go_ret
            exact ⟨ret_b (by simp [h0, h1, h2]), (Below.refl _ _).alloc (Nat.le_refl _) _⟩
      · go_enter Tryz.func144, Tryz.ntmps144
        go_wp2_with fail
        go_ret
        exact ⟨ret_b (by simp; intros; omega), (Below.refl _ _).alloc (Nat.le_refl _) _⟩
    · go_enter Tryz.func144, Tryz.ntmps144
      go_wp2_with fail
      go_ret
      exact ⟨ret_b (by simp; intros; omega), (Below.refl _ _).alloc (Nat.le_refl _) _⟩
  · go_enter Tryz.func144, Tryz.ntmps144
    go_wp2_with fail
    go_ret
    exact ⟨ret_b (by simp; intros; omega), (Below.refl _ _).alloc (Nat.le_refl _) _⟩
set_option maxHeartbeats 1000000 in
theorem params_any (v : Value) (l : List ByteArray) (w : World) (h : Sl strE 1 w v l) : Calls Tryz.prog 112 #[v] w fun e w' => e = .returned (.bool (paramsP l)) ∧ w = w' := by
  obtain ⟨a, cp, rfl, hl, hm, hnil, hx⟩ := h
  unfold maxLen at hm
  unfold paramsP
  by_cases h6 : l.length ≤ 6
  · have HX : Hid _ := hx
    clear hx hnil
    go_enter Tryz.func112, Tryz.ntmps112
    go_wp2_with fail
    go_loop [4, 10] (fun _ i => ∃ k : Nat, k ≤ l.length ∧ i = .int .i64 k ∧ (l.drop k).all (fun p => mayB (nums p)) = l.all fun p => mayB (nums p)) (fun _ i => l.length - (intOf i).toNat)
    case atStart => exact ⟨0, by omega, rfl, rfl⟩
    case round =>
      obtain ⟨k, hk, rfl, hall⟩ := hrel
      have HA : Hid _ := hall
      clear hall
      by_cases hlk : k < l.length
      · obtain ⟨b, off, rfl, _, hx⟩ := HX.out (by omega)
        obtain ⟨c0, c1⟩ := hx k hlk
        have HS := all_step (fun p => mayB (nums p)) l k hlk
        rw [HA.out] at HS
        have HS2 : Hid _ := HS
        have HM := fun W => kmay_any l[k] W c1
        clear HS hx HX HA
        simp only [Nat.mul_one] at c0
        generalize l[k] = X at *
        generalize mayB (nums X) = q at *
        cases q
        · have HF : Hid (l.all (fun p => mayB (nums p)) = false) := by show _ = _; rw [HS2.out]; rfl
          clear HS2
          go_wp2_with (go_at_call 109; refine (HM _).mono ?_; rintro e w' ⟨rfl, rfl⟩)
          go_ret
          exact ⟨ret_b (by rw [HF.out]; simp), rfl⟩
        · have HF : Hid ((l.drop (k + 1)).all (fun p => mayB (nums p)) = l.all fun p => mayB (nums p)) := by show _ = _; rw [HS2.out]; simp
          clear HS2
          go_wp2_with (go_at_call 109; refine (HM _).mono ?_; rintro e w' ⟨rfl, rfl⟩)
          go_round
          case rel => exact ⟨k + 1, by omega, by go_num, HF.out⟩
          case measure => simp [intOf]; omega
      · have HF : Hid (l.all (fun p => mayB (nums p)) = true) := by show _ = _; rw [← HA.out, all_end _ _ _ (by omega)]
        clear HA
        go_wp2_with fail
        go_ret
        exact ⟨ret_b (by rw [HF.out]), rfl⟩
  · clear hx hnil
    go_enter Tryz.func112, Tryz.ntmps112
    go_wp2_with fail
    go_ret
    exact ⟨ret_b (by simp [h6]), rfl⟩
end Cls
end Go.Proofs.YtjblmgdjaaeedaaGreat

/- The contracts of class's places of names. -/
namespace Go.Proofs.YtjblmgdjaaeedaaGreat
namespace Cls
open Num Kind Op4
open Go.RowKit
set_option linter.unusedVariables false
set_option maxRecDepth 100000

theorem fclo_any (nm ty : ByteArray) (st : Bool) (B : Nat) (n : ByteArray) (w : World) (hB : w.cell? ⟨B, 0, none⟩ = some (.string n)) :
    Calls Tryz.prog 111 #[.agg #[.string nm, .string ty, .bool st], .pointer (some ⟨B, 0, none⟩)] w fun e w' => e = .returned (.bool (nm.toList == n.toList)) ∧ Below w.heap.size w w' := by
  have b0 := (Below.refl w.heap.size w).alloc (Nat.le_refl _) (.cells #[.string nm, .string ty, .bool st] 40)
  have c0 := cellOn hB b0
  go_enter Tryz.func111, Tryz.ntmps111
  go_wp2_with fail
  go_ret
  exact ⟨rfl, b0⟩
theorem mclo_any (nm : ByteArray) (v1 : Value) (rt : ByteArray) (st ab : Bool) (lo sk : Int) (v7 v8 v9 : Value) (B : Nat) (n : ByteArray) (w : World) (hB : w.cell? ⟨B, 0, none⟩ = some (.string n)) :
    Calls Tryz.prog 121 #[.agg #[.string nm, v1, .string rt, .bool st, .bool ab, .int .i64 lo, .int .i64 sk, v7, v8, v9], .pointer (some ⟨B, 0, none⟩)] w fun e w' => e = .returned (.bool (nm.toList == n.toList)) ∧ Below w.heap.size w w' := by
  have b0 := (Below.refl w.heap.size w).alloc (Nat.le_refl _) (.cells #[.string nm, v1, .string rt, .bool st, .bool ab, .int .i64 lo, .int .i64 sk, v7, v8, v9] 46)
  have c0 := cellOn hB b0
  go_enter Tryz.func121, Tryz.ntmps121
  go_wp2_with fail
  go_ret
  exact ⟨rfl, b0⟩
set_option maxHeartbeats 2000000 in
theorem findex_any (v : Value) (F : List FieldL) (B : Nat) (n : ByteArray) (w : World) (h : Sl fieldE 3 w v F) (hB : w.cell? ⟨B, 0, none⟩ = some (.string n)) :
    Calls Tryz.prog 110 #[v, .func (.func 111) #[] #[.pointer (some ⟨B, 0, none⟩)]] w fun e w' => e = .returned (.int .i64 (fplace F n)) ∧ Below w.heap.size w w' := by
  have HT : Hid _ := h
  obtain ⟨a, cp, rfl, hl, hm, hnil, hx⟩ := h
  unfold maxLen at hm
  unfold fplace
  clear hx hnil
  go_enter Tryz.func110, Tryz.ntmps110
  go_wp2_with fail
  go_loopw [5, 8] (fun _ i wr => ∃ k : Nat, k ≤ F.length ∧ i = .int .i64 k ∧ place (fun f : FieldL => f.name.toList == n.toList) k (F.drop k) = place (fun f : FieldL => f.name.toList == n.toList) 0 F ∧ Below w.heap.size w wr) (fun _ i _ => F.length - (intOf i).toNat)
  case atStart => exact ⟨0, by omega, rfl, rfl, Below.refl _ _⟩
  case round =>
    obtain ⟨k, hk, rfl, hp, hbel⟩ := hrel
    have HA : Hid _ := hp
    clear hp
    by_cases hlk : k < F.length
    · obtain ⟨aa, cc, ev, _, _, _, hx9⟩ := Sl.later fieldE_stable HT.out hbel
      simp only [Value.slice.injEq, true_and] at ev
      obtain ⟨rfl, rfl⟩ := ev
      obtain ⟨b9, off9, rfl, _, hx9⟩ := hx9 (by omega)
      obtain ⟨x0, x1, x2, s0, s1⟩ := hx9 k hlk
      have HS := place_step (fun f : FieldL => f.name.toList == n.toList) F k hlk
      rw [HA.out] at HS
      have HS2 : Hid _ := HS
      clear HS HA hx9
      have HC := fclo_any F[k].name F[k].type F[k].static B n wr (cellOn hB hbel)
      generalize F[k] = X at *
      obtain ⟨nm, ty, st⟩ := X
      simp only at x0 x1 x2 HC HS2
      generalize (nm.toList == n.toList) = q at *
      cases q
      · have HF : Hid (place (fun f : FieldL => f.name.toList == n.toList) (k + 1) (F.drop (k + 1)) = place (fun f : FieldL => f.name.toList == n.toList) 0 F) := by show _ = _; exact HS2.out.symm
        clear HS2
        go_wp2_with fail
        refine HC.mono ?_
        rintro e w2 ⟨rfl, b2⟩
        have k2 := hbel.trans (b2.mono hbel.size)
        go_wp2_with fail
        go_roundw
        case rel => exact ⟨k + 1, by omega, by go_num, HF.out, k2⟩
        case measure => simp [intOf]; omega
      · have HF : Hid (place (fun f : FieldL => f.name.toList == n.toList) 0 F = (k : Int)) := by show _ = _; exact HS2.out
        clear HS2
        go_wp2_with fail
        refine HC.mono ?_
        rintro e w2 ⟨rfl, b2⟩
        have k2 := hbel.trans (b2.mono hbel.size)
        go_wp2_with fail
        go_ret
        exact ⟨ret_int HF.out, k2⟩
    · have HF : Hid (place (fun f : FieldL => f.name.toList == n.toList) 0 F = -1) := by show _ = _; rw [← HA.out, place_end _ _ _ (by omega)]
      clear HA
      go_wp2_with fail
      go_ret
      exact ⟨ret_int HF.out, hbel⟩
set_option maxHeartbeats 2000000 in
theorem mindex_any (v : Value) (F : List MethL) (B : Nat) (n : ByteArray) (w : World) (h : Sl methE 10 w v F) (hB : w.cell? ⟨B, 0, none⟩ = some (.string n)) :
    Calls Tryz.prog 120 #[v, .func (.func 121) #[] #[.pointer (some ⟨B, 0, none⟩)]] w fun e w' => e = .returned (.int .i64 (mplace F n)) ∧ Below w.heap.size w w' := by
  have HT : Hid _ := h
  obtain ⟨a, cp, rfl, hl, hm, hnil, hx⟩ := h
  unfold maxLen at hm
  unfold mplace
  clear hx hnil
  go_enter Tryz.func120, Tryz.ntmps120
  go_wp2_with fail
  go_loopw [5, 8] (fun _ i wr => ∃ k : Nat, k ≤ F.length ∧ i = .int .i64 k ∧ place (fun f : MethL => f.name.toList == n.toList) k (F.drop k) = place (fun f : MethL => f.name.toList == n.toList) 0 F ∧ Below w.heap.size w wr) (fun _ i _ => F.length - (intOf i).toNat)
  case atStart => exact ⟨0, by omega, rfl, rfl, Below.refl _ _⟩
  case round =>
    obtain ⟨k, hk, rfl, hp, hbel⟩ := hrel
    have HA : Hid _ := hp
    clear hp
    by_cases hlk : k < F.length
    · obtain ⟨aa, cc, ev, _, _, _, hx9⟩ := Sl.later methE_stable HT.out hbel
      simp only [Value.slice.injEq, true_and] at ev
      obtain ⟨rfl, rfl⟩ := ev
      obtain ⟨b9, off9, rfl, _, hx9⟩ := hx9 (by omega)
      obtain ⟨v1, v7, v8, v9, _, hce⟩ := hx9 k hlk
      have HS := place_step (fun f : MethL => f.name.toList == n.toList) F k hlk
      rw [HA.out] at HS
      have HS2 : Hid _ := HS
      clear HS HA hx9
      generalize F[k] = X at *
      obtain ⟨nm, ps, rt, st, ab, lo, sk, code, maps, traps⟩ := X
      have x0 := hce 0 (by decide)
      have x1 := hce 1 (by decide)
      have x2 := hce 2 (by decide)
      have x3 := hce 3 (by decide)
      have x4 := hce 4 (by decide)
      have x5 := hce 5 (by decide)
      have x6 := hce 6 (by decide)
      have x7 := hce 7 (by decide)
      have x8 := hce 8 (by decide)
      have x9 := hce 9 (by decide)
      simp only [methCells, List.getElem?_toArray, List.getElem?_cons_zero, List.getElem?_cons_succ, Nat.add_zero] at x0 x1 x2 x3 x4 x5 x6 x7 x8 x9
      have HC := mclo_any nm v1 rt st ab lo sk v7 v8 v9 B n wr (cellOn hB hbel)
      simp only at HS2
      clear hce
      generalize (nm.toList == n.toList) = q at *
      cases q
      · have HF : Hid (place (fun f : MethL => f.name.toList == n.toList) (k + 1) (F.drop (k + 1)) = place (fun f : MethL => f.name.toList == n.toList) 0 F) := by show _ = _; exact HS2.out.symm
        clear HS2
        go_wp2_with fail
        refine HC.mono ?_
        rintro e w2 ⟨rfl, b2⟩
        have k2 := hbel.trans (b2.mono hbel.size)
        go_wp2_with fail
        go_roundw
        case rel => exact ⟨k + 1, by omega, by go_num, HF.out, k2⟩
        case measure => simp [intOf]; omega
      · have HF : Hid (place (fun f : MethL => f.name.toList == n.toList) 0 F = (k : Int)) := by show _ = _; exact HS2.out
        clear HS2
        go_wp2_with fail
        refine HC.mono ?_
        rintro e w2 ⟨rfl, b2⟩
        have k2 := hbel.trans (b2.mono hbel.size)
        go_wp2_with fail
        go_ret
        exact ⟨ret_int HF.out, k2⟩
    · have HF : Hid (place (fun f : MethL => f.name.toList == n.toList) 0 F = -1) := by show _ = _; rw [← HA.out, place_end _ _ _ (by omega)]
      clear HA
      go_wp2_with fail
      go_ret
      exact ⟨ret_int HF.out, hbel⟩
set_option maxHeartbeats 2000000 in
theorem sindex_any (v : Value) (F : List ByteArray) (n : ByteArray) (w : World) (h : Sl strE 1 w v F) :
    Calls Tryz.prog 75 #[v, .string n] w fun e w' => e = .returned (.int .i64 (splace F n)) ∧ w = w' := by
  have HT : Hid _ := h
  obtain ⟨a, cp, rfl, hl, hm, hnil, hx⟩ := h
  unfold maxLen at hm
  unfold splace
  clear hx hnil
  go_enter Tryz.func75, Tryz.ntmps75
  go_wp2_with fail
  go_loop [5, 8] (fun _ i => ∃ k : Nat, k ≤ F.length ∧ i = .int .i64 k ∧ place (fun f : ByteArray => n.toList == f.toList) k (F.drop k) = place (fun f : ByteArray => n.toList == f.toList) 0 F) (fun _ i => F.length - (intOf i).toNat)
  case atStart => exact ⟨0, by omega, rfl, rfl⟩
  case round =>
    obtain ⟨k, hk, rfl, hp⟩ := hrel
    have HA : Hid _ := hp
    clear hp
    by_cases hlk : k < F.length
    · obtain ⟨aa, cc, ev, _, _, _, hx9⟩ := HT.out
      simp only [Value.slice.injEq, true_and] at ev
      obtain ⟨rfl, rfl⟩ := ev
      obtain ⟨b9, off9, rfl, _, hx9⟩ := hx9 (by omega)
      obtain ⟨x0, s0⟩ := hx9 k hlk
      simp only [Nat.mul_one] at x0
      have HS := place_step (fun f : ByteArray => n.toList == f.toList) F k hlk
      rw [HA.out] at HS
      have HS2 : Hid _ := HS
      clear HS HA hx9
      generalize F[k] = X at *
      cases hq : (n.toList == X.toList)
      · have HF : Hid (place (fun f : ByteArray => n.toList == f.toList) (k + 1) (F.drop (k + 1)) = place (fun f : ByteArray => n.toList == f.toList) 0 F) := by
          show _ = _
          have := HS2.out
          rw [hq] at this
          exact this.symm
        clear HS2
        go_wp2_with fail
        go_round
        case rel => exact ⟨k + 1, by omega, by go_num, HF.out⟩
        case measure => simp [intOf]; omega
      · have HF : Hid (place (fun f : ByteArray => n.toList == f.toList) 0 F = (k : Int)) := by
          show _ = _
          have := HS2.out
          rw [hq] at this
          exact this
        clear HS2
        go_wp2_with fail
        go_ret
        exact ⟨ret_int HF.out, rfl⟩
    · have HF : Hid (place (fun f : ByteArray => n.toList == f.toList) 0 F = -1) := by show _ = _; rw [← HA.out, place_end _ _ _ (by omega)]
      clear HA
      go_wp2_with fail
      go_ret
      exact ⟨ret_int HF.out, rfl⟩
theorem fieldOf_any (v : Value) (F : List FieldL) (n : ByteArray) (w : World) (h : Sl fieldE 3 w v F) :
    Calls Tryz.prog 77 #[v, .string n] w fun e w' => e = .returned (.int .i64 (fplace F n)) ∧ Below w.heap.size w w' := by
  have b0 := (Below.refl w.heap.size w).alloc (Nat.le_refl _) (.cells #[.string n] 9)
  have c0 := cell_new w #[.string n] 9 0
  simp only [List.getElem?_toArray, List.getElem?_cons_zero] at c0
  have H := findex_any v F w.heap.size n _ (h.later fieldE_stable b0) c0
  have hmf : ∀ (fn : Fn) (first cap : Array Value) (w : World), (Instr.makeFunc fn first cap).run Tryz.prog w = .ok (.func fn first cap) w := fun _ _ _ _ => rfl
  go_enter Tryz.func77, Tryz.ntmps77
  go_wp2_with fail
  refine H.mono ?_
  rintro e w2 ⟨rfl, b2⟩
  have k2 := b0.trans (b2.mono b0.size)
  go_wp2_with fail
  go_ret
  exact ⟨rfl, k2⟩
theorem methodOf_any (v : Value) (F : List MethL) (n : ByteArray) (w : World) (h : Sl methE 10 w v F) :
    Calls Tryz.prog 79 #[v, .string n] w fun e w' => e = .returned (.int .i64 (mplace F n)) ∧ Below w.heap.size w w' := by
  have b0 := (Below.refl w.heap.size w).alloc (Nat.le_refl _) (.cells #[.string n] 9)
  have c0 := cell_new w #[.string n] 9 0
  simp only [List.getElem?_toArray, List.getElem?_cons_zero] at c0
  have H := mindex_any v F w.heap.size n _ (h.later methE_stable b0) c0
  have hmf : ∀ (fn : Fn) (first cap : Array Value) (w : World), (Instr.makeFunc fn first cap).run Tryz.prog w = .ok (.func fn first cap) w := fun _ _ _ _ => rfl
  go_enter Tryz.func79, Tryz.ntmps79
  go_wp2_with fail
  refine H.mono ?_
  rintro e w2 ⟨rfl, b2⟩
  have k2 := b0.trans (b2.mono b0.size)
  go_wp2_with fail
  go_ret
  exact ⟨rfl, k2⟩
theorem cfield_any (v3 v4 v5 : Value) (c : ClsL) (n : ByteArray) (w : World) (h : ClsV w v3 v4 v5 c) :
    Calls Tryz.prog 72 #[clsVal v3 v4 v5 c, .string n] w fun e w' => e = .returned (.int .i64 (fplace c.fields n)) ∧ Below w.heap.size w w' := by
  unfold clsVal
  have b0 := (Below.refl w.heap.size w).alloc (Nat.le_refl _) (.cells #[.string c.name, .string c.super, .bool c.iface, v3, v4, v5] 26)
  have H := fieldOf_any v4 c.fields n _ (h.fields.later fieldE_stable b0)
  go_enter Tryz.func72, Tryz.ntmps72
  go_wp2_with fail
  refine H.mono ?_
  rintro e w2 ⟨rfl, b2⟩
  have k2 := b0.trans (b2.mono b0.size)
  go_wp2_with fail
  go_ret
  exact ⟨rfl, k2⟩
theorem cmethod_any (v3 v4 v5 : Value) (c : ClsL) (n : ByteArray) (w : World) (h : ClsV w v3 v4 v5 c) :
    Calls Tryz.prog 71 #[clsVal v3 v4 v5 c, .string n] w fun e w' => e = .returned (.int .i64 (mplace c.methods n)) ∧ Below w.heap.size w w' := by
  unfold clsVal
  have b0 := (Below.refl w.heap.size w).alloc (Nat.le_refl _) (.cells #[.string c.name, .string c.super, .bool c.iface, v3, v4, v5] 26)
  have H := methodOf_any v5 c.methods n _ (h.methods.later methE_stable b0)
  go_enter Tryz.func71, Tryz.ntmps71
  go_wp2_with fail
  refine H.mono ?_
  rintro e w2 ⟨rfl, b2⟩
  have k2 := b0.trans (b2.mono b0.size)
  go_wp2_with fail
  go_ret
  exact ⟨rfl, k2⟩
end Cls
end Go.Proofs.YtjblmgdjaaeedaaGreat

/- The contracts of class's tests of Maps. -/
namespace Go.Proofs.YtjblmgdjaaeedaaGreat
namespace Cls
open Num Kind Op4
open Go.RowKit
set_option linter.unusedVariables false
set_option maxRecDepth 100000

set_option maxHeartbeats 4000000 in
theorem stand_any (at0 : Int) (u1 u2 : Value) (los sts : List ByteArray) (nm rt : ByteArray) (st ab : Bool) (lo sk : Int) (v1 v7 v8 v9 : Value) (w : World) (hL : Sl strE 1 w u1 los) (hS : Sl strE 1 w u2 sts) :
    Calls Tryz.prog 145 #[.agg #[.int .i64 at0, u1, u2], .agg #[.string nm, v1, .string rt, .bool st, .bool ab, .int .i64 lo, .int .i64 sk, v7, v8, v9]] w fun e w' => e = .returned (.bool (standB lo sk ⟨at0, los, sts⟩)) ∧ Below w.heap.size w w' := by
  have b00 := (Below.refl w.heap.size w).alloc (Nat.le_refl _) (.cells #[.int .i64 at0, u1, u2] 50)
  have b0 := b00.alloc b00.size (.cells #[.string nm, v1, .string rt, .bool st, .bool ab, .int .i64 lo, .int .i64 sk, v7, v8, v9] 46)
  have HL : Hid _ := hL.later strE_stable b0
  have HS : Hid _ := hS.later strE_stable b0
  obtain ⟨aL, cL, rfl, hlL, hmL, _, hxL⟩ := hL
  obtain ⟨aS, cS, rfl, hlS, hmS, _, hxS⟩ := hS
  unfold maxLen at hmL hmS
  clear hxL hxS
  unfold standB
  simp only
  by_cases h1 : (los.length : Int) = lo
  · by_cases h2 : (sts.length : Int) ≤ sk
    · have e1 : (decide ((los.length : Int) = lo) && decide ((sts.length : Int) ≤ sk)) = true := by simp [h1, h2]
      have h1' : (((los.length : Int)) != lo) = false := by simp [h1]
      rw [e1, Bool.true_and]
      clear e1 h1
      go_enter Tryz.func145, Tryz.ntmps145
      go_wp2_with fail
      go_loop [6, 26] (fun _ i => ∃ k : Nat, k ≤ los.length ∧ i = .int .i64 k ∧ (los.drop k).all locB = los.all locB) (fun _ i => los.length - (intOf i).toNat)
      case atStart => exact ⟨0, by omega, rfl, rfl⟩
      case round =>
        obtain ⟨k, hk, rfl, hall⟩ := hrel
        have HA : Hid _ := hall
        clear hall
        by_cases hlk : k < los.length
        · obtain ⟨aa, cc, ev, _, _, _, hx9⟩ := HL.out
          simp only [Value.slice.injEq, true_and] at ev
          obtain ⟨rfl, rfl⟩ := ev
          obtain ⟨b9, off9, rfl, _, hx9⟩ := hx9 (by omega)
          obtain ⟨c0, c1⟩ := hx9 k hlk
          have HP := all_step locB los k hlk
          rw [HA.out] at HP
          have HP2 : Hid _ := HP
          have HV := fun W => value_any los[k] W c1
          have h84 := beq_nums los[k] [84] [84] rfl
          have HLB : Hid (locB los[k] = ((nums los[k] == [84]) || valueB los[k])) := rfl
          clear HP hx9 HA
          simp only [Nat.mul_one] at c0
          generalize los[k] = X at *
          generalize (nums X == [84]) = p at *
          generalize valueB X = q at *
          cases p
          · cases q
            · have HF : Hid (los.all locB = false) := by show _ = _; rw [HP2.out, HLB.out]; rfl
              clear HP2 HLB
              go_wp2_with (go_at_call 165; refine (HV _).mono ?_; rintro e w' ⟨rfl, rfl⟩)
              go_ret
              exact ⟨ret_b (by rw [HF.out]; rfl), b0⟩
            · have HF : Hid ((los.drop (k + 1)).all locB = los.all locB) := by show _ = _; rw [HP2.out, HLB.out]; simp
              clear HP2 HLB
              go_wp2_with (go_at_call 165; refine (HV _).mono ?_; rintro e w' ⟨rfl, rfl⟩)
              go_round
              case rel => exact ⟨k + 1, by omega, by go_num, HF.out⟩
              case measure => simp [intOf]; omega
          · have HF : Hid ((los.drop (k + 1)).all locB = los.all locB) := by show _ = _; rw [HP2.out, HLB.out]; simp
            clear HP2 HLB
            go_wp2_with fail
            go_round
            case rel => exact ⟨k + 1, by omega, by go_num, HF.out⟩
            case measure => simp [intOf]; omega
        · have HF : Hid (los.all locB = true) := by show _ = _; rw [← HA.out, all_end _ _ _ (by omega)]
          clear HA
          go_wp2_with fail
          go_loop [8, 41] (fun _ i => ∃ k : Nat, k ≤ sts.length ∧ i = .int .i64 k ∧ (sts.drop k).all valueB = sts.all valueB) (fun _ i => sts.length - (intOf i).toNat)
          case atStart => exact ⟨0, by omega, rfl, rfl⟩
          case round =>
            obtain ⟨k2, hk2, rfl, hall⟩ := hrel
            have HA : Hid _ := hall
            clear hall
            by_cases hlk2 : k2 < sts.length
            · obtain ⟨aa, cc, ev, _, _, _, hx9⟩ := HS.out
              simp only [Value.slice.injEq, true_and] at ev
              obtain ⟨rfl, rfl⟩ := ev
              obtain ⟨b9, off9, rfl, _, hx9⟩ := hx9 (by omega)
              obtain ⟨c0, c1⟩ := hx9 k2 hlk2
              have HP := all_step valueB sts k2 hlk2
              rw [HA.out] at HP
              have HP2 : Hid _ := HP
              have HV := fun W => value_any sts[k2] W c1
              clear HP hx9 HA
              simp only [Nat.mul_one] at c0
              generalize sts[k2] = X at *
              generalize valueB X = q at *
              cases q
              · have HF2 : Hid (sts.all valueB = false) := by show _ = _; rw [HP2.out]; rfl
                clear HP2
                go_wp2_with (go_at_call 165; refine (HV _).mono ?_; rintro e w' ⟨rfl, rfl⟩)
                go_ret
                exact ⟨ret_b (by rw [HF.out, HF2.out]; rfl), b0⟩
              · have HF2 : Hid ((sts.drop (k2 + 1)).all valueB = sts.all valueB) := by show _ = _; rw [HP2.out]; simp
                clear HP2
                go_wp2_with (go_at_call 165; refine (HV _).mono ?_; rintro e w' ⟨rfl, rfl⟩)
                go_round
                case rel => exact ⟨k2 + 1, by omega, by go_num, HF2.out⟩
                case measure => simp [intOf]; omega
            · have HF2 : Hid (sts.all valueB = true) := by show _ = _; rw [← HA.out, all_end _ _ _ (by omega)]
              clear HA
              go_wp2_with fail
              go_ret
              exact ⟨ret_b (by rw [HF.out, HF2.out]; rfl), b0⟩
    · have e1 : (decide ((los.length : Int) = lo) && decide ((sts.length : Int) ≤ sk)) = false := by simp [h2]
      have h1' : (((los.length : Int)) != lo) = false := by simp [h1]
      rw [e1, Bool.false_and]
      clear e1 h1
      go_enter Tryz.func145, Tryz.ntmps145
      go_wp2_with fail
      go_ret
      exact ⟨rfl, b0⟩
  · have e1 : (decide ((los.length : Int) = lo) && decide ((sts.length : Int) ≤ sk)) = false := by simp [h1]
    have h1' : (((los.length : Int)) != lo) = true := by simp [h1]
    rw [e1, Bool.false_and]
    clear e1 h1
    go_enter Tryz.func145, Tryz.ntmps145
    go_wp2_with fail
    go_ret
    exact ⟨rfl, b0⟩
end Cls
end Go.Proofs.YtjblmgdjaaeedaaGreat

/- The contract of class's test of a method's Maps. -/
namespace Go.Proofs.YtjblmgdjaaeedaaGreat
namespace Cls
open Num Kind Op4
open Go.RowKit
set_option linter.unusedVariables false
set_option maxRecDepth 100000

theorem mapsP_step (n : Nat) (lo sk least : Int) (l : List MapL) (k : Nat) (h : k < l.length) : mapsP n lo sk least (l.drop k) = ((withinB l[k].at' least ((n : Int) - 1) && standB lo sk l[k]) && mapsP n lo sk (l[k].at' + 1) (l.drop (k + 1))) := by
  rw [List.drop_eq_getElem_cons h]
  rfl
theorem mapsP_end (n : Nat) (lo sk least : Int) (l : List MapL) (k : Nat) (h : l.length ≤ k) : mapsP n lo sk least (l.drop k) = true := by
  rw [List.drop_eq_nil_of_le h]
  rfl
structure MethCells (w : World) (B : Nat) (nm : ByteArray) (v1 : Value) (rt : ByteArray) (st ab : Bool) (lo sk : Int) (v7 v8 v9 : Value) : Prop where
  c0 : w.cell? ⟨B, 0, none⟩ = some (.string nm)
  c1 : w.cell? ⟨B, 1, none⟩ = some v1
  c2 : w.cell? ⟨B, 2, none⟩ = some (.string rt)
  c3 : w.cell? ⟨B, 3, none⟩ = some (.bool st)
  c4 : w.cell? ⟨B, 4, none⟩ = some (.bool ab)
  c5 : w.cell? ⟨B, 5, none⟩ = some (.int .i64 lo)
  c6 : w.cell? ⟨B, 6, none⟩ = some (.int .i64 sk)
  c7 : w.cell? ⟨B, 7, none⟩ = some v7
  c8 : w.cell? ⟨B, 8, none⟩ = some v8
  c9 : w.cell? ⟨B, 9, none⟩ = some v9
theorem MethCells.later {w w' : World} {B : Nat} {nm : ByteArray} {v1 : Value} {rt : ByteArray} {st ab : Bool} {lo sk : Int} {v7 v8 v9 : Value} (h : MethCells w B nm v1 rt st ab lo sk v7 v8 v9) (hb : Below w.heap.size w w') : MethCells w' B nm v1 rt st ab lo sk v7 v8 v9 :=
  ⟨cellOn h.c0 hb, cellOn h.c1 hb, cellOn h.c2 hb, cellOn h.c3 hb, cellOn h.c4 hb, cellOn h.c5 hb, cellOn h.c6 hb, cellOn h.c7 hb, cellOn h.c8 hb, cellOn h.c9 hb⟩
theorem MethCells.new (w : World) (nm : ByteArray) (v1 : Value) (rt : ByteArray) (st ab : Bool) (lo sk : Int) (v7 v8 v9 : Value) (t : Nat) : MethCells (w.alloc (.cells #[.string nm, v1, .string rt, .bool st, .bool ab, .int .i64 lo, .int .i64 sk, v7, v8, v9] t)) w.heap.size nm v1 rt st ab lo sk v7 v8 v9 :=
  ⟨cell_new _ _ _ 0, cell_new _ _ _ 1, cell_new _ _ _ 2, cell_new _ _ _ 3, cell_new _ _ _ 4, cell_new _ _ _ 5, cell_new _ _ _ 6, cell_new _ _ _ 7, cell_new _ _ _ 8, cell_new _ _ _ 9⟩

set_option maxHeartbeats 4000000 in
theorem maps_any (nm rt : ByteArray) (st ab : Bool) (lo sk : Int) (v1 v7 v8 v9 : Value) (code : List InsL) (l : List MapL) (w : World) (h7 : Sl insE 4 w v7 code) (h8 : Sl mapE 3 w v8 l) (hn : code.length ≤ 100) :
    Calls Tryz.prog 119 #[.agg #[.string nm, v1, .string rt, .bool st, .bool ab, .int .i64 lo, .int .i64 sk, v7, v8, v9]] w fun e w' => e = .returned (.bool (decide (l.length ≤ 100) && mapsP code.length lo sk 0 l)) ∧ Below w.heap.size w w' := by
  have b0 := (Below.refl w.heap.size w).alloc (Nat.le_refl _) (.cells #[.string nm, v1, .string rt, .bool st, .bool ab, .int .i64 lo, .int .i64 sk, v7, v8, v9] 46)
  have M := MethCells.new w nm v1 rt st ab lo sk v7 v8 v9 46
  have HT : Hid _ := h8
  obtain ⟨a8, cp8, rfl, hl8, hm8, _, hx8⟩ := h8
  obtain ⟨a7, cp7, rfl, hl7, hm7, _, hx7⟩ := h7
  unfold maxLen at hm7 hm8
  clear hx7 hx8
  generalize hcn : code.length = n at *
  clear hcn
  have hsub : IntKind.i64.wrap ((n : Int) - 1) = (n : Int) - 1 := IntWalk.i64_in _ (by omega)
  by_cases h6 : l.length ≤ 100
  · have h6' : (decide (l.length ≤ 100)) = true := by simpa using h6
    rw [h6', Bool.true_and]
    go_enter Tryz.func119, Tryz.ntmps119
    go_wp2_with fail
    go_loopw [3, 5, 13] (fun ls _ i wr => ∃ (k : Nat) (least : Int), 0 ≤ least ∧ k ≤ l.length ∧ i = .int .i64 k ∧ ls = .int .i64 least ∧ mapsP n lo sk least (l.drop k) = mapsP n lo sk 0 l ∧ MethCells wr w.heap.size nm v1 rt st ab lo sk (.slice a7 n cp7) (.slice a8 l.length cp8) v9 ∧ Below w.heap.size w wr) (fun _ _ i _ => l.length - (intOf i).toNat)
    case atStart => exact ⟨0, 0, by omega, by omega, rfl, rfl, rfl, M, b0⟩
    case round =>
      clear M b0
      obtain ⟨k, least, hls, hk, rfl, rfl, hall, M, hbel⟩ := hrel
      have HA : Hid _ := hall
      clear hall
      have HM : Hid _ := M
      obtain ⟨c0, c1, c2, c3, c4, c5, c6, c7, c8, c9⟩ := M
      by_cases hlk : k < l.length
      · obtain ⟨aa, cc, ev, _, _, _, hx9⟩ := Sl.later mapE_stable HT.out hbel
        simp only [Value.slice.injEq, true_and] at ev
        obtain ⟨rfl, rfl⟩ := ev
        obtain ⟨b9, off9, rfl, _, hx9⟩ := hx9 (by omega)
        obtain ⟨u1, u2, x0, x1, x2, S1, S2⟩ := hx9 k hlk
        have HS := mapsP_step n lo sk least l k hlk
        rw [HA.out] at HS
        have HS2 : Hid _ := HS
        clear HS HA hx9
        generalize l[k] = X at *
        obtain ⟨at0, los, sts⟩ := X
        simp only at x0 x1 x2 S1 S2 HS2
        have HS1 : Hid _ := S1
        have HS3 : Hid _ := S2
        obtain ⟨aL, cL, rfl, _, _, _, _⟩ := S1
        obtain ⟨aS, cS, rfl, _, _, _, _⟩ := S2
        have e1 := (Below.refl wr.heap.size wr).alloc (Nat.le_refl _) (.cells #[.int .i64 at0, (.slice aL los.length cL), (.slice aS sts.length cS)] 50)
        have HST := stand_any at0 (.slice aL los.length cL) (.slice aS sts.length cS) los sts nm rt st ab lo sk v1 (.slice a7 n cp7) (.slice (some ⟨b9, off9, none⟩) l.length cp8) v9 _ (Sl.later strE_stable HS1.out e1) (Sl.later strE_stable HS3.out e1)
        have HMM := HM.out.later e1
        have x0' := cell_new wr #[.int .i64 at0, (.slice aL los.length cL), (.slice aS sts.length cS)] 50 0
        have x1' := cell_new wr #[.int .i64 at0, (.slice aL los.length cL), (.slice aS sts.length cS)] 50 1
        have x2' := cell_new wr #[.int .i64 at0, (.slice aL los.length cL), (.slice aS sts.length cS)] 50 2
        simp only [List.getElem?_toArray, List.getElem?_cons_succ, List.getElem?_cons_zero] at x0' x1' x2'
        have HWI := fun W => within_any at0 least ((n : Int) - 1) W
        have HB : Hid (withinB at0 least ((n : Int) - 1) = true → 0 ≤ at0 ∧ at0 < 1000) := fun hh => by unfold withinB at hh; simp at hh; omega
        obtain ⟨d0, d1, d2, d3, d4, d5, d6, d7, d8, d9⟩ := HMM
        have k1 := hbel.trans (e1.mono hbel.size)
        have HK : Hid _ := HM.out.later e1
        clear HS1 HS3 HM
        generalize withinB at0 least ((n : Int) - 1) = q1 at *
        generalize standB lo sk ⟨at0, los, sts⟩ = q2 at *
        cases q1
        · have HF : Hid (mapsP n lo sk 0 l = false) := by show _ = _; rw [HS2.out]; rfl
          clear HS2 HST HB
          go_wp2_with (go_at_call 143; refine (HWI _).mono ?_; rintro e w' ⟨rfl, rfl⟩)
          go_ret
          exact ⟨ret_b HF.out.symm, k1⟩
        · obtain ⟨hat0, hat1⟩ := HB.out rfl
          cases q2
          · have HF : Hid (mapsP n lo sk 0 l = false) := by show _ = _; rw [HS2.out]; rfl
            clear HS2 HB
            go_wp2_with (go_at_call 143; refine (HWI _).mono ?_; rintro e w' ⟨rfl, rfl⟩)
            refine HST.mono ?_
            rintro e w2 ⟨rfl, b2⟩
            have k2 := k1.trans (b2.mono k1.size)
            go_wp2_with fail
            go_ret
            exact ⟨ret_b HF.out.symm, k2⟩
          · have HF : Hid (mapsP n lo sk (at0 + 1) (l.drop (k + 1)) = mapsP n lo sk 0 l) := by show _ = _; rw [HS2.out]; simp
            have hadd : IntKind.i64.wrap (at0 + 1) = at0 + 1 := IntWalk.i64_in _ (by omega)
            clear HS2 HB
            go_wp2_with (go_at_call 143; refine (HWI _).mono ?_; rintro e w' ⟨rfl, rfl⟩)
            refine HST.mono ?_
            rintro e w2 ⟨rfl, b2⟩
            have k2 := k1.trans (b2.mono k1.size)
            have z0 := cellOn x0' b2
            go_wp2_with fail
            go_roundw
            case rel => exact ⟨k + 1, at0 + 1, by omega, by omega, by go_num, by first | rfl | rw [hadd], HF.out, HK.out.later b2, k2⟩
            case measure => simp [intOf]; omega
      · have HF : Hid (mapsP n lo sk 0 l = true) := by show _ = _; rw [← HA.out, mapsP_end _ _ _ _ _ _ (by omega)]
        clear HA HM
        go_wp2_with fail
        go_ret
        exact ⟨ret_b HF.out.symm, hbel⟩
  · have h6' : (decide (l.length ≤ 100)) = false := by simpa using h6
    rw [h6', Bool.false_and]
    go_enter Tryz.func119, Tryz.ntmps119
    go_wp2_with fail
    go_ret
    exact ⟨rfl, b0⟩
end Cls
end Go.Proofs.YtjblmgdjaaeedaaGreat

/- The contracts of class's tests of traps and of instructions. -/
namespace Go.Proofs.YtjblmgdjaaeedaaGreat
namespace Cls
open Num Kind Op4
open Go.RowKit
set_option linter.unusedVariables false
set_option maxRecDepth 100000

set_option maxHeartbeats 2000000 in
theorem traps_any (v : Value) (l : List TrapL) (n : Int) (w : World) (h : Sl trapE 4 w v l) (hn : 0 ≤ n) (hn2 : n ≤ 1000) :
    Calls Tryz.prog 118 #[v, .int .i64 n] w fun e w' => e = .returned (.bool (trapsP n l)) ∧ Below w.heap.size w w' := by
  have HT : Hid _ := h
  obtain ⟨a, cp, rfl, hl, hm, hnil, hx⟩ := h
  unfold maxLen at hm
  unfold trapsP
  clear hx hnil
  by_cases h6 : l.length ≤ 6
  · have h6' : (decide (l.length ≤ 6)) = true := by simpa using h6
    rw [h6', Bool.true_and]
    go_enter Tryz.func118, Tryz.ntmps118
    go_wp2_with fail
    go_loopw [6, 12] (fun _ i wr => ∃ k : Nat, k ≤ l.length ∧ i = .int .i64 k ∧ (l.drop k).all (trapP n) = l.all (trapP n) ∧ Below w.heap.size w wr) (fun _ i _ => l.length - (intOf i).toNat)
    case atStart => exact ⟨0, by omega, rfl, rfl, Below.refl _ _⟩
    case round =>
      obtain ⟨k, hk, rfl, hall, hbel⟩ := hrel
      have HA : Hid _ := hall
      clear hall
      by_cases hlk : k < l.length
      · obtain ⟨aa, cc, ev, _, _, _, hx9⟩ := Sl.later trapE_stable HT.out hbel
        simp only [Value.slice.injEq, true_and] at ev
        obtain ⟨rfl, rfl⟩ := ev
        obtain ⟨b9, off9, rfl, _, hx9⟩ := hx9 (by omega)
        obtain ⟨x0, x1, x2, x3, sz⟩ := hx9 k hlk
        have HS := all_step (trapP n) l k hlk
        rw [HA.out] at HS
        have HS2 : Hid _ := HS
        clear HS HA hx9
        generalize l[k] = X at *
        obtain ⟨f, t, u, c⟩ := X
        simp only at x0 x1 x2 x3 sz HS2
        have e1 := (Below.refl wr.heap.size wr).alloc (Nat.le_refl _) (.cells #[.int .i64 f, .int .i64 t, .int .i64 u, .string c] 80)
        have HC := fun W => trap_any f t u c n W sz hn hn2
        generalize trapP n ⟨f, t, u, c⟩ = q at *
        cases q
        · have HF : Hid (l.all (trapP n) = false) := by show _ = _; rw [HS2.out]; rfl
          clear HS2
          go_wp2_with fail
          refine (HC _).mono ?_
          rintro e w2 ⟨rfl, b2⟩
          have k2 := hbel.trans ((e1.trans (b2.mono e1.size)).mono hbel.size)
          go_wp2_with fail
          go_ret
          exact ⟨ret_b HF.out.symm, k2⟩
        · have HF : Hid ((l.drop (k + 1)).all (trapP n) = l.all (trapP n)) := by show _ = _; rw [HS2.out]; simp
          clear HS2
          go_wp2_with fail
          refine (HC _).mono ?_
          rintro e w2 ⟨rfl, b2⟩
          have k2 := hbel.trans ((e1.trans (b2.mono e1.size)).mono hbel.size)
          go_wp2_with fail
          go_roundw
          case rel => exact ⟨k + 1, by omega, by go_num, HF.out, k2⟩
          case measure => simp [intOf]; omega
      · have HF : Hid (l.all (trapP n) = true) := by show _ = _; rw [← HA.out, all_end _ _ _ (by omega)]
        clear HA
        go_wp2_with fail
        go_ret
        exact ⟨ret_b HF.out.symm, hbel⟩
  · have h6' : (decide (l.length ≤ 6)) = false := by simpa using h6
    rw [h6', Bool.false_and]
    go_enter Tryz.func118, Tryz.ntmps118
    go_wp2_with fail
    go_ret
    exact ⟨rfl, Below.refl _ _⟩
end Cls
end Go.Proofs.YtjblmgdjaaeedaaGreat

/- The contract of class's test of instructions. -/
namespace Go.Proofs.YtjblmgdjaaeedaaGreat
namespace Cls
open Num Kind Op4
open Go.RowKit
set_option linter.unusedVariables false
set_option maxRecDepth 100000

set_option maxHeartbeats 2000000 in
theorem code_any (v : Value) (l : List InsL) (w : World) (h : Sl insE 4 w v l) :
    Calls Tryz.prog 117 #[v] w fun e w' => e = .returned (.bool (codeP l)) ∧ Below w.heap.size w w' := by
  have HT : Hid _ := h
  obtain ⟨a, cp, rfl, hl, hm, hnil, hx⟩ := h
  unfold maxLen at hm
  have HQ : codeP l = (withinB l.length 1 100 && (l.all (insB l.length) && (l.getLast?.any fun x => endsB x.o))) := rfl
  have HW := fun W => within_any (l.length : Int) 1 100 W
  have HB : withinB l.length 1 100 = true → 1 ≤ l.length ∧ l.length ≤ 100 := fun hh => by unfold withinB at hh; simp at hh; omega
  have HBB : Hid _ := HB
  generalize withinB l.length 1 100 = q at *
  clear HB
  cases q
  · rw [Bool.false_and] at HQ
    clear hx hnil
    go_enter Tryz.func117, Tryz.ntmps117
    go_wp2_with fail
    refine (HW _).mono ?_
    rintro e w2 ⟨rfl, rfl⟩
    go_wp2_with fail
    go_ret
    exact ⟨ret_b HQ.symm, Below.refl _ _⟩
  obtain ⟨hn1, hn2⟩ := HBB.out rfl
  rw [Bool.true_and] at HQ
  obtain ⟨b, off, rfl, hlt, hx⟩ := hx (by omega)
  have HXX : ∀ W, Below w.heap.size w W → ∀ i (h : i < l.length), insE W b (off + i * 4) l[i] := fun W hb i hi => insE_stable _ _ _ _ _ (hx i hi) hb
  have HX : Hid _ := HXX
  have HN : Hid (∃ n, l.length = n) := ⟨_, rfl⟩
  obtain ⟨n, hn⟩ := HN.out
  have HNN : Hid _ := hn
  have hlast : n - 1 < l.length := by omega
  have hLE : (l.getLast?.any fun x => endsB x.o) = endsB l[n - 1].o := by
    rw [List.getLast?_eq_getElem?, hn, List.getElem?_eq_getElem hlast]
    rfl
  rw [hLE] at HQ
  rw [hn] at HQ HW hn1 hn2 hl
  have HQQ : Hid _ := HQ
  have hsub : IntKind.i64.wrap ((n : Int) - 1) = ((n - 1 : Nat) : Int) := by rw [IntWalk.i64_in _ (by omega)]; omega
  rw [hn]
  clear hx HXX hnil HBB HQ hLE HT HN hn
  go_enter Tryz.func117, Tryz.ntmps117
  go_wp2_with fail
  refine (HW _).mono ?_
  rintro e w2 ⟨rfl, rfl⟩
  clear HW
  go_wp2_with fail
  go_loopw [4, 11] (fun _ i wr => ∃ k : Nat, k ≤ n ∧ i = .int .i64 k ∧ (l.drop k).all (insB n) = l.all (insB n) ∧ Below w.heap.size w wr) (fun _ i _ => n - (intOf i).toNat)
  case atStart => exact ⟨0, by omega, rfl, rfl, Below.refl _ _⟩
  case round =>
    obtain ⟨k, hk, rfl, hall, hbel⟩ := hrel
    by_cases hlk : k < n
    · have hkc : k < l.length := by rw [HNN.out]; exact hlk
      obtain ⟨⟨x0, x1, x2, x3⟩, s2, s3⟩ := HX.out wr hbel k hkc
      rw [all_step _ _ k hkc] at hall
      have HA : Hid _ := hall
      clear hall
      have HI : Hid (insB n l[k] = (mayIns l[k].o l[k].a (nums l[k].c) (nums l[k].m) && !(jumpsB l[k].o && decide ((n : Int) ≤ l[k].a)))) := rfl
      generalize l[k] = X at *
      obtain ⟨o, a, c, q⟩ := X
      simp only at x0 x1 x2 x3 s2 s3
      have Z := InsAt.new wr o a c q 48
      have e1 := (Below.refl wr.heap.size wr).alloc (Nat.le_refl _) (.cells #[.int .i64 o, .int .i64 a, .string c, .string q] 48)
      go_wp2_with fail
      refine (omay_any o a c q _ s2 s3).mono ?_
      rintro e w2 ⟨rfl, b2⟩
      obtain ⟨z0, z1, z2, z3⟩ := Z.later b2
      have k2 := hbel.trans ((e1.trans (b2.mono e1.size)).mono hbel.size)
      clear x0 x1 x2 x3 Z e1 b2 hbel
      have HQ : ∃ p, mayIns o a (nums c) (nums q) = p := ⟨_, rfl⟩
      obtain ⟨p, hp⟩ := HQ
      have HJ : ∃ j, jumpsB o = j := ⟨_, rfl⟩
      obtain ⟨j, hj⟩ := HJ
      have HI2 : Hid (insB n ⟨o, a, c, q⟩ = (p && !(j && decide ((n : Int) ≤ a)))) := by
        have := HI.out
        simp only [hp, hj] at this
        exact this
      rw [hp]
      have HJ2 : Hid _ := hj
      clear HI hp hj
      cases p
      · have HF : Hid (l.all (insB n) = false) := by
          show _ = _
          show _ = _
          have := HA.out
          rw [HI2.out] at this
          simpa using this.symm
        clear HA HI2
        go_wp2_with fail
        go_ret
        exact ⟨ret_b (by rw [HQQ.out, HF.out]; rfl), k2⟩
      · go_wp2_with fail
        refine (ojumps_any o _).mono ?_
        rintro e w3 ⟨rfl, rfl⟩
        rw [HJ2.out]
        clear HJ2
        cases j
        · have HF : Hid ((l.drop (k + 1)).all (insB n) = l.all (insB n)) := by
            show _ = _
            show _ = _
            have := HA.out
            rw [HI2.out] at this
            simpa using this
          clear HA HI2
          go_wp2_with fail
          go_roundw
          case rel => exact ⟨k + 1, by omega, by go_num, HF.out, k2⟩
          case measure => simp [intOf]; omega
        · by_cases han : (n : Int) ≤ a
          · have HF : Hid (l.all (insB n) = false) := by
              show _ = _
              show _ = _
              have := HA.out
              rw [HI2.out] at this
              simpa [han] using this.symm
            clear HA HI2
            go_wp2_with fail
            go_ret
            exact ⟨ret_b (by rw [HQQ.out, HF.out]; rfl), k2⟩
          · have HF : Hid ((l.drop (k + 1)).all (insB n) = l.all (insB n)) := by
              show _ = _
              show _ = _
              have := HA.out
              rw [HI2.out] at this
              simpa [han] using this
            clear HA HI2
            go_wp2_with fail
            go_roundw
            case rel => exact ⟨k + 1, by omega, by go_num, HF.out, k2⟩
            case measure => simp [intOf]; omega
    · rw [all_end _ _ k (by rw [HNN.out]; omega)] at hall
      have HA : Hid _ := hall
      obtain ⟨⟨x0, x1, x2, x3⟩, s2, s3⟩ := HX.out wr hbel (n - 1) hlast
      clear hall x1 x2 x3
      generalize l[n - 1].o = ol at *
      go_wp2_with fail
      refine (oends_any ol _).mono ?_
      rintro e w3 ⟨rfl, rfl⟩
      go_wp2_with fail
      go_ret
      exact ⟨ret_b (by rw [HQQ.out, ← HA.out]; rfl), hbel⟩
end Cls
end Go.Proofs.YtjblmgdjaaeedaaGreat

/- The contracts of class's tests of a method. -/
namespace Go.Proofs.YtjblmgdjaaeedaaGreat
namespace Cls
open Num Kind Op4
open Go.RowKit
set_option linter.unusedVariables false
set_option maxRecDepth 100000

set_option maxHeartbeats 1000000 in
theorem room_any (nm rt : ByteArray) (st ab : Bool) (lo sk : Int) (v1 v7 v8 v9 : Value) (ps : List ByteArray) (w : World) (h1 : Sl strE 1 w v1 ps) (hps : ps.length ≤ 6) :
    Calls Tryz.prog 116 #[.agg #[.string nm, v1, .string rt, .bool st, .bool ab, .int .i64 lo, .int .i64 sk, v7, v8, v9]] w fun e w' => e = .returned (.bool (roomP ps.length st lo sk)) ∧ Below w.heap.size w w' := by
  have b0 := (Below.refl w.heap.size w).alloc (Nat.le_refl _) (.cells #[.string nm, v1, .string rt, .bool st, .bool ab, .int .i64 lo, .int .i64 sk, v7, v8, v9] 46)
  obtain ⟨a, cp, rfl, hl, hm, hnil, hx⟩ := h1
  unfold maxLen at hm
  clear hx hnil
  have hadd : IntKind.i64.wrap ((ps.length : Int) + 1) = (ps.length : Int) + 1 := IntWalk.i64_in _ (by omega)
  unfold roomP
  have HW2 := fun W => within_any sk 0 16 W
  generalize withinB sk 0 16 = q2 at *
  cases st
  · have HW := fun W => within_any lo ((ps.length : Int) + 1) 16 W
    rw [if_neg (by decide)]
    generalize withinB lo ((ps.length : Int) + 1) 16 = q1 at *
    cases q1
    all_goals
      go_enter Tryz.func116, Tryz.ntmps116
      go_wp2_with (first | (go_at_call_of 143 lo; refine (HW _).mono ?_; rintro e w' ⟨rfl, rfl⟩) | (go_at_call_of 143 sk; refine (HW2 _).mono ?_; rintro e w' ⟨rfl, rfl⟩))
      go_ret
      exact ⟨rfl, b0⟩
  · have HW := fun W => within_any lo (ps.length : Int) 16 W
    rw [if_pos rfl]
    generalize withinB lo (ps.length : Int) 16 = q1 at *
    cases q1
    all_goals
      go_enter Tryz.func116, Tryz.ntmps116
      go_wp2_with (first | (go_at_call_of 143 lo; refine (HW _).mono ?_; rintro e w' ⟨rfl, rfl⟩) | (go_at_call_of 143 sk; refine (HW2 _).mono ?_; rintro e w' ⟨rfl, rfl⟩))
      go_ret
      exact ⟨rfl, b0⟩
theorem begins_any (nm rt : ByteArray) (st ab : Bool) (lo sk : Int) (v1 v7 v8 v9 : Value) (ps : List ByteArray) (w : World) (h1 : Sl strE 1 w v1 ps) :
    Calls Tryz.prog 115 #[.agg #[.string nm, v1, .string rt, .bool st, .bool ab, .int .i64 lo, .int .i64 sk, v7, v8, v9]] w fun e w' => e = .returned (.bool (beginsP ps.length st rt)) ∧ Below w.heap.size w w' := by
  have b0 := (Below.refl w.heap.size w).alloc (Nat.le_refl _) (.cells #[.string nm, v1, .string rt, .bool st, .bool ab, .int .i64 lo, .int .i64 sk, v7, v8, v9] 46)
  obtain ⟨a, cp, rfl, hl, hm, hnil, hx⟩ := h1
  unfold maxLen at hm
  clear hx hnil
  have h86 := beq_nums rt [86] [86] rfl
  unfold beginsP
  generalize (nums rt == [86]) = q at *
  cases st
  · go_enter Tryz.func115, Tryz.ntmps115
    go_wp2_with fail
    go_ret
    exact ⟨rfl, b0⟩
  · by_cases h0 : ps.length = 0
    · have h0' : ((ps.length : Int) == 0) = true := by simp [h0]
      have h0'' : decide (ps.length = 0) = true := by simp [h0]
      rw [h0'']
      clear h0 h0''
      go_enter Tryz.func115, Tryz.ntmps115
      go_wp2_with fail
      go_ret
      exact ⟨rfl, b0⟩
    · have h0' : ((ps.length : Int) == 0) = false := by simp [h0]
      have h0'' : decide (ps.length = 0) = false := by simp [h0]
      rw [h0'']
      clear h0 h0''
      go_enter Tryz.func115, Tryz.ntmps115
      go_wp2_with fail
      go_ret
      exact ⟨rfl, b0⟩
set_option maxHeartbeats 1000000 in
theorem bodiless_any (nm rt : ByteArray) (st ab : Bool) (lo sk : Int) (v1 v7 v8 v9 : Value) (code : List InsL) (maps : List MapL) (traps : List TrapL) (w : World) (h7 : Sl insE 4 w v7 code) (h8 : Sl mapE 3 w v8 maps) (h9 : Sl trapE 4 w v9 traps) :
    Calls Tryz.prog 114 #[.agg #[.string nm, v1, .string rt, .bool st, .bool ab, .int .i64 lo, .int .i64 sk, v7, v8, v9]] w fun e w' => e = .returned (.bool (bodilessP lo sk code.length maps.length traps.length)) ∧ Below w.heap.size w w' := by
  have b0 := (Below.refl w.heap.size w).alloc (Nat.le_refl _) (.cells #[.string nm, v1, .string rt, .bool st, .bool ab, .int .i64 lo, .int .i64 sk, v7, v8, v9] 46)
  obtain ⟨a7, c7, rfl, hl7, hm7, _, hx7⟩ := h7
  obtain ⟨a8, c8, rfl, hl8, hm8, _, hx8⟩ := h8
  obtain ⟨a9, c9, rfl, hl9, hm9, _, hx9⟩ := h9
  unfold maxLen at hm7 hm8 hm9
  clear hx7 hx8 hx9
  unfold bodilessP
  have e1 : (lo == 0) = decide (lo = 0) := by rw [Bool.eq_iff_iff]; simp
  have e2 : (sk == 0) = decide (sk = 0) := by rw [Bool.eq_iff_iff]; simp
  have e3 : ((code.length : Int) == 0) = decide (code.length = 0) := by rw [Bool.eq_iff_iff]; simp
  have e4 : ((maps.length : Int) == 0) = decide (maps.length = 0) := by rw [Bool.eq_iff_iff]; simp
  have e5 : ((traps.length : Int) == 0) = decide (traps.length = 0) := by rw [Bool.eq_iff_iff]; simp
  generalize decide (lo = 0) = q1 at *
  generalize decide (sk = 0) = q2 at *
  generalize decide (code.length = 0) = q3 at *
  generalize decide (maps.length = 0) = q4 at *
  generalize decide (traps.length = 0) = q5 at *
  generalize code.length = n7 at *
  generalize maps.length = n8 at *
  generalize traps.length = n9 at *
  cases q1
  · go_enter Tryz.func114, Tryz.ntmps114
    go_wp2_with fail
    go_ret
    exact ⟨rfl, b0⟩
  cases q2
  · go_enter Tryz.func114, Tryz.ntmps114
    go_wp2_with fail
    go_ret
    exact ⟨rfl, b0⟩
  cases q3
  · go_enter Tryz.func114, Tryz.ntmps114
    go_wp2_with fail
    go_ret
    exact ⟨rfl, b0⟩
  cases q4
  · go_enter Tryz.func114, Tryz.ntmps114
    go_wp2_with fail
    go_ret
    exact ⟨rfl, b0⟩
  go_enter Tryz.func114, Tryz.ntmps114
  go_wp2_with fail
  go_ret
  exact ⟨rfl, b0⟩
end Cls
end Go.Proofs.YtjblmgdjaaeedaaGreat

/- The contract of class's test of a method. -/
namespace Go.Proofs.YtjblmgdjaaeedaaGreat
namespace Cls
open Num Kind Op4
open Go.RowKit
set_option linter.unusedVariables false
set_option maxRecDepth 100000

set_option maxHeartbeats 4000000 in
theorem meth_any (v1 v7 v8 v9 : Value) (m : MethL) (w : World) (h : MethV w v1 v7 v8 v9 m) :
    Calls Tryz.prog 78 #[methVal v1 v7 v8 v9 m] w fun e w' => e = .returned (.bool (methP m)) ∧ Below w.heap.size w w' := by
  unfold methVal methCells
  have HV : Hid _ := h
  obtain ⟨nm, ps, rt, st, ab, lo, sk, code, maps, traps⟩ := m
  simp only
  have b0 := (Below.refl w.heap.size w).alloc (Nat.le_refl _) (.cells #[.string nm, v1, .string rt, .bool st, .bool ab, .int .i64 lo, .int .i64 sk, v7, v8, v9] 46)
  have M := MethCells.new w nm v1 rt st ab lo sk v7 v8 v9 46
  have HN := fun W => kname_any nm W h.s0
  have HP := params_any v1 ps _ (h.params.later strE_stable b0)
  have HR := fun W => kret_any rt W h.s2
  have HB := begins_any nm rt st ab lo sk v1 v7 v8 v9 ps _ (h.params.later strE_stable b0)
  have HL := bodiless_any nm rt st ab lo sk v1 v7 v8 v9 code maps traps _ (h.code.later insE_stable b0) (h.maps.later mapE_stable b0) (h.traps.later trapE_stable b0)
  have hini := beq_nums nm [36, 105, 110, 105, 116] initL rfl
  have HQ : methP ⟨nm, ps, rt, st, ab, lo, sk, code, maps, traps⟩ = ((nameB (nums nm) && (paramsP ps && retB (nums rt))) &&
    (if ab then !st && (!(nums nm == initL) && bodilessP lo sk code.length maps.length traps.length)
     else if (nums nm == initL) && !beginsP ps.length st rt then false
     else roomP ps.length st lo sk && (codeP code && (trapsP code.length traps && (decide (maps.length ≤ 100) && mapsP code.length lo sk 0 maps))))) := rfl
  have HQQ : Hid _ := HQ
  have HPS : Hid (paramsP ps = true → ps.length ≤ 6) := fun hh => by unfold paramsP at hh; simp at hh; omega
  have HCD : Hid (codeP code = true → code.length ≤ 100) := fun hh => by unfold codeP withinB at hh; simp at hh; omega
  generalize methP ⟨nm, ps, rt, st, ab, lo, sk, code, maps, traps⟩ = R at *
  clear HQ
  generalize nameB (nums nm) = qn at *
  generalize paramsP ps = qp at *
  generalize retB (nums rt) = qr at *
  generalize (nums nm == initL) = qi at *
  cases qn
  · have e : Hid (R = false) := by show _ = _; rw [HQQ.out]; rfl
    clear HQQ HV h M HL HB
    go_enter Tryz.func78, Tryz.ntmps78
    go_wp2_with (go_at_call 108; refine (HN _).mono ?_; rintro e w' ⟨rfl, rfl⟩)
    go_ret
    exact ⟨ret_b e.out.symm, b0⟩
  cases qp
  · have e : Hid (R = false) := by show _ = _; rw [HQQ.out]; rfl
    clear HQQ HV h M HL HB
    go_enter Tryz.func78, Tryz.ntmps78
    go_wp2_with (first | (go_at_call 108; refine (HN _).mono ?_; rintro e w' ⟨rfl, rfl⟩) | (go_at_call 112; refine HP.mono ?_; rintro e w' ⟨rfl, rfl⟩))
    go_ret
    exact ⟨ret_b e.out.symm, b0⟩
  cases qr
  · have e : Hid (R = false) := by show _ = _; rw [HQQ.out]; rfl
    clear HQQ HV h M HL HB
    go_enter Tryz.func78, Tryz.ntmps78
    go_wp2_with (first | (go_at_call 108; refine (HN _).mono ?_; rintro e w' ⟨rfl, rfl⟩) | (go_at_call 112; refine HP.mono ?_; rintro e w' ⟨rfl, rfl⟩) | (go_at_call 113; refine (HR _).mono ?_; rintro e w' ⟨rfl, rfl⟩))
    go_ret
    exact ⟨ret_b e.out.symm, b0⟩
  cases ab
  case true =>
    have HQ2 : Hid (R = (!st && (!qi && bodilessP lo sk code.length maps.length traps.length))) := by show _ = _; rw [HQQ.out]; rfl
    clear HQQ HV h M HB
    cases st
    case true =>
      have e : Hid (R = false) := by show _ = _; rw [HQ2.out]; rfl
      clear HQ2 HL
      go_enter Tryz.func78, Tryz.ntmps78
      go_wp2_with (first | (go_at_call 108; refine (HN _).mono ?_; rintro e w' ⟨rfl, rfl⟩) | (go_at_call 112; refine HP.mono ?_; rintro e w' ⟨rfl, rfl⟩) | (go_at_call 113; refine (HR _).mono ?_; rintro e w' ⟨rfl, rfl⟩))
      go_ret
      exact ⟨ret_b e.out.symm, b0⟩
    cases qi
    case true =>
      have e : Hid (R = false) := by show _ = _; rw [HQ2.out]; rfl
      clear HQ2 HL
      go_enter Tryz.func78, Tryz.ntmps78
      go_wp2_with (first | (go_at_call 108; refine (HN _).mono ?_; rintro e w' ⟨rfl, rfl⟩) | (go_at_call 112; refine HP.mono ?_; rintro e w' ⟨rfl, rfl⟩) | (go_at_call 113; refine (HR _).mono ?_; rintro e w' ⟨rfl, rfl⟩))
      go_ret
      exact ⟨ret_b e.out.symm, b0⟩
    have e : Hid (R = bodilessP lo sk code.length maps.length traps.length) := by show _ = _; rw [HQ2.out]; rfl
    clear HQ2
    generalize bodilessP lo sk code.length maps.length traps.length = qb at *
    go_enter Tryz.func78, Tryz.ntmps78
    go_wp2_with (first | (go_at_call 108; refine (HN _).mono ?_; rintro e w' ⟨rfl, rfl⟩) | (go_at_call 112; refine HP.mono ?_; rintro e w' ⟨rfl, rfl⟩) | (go_at_call 113; refine (HR _).mono ?_; rintro e w' ⟨rfl, rfl⟩))
    refine HL.mono ?_
    rintro e w2 ⟨rfl, b2⟩
    have k2 := b0.trans (b2.mono b0.size)
    go_wp2_with fail
    go_ret
    exact ⟨ret_b e.out.symm, k2⟩
  have HQ3 : Hid (R = if qi && !beginsP ps.length st rt then false else roomP ps.length st lo sk && (codeP code && (trapsP code.length traps && (decide (maps.length ≤ 100) && mapsP code.length lo sk 0 maps)))) := by show _ = _; rw [HQQ.out]; rfl
  have HM : Hid _ := M
  have hps := HPS.out rfl
  clear HQQ HL M HPS
  have HRM : Hid (∀ W, Below w.heap.size w W → _) := fun W hb => room_any nm rt st false lo sk v1 v7 v8 v9 ps W (HV.out.params.later strE_stable hb) hps
  have HCO : Hid (∀ W, Below w.heap.size w W → _) := fun W hb => code_any v7 code W (HV.out.code.later insE_stable hb)
  have HTR : Hid (code.length ≤ 100 → ∀ W, Below w.heap.size w W → _) := fun hc W hb => traps_any v9 traps (code.length : Int) W (HV.out.traps.later trapE_stable hb) (by omega) (by omega)
  have HMA : Hid (code.length ≤ 100 → ∀ W, Below w.heap.size w W → _) := fun hc W hb => maps_any nm rt st false lo sk v1 v7 v8 v9 code maps W (HV.out.code.later insE_stable hb) (HV.out.maps.later mapE_stable hb) hc
  obtain ⟨a7, cp7, hv7, hl7, hm7, _, hx7⟩ := HV.out.code
  clear hx7
  subst hv7
  unfold maxLen at hm7
  clear h HV
  generalize beginsP ps.length st rt = qb at *
  generalize roomP ps.length st lo sk = q1 at *
  generalize codeP code = q2 at *
  generalize trapsP code.length traps = q3 at *
  generalize (decide (maps.length ≤ 100) && mapsP code.length lo sk 0 maps) = q4 at *
  generalize code.length = n at *
  cases qi
  case false =>
    cases q1
    · have e : Hid (R = false) := by show _ = _; rw [HQ3.out]; rfl
      clear HQ3 HB
      go_enter Tryz.func78, Tryz.ntmps78
      go_wp2_with (first | (go_at_call 108; refine (HN _).mono ?_; rintro e w' ⟨rfl, rfl⟩) | (go_at_call 112; refine HP.mono ?_; rintro e w' ⟨rfl, rfl⟩) | (go_at_call 113; refine (HR _).mono ?_; rintro e w' ⟨rfl, rfl⟩))
      refine (HRM.out _ b0).mono ?_
      rintro e w3 ⟨rfl, b3⟩
      have k3 := b0.trans (b3.mono b0.size)
      obtain ⟨c0, c1, c2, c3, c4, c5, c6, c7, c8, c9⟩ := HM.out.later (b3)
      go_wp2_with fail
      go_ret
      exact ⟨ret_b e.out.symm, k3⟩
    cases q2
    · have e : Hid (R = false) := by show _ = _; rw [HQ3.out]; rfl
      clear HQ3 HB
      go_enter Tryz.func78, Tryz.ntmps78
      go_wp2_with (first | (go_at_call 108; refine (HN _).mono ?_; rintro e w' ⟨rfl, rfl⟩) | (go_at_call 112; refine HP.mono ?_; rintro e w' ⟨rfl, rfl⟩) | (go_at_call 113; refine (HR _).mono ?_; rintro e w' ⟨rfl, rfl⟩))
      refine (HRM.out _ b0).mono ?_
      rintro e w3 ⟨rfl, b3⟩
      have k3 := b0.trans (b3.mono b0.size)
      obtain ⟨c0, c1, c2, c3, c4, c5, c6, c7, c8, c9⟩ := HM.out.later (b3)
      go_wp2_with fail
      refine (HCO.out _ k3).mono ?_
      rintro e w4 ⟨rfl, b4⟩
      have k4 := k3.trans (b4.mono k3.size)
      replace c0 := cellOn c0 b4
      replace c1 := cellOn c1 b4
      replace c2 := cellOn c2 b4
      replace c3 := cellOn c3 b4
      replace c4 := cellOn c4 b4
      replace c5 := cellOn c5 b4
      replace c6 := cellOn c6 b4
      replace c7 := cellOn c7 b4
      replace c8 := cellOn c8 b4
      replace c9 := cellOn c9 b4
      go_wp2_with fail
      go_ret
      exact ⟨ret_b e.out.symm, k4⟩
    cases q3
    · have e : Hid (R = false) := by show _ = _; rw [HQ3.out]; rfl
      clear HQ3 HB
      go_enter Tryz.func78, Tryz.ntmps78
      go_wp2_with (first | (go_at_call 108; refine (HN _).mono ?_; rintro e w' ⟨rfl, rfl⟩) | (go_at_call 112; refine HP.mono ?_; rintro e w' ⟨rfl, rfl⟩) | (go_at_call 113; refine (HR _).mono ?_; rintro e w' ⟨rfl, rfl⟩))
      refine (HRM.out _ b0).mono ?_
      rintro e w3 ⟨rfl, b3⟩
      have k3 := b0.trans (b3.mono b0.size)
      obtain ⟨c0, c1, c2, c3, c4, c5, c6, c7, c8, c9⟩ := HM.out.later (b3)
      go_wp2_with fail
      refine (HCO.out _ k3).mono ?_
      rintro e w4 ⟨rfl, b4⟩
      have k4 := k3.trans (b4.mono k3.size)
      replace c0 := cellOn c0 b4
      replace c1 := cellOn c1 b4
      replace c2 := cellOn c2 b4
      replace c3 := cellOn c3 b4
      replace c4 := cellOn c4 b4
      replace c5 := cellOn c5 b4
      replace c6 := cellOn c6 b4
      replace c7 := cellOn c7 b4
      replace c8 := cellOn c8 b4
      replace c9 := cellOn c9 b4
      go_wp2_with fail
      refine (HTR.out (HCD.out (by trivial)) _ k4).mono ?_
      rintro e w5 ⟨rfl, b5⟩
      have k5 := k4.trans (b5.mono k4.size)
      replace c0 := cellOn c0 b5
      replace c1 := cellOn c1 b5
      replace c2 := cellOn c2 b5
      replace c3 := cellOn c3 b5
      replace c4 := cellOn c4 b5
      replace c5 := cellOn c5 b5
      replace c6 := cellOn c6 b5
      replace c7 := cellOn c7 b5
      replace c8 := cellOn c8 b5
      replace c9 := cellOn c9 b5
      go_wp2_with fail
      go_ret
      exact ⟨ret_b e.out.symm, k5⟩
    have e : Hid (R = q4) := by show _ = _; rw [HQ3.out]; rfl
    clear HQ3 HB
    go_enter Tryz.func78, Tryz.ntmps78
    go_wp2_with (first | (go_at_call 108; refine (HN _).mono ?_; rintro e w' ⟨rfl, rfl⟩) | (go_at_call 112; refine HP.mono ?_; rintro e w' ⟨rfl, rfl⟩) | (go_at_call 113; refine (HR _).mono ?_; rintro e w' ⟨rfl, rfl⟩))
    refine (HRM.out _ b0).mono ?_
    rintro e w3 ⟨rfl, b3⟩
    have k3 := b0.trans (b3.mono b0.size)
    obtain ⟨c0, c1, c2, c3, c4, c5, c6, c7, c8, c9⟩ := HM.out.later (b3)
    go_wp2_with fail
    refine (HCO.out _ k3).mono ?_
    rintro e w4 ⟨rfl, b4⟩
    have k4 := k3.trans (b4.mono k3.size)
    replace c0 := cellOn c0 b4
    replace c1 := cellOn c1 b4
    replace c2 := cellOn c2 b4
    replace c3 := cellOn c3 b4
    replace c4 := cellOn c4 b4
    replace c5 := cellOn c5 b4
    replace c6 := cellOn c6 b4
    replace c7 := cellOn c7 b4
    replace c8 := cellOn c8 b4
    replace c9 := cellOn c9 b4
    go_wp2_with fail
    refine (HTR.out (HCD.out (by trivial)) _ k4).mono ?_
    rintro e w5 ⟨rfl, b5⟩
    have k5 := k4.trans (b5.mono k4.size)
    replace c0 := cellOn c0 b5
    replace c1 := cellOn c1 b5
    replace c2 := cellOn c2 b5
    replace c3 := cellOn c3 b5
    replace c4 := cellOn c4 b5
    replace c5 := cellOn c5 b5
    replace c6 := cellOn c6 b5
    replace c7 := cellOn c7 b5
    replace c8 := cellOn c8 b5
    replace c9 := cellOn c9 b5
    go_wp2_with fail
    refine (HMA.out (HCD.out (by trivial)) _ k5).mono ?_
    rintro e w6 ⟨rfl, b6⟩
    have k6 := k5.trans (b6.mono k5.size)
    go_wp2_with fail
    go_ret
    exact ⟨ret_b e.out.symm, k6⟩
  cases qb
  case false =>
    have e : Hid (R = false) := by show _ = _; rw [HQ3.out]; rfl
    clear HQ3
    go_enter Tryz.func78, Tryz.ntmps78
    go_wp2_with (first | (go_at_call 108; refine (HN _).mono ?_; rintro e w' ⟨rfl, rfl⟩) | (go_at_call 112; refine HP.mono ?_; rintro e w' ⟨rfl, rfl⟩) | (go_at_call 113; refine (HR _).mono ?_; rintro e w' ⟨rfl, rfl⟩))
    refine HB.mono ?_
    rintro e w2 ⟨rfl, b2⟩
    have k2 := b0.trans (b2.mono b0.size)
    obtain ⟨c0, c1, c2, c3, c4, c5, c6, c7, c8, c9⟩ := HM.out.later b2
    go_wp2_with fail
    go_ret
    exact ⟨ret_b e.out.symm, k2⟩
  cases q1
  · have e : Hid (R = false) := by show _ = _; rw [HQ3.out]; rfl
    clear HQ3
    go_enter Tryz.func78, Tryz.ntmps78
    go_wp2_with (first | (go_at_call 108; refine (HN _).mono ?_; rintro e w' ⟨rfl, rfl⟩) | (go_at_call 112; refine HP.mono ?_; rintro e w' ⟨rfl, rfl⟩) | (go_at_call 113; refine (HR _).mono ?_; rintro e w' ⟨rfl, rfl⟩))
    refine HB.mono ?_
    rintro e w2 ⟨rfl, b2⟩
    have k2 := b0.trans (b2.mono b0.size)
    obtain ⟨c0, c1, c2, c3, c4, c5, c6, c7, c8, c9⟩ := HM.out.later b2
    go_wp2_with fail
    clear c0 c1 c2 c3 c4 c5 c6 c7 c8 c9
    refine (HRM.out _ k2).mono ?_
    rintro e w3 ⟨rfl, b3⟩
    have k3 := k2.trans (b3.mono k2.size)
    obtain ⟨c0, c1, c2, c3, c4, c5, c6, c7, c8, c9⟩ := HM.out.later (b2.trans (b3.mono b2.size))
    go_wp2_with fail
    go_ret
    exact ⟨ret_b e.out.symm, k3⟩
  cases q2
  · have e : Hid (R = false) := by show _ = _; rw [HQ3.out]; rfl
    clear HQ3
    go_enter Tryz.func78, Tryz.ntmps78
    go_wp2_with (first | (go_at_call 108; refine (HN _).mono ?_; rintro e w' ⟨rfl, rfl⟩) | (go_at_call 112; refine HP.mono ?_; rintro e w' ⟨rfl, rfl⟩) | (go_at_call 113; refine (HR _).mono ?_; rintro e w' ⟨rfl, rfl⟩))
    refine HB.mono ?_
    rintro e w2 ⟨rfl, b2⟩
    have k2 := b0.trans (b2.mono b0.size)
    obtain ⟨c0, c1, c2, c3, c4, c5, c6, c7, c8, c9⟩ := HM.out.later b2
    go_wp2_with fail
    clear c0 c1 c2 c3 c4 c5 c6 c7 c8 c9
    refine (HRM.out _ k2).mono ?_
    rintro e w3 ⟨rfl, b3⟩
    have k3 := k2.trans (b3.mono k2.size)
    obtain ⟨c0, c1, c2, c3, c4, c5, c6, c7, c8, c9⟩ := HM.out.later (b2.trans (b3.mono b2.size))
    go_wp2_with fail
    refine (HCO.out _ k3).mono ?_
    rintro e w4 ⟨rfl, b4⟩
    have k4 := k3.trans (b4.mono k3.size)
    replace c0 := cellOn c0 b4
    replace c1 := cellOn c1 b4
    replace c2 := cellOn c2 b4
    replace c3 := cellOn c3 b4
    replace c4 := cellOn c4 b4
    replace c5 := cellOn c5 b4
    replace c6 := cellOn c6 b4
    replace c7 := cellOn c7 b4
    replace c8 := cellOn c8 b4
    replace c9 := cellOn c9 b4
    go_wp2_with fail
    go_ret
    exact ⟨ret_b e.out.symm, k4⟩
  cases q3
  · have e : Hid (R = false) := by show _ = _; rw [HQ3.out]; rfl
    clear HQ3
    go_enter Tryz.func78, Tryz.ntmps78
    go_wp2_with (first | (go_at_call 108; refine (HN _).mono ?_; rintro e w' ⟨rfl, rfl⟩) | (go_at_call 112; refine HP.mono ?_; rintro e w' ⟨rfl, rfl⟩) | (go_at_call 113; refine (HR _).mono ?_; rintro e w' ⟨rfl, rfl⟩))
    refine HB.mono ?_
    rintro e w2 ⟨rfl, b2⟩
    have k2 := b0.trans (b2.mono b0.size)
    obtain ⟨c0, c1, c2, c3, c4, c5, c6, c7, c8, c9⟩ := HM.out.later b2
    go_wp2_with fail
    clear c0 c1 c2 c3 c4 c5 c6 c7 c8 c9
    refine (HRM.out _ k2).mono ?_
    rintro e w3 ⟨rfl, b3⟩
    have k3 := k2.trans (b3.mono k2.size)
    obtain ⟨c0, c1, c2, c3, c4, c5, c6, c7, c8, c9⟩ := HM.out.later (b2.trans (b3.mono b2.size))
    go_wp2_with fail
    refine (HCO.out _ k3).mono ?_
    rintro e w4 ⟨rfl, b4⟩
    have k4 := k3.trans (b4.mono k3.size)
    replace c0 := cellOn c0 b4
    replace c1 := cellOn c1 b4
    replace c2 := cellOn c2 b4
    replace c3 := cellOn c3 b4
    replace c4 := cellOn c4 b4
    replace c5 := cellOn c5 b4
    replace c6 := cellOn c6 b4
    replace c7 := cellOn c7 b4
    replace c8 := cellOn c8 b4
    replace c9 := cellOn c9 b4
    go_wp2_with fail
    refine (HTR.out (HCD.out (by trivial)) _ k4).mono ?_
    rintro e w5 ⟨rfl, b5⟩
    have k5 := k4.trans (b5.mono k4.size)
    replace c0 := cellOn c0 b5
    replace c1 := cellOn c1 b5
    replace c2 := cellOn c2 b5
    replace c3 := cellOn c3 b5
    replace c4 := cellOn c4 b5
    replace c5 := cellOn c5 b5
    replace c6 := cellOn c6 b5
    replace c7 := cellOn c7 b5
    replace c8 := cellOn c8 b5
    replace c9 := cellOn c9 b5
    go_wp2_with fail
    go_ret
    exact ⟨ret_b e.out.symm, k5⟩
  have e : Hid (R = q4) := by show _ = _; rw [HQ3.out]; rfl
  clear HQ3
  go_enter Tryz.func78, Tryz.ntmps78
  go_wp2_with (first | (go_at_call 108; refine (HN _).mono ?_; rintro e w' ⟨rfl, rfl⟩) | (go_at_call 112; refine HP.mono ?_; rintro e w' ⟨rfl, rfl⟩) | (go_at_call 113; refine (HR _).mono ?_; rintro e w' ⟨rfl, rfl⟩))
  refine HB.mono ?_
  rintro e w2 ⟨rfl, b2⟩
  have k2 := b0.trans (b2.mono b0.size)
  obtain ⟨c0, c1, c2, c3, c4, c5, c6, c7, c8, c9⟩ := HM.out.later b2
  go_wp2_with fail
  clear c0 c1 c2 c3 c4 c5 c6 c7 c8 c9
  refine (HRM.out _ k2).mono ?_
  rintro e w3 ⟨rfl, b3⟩
  have k3 := k2.trans (b3.mono k2.size)
  obtain ⟨c0, c1, c2, c3, c4, c5, c6, c7, c8, c9⟩ := HM.out.later (b2.trans (b3.mono b2.size))
  go_wp2_with fail
  refine (HCO.out _ k3).mono ?_
  rintro e w4 ⟨rfl, b4⟩
  have k4 := k3.trans (b4.mono k3.size)
  replace c0 := cellOn c0 b4
  replace c1 := cellOn c1 b4
  replace c2 := cellOn c2 b4
  replace c3 := cellOn c3 b4
  replace c4 := cellOn c4 b4
  replace c5 := cellOn c5 b4
  replace c6 := cellOn c6 b4
  replace c7 := cellOn c7 b4
  replace c8 := cellOn c8 b4
  replace c9 := cellOn c9 b4
  go_wp2_with fail
  refine (HTR.out (HCD.out (by trivial)) _ k4).mono ?_
  rintro e w5 ⟨rfl, b5⟩
  have k5 := k4.trans (b5.mono k4.size)
  replace c0 := cellOn c0 b5
  replace c1 := cellOn c1 b5
  replace c2 := cellOn c2 b5
  replace c3 := cellOn c3 b5
  replace c4 := cellOn c4 b5
  replace c5 := cellOn c5 b5
  replace c6 := cellOn c6 b5
  replace c7 := cellOn c7 b5
  replace c8 := cellOn c8 b5
  replace c9 := cellOn c9 b5
  go_wp2_with fail
  refine (HMA.out (HCD.out (by trivial)) _ k5).mono ?_
  rintro e w6 ⟨rfl, b6⟩
  have k6 := k5.trans (b6.mono k5.size)
  go_wp2_with fail
  go_ret
  exact ⟨ret_b e.out.symm, k6⟩
end Cls
end Go.Proofs.YtjblmgdjaaeedaaGreat

/- The contracts of class's tests of fields, methods and interfaces. -/
namespace Go.Proofs.YtjblmgdjaaeedaaGreat
namespace Cls
open Num Kind Op4
open Go.RowKit
set_option linter.unusedVariables false
set_option maxRecDepth 100000

theorem field1_any (nm ty : ByteArray) (st : Bool) (w : World) (h0 : nm.size ≤ maxLen) (h1 : ty.size ≤ maxLen) :
    Calls Tryz.prog 76 #[.agg #[.string nm, .string ty, .bool st]] w fun e w' => e = .returned (.bool (fieldB ⟨nm, ty, st⟩)) ∧ Below w.heap.size w w' := by
  have b0 := (Below.refl w.heap.size w).alloc (Nat.le_refl _) (.cells #[.string nm, .string ty, .bool st] 40)
  have hini := beq_nums nm [36, 105, 110, 105, 116] initL rfl
  have HN := fun W => kname_any nm W h0
  have HM := fun W => kmay_any ty W h1
  unfold fieldB
  simp only
  generalize (nums nm == initL) = qi at *
  generalize nameB (nums nm) = q1 at *
  generalize mayB (nums ty) = q2 at *
  cases qi <;> cases q1
  all_goals
    go_enter Tryz.func76, Tryz.ntmps76
    go_wp2_with (first | (go_at_call 108; refine (HN _).mono ?_; rintro e w' ⟨rfl, rfl⟩) | (go_at_call 109; refine (HM _).mono ?_; rintro e w' ⟨rfl, rfl⟩))
    go_ret
    exact ⟨ret_b (by simp), b0⟩
set_option maxHeartbeats 2000000 in
theorem fields_any (v : Value) (F : List FieldL) (w : World) (h : Sl fieldE 3 w v F) :
    Calls Tryz.prog 46 #[v] w fun e w' => e = .returned (.bool (fieldsP F)) ∧ Below w.heap.size w w' := by
  have HT : Hid _ := h
  have HFO : Hid (∀ n W, Below w.heap.size w W → _) := fun n W hb => fieldOf_any v F n W (h.later fieldE_stable hb)
  obtain ⟨a, cp, rfl, hl, hm, hnil, hx⟩ := h
  unfold maxLen at hm
  have HQ : Hid (fieldsP F = (decide (F.length ≤ 8) && allI (fun k f => fieldB f && (fplace F f.name == (k : Int))) 0 F)) := rfl
  generalize fieldsP F = R at *
  clear hx hnil
  by_cases h6 : F.length ≤ 8
  · have HQ2 : Hid (R = allI (fun k f => fieldB f && (fplace F f.name == (k : Int))) 0 F) := by show _ = _; rw [HQ.out]; simp [h6]
    clear HQ
    go_enter Tryz.func46, Tryz.ntmps46
    go_wp2_with fail
    go_loopw [3, 4, 10] (fun _ _ i wr => ∃ k : Nat, k ≤ F.length ∧ i = .int .i64 k ∧ allI (fun k f => fieldB f && (fplace F f.name == (k : Int))) k (F.drop k) = R ∧ Below w.heap.size w wr) (fun _ _ i _ => F.length - (intOf i).toNat)
    case atStart => exact ⟨0, by omega, rfl, HQ2.out.symm, Below.refl _ _⟩
    case round =>
      obtain ⟨k, hk, rfl, hall, hbel⟩ := hrel
      have HA : Hid _ := hall
      clear hall HQ2
      by_cases hlk : k < F.length
      · obtain ⟨aa, cc, ev, _, _, _, hx9⟩ := Sl.later fieldE_stable HT.out hbel
        simp only [Value.slice.injEq, true_and] at ev
        obtain ⟨rfl, rfl⟩ := ev
        obtain ⟨b9, off9, rfl, _, hx9⟩ := hx9 (by omega)
        obtain ⟨x0, x1, x2, s0, s1⟩ := hx9 k hlk
        have HS := allI_step (fun k f => fieldB f && (fplace F f.name == (k : Int))) F k hlk
        rw [HA.out] at HS
        have HS2 : Hid _ := HS
        clear HS HA hx9
        generalize F[k] = X at *
        obtain ⟨nm, ty, st⟩ := X
        simp only at x0 x1 x2 s0 s1 HS2
        have e1 := (Below.refl wr.heap.size wr).alloc (Nat.le_refl _) (.cells #[.string nm, .string ty, .bool st] 40)
        have y0 := cell_new wr #[.string nm, .string ty, .bool st] 40 0
        simp only [List.getElem?_toArray, List.getElem?_cons_zero] at y0
        have HC := fun W => field1_any nm ty st W s0 s1
        have k1 := hbel.trans (e1.mono hbel.size)
        generalize fieldB ⟨nm, ty, st⟩ = q at *
        cases q
        · have HF : Hid (R = false) := by show _ = _; rw [HS2.out]; rfl
          clear HS2
          go_wp2_with fail
          refine (HC _).mono ?_
          rintro e w2 ⟨rfl, b2⟩
          have k2 := k1.trans (b2.mono k1.size)
          go_wp2_with fail
          go_ret
          exact ⟨ret_b HF.out.symm, k2⟩
        · have HP : Hid (∃ p, fplace F nm = p) := ⟨_, rfl⟩
          obtain ⟨p, hp⟩ := HP.out
          rw [hp] at HS2
          have HFN := HFO.out nm
          rw [hp] at HFN
          have HFN2 : Hid _ := HFN
          clear HFN HP hp
          cases hpk : (p == (k : Int))
          · have HF : Hid (R = false) := by show _ = _; rw [HS2.out, hpk]; rfl
            have hpk' : (p != (k : Int)) = true := by simp only [bne, hpk]; rfl
            clear HS2 hpk
            go_wp2_with fail
            refine (HC _).mono ?_
            rintro e w2 ⟨rfl, b2⟩
            have k2 := k1.trans (b2.mono k1.size)
            have y1 := cellOn y0 b2
            go_wp2_with fail
            refine (HFN2.out _ k2).mono ?_
            rintro e w3 ⟨rfl, b3⟩
            have k3 := k2.trans (b3.mono k2.size)
            go_wp2_with fail
            go_ret
            exact ⟨ret_b HF.out.symm, k3⟩
          · have HF : Hid (allI (fun k f => fieldB f && (fplace F f.name == (k : Int))) (k + 1) (F.drop (k + 1)) = R) := by show _ = _; rw [HS2.out, hpk]; rfl
            have hpk' : (p != (k : Int)) = false := by simp only [bne, hpk]; rfl
            clear HS2 hpk
            go_wp2_with fail
            refine (HC _).mono ?_
            rintro e w2 ⟨rfl, b2⟩
            have k2 := k1.trans (b2.mono k1.size)
            have y1 := cellOn y0 b2
            go_wp2_with fail
            refine (HFN2.out _ k2).mono ?_
            rintro e w3 ⟨rfl, b3⟩
            have k3 := k2.trans (b3.mono k2.size)
            go_wp2_with fail
            go_roundw
            case rel => exact ⟨k + 1, by omega, by go_num, HF.out, k3⟩
            case measure => simp [intOf]; omega
      · have HF : Hid (R = true) := by show _ = _; rw [← HA.out, allI_end _ _ _ (by omega)]
        clear HA
        go_wp2_with fail
        go_ret
        exact ⟨ret_b HF.out.symm, hbel⟩
  · have HF : Hid (R = false) := by show _ = _; rw [HQ.out]; simp [h6]
    clear HQ
    go_enter Tryz.func46, Tryz.ntmps46
    go_wp2_with fail
    go_ret
    exact ⟨ret_b HF.out.symm, Below.refl _ _⟩
set_option maxHeartbeats 2000000 in
theorem impl_any (v : Value) (F : List ByteArray) (w : World) (h : Sl strE 1 w v F) :
    Calls Tryz.prog 45 #[v] w fun e w' => e = .returned (.bool (implP F)) ∧ w = w' := by
  have HT : Hid _ := h
  have HFO : Hid (∀ n, _) := fun n => sindex_any v F n w h
  obtain ⟨a, cp, rfl, hl, hm, hnil, hx⟩ := h
  unfold maxLen at hm
  have HQ : Hid (implP F = (decide (F.length ≤ 4) && allI (fun k f => classB (nums f) && (splace F f == (k : Int))) 0 F)) := rfl
  generalize implP F = R at *
  clear hx hnil
  by_cases h6 : F.length ≤ 4
  · have HQ2 : Hid (R = allI (fun k f => classB (nums f) && (splace F f == (k : Int))) 0 F) := by show _ = _; rw [HQ.out]; simp [h6]
    clear HQ
    go_enter Tryz.func45, Tryz.ntmps45
    go_wp2_with fail
    go_loop [3, 4, 10] (fun _ _ i => ∃ k : Nat, k ≤ F.length ∧ i = .int .i64 k ∧ allI (fun k f => classB (nums f) && (splace F f == (k : Int))) k (F.drop k) = R) (fun _ _ i => F.length - (intOf i).toNat)
    case atStart => exact ⟨0, by omega, rfl, HQ2.out.symm⟩
    case round =>
      obtain ⟨k, hk, rfl, hall⟩ := hrel
      have HA : Hid _ := hall
      clear hall HQ2
      by_cases hlk : k < F.length
      · obtain ⟨aa, cc, ev, _, _, _, hx9⟩ := HT.out
        simp only [Value.slice.injEq, true_and] at ev
        obtain ⟨rfl, rfl⟩ := ev
        obtain ⟨b9, off9, rfl, _, hx9⟩ := hx9 (by omega)
        obtain ⟨x0, s0⟩ := hx9 k hlk
        simp only [Nat.mul_one] at x0
        have HS := allI_step (fun k f => classB (nums f) && (splace F f == (k : Int))) F k hlk
        rw [HA.out] at HS
        have HS2 : Hid _ := HS
        clear HS HA hx9
        generalize F[k] = X at *
        have HC := fun W => kclass_any X W s0
        have HFN2 : Hid _ := HFO.out X
        generalize splace F X = p at *
        generalize classB (nums X) = q at *
        cases q
        · have HF : Hid (R = false) := by show _ = _; rw [HS2.out]; rfl
          clear HS2
          go_wp2_with (go_at_call 44; refine (HC _).mono ?_; rintro e w' ⟨rfl, rfl⟩)
          go_ret
          exact ⟨ret_b HF.out.symm, rfl⟩
        · cases hpk : (p == (k : Int))
          · have HF : Hid (R = false) := by show _ = _; rw [HS2.out, hpk]; rfl
            have hpk' : (p != (k : Int)) = true := by simp only [bne, hpk]; rfl
            clear HS2 hpk
            go_wp2_with (go_at_call 44; refine (HC _).mono ?_; rintro e w' ⟨rfl, rfl⟩)
            refine Calls.mono HFN2.out ?_
            rintro e w3 ⟨rfl, rfl⟩
            go_wp2_with fail
            go_ret
            exact ⟨ret_b HF.out.symm, rfl⟩
          · have HF : Hid (allI (fun k f => classB (nums f) && (splace F f == (k : Int))) (k + 1) (F.drop (k + 1)) = R) := by show _ = _; rw [HS2.out, hpk]; rfl
            have hpk' : (p != (k : Int)) = false := by simp only [bne, hpk]; rfl
            clear HS2 hpk
            go_wp2_with (go_at_call 44; refine (HC _).mono ?_; rintro e w' ⟨rfl, rfl⟩)
            refine Calls.mono HFN2.out ?_
            rintro e w3 ⟨rfl, rfl⟩
            go_wp2_with fail
            go_round
            case rel => exact ⟨k + 1, by omega, by go_num, HF.out⟩
            case measure => simp [intOf]; omega
      · have HF : Hid (R = true) := by show _ = _; rw [← HA.out, allI_end _ _ _ (by omega)]
        clear HA
        go_wp2_with fail
        go_ret
        exact ⟨ret_b HF.out.symm, rfl⟩
  · have HF : Hid (R = false) := by show _ = _; rw [HQ.out]; simp [h6]
    clear HQ
    go_enter Tryz.func45, Tryz.ntmps45
    go_wp2_with fail
    go_ret
    exact ⟨ret_b HF.out.symm, rfl⟩
end Cls
end Go.Proofs.YtjblmgdjaaeedaaGreat
