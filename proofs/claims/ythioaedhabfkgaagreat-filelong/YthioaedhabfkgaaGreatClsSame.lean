/- The contracts of class's test whether two Maps are the same. -/
import Derived.Test.YthioaedhabfkgaaGreatClsEq
import Derived.Test.YthioaedhabfkgaaGreatClsA
namespace Go.Proofs.YthioaedhabfkgaaGreat
namespace Cls
open Num Kind Op4
open Go.RowKit
set_option linter.unusedVariables false
set_option maxRecDepth 100000

theorem alloc_size (w : World) (o : Obj) : (w.alloc o).heap.size = w.heap.size + 1 := by
  unfold World.alloc
  exact Array.size_push ..
def meq (x y : MapL) : Bool := (x.at' == y.at') && (eqL seq x.locals y.locals && eqL seq x.stack y.stack)
set_option maxHeartbeats 2000000 in
theorem smap_any (a1 a2 : Int) (u1 u2 z1 z2 : Value) (l1 s1 l2 s2 : List ByteArray) (w : World) (hu1 : Sl strE 1 w u1 l1) (hz1 : Sl strE 1 w z1 s1) (hu2 : Sl strE 1 w u2 l2) (hz2 : Sl strE 1 w z2 s2) :
    Calls Tryz.prog 162 #[.agg #[.int .i64 a1, u1, z1], .agg #[.int .i64 a2, u2, z2]] w fun e w' => e = .returned (.bool (meq ⟨a1, l1, s1⟩ ⟨a2, l2, s2⟩)) ∧ Below w.heap.size w w' := by
  have b00 := (Below.refl w.heap.size w).alloc (Nat.le_refl _) (.cells #[.int .i64 a1, u1, z1] 50)
  have b0 := b00.alloc b00.size (.cells #[.int .i64 a2, u2, z2] 50)
  have H1 := sequal_any u1 u2 l1 l2 _ (hu1.later strE_stable b0) (hu2.later strE_stable b0)
  have H2 : Hid (∀ W, Below w.heap.size w W → _) := fun W hb => sequal_any z1 z2 s1 s2 W (hz1.later strE_stable hb) (hz2.later strE_stable hb)
  have x2 := cell_new w #[.int .i64 a1, u1, z1] 50 2
  have y2 := cell_new (w.alloc (.cells #[.int .i64 a1, u1, z1] 50)) #[.int .i64 a2, u2, z2] 50 2
  simp only [List.getElem?_toArray, List.getElem?_cons_zero, List.getElem?_cons_succ] at x2 y2
  rw [alloc_size] at y2
  replace x2 := cellOn x2 ((Below.refl _ _).alloc (Nat.le_refl _) (.cells #[.int .i64 a2, u2, z2] 50))
  unfold meq
  simp only
  generalize eqL seq l1 l2 = q1 at *
  generalize eqL seq s1 s2 = q2 at *
  cases hq : (a1 == a2)
  · clear x2 y2 H1 H2
    go_enter Tryz.func162, Tryz.ntmps162
    go_wp2_with fail
    go_ret
    exact ⟨rfl, b0⟩
  cases q1
  · clear x2 y2 H2
    go_enter Tryz.func162, Tryz.ntmps162
    go_wp2_with fail
    refine H1.mono ?_
    rintro e w2 ⟨rfl, b2⟩
    have k2 := b0.trans (b2.mono b0.size)
    go_wp2_with fail
    go_ret
    exact ⟨rfl, k2⟩
  go_enter Tryz.func162, Tryz.ntmps162
  go_wp2_with fail
  refine H1.mono ?_
  rintro e w2 ⟨rfl, b2⟩
  have k2 := b0.trans (b2.mono b0.size)
  replace x2 := cellOn x2 b2
  replace y2 := cellOn y2 b2
  go_wp2_with fail
  refine (H2.out _ k2).mono ?_
  rintro e w3 ⟨rfl, b3⟩
  have k3 := k2.trans (b3.mono k2.size)
  go_wp2_with fail
  go_ret
  exact ⟨rfl, k3⟩
set_option maxHeartbeats 4000000 in
theorem mapsEq_any (v v' : Value) (l m : List MapL) (w : World) (h : Sl mapE 3 w v l) (h' : Sl mapE 3 w v' m) :
    Calls Tryz.prog 161 #[v, v', .func (.func 162) #[] #[]] w fun e w' => e = .returned (.bool (eqL meq l m)) ∧ Below w.heap.size w w' := by
  have HT : Hid _ := h
  have HT' : Hid _ := h'
  obtain ⟨a, cp, rfl, hl, hm, hnil, hx⟩ := h
  obtain ⟨a', cp', rfl, hl', hm', hnil', hx'⟩ := h'
  unfold maxLen at hm hm'
  clear hx hnil hx' hnil'
  by_cases hlen : l.length = m.length
  · have hne : ((l.length : Int) != (m.length : Int)) = false := by rw [hlen]; simp
    have HLN : Hid _ := hlen
    clear hlen
    go_enter Tryz.func161, Tryz.ntmps161
    go_wp2_with fail
    go_loopw [7, 8, 9, 17] (fun _ _ _ i wr => ∃ k : Nat, k ≤ l.length ∧ i = .int .i64 k ∧ eqL meq (l.drop k) (m.drop k) = eqL meq l m ∧ Below w.heap.size w wr) (fun _ _ _ i _ => l.length - (intOf i).toNat)
    case atStart => exact ⟨0, by omega, rfl, rfl, Below.refl _ _⟩
    case round =>
      obtain ⟨k, hk, rfl, hp, hbel⟩ := hrel
      have HA : Hid _ := hp
      clear hp
      by_cases hlk : k < l.length
      · have hlk' : k < m.length := by rw [← HLN.out]; exact hlk
        obtain ⟨aa, cc, ev, _, _, _, hx9⟩ := Sl.later mapE_stable HT.out hbel
        simp only [Value.slice.injEq, true_and] at ev
        obtain ⟨rfl, rfl⟩ := ev
        obtain ⟨b9, off9, rfl, _, hx9⟩ := hx9 (by omega)
        obtain ⟨u1, z1, x0, x1, x2, S1, S2⟩ := hx9 k hlk
        obtain ⟨aa, cc, ev, _, _, _, hx8⟩ := Sl.later mapE_stable HT'.out hbel
        simp only [Value.slice.injEq, true_and] at ev
        obtain ⟨rfl, rfl⟩ := ev
        obtain ⟨b8, off8, rfl, _, hx8⟩ := hx8 (by omega)
        obtain ⟨u2, z2, y0, y1, y2, S3, S4⟩ := hx8 k hlk'
        have HS := eqL_step meq l m k hlk hlk'
        rw [HA.out] at HS
        have HS2 : Hid _ := HS
        clear HS HA hx9 hx8 hne
        generalize l[k] = X at *
        generalize m[k] = Y at *
        obtain ⟨a1, l1, s1⟩ := X
        obtain ⟨a2, l2, s2⟩ := Y
        simp only at x0 x1 x2 y0 y1 y2 S1 S2 S3 S4
        have HS1 : Hid _ := S1
        have HSb : Hid _ := S2
        have HSc : Hid _ := S3
        have HSd : Hid _ := S4
        obtain ⟨aL, cL, rfl, _, _, _, _⟩ := S1
        obtain ⟨aS, cS, rfl, _, _, _, _⟩ := S2
        obtain ⟨aM, cM, rfl, _, _, _, _⟩ := S3
        obtain ⟨aT, cT, rfl, _, _, _, _⟩ := S4
        have e0 := (Below.refl wr.heap.size wr).alloc (Nat.le_refl _) (.cells #[.int .i64 a1, .slice aL l1.length cL, .slice aS s1.length cS] 50)
        have e1 := e0.alloc e0.size (.cells #[.int .i64 a2, .slice aM l2.length cM, .slice aT s2.length cT] 50)
        have y0' := cellOn y0 e0
        have y1' := cellOn y1 e0
        have y2' := cellOn y2 e0
        have HC := smap_any a1 a2 _ _ _ _ l1 s1 l2 s2 _ (Sl.later strE_stable HS1.out e1) (Sl.later strE_stable HSb.out e1) (Sl.later strE_stable HSc.out e1) (Sl.later strE_stable HSd.out e1)
        have k1 := hbel.trans (e1.mono hbel.size)
        clear HS1 HSb HSc HSd
        generalize meq ⟨a1, l1, s1⟩ ⟨a2, l2, s2⟩ = q at *
        cases q
        · have HF : Hid (eqL meq l m = false) := by show _ = _; rw [HS2.out]; rfl
          clear HS2
          go_wp2_with fail
          refine HC.mono ?_
          rintro e w2 ⟨rfl, b2⟩
          have k2 := k1.trans (b2.mono k1.size)
          go_wp2_with fail
          go_ret
          exact ⟨ret_b HF.out.symm, k2⟩
        · have HF : Hid (eqL meq (l.drop (k + 1)) (m.drop (k + 1)) = eqL meq l m) := by show _ = _; rw [HS2.out]; rfl
          clear HS2
          go_wp2_with fail
          refine HC.mono ?_
          rintro e w2 ⟨rfl, b2⟩
          have k2 := k1.trans (b2.mono k1.size)
          go_wp2_with fail
          go_roundw
          case rel => exact ⟨k + 1, by omega, by go_num, HF.out, k2⟩
          case measure => simp [intOf]; omega
      · have HF : Hid (eqL meq l m = true) := by show _ = _; rw [← HA.out, eqL_end _ _ _ _ (by omega) (by rw [← HLN.out]; omega)]
        clear HA
        go_wp2_with fail
        go_ret
        exact ⟨ret_b HF.out.symm, hbel⟩
  · have hne : ((l.length : Int) != (m.length : Int)) = true := by simp; omega
    have HF : Hid (eqL meq l m = false) := eqL_len _ _ _ hlen
    clear hlen
    go_enter Tryz.func161, Tryz.ntmps161
    go_wp2_with fail
    go_ret
    exact ⟨ret_b HF.out.symm, Below.refl _ _⟩
end Cls
end Go.Proofs.YthioaedhabfkgaaGreat
