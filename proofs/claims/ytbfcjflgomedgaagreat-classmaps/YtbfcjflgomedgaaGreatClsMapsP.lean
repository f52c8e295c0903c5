/- The contract of class's test of a method's Maps. -/
import Derived.Test.YtbfcjflgomedgaaGreatClsStand
namespace Go.Proofs.YtbfcjflgomedgaaGreat
namespace Cls
open Num Kind Op4
open Go.RowKit
set_option linter.unusedVariables false
set_option maxRecDepth 100000

theorem mapsP_step (n : Nat) (lo sk least : Int) (l : List MapL) (k : Nat) (h : k < l.length) : mapsP n lo sk least (l.drop k) = ((withinB l[k].at' least ((n : Int) - 1) && standB lo sk l[k]) && mapsP n lo sk (l[k].at' + 1) (l.drop (k + 1))) := by
  rw [List.drop_eq_getElem_cons h]
  rfl
theorem mapsP_end (n : Nat) (lo sk least : Int) (l : List MapL) (k : Nat) (h : l.length ≤ k) : mapsP n lo sk least (l.drop k) = true := by
  rw [List.drop_eq_nil_of_le h]
  rfl
structure MethCells (w : World) (B : Nat) (nm : ByteArray) (v1 : Value) (rt : ByteArray) (st ab : Bool) (lo sk : Int) (v7 v8 v9 : Value) : Prop where
  c0 : w.cell? ⟨B, 0, none⟩ = some (.string nm)
  c1 : w.cell? ⟨B, 1, none⟩ = some v1
  c2 : w.cell? ⟨B, 2, none⟩ = some (.string rt)
  c3 : w.cell? ⟨B, 3, none⟩ = some (.bool st)
  c4 : w.cell? ⟨B, 4, none⟩ = some (.bool ab)
  c5 : w.cell? ⟨B, 5, none⟩ = some (.int .i64 lo)
  c6 : w.cell? ⟨B, 6, none⟩ = some (.int .i64 sk)
  c7 : w.cell? ⟨B, 7, none⟩ = some v7
  c8 : w.cell? ⟨B, 8, none⟩ = some v8
  c9 : w.cell? ⟨B, 9, none⟩ = some v9
theorem MethCells.later {w w' : World} {B : Nat} {nm : ByteArray} {v1 : Value} {rt : ByteArray} {st ab : Bool} {lo sk : Int} {v7 v8 v9 : Value} (h : MethCells w B nm v1 rt st ab lo sk v7 v8 v9) (hb : Below w.heap.size w w') : MethCells w' B nm v1 rt st ab lo sk v7 v8 v9 :=
  ⟨cellOn h.c0 hb, cellOn h.c1 hb, cellOn h.c2 hb, cellOn h.c3 hb, cellOn h.c4 hb, cellOn h.c5 hb, cellOn h.c6 hb, cellOn h.c7 hb, cellOn h.c8 hb, cellOn h.c9 hb⟩
theorem MethCells.new (w : World) (nm : ByteArray) (v1 : Value) (rt : ByteArray) (st ab : Bool) (lo sk : Int) (v7 v8 v9 : Value) (t : Nat) : MethCells (w.alloc (.cells #[.string nm, v1, .string rt, .bool st, .bool ab, .int .i64 lo, .int .i64 sk, v7, v8, v9] t)) w.heap.size nm v1 rt st ab lo sk v7 v8 v9 :=
  ⟨cell_new _ _ _ 0, cell_new _ _ _ 1, cell_new _ _ _ 2, cell_new _ _ _ 3, cell_new _ _ _ 4, cell_new _ _ _ 5, cell_new _ _ _ 6, cell_new _ _ _ 7, cell_new _ _ _ 8, cell_new _ _ _ 9⟩

set_option maxHeartbeats 4000000 in
theorem maps_any (nm rt : ByteArray) (st ab : Bool) (lo sk : Int) (v1 v7 v8 v9 : Value) (code : List InsL) (l : List MapL) (w : World) (h7 : Sl insE 4 w v7 code) (h8 : Sl mapE 3 w v8 l) (hn : code.length ≤ 100) :
    Calls Tryz.prog 65 #[.agg #[.string nm, v1, .string rt, .bool st, .bool ab, .int .i64 lo, .int .i64 sk, v7, v8, v9]] w fun e w' => e = .returned (.bool (decide (l.length ≤ 100) && mapsP code.length lo sk 0 l)) ∧ Below w.heap.size w w' := by
  have b0 := (Below.refl w.heap.size w).alloc (Nat.le_refl _) (.cells #[.string nm, v1, .string rt, .bool st, .bool ab, .int .i64 lo, .int .i64 sk, v7, v8, v9] 35)
  have M := MethCells.new w nm v1 rt st ab lo sk v7 v8 v9 35
  have HT : Hid _ := h8
  obtain ⟨a8, cp8, rfl, hl8, hm8, _, hx8⟩ := h8
  obtain ⟨a7, cp7, rfl, hl7, hm7, _, hx7⟩ := h7
  unfold maxLen at hm7 hm8
  clear hx7 hx8
  generalize hcn : code.length = n at *
  clear hcn
  have hsub : IntKind.i64.wrap ((n : Int) - 1) = (n : Int) - 1 := IntWalk.i64_in _ (by omega)
  by_cases h6 : l.length ≤ 100
  · have h6' : (decide (l.length ≤ 100)) = true := by simpa using h6
    rw [h6', Bool.true_and]
    go_enter Tryz.func65, Tryz.ntmps65
    go_wp2_with fail
    go_loopw [3, 5, 13] (fun ls _ i wr => ∃ (k : Nat) (least : Int), 0 ≤ least ∧ k ≤ l.length ∧ i = .int .i64 k ∧ ls = .int .i64 least ∧ mapsP n lo sk least (l.drop k) = mapsP n lo sk 0 l ∧ MethCells wr w.heap.size nm v1 rt st ab lo sk (.slice a7 n cp7) (.slice a8 l.length cp8) v9 ∧ Below w.heap.size w wr) (fun _ _ i _ => l.length - (intOf i).toNat)
    case atStart => exact ⟨0, 0, by omega, by omega, rfl, rfl, rfl, M, b0⟩
    case round =>
      clear M b0
      obtain ⟨k, least, hls, hk, rfl, rfl, hall, M, hbel⟩ := hrel
      have HA : Hid _ := hall
      clear hall
      have HM : Hid _ := M
      obtain ⟨c0, c1, c2, c3, c4, c5, c6, c7, c8, c9⟩ := M
      by_cases hlk : k < l.length
      · obtain ⟨aa, cc, ev, _, _, _, hx9⟩ := Sl.later mapE_stable HT.out hbel
        simp only [Value.slice.injEq, true_and] at ev
        obtain ⟨rfl, rfl⟩ := ev
        obtain ⟨b9, off9, rfl, _, hx9⟩ := hx9 (by omega)
        obtain ⟨u1, u2, x0, x1, x2, S1, S2⟩ := hx9 k hlk
        have HS := mapsP_step n lo sk least l k hlk
        rw [HA.out] at HS
        have HS2 : Hid _ := HS
        clear HS HA hx9
        generalize l[k] = X at *
        obtain ⟨at0, los, sts⟩ := X
        simp only at x0 x1 x2 S1 S2 HS2
        have HS1 : Hid _ := S1
        have HS3 : Hid _ := S2
        obtain ⟨aL, cL, rfl, _, _, _, _⟩ := S1
        obtain ⟨aS, cS, rfl, _, _, _, _⟩ := S2
        have e1 := (Below.refl wr.heap.size wr).alloc (Nat.le_refl _) (.cells #[.int .i64 at0, (.slice aL los.length cL), (.slice aS sts.length cS)] 39)
        have HST := stand_any at0 (.slice aL los.length cL) (.slice aS sts.length cS) los sts nm rt st ab lo sk v1 (.slice a7 n cp7) (.slice (some ⟨b9, off9, none⟩) l.length cp8) v9 _ (Sl.later strE_stable HS1.out e1) (Sl.later strE_stable HS3.out e1)
        have HMM := HM.out.later e1
        have x0' := cell_new wr #[.int .i64 at0, (.slice aL los.length cL), (.slice aS sts.length cS)] 39 0
        have x1' := cell_new wr #[.int .i64 at0, (.slice aL los.length cL), (.slice aS sts.length cS)] 39 1
        have x2' := cell_new wr #[.int .i64 at0, (.slice aL los.length cL), (.slice aS sts.length cS)] 39 2
        simp only [List.getElem?_toArray, List.getElem?_cons_succ, List.getElem?_cons_zero] at x0' x1' x2'
        have HWI := fun W => within_any at0 least ((n : Int) - 1) W
        have HB : Hid (withinB at0 least ((n : Int) - 1) = true → 0 ≤ at0 ∧ at0 < 1000) := fun hh => by unfold withinB at hh; simp at hh; omega
        obtain ⟨d0, d1, d2, d3, d4, d5, d6, d7, d8, d9⟩ := HMM
        have k1 := hbel.trans (e1.mono hbel.size)
        have HK : Hid _ := HM.out.later e1
        clear HS1 HS3 HM
        generalize withinB at0 least ((n : Int) - 1) = q1 at *
        generalize standB lo sk ⟨at0, los, sts⟩ = q2 at *
        cases q1
        · have HF : Hid (mapsP n lo sk 0 l = false) := by show _ = _; rw [HS2.out]; rfl
          clear HS2 HST HB
          go_wp2_with (go_at_call 87; refine (HWI _).mono ?_; rintro e w' ⟨rfl, rfl⟩)
          go_ret
          exact ⟨ret_b HF.out.symm, k1⟩
        · obtain ⟨hat0, hat1⟩ := HB.out rfl
          cases q2
          · have HF : Hid (mapsP n lo sk 0 l = false) := by show _ = _; rw [HS2.out]; rfl
            clear HS2 HB
            go_wp2_with (go_at_call 87; refine (HWI _).mono ?_; rintro e w' ⟨rfl, rfl⟩)
            refine HST.mono ?_
            rintro e w2 ⟨rfl, b2⟩
            have k2 := k1.trans (b2.mono k1.size)
            go_wp2_with fail
            go_ret
            exact ⟨ret_b HF.out.symm, k2⟩
          · have HF : Hid (mapsP n lo sk (at0 + 1) (l.drop (k + 1)) = mapsP n lo sk 0 l) := by show _ = _; rw [HS2.out]; simp
            have hadd : IntKind.i64.wrap (at0 + 1) = at0 + 1 := IntWalk.i64_in _ (by omega)
            clear HS2 HB
            go_wp2_with (go_at_call 87; refine (HWI _).mono ?_; rintro e w' ⟨rfl, rfl⟩)
            refine HST.mono ?_
            rintro e w2 ⟨rfl, b2⟩
            have k2 := k1.trans (b2.mono k1.size)
            have z0 := cellOn x0' b2
            go_wp2_with fail
            go_roundw
            case rel => exact ⟨k + 1, at0 + 1, by omega, by omega, by go_num, by first | rfl | rw [hadd], HF.out, HK.out.later b2, k2⟩
            case measure => simp [intOf]; omega
      · have HF : Hid (mapsP n lo sk 0 l = true) := by show _ = _; rw [← HA.out, mapsP_end _ _ _ _ _ _ (by omega)]
        clear HA HM
        go_wp2_with fail
        go_ret
        exact ⟨ret_b HF.out.symm, hbel⟩
  · have h6' : (decide (l.length ≤ 100)) = false := by simpa using h6
    rw [h6', Bool.false_and]
    go_enter Tryz.func65, Tryz.ntmps65
    go_wp2_with fail
    go_ret
    exact ⟨rfl, b0⟩
end Cls
end Go.Proofs.YtbfcjflgomedgaaGreat
