/- Contracts and laws, texts of mine put into one. -/
import Derived.Test.YtjblmgdjaaeedaaGreatClsEqG
import Derived.Test.YtjblmgdjaaeedaaGreatFilW
import Derived.Test.YtjblmgdjaaeedaaGreatBaseOp
import Derived.Deep.RegionWith
import Derived.Deep.CutRange
import Derived.Deep.RegionHeld
import Derived.Handy
/- The contract of the document's EqTexts. (Written by tools/gen/genrefeq.py.) -/
namespace Go.Proofs.YtjblmgdjaaeedaaGreat
namespace Fil
open Num Kind Op4 Cls
open Go.RowKit
set_option linter.unusedVariables false
set_option linter.unusedSimpArgs false
set_option maxRecDepth 100000

set_option maxHeartbeats 4000000 in
theorem etexts_any (v v' : Value) (l m : List ByteArray) (w : World) (h : Sl strE 1 w v l) (h' : Sl strE 1 w v' m) :
    Calls Tryz.prog 40 #[v, v'] w fun e w' => e = .returned (.bool (eqL seq l m)) ∧ Below w.heap.size w w' := by
  have HT : Hid _ := h
  have HT' : Hid _ := h'
  obtain ⟨a, cp, rfl, hl, hm, hnil, hx⟩ := h
  obtain ⟨a', cp', rfl, hl', hm', hnil', hx'⟩ := h'
  unfold maxLen at hm hm'
  clear hx hnil hx' hnil'
  by_cases hlen : l.length = m.length
  · have hne : ((l.length : Int) != (m.length : Int)) = false := by rw [hlen]; simp
    have HLN : Hid _ := hlen
    clear hlen
    go_enter Tryz.func40, Tryz.ntmps40
    go_wp2_with fail
    go_loopw [5] (fun i wr => ∃ k : Nat, k ≤ l.length ∧ i = .int .i64 k ∧ eqL seq (l.drop k) (m.drop k) = eqL seq l m ∧ Below w.heap.size w wr) (fun i _ => l.length - (intOf i).toNat)
    case atStart => exact ⟨0, by omega, rfl, rfl, Below.refl _ _⟩
    case round =>
      obtain ⟨k, hk, rfl, hp, hbel⟩ := hrel
      have HA : Hid _ := hp
      clear hp
      by_cases hlk : k < l.length
      · have hlk' : k < m.length := by rw [← HLN.out]; exact hlk
        obtain ⟨aa, cc, ev, _, _, _, hx9⟩ := Sl.later strE_stable HT.out hbel
        simp only [Value.slice.injEq, true_and] at ev
        obtain ⟨rfl, rfl⟩ := ev
        obtain ⟨b9, off9, rfl, _, hx9⟩ := hx9 (by omega)
        obtain ⟨x0, s0⟩ := hx9 k hlk
        obtain ⟨aa, cc, ev, _, _, _, hx8⟩ := Sl.later strE_stable HT'.out hbel
        simp only [Value.slice.injEq, true_and] at ev
        obtain ⟨rfl, rfl⟩ := ev
        obtain ⟨b8, off8, rfl, _, hx8⟩ := hx8 (by omega)
        obtain ⟨y0, t0⟩ := hx8 k hlk'
        simp only [Nat.mul_one] at x0 y0
        have HS := eqL_step seq l m k hlk hlk'
        rw [HA.out] at HS
        have HS2 : Hid _ := HS
        clear HS HA hx9 hx8 hne
        unfold seq at HS2
        generalize l[k] = X at *
        generalize m[k] = Y at *
        cases hq1 : (X.toList == Y.toList)
        case false =>
          have HF : Hid (eqL seq l m = false) := by
            show _ = _
            have := HS2.out
            rw [hq1] at this
            exact this.trans (by simp)
          clear HS2
          go_wp2_with fail
          go_quiet (fail)
          go_wp2_with fail
          go_ret
          exact ⟨ret_b HF.out.symm, hbel.trans ((Joins.below_draws _ _ _).mono hbel.size)⟩
        have HF : Hid (eqL seq (l.drop (k + 1)) (m.drop (k + 1)) = eqL seq l m) := by
          show _ = _
          have := HS2.out
          rw [hq1] at this
          exact this.symm
        clear HS2
        go_wp2_with fail
        go_quiet (fail)
        go_wp2_with fail
        go_roundw
        case rel => exact ⟨k + 1, by omega, by go_num, HF.out, hbel.trans ((Joins.below_draws _ _ _).mono hbel.size)⟩
        case measure => simp [intOf]; omega
      · have HF : Hid (eqL seq l m = true) := by show _ = _; rw [← HA.out, eqL_end _ _ _ _ (by omega) (by rw [← HLN.out]; omega)]
        clear HA
        go_wp2_with fail
        go_ret
        exact ⟨ret_b HF.out.symm, hbel⟩
  · have hne : ((l.length : Int) != (m.length : Int)) = true := by simp; omega
    have HF : Hid (eqL seq l m = false) := eqL_len _ _ _ hlen
    clear hlen
    go_enter Tryz.func40, Tryz.ntmps40
    go_wp2_with fail
    go_ret
    exact ⟨ret_b HF.out.symm, Below.refl _ _⟩
end Fil
end Go.Proofs.YtjblmgdjaaeedaaGreat

/- The contract of the document's eqMethod of two methods that are the same. (Written by tools/gen/genrefsame.py.) -/
namespace Go.Proofs.YtjblmgdjaaeedaaGreat
namespace Fil
open Num Kind Op4 Cls
open Go.RowKit
set_option linter.unusedVariables false
set_option linter.unusedSimpArgs false
set_option maxRecDepth 100000

theorem eqL_self {α : Type} (p : α → α → Bool) (hp : ∀ x, p x x = true) : ∀ l : List α, eqL p l l = true
  | [] => rfl
  | x :: r => by
    show (p x x && eqL p r r) = true
    rw [hp, eqL_self p hp r]
    rfl
theorem seq_self (l : List ByteArray) : eqL seq l l = true := eqL_self seq (fun x => by simp [seq]) l
structure C3 (w : World) (B : Nat) (u0 u1 u2 : Value) : Prop where
  c0 : w.cell? ⟨B, 0, none⟩ = some u0
  c1 : w.cell? ⟨B, 1, none⟩ = some u1
  c2 : w.cell? ⟨B, 2, none⟩ = some u2
theorem C3.later {w w' : World} {B : Nat} {u0 u1 u2 : Value} (h : C3 w B u0 u1 u2) (hb : Below w.heap.size w w') : C3 w' B u0 u1 u2 := ⟨cellOn h.c0 hb, cellOn h.c1 hb, cellOn h.c2 hb⟩
structure C4 (w : World) (B : Nat) (u0 u1 u2 u3 : Value) : Prop where
  c0 : w.cell? ⟨B, 0, none⟩ = some u0
  c1 : w.cell? ⟨B, 1, none⟩ = some u1
  c2 : w.cell? ⟨B, 2, none⟩ = some u2
  c3 : w.cell? ⟨B, 3, none⟩ = some u3
theorem C4.later {w w' : World} {B : Nat} {u0 u1 u2 u3 : Value} (h : C4 w B u0 u1 u2 u3) (hb : Below w.heap.size w w') : C4 w' B u0 u1 u2 u3 := ⟨cellOn h.c0 hb, cellOn h.c1 hb, cellOn h.c2 hb, cellOn h.c3 hb⟩
theorem C3.new (w : World) (u0 u1 u2 : Value) (t : Nat) : C3 (w.alloc (.cells #[u0, u1, u2] t)) w.heap.size u0 u1 u2 := ⟨cell_new _ _ _ 0, cell_new _ _ _ 1, cell_new _ _ _ 2⟩
theorem C3.two (w : World) (u0 u1 u2 z0 z1 z2 : Value) (t : Nat) : C3 ((w.alloc (.cells #[u0, u1, u2] t)).alloc (.cells #[z0, z1, z2] t)).drew w.heap.size u0 u1 u2 ∧ C3 ((w.alloc (.cells #[u0, u1, u2] t)).alloc (.cells #[z0, z1, z2] t)).drew (w.heap.size + 1) z0 z1 z2 ∧ Below w.heap.size w ((w.alloc (.cells #[u0, u1, u2] t)).alloc (.cells #[z0, z1, z2] t)).drew := by
  have k1 := alloc1 w (.cells #[u0, u1, u2] t)
  have k2 := alloc1 (w.alloc (.cells #[u0, u1, u2] t)) (.cells #[z0, z1, z2] t)
  have kd : Below ((w.alloc (.cells #[u0, u1, u2] t)).alloc (.cells #[z0, z1, z2] t)).heap.size ((w.alloc (.cells #[u0, u1, u2] t)).alloc (.cells #[z0, z1, z2] t)) _ := (Below.refl _ _).drew
  have h2 := C3.new (w.alloc (.cells #[u0, u1, u2] t)) z0 z1 z2 t
  rw [alloc_size] at h2
  have k12 := k1.trans (k2.mono k1.size)
  exact ⟨((C3.new w u0 u1 u2 t).later k2).later kd, h2.later kd, k12.trans (kd.mono k12.size)⟩
theorem C4.new (w : World) (u0 u1 u2 u3 : Value) (t : Nat) : C4 (w.alloc (.cells #[u0, u1, u2, u3] t)) w.heap.size u0 u1 u2 u3 := ⟨cell_new _ _ _ 0, cell_new _ _ _ 1, cell_new _ _ _ 2, cell_new _ _ _ 3⟩
theorem C4.two (w : World) (u0 u1 u2 u3 z0 z1 z2 z3 : Value) (t : Nat) : C4 ((w.alloc (.cells #[u0, u1, u2, u3] t)).alloc (.cells #[z0, z1, z2, z3] t)).drew w.heap.size u0 u1 u2 u3 ∧ C4 ((w.alloc (.cells #[u0, u1, u2, u3] t)).alloc (.cells #[z0, z1, z2, z3] t)).drew (w.heap.size + 1) z0 z1 z2 z3 ∧ Below w.heap.size w ((w.alloc (.cells #[u0, u1, u2, u3] t)).alloc (.cells #[z0, z1, z2, z3] t)).drew := by
  have k1 := alloc1 w (.cells #[u0, u1, u2, u3] t)
  have k2 := alloc1 (w.alloc (.cells #[u0, u1, u2, u3] t)) (.cells #[z0, z1, z2, z3] t)
  have kd : Below ((w.alloc (.cells #[u0, u1, u2, u3] t)).alloc (.cells #[z0, z1, z2, z3] t)).heap.size ((w.alloc (.cells #[u0, u1, u2, u3] t)).alloc (.cells #[z0, z1, z2, z3] t)) _ := (Below.refl _ _).drew
  have h2 := C4.new (w.alloc (.cells #[u0, u1, u2, u3] t)) z0 z1 z2 z3 t
  rw [alloc_size] at h2
  have k12 := k1.trans (k2.mono k1.size)
  exact ⟨((C4.new w u0 u1 u2 u3 t).later k2).later kd, h2.later kd, k12.trans (kd.mono k12.size)⟩
set_option maxHeartbeats 16000000 in
theorem emeth_same (nm rt : ByteArray) (st ab : Bool) (lo sk : Int) (ps : List ByteArray) (cd : List InsL) (mp : List MapL) (tr : List TrapL) (q11 q71 q81 q91 : Option Addr) (d11 d71 d81 d91 : Nat) (q12 q72 q82 q92 : Option Addr) (d12 d72 d82 d92 : Nat) (w : World) (h1 : MethV w (.slice q11 ps.length d11) (.slice q71 cd.length d71) (.slice q81 mp.length d81) (.slice q91 tr.length d91) ⟨nm, ps, rt, st, ab, lo, sk, cd, mp, tr⟩) (h2 : MethV w (.slice q12 ps.length d12) (.slice q72 cd.length d72) (.slice q82 mp.length d82) (.slice q92 tr.length d92) ⟨nm, ps, rt, st, ab, lo, sk, cd, mp, tr⟩) :
    Calls Tryz.prog 41 #[.agg #[.string nm, .slice q11 ps.length d11, .string rt, .bool st, .bool ab, .int .i64 lo, .int .i64 sk, .slice q71 cd.length d71, .slice q81 mp.length d81, .slice q91 tr.length d91], .agg #[.string nm, .slice q12 ps.length d12, .string rt, .bool st, .bool ab, .int .i64 lo, .int .i64 sk, .slice q72 cd.length d72, .slice q82 mp.length d82, .slice q92 tr.length d92]] w fun e w' => e = .returned (.bool true) ∧ Below w.heap.size w w' := by
  have b00 := alloc1 w (.cells #[.string nm, .slice q11 ps.length d11, .string rt, .bool st, .bool ab, .int .i64 lo, .int .i64 sk, .slice q71 cd.length d71, .slice q81 mp.length d81, .slice q91 tr.length d91] 46)
  have b0 := b00.trans ((alloc1 (w.alloc (.cells #[.string nm, .slice q11 ps.length d11, .string rt, .bool st, .bool ab, .int .i64 lo, .int .i64 sk, .slice q71 cd.length d71, .slice q81 mp.length d81, .slice q91 tr.length d91] 46)) (.cells #[.string nm, .slice q12 ps.length d12, .string rt, .bool st, .bool ab, .int .i64 lo, .int .i64 sk, .slice q72 cd.length d72, .slice q82 mp.length d82, .slice q92 tr.length d92] 46)).mono b00.size)
  have M := MethCells.two w nm (.slice q11 ps.length d11) rt st ab lo sk (.slice q71 cd.length d71) (.slice q81 mp.length d81) (.slice q91 tr.length d91) nm (.slice q12 ps.length d12) rt st ab lo sk (.slice q72 cd.length d72) (.slice q82 mp.length d82) (.slice q92 tr.length d92) 46
  have H1 := etexts_any _ _ ps ps _ (h1.params.later strE_stable b0) (h2.params.later strE_stable b0)
  rw [seq_self] at H1
  have HM1 : Hid _ := h1
  have HM2 : Hid _ := h2
  clear h1 h2 b00
  go_enter Tryz.func41, Tryz.ntmps41
  go_wp2_with fail
  refine H1.mono ?_
  rintro e w2 ⟨rfl, b2⟩
  have k2 := b0.trans (b2.mono b0.size)
  have M2 := And.intro (M.1.later b2) (M.2.later b2)
  have HM1 : Hid _ := HM1.out.later k2
  have HM2 : Hid _ := HM2.out.later k2
  have hcd : cd.length ≤ 9223372036854775807 := by obtain ⟨_, _, e, h1, h2, _⟩ := HM1.out.code; simp only at h1; unfold maxLen at h2; omega
  have hmp : mp.length ≤ 9223372036854775807 := by obtain ⟨_, _, e, h1, h2, _⟩ := HM1.out.maps; simp only at h1; unfold maxLen at h2; omega
  have htr : tr.length ≤ 9223372036854775807 := by obtain ⟨_, _, e, h1, h2, _⟩ := HM1.out.traps; simp only at h1; unfold maxLen at h2; omega
  have HMM : Hid _ := M2
  obtain ⟨x0, x1, x2, x3, x4, x5, x6, x7, x8, x9⟩ := M2.1
  obtain ⟨y0, y1, y2, y3, y4, y5, y6, y7, y8, y9⟩ := M2.2
  go_wp2_with fail
  clear x0 x1 x2 x3 x4 x5 x6 x7 x8 x9 y0 y1 y2 y3 y4 y5 y6 y7 y8 y9 M2 M H1 b0 b2
  go_loopw [5] (fun i wr => ∃ k : Nat, k ≤ cd.length ∧ i = .int .i64 k ∧ Below w2.heap.size w2 wr) (fun i _ => cd.length - (intOf i).toNat)
  case atStart => exact ⟨0, by omega, rfl, Below.refl _ _⟩
  case round =>
    obtain ⟨k, hk, rfl, hbel⟩ := hrel
    by_cases hlk : k < cd.length
    · obtain ⟨_, _, _, _, _, _, _, x7, _, _⟩ := HMM.out.1.later hbel
      obtain ⟨_, _, _, _, _, _, _, y7, _, _⟩ := HMM.out.2.later hbel
      go_upto_region 6 with fail
      obtain ⟨aa, cc, ev, _, _, _, hx9⟩ := Sl.later insE_stable HM1.out.code hbel
      simp only [Value.slice.injEq, true_and] at ev
      obtain ⟨rfl, rfl⟩ := ev
      obtain ⟨b9, off9, rfl, _, hx9⟩ := hx9 (by simp only; omega)
      obtain ⟨⟨u0, u1, u2, u3⟩, _, _⟩ := hx9 k hlk
      obtain ⟨aa, cc, ev, _, _, _, hx8⟩ := Sl.later insE_stable HM2.out.code hbel
      simp only [Value.slice.injEq, true_and] at ev
      obtain ⟨rfl, rfl⟩ := ev
      obtain ⟨b8, off8, rfl, _, hx8⟩ := hx8 (by simp only; omega)
      obtain ⟨⟨p0, p1, p2, p3⟩, _, _⟩ := hx8 k hlk
      have HC := fun W => eq_any cd[k].o cd[k].a cd[k].c cd[k].m cd[k].o cd[k].a cd[k].c cd[k].m W
      simp only [eqB_self, insV] at HC
      simp only at u0 u1 u2 u3 p0 p1 p2 p3
      clear hx9 hx8
      generalize cd[k] = X at *
      have kk : Below wr.heap.size wr wr.drew := (Below.refl _ _).drew
      go_region_held (fun W' => W'.cell? ⟨w.heap.size, 7, none⟩ = some (.slice (some ⟨b9, off9, none⟩) cd.length d71) ∧ W'.cell? ⟨w.heap.size + 1, 7, none⟩ = some (.slice (some ⟨b8, off8, none⟩) cd.length d72) ∧ W'.cell? ⟨b9, off9 + k * 4, none⟩ = some (.int .i64 X.o) ∧ W'.cell? ⟨b9, off9 + k * 4 + 1, none⟩ = some (.int .i64 X.a) ∧ W'.cell? ⟨b9, off9 + k * 4 + 2, none⟩ = some (.string X.c) ∧ W'.cell? ⟨b9, off9 + k * 4 + 3, none⟩ = some (.string X.m) ∧ W'.cell? ⟨b8, off8 + k * 4, none⟩ = some (.int .i64 X.o) ∧ W'.cell? ⟨b8, off8 + k * 4 + 1, none⟩ = some (.int .i64 X.a) ∧ W'.cell? ⟨b8, off8 + k * 4 + 2, none⟩ = some (.string X.c) ∧ W'.cell? ⟨b8, off8 + k * 4 + 3, none⟩ = some (.string X.m)) (first | assumption | exact ⟨cellOn x7 kk, cellOn y7 kk, cellOn u0 kk, cellOn u1 kk, cellOn u2 kk, cellOn u3 kk, cellOn p0 kk, cellOn p1 kk, cellOn p2 kk, cellOn p3 kk⟩) (first | (go_at_call 68; refine (HC _).mono ?_; rintro e w' ⟨rfl, b'⟩; have kk := kk.trans (b'.mono kk.size)))
      all_goals
        have hb3 := hbel.trans (kk.mono hbel.size)
        go_wp2_with fail
        go_roundw
        case rel => exact ⟨k + 1, by omega, by go_num, hb3⟩
        case measure => simp [intOf]; omega
    obtain ⟨wo, hwo⟩ : ∃ x, x = wr := ⟨_, rfl⟩
    subst hwo
    obtain ⟨_, _, _, _, _, _, _, x7, x8, x9⟩ := HMM.out.1.later hbel
    obtain ⟨_, _, _, _, _, _, _, y7, y8, y9⟩ := HMM.out.2.later hbel
    go_wp2_with fail
    clear x7 x8 x9 y7 y8 y9
    have k3 := k2.trans (hbel.mono k2.size)
    have HMM3 : Hid _ := And.intro (HMM.out.1.later hbel) (HMM.out.2.later hbel)
    have HM13 : Hid _ := HM1.out.later hbel
    have HM23 : Hid _ := HM2.out.later hbel
    go_loopw [6] (fun i wr' => ∃ k : Nat, k ≤ mp.length ∧ i = .int .i64 k ∧ Below wo.heap.size wo wr') (fun i _ => mp.length - (intOf i).toNat)
    case atStart => exact ⟨0, by omega, rfl, Below.refl _ _⟩
    case round =>
      clear hbel hk hlk HMM HM1 HM2
      obtain ⟨k, hk, rfl, hbel⟩ := hrel
      by_cases hlk : k < mp.length
      · obtain ⟨_, _, _, _, _, _, _, _, x8, _⟩ := HMM3.out.1.later hbel
        obtain ⟨_, _, _, _, _, _, _, _, y8, _⟩ := HMM3.out.2.later hbel
        go_upto_region 11 with fail
        obtain ⟨aa, cc, ev, _, _, _, hx9⟩ := Sl.later mapE_stable HM13.out.maps hbel
        simp only [Value.slice.injEq, true_and] at ev
        obtain ⟨rfl, rfl⟩ := ev
        obtain ⟨b9, off9, rfl, _, hx9⟩ := hx9 (by simp only; omega)
        obtain ⟨vL, vS, u0, u1, u2, sL, sS⟩ := hx9 k hlk
        obtain ⟨aa, cc, ev, _, _, _, hx8⟩ := Sl.later mapE_stable HM23.out.maps hbel
        simp only [Value.slice.injEq, true_and] at ev
        obtain ⟨rfl, rfl⟩ := ev
        obtain ⟨b8, off8, rfl, _, hx8⟩ := hx8 (by simp only; omega)
        obtain ⟨vL2, vS2, p0, p1, p2, sL2, sS2⟩ := hx8 k hlk
        simp only at u0 u1 u2 p0 p1 p2 sL sS sL2 sS2
        generalize mp[k] = X at *
        have HL1 : Hid _ := sL
        have HS1 : Hid _ := sS
        have HL2 : Hid _ := sL2
        have HS2 : Hid _ := sS2
        obtain ⟨aL, cL, rfl, _⟩ := sL
        obtain ⟨aS, cS, rfl, _⟩ := sS
        obtain ⟨aL2, cL2, rfl, _⟩ := sL2
        obtain ⟨aS2, cS2, rfl, _⟩ := sS2
        clear hx9 hx8
        go_cut [7, 8] from 106 to 143 (fun s7 s8 wc => ∃ B7 B8, s7 = .pointer (some ⟨B7, 0, none⟩) ∧ s8 = .pointer (some ⟨B8, 0, none⟩) ∧ C3 wc B7 (.int .i64 X.at') (.slice aL X.locals.length cL) (.slice aS X.stack.length cS) ∧ C3 wc B8 (.int .i64 X.at') (.slice aL2 X.locals.length cL2) (.slice aS2 X.stack.length cS2) ∧ Below wr.heap.size wr wc)
        case first =>
          go_region_held (fun W' => W'.cell? ⟨w.heap.size, 8, none⟩ = some (.slice (some ⟨b9, off9, none⟩) mp.length d81) ∧ W'.cell? ⟨w.heap.size + 1, 8, none⟩ = some (.slice (some ⟨b8, off8, none⟩) mp.length d82) ∧ W'.cell? ⟨b9, off9 + k * 3, none⟩ = some (.int .i64 X.at') ∧ W'.cell? ⟨b9, off9 + k * 3 + 1, none⟩ = some (.slice aL X.locals.length cL) ∧ W'.cell? ⟨b9, off9 + k * 3 + 2, none⟩ = some (.slice aS X.stack.length cS) ∧ W'.cell? ⟨b8, off8 + k * 3, none⟩ = some (.int .i64 X.at') ∧ W'.cell? ⟨b8, off8 + k * 3 + 1, none⟩ = some (.slice aL2 X.locals.length cL2) ∧ W'.cell? ⟨b8, off8 + k * 3 + 2, none⟩ = some (.slice aS2 X.stack.length cS2)) (first | assumption | (refine (fun (kk : Below wr.heap.size wr _) => ⟨cellOn x8 kk, cellOn y8 kk, cellOn u0 kk, cellOn u1 kk, cellOn u2 kk, cellOn p0 kk, cellOn p1 kk, cellOn p2 kk⟩) ?_; go_grown)) (fail)
          all_goals
            go_wp2_with fail
            go_meet
            first
              | (obtain ⟨t1, t2, t3⟩ := C3.two wr (.int .i64 X.at') (.slice aL X.locals.length cL) (.slice aS X.stack.length cS) (.int .i64 X.at') (.slice aL2 X.locals.length cL2) (.slice aS2 X.stack.length cS2) 50; exact ⟨_, _, rfl, rfl, t1, t2, t3⟩)
              | (obtain ⟨t1, t2, t3⟩ := C3.two wr (.int .i64 X.at') (.slice aL2 X.locals.length cL2) (.slice aS2 X.stack.length cS2) (.int .i64 X.at') (.slice aL X.locals.length cL) (.slice aS X.stack.length cS) 50; exact ⟨_, _, rfl, rfl, t2, t1, t3⟩)
        case rest =>
        obtain ⟨B7, B8, rfl, rfl, c7, c8, kc⟩ := hcut
        have HC1 := etexts_any _ _ X.locals X.locals _ (Sl.later strE_stable HL1.out kc) (Sl.later strE_stable HL2.out kc)
        rw [seq_self] at HC1
        have hb2 := hbel.trans (kc.mono hbel.size)
        have H7 : Hid _ := c7
        have H8 : Hid _ := c8
        obtain ⟨g0, g1, g2⟩ := c7
        obtain ⟨h0, h1, h2⟩ := c8
        clear x8 y8 u0 u1 u2 p0 p1 p2
        go_wp2_with fail
        refine HC1.mono ?_
        rintro e w5 ⟨rfl, b5⟩
        obtain ⟨_, _, g2⟩ := H7.out.later b5
        obtain ⟨_, _, h2⟩ := H8.out.later b5
        have kc5 := kc.trans (b5.mono kc.size)
        have HC2 := etexts_any _ _ X.stack X.stack _ (Sl.later strE_stable HS1.out kc5) (Sl.later strE_stable HS2.out kc5)
        rw [seq_self] at HC2
        clear HC1 g0 g1 h0 h1
        go_wp2_with fail
        refine HC2.mono ?_
        rintro e w6 ⟨rfl, b6⟩
        have kc6 := kc5.trans (b6.mono kc5.size)
        have hb6 := hbel.trans (kc6.mono hbel.size)
        clear HC2 g2 h2
        go_wp2_with fail
        go_roundw
        case rel => exact ⟨k + 1, by omega, by go_num, hb6⟩
        case measure => simp [intOf]; omega
      obtain ⟨wp, hwp⟩ : ∃ x, x = wr := ⟨_, rfl⟩
      subst hwp
      obtain ⟨_, _, _, _, _, _, _, _, x8, x9⟩ := HMM3.out.1.later hbel
      obtain ⟨_, _, _, _, _, _, _, _, y8, y9⟩ := HMM3.out.2.later hbel
      go_wp2_with fail
      clear x8 x9 y8 y9
      have k4 := k3.trans (hbel.mono k3.size)
      have HMM4 : Hid _ := And.intro (HMM3.out.1.later hbel) (HMM3.out.2.later hbel)
      have HM14 : Hid _ := HM13.out.later hbel
      have HM24 : Hid _ := HM23.out.later hbel
      go_loopw [9] (fun i wr' => ∃ k : Nat, k ≤ tr.length ∧ i = .int .i64 k ∧ Below wp.heap.size wp wr') (fun i _ => tr.length - (intOf i).toNat)
      case atStart => exact ⟨0, by omega, rfl, Below.refl _ _⟩
      case round =>
        clear hbel hk hlk HMM3 HM13 HM23
        obtain ⟨k, hk, rfl, hbel⟩ := hrel
        by_cases hlk : k < tr.length
        · obtain ⟨_, _, _, _, _, _, _, _, _, x9⟩ := HMM4.out.1.later hbel
          obtain ⟨_, _, _, _, _, _, _, _, _, y9⟩ := HMM4.out.2.later hbel
          go_upto_region 17 with fail
          obtain ⟨aa, cc, ev, _, _, _, hx9⟩ := Sl.later trapE_stable HM14.out.traps hbel
          simp only [Value.slice.injEq, true_and] at ev
          obtain ⟨rfl, rfl⟩ := ev
          obtain ⟨b9, off9, rfl, _, hx9⟩ := hx9 (by simp only; omega)
          obtain ⟨u0, u1, u2, u3, _⟩ := hx9 k hlk
          obtain ⟨aa, cc, ev, _, _, _, hx8⟩ := Sl.later trapE_stable HM24.out.traps hbel
          simp only [Value.slice.injEq, true_and] at ev
          obtain ⟨rfl, rfl⟩ := ev
          obtain ⟨b8, off8, rfl, _, hx8⟩ := hx8 (by simp only; omega)
          obtain ⟨p0, p1, p2, p3, _⟩ := hx8 k hlk
          simp only at u0 u1 u2 u3 p0 p1 p2 p3
          generalize tr[k] = X at *
          clear hx9 hx8
          go_cut [10, 11] from 144 to 186 (fun s7 s8 wc => ∃ B7 B8, s7 = .pointer (some ⟨B7, 0, none⟩) ∧ s8 = .pointer (some ⟨B8, 0, none⟩) ∧ C4 wc B7 (.int .i64 X.from') (.int .i64 X.to) (.int .i64 X.at') (.string X.c) ∧ C4 wc B8 (.int .i64 X.from') (.int .i64 X.to) (.int .i64 X.at') (.string X.c) ∧ Below wr.heap.size wr wc)
          case first =>
            go_region_held (fun W' => W'.cell? ⟨w.heap.size, 9, none⟩ = some (.slice (some ⟨b9, off9, none⟩) tr.length d91) ∧ W'.cell? ⟨w.heap.size + 1, 9, none⟩ = some (.slice (some ⟨b8, off8, none⟩) tr.length d92) ∧ W'.cell? ⟨b9, off9 + k * 4, none⟩ = some (.int .i64 X.from') ∧ W'.cell? ⟨b9, off9 + k * 4 + 1, none⟩ = some (.int .i64 X.to) ∧ W'.cell? ⟨b9, off9 + k * 4 + 2, none⟩ = some (.int .i64 X.at') ∧ W'.cell? ⟨b9, off9 + k * 4 + 3, none⟩ = some (.string X.c) ∧ W'.cell? ⟨b8, off8 + k * 4, none⟩ = some (.int .i64 X.from') ∧ W'.cell? ⟨b8, off8 + k * 4 + 1, none⟩ = some (.int .i64 X.to) ∧ W'.cell? ⟨b8, off8 + k * 4 + 2, none⟩ = some (.int .i64 X.at') ∧ W'.cell? ⟨b8, off8 + k * 4 + 3, none⟩ = some (.string X.c)) (first | assumption | (refine (fun (kk : Below wr.heap.size wr _) => ⟨cellOn x9 kk, cellOn y9 kk, cellOn u0 kk, cellOn u1 kk, cellOn u2 kk, cellOn u3 kk, cellOn p0 kk, cellOn p1 kk, cellOn p2 kk, cellOn p3 kk⟩) ?_; go_grown)) (fail)
            all_goals
              go_wp2_with fail
              go_meet
              obtain ⟨t1, t2, t3⟩ := C4.two wr (.int .i64 X.from') (.int .i64 X.to) (.int .i64 X.at') (.string X.c) (.int .i64 X.from') (.int .i64 X.to) (.int .i64 X.at') (.string X.c) 80
              first
                | exact ⟨_, _, rfl, rfl, t1, t2, t3⟩
                | exact ⟨_, _, rfl, rfl, t2, t1, t3⟩
          case rest =>
          obtain ⟨B7, B8, rfl, rfl, ⟨g0, g1, g2, g3⟩, ⟨h0, h1, h2, h3⟩, kc⟩ := hcut
          have hb2 := hbel.trans (kc.mono hbel.size)
          clear x9 y9 u0 u1 u2 u3 p0 p1 p2 p3
          go_wp2_with fail
          go_roundw
          case rel => exact ⟨k + 1, by omega, by go_num, hb2⟩
          case measure => simp [intOf]; omega
        obtain ⟨_, _, _, _, _, _, _, _, _, x9⟩ := HMM4.out.1.later hbel
        obtain ⟨_, _, _, _, _, _, _, _, _, y9⟩ := HMM4.out.2.later hbel
        go_wp2_with fail
        go_ret
        exact ⟨rfl, k4.trans (hbel.mono k4.size)⟩
end Fil
end Go.Proofs.YtjblmgdjaaeedaaGreat

/- The contract of the document's EqClass of two classes that are the same. -/
namespace Go.Proofs.YtjblmgdjaaeedaaGreat
namespace Fil
open Num Kind Op4 Cls
open Go.RowKit
set_option linter.unusedVariables false
set_option linter.unusedSimpArgs false
set_option maxRecDepth 100000

theorem ClsCells.two (w : World) (u0 u1 u2 u3 u4 u5 z0 z1 z2 z3 z4 z5 : Value) (t : Nat) : ClsCells ((w.alloc (.cells #[u0, u1, u2, u3, u4, u5] t)).alloc (.cells #[z0, z1, z2, z3, z4, z5] t)) w.heap.size u0 u1 u2 u3 u4 u5 ∧ ClsCells ((w.alloc (.cells #[u0, u1, u2, u3, u4, u5] t)).alloc (.cells #[z0, z1, z2, z3, z4, z5] t)) (w.heap.size + 1) z0 z1 z2 z3 z4 z5 := by
  have h2 := ClsCells.new (w.alloc (.cells #[u0, u1, u2, u3, u4, u5] t)) z0 z1 z2 z3 z4 z5 t
  rw [alloc_size] at h2
  exact ⟨(ClsCells.new w u0 u1 u2 u3 u4 u5 t).later (alloc1 _ _), h2⟩
set_option maxHeartbeats 16000000 in
theorem ecls_same (nm sp : ByteArray) (ifc : Bool) (im : List ByteArray) (fd : List FieldL) (mt : List MethL) (q31 q41 q51 q32 q42 q52 : Option Addr) (d31 d41 d51 d32 d42 d52 : Nat) (w : World)
    (h1 : ClsV w (.slice q31 im.length d31) (.slice q41 fd.length d41) (.slice q51 mt.length d51) ⟨nm, sp, ifc, im, fd, mt⟩) (h2 : ClsV w (.slice q32 im.length d32) (.slice q42 fd.length d42) (.slice q52 mt.length d52) ⟨nm, sp, ifc, im, fd, mt⟩) :
    Calls Tryz.prog 14 #[.agg #[.string nm, .string sp, .bool ifc, .slice q31 im.length d31, .slice q41 fd.length d41, .slice q51 mt.length d51], .agg #[.string nm, .string sp, .bool ifc, .slice q32 im.length d32, .slice q42 fd.length d42, .slice q52 mt.length d52]] w fun e w' => e = .returned (.bool true) ∧ Below w.heap.size w w' := by
  have b00 := alloc1 w (.cells #[.string nm, .string sp, .bool ifc, .slice q31 im.length d31, .slice q41 fd.length d41, .slice q51 mt.length d51] 26)
  have b0 := b00.trans ((alloc1 (w.alloc (.cells #[.string nm, .string sp, .bool ifc, .slice q31 im.length d31, .slice q41 fd.length d41, .slice q51 mt.length d51] 26)) (.cells #[.string nm, .string sp, .bool ifc, .slice q32 im.length d32, .slice q42 fd.length d42, .slice q52 mt.length d52] 26)).mono b00.size)
  have M := ClsCells.two w (.string nm) (.string sp) (.bool ifc) (.slice q31 im.length d31) (.slice q41 fd.length d41) (.slice q51 mt.length d51) (.string nm) (.string sp) (.bool ifc) (.slice q32 im.length d32) (.slice q42 fd.length d42) (.slice q52 mt.length d52) 26
  have H1 := etexts_any _ _ im im _ (h1.impl.later strE_stable b0) (h2.impl.later strE_stable b0)
  rw [seq_self] at H1
  have HM1 : Hid _ := h1
  have HM2 : Hid _ := h2
  clear h1 h2 b00
  go_enter Tryz.func14, Tryz.ntmps14
  go_wp2_with fail
  refine H1.mono ?_
  rintro e w2 ⟨rfl, b2⟩
  have k2 := b0.trans (b2.mono b0.size)
  have M2 := And.intro (M.1.later b2) (M.2.later b2)
  have HM1 : Hid _ := HM1.out.later k2
  have HM2 : Hid _ := HM2.out.later k2
  have hfd : fd.length ≤ 9223372036854775807 := by obtain ⟨_, _, e, h1, h2, _⟩ := HM1.out.fields; simp only at h1; unfold maxLen at h2; omega
  have hmt : mt.length ≤ 9223372036854775807 := by obtain ⟨_, _, e, h1, h2, _⟩ := HM1.out.methods; simp only at h1; unfold maxLen at h2; omega
  have HMM : Hid _ := M2
  obtain ⟨x0, x1, x2, x3, x4, x5⟩ := M2.1
  obtain ⟨y0, y1, y2, y3, y4, y5⟩ := M2.2
  go_wp2_with fail
  clear x0 x1 x2 x3 x4 x5 y0 y1 y2 y3 y4 y5 M2 M H1 b0 b2
  go_loopw [5] (fun i wr => ∃ k : Nat, k ≤ fd.length ∧ i = .int .i64 k ∧ Below w2.heap.size w2 wr) (fun i _ => fd.length - (intOf i).toNat)
  case atStart => exact ⟨0, by omega, rfl, Below.refl _ _⟩
  case round =>
    obtain ⟨k, hk, rfl, hbel⟩ := hrel
    by_cases hlk : k < fd.length
    · obtain ⟨_, _, _, _, x4, _⟩ := HMM.out.1.later hbel
      obtain ⟨_, _, _, _, y4, _⟩ := HMM.out.2.later hbel
      go_upto_region 6 with fail
      obtain ⟨aa, cc, ev, _, _, _, hx9⟩ := Sl.later fieldE_stable HM1.out.fields hbel
      simp only [Value.slice.injEq, true_and] at ev
      obtain ⟨rfl, rfl⟩ := ev
      obtain ⟨b9, off9, rfl, _, hx9⟩ := hx9 (by simp only; omega)
      obtain ⟨u0, u1, u2, _, _⟩ := hx9 k hlk
      obtain ⟨aa, cc, ev, _, _, _, hx8⟩ := Sl.later fieldE_stable HM2.out.fields hbel
      simp only [Value.slice.injEq, true_and] at ev
      obtain ⟨rfl, rfl⟩ := ev
      obtain ⟨b8, off8, rfl, _, hx8⟩ := hx8 (by simp only; omega)
      obtain ⟨p0, p1, p2, _, _⟩ := hx8 k hlk
      simp only at u0 u1 u2 p0 p1 p2
      generalize fd[k] = X at *
      clear hx9 hx8
      go_cut [6, 7] from 54 to 89 (fun s7 s8 wc => ∃ B7 B8, s7 = .pointer (some ⟨B7, 0, none⟩) ∧ s8 = .pointer (some ⟨B8, 0, none⟩) ∧ C3 wc B7 (.string X.name) (.string X.type) (.bool X.static) ∧ C3 wc B8 (.string X.name) (.string X.type) (.bool X.static) ∧ Below wr.heap.size wr wc)
      case first =>
        go_region_held (fun W' => W'.cell? ⟨w.heap.size, 4, none⟩ = some (.slice (some ⟨b9, off9, none⟩) fd.length d41) ∧ W'.cell? ⟨w.heap.size + 1, 4, none⟩ = some (.slice (some ⟨b8, off8, none⟩) fd.length d42) ∧ W'.cell? ⟨b9, off9 + k * 3, none⟩ = some (.string X.name) ∧ W'.cell? ⟨b9, off9 + k * 3 + 1, none⟩ = some (.string X.type) ∧ W'.cell? ⟨b9, off9 + k * 3 + 2, none⟩ = some (.bool X.static) ∧ W'.cell? ⟨b8, off8 + k * 3, none⟩ = some (.string X.name) ∧ W'.cell? ⟨b8, off8 + k * 3 + 1, none⟩ = some (.string X.type) ∧ W'.cell? ⟨b8, off8 + k * 3 + 2, none⟩ = some (.bool X.static)) (first | assumption | (refine (fun (kk : Below wr.heap.size wr _) => ⟨cellOn x4 kk, cellOn y4 kk, cellOn u0 kk, cellOn u1 kk, cellOn u2 kk, cellOn p0 kk, cellOn p1 kk, cellOn p2 kk⟩) ?_; go_grown)) (fail)
        all_goals
          go_wp2_with fail
          go_meet
          obtain ⟨t1, t2, t3⟩ := C3.two wr (.string X.name) (.string X.type) (.bool X.static) (.string X.name) (.string X.type) (.bool X.static) 40
          first
            | exact ⟨_, _, rfl, rfl, t1, t2, t3⟩
            | exact ⟨_, _, rfl, rfl, t2, t1, t3⟩
      case rest =>
      obtain ⟨B7, B8, rfl, rfl, ⟨g0, g1, g2⟩, ⟨h0, h1, h2⟩, kc⟩ := hcut
      have hb2 := hbel.trans (kc.mono hbel.size)
      clear x4 y4 u0 u1 u2 p0 p1 p2
      go_wp2_with fail
      go_roundw
      case rel => exact ⟨k + 1, by omega, by go_num, hb2⟩
      case measure => simp [intOf]; omega
    obtain ⟨wo, hwo⟩ : ∃ x, x = wr := ⟨_, rfl⟩
    subst hwo
    obtain ⟨_, _, _, _, x4, x5⟩ := HMM.out.1.later hbel
    obtain ⟨_, _, _, _, y4, y5⟩ := HMM.out.2.later hbel
    go_wp2_with fail
    clear x4 x5 y4 y5
    have k3 := k2.trans (hbel.mono k2.size)
    have HMM3 : Hid _ := And.intro (HMM.out.1.later hbel) (HMM.out.2.later hbel)
    have HM13 : Hid _ := HM1.out.later hbel
    have HM23 : Hid _ := HM2.out.later hbel
    go_loopw [8] (fun i wr' => ∃ k : Nat, k ≤ mt.length ∧ i = .int .i64 k ∧ Below wo.heap.size wo wr') (fun i _ => mt.length - (intOf i).toNat)
    case atStart => exact ⟨0, by omega, rfl, Below.refl _ _⟩
    case round =>
      clear hbel hk hlk HMM HM1 HM2
      obtain ⟨k, hk, rfl, hbel⟩ := hrel
      obtain ⟨_, _, _, _, _, x5⟩ := HMM3.out.1.later hbel
      obtain ⟨_, _, _, _, _, y5⟩ := HMM3.out.2.later hbel
      by_cases hlk : k < mt.length
      · go_upto_region 12 with fail
        obtain ⟨aa, cc, ev, _, _, _, hx9⟩ := Sl.later methE_stable HM13.out.methods hbel
        simp only [Value.slice.injEq, true_and] at ev
        obtain ⟨rfl, rfl⟩ := ev
        obtain ⟨b9, off9, rfl, _, hx9⟩ := hx9 (by simp only; omega)
        obtain ⟨v1, v7, v8, v9, hm1, hc1⟩ := hx9 k hlk
        obtain ⟨aa, cc, ev, _, _, _, hx8⟩ := Sl.later methE_stable HM23.out.methods hbel
        simp only [Value.slice.injEq, true_and] at ev
        obtain ⟨rfl, rfl⟩ := ev
        obtain ⟨b8, off8, rfl, _, hx8⟩ := hx8 (by simp only; omega)
        obtain ⟨z1, z7, z8, z9, hm2, hc2⟩ := hx8 k hlk
        simp only at hm1 hc1 hm2 hc2
        generalize mt[k] = X at *
        obtain ⟨nm', ps', rt', st', ab', lo', sk', cd', mp', tr'⟩ := X
        obtain ⟨r1, f1, e1, _⟩ := id hm1.params
        obtain ⟨r7, f7, e7, _⟩ := id hm1.code
        obtain ⟨r8, f8, e8, _⟩ := id hm1.maps
        obtain ⟨r9, f9, e9, _⟩ := id hm1.traps
        simp only at e1 e7 e8 e9
        subst e1 e7 e8 e9
        obtain ⟨r1', f1', e1, _⟩ := id hm2.params
        obtain ⟨r7', f7', e7, _⟩ := id hm2.code
        obtain ⟨r8', f8', e8, _⟩ := id hm2.maps
        obtain ⟨r9', f9', e9, _⟩ := id hm2.traps
        simp only at e1 e7 e8 e9
        subst e1 e7 e8 e9
        have HC := fun W (kb : Below wr.heap.size wr W) => emeth_same nm' rt' st' ab' lo' sk' ps' cd' mp' tr' _ _ _ _ _ _ _ _ _ _ _ _ _ _ _ _ W (hm1.later kb) (hm2.later kb)
        have HS1 : Hid _ := hc1
        have HS2 : Hid _ := hc2
        clear hx9 hx8 hm1 hm2 hc1 hc2
        have u0 := HS1.out 0 (by decide)
        have u1 := HS1.out 1 (by decide)
        have u2 := HS1.out 2 (by decide)
        have u3 := HS1.out 3 (by decide)
        have u4 := HS1.out 4 (by decide)
        have u5 := HS1.out 5 (by decide)
        have u6 := HS1.out 6 (by decide)
        have u7 := HS1.out 7 (by decide)
        have u8 := HS1.out 8 (by decide)
        have u9 := HS1.out 9 (by decide)
        have p0 := HS2.out 0 (by decide)
        have p1 := HS2.out 1 (by decide)
        have p2 := HS2.out 2 (by decide)
        have p3 := HS2.out 3 (by decide)
        have p4 := HS2.out 4 (by decide)
        have p5 := HS2.out 5 (by decide)
        have p6 := HS2.out 6 (by decide)
        have p7 := HS2.out 7 (by decide)
        have p8 := HS2.out 8 (by decide)
        have p9 := HS2.out 9 (by decide)
        simp only [methCells, List.getElem?_toArray, List.getElem?_cons_zero, List.getElem?_cons_succ, Nat.add_zero] at u0 u1 u2 u3 u4 u5 u6 u7 u8 u9 p0 p1 p2 p3 p4 p5 p6 p7 p8 p9
        clear HS1 HS2
        have kk : Below wr.heap.size wr wr.drew := (Below.refl _ _).drew
        go_region_held (fun W' => W'.cell? ⟨w.heap.size, 5, none⟩ = some (.slice (some ⟨b9, off9, none⟩) mt.length d51) ∧ W'.cell? ⟨w.heap.size + 1, 5, none⟩ = some (.slice (some ⟨b8, off8, none⟩) mt.length d52) ∧ W'.cell? ⟨b9, off9 + k * 10, none⟩ = some (.string nm') ∧ W'.cell? ⟨b9, off9 + k * 10 + 1, none⟩ = some (.slice r1 ps'.length f1) ∧ W'.cell? ⟨b9, off9 + k * 10 + 2, none⟩ = some (.string rt') ∧ W'.cell? ⟨b9, off9 + k * 10 + 3, none⟩ = some (.bool st') ∧ W'.cell? ⟨b9, off9 + k * 10 + 4, none⟩ = some (.bool ab') ∧ W'.cell? ⟨b9, off9 + k * 10 + 5, none⟩ = some (.int .i64 lo') ∧ W'.cell? ⟨b9, off9 + k * 10 + 6, none⟩ = some (.int .i64 sk') ∧ W'.cell? ⟨b9, off9 + k * 10 + 7, none⟩ = some (.slice r7 cd'.length f7) ∧ W'.cell? ⟨b9, off9 + k * 10 + 8, none⟩ = some (.slice r8 mp'.length f8) ∧ W'.cell? ⟨b9, off9 + k * 10 + 9, none⟩ = some (.slice r9 tr'.length f9) ∧ W'.cell? ⟨b8, off8 + k * 10, none⟩ = some (.string nm') ∧ W'.cell? ⟨b8, off8 + k * 10 + 1, none⟩ = some (.slice r1' ps'.length f1') ∧ W'.cell? ⟨b8, off8 + k * 10 + 2, none⟩ = some (.string rt') ∧ W'.cell? ⟨b8, off8 + k * 10 + 3, none⟩ = some (.bool st') ∧ W'.cell? ⟨b8, off8 + k * 10 + 4, none⟩ = some (.bool ab') ∧ W'.cell? ⟨b8, off8 + k * 10 + 5, none⟩ = some (.int .i64 lo') ∧ W'.cell? ⟨b8, off8 + k * 10 + 6, none⟩ = some (.int .i64 sk') ∧ W'.cell? ⟨b8, off8 + k * 10 + 7, none⟩ = some (.slice r7' cd'.length f7') ∧ W'.cell? ⟨b8, off8 + k * 10 + 8, none⟩ = some (.slice r8' mp'.length f8') ∧ W'.cell? ⟨b8, off8 + k * 10 + 9, none⟩ = some (.slice r9' tr'.length f9')) (first | assumption | exact ⟨cellOn x5 kk, cellOn y5 kk, cellOn u0 kk, cellOn u1 kk, cellOn u2 kk, cellOn u3 kk, cellOn u4 kk, cellOn u5 kk, cellOn u6 kk, cellOn u7 kk, cellOn u8 kk, cellOn u9 kk, cellOn p0 kk, cellOn p1 kk, cellOn p2 kk, cellOn p3 kk, cellOn p4 kk, cellOn p5 kk, cellOn p6 kk, cellOn p7 kk, cellOn p8 kk, cellOn p9 kk⟩) (first | (go_at_call 41; refine (HC _ kk).mono ?_; rintro e w' ⟨rfl, b'⟩; have kk := kk.trans (b'.mono kk.size)))
        all_goals
          have hb3 := hbel.trans (kk.mono hbel.size)
          go_wp2_with fail
          go_roundw
          case rel => exact ⟨k + 1, by omega, by go_num, hb3⟩
          case measure => simp [intOf]; omega
      go_wp2_with fail
      go_ret
      exact ⟨rfl, k3.trans (hbel.mono k3.size)⟩
end Fil
end Go.Proofs.YtjblmgdjaaeedaaGreat
