/- The contract of op.Get: kind M: what speaks of the program. -/
import Derived.Test.YthioaedhabfkgaaGreatOpGet
namespace Go.Proofs.YthioaedhabfkgaaGreat
namespace Op4
open Num Kind
open Go.RowKit
set_option linter.unusedVariables false
set_option maxRecDepth 100000

set_option maxRecDepth 100000 in
set_option maxHeartbeats 4000000 in
theorem oget_M (p : Option Addr) (n k : Nat) (xs : List Int) (w : World) (h : Has w p n k xs) (hb : Bytes xs) (hn : n ≤ 100000000) (o : Int) (ys : List Int) (E1 : Int) (hr1 : rdN 0 xs = (o, ys, E1)) (hby : Bytes ys) (hly : ys.length ≤ n) (j : Int) (hj : 0 < j) (hp : partsF o = (false, j, true)) (c zs : List Int) (E2 : Int) (hr2 : rdT (askF E1 (opB o)) ys = (c, zs, E2)) (hlz : zs.length ≤ n) (hbz : Bytes zs) (hbc : Bytes c) (hlc : c.length ≤ n) (m us : List Int) (E3 : Int) (hr3 : rdT (askF E2 (tB o c)) zs = (m, us, E3)) (hlu : us.length ≤ n) (hbm : Bytes m) (hlm : m.length ≤ n) :
    Calls Tryz.prog 135 #[.slice p n k] w fun e w' => e = .returned (resI (finI n us (askF E3 (nB o m)) o 0 c m)) ∧ Below w.heap.size w w' := by
  have HA := fun W => ohasA_any o W
  have HC := fun W => ohasC_any o W
  have HM := fun W => ohasM_any o W
  unfold cB at HC
  rw [hp] at HA HC HM
  simp only [hj, decide_true] at HA HC HM
  have HN := fun W b R => onumber_any (w.heap.size + 1 + 1) p n k xs 0 w W h hb b (by omega) R
  rw [hr1] at HN
  have hnn : n ≤ 9223372036854775807 := by omega
  have hlen := h.len
  have HL : Hid _ := hlen
  clear hp hr1 hlen
  have b0 := (((Below.refl w.heap.size w).alloc (Nat.le_refl _) (.cells #[.int .i64 0, .int .i64 0, .string ⟨#[]⟩, .string ⟨#[]⟩] 48)).alloc (by simp) (.cells #[.int .i64 0, .int .i64 0, .string ⟨#[]⟩, .string ⟨#[]⟩] 48)).alloc (by simp; omega) (.cells #[.slice p n k, .int .i64 0] 150)
  have A0 := ((Box.new w 0 0 ⟨#[]⟩ ⟨#[]⟩ 48).alloc (.cells #[.int .i64 0, .int .i64 0, .string ⟨#[]⟩, .string ⟨#[]⟩] 48)).alloc (.cells #[.slice p n k, .int .i64 0] 150)
  have X0 := (Box.new (w.alloc (.cells #[.int .i64 0, .int .i64 0, .string ⟨#[]⟩, .string ⟨#[]⟩] 48)) 0 0 ⟨#[]⟩ ⟨#[]⟩ 48).alloc (.cells #[.slice p n k, .int .i64 0] 150)
  have R0 := Rdr.new ((w.alloc (.cells #[.int .i64 0, .int .i64 0, .string ⟨#[]⟩, .string ⟨#[]⟩] 48)).alloc (.cells #[.int .i64 0, .int .i64 0, .string ⟨#[]⟩, .string ⟨#[]⟩] 48)) p n k 0 150
  simp only [World.size_alloc] at X0 R0
  go_enter Tryz.func135, Tryz.ntmps135
  go_wp2_with fail
  refine (HN _ b0 R0).mono ?_
  rintro e w1 ⟨p1, n1, k1, rfl, h1, R1, g1⟩
  have A1 := A0.grown g1 (ne2 _)
  have X1 := X0.grown g1 (ne3 _)
  have e1 := b0.grown g1 (by simp; omega) (fun k e => by cases e; omega)
  clear A0 X0 R0 b0 g1 HN
  obtain ⟨_, x0, x1, x2, x3, xf0, xf1, xf2, xf3⟩ := X1
  go_wp2_with fail
  refine (omayOp_any o _).mono ?_
  rintro e w' ⟨rfl, rfl⟩
  go_wp2_with fail
  refine (oask_any (w.heap.size + 1 + 1) _ _ _ _ (opB o) _ (R1.grown (set_grown _ (w.heap.size + 1) 0 (.int .i64 o)) (ne4 _))).mono ?_
  rintro e w2 ⟨rfl, R2, g2⟩
  have A2 := (A1.grown (set_grown _ (w.heap.size + 1) 0 (.int .i64 o)) (ne1 _)).grown g2 (ne2 _)
  have X2 := (Box.set0 ⟨by assumption, x0, x1, x2, x3, xf0, xf1, xf2, xf3⟩ o).grown g2 (ne3 _)
  have e2 := (e1.grown (set_grown _ (w.heap.size + 1) 0 (.int .i64 o)) e1.size (fun k e => by cases e; omega)).grown g2 (by simp [World.size_setCell]; exact e1.size) (fun k e => by cases e; omega)
  clear A1 R1 g2 x0 x1 x2 x3 xf0 xf1 xf2 xf3 e1
  have HN := fun W b R => otext_any (w.heap.size + 1 + 1) p1 n1 k1 ys (askF E1 (opB o)) w W h1 hby b (by omega) R (by have := h1.len; omega)
  rw [hr2] at HN
  clear hr2
  obtain ⟨hltX, x0, x1, x2, x3, xf0, xf1, xf2, xf3⟩ := X2
  go_wp2_with (first | (go_at_call 152; refine (HA _).mono ?_; rintro e w' ⟨rfl, rfl⟩) | (go_at_call 154; refine (HC _).mono ?_; rintro e w' ⟨rfl, rfl⟩))
  refine (HN _ e2 R2).mono ?_
  rintro e w3 ⟨p2, n2, k2, rfl, h2, R3, g3⟩
  have A3 := A2.grown g3 (ne2 _)
  have X3 := Box.grown ⟨hltX, x0, x1, x2, x3, xf0, xf1, xf2, xf3⟩ g3 (ne3 _)
  have e3 := e2.grown g3 e2.size (fun k e => by cases e; omega)
  clear A2 R2 g3 HN x0 x1 x2 x3 xf0 xf1 xf2 xf3 e2 hltX
  have HT := fun W => omayC_any o (strOfNums c) W (by rw [str_size]; unfold maxLen; omega)
  rw [nums_str hbc] at HT
  obtain ⟨_, x0, x1, x2, x3, xf0, xf1, xf2, xf3⟩ := X3
  go_wp2_with fail
  refine (HT _).mono ?_
  rintro e w' ⟨rfl, rfl⟩
  go_wp2_with fail
  refine (oask_any (w.heap.size + 1 + 1) _ _ _ _ (tB o c) _ (R3.grown (set_grown _ (w.heap.size + 1) 2 (.string (strOfNums c))) (ne4 _))).mono ?_
  rintro e w4 ⟨rfl, R4, g4⟩
  have A4 := (A3.grown (set_grown _ (w.heap.size + 1) 2 (.string (strOfNums c))) (ne1 _)).grown g4 (ne2 _)
  have X4 := (Box.set2 ⟨by assumption, x0, x1, x2, x3, xf0, xf1, xf2, xf3⟩ (strOfNums c)).grown g4 (ne3 _)
  have e4 := (e3.grown (set_grown _ (w.heap.size + 1) 2 (.string (strOfNums c))) e3.size (fun k e => by cases e; omega)).grown g4 (by simp [World.size_setCell]; exact e3.size) (fun k e => by cases e; omega)
  clear A3 R3 g4 x0 x1 x2 x3 xf0 xf1 xf2 xf3 e3
  have HN := fun W b R => otext_any (w.heap.size + 1 + 1) p2 n2 k2 zs (askF E2 (tB o c)) w W h2 hbz b (by omega) R (by have := h2.len; omega)
  rw [hr3] at HN
  clear hr3
  obtain ⟨hltX, x0, x1, x2, x3, xf0, xf1, xf2, xf3⟩ := X4
  go_wp2_with (first | (go_at_call 157; refine (HM _).mono ?_; rintro e w' ⟨rfl, rfl⟩))
  refine (HN _ e4 R4).mono ?_
  rintro e w5 ⟨p3, n3, k3, rfl, h3, R5, g5⟩
  have A5 := A4.grown g5 (ne2 _)
  have X5 := Box.grown ⟨hltX, x0, x1, x2, x3, xf0, xf1, xf2, xf3⟩ g5 (ne3 _)
  have e5 := e4.grown g5 e4.size (fun k e => by cases e; omega)
  clear A4 R4 g5 HN x0 x1 x2 x3 xf0 xf1 xf2 xf3 e4 hltX
  have HU := fun W => omayM_any o (strOfNums m) W (by rw [str_size]; unfold maxLen; omega)
  rw [nums_str hbm] at HU
  obtain ⟨_, x0, x1, x2, x3, xf0, xf1, xf2, xf3⟩ := X5
  go_wp2_with fail
  refine (HU _).mono ?_
  rintro e w' ⟨rfl, rfl⟩
  go_wp2_with fail
  refine (oask_any (w.heap.size + 1 + 1) _ _ _ _ (nB o m) _ (R5.grown (set_grown _ (w.heap.size + 1) 3 (.string (strOfNums m))) (ne4 _))).mono ?_
  rintro e w6 ⟨rfl, R6, g6⟩
  have A6 := (A5.grown (set_grown _ (w.heap.size + 1) 3 (.string (strOfNums m))) (ne1 _)).grown g6 (ne2 _)
  have X6 := (Box.set3 ⟨by assumption, x0, x1, x2, x3, xf0, xf1, xf2, xf3⟩ (strOfNums m)).grown g6 (ne3 _)
  have e6 := (e5.grown (set_grown _ (w.heap.size + 1) 3 (.string (strOfNums m))) e5.size (fun k e => by cases e; omega)).grown g6 (by simp [World.size_setCell]; exact e5.size) (fun k e => by cases e; omega)
  clear A5 R5 g6 x0 x1 x2 x3 xf0 xf1 xf2 xf3 e5
  have hz := h3.len
  obtain ⟨hltX, x0, x1, x2, x3, xf0, xf1, xf2, xf3⟩ := X6
  obtain ⟨hltA, a0, a1, a2, a3, af0, af1, af2, af3⟩ := A6
  obtain ⟨hltR, r0, r1, rf0, rf1⟩ := R6
  by_cases hE : askF E3 (nB o m) = 0
  · have HE : Hid _ := hE
    rw [hE] at r1
    clear hE
    have hw : IntKind.i64.wrap ((n : Int) - (n3 : Int)) = (n : Int) - n3 := by rw [IntKind.wrap_i64]; omega
    have HZ : Hid _ := hz
    clear hz
    go_wp2_with fail
    go_region_with fail
    all_goals
      go_wp2_with fail
    all_goals
      obtain ⟨W, hW⟩ : ∃ W, W = put4 w6 w.heap.size o 0 (strOfNums c) (strOfNums m) := ⟨_, rfl⟩
      have S := Box.stored (w := w6) ⟨hltA, a0, a1, a2, a3, af0, af1, af2, af3⟩ o 0 (strOfNums c) (strOfNums m)
      have bW := put4_below e6 (Nat.le_refl _) o 0 (strOfNums c) (strOfNums m)
      rw [← hW] at S bW
      unfold put4 at hW
      obtain ⟨_, s0, s1, s2, s3, _, _, _, _⟩ := S
      rw [← hW]
      refine bodyPost_ret (by simp [results, Tryz.results135, go_sem, s0, s1, s2, s3]; try rfl) rfl ?_
      refine ⟨?_, by go_grown⟩
      unfold finI
      rw [if_pos HE.out, HZ.out]
      rfl
  · have hne : (askF E3 (nB o m) != 0) = true := by simpa using hE
    have HE : Hid _ := hE
    clear hE
    go_wp2_with fail
    go_region_with fail
    all_goals
      go_wp2_with fail
    all_goals
      obtain ⟨W, hW⟩ : ∃ W, W = put4 w6 w.heap.size 0 0 ⟨#[]⟩ ⟨#[]⟩ := ⟨_, rfl⟩
      have S := Box.stored (w := w6) ⟨hltA, a0, a1, a2, a3, af0, af1, af2, af3⟩ 0 0 ⟨#[]⟩ ⟨#[]⟩
      have bW := put4_below e6 (Nat.le_refl _) 0 0 ⟨#[]⟩ ⟨#[]⟩
      rw [← hW] at S bW
      unfold put4 at hW
      obtain ⟨_, s0, s1, s2, s3, _, _, _, _⟩ := S
      rw [← hW]
      refine bodyPost_ret (by simp [results, Tryz.results135, go_sem, s0, s1, s2, s3]; try rfl) rfl ?_
      refine ⟨?_, by go_grown⟩
      unfold finI
      rw [if_neg HE.out]
      rfl

end Op4
end Go.Proofs.YthioaedhabfkgaaGreat
