/- Contracts and laws, texts of mine put into one. -/
import Derived.Test.YtjblmgdjaaeedaaGreatOpRead
import Derived.Deep.RegionWith
/- The contract of op.Get, kind by kind: what speaks of the program. -/
namespace Go.Proofs.YtjblmgdjaaeedaaGreat
namespace Op4
open Num Kind
open Go.RowKit
set_option linter.unusedVariables false
set_option maxRecDepth 100000

def resI (r : ResI) : Value := .tuple #[insV r.1.1 r.1.2.1 (strOfNums r.1.2.2.1) (strOfNums r.1.2.2.2), .int .i64 r.2.1, .int .i64 r.2.2]
def finI (n : Nat) (zs : List Int) (e o a : Int) (c m : List Int) : ResI := if e = 0 then ((o, a, c, m), (n : Int) - zs.length, 0) else failI e

theorem Rdr.new (w : World) (p : Option Addr) (n k : Nat) (e : Int) (t : TypeId) : Rdr (w.alloc (.cells #[.slice p n k, .int .i64 e] t)) w.heap.size p n k e := by
  have h := heap_alloc_new w (.cells #[.slice p n k, .int .i64 e] t)
  refine ⟨by simp, cell_new _ _ _ 0, cell_new _ _ _ 1, ?_, ?_⟩ <;> (simp only [World.frozen?, h]; rfl)
theorem Box.set0 {w : World} {b : Nat} {o a : Int} {c m : ByteArray} (h : Box w b o a c m) (o' : Int) : Box (w.setCell ⟨b, 0, none⟩ (.int .i64 o')) b o' a c m := by
  refine ⟨by simpa [World.setCell] using h.lt, set_same _ _ _ _ _ h.c0, ?_, ?_, ?_, by simpa using h.f0, by simpa using h.f1, by simpa using h.f2, by simpa using h.f3⟩
  · rw [set_near _ _ _ _ _ (by decide)]; exact h.c1
  · rw [set_near _ _ _ _ _ (by decide)]; exact h.c2
  · rw [set_near _ _ _ _ _ (by decide)]; exact h.c3
theorem Box.set1 {w : World} {b : Nat} {o a : Int} {c m : ByteArray} (h : Box w b o a c m) (a' : Int) : Box (w.setCell ⟨b, 1, none⟩ (.int .i64 a')) b o a' c m := by
  refine ⟨by simpa [World.setCell] using h.lt, ?_, set_same _ _ _ _ _ h.c1, ?_, ?_, by simpa using h.f0, by simpa using h.f1, by simpa using h.f2, by simpa using h.f3⟩
  · rw [set_near _ _ _ _ _ (by decide)]; exact h.c0
  · rw [set_near _ _ _ _ _ (by decide)]; exact h.c2
  · rw [set_near _ _ _ _ _ (by decide)]; exact h.c3
theorem Box.set2 {w : World} {b : Nat} {o a : Int} {c m : ByteArray} (h : Box w b o a c m) (c' : ByteArray) : Box (w.setCell ⟨b, 2, none⟩ (.string c')) b o a c' m := by
  refine ⟨by simpa [World.setCell] using h.lt, ?_, ?_, set_same _ _ _ _ _ h.c2, ?_, by simpa using h.f0, by simpa using h.f1, by simpa using h.f2, by simpa using h.f3⟩
  · rw [set_near _ _ _ _ _ (by decide)]; exact h.c0
  · rw [set_near _ _ _ _ _ (by decide)]; exact h.c1
  · rw [set_near _ _ _ _ _ (by decide)]; exact h.c3
theorem Box.set3 {w : World} {b : Nat} {o a : Int} {c m : ByteArray} (h : Box w b o a c m) (m' : ByteArray) : Box (w.setCell ⟨b, 3, none⟩ (.string m')) b o a c m' := by
  refine ⟨by simpa [World.setCell] using h.lt, ?_, ?_, ?_, set_same _ _ _ _ _ h.c3, by simpa using h.f0, by simpa using h.f1, by simpa using h.f2, by simpa using h.f3⟩
  · rw [set_near _ _ _ _ _ (by decide)]; exact h.c0
  · rw [set_near _ _ _ _ _ (by decide)]; exact h.c1
  · rw [set_near _ _ _ _ _ (by decide)]; exact h.c2
theorem ne1 (s : Nat) : some s ≠ some (s + 1) := by simp
theorem ne2 (s : Nat) : some s ≠ some (s + 1 + 1) := by simp; omega
theorem ne3 (s : Nat) : some (s + 1) ≠ some (s + 1 + 1) := by simp
theorem ne4 (s : Nat) : some (s + 1 + 1) ≠ some (s + 1) := by simp

set_option maxRecDepth 100000 in
set_option maxHeartbeats 4000000 in
theorem oget_N (p : Option Addr) (n k : Nat) (xs : List Int) (w : World) (h : Has w p n k xs) (hb : Bytes xs) (hn : n ≤ 100000000) (o : Int) (ys : List Int) (E1 : Int) (hr1 : rdN 0 xs = (o, ys, E1)) (hby : Bytes ys) (hly : ys.length ≤ n) (hp : partsF o = (false, 0, false)) :
    Calls Tryz.prog 135 #[.slice p n k] w fun e w' => e = .returned (resI (finI n ys (askF E1 (opB o)) o 0 [] [])) ∧ Below w.heap.size w w' := by
  have HA := fun W => ohasA_any o W
  have HC := fun W => ohasC_any o W
  have HM := fun W => ohasM_any o W
  unfold cB at HC
  rw [hp] at HA HC HM
  simp only [Int.lt_irrefl, decide_false] at HA HC HM
  have HN := fun W b R => onumber_any (w.heap.size + 1 + 1) p n k xs 0 w W h hb b (by omega) R
  rw [hr1] at HN
  have hnn : n ≤ 9223372036854775807 := by omega
  have hlen := h.len
  have HL : Hid _ := hlen
  clear hp hr1 hlen
  have b0 := (((Below.refl w.heap.size w).alloc (Nat.le_refl _) (.cells #[.int .i64 0, .int .i64 0, .string ⟨#[]⟩, .string ⟨#[]⟩] 48)).alloc (by simp) (.cells #[.int .i64 0, .int .i64 0, .string ⟨#[]⟩, .string ⟨#[]⟩] 48)).alloc (by simp; omega) (.cells #[.slice p n k, .int .i64 0] 150)
  have A0 := ((Box.new w 0 0 ⟨#[]⟩ ⟨#[]⟩ 48).alloc (.cells #[.int .i64 0, .int .i64 0, .string ⟨#[]⟩, .string ⟨#[]⟩] 48)).alloc (.cells #[.slice p n k, .int .i64 0] 150)
  have X0 := (Box.new (w.alloc (.cells #[.int .i64 0, .int .i64 0, .string ⟨#[]⟩, .string ⟨#[]⟩] 48)) 0 0 ⟨#[]⟩ ⟨#[]⟩ 48).alloc (.cells #[.slice p n k, .int .i64 0] 150)
  have R0 := Rdr.new ((w.alloc (.cells #[.int .i64 0, .int .i64 0, .string ⟨#[]⟩, .string ⟨#[]⟩] 48)).alloc (.cells #[.int .i64 0, .int .i64 0, .string ⟨#[]⟩, .string ⟨#[]⟩] 48)) p n k 0 150
  simp only [World.size_alloc] at X0 R0
  go_enter Tryz.func135, Tryz.ntmps135
  go_wp2_with fail
  refine (HN _ b0 R0).mono ?_
  rintro e w1 ⟨p1, n1, k1, rfl, h1, R1, g1⟩
  have A1 := A0.grown g1 (ne2 _)
  have X1 := X0.grown g1 (ne3 _)
  have e1 := b0.grown g1 (by simp; omega) (fun k e => by cases e; omega)
  clear A0 X0 R0 b0 g1 HN
  obtain ⟨_, x0, x1, x2, x3, xf0, xf1, xf2, xf3⟩ := X1
  go_wp2_with fail
  refine (omayOp_any o _).mono ?_
  rintro e w' ⟨rfl, rfl⟩
  go_wp2_with fail
  refine (oask_any (w.heap.size + 1 + 1) _ _ _ _ (opB o) _ (R1.grown (set_grown _ (w.heap.size + 1) 0 (.int .i64 o)) (ne4 _))).mono ?_
  rintro e w2 ⟨rfl, R2, g2⟩
  have A2 := (A1.grown (set_grown _ (w.heap.size + 1) 0 (.int .i64 o)) (ne1 _)).grown g2 (ne2 _)
  have X2 := (Box.set0 ⟨by assumption, x0, x1, x2, x3, xf0, xf1, xf2, xf3⟩ o).grown g2 (ne3 _)
  have e2 := (e1.grown (set_grown _ (w.heap.size + 1) 0 (.int .i64 o)) e1.size (fun k e => by cases e; omega)).grown g2 (by simp [World.size_setCell]; exact e1.size) (fun k e => by cases e; omega)
  clear A1 R1 g2 x0 x1 x2 x3 xf0 xf1 xf2 xf3 e1
  have hz := h1.len
  obtain ⟨hltX, x0, x1, x2, x3, xf0, xf1, xf2, xf3⟩ := X2
  obtain ⟨hltA, a0, a1, a2, a3, af0, af1, af2, af3⟩ := A2
  obtain ⟨hltR, r0, r1, rf0, rf1⟩ := R2
  by_cases hE : askF E1 (opB o) = 0
  · have HE : Hid _ := hE
    rw [hE] at r1
    clear hE
    have hw : IntKind.i64.wrap ((n : Int) - (n1 : Int)) = (n : Int) - n1 := by rw [IntKind.wrap_i64]; omega
    have HZ : Hid _ := hz
    clear hz
    go_wp2_with (first | (go_at_call 152; refine (HA _).mono ?_; rintro e w' ⟨rfl, rfl⟩) | (go_at_call 154; refine (HC _).mono ?_; rintro e w' ⟨rfl, rfl⟩) | (go_at_call 157; refine (HM _).mono ?_; rintro e w' ⟨rfl, rfl⟩))
    go_region_with fail
    all_goals
      go_wp2_with fail
    all_goals
      obtain ⟨W, hW⟩ : ∃ W, W = put4 w2 w.heap.size o 0 ⟨#[]⟩ ⟨#[]⟩ := ⟨_, rfl⟩
      have S := Box.stored (w := w2) ⟨hltA, a0, a1, a2, a3, af0, af1, af2, af3⟩ o 0 ⟨#[]⟩ ⟨#[]⟩
      have bW := put4_below e2 (Nat.le_refl _) o 0 ⟨#[]⟩ ⟨#[]⟩
      rw [← hW] at S bW
      unfold put4 at hW
      obtain ⟨_, s0, s1, s2, s3, _, _, _, _⟩ := S
      rw [← hW]
      refine bodyPost_ret (by simp [results, Tryz.results135, go_sem, s0, s1, s2, s3]; try rfl) rfl ?_
      refine ⟨?_, by go_grown⟩
      unfold finI
      rw [if_pos HE.out, HZ.out]
      rfl
  · have hne : (askF E1 (opB o) != 0) = true := by simpa using hE
    have HE : Hid _ := hE
    clear hE
    go_wp2_with (first | (go_at_call 152; refine (HA _).mono ?_; rintro e w' ⟨rfl, rfl⟩) | (go_at_call 154; refine (HC _).mono ?_; rintro e w' ⟨rfl, rfl⟩) | (go_at_call 157; refine (HM _).mono ?_; rintro e w' ⟨rfl, rfl⟩))
    go_region_with fail
    all_goals
      go_wp2_with fail
    all_goals
      obtain ⟨W, hW⟩ : ∃ W, W = put4 w2 w.heap.size 0 0 ⟨#[]⟩ ⟨#[]⟩ := ⟨_, rfl⟩
      have S := Box.stored (w := w2) ⟨hltA, a0, a1, a2, a3, af0, af1, af2, af3⟩ 0 0 ⟨#[]⟩ ⟨#[]⟩
      have bW := put4_below e2 (Nat.le_refl _) 0 0 ⟨#[]⟩ ⟨#[]⟩
      rw [← hW] at S bW
      unfold put4 at hW
      obtain ⟨_, s0, s1, s2, s3, _, _, _, _⟩ := S
      rw [← hW]
      refine bodyPost_ret (by simp [results, Tryz.results135, go_sem, s0, s1, s2, s3]; try rfl) rfl ?_
      refine ⟨?_, by go_grown⟩
      unfold finI
      rw [if_neg HE.out]
      rfl

end Op4
end Go.Proofs.YtjblmgdjaaeedaaGreat

/- The contract of op.Get: kind A: what speaks of the program. -/
namespace Go.Proofs.YtjblmgdjaaeedaaGreat
namespace Op4
open Num Kind
open Go.RowKit
set_option linter.unusedVariables false
set_option maxRecDepth 100000

set_option maxRecDepth 100000 in
set_option maxHeartbeats 4000000 in
theorem oget_A (p : Option Addr) (n k : Nat) (xs : List Int) (w : World) (h : Has w p n k xs) (hb : Bytes xs) (hn : n ≤ 100000000) (o : Int) (ys : List Int) (E1 : Int) (hr1 : rdN 0 xs = (o, ys, E1)) (hby : Bytes ys) (hly : ys.length ≤ n) (hp : partsF o = (true, 0, false)) (a : Int) (zs : List Int) (E2 : Int) (hr2 : rdN (askF E1 (opB o)) ys = (a, zs, E2)) (hlz : zs.length ≤ n) :
    Calls Tryz.prog 135 #[.slice p n k] w fun e w' => e = .returned (resI (finI n zs (askF E2 (aB o a)) o a [] [])) ∧ Below w.heap.size w w' := by
  have HA := fun W => ohasA_any o W
  have HC := fun W => ohasC_any o W
  have HM := fun W => ohasM_any o W
  unfold cB at HC
  rw [hp] at HA HC HM
  simp only [Int.lt_irrefl, decide_false] at HA HC HM
  have HN := fun W b R => onumber_any (w.heap.size + 1 + 1) p n k xs 0 w W h hb b (by omega) R
  rw [hr1] at HN
  have hnn : n ≤ 9223372036854775807 := by omega
  have hlen := h.len
  have HL : Hid _ := hlen
  clear hp hr1 hlen
  have b0 := (((Below.refl w.heap.size w).alloc (Nat.le_refl _) (.cells #[.int .i64 0, .int .i64 0, .string ⟨#[]⟩, .string ⟨#[]⟩] 48)).alloc (by simp) (.cells #[.int .i64 0, .int .i64 0, .string ⟨#[]⟩, .string ⟨#[]⟩] 48)).alloc (by simp; omega) (.cells #[.slice p n k, .int .i64 0] 150)
  have A0 := ((Box.new w 0 0 ⟨#[]⟩ ⟨#[]⟩ 48).alloc (.cells #[.int .i64 0, .int .i64 0, .string ⟨#[]⟩, .string ⟨#[]⟩] 48)).alloc (.cells #[.slice p n k, .int .i64 0] 150)
  have X0 := (Box.new (w.alloc (.cells #[.int .i64 0, .int .i64 0, .string ⟨#[]⟩, .string ⟨#[]⟩] 48)) 0 0 ⟨#[]⟩ ⟨#[]⟩ 48).alloc (.cells #[.slice p n k, .int .i64 0] 150)
  have R0 := Rdr.new ((w.alloc (.cells #[.int .i64 0, .int .i64 0, .string ⟨#[]⟩, .string ⟨#[]⟩] 48)).alloc (.cells #[.int .i64 0, .int .i64 0, .string ⟨#[]⟩, .string ⟨#[]⟩] 48)) p n k 0 150
  simp only [World.size_alloc] at X0 R0
  go_enter Tryz.func135, Tryz.ntmps135
  go_wp2_with fail
  refine (HN _ b0 R0).mono ?_
  rintro e w1 ⟨p1, n1, k1, rfl, h1, R1, g1⟩
  have A1 := A0.grown g1 (ne2 _)
  have X1 := X0.grown g1 (ne3 _)
  have e1 := b0.grown g1 (by simp; omega) (fun k e => by cases e; omega)
  clear A0 X0 R0 b0 g1 HN
  obtain ⟨_, x0, x1, x2, x3, xf0, xf1, xf2, xf3⟩ := X1
  go_wp2_with fail
  refine (omayOp_any o _).mono ?_
  rintro e w' ⟨rfl, rfl⟩
  go_wp2_with fail
  refine (oask_any (w.heap.size + 1 + 1) _ _ _ _ (opB o) _ (R1.grown (set_grown _ (w.heap.size + 1) 0 (.int .i64 o)) (ne4 _))).mono ?_
  rintro e w2 ⟨rfl, R2, g2⟩
  have A2 := (A1.grown (set_grown _ (w.heap.size + 1) 0 (.int .i64 o)) (ne1 _)).grown g2 (ne2 _)
  have X2 := (Box.set0 ⟨by assumption, x0, x1, x2, x3, xf0, xf1, xf2, xf3⟩ o).grown g2 (ne3 _)
  have e2 := (e1.grown (set_grown _ (w.heap.size + 1) 0 (.int .i64 o)) e1.size (fun k e => by cases e; omega)).grown g2 (by simp [World.size_setCell]; exact e1.size) (fun k e => by cases e; omega)
  clear A1 R1 g2 x0 x1 x2 x3 xf0 xf1 xf2 xf3 e1
  have HN := fun W b R => onumber_any (w.heap.size + 1 + 1) p1 n1 k1 ys (askF E1 (opB o)) w W h1 hby b (by omega) R
  rw [hr2] at HN
  clear hr2
  obtain ⟨hltX, x0, x1, x2, x3, xf0, xf1, xf2, xf3⟩ := X2
  go_wp2_with (first | (go_at_call 152; refine (HA _).mono ?_; rintro e w' ⟨rfl, rfl⟩))
  refine (HN _ e2 R2).mono ?_
  rintro e w3 ⟨p2, n2, k2, rfl, h2, R3, g3⟩
  have A3 := A2.grown g3 (ne2 _)
  have X3 := Box.grown ⟨hltX, x0, x1, x2, x3, xf0, xf1, xf2, xf3⟩ g3 (ne3 _)
  have e3 := e2.grown g3 e2.size (fun k e => by cases e; omega)
  clear A2 R2 g3 HN x0 x1 x2 x3 xf0 xf1 xf2 xf3 e2 hltX
  obtain ⟨_, x0, x1, x2, x3, xf0, xf1, xf2, xf3⟩ := X3
  go_wp2_with fail
  refine (omayA_any o a _).mono ?_
  rintro e w' ⟨rfl, rfl⟩
  go_wp2_with fail
  refine (oask_any (w.heap.size + 1 + 1) _ _ _ _ (aB o a) _ (R3.grown (set_grown _ (w.heap.size + 1) 1 (.int .i64 a)) (ne4 _))).mono ?_
  rintro e w4 ⟨rfl, R4, g4⟩
  have A4 := (A3.grown (set_grown _ (w.heap.size + 1) 1 (.int .i64 a)) (ne1 _)).grown g4 (ne2 _)
  have X4 := (Box.set1 ⟨by assumption, x0, x1, x2, x3, xf0, xf1, xf2, xf3⟩ a).grown g4 (ne3 _)
  have e4 := (e3.grown (set_grown _ (w.heap.size + 1) 1 (.int .i64 a)) e3.size (fun k e => by cases e; omega)).grown g4 (by simp [World.size_setCell]; exact e3.size) (fun k e => by cases e; omega)
  clear A3 R3 g4 x0 x1 x2 x3 xf0 xf1 xf2 xf3 e3
  have hz := h2.len
  obtain ⟨hltX, x0, x1, x2, x3, xf0, xf1, xf2, xf3⟩ := X4
  obtain ⟨hltA, a0, a1, a2, a3, af0, af1, af2, af3⟩ := A4
  obtain ⟨hltR, r0, r1, rf0, rf1⟩ := R4
  by_cases hE : askF E2 (aB o a) = 0
  · have HE : Hid _ := hE
    rw [hE] at r1
    clear hE
    have hw : IntKind.i64.wrap ((n : Int) - (n2 : Int)) = (n : Int) - n2 := by rw [IntKind.wrap_i64]; omega
    have HZ : Hid _ := hz
    clear hz
    go_wp2_with (first | (go_at_call 154; refine (HC _).mono ?_; rintro e w' ⟨rfl, rfl⟩) | (go_at_call 157; refine (HM _).mono ?_; rintro e w' ⟨rfl, rfl⟩))
    go_region_with fail
    all_goals
      go_wp2_with fail
    all_goals
      obtain ⟨W, hW⟩ : ∃ W, W = put4 w4 w.heap.size o a ⟨#[]⟩ ⟨#[]⟩ := ⟨_, rfl⟩
      have S := Box.stored (w := w4) ⟨hltA, a0, a1, a2, a3, af0, af1, af2, af3⟩ o a ⟨#[]⟩ ⟨#[]⟩
      have bW := put4_below e4 (Nat.le_refl _) o a ⟨#[]⟩ ⟨#[]⟩
      rw [← hW] at S bW
      unfold put4 at hW
      obtain ⟨_, s0, s1, s2, s3, _, _, _, _⟩ := S
      rw [← hW]
      refine bodyPost_ret (by simp [results, Tryz.results135, go_sem, s0, s1, s2, s3]; try rfl) rfl ?_
      refine ⟨?_, by go_grown⟩
      unfold finI
      rw [if_pos HE.out, HZ.out]
      rfl
  · have hne : (askF E2 (aB o a) != 0) = true := by simpa using hE
    have HE : Hid _ := hE
    clear hE
    go_wp2_with (first | (go_at_call 154; refine (HC _).mono ?_; rintro e w' ⟨rfl, rfl⟩) | (go_at_call 157; refine (HM _).mono ?_; rintro e w' ⟨rfl, rfl⟩))
    go_region_with fail
    all_goals
      go_wp2_with fail
    all_goals
      obtain ⟨W, hW⟩ : ∃ W, W = put4 w4 w.heap.size 0 0 ⟨#[]⟩ ⟨#[]⟩ := ⟨_, rfl⟩
      have S := Box.stored (w := w4) ⟨hltA, a0, a1, a2, a3, af0, af1, af2, af3⟩ 0 0 ⟨#[]⟩ ⟨#[]⟩
      have bW := put4_below e4 (Nat.le_refl _) 0 0 ⟨#[]⟩ ⟨#[]⟩
      rw [← hW] at S bW
      unfold put4 at hW
      obtain ⟨_, s0, s1, s2, s3, _, _, _, _⟩ := S
      rw [← hW]
      refine bodyPost_ret (by simp [results, Tryz.results135, go_sem, s0, s1, s2, s3]; try rfl) rfl ?_
      refine ⟨?_, by go_grown⟩
      unfold finI
      rw [if_neg HE.out]
      rfl

end Op4
end Go.Proofs.YtjblmgdjaaeedaaGreat

/- The contract of op.Get: kind C: what speaks of the program. -/
namespace Go.Proofs.YtjblmgdjaaeedaaGreat
namespace Op4
open Num Kind
open Go.RowKit
set_option linter.unusedVariables false
set_option maxRecDepth 100000

set_option maxRecDepth 100000 in
set_option maxHeartbeats 4000000 in
theorem oget_C (p : Option Addr) (n k : Nat) (xs : List Int) (w : World) (h : Has w p n k xs) (hb : Bytes xs) (hn : n ≤ 100000000) (o : Int) (ys : List Int) (E1 : Int) (hr1 : rdN 0 xs = (o, ys, E1)) (hby : Bytes ys) (hly : ys.length ≤ n) (j : Int) (hj : 0 < j) (hp : partsF o = (false, j, false)) (c zs : List Int) (E2 : Int) (hr2 : rdT (askF E1 (opB o)) ys = (c, zs, E2)) (hlz : zs.length ≤ n) (hbc : Bytes c) (hlc : c.length ≤ n) :
    Calls Tryz.prog 135 #[.slice p n k] w fun e w' => e = .returned (resI (finI n zs (askF E2 (tB o c)) o 0 c [])) ∧ Below w.heap.size w w' := by
  have HA := fun W => ohasA_any o W
  have HC := fun W => ohasC_any o W
  have HM := fun W => ohasM_any o W
  unfold cB at HC
  rw [hp] at HA HC HM
  simp only [hj, decide_true] at HA HC HM
  have HN := fun W b R => onumber_any (w.heap.size + 1 + 1) p n k xs 0 w W h hb b (by omega) R
  rw [hr1] at HN
  have hnn : n ≤ 9223372036854775807 := by omega
  have hlen := h.len
  have HL : Hid _ := hlen
  clear hp hr1 hlen
  have b0 := (((Below.refl w.heap.size w).alloc (Nat.le_refl _) (.cells #[.int .i64 0, .int .i64 0, .string ⟨#[]⟩, .string ⟨#[]⟩] 48)).alloc (by simp) (.cells #[.int .i64 0, .int .i64 0, .string ⟨#[]⟩, .string ⟨#[]⟩] 48)).alloc (by simp; omega) (.cells #[.slice p n k, .int .i64 0] 150)
  have A0 := ((Box.new w 0 0 ⟨#[]⟩ ⟨#[]⟩ 48).alloc (.cells #[.int .i64 0, .int .i64 0, .string ⟨#[]⟩, .string ⟨#[]⟩] 48)).alloc (.cells #[.slice p n k, .int .i64 0] 150)
  have X0 := (Box.new (w.alloc (.cells #[.int .i64 0, .int .i64 0, .string ⟨#[]⟩, .string ⟨#[]⟩] 48)) 0 0 ⟨#[]⟩ ⟨#[]⟩ 48).alloc (.cells #[.slice p n k, .int .i64 0] 150)
  have R0 := Rdr.new ((w.alloc (.cells #[.int .i64 0, .int .i64 0, .string ⟨#[]⟩, .string ⟨#[]⟩] 48)).alloc (.cells #[.int .i64 0, .int .i64 0, .string ⟨#[]⟩, .string ⟨#[]⟩] 48)) p n k 0 150
  simp only [World.size_alloc] at X0 R0
  go_enter Tryz.func135, Tryz.ntmps135
  go_wp2_with fail
  refine (HN _ b0 R0).mono ?_
  rintro e w1 ⟨p1, n1, k1, rfl, h1, R1, g1⟩
  have A1 := A0.grown g1 (ne2 _)
  have X1 := X0.grown g1 (ne3 _)
  have e1 := b0.grown g1 (by simp; omega) (fun k e => by cases e; omega)
  clear A0 X0 R0 b0 g1 HN
  obtain ⟨_, x0, x1, x2, x3, xf0, xf1, xf2, xf3⟩ := X1
  go_wp2_with fail
  refine (omayOp_any o _).mono ?_
  rintro e w' ⟨rfl, rfl⟩
  go_wp2_with fail
  refine (oask_any (w.heap.size + 1 + 1) _ _ _ _ (opB o) _ (R1.grown (set_grown _ (w.heap.size + 1) 0 (.int .i64 o)) (ne4 _))).mono ?_
  rintro e w2 ⟨rfl, R2, g2⟩
  have A2 := (A1.grown (set_grown _ (w.heap.size + 1) 0 (.int .i64 o)) (ne1 _)).grown g2 (ne2 _)
  have X2 := (Box.set0 ⟨by assumption, x0, x1, x2, x3, xf0, xf1, xf2, xf3⟩ o).grown g2 (ne3 _)
  have e2 := (e1.grown (set_grown _ (w.heap.size + 1) 0 (.int .i64 o)) e1.size (fun k e => by cases e; omega)).grown g2 (by simp [World.size_setCell]; exact e1.size) (fun k e => by cases e; omega)
  clear A1 R1 g2 x0 x1 x2 x3 xf0 xf1 xf2 xf3 e1
  have HN := fun W b R => otext_any (w.heap.size + 1 + 1) p1 n1 k1 ys (askF E1 (opB o)) w W h1 hby b (by omega) R (by have := h1.len; omega)
  rw [hr2] at HN
  clear hr2
  obtain ⟨hltX, x0, x1, x2, x3, xf0, xf1, xf2, xf3⟩ := X2
  go_wp2_with (first | (go_at_call 152; refine (HA _).mono ?_; rintro e w' ⟨rfl, rfl⟩) | (go_at_call 154; refine (HC _).mono ?_; rintro e w' ⟨rfl, rfl⟩))
  refine (HN _ e2 R2).mono ?_
  rintro e w3 ⟨p2, n2, k2, rfl, h2, R3, g3⟩
  have A3 := A2.grown g3 (ne2 _)
  have X3 := Box.grown ⟨hltX, x0, x1, x2, x3, xf0, xf1, xf2, xf3⟩ g3 (ne3 _)
  have e3 := e2.grown g3 e2.size (fun k e => by cases e; omega)
  clear A2 R2 g3 HN x0 x1 x2 x3 xf0 xf1 xf2 xf3 e2 hltX
  have HT := fun W => omayC_any o (strOfNums c) W (by rw [str_size]; unfold maxLen; omega)
  rw [nums_str hbc] at HT
  obtain ⟨_, x0, x1, x2, x3, xf0, xf1, xf2, xf3⟩ := X3
  go_wp2_with fail
  refine (HT _).mono ?_
  rintro e w' ⟨rfl, rfl⟩
  go_wp2_with fail
  refine (oask_any (w.heap.size + 1 + 1) _ _ _ _ (tB o c) _ (R3.grown (set_grown _ (w.heap.size + 1) 2 (.string (strOfNums c))) (ne4 _))).mono ?_
  rintro e w4 ⟨rfl, R4, g4⟩
  have A4 := (A3.grown (set_grown _ (w.heap.size + 1) 2 (.string (strOfNums c))) (ne1 _)).grown g4 (ne2 _)
  have X4 := (Box.set2 ⟨by assumption, x0, x1, x2, x3, xf0, xf1, xf2, xf3⟩ (strOfNums c)).grown g4 (ne3 _)
  have e4 := (e3.grown (set_grown _ (w.heap.size + 1) 2 (.string (strOfNums c))) e3.size (fun k e => by cases e; omega)).grown g4 (by simp [World.size_setCell]; exact e3.size) (fun k e => by cases e; omega)
  clear A3 R3 g4 x0 x1 x2 x3 xf0 xf1 xf2 xf3 e3
  have hz := h2.len
  obtain ⟨hltX, x0, x1, x2, x3, xf0, xf1, xf2, xf3⟩ := X4
  obtain ⟨hltA, a0, a1, a2, a3, af0, af1, af2, af3⟩ := A4
  obtain ⟨hltR, r0, r1, rf0, rf1⟩ := R4
  by_cases hE : askF E2 (tB o c) = 0
  · have HE : Hid _ := hE
    rw [hE] at r1
    clear hE
    have hw : IntKind.i64.wrap ((n : Int) - (n2 : Int)) = (n : Int) - n2 := by rw [IntKind.wrap_i64]; omega
    have HZ : Hid _ := hz
    clear hz
    go_wp2_with (first | (go_at_call 157; refine (HM _).mono ?_; rintro e w' ⟨rfl, rfl⟩))
    go_region_with fail
    all_goals
      go_wp2_with fail
    all_goals
      obtain ⟨W, hW⟩ : ∃ W, W = put4 w4 w.heap.size o 0 (strOfNums c) ⟨#[]⟩ := ⟨_, rfl⟩
      have S := Box.stored (w := w4) ⟨hltA, a0, a1, a2, a3, af0, af1, af2, af3⟩ o 0 (strOfNums c) ⟨#[]⟩
      have bW := put4_below e4 (Nat.le_refl _) o 0 (strOfNums c) ⟨#[]⟩
      rw [← hW] at S bW
      unfold put4 at hW
      obtain ⟨_, s0, s1, s2, s3, _, _, _, _⟩ := S
      rw [← hW]
      refine bodyPost_ret (by simp [results, Tryz.results135, go_sem, s0, s1, s2, s3]; try rfl) rfl ?_
      refine ⟨?_, by go_grown⟩
      unfold finI
      rw [if_pos HE.out, HZ.out]
      rfl
  · have hne : (askF E2 (tB o c) != 0) = true := by simpa using hE
    have HE : Hid _ := hE
    clear hE
    go_wp2_with (first | (go_at_call 157; refine (HM _).mono ?_; rintro e w' ⟨rfl, rfl⟩))
    go_region_with fail
    all_goals
      go_wp2_with fail
    all_goals
      obtain ⟨W, hW⟩ : ∃ W, W = put4 w4 w.heap.size 0 0 ⟨#[]⟩ ⟨#[]⟩ := ⟨_, rfl⟩
      have S := Box.stored (w := w4) ⟨hltA, a0, a1, a2, a3, af0, af1, af2, af3⟩ 0 0 ⟨#[]⟩ ⟨#[]⟩
      have bW := put4_below e4 (Nat.le_refl _) 0 0 ⟨#[]⟩ ⟨#[]⟩
      rw [← hW] at S bW
      unfold put4 at hW
      obtain ⟨_, s0, s1, s2, s3, _, _, _, _⟩ := S
      rw [← hW]
      refine bodyPost_ret (by simp [results, Tryz.results135, go_sem, s0, s1, s2, s3]; try rfl) rfl ?_
      refine ⟨?_, by go_grown⟩
      unfold finI
      rw [if_neg HE.out]
      rfl

end Op4
end Go.Proofs.YtjblmgdjaaeedaaGreat

/- The contract of op.Get: kind M: what speaks of the program. -/
namespace Go.Proofs.YtjblmgdjaaeedaaGreat
namespace Op4
open Num Kind
open Go.RowKit
set_option linter.unusedVariables false
set_option maxRecDepth 100000

set_option maxRecDepth 100000 in
set_option maxHeartbeats 4000000 in
theorem oget_M (p : Option Addr) (n k : Nat) (xs : List Int) (w : World) (h : Has w p n k xs) (hb : Bytes xs) (hn : n ≤ 100000000) (o : Int) (ys : List Int) (E1 : Int) (hr1 : rdN 0 xs = (o, ys, E1)) (hby : Bytes ys) (hly : ys.length ≤ n) (j : Int) (hj : 0 < j) (hp : partsF o = (false, j, true)) (c zs : List Int) (E2 : Int) (hr2 : rdT (askF E1 (opB o)) ys = (c, zs, E2)) (hlz : zs.length ≤ n) (hbz : Bytes zs) (hbc : Bytes c) (hlc : c.length ≤ n) (m us : List Int) (E3 : Int) (hr3 : rdT (askF E2 (tB o c)) zs = (m, us, E3)) (hlu : us.length ≤ n) (hbm : Bytes m) (hlm : m.length ≤ n) :
    Calls Tryz.prog 135 #[.slice p n k] w fun e w' => e = .returned (resI (finI n us (askF E3 (nB o m)) o 0 c m)) ∧ Below w.heap.size w w' := by
  have HA := fun W => ohasA_any o W
  have HC := fun W => ohasC_any o W
  have HM := fun W => ohasM_any o W
  unfold cB at HC
  rw [hp] at HA HC HM
  simp only [hj, decide_true] at HA HC HM
  have HN := fun W b R => onumber_any (w.heap.size + 1 + 1) p n k xs 0 w W h hb b (by omega) R
  rw [hr1] at HN
  have hnn : n ≤ 9223372036854775807 := by omega
  have hlen := h.len
  have HL : Hid _ := hlen
  clear hp hr1 hlen
  have b0 := (((Below.refl w.heap.size w).alloc (Nat.le_refl _) (.cells #[.int .i64 0, .int .i64 0, .string ⟨#[]⟩, .string ⟨#[]⟩] 48)).alloc (by simp) (.cells #[.int .i64 0, .int .i64 0, .string ⟨#[]⟩, .string ⟨#[]⟩] 48)).alloc (by simp; omega) (.cells #[.slice p n k, .int .i64 0] 150)
  have A0 := ((Box.new w 0 0 ⟨#[]⟩ ⟨#[]⟩ 48).alloc (.cells #[.int .i64 0, .int .i64 0, .string ⟨#[]⟩, .string ⟨#[]⟩] 48)).alloc (.cells #[.slice p n k, .int .i64 0] 150)
  have X0 := (Box.new (w.alloc (.cells #[.int .i64 0, .int .i64 0, .string ⟨#[]⟩, .string ⟨#[]⟩] 48)) 0 0 ⟨#[]⟩ ⟨#[]⟩ 48).alloc (.cells #[.slice p n k, .int .i64 0] 150)
  have R0 := Rdr.new ((w.alloc (.cells #[.int .i64 0, .int .i64 0, .string ⟨#[]⟩, .string ⟨#[]⟩] 48)).alloc (.cells #[.int .i64 0, .int .i64 0, .string ⟨#[]⟩, .string ⟨#[]⟩] 48)) p n k 0 150
  simp only [World.size_alloc] at X0 R0
  go_enter Tryz.func135, Tryz.ntmps135
  go_wp2_with fail
  refine (HN _ b0 R0).mono ?_
  rintro e w1 ⟨p1, n1, k1, rfl, h1, R1, g1⟩
  have A1 := A0.grown g1 (ne2 _)
  have X1 := X0.grown g1 (ne3 _)
  have e1 := b0.grown g1 (by simp; omega) (fun k e => by cases e; omega)
  clear A0 X0 R0 b0 g1 HN
  obtain ⟨_, x0, x1, x2, x3, xf0, xf1, xf2, xf3⟩ := X1
  go_wp2_with fail
  refine (omayOp_any o _).mono ?_
  rintro e w' ⟨rfl, rfl⟩
  go_wp2_with fail
  refine (oask_any (w.heap.size + 1 + 1) _ _ _ _ (opB o) _ (R1.grown (set_grown _ (w.heap.size + 1) 0 (.int .i64 o)) (ne4 _))).mono ?_
  rintro e w2 ⟨rfl, R2, g2⟩
  have A2 := (A1.grown (set_grown _ (w.heap.size + 1) 0 (.int .i64 o)) (ne1 _)).grown g2 (ne2 _)
  have X2 := (Box.set0 ⟨by assumption, x0, x1, x2, x3, xf0, xf1, xf2, xf3⟩ o).grown g2 (ne3 _)
  have e2 := (e1.grown (set_grown _ (w.heap.size + 1) 0 (.int .i64 o)) e1.size (fun k e => by cases e; omega)).grown g2 (by simp [World.size_setCell]; exact e1.size) (fun k e => by cases e; omega)
  clear A1 R1 g2 x0 x1 x2 x3 xf0 xf1 xf2 xf3 e1
  have HN := fun W b R => otext_any (w.heap.size + 1 + 1) p1 n1 k1 ys (askF E1 (opB o)) w W h1 hby b (by omega) R (by have := h1.len; omega)
  rw [hr2] at HN
  clear hr2
  obtain ⟨hltX, x0, x1, x2, x3, xf0, xf1, xf2, xf3⟩ := X2
  go_wp2_with (first | (go_at_call 152; refine (HA _).mono ?_; rintro e w' ⟨rfl, rfl⟩) | (go_at_call 154; refine (HC _).mono ?_; rintro e w' ⟨rfl, rfl⟩))
  refine (HN _ e2 R2).mono ?_
  rintro e w3 ⟨p2, n2, k2, rfl, h2, R3, g3⟩
  have A3 := A2.grown g3 (ne2 _)
  have X3 := Box.grown ⟨hltX, x0, x1, x2, x3, xf0, xf1, xf2, xf3⟩ g3 (ne3 _)
  have e3 := e2.grown g3 e2.size (fun k e => by cases e; omega)
  clear A2 R2 g3 HN x0 x1 x2 x3 xf0 xf1 xf2 xf3 e2 hltX
  have HT := fun W => omayC_any o (strOfNums c) W (by rw [str_size]; unfold maxLen; omega)
  rw [nums_str hbc] at HT
  obtain ⟨_, x0, x1, x2, x3, xf0, xf1, xf2, xf3⟩ := X3
  go_wp2_with fail
  refine (HT _).mono ?_
  rintro e w' ⟨rfl, rfl⟩
  go_wp2_with fail
  refine (oask_any (w.heap.size + 1 + 1) _ _ _ _ (tB o c) _ (R3.grown (set_grown _ (w.heap.size + 1) 2 (.string (strOfNums c))) (ne4 _))).mono ?_
  rintro e w4 ⟨rfl, R4, g4⟩
  have A4 := (A3.grown (set_grown _ (w.heap.size + 1) 2 (.string (strOfNums c))) (ne1 _)).grown g4 (ne2 _)
  have X4 := (Box.set2 ⟨by assumption, x0, x1, x2, x3, xf0, xf1, xf2, xf3⟩ (strOfNums c)).grown g4 (ne3 _)
  have e4 := (e3.grown (set_grown _ (w.heap.size + 1) 2 (.string (strOfNums c))) e3.size (fun k e => by cases e; omega)).grown g4 (by simp [World.size_setCell]; exact e3.size) (fun k e => by cases e; omega)
  clear A3 R3 g4 x0 x1 x2 x3 xf0 xf1 xf2 xf3 e3
  have HN := fun W b R => otext_any (w.heap.size + 1 + 1) p2 n2 k2 zs (askF E2 (tB o c)) w W h2 hbz b (by omega) R (by have := h2.len; omega)
  rw [hr3] at HN
  clear hr3
  obtain ⟨hltX, x0, x1, x2, x3, xf0, xf1, xf2, xf3⟩ := X4
  go_wp2_with (first | (go_at_call 157; refine (HM _).mono ?_; rintro e w' ⟨rfl, rfl⟩))
  refine (HN _ e4 R4).mono ?_
  rintro e w5 ⟨p3, n3, k3, rfl, h3, R5, g5⟩
  have A5 := A4.grown g5 (ne2 _)
  have X5 := Box.grown ⟨hltX, x0, x1, x2, x3, xf0, xf1, xf2, xf3⟩ g5 (ne3 _)
  have e5 := e4.grown g5 e4.size (fun k e => by cases e; omega)
  clear A4 R4 g5 HN x0 x1 x2 x3 xf0 xf1 xf2 xf3 e4 hltX
  have HU := fun W => omayM_any o (strOfNums m) W (by rw [str_size]; unfold maxLen; omega)
  rw [nums_str hbm] at HU
  obtain ⟨_, x0, x1, x2, x3, xf0, xf1, xf2, xf3⟩ := X5
  go_wp2_with fail
  refine (HU _).mono ?_
  rintro e w' ⟨rfl, rfl⟩
  go_wp2_with fail
  refine (oask_any (w.heap.size + 1 + 1) _ _ _ _ (nB o m) _ (R5.grown (set_grown _ (w.heap.size + 1) 3 (.string (strOfNums m))) (ne4 _))).mono ?_
  rintro e w6 ⟨rfl, R6, g6⟩
  have A6 := (A5.grown (set_grown _ (w.heap.size + 1) 3 (.string (strOfNums m))) (ne1 _)).grown g6 (ne2 _)
  have X6 := (Box.set3 ⟨by assumption, x0, x1, x2, x3, xf0, xf1, xf2, xf3⟩ (strOfNums m)).grown g6 (ne3 _)
  have e6 := (e5.grown (set_grown _ (w.heap.size + 1) 3 (.string (strOfNums m))) e5.size (fun k e => by cases e; omega)).grown g6 (by simp [World.size_setCell]; exact e5.size) (fun k e => by cases e; omega)
  clear A5 R5 g6 x0 x1 x2 x3 xf0 xf1 xf2 xf3 e5
  have hz := h3.len
  obtain ⟨hltX, x0, x1, x2, x3, xf0, xf1, xf2, xf3⟩ := X6
  obtain ⟨hltA, a0, a1, a2, a3, af0, af1, af2, af3⟩ := A6
  obtain ⟨hltR, r0, r1, rf0, rf1⟩ := R6
  by_cases hE : askF E3 (nB o m) = 0
  · have HE : Hid _ := hE
    rw [hE] at r1
    clear hE
    have hw : IntKind.i64.wrap ((n : Int) - (n3 : Int)) = (n : Int) - n3 := by rw [IntKind.wrap_i64]; omega
    have HZ : Hid _ := hz
    clear hz
    go_wp2_with fail
    go_region_with fail
    all_goals
      go_wp2_with fail
    all_goals
      obtain ⟨W, hW⟩ : ∃ W, W = put4 w6 w.heap.size o 0 (strOfNums c) (strOfNums m) := ⟨_, rfl⟩
      have S := Box.stored (w := w6) ⟨hltA, a0, a1, a2, a3, af0, af1, af2, af3⟩ o 0 (strOfNums c) (strOfNums m)
      have bW := put4_below e6 (Nat.le_refl _) o 0 (strOfNums c) (strOfNums m)
      rw [← hW] at S bW
      unfold put4 at hW
      obtain ⟨_, s0, s1, s2, s3, _, _, _, _⟩ := S
      rw [← hW]
      refine bodyPost_ret (by simp [results, Tryz.results135, go_sem, s0, s1, s2, s3]; try rfl) rfl ?_
      refine ⟨?_, by go_grown⟩
      unfold finI
      rw [if_pos HE.out, HZ.out]
      rfl
  · have hne : (askF E3 (nB o m) != 0) = true := by simpa using hE
    have HE : Hid _ := hE
    clear hE
    go_wp2_with fail
    go_region_with fail
    all_goals
      go_wp2_with fail
    all_goals
      obtain ⟨W, hW⟩ : ∃ W, W = put4 w6 w.heap.size 0 0 ⟨#[]⟩ ⟨#[]⟩ := ⟨_, rfl⟩
      have S := Box.stored (w := w6) ⟨hltA, a0, a1, a2, a3, af0, af1, af2, af3⟩ 0 0 ⟨#[]⟩ ⟨#[]⟩
      have bW := put4_below e6 (Nat.le_refl _) 0 0 ⟨#[]⟩ ⟨#[]⟩
      rw [← hW] at S bW
      unfold put4 at hW
      obtain ⟨_, s0, s1, s2, s3, _, _, _, _⟩ := S
      rw [← hW]
      refine bodyPost_ret (by simp [results, Tryz.results135, go_sem, s0, s1, s2, s3]; try rfl) rfl ?_
      refine ⟨?_, by go_grown⟩
      unfold finI
      rw [if_neg HE.out]
      rfl

end Op4
end Go.Proofs.YtjblmgdjaaeedaaGreat

/- The contract of op.Get: of any bytes. -/
namespace Go.Proofs.YtjblmgdjaaeedaaGreat
namespace Op4
open Num Kind
open Go.RowKit
set_option linter.unusedVariables false
set_option maxRecDepth 100000

theorem getF_err : ∀ (xs : List Int) (i : Nat) (u : Int), (getF i u xs).2.2 ≠ 0 → (getF i u xs).1 = 0 ∧ (getF i u xs).2.1 = 0
  | [], i, u, h => ⟨rfl, rfl⟩
  | x :: r, i, u, h => by
    unfold getF at h ⊢
    split
    · exact ⟨rfl, rfl⟩
    · rename_i h1
      rw [if_neg h1] at h
      split
      · rename_i h2
        rw [if_pos h2] at h
        exact getF_err r _ _ h
      · rename_i h2
        rw [if_neg h2] at h
        split
        · exact ⟨rfl, rfl⟩
        · rename_i h3
          rw [if_neg h3] at h
          exact absurd rfl h
theorem get_err (xs : List Int) (h : (get xs).2.2 ≠ 0) : (get xs).1 = 0 ∧ (get xs).2.1 = 0 := getF_err xs 0 0 h
theorem getText_err (xs : List Int) (h : (getText xs).2.2 ≠ 0) : (getText xs).1 = [] ∧ (getText xs).2.1 = 0 := by
  unfold getText at h ⊢
  split
  · exact ⟨rfl, rfl⟩
  · rename_i h1
    rw [if_neg h1] at h
    split
    · exact ⟨rfl, rfl⟩
    · rename_i h2
      rw [if_neg h2] at h
      split
      · exact ⟨rfl, rfl⟩
      · rename_i h3
        rw [if_neg h3] at h
        exact absurd rfl h

theorem parts0 : partsF 0 = (false, 0, false) := by decide
theorem askF_true (e : Int) : askF e true = e := by unfold askF; rw [if_neg (fun h => by cases h.2)]
theorem askF_err (e : Int) (q : Bool) (h : e ≠ 0) : askF e q = e := by unfold askF; rw [if_neg (fun x => h x.1)]
theorem askF_false : askF 0 false = 1 := rfl
theorem opB_of (o : Int) (h : partsF o ≠ (false, 0, false)) : opB o = true := by
  rcases kinds o with ⟨hk, hp⟩ | ⟨hk, hp⟩ | ⟨hk, hp⟩ | ⟨hk, hp⟩ | ⟨hk, hp⟩
  · unfold opB; simp; omega
  · unfold opB; simp; omega
  · unfold opB; simp; omega
  · unfold opB; simp; omega
  · exact absurd hp h
theorem fin_ok (n : Nat) (zs : List Int) (o a : Int) (c m : List Int) (K : Int) (h : (n : Int) - zs.length = K) : finI n zs 0 o a c m = ((o, a, c, m), K, 0) := by
  unfold finI; rw [if_pos rfl, h]
theorem fin_err (n : Nat) (zs : List Int) (e o a : Int) (c m : List Int) (h : e ≠ 0) : finI n zs e o a c m = failI e := by
  unfold finI; rw [if_neg h]

/-- op.Get of any bytes. -/
theorem oget_any (p : Option Addr) (n k : Nat) (xs : List Int) (w : World) (h : Has w p n k xs) (hb : Bytes xs) (hn : n ≤ 100000000) :
    Calls Tryz.prog 135 #[.slice p n k] w fun e w' => e = .returned (resI (getI xs)) ∧ Below w.heap.size w w' := by
  have hlen := h.len
  have bd := get_bd xs hb
  rw [hlen] at bd
  have hr1 : rdN 0 xs = ((get xs).1, xs.drop (get xs).2.1.toNat, (get xs).2.2) := by unfold rdN; rw [if_pos rfl]
  have hE := get_err xs
  have hI : getI xs = if (get xs).2.2 ≠ 0 then failI (get xs).2.2 else if (get xs).1 < 1 ∨ 61 < (get xs).1 then failI 1 else getA (get xs).1 (get xs).2.1.toNat xs := rfl
  generalize get xs = r at *
  obtain ⟨o, K1, E1⟩ := r
  simp only at bd hr1 hE hI
  obtain ⟨ho, hK0, hK1, he0, he2⟩ := bd
  obtain ⟨K1, rfl⟩ := Int.eq_ofNat_of_zero_le hK0
  rw [Int.toNat_natCast] at hr1 hI
  have hby := bytes_drop' hb K1
  have hly : (xs.drop K1).length = n - K1 := by rw [List.length_drop, hlen]
  have hK1n : K1 ≤ n := by omega
  -- a part behind: no error ahead
  have ahead : partsF o ≠ (false, 0, false) → E1 = 0 ∧ opB o = true ∧ getI xs = getA o K1 xs := by
    intro hp
    have h1 := opB_of o hp
    have h0 : E1 = 0 := Classical.byContradiction fun hne => hp (by rw [(hE hne).1]; exact parts0)
    refine ⟨h0, h1, ?_⟩
    have : ¬ (o < 1 ∨ 61 < o) := by unfold opB at h1; simp at h1; omega
    rw [hI, if_neg (by simp [h0]), if_neg this]
  have partC : ∀ j : Int, (j = 1 ∨ j = 2) → partsF o = (false, j, false) → Calls Tryz.prog 135 #[.slice p n k] w fun e w' => e = .returned (resI (getI xs)) ∧ Below w.heap.size w w' := by
    intro j hj hp
    have hj0 : 0 < j := by omega
    obtain ⟨rfl, h1, hG⟩ := ahead (by rw [hp]; intro e; injection e with _ e; injection e with e _; omega)
    have bd2 := getText_bd (xs.drop K1) hby
    rw [hly] at bd2
    have hr2 : rdT (askF 0 (opB o)) (xs.drop K1) = ((getText (xs.drop K1)).1, (xs.drop K1).drop (getText (xs.drop K1)).2.1.toNat, (getText (xs.drop K1)).2.2) := by rw [h1]; unfold rdT askF; simp
    have hV : getI xs = if (getText (xs.drop K1)).2.2 ≠ 0 then failI (getText (xs.drop K1)).2.2 else if textB j (getText (xs.drop K1)).1 = true then ((o, 0, (getText (xs.drop K1)).1, []), ((K1 + (getText (xs.drop K1)).2.1.toNat : Nat) : Int), 0) else failI 1 := by
      rw [hG]; unfold getA getC getM; simp [hp, hj0]
    have ht : textB j (getText (xs.drop K1)).1 = tB o (getText (xs.drop K1)).1 := by
      unfold textB tB; rw [hp]; rcases hj with rfl | rfl <;> simp
    rw [ht] at hV
    clear ht
    generalize getText (xs.drop K1) = r2 at *
    obtain ⟨c, K2, E2⟩ := r2
    simp only at bd2 hr2 hV
    obtain ⟨hbc, hlc, hK20, hK2, he20, he22⟩ := bd2
    obtain ⟨K2, rfl⟩ := Int.eq_ofNat_of_zero_le hK20
    rw [Int.toNat_natCast] at hr2 hV
    have hlz : ((xs.drop K1).drop K2).length = n - K1 - K2 := by rw [List.length_drop, hly]
    refine (oget_C p n k xs w h hb hn o (xs.drop K1) 0 hr1 hby (by omega) j hj0 hp c _ E2 hr2 (by omega) hbc (by omega)).mono ?_
    rintro e w' ⟨rfl, b⟩
    refine ⟨?_, b⟩
    rw [hV]
    by_cases hE2 : E2 = 0
    · subst hE2
      cases hq : tB o c
      · rw [askF_false, fin_err _ _ _ _ _ _ _ (by decide)]; simp
      · rw [askF_true, fin_ok _ _ _ _ _ _ ((K1 + K2 : Nat) : Int) (by omega)]; simp
    · rw [askF_err _ _ hE2, fin_err _ _ _ _ _ _ _ hE2, if_pos hE2]
  rcases kinds o with ⟨hk, hp⟩ | ⟨hk, hp⟩ | ⟨hk, hp⟩ | ⟨hk, hp⟩ | ⟨hk, hp⟩
  · obtain ⟨rfl, h1, hG⟩ := ahead (by rw [hp]; decide)
    have bd2 := get_bd (xs.drop K1) hby
    rw [hly] at bd2
    have hr2 : rdN (askF 0 (opB o)) (xs.drop K1) = ((get (xs.drop K1)).1, (xs.drop K1).drop (get (xs.drop K1)).2.1.toNat, (get (xs.drop K1)).2.2) := by rw [h1]; unfold rdN askF; simp
    have hV : getI xs = if (get (xs.drop K1)).2.2 ≠ 0 then failI (get (xs.drop K1)).2.2 else if numberB o (get (xs.drop K1)).1 = true then ((o, (get (xs.drop K1)).1, [], []), ((K1 + (get (xs.drop K1)).2.1.toNat : Nat) : Int), 0) else failI 1 := by
      rw [hG]; unfold getA getC getM; simp [hp]
    rw [number_aB o _ (by rw [hp])] at hV
    generalize get (xs.drop K1) = r2 at *
    obtain ⟨a, K2, E2⟩ := r2
    simp only at bd2 hr2 hV
    obtain ⟨ha, hK20, hK2, he20, he22⟩ := bd2
    obtain ⟨K2, rfl⟩ := Int.eq_ofNat_of_zero_le hK20
    rw [Int.toNat_natCast] at hr2 hV
    have hlz : ((xs.drop K1).drop K2).length = n - K1 - K2 := by rw [List.length_drop, hly]
    have := oget_A p n k xs w h hb hn o (xs.drop K1) 0 hr1 hby (by omega) hp a _ E2 hr2 (by omega)
    refine this.mono ?_
    rintro e w' ⟨rfl, b⟩
    refine ⟨?_, b⟩
    rw [hV]
    by_cases hE2 : E2 = 0
    · subst hE2
      cases hq : aB o a
      · rw [askF_false, fin_err _ _ _ _ _ _ _ (by decide)]; simp
      · rw [askF_true, fin_ok _ _ _ _ _ _ ((K1 + K2 : Nat) : Int) (by omega)]; simp
    · rw [askF_err _ _ hE2, fin_err _ _ _ _ _ _ _ hE2, if_pos hE2]
  · exact partC 1 (.inl rfl) hp
  · obtain ⟨rfl, h1, hG⟩ := ahead (by rw [hp]; decide)
    have bd2 := getText_bd (xs.drop K1) hby
    rw [hly] at bd2
    have hr2 : rdT (askF 0 (opB o)) (xs.drop K1) = ((getText (xs.drop K1)).1, (xs.drop K1).drop (getText (xs.drop K1)).2.1.toNat, (getText (xs.drop K1)).2.2) := by rw [h1]; unfold rdT askF; simp
    have hV : getI xs = if (getText (xs.drop K1)).2.2 ≠ 0 then failI (getText (xs.drop K1)).2.2 else if textB 1 (getText (xs.drop K1)).1 = true then getM o 0 (getText (xs.drop K1)).1 (K1 + (getText (xs.drop K1)).2.1.toNat) xs else failI 1 := by
      rw [hG]; unfold getA getC; simp [hp]
    have ht : textB 1 (getText (xs.drop K1)).1 = tB o (getText (xs.drop K1)).1 := by
      unfold textB tB; rw [hp]; simp
    rw [ht] at hV
    clear ht
    generalize getText (xs.drop K1) = r2 at *
    obtain ⟨c, K2, E2⟩ := r2
    simp only at bd2 hr2 hV
    obtain ⟨hbc, hlc, hK20, hK2, he20, he22⟩ := bd2
    obtain ⟨K2, rfl⟩ := Int.eq_ofNat_of_zero_le hK20
    rw [Int.toNat_natCast] at hr2 hV
    have hlz : ((xs.drop K1).drop K2).length = n - K1 - K2 := by rw [List.length_drop, hly]
    have hbz := bytes_drop' hby K2
    have hdd : (xs.drop K1).drop K2 = xs.drop (K1 + K2) := by rw [List.drop_drop]
    have hM : getM o 0 c (K1 + K2) xs = if (getText (xs.drop (K1 + K2))).2.2 ≠ 0 then failI (getText (xs.drop (K1 + K2))).2.2 else if nB o (getText (xs.drop (K1 + K2))).1 = true then ((o, 0, c, (getText (xs.drop (K1 + K2))).1), ((K1 + K2 : Nat) : Int) + (getText (xs.drop (K1 + K2))).2.1, 0) else failI 1 := by
      unfold getM nB; simp [hp]
    rw [← hdd] at hM
    clear hdd
    generalize (xs.drop K1).drop K2 = zs at *
    obtain ⟨m, us, E3, hr3⟩ : ∃ m us E3, rdT (askF E2 (tB o c)) zs = (m, us, E3) := ⟨_, _, _, rfl⟩
    have bd3 := getText_bd zs hbz
    rw [hlz] at bd3
    have facts : us.length ≤ n ∧ Bytes m ∧ m.length ≤ n := by
      unfold rdT at hr3
      split at hr3
      · injection hr3 with q1 q2
        injection q2 with q2 q3
        subst q1 q2
        refine ⟨by rw [List.length_drop]; omega, bd3.1, by omega⟩
      · injection hr3 with q1 q2
        injection q2 with q2 q3
        subst q1 q2
        exact ⟨by omega, fun x hx => by simp at hx, by simp⟩
    obtain ⟨hlu, hbm, hlm⟩ := facts
    refine (oget_M p n k xs w h hb hn o (xs.drop K1) 0 hr1 hby (by omega) 1 (by decide) hp c zs E2 hr2 (by omega) hbz hbc (by omega) m us E3 hr3 hlu hbm hlm).mono ?_
    rintro e w' ⟨rfl, b⟩
    refine ⟨?_, b⟩
    rw [hV]
    by_cases hE2 : E2 = 0
    · subst hE2
      cases hq : tB o c
      · rw [hq, askF_false] at hr3
        unfold rdT at hr3
        rw [if_neg (by decide)] at hr3
        injection hr3 with q1 q2
        injection q2 with q2 q3
        subst q3
        rw [askF_err _ _ (by decide), fin_err _ _ _ _ _ _ _ (by decide)]; simp
      · rw [hq, askF_true] at hr3
        unfold rdT at hr3
        rw [if_pos rfl] at hr3
        rw [if_neg (by simp), if_pos rfl, hM]
        generalize getText zs = r3 at *
        obtain ⟨m', K3, E3'⟩ := r3
        simp only at bd3 hr3
        injection hr3 with q1 q2
        injection q2 with q2 q3
        subst q1 q2 q3
        obtain ⟨_, _, hK30, hK3, _, _⟩ := bd3
        obtain ⟨K3, rfl⟩ := Int.eq_ofNat_of_zero_le hK30
        by_cases hE3 : E3' = 0
        · subst hE3
          cases hq3 : nB o m'
          · rw [askF_false, fin_err _ _ _ _ _ _ _ (by decide)]; simp
          · rw [askF_true, fin_ok _ _ _ _ _ _ ((K1 + K2 : Nat) + (K3 : Int)) (by rw [Int.toNat_natCast, List.length_drop]; omega)]; simp
        · rw [askF_err _ _ hE3, fin_err _ _ _ _ _ _ _ hE3, if_pos hE3]
    · rw [askF_err _ _ hE2] at hr3
      unfold rdT at hr3
      rw [if_neg hE2] at hr3
      injection hr3 with q1 q2
      injection q2 with q2 q3
      subst q3
      rw [askF_err _ _ hE2, fin_err _ _ _ _ _ _ _ hE2, if_pos hE2]
  · exact partC 2 (.inr rfl) hp
  · refine (oget_N p n k xs w h hb hn o (xs.drop K1) E1 hr1 hby (by omega) hp).mono ?_
    rintro e w' ⟨rfl, b⟩
    refine ⟨?_, b⟩
    rw [hI]
    by_cases hE1 : E1 = 0
    · subst hE1
      cases hq : opB o
      · have : o < 1 ∨ 61 < o := by unfold opB at hq; simp at hq; omega
        rw [askF_false, fin_err _ _ _ _ _ _ _ (by decide)]; simp [this]
      · have : ¬ (o < 1 ∨ 61 < o) := by unfold opB at hq; simp at hq; omega
        rw [askF_true, fin_ok _ _ _ _ _ _ (K1 : Int) (by omega)]
        unfold getA getC getM
        simp [this, hp]
    · rw [askF_err _ _ hE1, fin_err _ _ _ _ _ _ _ hE1, if_pos hE1]
end Op4
end Go.Proofs.YtjblmgdjaaeedaaGreat
