/- frame's Load and Store: what speaks of the program. -/
import Derived.Test.YtjlobkohkfcbpaaFrMem
import Derived.Deep.Cut
import Derived.Deep.DeepCutAuto
import Derived.Deep.RegionWith
import Derived.Deep.RegionHeldLaw
import Derived.Deep.AppendLies
namespace Go.Proofs.Ytjlobkohkfcbpaa
namespace Fr
open Mem
open Go.RowKit
set_option linter.unusedVariables false
set_option linter.unusedSimpArgs false
set_option maxRecDepth 100000

theorem two0 {w : World} {B T : Nat} {a b : Value} (h : w.heap[B]? = some (.cells #[a, b] T (0, 0))) : w.cell? ⟨B, 0, none⟩ = some a := blk_cell h 0
theorem two1 {w : World} {B T : Nat} {a b : Value} (h : w.heap[B]? = some (.cells #[a, b] T (0, 0))) : w.cell? ⟨B, 1, none⟩ = some b := blk_cell h 1
theorem set2 {w : World} {B T : Nat} {a b : Value} (h : w.heap[B]? = some (.cells #[a, b] T (0, 0))) (x y : Value) : ((w.setCell ⟨B, 0, none⟩ x).setCell ⟨B, 1, none⟩ y).heap[B]? = some (.cells #[x, y] T (0, 0)) := blk_set (blk_set h 0 x) 1 y
def zV : Value := .agg #[.bool false, .int .i32 0]
set_option maxHeartbeats 2000000 in
theorem load_nil (i : Int) (w : World) : Calls Try.prog 12 #[.pointer none, .int .i64 i] w fun e w' => e = .returned (.tuple #[.agg #[.bool false, .int .i32 0], .bool false]) ∧ Below w.heap.size w w' := by
  have k0 := alloc1 w (.cells #[.bool false, .int .i32 0] 31)
  have BR := blk_new w #[.bool false, .int .i32 0] 31
  go_enter Try.func12, Try.ntmps12
  go_upto_region 1 with fail
  generalize w.alloc (.cells #[.bool false, .int .i32 0] 31) = wR at *
  have r0 := two0 BR
  have r1 := two1 BR
  have f0 := blk_free BR 0
  have f1 := blk_free BR 1
  have BZ := set2 BR (.bool false) (.int .i32 0)
  have kZ := (k0.setCell (p := ⟨w.heap.size, 0, none⟩) (Nat.le_refl _) (.bool false)).setCell (p := ⟨w.heap.size, 1, none⟩) (Nat.le_refl _) (.int .i32 0)
  go_wp2_with (go_at_call 23; refine (has_nil _ _).mono ?_; rintro e w' ⟨rfl, rfl⟩)
  generalize (wR.setCell ⟨w.heap.size, 0, none⟩ (.bool false)).setCell ⟨w.heap.size, 1, none⟩ (.int .i32 0) = wZ at *
  clear r0 r1 f0 f1
  have r0 := two0 BZ
  have r1 := two1 BZ
  refine bodyPost_ret (by simp [results, Try.results12, go_sem, r0, r1]; try rfl) rfl ?_
  exact ⟨rfl, kZ⟩
/-- What Load answers. -/
def loadV (ls : List Vl) (i : Int) : Vl := if hasL ls.length i then ls.getD i.toNat v0 else v0
set_option maxHeartbeats 2000000 in
theorem load_any {B : Nat} {w : World} {p : Nat} {m pc : Int} {ls st : List Vl} {r : Nat} (i : Int) (H : Fr B w p m pc ls r st) : Calls Try.prog 12 #[.pointer (some ⟨p, 0, none⟩), .int .i64 i] w fun e w' => e = .returned (.tuple #[.agg #[.bool (loadV ls i).r, .int .i32 (loadV ls i).n], .bool (hasL ls.length i)]) ∧ Below w.heap.size w w' := by
  have k0 := alloc1 w (.cells #[.bool false, .int .i32 0] 31)
  have BR := blk_new w #[.bool false, .int .i32 0] 31
  have HC := has_any i (H.later k0)
  cases hq : hasL ls.length i
  · rw [hq] at HC
    have HE : Hid (loadV ls i = v0) := by show _ = _; unfold loadV; rw [hq]; rfl
    clear H hq
    generalize loadV ls i = V at *
    generalize ls.length = n at *
    go_enter Try.func12, Try.ntmps12
    go_upto_region 1 with fail
    generalize w.alloc (.cells #[.bool false, .int .i32 0] 31) = wR at *
    have r0 := two0 BR
    have r1 := two1 BR
    have f0 := blk_free BR 0
    have f1 := blk_free BR 1
    have BZ := set2 BR (.bool false) (.int .i32 0)
    have kZ := (k0.setCell (p := ⟨w.heap.size, 0, none⟩) (Nat.le_refl _) (.bool false)).setCell (p := ⟨w.heap.size, 1, none⟩) (Nat.le_refl _) (.int .i32 0)
    go_wp2_with fail
    refine HC.mono ?_
    rintro e w' ⟨rfl, rfl⟩
    go_wp2_with fail
    generalize (wR.setCell ⟨w.heap.size, 0, none⟩ (.bool false)).setCell ⟨w.heap.size, 1, none⟩ (.int .i32 0) = wZ at *
    clear r0 r1 f0 f1
    have r0 := two0 BZ
    have r1 := two1 BZ
    refine bodyPost_ret (by simp [results, Try.results12, go_sem, r0, r1]; try rfl) rfl ?_
    exact ⟨by rw [HE.out]; rfl, kZ⟩
  · rw [hq] at HC
    have hq2 := hq
    simp only [hasL, Bool.and_eq_true, decide_eq_true_eq] at hq2
    obtain ⟨i, rfl⟩ := Int.eq_ofNat_of_zero_le hq2.1
    have hi : i < ls.length := by omega
    have HE : Hid (loadV ls (i : Int) = ls[i]) := by show _ = _; unfold loadV; rw [if_pos hq, Int.toNat_natCast]; simp [List.getD, hi]
    obtain ⟨⟨lx, sx, h1, h2, h3⟩, r1, r2, r3, r4, r5⟩ := H.later k0
    have hi2 : i < (ls ++ lx).length := by rw [List.length_append]; omega
    have hi16 : i < 16 := by omega
    obtain ⟨c1, c2⟩ := cellsV_at (ls ++ lx) i hi2
    rw [List.getElem_append_left hi] at c1 c2
    have z1 := (blk_cell h1 (2 + 2 * i)).trans (toA ((frC_L m pc _ ls.length _ r st.length h2 h3 (2 * i) (by omega)).trans c1))
    have z2 := (blk_cell h1 (2 + (2 * i + 1))).trans (toA ((frC_L m pc _ ls.length _ r st.length h2 h3 (2 * i + 1) (by omega)).trans c2))
    rw [show 2 + (2 * i + 1) = 2 + i * 2 + 1 by omega] at z2
    rw [show 2 + 2 * i = 2 + i * 2 by omega] at z1
    clear h1 h2 h3 r1 r2 r3 r4 r5 H hq hq2 c1 c2 hi2
    generalize loadV ls (i : Int) = V at *
    generalize ls[i] = x at *
    generalize ls.length = n at *
    obtain ⟨xr, xn⟩ := x
    go_enter Try.func12, Try.ntmps12
    go_upto_region 1 with fail
    generalize w.alloc (.cells #[.bool false, .int .i32 0] 31) = wR at *
    have r0 := two0 BR
    have r1 := two1 BR
    have f0 := blk_free BR 0
    have f1 := blk_free BR 1
    have BZ := set2 BR (.bool xr) (.int .i32 xn)
    have kZ := (k0.setCell (p := ⟨w.heap.size, 0, none⟩) (Nat.le_refl _) (.bool xr)).setCell (p := ⟨w.heap.size, 1, none⟩) (Nat.le_refl _) (.int .i32 xn)
    go_wp2_with fail
    refine HC.mono ?_
    rintro e w' ⟨rfl, rfl⟩
    go_wp2_with fail
    generalize (wR.setCell ⟨w.heap.size, 0, none⟩ (.bool xr)).setCell ⟨w.heap.size, 1, none⟩ (.int .i32 xn) = wZ at *
    clear r0 r1 f0 f1
    have r0 := two0 BZ
    have r1 := two1 BZ
    refine bodyPost_ret (by simp [results, Try.results12, go_sem, r0, r1]; try rfl) rfl ?_
    exact ⟨by rw [HE.out], kZ⟩
theorem store_nil (i : Int) (x y : Value) (a : Bool) (b : Int) (w : World) (hx : x = .bool a) (hy : y = .int .i32 b) : Calls Try.prog 13 #[.pointer none, .int .i64 i, .agg #[x, y]] w fun e w' => e = .returned (.bool false) ∧ Below w.heap.size w w' := by
  subst hx hy
  have k0 := alloc1 w (.cells #[.bool a, .int .i32 b] 31)
  go_enter Try.func13, Try.ntmps13
  go_wp2_with (go_at_call 23; refine (has_nil _ _).mono ?_; rintro e w' ⟨rfl, rfl⟩)
  go_ret
  exact ⟨rfl, k0⟩
/-- What Store makes of the locals. -/
def storeV (ls : List Vl) (i : Int) (x : Vl) : List Vl := if hasL ls.length i then ls.set i.toNat x else ls
theorem storeV_len (ls : List Vl) (i : Int) (x : Vl) : (storeV ls i x).length = ls.length := by unfold storeV; split <;> simp
theorem at_set {p : Nat} {w w' : World} (h : Off (At p) w w') (off : Nat) (u : Value) : Off (At p) w (w'.setCell ⟨p, off, none⟩ u) := h.trans (Off.set (S := At p) w' ⟨p, off, none⟩ u rfl) (fun k e => .inl e)
set_option maxHeartbeats 2000000 in
theorem store_any {B : Nat} {w : World} {p : Nat} {m pc : Int} {ls st : List Vl} {r : Nat} (i : Int) (x : Vl) (hx : Is32 x.n) (H : Fr B w p m pc ls r st) : Calls Try.prog 13 #[.pointer (some ⟨p, 0, none⟩), .int .i64 i, .agg #[.bool x.r, .int .i32 x.n]] w fun e w' => e = .returned (.bool (hasL ls.length i)) ∧ Fr B w' p m pc (storeV ls i x) r st ∧ Off (At p) w w' := by
  have k0 := alloc1 w (.cells #[.bool x.r, .int .i32 x.n] 31)
  have BR := blk_new w #[.bool x.r, .int .i32 x.n] 31
  have hpl := H.lt
  have HR := H.later k0
  have HC := has_any i HR
  cases hq : hasL ls.length i
  · rw [hq] at HC
    have HE : Hid (storeV ls i x = ls) := by show _ = _; unfold storeV; rw [hq]; rfl
    have HF : Hid (Fr _ _ _ _ _ _ _ _) := HR
    clear H hq HR
    generalize hV : storeV ls i x = V at *
    clear hV
    generalize hn : ls.length = n at *
    clear hn
    go_enter Try.func13, Try.ntmps13
    go_upto_region 1 with fail
    generalize w.alloc (.cells #[.bool x.r, .int .i32 x.n] 31) = wR at *
    go_wp2_with fail
    refine HC.mono ?_
    rintro e w' ⟨rfl, rfl⟩
    go_wp2_with fail
    go_ret
    exact ⟨rfl, by rw [HE.out]; exact HF.out, Off.below _ k0⟩
  · rw [hq] at HC
    have hq2 := hq
    simp only [hasL, Bool.and_eq_true, decide_eq_true_eq] at hq2
    obtain ⟨i, rfl⟩ := Int.eq_ofNat_of_zero_le hq2.1
    have hi : i < ls.length := by omega
    have HE : Hid (storeV ls (i : Int) x = ls.set i x) := by show _ = _; unfold storeV; rw [if_pos hq, Int.toNat_natCast]
    obtain ⟨⟨lx, sx, h1, h2, h3⟩, r1, r2, r3, r4, r5⟩ := HR
    have hi2 : i < (ls ++ lx).length := by rw [List.length_append]; omega
    have hi16 : i < 16 := by omega
    obtain ⟨c1, c2⟩ := cellsV_at (ls ++ lx) i hi2
    have z1 := (blk_cell h1 (2 + 2 * i)).trans (toA ((frC_L m pc _ ls.length _ r st.length h2 h3 (2 * i) (by omega)).trans c1))
    have z2 := (blk_cell h1 (2 + (2 * i + 1))).trans (toA ((frC_L m pc _ ls.length _ r st.length h2 h3 (2 * i + 1) (by omega)).trans c2))
    rw [show 2 + (2 * i + 1) = 2 + i * 2 + 1 by omega] at z2
    rw [show 2 + 2 * i = 2 + i * 2 by omega] at z1
    have g1 := blk_free h1 (2 + i * 2)
    have g2 := blk_free h1 (2 + i * 2 + 1)
    have HF : Hid (Fr B (((w.alloc (.cells #[.bool x.r, .int .i32 x.n] 31)).setCell ⟨p, 2 + i * 2, none⟩ (.bool x.r)).setCell ⟨p, 2 + i * 2 + 1, none⟩ (.int .i32 x.n)) p m pc (ls.set i x) r st) := by
      have := blk_set (blk_set h1 (2 + i * 2) (.bool x.r)) (2 + i * 2 + 1) (.int .i32 x.n)
      rw [setA, setA, show 2 + i * 2 = 2 + 2 * i by omega, frC_setL m pc _ _ _ _ _ h2 h3 i hi16 x, List.set_append_left _ _ hi] at this
      refine ⟨⟨lx, sx, ?_, by rw [List.length_append, List.length_set, ← List.length_append]; exact h2, h3⟩, r1, r2, r3, fun y hy => ?_, r5⟩
      · rw [List.length_set, show 2 + i * 2 = 2 + 2 * i by omega]; exact this
      · rcases List.mem_or_eq_of_mem_set hy with hy | rfl
        · exact r4 y hy
        · exact hx
    clear h1 h2 h3 r1 r2 r3 r4 r5 H hq hq2 c1 c2
    generalize (ls ++ lx)[i] = y at *
    clear hi2
    generalize hV : storeV ls (i : Int) x = V at *
    clear hV
    generalize ls.set i x = L' at *
    generalize ls.length = n at *
    have hne : p ≠ w.heap.size := by omega
    have hne2 : w.heap.size ≠ p := by omega
    obtain ⟨xr, xn⟩ := x
    simp only at *
    go_enter Try.func13, Try.ntmps13
    go_upto_region 1 with fail
    generalize w.alloc (.cells #[.bool xr, .int .i32 xn] 31) = wR at *
    have a0 := two0 BR
    have a1 := two1 BR
    go_wp2_with fail
    refine HC.mono ?_
    rintro e w' ⟨rfl, rfl⟩
    go_upto_region 3 with fail
    go_region
    all_goals
      go_wp2_with fail
      go_ret
      exact ⟨rfl, by rw [HE.out]; exact HF.out.drew, (at_set (at_set (Off.below (At p) k0) _ _) _ _).drew⟩
end Fr
end Go.Proofs.Ytjlobkohkfcbpaa
