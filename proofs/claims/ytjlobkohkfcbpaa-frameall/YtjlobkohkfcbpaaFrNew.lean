/- frame.New: what speaks of the program. -/
import Derived.Test.YtjlobkohkfcbpaaFrCopy
namespace Go.Proofs.Ytjlobkohkfcbpaa
namespace Fr
open Mem
open Go.RowKit
set_option linter.unusedVariables false
set_option linter.unusedSimpArgs false
set_option maxRecDepth 100000

/-- May there be such a frame? -/
def mayF (loc stk : Int) (n : Nat) : Bool := decide (0 ≤ loc) && (decide (loc ≤ 16) && (decide (0 ≤ stk) && (decide (stk ≤ 16) && decide ((n : Int) ≤ loc))))
/-- The locals at first. -/
def newL (c : Nat) (l : List Vl) : List Vl := l ++ List.replicate (c - l.length) v0
theorem newL_len (c : Nat) (l : List Vl) (h : l.length ≤ c) : (newL c l).length = c := by simp [newL]; omega
set_option maxHeartbeats 4000000 in
theorem new_no (m loc stk : Int) (a : Option Addr) (n c : Nat) (w : World) (h : mayF loc stk n = false) : Calls Try.prog 8 #[.int .i64 m, .int .i64 loc, .int .i64 stk, .slice a n c] w fun e w' => e = .returned (.pointer none) ∧ w = w' := by
  by_cases h1 : loc < 0
  · have d1 : decide (loc < 0) = true := by simp; omega
    clear h h1
    go_enter Try.func8, Try.ntmps8
    go_wp2_with fail
    go_ret
    exact ⟨rfl, rfl⟩
  have d1 : decide (loc < 0) = false := by simp; omega
  by_cases h2 : 16 < loc
  · have d2 : decide (16 < loc) = true := by simp; omega
    clear h h1 h2
    go_enter Try.func8, Try.ntmps8
    go_wp2_with fail
    go_ret
    exact ⟨rfl, rfl⟩
  have d2 : decide (16 < loc) = false := by simp; omega
  by_cases h3 : stk < 0
  · have d3 : decide (stk < 0) = true := by simp; omega
    clear h h1 h2 h3
    go_enter Try.func8, Try.ntmps8
    go_wp2_with fail
    go_ret
    exact ⟨rfl, rfl⟩
  have d3 : decide (stk < 0) = false := by simp; omega
  by_cases h4 : 16 < stk
  · have d4 : decide (16 < stk) = true := by simp; omega
    clear h h1 h2 h3 h4
    go_enter Try.func8, Try.ntmps8
    go_wp2_with fail
    go_ret
    exact ⟨rfl, rfl⟩
  have d4 : decide (16 < stk) = false := by simp; omega
  have h5 : loc < (n : Int) := by
    simp only [mayF, Bool.and_eq_false_iff, decide_eq_false_iff_not] at h
    omega
  have d5 : decide (loc < (n : Int)) = true := by simp; omega
  clear h h1 h2 h3 h4 h5
  go_enter Try.func8, Try.ntmps8
  go_wp2_with fail
  go_ret
  exact ⟨rfl, rfl⟩
set_option maxHeartbeats 8000000 in
theorem new_any (m loc stk : Int) (a : Option Addr) (n c : Nat) (l : List Vl) (w : World) (hv : Vs w (.slice a n c) l) (h : mayF loc stk n = true) : Calls Try.prog 8 #[.int .i64 m, .int .i64 loc, .int .i64 stk, .slice a n c] w fun e w' => e = .returned (.pointer (some ⟨w.heap.size, 0, none⟩)) ∧ Fr w.heap.size w' w.heap.size m 0 (newL loc.toNat l) stk.toNat [] ∧ Below w.heap.size w w' := by
  simp only [mayF, Bool.and_eq_true, decide_eq_true_eq] at h
  obtain ⟨h1, h2, h3, h4, h5⟩ := h
  obtain ⟨C, rfl⟩ := Int.eq_ofNat_of_zero_le h1
  obtain ⟨R, rfl⟩ := Int.eq_ofNat_of_zero_le h3
  rw [Int.toNat_natCast, Int.toNat_natCast]
  obtain ⟨hlen, hc1, hc2, hnil⟩ := vs_len hv
  have h32 := vs_32 hv
  have d1 : decide ((C : Int) < 0) = false := by simp
  have d2 : decide (16 < (C : Int)) = false := by simp; omega
  have d2' : decide (16 < C) = false := by simp; omega
  have d3 : decide ((R : Int) < 0) = false := by simp
  have d4 : decide (16 < (R : Int)) = false := by simp; omega
  have d4' : decide (16 < R) = false := by simp; omega
  have d5 : decide ((C : Int) < (n : Int)) = false := by simp; omega
  have d5' : decide (C < n) = false := by simp; omega
  have hn16 : n ≤ 16 := by omega
  have hCn : n ≤ C := by omega
  have hR16 : R ≤ 16 := by omega
  have hC16 : C ≤ 16 := by omega
  obtain ⟨Z, hZ⟩ : ∃ Z, Z = (frC 0 0 (List.replicate 16 v0) 0 (List.replicate 16 v0) 0 0).toArray := ⟨_, rfl⟩
  obtain ⟨F, hF⟩ : ∃ F, F = (frC m 0 (List.replicate 16 v0) C (List.replicate 16 v0) R 0).toArray := ⟨_, rfl⟩
  have hzv : (zeroValue 49).run Try.prog w = .ok (.agg Z) w := by rw [hZ]; kernel_rfl
  have z1 : ¬ Z = #[] := by rw [hZ]; intro e; have := congrArg Array.size e; simp [frC, cellsV_len] at this
  have z2 : Z.size = 69 := by rw [hZ]; rfl
  have z3 : ((Z.setIfInBounds 0 (.int .i64 m)).setIfInBounds 34 (.int .i64 (C : Int))).setIfInBounds 67 (.int .i64 (R : Int)) = F := by rw [hZ, hF]; rfl
  have z4 : F.size = 69 := by rw [hF]; rfl
  obtain ⟨W, hW⟩ : ∃ W, W = w.alloc (.cells F 49) := ⟨_, rfl⟩
  have k0 : Below w.heap.size w W := by rw [hW]; exact alloc1 w _
  have BR : W.heap[w.heap.size]? = some (.cells (frC m 0 (List.replicate 16 v0) C (List.replicate 16 v0) R 0).toArray 49 (0, 0)) := by rw [hW, hF]; exact blk_new w _ _
  have HW : Hid _ := hW
  have HNW : Hid (∀ ad, a = some ad → ∀ j u, (cellsV l)[j]? = some u → W.cell? (ad.add j) = some u) := vs_news (hv.later valE_stable k0)
  have HB : Hid _ := BR
  have hl2 : Hid ((cellsV l).length = n * 2) := by show _ = _; rw [cellsV_len]; omega
  have hmin : Nat.min n 16 = n := Nat.min_eq_left hn16
  have hsz : w.heap.size < W.heap.size := by rw [hW, alloc_size]; omega
  clear h1 h2 h3 h4 h5 hW hZ hF
  go_enter Try.func8, Try.ntmps8
  go_upto_region 4 with fail
  rw [← HW.out]
  clear BR hv z1 z2 z3 z4 hzv HW
  have ha0 : 0 < n → ∃ ad, a = some ad := fun h0 => by
    cases a with
    | none => have := hnil rfl; omega
    | some ad => exact ⟨ad, rfl⟩
  go_wp2_with (refine wpList_copy2 rfl (.tmp 38) (.tmp 39) 22 22 rfl 31 2 Try.underlying22 sizeV (some ⟨w.heap.size, 2, none⟩) a 16 16 n c rfl rfl n hmin w.heap.size 2 _ _ HB.out (cellsV l) hl2.out (fun h0 => ⟨rfl, (ha0 h0).imp fun ad e => ⟨e, HNW.out ad e⟩⟩) (by rw [frC_len _ _ _ _ _ _ _ rfl rfl, hl2.out]; omega) (cellsV_one l) ?_; intro w2 HG HO)
  go_wp2_with fail
  go_ret
  refine ⟨rfl, ?_, k0.trans (HO.to (fun k e => by rw [e]; exact Nat.le_refl _) k0.size)⟩
  have hg := HG.out
  rw [frC_copyL _ _ _ _ _ _ _ rfl rfl l (by omega)] at hg
  refine ⟨⟨List.replicate (16 - C) v0, List.replicate 16 v0, ?_, ?_, rfl⟩, Nat.le_refl _, hR16, Nat.zero_le _, ?_, fun x hx => by simp at hx⟩
  · rw [newL_len _ _ (by omega), hg]
    congr 4
    unfold newL
    rw [List.drop_replicate, List.append_assoc, List.replicate_append_replicate]
    congr 3
    omega
  · rw [List.length_append, newL_len _ _ (by omega), List.length_replicate]; omega
  · intro x hx
    rcases List.mem_append.1 hx with hx | hx
    · exact h32 x hx
    · rw [(List.mem_replicate.1 hx).2]; exact ⟨by decide, by decide⟩
end Fr
end Go.Proofs.Ytjlobkohkfcbpaa
