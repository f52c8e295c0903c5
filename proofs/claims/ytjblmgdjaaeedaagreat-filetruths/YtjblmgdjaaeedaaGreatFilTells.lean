/- The laws' own 'tells': any bytes are a class's, just its, or none's. (Written by tools/gen/gentells.py.) -/
import Derived.Test.YtjblmgdjaaeedaaGreatFilBegun
import Derived.Test.YtjblmgdjaaeedaaGreatFilRef
import Derived.Test.YtjblmgdjaaeedaaGreatClsB
import Derived.Test.YtjblmgdjaaeedaaGreatFilE
import Derived.Deep.RegionHeld
namespace Go.Proofs.YtjblmgdjaaeedaaGreat
namespace Fil
open Num Kind Op4 Cls
open Go.RowKit
set_option linter.unusedVariables false
set_option linter.unusedSimpArgs false
set_option maxRecDepth 100000

theorem enc_parts {c : ClsL} {xs : List Int} (hne : xs ≠ []) (h : encodeL c = xs) : mayP c = true ∧ bytesL c = xs := by
  unfold encodeL at h
  by_cases hc : mayP c = true ∧ (bytesL c).length ≤ 6000
  · rw [if_pos hc] at h
    exact ⟨hc.1, h⟩
  · rw [if_neg hc] at h
    exact absurd h.symm hne
theorem zero_same (w : World) : Calls Tryz.prog 14 #[.agg #[.string ⟨#[]⟩, .string ⟨#[]⟩, .bool false, .slice none 0 0, .slice none 0 0, .slice none 0 0], .agg #[.string ⟨#[]⟩, .string ⟨#[]⟩, .bool false, .slice none 0 0, .slice none 0 0, .slice none 0 0]] w fun e w' => e = .returned (.bool true) ∧ Below w.heap.size w w' :=
  ecls_same ⟨#[]⟩ ⟨#[]⟩ false [] [] [] none none none none none none 0 0 0 0 0 0 w (zero_cls w) (zero_cls w)
set_option maxHeartbeats 4000000 in
theorem tells_any (p : Option Addr) (n cp : Nat) (xs : List Int) (w : World) (hR : Has w p n cp xs) (hb : Bytes xs) :
    Calls Tryz.prog 16 #[.slice p n cp] w fun e w' => e = .returned (.bool true) ∧ Below w.heap.size w w' := by
  have hl := hR.len
  have hmx := hR.max
  have hcp := hR.cap
  unfold maxLen at hmx
  have HD := decode_any p n cp xs w hR hb
  have HR : Hid _ := hR
  clear hR
  go_enter Tryz.func16, Tryz.ntmps16
  go_wp2_with fail
  refine HD.mono ?_
  rintro e w1 ⟨hD, b1⟩
  clear HD
  rcases hD with ⟨h6, rfl⟩ | ⟨h6, hne, henc, us, rfl, hN⟩ | ⟨h6, _, rfl⟩
  · unfold zeroCls
    have ka := alloc1 w1 (.cells #[.string ⟨#[]⟩, .string ⟨#[]⟩, .bool false, .slice none 0 0, .slice none 0 0, .slice none 0 0] 26)
    have hk := b1.trans (ka.mono b1.size)
    have d1 : decide ((6000 : Int) < (n : Int)) = true := by simp; omega
    have d2 : decide ((n : Int) ≤ 6000) = false := by simp; omega
    have d3 : decide (6000 < n) = true := by simp; omega
    have d4 : decide (n ≤ 6000) = false := by simp; omega
    clear h6
    go_wp2_with (go_at_call 14; refine (zero_same _).mono ?_; rintro e w2 ⟨rfl, b2⟩)
    go_ret
    exact ⟨rfl, hk.trans (b2.mono hk.size)⟩
  · obtain ⟨v3, v4, v5, hus, hV⟩ := hN.cls
    obtain ⟨hmay, hby⟩ := enc_parts hne henc
    have hfit := may_fits hmay
    have hok := may_ok hmay
    clear henc hne hN
    generalize readL xs = c at *
    obtain ⟨nm, su, fa, im, fs, ms⟩ := c
    obtain ⟨q3, d3, e3, _⟩ := id hV.impl
    obtain ⟨q4, d4, e4, _⟩ := id hV.fields
    obtain ⟨q5, d5, e5, _⟩ := id hV.methods
    simp only at hus e3 e4 e5
    subst e3 e4 e5 hus
    have ka := alloc1 w1 (.cells #[.string nm, .string su, .bool fa, .slice q3 im.length d3, .slice q4 fs.length d4, .slice q5 ms.length d5] 26)
    have BX := blk_new w1 #[.string nm, .string su, .bool fa, .slice q3 im.length d3, .slice q4 fs.length d4, .slice q5 ms.length d5] 26
    have b2 := b1.trans (ka.mono b1.size)
    have hV2 := hV.later ka
    have HR2 : Hid _ := HR.out.later b2
    have n2 : decide ((n : Int) ≤ 6000) = true := by simp; omega
    have n4 : decide (n ≤ 6000) = true := by simp; omega
    clear h6 ka
    go_upto_region 4 with fail
    generalize w1.alloc (.cells #[.string nm, .string su, .bool fa, .slice q3 im.length d3, .slice q4 fs.length d4, .slice q5 ms.length d5] 26) = w2 at *
    generalize w1.heap.size = B at *
    have HM : ∀ W, Below w2.heap.size w2 W → Calls Tryz.prog 11 #[.agg #[.string nm, .string su, .bool fa, .slice q3 im.length d3, .slice q4 fs.length d4, .slice q5 ms.length d5]] W fun e w' => e = .returned (.bool true) ∧ Below W.heap.size W w' := fun W b => by have h := rcls_any _ _ _ _ W (hV2.later b); rw [hmay] at h; exact h
    have HB := fun W (b : Below w2.heap.size w2 W) => bytes_any nm su fa im fs ms q3 q4 q5 d3 d4 d5 W (hV2.later b) hok hfit.2
    rw [hby] at HB
    have x0 := blk_cell BX 0
    have x1 := blk_cell BX 1
    have x2 := blk_cell BX 2
    have x3 := blk_cell BX 3
    have x4 := blk_cell BX 4
    have x5 := blk_cell BX 5
    simp only [List.getElem?_toArray, List.getElem?_cons_zero, List.getElem?_cons_succ] at x0 x1 x2 x3 x4 x5
    have kk : Below w2.heap.size w2 w2.drew := (Below.refl _ _).drew
    clear hV hV2 hmay hok hfit hby BX
    refine wp_region_held_drew (S := fun W' => W'.cell? ⟨B, 0, none⟩ = some (.string nm) ∧ W'.cell? ⟨B, 1, none⟩ = some (.string su) ∧ W'.cell? ⟨B, 2, none⟩ = some (.bool fa) ∧ W'.cell? ⟨B, 3, none⟩ = some (.slice q3 im.length d3) ∧ W'.cell? ⟨B, 4, none⟩ = some (.slice q4 fs.length d4) ∧ W'.cell? ⟨B, 5, none⟩ = some (.slice q5 ms.length d5) ∧ Sem.run Tryz.prog (convert 29 9 (.slice p n cp)) W' = .ok (.string (strOfNums xs)) W') (by kernel_rfl) ⟨cellOn x0 kk, cellOn x1 kk, cellOn x2 kk, cellOn x3 kk, cellOn x4 kk, cellOn x5 kk, (HR2.out.later kk).str⟩ (fun hHeld => ?_)
    refine wpAnyH_take (i := 0) (oi := ⟨some 33, _, _, _, _, _⟩) (v := ?_) rfl (by kernel_rfl) (by kernel_rfl) (by kernel_rfl) (fun _ _ _ h => h) (Or.inl ⟨by kernel_rfl, fun Wx hSw => ?_⟩) (by assumption) ?_
    rotate_left
    · ((try dsimp only at hSw); go_simp; try with_reducible rfl)
    simp only [Act.put, List.setIfInBounds_toArray, List.set_cons_zero, List.set_cons_succ]
    refine wpAnyH_ready (rs := [1]) (by kernel_rfl) (by simp) ?_
    refine AllReadyH.cons (o := ⟨some 34, _, _, _, _, _⟩) rfl (fun K hK => ?_) AllReadyH.nil
    go_simp
    go_wp2_with (go_at_call 11; refine (HM _ kk).mono ?_; rintro e w3 ⟨rfl, b3⟩)
    have kk := kk.trans (b3.mono kk.size)
    refine hK.out _ _ ⟨cellOn x0 kk, cellOn x1 kk, cellOn x2 kk, cellOn x3 kk, cellOn x4 kk, cellOn x5 kk, (HR2.out.later kk).str⟩ (fun hHeld => ?_)
    clear hK K
    refine wpAnyH_take (i := 2) (oi := ⟨some 35, _, _, _, _, _⟩) (v := ?_) rfl (by kernel_rfl) (by kernel_rfl) (by kernel_rfl) (fun _ _ _ h => h) (Or.inl ⟨by kernel_rfl, fun Wx hSw => ?_⟩) (by assumption) ?_
    rotate_left
    · ((try dsimp only at hSw); go_simp; try with_reducible rfl)
    simp only [Act.put, List.setIfInBounds_toArray, List.set_cons_zero, List.set_cons_succ]
    refine wpAnyH_take (i := 3) (oi := ⟨some 36, _, _, _, _, _⟩) (v := ?_) rfl (by kernel_rfl) (by kernel_rfl) (by kernel_rfl) (fun _ _ _ h => h) (Or.inl ⟨by kernel_rfl, fun Wx hSw => ?_⟩) (by assumption) ?_
    rotate_left
    · ((try dsimp only at hSw); go_simp; try with_reducible rfl)
    simp only [Act.put, List.setIfInBounds_toArray, List.set_cons_zero, List.set_cons_succ]
    refine wpAnyH_take (i := 4) (oi := ⟨some 37, _, _, _, _, _⟩) (v := ?_) rfl (by kernel_rfl) (by kernel_rfl) (by kernel_rfl) (fun _ _ _ h => h) (Or.inl ⟨by kernel_rfl, fun Wx hSw => ?_⟩) (by assumption) ?_
    rotate_left
    · ((try dsimp only at hSw); go_simp; try with_reducible rfl)
    simp only [Act.put, List.setIfInBounds_toArray, List.set_cons_zero, List.set_cons_succ]
    refine wpAnyH_take (i := 5) (oi := ⟨some 38, _, _, _, _, _⟩) (v := ?_) rfl (by kernel_rfl) (by kernel_rfl) (by kernel_rfl) (fun _ _ _ h => h) (Or.inl ⟨by kernel_rfl, fun Wx hSw => ?_⟩) (by assumption) ?_
    rotate_left
    · ((try dsimp only at hSw); go_simp; try with_reducible rfl)
    simp only [Act.put, List.setIfInBounds_toArray, List.set_cons_zero, List.set_cons_succ]
    refine wpAnyH_take (i := 6) (oi := ⟨some 39, _, _, _, _, _⟩) (v := ?_) rfl (by kernel_rfl) (by kernel_rfl) (by kernel_rfl) (fun _ _ _ h => h) (Or.inl ⟨by kernel_rfl, fun Wx hSw => ?_⟩) (by assumption) ?_
    rotate_left
    · ((try dsimp only at hSw); go_simp; try with_reducible rfl)
    simp only [Act.put, List.setIfInBounds_toArray, List.set_cons_zero, List.set_cons_succ]
    refine wpAnyH_take (i := 7) (oi := ⟨some 40, _, _, _, _, _⟩) (v := ?_) rfl (by kernel_rfl) (by kernel_rfl) (by kernel_rfl) (fun _ _ _ h => h) (Or.inl ⟨by kernel_rfl, fun Wx hSw => ?_⟩) (by assumption) ?_
    rotate_left
    · ((try dsimp only at hSw); go_simp; try with_reducible rfl)
    simp only [Act.put, List.setIfInBounds_toArray, List.set_cons_zero, List.set_cons_succ]
    refine wpAnyH_take (i := 8) (oi := ⟨some 41, _, _, _, _, _⟩) (v := ?_) rfl (by kernel_rfl) (by kernel_rfl) (by kernel_rfl) (fun _ _ _ h => h) (Or.inl ⟨by kernel_rfl, fun Wx hSw => ?_⟩) (by assumption) ?_
    rotate_left
    · ((try dsimp only at hSw); go_simp; try with_reducible rfl)
    simp only [Act.put, List.setIfInBounds_toArray, List.set_cons_zero, List.set_cons_succ]
    refine wpAnyH_take (i := 11) (oi := ⟨some 44, _, _, _, _, _⟩) (v := ?_) rfl (by kernel_rfl) (by kernel_rfl) (by kernel_rfl) (fun _ _ _ h => h) (Or.inl ⟨by kernel_rfl, fun Wx hSw => ?_⟩) (by assumption) ?_
    rotate_left
    · ((try dsimp only at hSw); go_simp; try with_reducible rfl)
    simp only [Act.put, List.setIfInBounds_toArray, List.set_cons_zero, List.set_cons_succ]
    refine wpAnyH_take (i := 12) (oi := ⟨some 45, _, _, _, _, _⟩) (v := ?_) rfl (by kernel_rfl) (by kernel_rfl) (by kernel_rfl) (fun _ _ _ h => h) (Or.inl ⟨by kernel_rfl, fun Wx hSw => ?_⟩) (by assumption) ?_
    rotate_left
    · ((try dsimp only at hSw); go_simp; try with_reducible rfl)
    simp only [Act.put, List.setIfInBounds_toArray, List.set_cons_zero, List.set_cons_succ]
    refine wpAnyH_ready (rs := [9]) (by kernel_rfl) (by simp) ?_
    refine AllReadyH.cons (o := ⟨some 42, _, _, _, _, _⟩) rfl (fun K hK => ?_) AllReadyH.nil
    go_simp
    go_wp2_with (go_at_call 12; refine (HB _ kk).mono ?_; rintro e w4 ⟨g4, c4, rfl, own4, b4⟩)
    have kk := kk.trans (b4.mono kk.size)
    have hs4 := (Has.own own4).str
    rw [hl] at hs4
    clear own4
    refine hK.out _ _ ⟨cellOn x0 kk, cellOn x1 kk, cellOn x2 kk, cellOn x3 kk, cellOn x4 kk, cellOn x5 kk, (HR2.out.later kk).str⟩ (fun hHeld => ?_)
    clear hK K
    refine wpAnyH_ready (rs := [10]) (by kernel_rfl) (by simp) ?_
    refine AllReadyH.cons (o := ⟨some 43, _, _, _, _, _⟩) rfl (fun K hK => ?_) AllReadyH.nil
    go_simp
    refine hK.out _ _ (by assumption) (fun hHeld => ?_)
    clear hK K
    refine wpAnyH_take (i := 13) (oi := ⟨some 46, _, _, _, _, _⟩) (v := ?_) rfl (by kernel_rfl) (by kernel_rfl) (by kernel_rfl) (fun _ _ _ h => h) (Or.inl ⟨by kernel_rfl, fun Wx hSw => ?_⟩) (by assumption) ?_
    rotate_left
    · ((try dsimp only at hSw); go_simp; try with_reducible rfl)
    simp only [Act.put, List.setIfInBounds_toArray, List.set_cons_zero, List.set_cons_succ]
    refine wpAnyH_take (i := 14) (oi := ⟨some 47, _, _, _, _, _⟩) (v := ?_) rfl (by kernel_rfl) (by kernel_rfl) (by kernel_rfl) (fun _ _ _ h => h) (Or.inl ⟨by kernel_rfl, fun Wx hSw => ?_⟩) (by assumption) ?_
    rotate_left
    · ((try dsimp only at hSw); go_simp; try with_reducible rfl)
    simp only [Act.put, List.setIfInBounds_toArray, List.set_cons_zero, List.set_cons_succ]
    refine wpAnyH_take (i := 15) (oi := ⟨some 2, _, _, _, _, _⟩) (v := ?_) rfl (by kernel_rfl) (by kernel_rfl) (by kernel_rfl) (fun _ _ _ h => h) (Or.inl ⟨by kernel_rfl, fun Wx hSw => ?_⟩) (by assumption) ?_
    rotate_left
    · ((try dsimp only at hSw); go_simp; try with_reducible rfl)
    simp only [Act.put, List.setIfInBounds_toArray, List.set_cons_zero, List.set_cons_succ]
    refine wpAnyH_done (by kernel_rfl) ?_ _
    go_wp2_with fail
    go_ret
    exact ⟨rfl, b2.trans (kk.mono b2.size)⟩
  · unfold zeroCls
    have ka := alloc1 w1 (.cells #[.string ⟨#[]⟩, .string ⟨#[]⟩, .bool false, .slice none 0 0, .slice none 0 0, .slice none 0 0] 26)
    have hk := b1.trans (ka.mono b1.size)
    have d1 : decide ((6000 : Int) < (n : Int)) = false := by simp; omega
    have d2 : decide ((n : Int) ≤ 6000) = true := by simp; omega
    have d3 : decide (6000 < n) = false := by simp; omega
    have d4 : decide (n ≤ 6000) = true := by simp; omega
    clear h6
    go_wp2_with (go_at_call 14; refine (zero_same _).mono ?_; rintro e w2 ⟨rfl, b2⟩)
    go_ret
    exact ⟨rfl, hk.trans (b2.mono hk.size)⟩
end Fil
end Go.Proofs.YtjblmgdjaaeedaaGreat
