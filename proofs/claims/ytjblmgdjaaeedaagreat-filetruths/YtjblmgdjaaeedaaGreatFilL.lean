/- Contracts and laws, texts of mine put into one. -/
import Derived.Test.YtjblmgdjaaeedaaGreatFilList
/- The contracts of file's readList at texts. (Written by tools/gen/genread.py.) -/
namespace Go.Proofs.YtjblmgdjaaeedaaGreat
namespace Fil
open Num Kind Op4 Cls
open Go.RowKit
set_option linter.unusedVariables false
set_option linter.unusedSimpArgs false
set_option maxRecDepth 100000

theorem rQ_small {r : List Int} (h : (rQ r).2.length ≤ 1000000) : (rQ r).1 ≤ 1000000 := by
  unfold rQ at h ⊢
  dsimp only at h ⊢
  split <;> omega
theorem infoX : (Tryz.prog.info? 50).map (fun i => (i.zero, i.size, i.bytes)) = some (some (.agg #[.int .i64 0, .slice none 0 0, .slice none 0 0]), 3, 56) := by kernel_rfl
set_option maxHeartbeats 8000000 in
theorem rlp_any (R : Nat) (v1 : Value) (P : List ByteArray) (r : List Int) (w0 w : World) (H : Rd w0 w R v1 P r) :
    Calls Tryz.prog 65 #[.pointer (some ⟨R, 0, none⟩), .func (.func 66) #[.pointer (some ⟨R, 0, none⟩)] #[]] w fun e w' => ∃ v, e = .returned v ∧ Rd w0 w' R v1 P (rL rP r).2 ∧ w.grownBy w' (some R) ∧
      Sl strE 1 (young w.heap.size w') v (rL rP r).1 ∧ New (young w.heap.size w') w.heap.size 1 9 v (rL rP r).1.length := by
  obtain ⟨iE, hiE, hzE0, hzE1, hzE2⟩ := info_parts infoS
  have HC := rcount_any R v1 P r w0 w H
  have hlt0 := H.lt
  have hlow := H.bel.size
  go_enter Tryz.func65, Tryz.ntmps65
  go_wp2_with fail
  refine HC.mono ?_
  rintro e w1 ⟨rfl, H1, g1⟩
  have hn := rQ_small H1.byt.2
  have HL : Hid (rL rP r = rK rP (rQ r).1 (rQ r).2) := rfl
  clear HC H
  generalize (rQ r).1 = n at *
  generalize (rQ r).2 = r1 at *
  have hlt1 := H1.lt
  go_wp2_with (at_make; refine wpList_make_full _ rfl _ _ 22 rfl w1.heap.size 9 iE (.string ⟨#[]⟩) 1 Tryz.underlying22 hiE hzE0 hzE1 _ _ _ _ n rfl rfl rfl rfl (by rw [hzE2]; omega) (by unfold maxLen; omega) (Nat.le_refl _) ?_; intro w2 own2 gr2)
  have FL := Fill.new (V := strV) (α := ByteArray) hlt1 own2
  have k2 := grown_below gr2
  have H2 := H1.grown k2
  have hs1 : Sl strE 1 (wipe R w1) v1 P := by obtain ⟨_, _, ⟨_, _, _, _, _, hs⟩, _⟩ := H1; exact hs
  have g2 : w1.grownBy w2 (some R) := grown_none gr2
  have hbl := H1.bel.size
  clear own2 k2 gr2 H1
  obtain ⟨g, hgg⟩ : ∃ g, g = w1.heap.size := ⟨_, rfl⟩
  have HG : Hid _ := hgg
  rw [← hgg] at FL
  have hbg : w0.heap.size ≤ g := by omega
  have hsg : w.heap.size ≤ g := by have := g1.size; omega
  rw [← hgg]
  clear hgg hbl
  go_loopw [12] (fun i wr => ∃ k : Nat, k ≤ n ∧ i = .int .i64 k ∧ Rd w0 wr R v1 P (rK rP k r1).2 ∧ Fill strV 1 9 R g wr (rK rP k r1).1 (n - k) ∧ w1.grownBy wr (some R)) (fun i _ => n - (intOf i).toNat)
  case atStart => exact ⟨0, by omega, rfl, H2, FL, g2⟩
  case round =>
    clear FL H2 g2
    obtain ⟨k, hk, rfl, H, FL, g2⟩ := hrel
    by_cases hlk : k < n
    · have hKS : Hid _ := rK_succ rP k r1
      have hKL : Hid _ := rK_len rP k r1
      have hx0 : ∃ cs, wr.heap[g]? = some (.cells cs 9 (0, 0)) ∧ k * 1 + 1 ≤ cs.size := by
        obtain ⟨_, U, h1, h2, Z, h3, hb⟩ := FL
        refine ⟨_, hb, ?_⟩
        have := flat_len elemS _ U _ h1 h2
        rw [rK_len] at this
        simp [this, h3]
        omega
      generalize rK rP k r1 = q at *
      obtain ⟨xs, r2⟩ := q
      simp only at FL H
      have hgl := FL.lt
      have HC := rpool_any R v1 P r2 w0 wr H
      have hps := rP_size H.byt
      have hKS := hKS.out
      dsimp only at hKS
      generalize rP r2 = z at HC hKS hps
      obtain ⟨z1, z2⟩ := z
      dsimp only at HC hKS hps
      have HKS : Hid _ := hKS
      clear hKS
      go_wp2_with fail
      refine HC.mono ?_
      rintro e w3 ⟨rfl, H3, g3⟩
      have hV : strV (young wr.heap.size w3) [.string z1] z1 := ⟨rfl, hps⟩
      have FL3 := FL.grown elemS g3
      obtain ⟨cs, hcs, hcz⟩ := hx0
      have hRg := FL.ne
      have hcs3 := blk_grown hcs g3 (fun e => by have := Option.some.inj e; omega)
      have hcc : ∀ j, j < 1 → ∃ u, w3.cell? ⟨g, k * 1 + j, none⟩ = some u := fun j hj => by
        rw [blk_cell hcs3, Array.getElem?_eq_getElem (by omega)]
        exact ⟨_, rfl⟩
      obtain ⟨z0, x0⟩ := hcc 0 (by decide)
      have f0 := blk_free hcs3 (k * 1 + 0)
      simp only [Nat.add_zero, Nat.mul_one] at x0 f0
      have hz : n - k = (n - (k + 1)) + 1 := by omega
      rw [hz] at FL3
      have hxl : xs.length = k := hKL.out
      have hV' := elemS.mono (g + 1) wr.heap.size w3 _ _ (by omega) hV
      obtain ⟨FL4, g4⟩ := FL3.store elemS hV'
      rw [hxl] at FL4 g4
      have g5 := grown_new (grown_trans g2 g3) g4 (by rw [HG.out]; exact Nat.le_refl _)
      have H5 := H3.kept g4 hRg hbg hs1 hlt1 g5
      clear hcs hcs3 HC hcc FL FL3 hV hV' H3
      simp only [World.setCells, Nat.mul_one] at FL4 H5 g5
      go_wp2_with fail
      go_roundw
      case rel => exact ⟨k + 1, by omega, by go_num, by rw [HKS.out]; exact H5, by rw [HKS.out]; exact FL4, g5⟩
      case measure => simp [intOf]; omega
    · have hkn : k = n := by omega
      have hKL : Hid _ := rK_len rP k r1
      have hLL : Hid (rL rP r = rK rP k r1) := by show _ = _; rw [HL.out, hkn]
      rw [show n - k = 0 by omega] at FL
      have hD := FL.done elemS hsg (by rw [hKL.out]; unfold maxLen; omega)
      rw [hKL.out, hkn] at hD
      have hlen : (rL rP r).1.length = n := by rw [hLL.out, hKL.out, hkn]
      have HD : Hid _ := hD
      clear hD
      go_wp2_with fail
      go_ret
      refine ⟨_, rfl, by rw [hLL.out]; exact H, grown_trans g1 g2, ?_, ?_⟩
      · rw [hLL.out, hkn]; exact HD.out.1
      · rw [hlen]; exact HD.out.2
set_option maxHeartbeats 8000000 in
theorem rls_any (R : Nat) (v1 : Value) (P : List ByteArray) (r : List Int) (w0 w : World) (H : Rd w0 w R v1 P r) :
    Calls Tryz.prog 65 #[.pointer (some ⟨R, 0, none⟩), .func (.func 95) #[.pointer (some ⟨R, 0, none⟩)] #[]] w fun e w' => ∃ v, e = .returned v ∧ Rd w0 w' R v1 P (rL (rT P) r).2 ∧ w.grownBy w' (some R) ∧
      Sl strE 1 (young w.heap.size w') v (rL (rT P) r).1 ∧ New (young w.heap.size w') w.heap.size 1 9 v (rL (rT P) r).1.length := by
  obtain ⟨iE, hiE, hzE0, hzE1, hzE2⟩ := info_parts infoS
  have HC := rcount_any R v1 P r w0 w H
  have hlt0 := H.lt
  have hlow := H.bel.size
  go_enter Tryz.func65, Tryz.ntmps65
  go_wp2_with fail
  refine HC.mono ?_
  rintro e w1 ⟨rfl, H1, g1⟩
  have hn := rQ_small H1.byt.2
  have HL : Hid (rL (rT P) r = rK (rT P) (rQ r).1 (rQ r).2) := rfl
  clear HC H
  generalize (rQ r).1 = n at *
  generalize (rQ r).2 = r1 at *
  have hlt1 := H1.lt
  go_wp2_with (at_make; refine wpList_make_full _ rfl _ _ 22 rfl w1.heap.size 9 iE (.string ⟨#[]⟩) 1 Tryz.underlying22 hiE hzE0 hzE1 _ _ _ _ n rfl rfl rfl rfl (by rw [hzE2]; omega) (by unfold maxLen; omega) (Nat.le_refl _) ?_; intro w2 own2 gr2)
  have FL := Fill.new (V := strV) (α := ByteArray) hlt1 own2
  have k2 := grown_below gr2
  have H2 := H1.grown k2
  have hs1 : Sl strE 1 (wipe R w1) v1 P := by obtain ⟨_, _, ⟨_, _, _, _, _, hs⟩, _⟩ := H1; exact hs
  have g2 : w1.grownBy w2 (some R) := grown_none gr2
  have hbl := H1.bel.size
  clear own2 k2 gr2 H1
  obtain ⟨g, hgg⟩ : ∃ g, g = w1.heap.size := ⟨_, rfl⟩
  have HG : Hid _ := hgg
  rw [← hgg] at FL
  have hbg : w0.heap.size ≤ g := by omega
  have hsg : w.heap.size ≤ g := by have := g1.size; omega
  rw [← hgg]
  clear hgg hbl
  go_loopw [12] (fun i wr => ∃ k : Nat, k ≤ n ∧ i = .int .i64 k ∧ Rd w0 wr R v1 P (rK (rT P) k r1).2 ∧ Fill strV 1 9 R g wr (rK (rT P) k r1).1 (n - k) ∧ w1.grownBy wr (some R)) (fun i _ => n - (intOf i).toNat)
  case atStart => exact ⟨0, by omega, rfl, H2, FL, g2⟩
  case round =>
    clear FL H2 g2
    obtain ⟨k, hk, rfl, H, FL, g2⟩ := hrel
    by_cases hlk : k < n
    · have hKS : Hid _ := rK_succ (rT P) k r1
      have hKL : Hid _ := rK_len (rT P) k r1
      have hx0 : ∃ cs, wr.heap[g]? = some (.cells cs 9 (0, 0)) ∧ k * 1 + 1 ≤ cs.size := by
        obtain ⟨_, U, h1, h2, Z, h3, hb⟩ := FL
        refine ⟨_, hb, ?_⟩
        have := flat_len elemS _ U _ h1 h2
        rw [rK_len] at this
        simp [this, h3]
        omega
      generalize rK (rT P) k r1 = q at *
      obtain ⟨xs, r2⟩ := q
      simp only at FL H
      have hgl := FL.lt
      have HC := rtext_any R v1 P r2 w0 wr H
      have hps := trivial
      have hKS := hKS.out
      dsimp only at hKS
      generalize (rT P) r2 = z at HC hKS hps
      obtain ⟨z1, z2⟩ := z
      dsimp only at HC hKS hps
      have HKS : Hid _ := hKS
      clear hKS
      go_wp2_with fail
      refine HC.mono ?_
      rintro e w3 ⟨rfl, H3, g3, hsz⟩
      have hV : strV (young wr.heap.size w3) [.string z1] z1 := ⟨rfl, hsz⟩
      have FL3 := FL.grown elemS g3
      obtain ⟨cs, hcs, hcz⟩ := hx0
      have hRg := FL.ne
      have hcs3 := blk_grown hcs g3 (fun e => by have := Option.some.inj e; omega)
      have hcc : ∀ j, j < 1 → ∃ u, w3.cell? ⟨g, k * 1 + j, none⟩ = some u := fun j hj => by
        rw [blk_cell hcs3, Array.getElem?_eq_getElem (by omega)]
        exact ⟨_, rfl⟩
      obtain ⟨z0, x0⟩ := hcc 0 (by decide)
      have f0 := blk_free hcs3 (k * 1 + 0)
      simp only [Nat.add_zero, Nat.mul_one] at x0 f0
      have hz : n - k = (n - (k + 1)) + 1 := by omega
      rw [hz] at FL3
      have hxl : xs.length = k := hKL.out
      have hV' := elemS.mono (g + 1) wr.heap.size w3 _ _ (by omega) hV
      obtain ⟨FL4, g4⟩ := FL3.store elemS hV'
      rw [hxl] at FL4 g4
      have g5 := grown_new (grown_trans g2 g3) g4 (by rw [HG.out]; exact Nat.le_refl _)
      have H5 := H3.kept g4 hRg hbg hs1 hlt1 g5
      clear hcs hcs3 HC hcc FL FL3 hV hV' H3
      simp only [World.setCells, Nat.mul_one] at FL4 H5 g5
      go_wp2_with fail
      go_roundw
      case rel => exact ⟨k + 1, by omega, by go_num, by rw [HKS.out]; exact H5, by rw [HKS.out]; exact FL4, g5⟩
      case measure => simp [intOf]; omega
    · have hkn : k = n := by omega
      have hKL : Hid _ := rK_len (rT P) k r1
      have hLL : Hid (rL (rT P) r = rK (rT P) k r1) := by show _ = _; rw [HL.out, hkn]
      rw [show n - k = 0 by omega] at FL
      have hD := FL.done elemS hsg (by rw [hKL.out]; unfold maxLen; omega)
      rw [hKL.out, hkn] at hD
      have hlen : (rL (rT P) r).1.length = n := by rw [hLL.out, hKL.out, hkn]
      have HD : Hid _ := hD
      clear hD
      go_wp2_with fail
      go_ret
      refine ⟨_, rfl, by rw [hLL.out]; exact H, grown_trans g1 g2, ?_, ?_⟩
      · rw [hLL.out, hkn]; exact HD.out.1
      · rw [hlen]; exact HD.out.2
end Fil
end Go.Proofs.YtjblmgdjaaeedaaGreat

/- The contracts of file's reader: fields, instructions, traps and their lists. (Written by tools/gen/genread.py.) -/
namespace Go.Proofs.YtjblmgdjaaeedaaGreat
namespace Fil
open Num Kind Op4 Cls
open Go.RowKit
set_option linter.unusedVariables false
set_option linter.unusedSimpArgs false
set_option maxRecDepth 100000

theorem sls_mono {N N' : Nat} {w : World} {v : Value} {l : List ByteArray} (hN : N ≤ N') (h : Sl strE 1 (young N' w) v l) : Sl strE 1 (young N w) v l := sls_ext (Ext.young w hN) h
theorem sli_mono {N N' : Nat} {w : World} {v : Value} {l : List InsL} (hN : N ≤ N') (h : Sl insE 4 (young N' w) v l) : Sl insE 4 (young N w) v l := Sl.ext (insE_ext (Ext.young w hN)) (Ext.young w hN).1 h
theorem slx_mono {N N' : Nat} {w : World} {v : Value} {l : List MapL} (hN : N ≤ N') (h : Sl mapE 3 (young N' w) v l) : Sl mapE 3 (young N w) v l := Sl.ext (mapE_ext (Ext.young w hN)) (Ext.young w hN).1 h
theorem slr_mono {N N' : Nat} {w : World} {v : Value} {l : List TrapL} (hN : N ≤ N') (h : Sl trapE 4 (young N' w) v l) : Sl trapE 4 (young N w) v l := Sl.ext (trapE_ext (Ext.young w hN)) (Ext.young w hN).1 h
theorem slf_mono {N N' : Nat} {w : World} {v : Value} {l : List FieldL} (hN : N ≤ N') (h : Sl fieldE 3 (young N' w) v l) : Sl fieldE 3 (young N w) v l := Sl.ext (fieldE_ext (Ext.young w hN)) (Ext.young w hN).1 h
theorem methN_mono {base N N' : Nat} {w : World} (hN : N ≤ N') (b off : Nat) (m : MethL) (h : methN base (young N' w) b off m) : methN base (young N w) b off m := by
  obtain ⟨v1, v7, v8, v9, h1, h2, h3⟩ := h
  refine ⟨v1, v7, v8, v9, MethV.ext (Ext.young w hN) h1, h2.mono hN (by decide), fun j hj => ?_⟩
  have := h3 j hj
  have hj' : j < (methCells v1 v7 v8 v9 m).size := by simpa [methCells] using hj
  rw [Array.getElem?_eq_getElem hj'] at this ⊢
  exact young_cell hN this
theorem slm_mono {base N N' : Nat} {w : World} {v : Value} {l : List MethL} (hN : N ≤ N') (h : Sl (methN base) 10 (young N' w) v l) : Sl (methN base) 10 (young N w) v l := Sl.ext (methN_mono hN) (Ext.young w hN).1 h
theorem New.low {w : World} {b base size T : Nat} {v : Value} {n : Nat} (h : New w b size T v n) (hb : base ≤ b) : New w base size T v n := by
  obtain ⟨g, cs, h1, h2, h3, h4⟩ := h
  exact ⟨g, cs, h1, Nat.le_trans hb h2, h3, h4⟩
set_option maxHeartbeats 8000000 in
theorem rfield_any (R : Nat) (v1 : Value) (P : List ByteArray) (r : List Int) (w0 w : World) (H : Rd w0 w R v1 P r) :
    Calls Tryz.prog 98 #[.pointer (some ⟨R, 0, none⟩)] w fun e w' => ∃ us, e = .returned (.agg us.toArray) ∧ Rd w0 w' R v1 P (rF P r).2 ∧ w.grownBy w' (some R) ∧ fieldV (young w.heap.size w') us (rF P r).1 := by
  have hlt0 := H.lt
  have hlow := H.bel.size
  have ka := alloc1 w (.cells #[.string ⟨#[]⟩, .string ⟨#[]⟩, .bool false] 40)
  have hsz := alloc_size w (.cells #[.string ⟨#[]⟩, .string ⟨#[]⟩, .bool false] 40)
  have BX0 := blk_new w #[.string ⟨#[]⟩, .string ⟨#[]⟩, .bool false] 40
  have H0 := H.grown ka
  have hs0 : Sl strE 1 (wipe R w) v1 P := by obtain ⟨_, _, ⟨_, _, _, _, _, hs⟩, _⟩ := H; exact hs
  have gr0 : w.grownBy (w.alloc (.cells #[.string ⟨#[]⟩, .string ⟨#[]⟩, .bool false] 40)) (some R) := below_grown ka
  have hRX : R < w.heap.size := hlt0
  have hS0 : w.heap.size + 1 ≤ (w.alloc (.cells #[.string ⟨#[]⟩, .string ⟨#[]⟩, .bool false] 40)).heap.size := by rw [hsz]; exact Nat.le_refl _
  clear ka hsz H
  have HC0 := rtext_any R v1 P r w0 (w.alloc (.cells #[.string ⟨#[]⟩, .string ⟨#[]⟩, .bool false] 40)) H0
  have E0 : Hid (rT P r = (rT P r)) := rfl
  obtain ⟨q0, hq0⟩ : ∃ q, rT P r = q := ⟨_, rfl⟩
  rw [hq0] at HC0
  obtain ⟨a0, r0⟩ := q0
  have Q0 : Hid _ := hq0
  clear hq0 E0
  obtain ⟨q1, hq1⟩ : ∃ q, rT P r0 = q := ⟨_, rfl⟩
  obtain ⟨a1, r1⟩ := q1
  have Q1 : Hid _ := hq1
  clear hq1
  obtain ⟨q2, hq2⟩ : ∃ q, rB r1 = q := ⟨_, rfl⟩
  obtain ⟨a2, r2⟩ := q2
  have Q2 : Hid _ := hq2
  clear hq2
  have HV : Hid (rF P r = (⟨a0, a1, a2⟩, r2)) := by
    show _ = _
    unfold rF
    rw [rThen_eq Q0.out, rThen_eq Q1.out, rThen_eq Q2.out]
  rw [HV.out]
  simp only at HC0
  clear HV
  go_enter Tryz.func98, Tryz.ntmps98
  go_wp2_with fail
  refine HC0.mono ?_
  rintro e w1 ⟨rfl, H1, g1, s0⟩
  have gr1 := grown_trans gr0 g1
  have BX1 := blk_grown BX0 g1 (fun e => by have := Option.some.inj e; omega)
  have hS1 := Nat.le_trans hS0 g1.size
  clear HC0 gr0 BX0 H0 g1 Q0
  have HC1 := rtext_any R v1 P r0 w0 w1 H1
  rw [Q1.out] at HC1
  simp only at HC1
  go_wp2_with fail
  refine HC1.mono ?_
  rintro e w2 ⟨rfl, H2, g2, s1⟩
  have gr2 := grown_trans gr1 g2
  have BX2 := blk_grown BX1 g2 (fun e => by have := Option.some.inj e; omega)
  have hS2 := Nat.le_trans hS1 g2.size
  clear HC1 gr1 BX1 H1 g2 Q1
  have HC2 := rtruth_any R v1 P r1 w0 w2 H2
  rw [Q2.out] at HC2
  simp only at HC2
  go_wp2_with fail
  refine HC2.mono ?_
  rintro e w3 ⟨rfl, H3, g3⟩
  have gr3 := grown_trans gr2 g3
  have BX3 := blk_grown BX2 g3 (fun e => by have := Option.some.inj e; omega)
  have hS3 := Nat.le_trans hS2 g3.size
  clear HC2 gr2 BX2 H2 g3 Q2
  have x0 := blk_cell BX3 0
  have f0 := blk_free BX3 0
  have x1 := blk_cell BX3 1
  have f1 := blk_free BX3 1
  have x2 := blk_cell BX3 2
  have f2 := blk_free BX3 2
  simp only [List.getElem?_toArray, List.getElem?_cons_zero, List.getElem?_cons_succ] at x0 x1 x2
  have g9 := setCells_grown w.heap.size [.string a0, .string a1, .bool a2] 0 w3
  have BX9 := set_cells [.string a0, .string a1, .bool a2] [] [.string ⟨#[]⟩, .string ⟨#[]⟩, .bool false] w3 w.heap.size 40 BX3 (Nat.le_refl _)
  have gr9 := grown_new gr3 g9 (Nat.le_refl _)
  have H9 := H3.kept g9 hRX hlow hs0 hlt0 gr9
  simp only [World.setCells, List.nil_append, List.length_nil, Nat.zero_add, Nat.reduceAdd] at BX9 gr9 H9
  clear BX3 H3 g9 gr3
  go_wp2_with fail
  generalize (((w3.setCell ⟨w.heap.size, 0, none⟩ (.string a0)).setCell ⟨w.heap.size, 1, none⟩ (.string a1)).setCell ⟨w.heap.size, 2, none⟩ (.bool a2)) = W9 at *
  have y0 := blk_cell BX9 0
  have y1 := blk_cell BX9 1
  have y2 := blk_cell BX9 2
  simp only [List.cons_append, List.nil_append, List.getElem?_toArray, List.getElem?_cons_zero, List.getElem?_cons_succ] at y0 y1 y2
  clear x0 f0 x1 f1 x2 f2
  refine bodyPost_ret (by simp [results, Tryz.results98, go_sem, y0, y1, y2]; try rfl) rfl ?_
  exact ⟨[.string a0, .string a1, .bool a2], rfl, H9, gr9, rfl, s0, s1⟩
set_option maxHeartbeats 8000000 in
theorem rins_any (R : Nat) (v1 : Value) (P : List ByteArray) (r : List Int) (w0 w : World) (H : Rd w0 w R v1 P r) :
    Calls Tryz.prog 129 #[.pointer (some ⟨R, 0, none⟩)] w fun e w' => ∃ us, e = .returned (.agg us.toArray) ∧ Rd w0 w' R v1 P (rI P r).2 ∧ w.grownBy w' (some R) ∧ insV (young w.heap.size w') us (rI P r).1 := by
  have hlt0 := H.lt
  have hlow := H.bel.size
  have ka := alloc1 w (.cells #[.int .i64 0, .int .i64 0, .string ⟨#[]⟩, .string ⟨#[]⟩] 48)
  have hsz := alloc_size w (.cells #[.int .i64 0, .int .i64 0, .string ⟨#[]⟩, .string ⟨#[]⟩] 48)
  have BX0 := blk_new w #[.int .i64 0, .int .i64 0, .string ⟨#[]⟩, .string ⟨#[]⟩] 48
  have H0 := H.grown ka
  have hs0 : Sl strE 1 (wipe R w) v1 P := by obtain ⟨_, _, ⟨_, _, _, _, _, hs⟩, _⟩ := H; exact hs
  have gr0 : w.grownBy (w.alloc (.cells #[.int .i64 0, .int .i64 0, .string ⟨#[]⟩, .string ⟨#[]⟩] 48)) (some R) := below_grown ka
  have hRX : R < w.heap.size := hlt0
  have hS0 : w.heap.size + 1 ≤ (w.alloc (.cells #[.int .i64 0, .int .i64 0, .string ⟨#[]⟩, .string ⟨#[]⟩] 48)).heap.size := by rw [hsz]; exact Nat.le_refl _
  clear ka hsz H
  have HC0 := rnum_any R v1 P r w0 (w.alloc (.cells #[.int .i64 0, .int .i64 0, .string ⟨#[]⟩, .string ⟨#[]⟩] 48)) H0
  have E0 : Hid (rN r = (rN r)) := rfl
  obtain ⟨q0, hq0⟩ : ∃ q, rN r = q := ⟨_, rfl⟩
  rw [hq0] at HC0
  obtain ⟨a0, r0⟩ := q0
  have Q0 : Hid _ := hq0
  clear hq0 E0
  obtain ⟨q1, hq1⟩ : ∃ q, rN r0 = q := ⟨_, rfl⟩
  obtain ⟨a1, r1⟩ := q1
  have Q1 : Hid _ := hq1
  clear hq1
  obtain ⟨q2, hq2⟩ : ∃ q, rT P r1 = q := ⟨_, rfl⟩
  obtain ⟨a2, r2⟩ := q2
  have Q2 : Hid _ := hq2
  clear hq2
  obtain ⟨q3, hq3⟩ : ∃ q, rT P r2 = q := ⟨_, rfl⟩
  obtain ⟨a3, r3⟩ := q3
  have Q3 : Hid _ := hq3
  clear hq3
  have HV : Hid (rI P r = (⟨a0, a1, a2, a3⟩, r3)) := by
    show _ = _
    unfold rI
    rw [rThen_eq Q0.out, rThen_eq Q1.out, rThen_eq Q2.out, rThen_eq Q3.out]
  rw [HV.out]
  simp only at HC0
  clear HV
  go_enter Tryz.func129, Tryz.ntmps129
  go_wp2_with fail
  refine HC0.mono ?_
  rintro e w1 ⟨rfl, H1, g1⟩
  have gr1 := grown_trans gr0 g1
  have BX1 := blk_grown BX0 g1 (fun e => by have := Option.some.inj e; omega)
  have hS1 := Nat.le_trans hS0 g1.size
  clear HC0 gr0 BX0 H0 g1 Q0
  have HC1 := rnum_any R v1 P r0 w0 w1 H1
  rw [Q1.out] at HC1
  simp only at HC1
  go_wp2_with fail
  refine HC1.mono ?_
  rintro e w2 ⟨rfl, H2, g2⟩
  have gr2 := grown_trans gr1 g2
  have BX2 := blk_grown BX1 g2 (fun e => by have := Option.some.inj e; omega)
  have hS2 := Nat.le_trans hS1 g2.size
  clear HC1 gr1 BX1 H1 g2 Q1
  have HC2 := rtext_any R v1 P r1 w0 w2 H2
  rw [Q2.out] at HC2
  simp only at HC2
  go_wp2_with fail
  refine HC2.mono ?_
  rintro e w3 ⟨rfl, H3, g3, s2⟩
  have gr3 := grown_trans gr2 g3
  have BX3 := blk_grown BX2 g3 (fun e => by have := Option.some.inj e; omega)
  have hS3 := Nat.le_trans hS2 g3.size
  clear HC2 gr2 BX2 H2 g3 Q2
  have HC3 := rtext_any R v1 P r2 w0 w3 H3
  rw [Q3.out] at HC3
  simp only at HC3
  go_wp2_with fail
  refine HC3.mono ?_
  rintro e w4 ⟨rfl, H4, g4, s3⟩
  have gr4 := grown_trans gr3 g4
  have BX4 := blk_grown BX3 g4 (fun e => by have := Option.some.inj e; omega)
  have hS4 := Nat.le_trans hS3 g4.size
  clear HC3 gr3 BX3 H3 g4 Q3
  have x0 := blk_cell BX4 0
  have f0 := blk_free BX4 0
  have x1 := blk_cell BX4 1
  have f1 := blk_free BX4 1
  have x2 := blk_cell BX4 2
  have f2 := blk_free BX4 2
  have x3 := blk_cell BX4 3
  have f3 := blk_free BX4 3
  simp only [List.getElem?_toArray, List.getElem?_cons_zero, List.getElem?_cons_succ] at x0 x1 x2 x3
  have g9 := setCells_grown w.heap.size [.int .i64 a0, .int .i64 a1, .string a2, .string a3] 0 w4
  have BX9 := set_cells [.int .i64 a0, .int .i64 a1, .string a2, .string a3] [] [.int .i64 0, .int .i64 0, .string ⟨#[]⟩, .string ⟨#[]⟩] w4 w.heap.size 48 BX4 (Nat.le_refl _)
  have gr9 := grown_new gr4 g9 (Nat.le_refl _)
  have H9 := H4.kept g9 hRX hlow hs0 hlt0 gr9
  simp only [World.setCells, List.nil_append, List.length_nil, Nat.zero_add, Nat.reduceAdd] at BX9 gr9 H9
  clear BX4 H4 g9 gr4
  go_wp2_with fail
  generalize ((((w4.setCell ⟨w.heap.size, 0, none⟩ (.int .i64 a0)).setCell ⟨w.heap.size, 1, none⟩ (.int .i64 a1)).setCell ⟨w.heap.size, 2, none⟩ (.string a2)).setCell ⟨w.heap.size, 3, none⟩ (.string a3)) = W9 at *
  have y0 := blk_cell BX9 0
  have y1 := blk_cell BX9 1
  have y2 := blk_cell BX9 2
  have y3 := blk_cell BX9 3
  simp only [List.cons_append, List.nil_append, List.getElem?_toArray, List.getElem?_cons_zero, List.getElem?_cons_succ] at y0 y1 y2 y3
  clear x0 f0 x1 f1 x2 f2 x3 f3
  refine bodyPost_ret (by simp [results, Tryz.results129, go_sem, y0, y1, y2, y3]; try rfl) rfl ?_
  exact ⟨[.int .i64 a0, .int .i64 a1, .string a2, .string a3], rfl, H9, gr9, rfl, s2, s3⟩
set_option maxHeartbeats 8000000 in
theorem rtrap_any (R : Nat) (v1 : Value) (P : List ByteArray) (r : List Int) (w0 w : World) (H : Rd w0 w R v1 P r) :
    Calls Tryz.prog 133 #[.pointer (some ⟨R, 0, none⟩)] w fun e w' => ∃ us, e = .returned (.agg us.toArray) ∧ Rd w0 w' R v1 P (rR P r).2 ∧ w.grownBy w' (some R) ∧ trapV (young w.heap.size w') us (rR P r).1 := by
  have hlt0 := H.lt
  have hlow := H.bel.size
  have ka := alloc1 w (.cells #[.int .i64 0, .int .i64 0, .int .i64 0, .string ⟨#[]⟩] 80)
  have hsz := alloc_size w (.cells #[.int .i64 0, .int .i64 0, .int .i64 0, .string ⟨#[]⟩] 80)
  have BX0 := blk_new w #[.int .i64 0, .int .i64 0, .int .i64 0, .string ⟨#[]⟩] 80
  have H0 := H.grown ka
  have hs0 : Sl strE 1 (wipe R w) v1 P := by obtain ⟨_, _, ⟨_, _, _, _, _, hs⟩, _⟩ := H; exact hs
  have gr0 : w.grownBy (w.alloc (.cells #[.int .i64 0, .int .i64 0, .int .i64 0, .string ⟨#[]⟩] 80)) (some R) := below_grown ka
  have hRX : R < w.heap.size := hlt0
  have hS0 : w.heap.size + 1 ≤ (w.alloc (.cells #[.int .i64 0, .int .i64 0, .int .i64 0, .string ⟨#[]⟩] 80)).heap.size := by rw [hsz]; exact Nat.le_refl _
  clear ka hsz H
  have HC0 := rnum_any R v1 P r w0 (w.alloc (.cells #[.int .i64 0, .int .i64 0, .int .i64 0, .string ⟨#[]⟩] 80)) H0
  have E0 : Hid (rN r = (rN r)) := rfl
  obtain ⟨q0, hq0⟩ : ∃ q, rN r = q := ⟨_, rfl⟩
  rw [hq0] at HC0
  obtain ⟨a0, r0⟩ := q0
  have Q0 : Hid _ := hq0
  clear hq0 E0
  obtain ⟨q1, hq1⟩ : ∃ q, rN r0 = q := ⟨_, rfl⟩
  obtain ⟨a1, r1⟩ := q1
  have Q1 : Hid _ := hq1
  clear hq1
  obtain ⟨q2, hq2⟩ : ∃ q, rN r1 = q := ⟨_, rfl⟩
  obtain ⟨a2, r2⟩ := q2
  have Q2 : Hid _ := hq2
  clear hq2
  obtain ⟨q3, hq3⟩ : ∃ q, rT P r2 = q := ⟨_, rfl⟩
  obtain ⟨a3, r3⟩ := q3
  have Q3 : Hid _ := hq3
  clear hq3
  have HV : Hid (rR P r = (⟨a0, a1, a2, a3⟩, r3)) := by
    show _ = _
    unfold rR
    rw [rThen_eq Q0.out, rThen_eq Q1.out, rThen_eq Q2.out, rThen_eq Q3.out]
  rw [HV.out]
  simp only at HC0
  clear HV
  go_enter Tryz.func133, Tryz.ntmps133
  go_wp2_with fail
  refine HC0.mono ?_
  rintro e w1 ⟨rfl, H1, g1⟩
  have gr1 := grown_trans gr0 g1
  have BX1 := blk_grown BX0 g1 (fun e => by have := Option.some.inj e; omega)
  have hS1 := Nat.le_trans hS0 g1.size
  clear HC0 gr0 BX0 H0 g1 Q0
  have HC1 := rnum_any R v1 P r0 w0 w1 H1
  rw [Q1.out] at HC1
  simp only at HC1
  go_wp2_with fail
  refine HC1.mono ?_
  rintro e w2 ⟨rfl, H2, g2⟩
  have gr2 := grown_trans gr1 g2
  have BX2 := blk_grown BX1 g2 (fun e => by have := Option.some.inj e; omega)
  have hS2 := Nat.le_trans hS1 g2.size
  clear HC1 gr1 BX1 H1 g2 Q1
  have HC2 := rnum_any R v1 P r1 w0 w2 H2
  rw [Q2.out] at HC2
  simp only at HC2
  go_wp2_with fail
  refine HC2.mono ?_
  rintro e w3 ⟨rfl, H3, g3⟩
  have gr3 := grown_trans gr2 g3
  have BX3 := blk_grown BX2 g3 (fun e => by have := Option.some.inj e; omega)
  have hS3 := Nat.le_trans hS2 g3.size
  clear HC2 gr2 BX2 H2 g3 Q2
  have HC3 := rtext_any R v1 P r2 w0 w3 H3
  rw [Q3.out] at HC3
  simp only at HC3
  go_wp2_with fail
  refine HC3.mono ?_
  rintro e w4 ⟨rfl, H4, g4, s3⟩
  have gr4 := grown_trans gr3 g4
  have BX4 := blk_grown BX3 g4 (fun e => by have := Option.some.inj e; omega)
  have hS4 := Nat.le_trans hS3 g4.size
  clear HC3 gr3 BX3 H3 g4 Q3
  have x0 := blk_cell BX4 0
  have f0 := blk_free BX4 0
  have x1 := blk_cell BX4 1
  have f1 := blk_free BX4 1
  have x2 := blk_cell BX4 2
  have f2 := blk_free BX4 2
  have x3 := blk_cell BX4 3
  have f3 := blk_free BX4 3
  simp only [List.getElem?_toArray, List.getElem?_cons_zero, List.getElem?_cons_succ] at x0 x1 x2 x3
  have g9 := setCells_grown w.heap.size [.int .i64 a0, .int .i64 a1, .int .i64 a2, .string a3] 0 w4
  have BX9 := set_cells [.int .i64 a0, .int .i64 a1, .int .i64 a2, .string a3] [] [.int .i64 0, .int .i64 0, .int .i64 0, .string ⟨#[]⟩] w4 w.heap.size 80 BX4 (Nat.le_refl _)
  have gr9 := grown_new gr4 g9 (Nat.le_refl _)
  have H9 := H4.kept g9 hRX hlow hs0 hlt0 gr9
  simp only [World.setCells, List.nil_append, List.length_nil, Nat.zero_add, Nat.reduceAdd] at BX9 gr9 H9
  clear BX4 H4 g9 gr4
  go_wp2_with fail
  generalize ((((w4.setCell ⟨w.heap.size, 0, none⟩ (.int .i64 a0)).setCell ⟨w.heap.size, 1, none⟩ (.int .i64 a1)).setCell ⟨w.heap.size, 2, none⟩ (.int .i64 a2)).setCell ⟨w.heap.size, 3, none⟩ (.string a3)) = W9 at *
  have y0 := blk_cell BX9 0
  have y1 := blk_cell BX9 1
  have y2 := blk_cell BX9 2
  have y3 := blk_cell BX9 3
  simp only [List.cons_append, List.nil_append, List.getElem?_toArray, List.getElem?_cons_zero, List.getElem?_cons_succ] at y0 y1 y2 y3
  clear x0 f0 x1 f1 x2 f2 x3 f3
  refine bodyPost_ret (by simp [results, Tryz.results133, go_sem, y0, y1, y2, y3]; try rfl) rfl ?_
  exact ⟨[.int .i64 a0, .int .i64 a1, .int .i64 a2, .string a3], rfl, H9, gr9, rfl, s3⟩
end Fil
end Go.Proofs.YtjblmgdjaaeedaaGreat

/- The contracts of file's readList at fields, instructions, traps. (Written by tools/gen/genread.py.) -/
namespace Go.Proofs.YtjblmgdjaaeedaaGreat
namespace Fil
open Num Kind Op4 Cls
open Go.RowKit
set_option linter.unusedVariables false
set_option linter.unusedSimpArgs false
set_option maxRecDepth 100000

set_option maxHeartbeats 8000000 in
theorem rlf_any (R : Nat) (v1 : Value) (P : List ByteArray) (r : List Int) (w0 w : World) (H : Rd w0 w R v1 P r) :
    Calls Tryz.prog 97 #[.pointer (some ⟨R, 0, none⟩), .func (.func 98) #[.pointer (some ⟨R, 0, none⟩)] #[]] w fun e w' => ∃ v, e = .returned v ∧ Rd w0 w' R v1 P (rL (rF P) r).2 ∧ w.grownBy w' (some R) ∧
      Sl fieldE 3 (young w.heap.size w') v (rL (rF P) r).1 ∧ New (young w.heap.size w') w.heap.size 3 40 v (rL (rF P) r).1.length := by
  obtain ⟨iE, hiE, hzE0, hzE1, hzE2⟩ := info_parts infoF
  have HC := rcount_any R v1 P r w0 w H
  have hlt0 := H.lt
  have hlow := H.bel.size
  go_enter Tryz.func97, Tryz.ntmps97
  go_wp2_with fail
  refine HC.mono ?_
  rintro e w1 ⟨rfl, H1, g1⟩
  have hn := rQ_small H1.byt.2
  have HL : Hid (rL (rF P) r = rK (rF P) (rQ r).1 (rQ r).2) := rfl
  clear HC H
  generalize (rQ r).1 = n at *
  generalize (rQ r).2 = r1 at *
  have hlt1 := H1.lt
  go_wp2_with (at_make; refine wpList_make_full _ rfl _ _ 23 rfl w1.heap.size 40 iE (.agg #[.string ⟨#[]⟩, .string ⟨#[]⟩, .bool false]) 3 Tryz.underlying23 hiE hzE0 hzE1 _ _ _ _ n rfl rfl rfl rfl (by rw [hzE2]; omega) (by unfold maxLen; omega) (Nat.le_refl _) ?_; intro w2 own2 gr2)
  have FL := Fill.new (V := fieldV) (α := FieldL) hlt1 own2
  have k2 := grown_below gr2
  have H2 := H1.grown k2
  have hs1 : Sl strE 1 (wipe R w1) v1 P := by obtain ⟨_, _, ⟨_, _, _, _, _, hs⟩, _⟩ := H1; exact hs
  have g2 : w1.grownBy w2 (some R) := grown_none gr2
  have hbl := H1.bel.size
  clear own2 k2 gr2 H1
  obtain ⟨g, hgg⟩ : ∃ g, g = w1.heap.size := ⟨_, rfl⟩
  have HG : Hid _ := hgg
  rw [← hgg] at FL
  have hbg : w0.heap.size ≤ g := by omega
  have hsg : w.heap.size ≤ g := by have := g1.size; omega
  rw [← hgg]
  clear hgg hbl
  go_loopw [12] (fun i wr => ∃ k : Nat, k ≤ n ∧ i = .int .i64 k ∧ Rd w0 wr R v1 P (rK (rF P) k r1).2 ∧ Fill fieldV 3 40 R g wr (rK (rF P) k r1).1 (n - k) ∧ w1.grownBy wr (some R)) (fun i _ => n - (intOf i).toNat)
  case atStart => exact ⟨0, by omega, rfl, H2, FL, g2⟩
  case round =>
    clear FL H2 g2
    obtain ⟨k, hk, rfl, H, FL, g2⟩ := hrel
    by_cases hlk : k < n
    · have hKS : Hid _ := rK_succ (rF P) k r1
      have hKL : Hid _ := rK_len (rF P) k r1
      have hx0 : ∃ cs, wr.heap[g]? = some (.cells cs 40 (0, 0)) ∧ k * 3 + 3 ≤ cs.size := by
        obtain ⟨_, U, h1, h2, Z, h3, hb⟩ := FL
        refine ⟨_, hb, ?_⟩
        have := flat_len elemF _ U _ h1 h2
        rw [rK_len] at this
        simp [this, h3]
        omega
      generalize rK (rF P) k r1 = q at *
      obtain ⟨xs, r2⟩ := q
      simp only at FL H
      have hgl := FL.lt
      have HC := rfield_any R v1 P r2 w0 wr H
      have hps := trivial
      have hKS := hKS.out
      dsimp only at hKS
      generalize (rF P) r2 = z at HC hKS hps
      obtain ⟨z1, z2⟩ := z
      dsimp only at HC hKS hps
      have HKS : Hid _ := hKS
      clear hKS
      go_wp2_with fail
      refine HC.mono ?_
      rintro e w3 ⟨us, rfl, H3, g3, hV⟩
      obtain ⟨hus, _⟩ := id hV
      subst hus
      have FL3 := FL.grown elemF g3
      obtain ⟨cs, hcs, hcz⟩ := hx0
      have hRg := FL.ne
      have hcs3 := blk_grown hcs g3 (fun e => by have := Option.some.inj e; omega)
      have hcc : ∀ j, j < 3 → ∃ u, w3.cell? ⟨g, k * 3 + j, none⟩ = some u := fun j hj => by
        rw [blk_cell hcs3, Array.getElem?_eq_getElem (by omega)]
        exact ⟨_, rfl⟩
      obtain ⟨z0, x0⟩ := hcc 0 (by decide)
      have f0 := blk_free hcs3 (k * 3 + 0)
      obtain ⟨z1, x1⟩ := hcc 1 (by decide)
      have f1 := blk_free hcs3 (k * 3 + 1)
      obtain ⟨z2, x2⟩ := hcc 2 (by decide)
      have f2 := blk_free hcs3 (k * 3 + 2)
      simp only [Nat.add_zero] at x0 f0 x1 f1 x2 f2
      have hz : n - k = (n - (k + 1)) + 1 := by omega
      rw [hz] at FL3
      have hxl : xs.length = k := hKL.out
      have hV' := elemF.mono (g + 1) wr.heap.size w3 _ _ (by omega) hV
      obtain ⟨FL4, g4⟩ := FL3.store elemF hV'
      rw [hxl] at FL4 g4
      have g5 := grown_new (grown_trans g2 g3) g4 (by rw [HG.out]; exact Nat.le_refl _)
      have H5 := H3.kept g4 hRg hbg hs1 hlt1 g5
      clear hcs hcs3 HC hcc FL FL3 hV hV' H3
      simp only [World.setCells, Nat.add_assoc, Nat.reduceAdd] at FL4 H5 g5
      go_wp2_with fail
      go_roundw
      case rel => exact ⟨k + 1, by omega, by go_num, by rw [HKS.out]; exact H5, by rw [HKS.out]; exact FL4, g5⟩
      case measure => simp [intOf]; omega
    · have hkn : k = n := by omega
      have hKL : Hid _ := rK_len (rF P) k r1
      have hLL : Hid (rL (rF P) r = rK (rF P) k r1) := by show _ = _; rw [HL.out, hkn]
      rw [show n - k = 0 by omega] at FL
      have hD := FL.done elemF hsg (by rw [hKL.out]; unfold maxLen; omega)
      rw [hKL.out, hkn] at hD
      have hlen : (rL (rF P) r).1.length = n := by rw [hLL.out, hKL.out, hkn]
      have HD : Hid _ := hD
      clear hD
      go_wp2_with fail
      go_ret
      refine ⟨_, rfl, by rw [hLL.out]; exact H, grown_trans g1 g2, ?_, ?_⟩
      · rw [hLL.out, hkn]; exact HD.out.1
      · rw [hlen]; exact HD.out.2
set_option maxHeartbeats 8000000 in
theorem rli_any (R : Nat) (v1 : Value) (P : List ByteArray) (r : List Int) (w0 w : World) (H : Rd w0 w R v1 P r) :
    Calls Tryz.prog 128 #[.pointer (some ⟨R, 0, none⟩), .func (.func 129) #[.pointer (some ⟨R, 0, none⟩)] #[]] w fun e w' => ∃ v, e = .returned v ∧ Rd w0 w' R v1 P (rL (rI P) r).2 ∧ w.grownBy w' (some R) ∧
      Sl insE 4 (young w.heap.size w') v (rL (rI P) r).1 ∧ New (young w.heap.size w') w.heap.size 4 48 v (rL (rI P) r).1.length := by
  obtain ⟨iE, hiE, hzE0, hzE1, hzE2⟩ := info_parts infoI
  have HC := rcount_any R v1 P r w0 w H
  have hlt0 := H.lt
  have hlow := H.bel.size
  go_enter Tryz.func128, Tryz.ntmps128
  go_wp2_with fail
  refine HC.mono ?_
  rintro e w1 ⟨rfl, H1, g1⟩
  have hn := rQ_small H1.byt.2
  have HL : Hid (rL (rI P) r = rK (rI P) (rQ r).1 (rQ r).2) := rfl
  clear HC H
  generalize (rQ r).1 = n at *
  generalize (rQ r).2 = r1 at *
  have hlt1 := H1.lt
  go_wp2_with (at_make; refine wpList_make_full _ rfl _ _ 42 rfl w1.heap.size 48 iE (.agg #[.int .i64 0, .int .i64 0, .string ⟨#[]⟩, .string ⟨#[]⟩]) 4 Tryz.underlying42 hiE hzE0 hzE1 _ _ _ _ n rfl rfl rfl rfl (by rw [hzE2]; omega) (by unfold maxLen; omega) (Nat.le_refl _) ?_; intro w2 own2 gr2)
  have FL := Fill.new (V := insV) (α := InsL) hlt1 own2
  have k2 := grown_below gr2
  have H2 := H1.grown k2
  have hs1 : Sl strE 1 (wipe R w1) v1 P := by obtain ⟨_, _, ⟨_, _, _, _, _, hs⟩, _⟩ := H1; exact hs
  have g2 : w1.grownBy w2 (some R) := grown_none gr2
  have hbl := H1.bel.size
  clear own2 k2 gr2 H1
  obtain ⟨g, hgg⟩ : ∃ g, g = w1.heap.size := ⟨_, rfl⟩
  have HG : Hid _ := hgg
  rw [← hgg] at FL
  have hbg : w0.heap.size ≤ g := by omega
  have hsg : w.heap.size ≤ g := by have := g1.size; omega
  rw [← hgg]
  clear hgg hbl
  go_loopw [12] (fun i wr => ∃ k : Nat, k ≤ n ∧ i = .int .i64 k ∧ Rd w0 wr R v1 P (rK (rI P) k r1).2 ∧ Fill insV 4 48 R g wr (rK (rI P) k r1).1 (n - k) ∧ w1.grownBy wr (some R)) (fun i _ => n - (intOf i).toNat)
  case atStart => exact ⟨0, by omega, rfl, H2, FL, g2⟩
  case round =>
    clear FL H2 g2
    obtain ⟨k, hk, rfl, H, FL, g2⟩ := hrel
    by_cases hlk : k < n
    · have hKS : Hid _ := rK_succ (rI P) k r1
      have hKL : Hid _ := rK_len (rI P) k r1
      have hx0 : ∃ cs, wr.heap[g]? = some (.cells cs 48 (0, 0)) ∧ k * 4 + 4 ≤ cs.size := by
        obtain ⟨_, U, h1, h2, Z, h3, hb⟩ := FL
        refine ⟨_, hb, ?_⟩
        have := flat_len elemI _ U _ h1 h2
        rw [rK_len] at this
        simp [this, h3]
        omega
      generalize rK (rI P) k r1 = q at *
      obtain ⟨xs, r2⟩ := q
      simp only at FL H
      have hgl := FL.lt
      have HC := rins_any R v1 P r2 w0 wr H
      have hps := trivial
      have hKS := hKS.out
      dsimp only at hKS
      generalize (rI P) r2 = z at HC hKS hps
      obtain ⟨z1, z2⟩ := z
      dsimp only at HC hKS hps
      have HKS : Hid _ := hKS
      clear hKS
      go_wp2_with fail
      refine HC.mono ?_
      rintro e w3 ⟨us, rfl, H3, g3, hV⟩
      obtain ⟨hus, _⟩ := id hV
      subst hus
      have FL3 := FL.grown elemI g3
      obtain ⟨cs, hcs, hcz⟩ := hx0
      have hRg := FL.ne
      have hcs3 := blk_grown hcs g3 (fun e => by have := Option.some.inj e; omega)
      have hcc : ∀ j, j < 4 → ∃ u, w3.cell? ⟨g, k * 4 + j, none⟩ = some u := fun j hj => by
        rw [blk_cell hcs3, Array.getElem?_eq_getElem (by omega)]
        exact ⟨_, rfl⟩
      obtain ⟨z0, x0⟩ := hcc 0 (by decide)
      have f0 := blk_free hcs3 (k * 4 + 0)
      obtain ⟨z1, x1⟩ := hcc 1 (by decide)
      have f1 := blk_free hcs3 (k * 4 + 1)
      obtain ⟨z2, x2⟩ := hcc 2 (by decide)
      have f2 := blk_free hcs3 (k * 4 + 2)
      obtain ⟨z3, x3⟩ := hcc 3 (by decide)
      have f3 := blk_free hcs3 (k * 4 + 3)
      simp only [Nat.add_zero] at x0 f0 x1 f1 x2 f2 x3 f3
      have hz : n - k = (n - (k + 1)) + 1 := by omega
      rw [hz] at FL3
      have hxl : xs.length = k := hKL.out
      have hV' := elemI.mono (g + 1) wr.heap.size w3 _ _ (by omega) hV
      obtain ⟨FL4, g4⟩ := FL3.store elemI hV'
      rw [hxl] at FL4 g4
      have g5 := grown_new (grown_trans g2 g3) g4 (by rw [HG.out]; exact Nat.le_refl _)
      have H5 := H3.kept g4 hRg hbg hs1 hlt1 g5
      clear hcs hcs3 HC hcc FL FL3 hV hV' H3
      simp only [World.setCells, Nat.add_assoc, Nat.reduceAdd] at FL4 H5 g5
      go_wp2_with fail
      go_roundw
      case rel => exact ⟨k + 1, by omega, by go_num, by rw [HKS.out]; exact H5, by rw [HKS.out]; exact FL4, g5⟩
      case measure => simp [intOf]; omega
    · have hkn : k = n := by omega
      have hKL : Hid _ := rK_len (rI P) k r1
      have hLL : Hid (rL (rI P) r = rK (rI P) k r1) := by show _ = _; rw [HL.out, hkn]
      rw [show n - k = 0 by omega] at FL
      have hD := FL.done elemI hsg (by rw [hKL.out]; unfold maxLen; omega)
      rw [hKL.out, hkn] at hD
      have hlen : (rL (rI P) r).1.length = n := by rw [hLL.out, hKL.out, hkn]
      have HD : Hid _ := hD
      clear hD
      go_wp2_with fail
      go_ret
      refine ⟨_, rfl, by rw [hLL.out]; exact H, grown_trans g1 g2, ?_, ?_⟩
      · rw [hLL.out, hkn]; exact HD.out.1
      · rw [hlen]; exact HD.out.2
set_option maxHeartbeats 8000000 in
theorem rlr_any (R : Nat) (v1 : Value) (P : List ByteArray) (r : List Int) (w0 w : World) (H : Rd w0 w R v1 P r) :
    Calls Tryz.prog 132 #[.pointer (some ⟨R, 0, none⟩), .func (.func 133) #[.pointer (some ⟨R, 0, none⟩)] #[]] w fun e w' => ∃ v, e = .returned v ∧ Rd w0 w' R v1 P (rL (rR P) r).2 ∧ w.grownBy w' (some R) ∧
      Sl trapE 4 (young w.heap.size w') v (rL (rR P) r).1 ∧ New (young w.heap.size w') w.heap.size 4 80 v (rL (rR P) r).1.length := by
  obtain ⟨iE, hiE, hzE0, hzE1, hzE2⟩ := info_parts infoT
  have HC := rcount_any R v1 P r w0 w H
  have hlt0 := H.lt
  have hlow := H.bel.size
  go_enter Tryz.func132, Tryz.ntmps132
  go_wp2_with fail
  refine HC.mono ?_
  rintro e w1 ⟨rfl, H1, g1⟩
  have hn := rQ_small H1.byt.2
  have HL : Hid (rL (rR P) r = rK (rR P) (rQ r).1 (rQ r).2) := rfl
  clear HC H
  generalize (rQ r).1 = n at *
  generalize (rQ r).2 = r1 at *
  have hlt1 := H1.lt
  go_wp2_with (at_make; refine wpList_make_full _ rfl _ _ 44 rfl w1.heap.size 80 iE (.agg #[.int .i64 0, .int .i64 0, .int .i64 0, .string ⟨#[]⟩]) 4 Tryz.underlying44 hiE hzE0 hzE1 _ _ _ _ n rfl rfl rfl rfl (by rw [hzE2]; omega) (by unfold maxLen; omega) (Nat.le_refl _) ?_; intro w2 own2 gr2)
  have FL := Fill.new (V := trapV) (α := TrapL) hlt1 own2
  have k2 := grown_below gr2
  have H2 := H1.grown k2
  have hs1 : Sl strE 1 (wipe R w1) v1 P := by obtain ⟨_, _, ⟨_, _, _, _, _, hs⟩, _⟩ := H1; exact hs
  have g2 : w1.grownBy w2 (some R) := grown_none gr2
  have hbl := H1.bel.size
  clear own2 k2 gr2 H1
  obtain ⟨g, hgg⟩ : ∃ g, g = w1.heap.size := ⟨_, rfl⟩
  have HG : Hid _ := hgg
  rw [← hgg] at FL
  have hbg : w0.heap.size ≤ g := by omega
  have hsg : w.heap.size ≤ g := by have := g1.size; omega
  rw [← hgg]
  clear hgg hbl
  go_loopw [12] (fun i wr => ∃ k : Nat, k ≤ n ∧ i = .int .i64 k ∧ Rd w0 wr R v1 P (rK (rR P) k r1).2 ∧ Fill trapV 4 80 R g wr (rK (rR P) k r1).1 (n - k) ∧ w1.grownBy wr (some R)) (fun i _ => n - (intOf i).toNat)
  case atStart => exact ⟨0, by omega, rfl, H2, FL, g2⟩
  case round =>
    clear FL H2 g2
    obtain ⟨k, hk, rfl, H, FL, g2⟩ := hrel
    by_cases hlk : k < n
    · have hKS : Hid _ := rK_succ (rR P) k r1
      have hKL : Hid _ := rK_len (rR P) k r1
      have hx0 : ∃ cs, wr.heap[g]? = some (.cells cs 80 (0, 0)) ∧ k * 4 + 4 ≤ cs.size := by
        obtain ⟨_, U, h1, h2, Z, h3, hb⟩ := FL
        refine ⟨_, hb, ?_⟩
        have := flat_len elemR _ U _ h1 h2
        rw [rK_len] at this
        simp [this, h3]
        omega
      generalize rK (rR P) k r1 = q at *
      obtain ⟨xs, r2⟩ := q
      simp only at FL H
      have hgl := FL.lt
      have HC := rtrap_any R v1 P r2 w0 wr H
      have hps := trivial
      have hKS := hKS.out
      dsimp only at hKS
      generalize (rR P) r2 = z at HC hKS hps
      obtain ⟨z1, z2⟩ := z
      dsimp only at HC hKS hps
      have HKS : Hid _ := hKS
      clear hKS
      go_wp2_with fail
      refine HC.mono ?_
      rintro e w3 ⟨us, rfl, H3, g3, hV⟩
      obtain ⟨hus, _⟩ := id hV
      subst hus
      have FL3 := FL.grown elemR g3
      obtain ⟨cs, hcs, hcz⟩ := hx0
      have hRg := FL.ne
      have hcs3 := blk_grown hcs g3 (fun e => by have := Option.some.inj e; omega)
      have hcc : ∀ j, j < 4 → ∃ u, w3.cell? ⟨g, k * 4 + j, none⟩ = some u := fun j hj => by
        rw [blk_cell hcs3, Array.getElem?_eq_getElem (by omega)]
        exact ⟨_, rfl⟩
      obtain ⟨z0, x0⟩ := hcc 0 (by decide)
      have f0 := blk_free hcs3 (k * 4 + 0)
      obtain ⟨z1, x1⟩ := hcc 1 (by decide)
      have f1 := blk_free hcs3 (k * 4 + 1)
      obtain ⟨z2, x2⟩ := hcc 2 (by decide)
      have f2 := blk_free hcs3 (k * 4 + 2)
      obtain ⟨z3, x3⟩ := hcc 3 (by decide)
      have f3 := blk_free hcs3 (k * 4 + 3)
      simp only [Nat.add_zero] at x0 f0 x1 f1 x2 f2 x3 f3
      have hz : n - k = (n - (k + 1)) + 1 := by omega
      rw [hz] at FL3
      have hxl : xs.length = k := hKL.out
      have hV' := elemR.mono (g + 1) wr.heap.size w3 _ _ (by omega) hV
      obtain ⟨FL4, g4⟩ := FL3.store elemR hV'
      rw [hxl] at FL4 g4
      have g5 := grown_new (grown_trans g2 g3) g4 (by rw [HG.out]; exact Nat.le_refl _)
      have H5 := H3.kept g4 hRg hbg hs1 hlt1 g5
      clear hcs hcs3 HC hcc FL FL3 hV hV' H3
      simp only [World.setCells, Nat.add_assoc, Nat.reduceAdd] at FL4 H5 g5
      go_wp2_with fail
      go_roundw
      case rel => exact ⟨k + 1, by omega, by go_num, by rw [HKS.out]; exact H5, by rw [HKS.out]; exact FL4, g5⟩
      case measure => simp [intOf]; omega
    · have hkn : k = n := by omega
      have hKL : Hid _ := rK_len (rR P) k r1
      have hLL : Hid (rL (rR P) r = rK (rR P) k r1) := by show _ = _; rw [HL.out, hkn]
      rw [show n - k = 0 by omega] at FL
      have hD := FL.done elemR hsg (by rw [hKL.out]; unfold maxLen; omega)
      rw [hKL.out, hkn] at hD
      have hlen : (rL (rR P) r).1.length = n := by rw [hLL.out, hKL.out, hkn]
      have HD : Hid _ := hD
      clear hD
      go_wp2_with fail
      go_ret
      refine ⟨_, rfl, by rw [hLL.out]; exact H, grown_trans g1 g2, ?_, ?_⟩
      · rw [hLL.out, hkn]; exact HD.out.1
      · rw [hlen]; exact HD.out.2
end Fil
end Go.Proofs.YtjblmgdjaaeedaaGreat

/- The contracts of file's reader: Maps, their lists; methods. (Written by tools/gen/genread.py.) -/
namespace Go.Proofs.YtjblmgdjaaeedaaGreat
namespace Fil
open Num Kind Op4 Cls
open Go.RowKit
set_option linter.unusedVariables false
set_option linter.unusedSimpArgs false
set_option maxRecDepth 100000

set_option maxHeartbeats 8000000 in
theorem rmap_any (R : Nat) (v1 : Value) (P : List ByteArray) (r : List Int) (w0 w : World) (H : Rd w0 w R v1 P r) :
    Calls Tryz.prog 131 #[.pointer (some ⟨R, 0, none⟩)] w fun e w' => ∃ us, e = .returned (.agg us.toArray) ∧ Rd w0 w' R v1 P (rX P r).2 ∧ w.grownBy w' (some R) ∧ mapV (young w.heap.size w') us (rX P r).1 := by
  have hlt0 := H.lt
  have hlow := H.bel.size
  have ka := alloc1 w (.cells #[.int .i64 0, .slice none 0 0, .slice none 0 0] 50)
  have hsz := alloc_size w (.cells #[.int .i64 0, .slice none 0 0, .slice none 0 0] 50)
  have BX0 := blk_new w #[.int .i64 0, .slice none 0 0, .slice none 0 0] 50
  have H0 := H.grown ka
  have hs0 : Sl strE 1 (wipe R w) v1 P := by obtain ⟨_, _, ⟨_, _, _, _, _, hs⟩, _⟩ := H; exact hs
  have gr0 : w.grownBy (w.alloc (.cells #[.int .i64 0, .slice none 0 0, .slice none 0 0] 50)) (some R) := below_grown ka
  have hRX : R < w.heap.size := hlt0
  have hS0 : w.heap.size + 1 ≤ (w.alloc (.cells #[.int .i64 0, .slice none 0 0, .slice none 0 0] 50)).heap.size := by rw [hsz]; exact Nat.le_refl _
  clear ka hsz H
  have HC0 := rnum_any R v1 P r w0 (w.alloc (.cells #[.int .i64 0, .slice none 0 0, .slice none 0 0] 50)) H0
  have E0 : Hid (rN r = (rN r)) := rfl
  obtain ⟨q0, hq0⟩ : ∃ q, rN r = q := ⟨_, rfl⟩
  rw [hq0] at HC0
  obtain ⟨a0, r0⟩ := q0
  have Q0 : Hid _ := hq0
  clear hq0 E0
  obtain ⟨q1, hq1⟩ : ∃ q, rL (rT P) r0 = q := ⟨_, rfl⟩
  obtain ⟨a1, r1⟩ := q1
  have Q1 : Hid _ := hq1
  clear hq1
  obtain ⟨q2, hq2⟩ : ∃ q, rL (rT P) r1 = q := ⟨_, rfl⟩
  obtain ⟨a2, r2⟩ := q2
  have Q2 : Hid _ := hq2
  clear hq2
  have HV : Hid (rX P r = (⟨a0, a1, a2⟩, r2)) := by
    show _ = _
    unfold rX
    rw [rThen_eq Q0.out, rThen_eq Q1.out, rThen_eq Q2.out]
  rw [HV.out]
  simp only at HC0
  clear HV
  go_enter Tryz.func131, Tryz.ntmps131
  go_wp2_with fail
  refine HC0.mono ?_
  rintro e w1 ⟨rfl, H1, g1⟩
  have gr1 := grown_trans gr0 g1
  have BX1 := blk_grown BX0 g1 (fun e => by have := Option.some.inj e; omega)
  have hS1 := Nat.le_trans hS0 g1.size
  clear HC0 gr0 BX0 H0 g1 Q0
  have HC1 := rls_any R v1 P r0 w0 w1 H1
  rw [Q1.out] at HC1
  simp only at HC1
  go_wp2_with fail
  refine HC1.mono ?_
  rintro e w2 ⟨u1, rfl, H2, g2, s1, n1⟩
  have gr2 := grown_trans gr1 g2
  have BX2 := blk_grown BX1 g2 (fun e => by have := Option.some.inj e; omega)
  have hS2 := Nat.le_trans hS1 g2.size
  have s1 := sls_mono hS1 s1
  clear n1
  obtain ⟨p1, d1, e1, _⟩ := id s1
  subst e1
  clear HC1 gr1 BX1 H1 g2 Q1
  have HC2 := rls_any R v1 P r1 w0 w2 H2
  rw [Q2.out] at HC2
  simp only at HC2
  go_wp2_with fail
  refine HC2.mono ?_
  rintro e w3 ⟨u2, rfl, H3, g3, s2, n2⟩
  have gr3 := grown_trans gr2 g3
  have BX3 := blk_grown BX2 g3 (fun e => by have := Option.some.inj e; omega)
  have hS3 := Nat.le_trans hS2 g3.size
  have s1 := Sl.later strE_stable s1 (young_keep g3 (fun k e => by cases e; omega))
  have s2 := sls_mono hS2 s2
  clear n2
  obtain ⟨p2, d2, e2, _⟩ := id s2
  subst e2
  clear HC2 gr2 BX2 H2 g3 Q2
  have x0 := blk_cell BX3 0
  have f0 := blk_free BX3 0
  have x1 := blk_cell BX3 1
  have f1 := blk_free BX3 1
  have x2 := blk_cell BX3 2
  have f2 := blk_free BX3 2
  simp only [List.getElem?_toArray, List.getElem?_cons_zero, List.getElem?_cons_succ] at x0 x1 x2
  have g9 := setCells_grown w.heap.size [.int .i64 a0, .slice p1 a1.length d1, .slice p2 a2.length d2] 0 w3
  have BX9 := set_cells [.int .i64 a0, .slice p1 a1.length d1, .slice p2 a2.length d2] [] [.int .i64 0, .slice none 0 0, .slice none 0 0] w3 w.heap.size 50 BX3 (Nat.le_refl _)
  have gr9 := grown_new gr3 g9 (Nat.le_refl _)
  have H9 := H3.kept g9 hRX hlow hs0 hlt0 gr9
  have s1 := Sl.later strE_stable s1 (young_keep g9 (fun k e => by cases e; omega))
  have s2 := Sl.later strE_stable s2 (young_keep g9 (fun k e => by cases e; omega))
  simp only [World.setCells, List.nil_append, List.length_nil, Nat.zero_add, Nat.reduceAdd] at BX9 gr9 H9 s1 s2
  clear BX3 H3 g9 gr3
  go_wp2_with fail
  generalize (((w3.setCell ⟨w.heap.size, 0, none⟩ (.int .i64 a0)).setCell ⟨w.heap.size, 1, none⟩ (.slice p1 a1.length d1)).setCell ⟨w.heap.size, 2, none⟩ (.slice p2 a2.length d2)) = W9 at *
  have y0 := blk_cell BX9 0
  have y1 := blk_cell BX9 1
  have y2 := blk_cell BX9 2
  simp only [List.cons_append, List.nil_append, List.getElem?_toArray, List.getElem?_cons_zero, List.getElem?_cons_succ] at y0 y1 y2
  clear x0 f0 x1 f1 x2 f2
  refine bodyPost_ret (by simp [results, Tryz.results131, go_sem, y0, y1, y2]; try rfl) rfl ?_
  exact ⟨[.int .i64 a0, .slice p1 a1.length d1, .slice p2 a2.length d2], rfl, H9, gr9, _, _, rfl, sls_mono (Nat.le_succ _) s1, sls_mono (Nat.le_succ _) s2⟩
set_option maxHeartbeats 8000000 in
theorem rlx_any (R : Nat) (v1 : Value) (P : List ByteArray) (r : List Int) (w0 w : World) (H : Rd w0 w R v1 P r) :
    Calls Tryz.prog 130 #[.pointer (some ⟨R, 0, none⟩), .func (.func 131) #[.pointer (some ⟨R, 0, none⟩)] #[]] w fun e w' => ∃ v, e = .returned v ∧ Rd w0 w' R v1 P (rL (rX P) r).2 ∧ w.grownBy w' (some R) ∧
      Sl mapE 3 (young w.heap.size w') v (rL (rX P) r).1 ∧ New (young w.heap.size w') w.heap.size 3 50 v (rL (rX P) r).1.length := by
  obtain ⟨iE, hiE, hzE0, hzE1, hzE2⟩ := info_parts infoX
  have HC := rcount_any R v1 P r w0 w H
  have hlt0 := H.lt
  have hlow := H.bel.size
  go_enter Tryz.func130, Tryz.ntmps130
  go_wp2_with fail
  refine HC.mono ?_
  rintro e w1 ⟨rfl, H1, g1⟩
  have hn := rQ_small H1.byt.2
  have HL : Hid (rL (rX P) r = rK (rX P) (rQ r).1 (rQ r).2) := rfl
  clear HC H
  generalize (rQ r).1 = n at *
  generalize (rQ r).2 = r1 at *
  have hlt1 := H1.lt
  go_wp2_with (at_make; refine wpList_make_full _ rfl _ _ 43 rfl w1.heap.size 50 iE (.agg #[.int .i64 0, .slice none 0 0, .slice none 0 0]) 3 Tryz.underlying43 hiE hzE0 hzE1 _ _ _ _ n rfl rfl rfl rfl (by rw [hzE2]; omega) (by unfold maxLen; omega) (Nat.le_refl _) ?_; intro w2 own2 gr2)
  have FL := Fill.new (V := mapV) (α := MapL) hlt1 own2
  have k2 := grown_below gr2
  have H2 := H1.grown k2
  have hs1 : Sl strE 1 (wipe R w1) v1 P := by obtain ⟨_, _, ⟨_, _, _, _, _, hs⟩, _⟩ := H1; exact hs
  have g2 : w1.grownBy w2 (some R) := grown_none gr2
  have hbl := H1.bel.size
  clear own2 k2 gr2 H1
  obtain ⟨g, hgg⟩ : ∃ g, g = w1.heap.size := ⟨_, rfl⟩
  have HG : Hid _ := hgg
  rw [← hgg] at FL
  have hbg : w0.heap.size ≤ g := by omega
  have hsg : w.heap.size ≤ g := by have := g1.size; omega
  rw [← hgg]
  clear hgg hbl
  go_loopw [12] (fun i wr => ∃ k : Nat, k ≤ n ∧ i = .int .i64 k ∧ Rd w0 wr R v1 P (rK (rX P) k r1).2 ∧ Fill mapV 3 50 R g wr (rK (rX P) k r1).1 (n - k) ∧ w1.grownBy wr (some R)) (fun i _ => n - (intOf i).toNat)
  case atStart => exact ⟨0, by omega, rfl, H2, FL, g2⟩
  case round =>
    clear FL H2 g2
    obtain ⟨k, hk, rfl, H, FL, g2⟩ := hrel
    by_cases hlk : k < n
    · have hKS : Hid _ := rK_succ (rX P) k r1
      have hKL : Hid _ := rK_len (rX P) k r1
      have hx0 : ∃ cs, wr.heap[g]? = some (.cells cs 50 (0, 0)) ∧ k * 3 + 3 ≤ cs.size := by
        obtain ⟨_, U, h1, h2, Z, h3, hb⟩ := FL
        refine ⟨_, hb, ?_⟩
        have := flat_len elemX _ U _ h1 h2
        rw [rK_len] at this
        simp [this, h3]
        omega
      generalize rK (rX P) k r1 = q at *
      obtain ⟨xs, r2⟩ := q
      simp only at FL H
      have hgl := FL.lt
      have HC := rmap_any R v1 P r2 w0 wr H
      have hps := trivial
      have hKS := hKS.out
      dsimp only at hKS
      generalize (rX P) r2 = z at HC hKS hps
      obtain ⟨z1, z2⟩ := z
      dsimp only at HC hKS hps
      have HKS : Hid _ := hKS
      clear hKS
      go_wp2_with fail
      refine HC.mono ?_
      rintro e w3 ⟨us, rfl, H3, g3, hV⟩
      obtain ⟨y1, y2, hus, hl1, hl2⟩ := id hV
      obtain ⟨b1, c1, rfl, _⟩ := id hl1
      obtain ⟨b2, c2, rfl, _⟩ := id hl2
      subst hus
      clear hl1 hl2
      have FL3 := FL.grown elemX g3
      obtain ⟨cs, hcs, hcz⟩ := hx0
      have hRg := FL.ne
      have hcs3 := blk_grown hcs g3 (fun e => by have := Option.some.inj e; omega)
      have hcc : ∀ j, j < 3 → ∃ u, w3.cell? ⟨g, k * 3 + j, none⟩ = some u := fun j hj => by
        rw [blk_cell hcs3, Array.getElem?_eq_getElem (by omega)]
        exact ⟨_, rfl⟩
      obtain ⟨z0, x0⟩ := hcc 0 (by decide)
      have f0 := blk_free hcs3 (k * 3 + 0)
      obtain ⟨z1, x1⟩ := hcc 1 (by decide)
      have f1 := blk_free hcs3 (k * 3 + 1)
      obtain ⟨z2, x2⟩ := hcc 2 (by decide)
      have f2 := blk_free hcs3 (k * 3 + 2)
      simp only [Nat.add_zero] at x0 f0 x1 f1 x2 f2
      have hz : n - k = (n - (k + 1)) + 1 := by omega
      rw [hz] at FL3
      have hxl : xs.length = k := hKL.out
      have hV' := elemX.mono (g + 1) wr.heap.size w3 _ _ (by omega) hV
      obtain ⟨FL4, g4⟩ := FL3.store elemX hV'
      rw [hxl] at FL4 g4
      have g5 := grown_new (grown_trans g2 g3) g4 (by rw [HG.out]; exact Nat.le_refl _)
      have H5 := H3.kept g4 hRg hbg hs1 hlt1 g5
      clear hcs hcs3 HC hcc FL FL3 hV hV' H3
      simp only [World.setCells, Nat.add_assoc, Nat.reduceAdd] at FL4 H5 g5
      go_wp2_with fail
      go_roundw
      case rel => exact ⟨k + 1, by omega, by go_num, by rw [HKS.out]; exact H5, by rw [HKS.out]; exact FL4, g5⟩
      case measure => simp [intOf]; omega
    · have hkn : k = n := by omega
      have hKL : Hid _ := rK_len (rX P) k r1
      have hLL : Hid (rL (rX P) r = rK (rX P) k r1) := by show _ = _; rw [HL.out, hkn]
      rw [show n - k = 0 by omega] at FL
      have hD := FL.done elemX hsg (by rw [hKL.out]; unfold maxLen; omega)
      rw [hKL.out, hkn] at hD
      have hlen : (rL (rX P) r).1.length = n := by rw [hLL.out, hKL.out, hkn]
      have HD : Hid _ := hD
      clear hD
      go_wp2_with fail
      go_ret
      refine ⟨_, rfl, by rw [hLL.out]; exact H, grown_trans g1 g2, ?_, ?_⟩
      · rw [hLL.out, hkn]; exact HD.out.1
      · rw [hlen]; exact HD.out.2
end Fil
end Go.Proofs.YtjblmgdjaaeedaaGreat

/- The contracts of file's reader: methods, their lists; classes. (Written by tools/gen/genread.py.) -/
namespace Go.Proofs.YtjblmgdjaaeedaaGreat
namespace Fil
open Num Kind Op4 Cls
open Go.RowKit
set_option linter.unusedVariables false
set_option linter.unusedSimpArgs false
set_option maxRecDepth 100000

set_option maxHeartbeats 8000000 in
theorem rmeth_any (R : Nat) (v1 : Value) (P : List ByteArray) (r : List Int) (w0 w : World) (H : Rd w0 w R v1 P r) :
    Calls Tryz.prog 100 #[.pointer (some ⟨R, 0, none⟩)] w fun e w' => ∃ us, e = .returned (.agg us.toArray) ∧ Rd w0 w' R v1 P (rM P r).2 ∧ w.grownBy w' (some R) ∧ methV w0.heap.size (young w.heap.size w') us (rM P r).1 := by
  have hlt0 := H.lt
  have hlow := H.bel.size
  have ka := alloc1 w (.cells #[.string ⟨#[]⟩, .slice none 0 0, .string ⟨#[]⟩, .bool false, .bool false, .int .i64 0, .int .i64 0, .slice none 0 0, .slice none 0 0, .slice none 0 0] 46)
  have hsz := alloc_size w (.cells #[.string ⟨#[]⟩, .slice none 0 0, .string ⟨#[]⟩, .bool false, .bool false, .int .i64 0, .int .i64 0, .slice none 0 0, .slice none 0 0, .slice none 0 0] 46)
  have BX0 := blk_new w #[.string ⟨#[]⟩, .slice none 0 0, .string ⟨#[]⟩, .bool false, .bool false, .int .i64 0, .int .i64 0, .slice none 0 0, .slice none 0 0, .slice none 0 0] 46
  have H0 := H.grown ka
  have hs0 : Sl strE 1 (wipe R w) v1 P := by obtain ⟨_, _, ⟨_, _, _, _, _, hs⟩, _⟩ := H; exact hs
  have gr0 : w.grownBy (w.alloc (.cells #[.string ⟨#[]⟩, .slice none 0 0, .string ⟨#[]⟩, .bool false, .bool false, .int .i64 0, .int .i64 0, .slice none 0 0, .slice none 0 0, .slice none 0 0] 46)) (some R) := below_grown ka
  have hRX : R < w.heap.size := hlt0
  have hS0 : w.heap.size + 1 ≤ (w.alloc (.cells #[.string ⟨#[]⟩, .slice none 0 0, .string ⟨#[]⟩, .bool false, .bool false, .int .i64 0, .int .i64 0, .slice none 0 0, .slice none 0 0, .slice none 0 0] 46)).heap.size := by rw [hsz]; exact Nat.le_refl _
  clear ka hsz H
  have HC0 := rtext_any R v1 P r w0 (w.alloc (.cells #[.string ⟨#[]⟩, .slice none 0 0, .string ⟨#[]⟩, .bool false, .bool false, .int .i64 0, .int .i64 0, .slice none 0 0, .slice none 0 0, .slice none 0 0] 46)) H0
  have E0 : Hid (rT P r = (rT P r)) := rfl
  obtain ⟨q0, hq0⟩ : ∃ q, rT P r = q := ⟨_, rfl⟩
  rw [hq0] at HC0
  obtain ⟨a0, r0⟩ := q0
  have Q0 : Hid _ := hq0
  clear hq0 E0
  obtain ⟨q1, hq1⟩ : ∃ q, rL (rT P) r0 = q := ⟨_, rfl⟩
  obtain ⟨a1, r1⟩ := q1
  have Q1 : Hid _ := hq1
  clear hq1
  obtain ⟨q2, hq2⟩ : ∃ q, rT P r1 = q := ⟨_, rfl⟩
  obtain ⟨a2, r2⟩ := q2
  have Q2 : Hid _ := hq2
  clear hq2
  obtain ⟨q3, hq3⟩ : ∃ q, rB r2 = q := ⟨_, rfl⟩
  obtain ⟨a3, r3⟩ := q3
  have Q3 : Hid _ := hq3
  clear hq3
  obtain ⟨q4, hq4⟩ : ∃ q, rB r3 = q := ⟨_, rfl⟩
  obtain ⟨a4, r4⟩ := q4
  have Q4 : Hid _ := hq4
  clear hq4
  obtain ⟨q5, hq5⟩ : ∃ q, rN r4 = q := ⟨_, rfl⟩
  obtain ⟨a5, r5⟩ := q5
  have Q5 : Hid _ := hq5
  clear hq5
  obtain ⟨q6, hq6⟩ : ∃ q, rN r5 = q := ⟨_, rfl⟩
  obtain ⟨a6, r6⟩ := q6
  have Q6 : Hid _ := hq6
  clear hq6
  obtain ⟨q7, hq7⟩ : ∃ q, rL (rI P) r6 = q := ⟨_, rfl⟩
  obtain ⟨a7, r7⟩ := q7
  have Q7 : Hid _ := hq7
  clear hq7
  obtain ⟨q8, hq8⟩ : ∃ q, rL (rX P) r7 = q := ⟨_, rfl⟩
  obtain ⟨a8, r8⟩ := q8
  have Q8 : Hid _ := hq8
  clear hq8
  obtain ⟨q9, hq9⟩ : ∃ q, rL (rR P) r8 = q := ⟨_, rfl⟩
  obtain ⟨a9, r9⟩ := q9
  have Q9 : Hid _ := hq9
  clear hq9
  have HV : Hid (rM P r = (⟨a0, a1, a2, a3, a4, a5, a6, a7, a8, a9⟩, r9)) := by
    show _ = _
    unfold rM
    rw [rThen_eq Q0.out, rThen_eq Q1.out, rThen_eq Q2.out, rThen_eq Q3.out, rThen_eq Q4.out, rThen_eq Q5.out, rThen_eq Q6.out, rThen_eq Q7.out, rThen_eq Q8.out, rThen_eq Q9.out]
  rw [HV.out]
  simp only at HC0
  clear HV
  go_enter Tryz.func100, Tryz.ntmps100
  go_wp2_with fail
  refine HC0.mono ?_
  rintro e w1 ⟨rfl, H1, g1, s0⟩
  have gr1 := grown_trans gr0 g1
  have BX1 := blk_grown BX0 g1 (fun e => by have := Option.some.inj e; omega)
  have hS1 := Nat.le_trans hS0 g1.size
  clear HC0 gr0 BX0 H0 g1 Q0
  have HC1 := rls_any R v1 P r0 w0 w1 H1
  rw [Q1.out] at HC1
  simp only at HC1
  go_wp2_with fail
  refine HC1.mono ?_
  rintro e w2 ⟨u1, rfl, H2, g2, s1, n1⟩
  have gr2 := grown_trans gr1 g2
  have BX2 := blk_grown BX1 g2 (fun e => by have := Option.some.inj e; omega)
  have hS2 := Nat.le_trans hS1 g2.size
  have s1 := sls_mono hS1 s1
  clear n1
  obtain ⟨p1, d1, e1, _⟩ := id s1
  subst e1
  clear HC1 gr1 BX1 H1 g2 Q1
  have HC2 := rtext_any R v1 P r1 w0 w2 H2
  rw [Q2.out] at HC2
  simp only at HC2
  go_wp2_with fail
  refine HC2.mono ?_
  rintro e w3 ⟨rfl, H3, g3, s2⟩
  have gr3 := grown_trans gr2 g3
  have BX3 := blk_grown BX2 g3 (fun e => by have := Option.some.inj e; omega)
  have hS3 := Nat.le_trans hS2 g3.size
  have s1 := Sl.later strE_stable s1 (young_keep g3 (fun k e => by cases e; omega))
  clear HC2 gr2 BX2 H2 g3 Q2
  have HC3 := rtruth_any R v1 P r2 w0 w3 H3
  rw [Q3.out] at HC3
  simp only at HC3
  go_wp2_with fail
  refine HC3.mono ?_
  rintro e w4 ⟨rfl, H4, g4⟩
  have gr4 := grown_trans gr3 g4
  have BX4 := blk_grown BX3 g4 (fun e => by have := Option.some.inj e; omega)
  have hS4 := Nat.le_trans hS3 g4.size
  have s1 := Sl.later strE_stable s1 (young_keep g4 (fun k e => by cases e; omega))
  clear HC3 gr3 BX3 H3 g4 Q3
  have HC4 := rtruth_any R v1 P r3 w0 w4 H4
  rw [Q4.out] at HC4
  simp only at HC4
  go_wp2_with fail
  refine HC4.mono ?_
  rintro e w5 ⟨rfl, H5, g5⟩
  have gr5 := grown_trans gr4 g5
  have BX5 := blk_grown BX4 g5 (fun e => by have := Option.some.inj e; omega)
  have hS5 := Nat.le_trans hS4 g5.size
  have s1 := Sl.later strE_stable s1 (young_keep g5 (fun k e => by cases e; omega))
  clear HC4 gr4 BX4 H4 g5 Q4
  have HC5 := rnum_any R v1 P r4 w0 w5 H5
  rw [Q5.out] at HC5
  simp only at HC5
  go_wp2_with fail
  refine HC5.mono ?_
  rintro e w6 ⟨rfl, H6, g6⟩
  have gr6 := grown_trans gr5 g6
  have BX6 := blk_grown BX5 g6 (fun e => by have := Option.some.inj e; omega)
  have hS6 := Nat.le_trans hS5 g6.size
  have s1 := Sl.later strE_stable s1 (young_keep g6 (fun k e => by cases e; omega))
  clear HC5 gr5 BX5 H5 g6 Q5
  have HC6 := rnum_any R v1 P r5 w0 w6 H6
  rw [Q6.out] at HC6
  simp only at HC6
  go_wp2_with fail
  refine HC6.mono ?_
  rintro e w7 ⟨rfl, H7, g7⟩
  have gr7 := grown_trans gr6 g7
  have BX7 := blk_grown BX6 g7 (fun e => by have := Option.some.inj e; omega)
  have hS7 := Nat.le_trans hS6 g7.size
  have s1 := Sl.later strE_stable s1 (young_keep g7 (fun k e => by cases e; omega))
  clear HC6 gr6 BX6 H6 g7 Q6
  have HC7 := rli_any R v1 P r6 w0 w7 H7
  rw [Q7.out] at HC7
  simp only at HC7
  go_wp2_with fail
  refine HC7.mono ?_
  rintro e w8 ⟨u7, rfl, H8, g8, s7, n7⟩
  have gr8 := grown_trans gr7 g8
  have BX8 := blk_grown BX7 g8 (fun e => by have := Option.some.inj e; omega)
  have hS8 := Nat.le_trans hS7 g8.size
  have s1 := Sl.later strE_stable s1 (young_keep g8 (fun k e => by cases e; omega))
  have s7 := sli_mono hS7 s7
  have n7 := (New.mono hS7 n7 (by decide)).low (base := w0.heap.size) (by have := hS7; omega)
  obtain ⟨p7, d7, e7, _⟩ := id s7
  subst e7
  clear HC7 gr7 BX7 H7 g8 Q7
  have HC8 := rlx_any R v1 P r7 w0 w8 H8
  rw [Q8.out] at HC8
  simp only at HC8
  go_wp2_with fail
  refine HC8.mono ?_
  rintro e w9 ⟨u8, rfl, H9, g9, s8, n8⟩
  have gr9 := grown_trans gr8 g9
  have BX9 := blk_grown BX8 g9 (fun e => by have := Option.some.inj e; omega)
  have hS9 := Nat.le_trans hS8 g9.size
  have s1 := Sl.later strE_stable s1 (young_keep g9 (fun k e => by cases e; omega))
  have s7 := Sl.later insE_stable s7 (young_keep g9 (fun k e => by cases e; omega))
  have n7 := New.later n7 (young_keep g9 (fun k e => by cases e; omega))
  have s8 := slx_mono hS8 s8
  clear n8
  obtain ⟨p8, d8, e8, _⟩ := id s8
  subst e8
  clear HC8 gr8 BX8 H8 g9 Q8
  have HC9 := rlr_any R v1 P r8 w0 w9 H9
  rw [Q9.out] at HC9
  simp only at HC9
  go_wp2_with fail
  refine HC9.mono ?_
  rintro e w10 ⟨u9, rfl, H10, g10, s9, n9⟩
  have gr10 := grown_trans gr9 g10
  have BX10 := blk_grown BX9 g10 (fun e => by have := Option.some.inj e; omega)
  have hS10 := Nat.le_trans hS9 g10.size
  have s1 := Sl.later strE_stable s1 (young_keep g10 (fun k e => by cases e; omega))
  have s7 := Sl.later insE_stable s7 (young_keep g10 (fun k e => by cases e; omega))
  have n7 := New.later n7 (young_keep g10 (fun k e => by cases e; omega))
  have s8 := Sl.later mapE_stable s8 (young_keep g10 (fun k e => by cases e; omega))
  have s9 := slr_mono hS9 s9
  clear n9
  obtain ⟨p9, d9, e9, _⟩ := id s9
  subst e9
  clear HC9 gr9 BX9 H9 g10 Q9
  have x0 := blk_cell BX10 0
  have f0 := blk_free BX10 0
  have x1 := blk_cell BX10 1
  have f1 := blk_free BX10 1
  have x2 := blk_cell BX10 2
  have f2 := blk_free BX10 2
  have x3 := blk_cell BX10 3
  have f3 := blk_free BX10 3
  have x4 := blk_cell BX10 4
  have f4 := blk_free BX10 4
  have x5 := blk_cell BX10 5
  have f5 := blk_free BX10 5
  have x6 := blk_cell BX10 6
  have f6 := blk_free BX10 6
  have x7 := blk_cell BX10 7
  have f7 := blk_free BX10 7
  have x8 := blk_cell BX10 8
  have f8 := blk_free BX10 8
  have x9 := blk_cell BX10 9
  have f9 := blk_free BX10 9
  simp only [List.getElem?_toArray, List.getElem?_cons_zero, List.getElem?_cons_succ] at x0 x1 x2 x3 x4 x5 x6 x7 x8 x9
  have g9 := setCells_grown w.heap.size [.string a0, .slice p1 a1.length d1, .string a2, .bool a3, .bool a4, .int .i64 a5, .int .i64 a6, .slice p7 a7.length d7, .slice p8 a8.length d8, .slice p9 a9.length d9] 0 w10
  have BX9 := set_cells [.string a0, .slice p1 a1.length d1, .string a2, .bool a3, .bool a4, .int .i64 a5, .int .i64 a6, .slice p7 a7.length d7, .slice p8 a8.length d8, .slice p9 a9.length d9] [] [.string ⟨#[]⟩, .slice none 0 0, .string ⟨#[]⟩, .bool false, .bool false, .int .i64 0, .int .i64 0, .slice none 0 0, .slice none 0 0, .slice none 0 0] w10 w.heap.size 46 BX10 (Nat.le_refl _)
  have gr9 := grown_new gr10 g9 (Nat.le_refl _)
  have H9 := H10.kept g9 hRX hlow hs0 hlt0 gr9
  have s1 := Sl.later strE_stable s1 (young_keep g9 (fun k e => by cases e; omega))
  have s7 := Sl.later insE_stable s7 (young_keep g9 (fun k e => by cases e; omega))
  have n7 := New.later n7 (young_keep g9 (fun k e => by cases e; omega))
  have s8 := Sl.later mapE_stable s8 (young_keep g9 (fun k e => by cases e; omega))
  have s9 := Sl.later trapE_stable s9 (young_keep g9 (fun k e => by cases e; omega))
  simp only [World.setCells, List.nil_append, List.length_nil, Nat.zero_add, Nat.reduceAdd] at BX9 gr9 H9 s1 s7 n7 s8 s9
  clear BX10 H10 g9 gr10
  go_wp2_with fail
  generalize ((((((((((w10.setCell ⟨w.heap.size, 0, none⟩ (.string a0)).setCell ⟨w.heap.size, 1, none⟩ (.slice p1 a1.length d1)).setCell ⟨w.heap.size, 2, none⟩ (.string a2)).setCell ⟨w.heap.size, 3, none⟩ (.bool a3)).setCell ⟨w.heap.size, 4, none⟩ (.bool a4)).setCell ⟨w.heap.size, 5, none⟩ (.int .i64 a5)).setCell ⟨w.heap.size, 6, none⟩ (.int .i64 a6)).setCell ⟨w.heap.size, 7, none⟩ (.slice p7 a7.length d7)).setCell ⟨w.heap.size, 8, none⟩ (.slice p8 a8.length d8)).setCell ⟨w.heap.size, 9, none⟩ (.slice p9 a9.length d9)) = W9 at *
  have y0 := blk_cell BX9 0
  have y1 := blk_cell BX9 1
  have y2 := blk_cell BX9 2
  have y3 := blk_cell BX9 3
  have y4 := blk_cell BX9 4
  have y5 := blk_cell BX9 5
  have y6 := blk_cell BX9 6
  have y7 := blk_cell BX9 7
  have y8 := blk_cell BX9 8
  have y9 := blk_cell BX9 9
  simp only [List.cons_append, List.nil_append, List.getElem?_toArray, List.getElem?_cons_zero, List.getElem?_cons_succ] at y0 y1 y2 y3 y4 y5 y6 y7 y8 y9
  clear x0 f0 x1 f1 x2 f2 x3 f3 x4 f4 x5 f5 x6 f6 x7 f7 x8 f8 x9 f9
  refine bodyPost_ret (by simp [results, Tryz.results100, go_sem, y0, y1, y2, y3, y4, y5, y6, y7, y8, y9]; try rfl) rfl ?_
  exact ⟨[.string a0, .slice p1 a1.length d1, .string a2, .bool a3, .bool a4, .int .i64 a5, .int .i64 a6, .slice p7 a7.length d7, .slice p8 a8.length d8, .slice p9 a9.length d9], rfl, H9, gr9, _, _, _, _, rfl, ⟨sls_mono (Nat.le_succ _) s1, sli_mono (Nat.le_succ _) s7, slx_mono (Nat.le_succ _) s8, slr_mono (Nat.le_succ _) s9, s0, s2⟩, New.mono (Nat.le_succ _) n7 (by decide)⟩
set_option maxHeartbeats 8000000 in
theorem rlm_any (R : Nat) (v1 : Value) (P : List ByteArray) (r : List Int) (w0 w : World) (H : Rd w0 w R v1 P r) :
    Calls Tryz.prog 99 #[.pointer (some ⟨R, 0, none⟩), .func (.func 100) #[.pointer (some ⟨R, 0, none⟩)] #[]] w fun e w' => ∃ v, e = .returned v ∧ Rd w0 w' R v1 P (rL (rM P) r).2 ∧ w.grownBy w' (some R) ∧
      Sl (methN w0.heap.size) 10 (young w.heap.size w') v (rL (rM P) r).1 ∧ New (young w.heap.size w') w.heap.size 10 46 v (rL (rM P) r).1.length := by
  obtain ⟨iE, hiE, hzE0, hzE1, hzE2⟩ := info_parts infoM
  have HC := rcount_any R v1 P r w0 w H
  have hlt0 := H.lt
  have hlow := H.bel.size
  go_enter Tryz.func99, Tryz.ntmps99
  go_wp2_with fail
  refine HC.mono ?_
  rintro e w1 ⟨rfl, H1, g1⟩
  have hn := rQ_small H1.byt.2
  have HL : Hid (rL (rM P) r = rK (rM P) (rQ r).1 (rQ r).2) := rfl
  clear HC H
  generalize (rQ r).1 = n at *
  generalize (rQ r).2 = r1 at *
  have hlt1 := H1.lt
  go_wp2_with (at_make; refine wpList_make_full _ rfl _ _ 24 rfl w1.heap.size 46 iE (.agg #[.string ⟨#[]⟩, .slice none 0 0, .string ⟨#[]⟩, .bool false, .bool false, .int .i64 0, .int .i64 0, .slice none 0 0, .slice none 0 0, .slice none 0 0]) 10 Tryz.underlying24 hiE hzE0 hzE1 _ _ _ _ n rfl rfl rfl rfl (by rw [hzE2]; omega) (by unfold maxLen; omega) (Nat.le_refl _) ?_; intro w2 own2 gr2)
  have FL := Fill.new (V := (methV w0.heap.size)) (α := MethL) hlt1 own2
  have k2 := grown_below gr2
  have H2 := H1.grown k2
  have hs1 : Sl strE 1 (wipe R w1) v1 P := by obtain ⟨_, _, ⟨_, _, _, _, _, hs⟩, _⟩ := H1; exact hs
  have g2 : w1.grownBy w2 (some R) := grown_none gr2
  have hbl := H1.bel.size
  clear own2 k2 gr2 H1
  obtain ⟨g, hgg⟩ : ∃ g, g = w1.heap.size := ⟨_, rfl⟩
  have HG : Hid _ := hgg
  rw [← hgg] at FL
  have hbg : w0.heap.size ≤ g := by omega
  have hsg : w.heap.size ≤ g := by have := g1.size; omega
  rw [← hgg]
  clear hgg hbl
  go_loopw [12] (fun i wr => ∃ k : Nat, k ≤ n ∧ i = .int .i64 k ∧ Rd w0 wr R v1 P (rK (rM P) k r1).2 ∧ Fill (methV w0.heap.size) 10 46 R g wr (rK (rM P) k r1).1 (n - k) ∧ w1.grownBy wr (some R)) (fun i _ => n - (intOf i).toNat)
  case atStart => exact ⟨0, by omega, rfl, H2, FL, g2⟩
  case round =>
    clear FL H2 g2
    obtain ⟨k, hk, rfl, H, FL, g2⟩ := hrel
    by_cases hlk : k < n
    · have hKS : Hid _ := rK_succ (rM P) k r1
      have hKL : Hid _ := rK_len (rM P) k r1
      have hx0 : ∃ cs, wr.heap[g]? = some (.cells cs 46 (0, 0)) ∧ k * 10 + 10 ≤ cs.size := by
        obtain ⟨_, U, h1, h2, Z, h3, hb⟩ := FL
        refine ⟨_, hb, ?_⟩
        have := flat_len (elemM w0.heap.size) _ U _ h1 h2
        rw [rK_len] at this
        simp [this, h3]
        omega
      generalize rK (rM P) k r1 = q at *
      obtain ⟨xs, r2⟩ := q
      simp only at FL H
      have hgl := FL.lt
      have HC := rmeth_any R v1 P r2 w0 wr H
      have hps := trivial
      have hKS := hKS.out
      dsimp only at hKS
      generalize (rM P) r2 = z at HC hKS hps
      obtain ⟨z1, z2⟩ := z
      dsimp only at HC hKS hps
      have HKS : Hid _ := hKS
      clear hKS
      go_wp2_with fail
      refine HC.mono ?_
      rintro e w3 ⟨us, rfl, H3, g3, hV⟩
      obtain ⟨y1, y7, y8, y9, hus, hmv, hnw⟩ := id hV
      obtain ⟨b1, c1, e1, _⟩ := id hmv.params
      obtain ⟨b7, c7, e7, _⟩ := id hmv.code
      obtain ⟨b8, c8, e8, _⟩ := id hmv.maps
      obtain ⟨b9, c9, e9, _⟩ := id hmv.traps
      subst e1 e7 e8 e9
      simp only [methCells] at hus
      subst hus
      clear hmv hnw
      have FL3 := FL.grown (elemM w0.heap.size) g3
      obtain ⟨cs, hcs, hcz⟩ := hx0
      have hRg := FL.ne
      have hcs3 := blk_grown hcs g3 (fun e => by have := Option.some.inj e; omega)
      have hcc : ∀ j, j < 10 → ∃ u, w3.cell? ⟨g, k * 10 + j, none⟩ = some u := fun j hj => by
        rw [blk_cell hcs3, Array.getElem?_eq_getElem (by omega)]
        exact ⟨_, rfl⟩
      obtain ⟨z0, x0⟩ := hcc 0 (by decide)
      have f0 := blk_free hcs3 (k * 10 + 0)
      obtain ⟨z1, x1⟩ := hcc 1 (by decide)
      have f1 := blk_free hcs3 (k * 10 + 1)
      obtain ⟨z2, x2⟩ := hcc 2 (by decide)
      have f2 := blk_free hcs3 (k * 10 + 2)
      obtain ⟨z3, x3⟩ := hcc 3 (by decide)
      have f3 := blk_free hcs3 (k * 10 + 3)
      obtain ⟨z4, x4⟩ := hcc 4 (by decide)
      have f4 := blk_free hcs3 (k * 10 + 4)
      obtain ⟨z5, x5⟩ := hcc 5 (by decide)
      have f5 := blk_free hcs3 (k * 10 + 5)
      obtain ⟨z6, x6⟩ := hcc 6 (by decide)
      have f6 := blk_free hcs3 (k * 10 + 6)
      obtain ⟨z7, x7⟩ := hcc 7 (by decide)
      have f7 := blk_free hcs3 (k * 10 + 7)
      obtain ⟨z8, x8⟩ := hcc 8 (by decide)
      have f8 := blk_free hcs3 (k * 10 + 8)
      obtain ⟨z9, x9⟩ := hcc 9 (by decide)
      have f9 := blk_free hcs3 (k * 10 + 9)
      simp only [Nat.add_zero] at x0 f0 x1 f1 x2 f2 x3 f3 x4 f4 x5 f5 x6 f6 x7 f7 x8 f8 x9 f9
      have hz : n - k = (n - (k + 1)) + 1 := by omega
      rw [hz] at FL3
      have hxl : xs.length = k := hKL.out
      have hV' := (elemM w0.heap.size).mono (g + 1) wr.heap.size w3 _ _ (by omega) hV
      obtain ⟨FL4, g4⟩ := FL3.store (elemM w0.heap.size) hV'
      rw [hxl] at FL4 g4
      have g5 := grown_new (grown_trans g2 g3) g4 (by rw [HG.out]; exact Nat.le_refl _)
      have H5 := H3.kept g4 hRg hbg hs1 hlt1 g5
      clear hcs hcs3 HC hcc FL FL3 hV hV' H3
      simp only [World.setCells, Nat.add_assoc, Nat.reduceAdd] at FL4 H5 g5
      go_wp2_with fail
      go_roundw
      case rel => exact ⟨k + 1, by omega, by go_num, by rw [HKS.out]; exact H5, by rw [HKS.out]; exact FL4, g5⟩
      case measure => simp [intOf]; omega
    · have hkn : k = n := by omega
      have hKL : Hid _ := rK_len (rM P) k r1
      have hLL : Hid (rL (rM P) r = rK (rM P) k r1) := by show _ = _; rw [HL.out, hkn]
      rw [show n - k = 0 by omega] at FL
      have hD := FL.done (elemM w0.heap.size) hsg (by rw [hKL.out]; unfold maxLen; omega)
      rw [hKL.out, hkn] at hD
      have hlen : (rL (rM P) r).1.length = n := by rw [hLL.out, hKL.out, hkn]
      have HD : Hid _ := hD
      clear hD
      go_wp2_with fail
      go_ret
      refine ⟨_, rfl, by rw [hLL.out]; exact H, grown_trans g1 g2, ?_, ?_⟩
      · rw [hLL.out, hkn]; exact HD.out.1
      · rw [hlen]; exact HD.out.2
end Fil
end Go.Proofs.YtjblmgdjaaeedaaGreat

/- The contract of file's reader of a class. (Written by tools/gen/genread.py.) -/
namespace Go.Proofs.YtjblmgdjaaeedaaGreat
namespace Fil
open Num Kind Op4 Cls
open Go.RowKit
set_option linter.unusedVariables false
set_option linter.unusedSimpArgs false
set_option maxRecDepth 100000

/-- What the cells of a class say; its fields, methods and their instructions lie in rows of their own. -/
def clsN (base : Nat) (w : World) (us : List Value) (c : ClsL) : Prop := ∃ v3 v4 v5, us = [.string c.name, .string c.super, .bool c.iface, v3, v4, v5] ∧ Sl strE 1 w v3 c.impl ∧ Sl fieldE 3 w v4 c.fields ∧ New w base 3 40 v4 c.fields.length ∧ Sl (methN base) 10 w v5 c.methods ∧ New w base 10 46 v5 c.methods.length ∧ c.name.size ≤ maxLen ∧ c.super.size ≤ maxLen
set_option maxHeartbeats 8000000 in
theorem rclass_any (R : Nat) (v1 : Value) (P : List ByteArray) (r : List Int) (w0 w : World) (H : Rd w0 w R v1 P r) :
    Calls Tryz.prog 67 #[.pointer (some ⟨R, 0, none⟩)] w fun e w' => ∃ us, e = .returned (.agg us.toArray) ∧ Rd w0 w' R v1 P (rC P r).2 ∧ w.grownBy w' (some R) ∧ clsN w0.heap.size (young w.heap.size w') us (rC P r).1 := by
  have hlt0 := H.lt
  have hlow := H.bel.size
  have ka := alloc1 w (.cells #[.string ⟨#[]⟩, .string ⟨#[]⟩, .bool false, .slice none 0 0, .slice none 0 0, .slice none 0 0] 26)
  have hsz := alloc_size w (.cells #[.string ⟨#[]⟩, .string ⟨#[]⟩, .bool false, .slice none 0 0, .slice none 0 0, .slice none 0 0] 26)
  have BX0 := blk_new w #[.string ⟨#[]⟩, .string ⟨#[]⟩, .bool false, .slice none 0 0, .slice none 0 0, .slice none 0 0] 26
  have H0 := H.grown ka
  have hs0 : Sl strE 1 (wipe R w) v1 P := by obtain ⟨_, _, ⟨_, _, _, _, _, hs⟩, _⟩ := H; exact hs
  have gr0 : w.grownBy (w.alloc (.cells #[.string ⟨#[]⟩, .string ⟨#[]⟩, .bool false, .slice none 0 0, .slice none 0 0, .slice none 0 0] 26)) (some R) := below_grown ka
  have hRX : R < w.heap.size := hlt0
  have hS0 : w.heap.size + 1 ≤ (w.alloc (.cells #[.string ⟨#[]⟩, .string ⟨#[]⟩, .bool false, .slice none 0 0, .slice none 0 0, .slice none 0 0] 26)).heap.size := by rw [hsz]; exact Nat.le_refl _
  clear ka hsz H
  have HC0 := rtext_any R v1 P r w0 (w.alloc (.cells #[.string ⟨#[]⟩, .string ⟨#[]⟩, .bool false, .slice none 0 0, .slice none 0 0, .slice none 0 0] 26)) H0
  have E0 : Hid (rT P r = (rT P r)) := rfl
  obtain ⟨q0, hq0⟩ : ∃ q, rT P r = q := ⟨_, rfl⟩
  rw [hq0] at HC0
  obtain ⟨a0, r0⟩ := q0
  have Q0 : Hid _ := hq0
  clear hq0 E0
  obtain ⟨q1, hq1⟩ : ∃ q, rT P r0 = q := ⟨_, rfl⟩
  obtain ⟨a1, r1⟩ := q1
  have Q1 : Hid _ := hq1
  clear hq1
  obtain ⟨q2, hq2⟩ : ∃ q, rB r1 = q := ⟨_, rfl⟩
  obtain ⟨a2, r2⟩ := q2
  have Q2 : Hid _ := hq2
  clear hq2
  obtain ⟨q3, hq3⟩ : ∃ q, rL (rT P) r2 = q := ⟨_, rfl⟩
  obtain ⟨a3, r3⟩ := q3
  have Q3 : Hid _ := hq3
  clear hq3
  obtain ⟨q4, hq4⟩ : ∃ q, rL (rF P) r3 = q := ⟨_, rfl⟩
  obtain ⟨a4, r4⟩ := q4
  have Q4 : Hid _ := hq4
  clear hq4
  obtain ⟨q5, hq5⟩ : ∃ q, rL (rM P) r4 = q := ⟨_, rfl⟩
  obtain ⟨a5, r5⟩ := q5
  have Q5 : Hid _ := hq5
  clear hq5
  have HV : Hid (rC P r = (⟨a0, a1, a2, a3, a4, a5⟩, r5)) := by
    show _ = _
    unfold rC
    rw [rThen_eq Q0.out, rThen_eq Q1.out, rThen_eq Q2.out, rThen_eq Q3.out, rThen_eq Q4.out, rThen_eq Q5.out]
  rw [HV.out]
  simp only at HC0
  clear HV
  go_enter Tryz.func67, Tryz.ntmps67
  go_wp2_with fail
  refine HC0.mono ?_
  rintro e w1 ⟨rfl, H1, g1, s0⟩
  have gr1 := grown_trans gr0 g1
  have BX1 := blk_grown BX0 g1 (fun e => by have := Option.some.inj e; omega)
  have hS1 := Nat.le_trans hS0 g1.size
  clear HC0 gr0 BX0 H0 g1 Q0
  have HC1 := rtext_any R v1 P r0 w0 w1 H1
  rw [Q1.out] at HC1
  simp only at HC1
  go_wp2_with fail
  refine HC1.mono ?_
  rintro e w2 ⟨rfl, H2, g2, s1⟩
  have gr2 := grown_trans gr1 g2
  have BX2 := blk_grown BX1 g2 (fun e => by have := Option.some.inj e; omega)
  have hS2 := Nat.le_trans hS1 g2.size
  clear HC1 gr1 BX1 H1 g2 Q1
  have HC2 := rtruth_any R v1 P r1 w0 w2 H2
  rw [Q2.out] at HC2
  simp only at HC2
  go_wp2_with fail
  refine HC2.mono ?_
  rintro e w3 ⟨rfl, H3, g3⟩
  have gr3 := grown_trans gr2 g3
  have BX3 := blk_grown BX2 g3 (fun e => by have := Option.some.inj e; omega)
  have hS3 := Nat.le_trans hS2 g3.size
  clear HC2 gr2 BX2 H2 g3 Q2
  have HC3 := rls_any R v1 P r2 w0 w3 H3
  rw [Q3.out] at HC3
  simp only at HC3
  go_wp2_with fail
  refine HC3.mono ?_
  rintro e w4 ⟨u3, rfl, H4, g4, s3, n3⟩
  have gr4 := grown_trans gr3 g4
  have BX4 := blk_grown BX3 g4 (fun e => by have := Option.some.inj e; omega)
  have hS4 := Nat.le_trans hS3 g4.size
  have s3 := sls_mono hS3 s3
  clear n3
  obtain ⟨p3, d3, e3, _⟩ := id s3
  subst e3
  clear HC3 gr3 BX3 H3 g4 Q3
  have HC4 := rlf_any R v1 P r3 w0 w4 H4
  rw [Q4.out] at HC4
  simp only at HC4
  go_wp2_with fail
  refine HC4.mono ?_
  rintro e w5 ⟨u4, rfl, H5, g5, s4, n4⟩
  have gr5 := grown_trans gr4 g5
  have BX5 := blk_grown BX4 g5 (fun e => by have := Option.some.inj e; omega)
  have hS5 := Nat.le_trans hS4 g5.size
  have s3 := Sl.later strE_stable s3 (young_keep g5 (fun k e => by cases e; omega))
  have s4 := slf_mono hS4 s4
  have n4 := (New.mono hS4 n4 (by decide)).low (base := w0.heap.size) (by have := hS4; omega)
  obtain ⟨p4, d4, e4, _⟩ := id s4
  subst e4
  clear HC4 gr4 BX4 H4 g5 Q4
  have HC5 := rlm_any R v1 P r4 w0 w5 H5
  rw [Q5.out] at HC5
  simp only at HC5
  go_wp2_with fail
  refine HC5.mono ?_
  rintro e w6 ⟨u5, rfl, H6, g6, s5, n5⟩
  have gr6 := grown_trans gr5 g6
  have BX6 := blk_grown BX5 g6 (fun e => by have := Option.some.inj e; omega)
  have hS6 := Nat.le_trans hS5 g6.size
  have s3 := Sl.later strE_stable s3 (young_keep g6 (fun k e => by cases e; omega))
  have s4 := Sl.later fieldE_stable s4 (young_keep g6 (fun k e => by cases e; omega))
  have n4 := New.later n4 (young_keep g6 (fun k e => by cases e; omega))
  have s5 := slm_mono hS5 s5
  have n5 := (New.mono hS5 n5 (by decide)).low (base := w0.heap.size) (by have := hS5; omega)
  obtain ⟨p5, d5, e5, _⟩ := id s5
  subst e5
  clear HC5 gr5 BX5 H5 g6 Q5
  have x0 := blk_cell BX6 0
  have f0 := blk_free BX6 0
  have x1 := blk_cell BX6 1
  have f1 := blk_free BX6 1
  have x2 := blk_cell BX6 2
  have f2 := blk_free BX6 2
  have x3 := blk_cell BX6 3
  have f3 := blk_free BX6 3
  have x4 := blk_cell BX6 4
  have f4 := blk_free BX6 4
  have x5 := blk_cell BX6 5
  have f5 := blk_free BX6 5
  simp only [List.getElem?_toArray, List.getElem?_cons_zero, List.getElem?_cons_succ] at x0 x1 x2 x3 x4 x5
  have g9 := setCells_grown w.heap.size [.string a0, .string a1, .bool a2, .slice p3 a3.length d3, .slice p4 a4.length d4, .slice p5 a5.length d5] 0 w6
  have BX9 := set_cells [.string a0, .string a1, .bool a2, .slice p3 a3.length d3, .slice p4 a4.length d4, .slice p5 a5.length d5] [] [.string ⟨#[]⟩, .string ⟨#[]⟩, .bool false, .slice none 0 0, .slice none 0 0, .slice none 0 0] w6 w.heap.size 26 BX6 (Nat.le_refl _)
  have gr9 := grown_new gr6 g9 (Nat.le_refl _)
  have H9 := H6.kept g9 hRX hlow hs0 hlt0 gr9
  have s3 := Sl.later strE_stable s3 (young_keep g9 (fun k e => by cases e; omega))
  have s4 := Sl.later fieldE_stable s4 (young_keep g9 (fun k e => by cases e; omega))
  have n4 := New.later n4 (young_keep g9 (fun k e => by cases e; omega))
  have s5 := Sl.later (methN_stable _) s5 (young_keep g9 (fun k e => by cases e; omega))
  have n5 := New.later n5 (young_keep g9 (fun k e => by cases e; omega))
  simp only [World.setCells, List.nil_append, List.length_nil, Nat.zero_add, Nat.reduceAdd] at BX9 gr9 H9 s3 s4 n4 s5 n5
  clear BX6 H6 g9 gr6
  go_wp2_with fail
  generalize ((((((w6.setCell ⟨w.heap.size, 0, none⟩ (.string a0)).setCell ⟨w.heap.size, 1, none⟩ (.string a1)).setCell ⟨w.heap.size, 2, none⟩ (.bool a2)).setCell ⟨w.heap.size, 3, none⟩ (.slice p3 a3.length d3)).setCell ⟨w.heap.size, 4, none⟩ (.slice p4 a4.length d4)).setCell ⟨w.heap.size, 5, none⟩ (.slice p5 a5.length d5)) = W9 at *
  have y0 := blk_cell BX9 0
  have y1 := blk_cell BX9 1
  have y2 := blk_cell BX9 2
  have y3 := blk_cell BX9 3
  have y4 := blk_cell BX9 4
  have y5 := blk_cell BX9 5
  simp only [List.cons_append, List.nil_append, List.getElem?_toArray, List.getElem?_cons_zero, List.getElem?_cons_succ] at y0 y1 y2 y3 y4 y5
  clear x0 f0 x1 f1 x2 f2 x3 f3 x4 f4 x5 f5
  refine bodyPost_ret (by simp [results, Tryz.results67, go_sem, y0, y1, y2, y3, y4, y5]; try rfl) rfl ?_
  exact ⟨[.string a0, .string a1, .bool a2, .slice p3 a3.length d3, .slice p4 a4.length d4, .slice p5 a5.length d5], rfl, H9, gr9, _, _, _, rfl, sls_mono (Nat.le_succ _) s3, slf_mono (Nat.le_succ _) s4, New.mono (Nat.le_succ _) n4 (by decide), slm_mono (Nat.le_succ _) s5, New.mono (Nat.le_succ _) n5 (by decide), s0, s1⟩
end Fil
end Go.Proofs.YtjblmgdjaaeedaaGreat
