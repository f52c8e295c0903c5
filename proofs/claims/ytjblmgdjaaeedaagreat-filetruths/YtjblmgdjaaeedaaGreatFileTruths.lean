/- FileTruths: fields that are static, and those that are not, take as many bytes, and not the same: for every class, no condition. (Written by tools/gen/gentru.py.) -/
import Derived.Test.YtjblmgdjaaeedaaGreatFilTells
import Derived.Test.YtjblmgdjaaeedaaGreatFilTru
import Derived.Test.YtjblmgdjaaeedaaGreatFilOpen
import Derived.Test.YtjblmgdjaaeedaaGreatRows
import Derived.Test.YtjblmgdjaaeedaaGreatChecked
import Derived.WalkKit
import Derived.ProofKit
import Derived.OpenShut
import Derived.ShutString
import Derived.ChangeOld
import Derived.Below
import Derived.Deep.RegionHeld
namespace Go.Proofs.YtjblmgdjaaeedaaGreat
namespace FileTruths
open Num Kind Op4 Cls Fil
open Go.ChangeShapes Go.WideShapes Go.ChangeAt Go.RowKit
open Go.ChangeMaps (open_string shut_string)
set_option linter.unusedVariables false
set_option linter.unusedSimpArgs false
set_option maxRecDepth 100000

theorem own_put {w : World} {base e size n g cap : Nat} {xs : List Value} (h : w.ownsRow base e size (.slice (some ⟨g, 0, none⟩) n cap) n xs) (j : Nat) (u : Value) : (w.setCell ⟨g, j, none⟩ u).ownsRow base e size (.slice (some ⟨g, 0, none⟩) n cap) n (xs.set j u) := by
  obtain ⟨h1, h2⟩ := h
  refine ⟨by rw [List.length_set]; exact h1, ?_⟩
  rcases h2 with ⟨e, _⟩ | ⟨g', cap', cur, e, hb, hg, hc, hm, hs, ht⟩
  · cases e
  · have e1 : g = g' := by simpa [Value.ownBlock] using congrArg Value.ownBlock e
    subst e1
    refine .inr ⟨g, cap', _, e, hb, blk_set hg j u, hc, hm, by simpa using hs, ?_⟩
    rw [Array.toList_setIfInBounds, ← ht, List.take_set]
theorem own_free {w : World} {base e size n g cap : Nat} {xs : List Value} (h : w.ownsRow base e size (.slice (some ⟨g, 0, none⟩) n cap) n xs) (j : Nat) : w.frozen? ⟨g, j, none⟩ = false := by
  rcases h.2 with ⟨e, _⟩ | ⟨g', cap', cur, e, _, hg, _⟩
  · cases e
  · have e1 : g = g' := by simpa [Value.ownBlock] using congrArg Value.ownBlock e
    subst e1
    exact blk_free hg j
theorem cell_far {w : World} {b j g i : Nat} {u v : Value} (h : w.cell? ⟨b, j, none⟩ = some v) (hne : b ≠ g) : ((w.setCell ⟨g, i, none⟩ u).drew).cell? ⟨b, j, none⟩ = some v :=
  (World.cell?_setCell_far w ⟨g, i, none⟩ ⟨b, j, none⟩ u (fun e => hne e.symm)).trans h
theorem ext_field {w : World} {base size n g cap : Nat} {xs : List Value} (h : w.ownsRow base 40 size (.slice (some ⟨g, 0, none⟩) n cap) n xs) (j : Nat) (u : Value) : Ext (msk pCF w) (msk pCF (w.setCell ⟨g, j, none⟩ u).drew) := by
  rcases h.2 with ⟨e, _⟩ | ⟨g', cap', cur, e, _, hg, _⟩
  · cases e
  · have e1 : g = g' := by simpa [Value.ownBlock] using congrArg Value.ownBlock e
    subst e1
    exact ext_set hg (by decide) j u
theorem ba_ext {a b : ByteArray} (h : a.toList = b.toList) : a = b := by
  rw [ByteArray.toList_eq, ByteArray.toList_eq] at h
  rw [← str_nums a, ← str_nums b]
  unfold nums
  rw [h]
def mid (F : List FieldL) (k : Nat) : List FieldL := (F.take k).map flipF ++ F.drop k
theorem mid_len (F : List FieldL) (k : Nat) : (mid F k).length = F.length := by
  unfold mid
  rw [List.length_append, List.length_map, List.length_take, List.length_drop]
  omega
theorem fcl_len : ∀ l : List FieldL, (l.flatMap fcl).length = l.length * 3
  | [] => rfl
  | x :: r => by
    rw [List.flatMap_cons, List.length_append, fcl_len r, List.length_cons]
    simp [fcl]
    omega
theorem mid_at (F : List FieldL) (k : Nat) (h : k < F.length) : ((mid F k).flatMap fcl)[k * 3 + 2]? = some (.bool F[k].static) := by
  unfold mid
  have hl : (((F.take k).map flipF).flatMap fcl).length = k * 3 := by rw [fcl_len, List.length_map, List.length_take]; congr 1; omega
  rw [List.flatMap_append, List.getElem?_append_right (by omega), hl, List.drop_eq_getElem_cons h, List.flatMap_cons, show k * 3 + 2 - k * 3 = 2 by omega]
  rfl
theorem mid_step (F : List FieldL) (k : Nat) (h : k < F.length) : ((mid F k).flatMap fcl).set (k * 3 + 2) (.bool (!F[k].static)) = (mid F (k + 1)).flatMap fcl := by
  unfold mid
  have hl : (((F.take k).map flipF).flatMap fcl).length = k * 3 := by rw [fcl_len, List.length_map, List.length_take]; congr 1; omega
  rw [List.flatMap_append, List.set_append_right _ _ (by omega), hl, List.drop_eq_getElem_cons h, List.flatMap_cons, show k * 3 + 2 - k * 3 = 2 by omega, List.take_add_one, List.getElem?_eq_getElem h, Option.toList_some, List.map_append, List.flatMap_append, List.flatMap_append, List.append_assoc]
  congr 1
theorem mid_end (F : List FieldL) : mid F F.length = F.map flipF := by
  unfold mid
  rw [List.take_length, List.drop_length, List.append_nil]
theorem str_eq {a b : List Int} (ha : Bytes a) (hb : Bytes b) : ((strOfNums a).toList == (strOfNums b).toList) = decide (a = b) := by
  by_cases h : a = b
  · subst h
    simp
  · rw [decide_eq_false h]
    apply beq_eq_false_iff_ne.2
    intro e
    exact h (str_inj ha hb (ba_ext e))

set_option maxHeartbeats 16000000 in
theorem walk (v3 v4 v5 : Value) (c0 : ClsL) (w : World) (hc : ClsV w v3 v4 v5 c0) :
    Calls Tryz.prog 5 #[clsVal v3 v4 v5 c0] w fun e w' => e = .returned (.bool true) ∧ Below w.heap.size w w' := by
  obtain ⟨nm, su, fa, im, fs, ms⟩ := c0
  obtain ⟨q3, d3, rfl, _⟩ := id hc.impl
  obtain ⟨q4, d4, rfl, _⟩ := id hc.fields
  obtain ⟨q5, d5, rfl, _⟩ := id hc.methods
  unfold clsVal
  simp only
  have ka := alloc1 w (.cells #[.string nm, .string su, .bool fa, .slice q3 im.length d3, .slice q4 fs.length d4, .slice q5 ms.length d5] 26)
  have BX0 := blk_new w #[.string nm, .string su, .bool fa, .slice q3 im.length d3, .slice q4 fs.length d4, .slice q5 ms.length d5] 26
  have HC : Hid _ := hc
  clear hc
  go_enter Tryz.func5, Tryz.ntmps5
  go_wp2_with fail
  refine (Fil.begun_any _).mono ?_
  rintro e w1 ⟨rfl, e1⟩
  have k1 := ka.trans (e1.mono ka.size)
  have BX := blk_on BX0 e1
  clear BX0 e1 ka
  have x0 := blk_cell BX 0
  have x1 := blk_cell BX 1
  have x2 := blk_cell BX 2
  have x3 := blk_cell BX 3
  have x4 := blk_cell BX 4
  have x5 := blk_cell BX 5
  simp only [List.getElem?_toArray, List.getElem?_cons_zero, List.getElem?_cons_succ] at x0 x1 x2 x3 x4 x5
  go_wp2_with fail
  refine (cutc_any nm su fa im fs ms q3 q4 q5 d3 d4 d5 _ (HC.out.later k1)).mono ?_
  rintro e wY ⟨u3, u4, u5, rfl, hVY, bY⟩
  unfold clsVal
  have hcc := cutC_twice ⟨nm, su, fa, im, fs, ms⟩
  generalize cutC ⟨nm, su, fa, im, fs, ms⟩ = c at *
  have HCC : Hid _ := hcc
  obtain ⟨e3, f3, rfl, _⟩ := id hVY.impl
  obtain ⟨e4, f4, rfl, _⟩ := id hVY.fields
  obtain ⟨e5, f5, rfl, _⟩ := id hVY.methods
  have HVY : Hid _ := hVY
  have kY := k1.trans (bY.mono k1.size)
  have BXY := blk_on BX bY
  clear hVY x0 x1 x2 x3 x4 x5 bY BX k1 hcc
  go_upto_region 5 with (refine wpList_store_mid rfl _ _ _ rfl w.heap.size 0 #[.string c.name, .string c.super, .bool c.iface, .slice e3 c.impl.length f3, .slice e4 c.fields.length f4, .slice e5 c.methods.length f5] rfl rfl (there_blk BXY (by simp)) info6 (by simp [Value.oneCell']) ?_)
  have BZ : (wY.setCells w.heap.size 0 #[.string c.name, .string c.super, .bool c.iface, .slice e3 c.impl.length f3, .slice e4 c.fields.length f4, .slice e5 c.methods.length f5].toList).heap[w.heap.size]? = some (.cells #[.string c.name, .string c.super, .bool c.iface, .slice e3 c.impl.length f3, .slice e4 c.fields.length f4, .slice e5 c.methods.length f5] 26 (0, 0)) := blk_sets6 BXY _ _ _ _ _ _
  have eZ : Ext (msk pC wY) _ := ext_sets (p := pC) (T := 26) (by decide) #[.string c.name, .string c.super, .bool c.iface, .slice e3 c.impl.length f3, .slice e4 c.fields.length f4, .slice e5 c.methods.length f5].toList 0 wY _ BXY
  have kZ := below_sets (Nat.le_refl w.heap.size) #[.string c.name, .string c.super, .bool c.iface, .slice e3 c.impl.length f3, .slice e4 c.fields.length f4, .slice e5 c.methods.length f5].toList 0 _ kY
  have HVZ : Hid _ := Fil.ClsV.ext (ext_id pC _) (Fil.ClsV.ext eZ HVY.out)
  generalize wY.setCells w.heap.size 0 #[.string c.name, .string c.super, .bool c.iface, .slice e3 c.impl.length f3, .slice e4 c.fields.length f4, .slice e5 c.methods.length f5].toList = wZ at *
  clear eZ BXY kY HVY
  have y0 := blk_cell BZ 0
  have y1 := blk_cell BZ 1
  have y2 := blk_cell BZ 2
  have y3 := blk_cell BZ 3
  have y4 := blk_cell BZ 4
  have y5 := blk_cell BZ 5
  simp only [List.getElem?_toArray, List.getElem?_cons_zero, List.getElem?_cons_succ] at y0 y1 y2 y3 y4 y5
  have HM := rcls_any _ _ _ _ wZ HVZ.out
  unfold clsVal at HM
  go_wp2_with fail
  refine HM.mono ?_
  rintro e w2 ⟨rfl, b2⟩
  clear HM y0 y1 y2 y3 y4 y5
  cases hmay : mayP c
  case false =>
    go_wp2_with fail
    go_ret
    exact ⟨rfl, kZ.trans (b2.mono kZ.size)⟩
  case true =>
  have B2 := blk_on BZ b2
  have HV2 : Hid _ := HVZ.out.later b2
  have k2 := kZ.trans (b2.mono kZ.size)
  have y0 := blk_cell B2 0
  have y1 := blk_cell B2 1
  have y2 := blk_cell B2 2
  have y3 := blk_cell B2 3
  have y4 := blk_cell B2 4
  have y5 := blk_cell B2 5
  simp only [List.getElem?_toArray, List.getElem?_cons_zero, List.getElem?_cons_succ] at y0 y1 y2 y3 y4 y5
  have HCU := cutc_own c.name c.super c.iface c.impl c.fields c.methods e3 e4 e5 f3 f4 f5 w2 HV2.out
  rw [show cutC ⟨c.name, c.super, c.iface, c.impl, c.fields, c.methods⟩ = c from HCC.out] at HCU
  unfold clsVal at HCU
  clear BZ HVZ b2 kZ
  go_wp2_with fail
  refine HCU.mono ?_
  rintro e w3 ⟨v3, v4, v5, rfl, hCV, b3⟩
  clear HCU y0 y1 y2 y3 y4 y5
  obtain ⟨o3, p3, rfl, _⟩ := id hCV.impl
  obtain ⟨o4, p4, rfl⟩ := own_sl hCV.fields
  obtain ⟨o5, p5, rfl, _⟩ := id hCV.methods
  have kd := alloc1 w3 (.cells #[.string c.name, .string c.super, .bool c.iface, .slice o3 c.impl.length p3, .slice o4 c.fields.length p4, .slice o5 c.methods.length p5] 26)
  have BD := blk_new w3 #[.string c.name, .string c.super, .bool c.iface, .slice o3 c.impl.length p3, .slice o4 c.fields.length p4, .slice o5 c.methods.length p5] 26
  have b4 := b3.trans (kd.mono b3.size)
  have own := own_later hCV.fields kd
  have HIM : Hid _ := And.intro (sls_ext (ext_below kd) hCV.impl) (Sl.ext (methE_ext (ext_below kd)) (ext_below (p := pCF) kd).1 hCV.methods)
  have HSF : Hid _ := And.intro hCV.s0 (And.intro hCV.s1 hCV.sf)
  have hmF : c.fields.length ≤ 9223372036854775807 := by obtain ⟨_, _, e, h1, h2, _⟩ := HV2.out.fields; (try simp only at h1); unfold maxLen at h2; omega
  have hD : w2.heap.size ≤ w3.heap.size := b3.size
  clear hCV
  go_upto_region 8 with fail
  generalize w3.alloc (.cells #[.string c.name, .string c.super, .bool c.iface, .slice o3 c.impl.length p3, .slice o4 c.fields.length p4, .slice o5 c.methods.length p5] 26) = w4 at *
  generalize w3.heap.size = D at *
  clear kd b3
  go_wp2_with fail
  go_loopw [5] (fun i wr => ∃ k : Nat, k ≤ c.fields.length ∧ i = .int .i64 k ∧ wr.heap[D]? = some (.cells #[.string c.name, .string c.super, .bool c.iface, .slice o3 c.impl.length p3, .slice o4 c.fields.length p4, .slice o5 c.methods.length p5] 26 (0, 0)) ∧ wr.ownsRow w2.heap.size 40 3 (.slice o4 c.fields.length p4) c.fields.length ((mid c.fields k).flatMap fcl) ∧ Ext (msk pCF w4) (msk pCF wr) ∧ Below w2.heap.size w2 wr) (fun i _ => c.fields.length - (intOf i).toNat)
  case atStart => exact ⟨0, by omega, rfl, BD, own, Ext.refl _, b4⟩
  case round =>
    clear BD own b4
    obtain ⟨k, hk, rfl, BD, own, ex, hbel⟩ := hrel
    have z4 := blk_cell BD 4
    simp only [List.getElem?_toArray, List.getElem?_cons_zero, List.getElem?_cons_succ] at z4
    by_cases hlk : k < c.fields.length
    case pos =>
      obtain ⟨gF, capF, eF, hg1, hg2⟩ := own.form (by omega)
      simp only [Value.slice.injEq, true_and] at eF
      obtain ⟨rfl, rfl⟩ := eF
      have zc := own.cells (g := gF) rfl _ _ (mid_at c.fields k hlk)
      rw [Addr.add_lit, Nat.zero_add] at zc
      have zf := own_free own (k * 3 + 2)
      have own2 := own_put own (k * 3 + 2) (.bool (!c.fields[k].static))
      rw [mid_step c.fields k hlk] at own2
      have hDF : D ≠ gF := fun e => own_ne_blk own BD (by decide) (by rw [e]; rfl)
      generalize c.fields[k].static = q at *
      go_upto_region 11 with fail
      have kr : Below wr.heap.size wr wr.drew := (Below.refl _ _).drew
      have kk := hbel.trans (kr.mono hbel.size)
      refine wp_region_held_drew (S := fun W' => W'.cell? ⟨D, 4, none⟩ = some (.slice (some ⟨gF, 0, none⟩) c.fields.length p4)) (by kernel_rfl) (cellOn z4 kr) (fun hHeld => ?_)
      refine wpAnyH_take (i := 0) (oi := ⟨some 25, _, _, _, _, _⟩) (v := ?_) rfl (by kernel_rfl) (by kernel_rfl) (by kernel_rfl) (fun _ _ _ h => h) (Or.inl ⟨by kernel_rfl, fun Wx hSw => ?_⟩) (by assumption) ?_
      rotate_left
      · ((try dsimp only at hSw); go_simp; try with_reducible rfl)
      simp only [Act.put, List.setIfInBounds_toArray, List.set_cons_zero, List.set_cons_succ]
      refine wpAnyH_take (i := 1) (oi := ⟨some 26, _, _, _, _, _⟩) (v := ?_) rfl (by kernel_rfl) (by kernel_rfl) (by kernel_rfl) (fun _ _ _ h => h) (Or.inl ⟨by kernel_rfl, fun Wx hSw => ?_⟩) (by assumption) ?_
      rotate_left
      · ((try dsimp only at hSw); go_simp; try with_reducible rfl)
      simp only [Act.put, List.setIfInBounds_toArray, List.set_cons_zero, List.set_cons_succ]
      refine wpAnyH_take (i := 2) (oi := ⟨some 27, _, _, _, _, _⟩) (v := ?_) rfl (by kernel_rfl) (by kernel_rfl) (by kernel_rfl) (fun _ _ _ h => h) (Or.inl ⟨by kernel_rfl, fun Wx hSw => ?_⟩) (by assumption) ?_
      rotate_left
      · ((try dsimp only at hSw); go_simp; try with_reducible rfl)
      simp only [Act.put, List.setIfInBounds_toArray, List.set_cons_zero, List.set_cons_succ]
      refine wpAnyH_take (i := 3) (oi := ⟨some 28, _, _, _, _, _⟩) (v := ?_) rfl (by kernel_rfl) (by kernel_rfl) (by kernel_rfl) (fun _ _ _ h => h) (Or.inl ⟨by kernel_rfl, fun Wx hSw => ?_⟩) (by assumption) ?_
      rotate_left
      · ((try dsimp only at hSw); go_simp; try with_reducible rfl)
      simp only [Act.put, List.setIfInBounds_toArray, List.set_cons_zero, List.set_cons_succ]
      refine wpAnyH_take (i := 4) (oi := ⟨some 29, _, _, _, _, _⟩) (v := ?_) rfl (by kernel_rfl) (by kernel_rfl) (by kernel_rfl) (fun _ _ _ h => h) (Or.inl ⟨by kernel_rfl, fun Wx hSw => ?_⟩) (by assumption) ?_
      rotate_left
      · ((try dsimp only at hSw); go_simp; try with_reducible rfl)
      simp only [Act.put, List.setIfInBounds_toArray, List.set_cons_zero, List.set_cons_succ]
      refine wpAnyH_take (i := 5) (oi := ⟨some 30, _, _, _, _, _⟩) (v := ?_) rfl (by kernel_rfl) (by kernel_rfl) (by kernel_rfl) (fun _ _ _ h => h) (Or.inl ⟨by kernel_rfl, fun Wx hSw => ?_⟩) (by assumption) ?_
      rotate_left
      · ((try dsimp only at hSw); go_simp; try with_reducible rfl)
      simp only [Act.put, List.setIfInBounds_toArray, List.set_cons_zero, List.set_cons_succ]
      refine wpAnyH_take (i := 6) (oi := ⟨some 31, _, _, _, _, _⟩) (v := ?_) rfl (by kernel_rfl) (by kernel_rfl) (by kernel_rfl) (fun _ _ _ h => h) (Or.inl ⟨by kernel_rfl, fun Wx hSw => ?_⟩) (by assumption) ?_
      rotate_left
      · ((try dsimp only at hSw); go_simp; try with_reducible rfl)
      simp only [Act.put, List.setIfInBounds_toArray, List.set_cons_zero, List.set_cons_succ]
      refine wpAnyH_take (i := 7) (oi := ⟨some 32, _, _, _, _, _⟩) (v := ?_) rfl (by kernel_rfl) (by kernel_rfl) (by kernel_rfl) (fun _ _ _ h => h) (Or.inl ⟨by kernel_rfl, fun Wx hSw => ?_⟩) (by assumption) ?_
      rotate_left
      · ((try dsimp only at hSw); go_simp; try with_reducible rfl)
      simp only [Act.put, List.setIfInBounds_toArray, List.set_cons_zero, List.set_cons_succ]
      refine wpAnyH_ready (rs := [8]) (by kernel_rfl) (by simp) ?_
      refine AllReadyH.cons (o := ⟨some 33, _, _, _, _, _⟩) rfl (fun K hK => ?_) AllReadyH.nil
      go_simp
      refine hK.out _ _ (by assumption) (fun hHeld => ?_)
      clear hK K
      refine wpAnyH_take (i := 9) (oi := ⟨some 34, _, _, _, _, _⟩) (v := ?_) rfl (by kernel_rfl) (by kernel_rfl) (by kernel_rfl) (fun _ _ _ h => h) (Or.inl ⟨by kernel_rfl, fun Wx hSw => ?_⟩) (by assumption) ?_
      rotate_left
      · ((try dsimp only at hSw); go_simp; try with_reducible rfl)
      simp only [Act.put, List.setIfInBounds_toArray, List.set_cons_zero, List.set_cons_succ]
      refine wpAnyH_take (i := 10) (oi := ⟨some 35, _, _, _, _, _⟩) (v := ?_) rfl (by kernel_rfl) (by kernel_rfl) (by kernel_rfl) (fun _ _ _ h => h) (Or.inl ⟨by kernel_rfl, fun Wx hSw => ?_⟩) (by assumption) ?_
      rotate_left
      · ((try dsimp only at hSw); go_simp; try with_reducible rfl)
      simp only [Act.put, List.setIfInBounds_toArray, List.set_cons_zero, List.set_cons_succ]
      refine wpAnyH_take (i := 11) (oi := ⟨some 36, _, _, _, _, _⟩) (v := ?_) rfl (by kernel_rfl) (by kernel_rfl) (by kernel_rfl) (fun _ _ _ h => h) (Or.inl ⟨by kernel_rfl, fun Wx hSw => ?_⟩) (by assumption) ?_
      rotate_left
      · ((try dsimp only at hSw); go_simp; try with_reducible rfl)
      simp only [Act.put, List.setIfInBounds_toArray, List.set_cons_zero, List.set_cons_succ]
      refine wpAnyH_ready (rs := [12]) (by kernel_rfl) (by simp) ?_
      refine AllReadyH.cons (o := ⟨none, _, _, _, _, _⟩) rfl (fun K hK => ?_) AllReadyH.nil
      go_simp
      refine hK.out _ _ (cell_far z4 hDF) (fun hHeld => ?_)
      clear hK K
      refine wpAnyH_done (by kernel_rfl) ?_ _
      clear zc zf z4
      have kS := (hbel.setCell (p := ⟨gF, k * 3 + 2, none⟩) hg1 (.bool (!q))).drew
      have BD2 : ((wr.setCell ⟨gF, k * 3 + 2, none⟩ (.bool (!q))).drew).heap[D]? = some (.cells #[.string c.name, .string c.super, .bool c.iface, .slice o3 c.impl.length p3, .slice (some ⟨gF, 0, none⟩) c.fields.length p4, .slice o5 c.methods.length p5] 26 (0, 0)) := (Below.heap_setCell wr ⟨gF, k * 3 + 2, none⟩ (.bool (!q)) D hDF).trans BD
      have ex2 : Ext (msk pCF w4) (msk pCF (wr.setCell ⟨gF, k * 3 + 2, none⟩ (.bool (!q))).drew) := ex.trans (ext_field own _ _)
      have own3 : ((wr.setCell ⟨gF, k * 3 + 2, none⟩ (.bool (!q))).drew).ownsRow _ _ _ _ _ _ := own2
      go_wp2_with fail
      go_roundw
      case rel => exact ⟨k + 1, by omega, by go_num, BD2, own3, ex2, kS⟩
      case measure => simp [intOf]; omega
    case neg =>
      obtain rfl : k = c.fields.length := by omega
      rw [mid_end] at own
      have hF := sl_fields (own_msk (p := pC) own (by decide)) (by simp) (fun x hx => by obtain ⟨y, hy, rfl⟩ := List.mem_map.1 hx; exact HSF.out.2.2 y hy)
      have HVD : Hid (ClsV wr (.slice o3 c.impl.length p3) (.slice o4 c.fields.length p4) (.slice o5 c.methods.length p5) (flipC c)) := ⟨sls_ext (ex.trans (ext_id _ _)) HIM.out.1, Sl.ext (fieldE_ext (ext_id _ _)) (ext_id pC _).1 hF, Sl.ext (methE_ext (ex.trans (ext_id _ _))) (ex.trans (ext_id _ _)).1 HIM.out.2, HSF.out.1, HSF.out.2.1⟩
      clear own hF
      go_upto_region 12 with fail
      clear z4
      have kr : Below wr.heap.size wr wr.drew := (Below.refl _ _).drew
      have BCr := blk_on B2 hbel
      have x0 := blk_cell BD 0
      have x1 := blk_cell BD 1
      have x2 := blk_cell BD 2
      have x3 := blk_cell BD 3
      have x4 := blk_cell BD 4
      have x5 := blk_cell BD 5
      have y0 := blk_cell BCr 0
      have y1 := blk_cell BCr 1
      have y2 := blk_cell BCr 2
      have y3 := blk_cell BCr 3
      have y4 := blk_cell BCr 4
      have y5 := blk_cell BCr 5
      simp only [List.getElem?_toArray, List.getElem?_cons_zero, List.getElem?_cons_succ] at x0 y0 x1 y1 x2 y2 x3 y3 x4 y4 x5 y5
      have HVC : Hid _ := HV2.out.later hbel
      have kk := kr
      have HE1 : ∀ W, Below wr.heap.size wr W → Calls Tryz.prog 10 #[.agg #[.string c.name, .string c.super, .bool c.iface, .slice e3 c.impl.length f3, .slice e4 c.fields.length f4, .slice e5 c.methods.length f5]] W fun e w' => ∃ v, e = .returned v ∧ w'.ownsRow W.heap.size 5 1 v (encodeL c).length (cellsOf (encodeL c)) ∧ (encodeL c = [] → v = .slice none 0 0) ∧ Below W.heap.size W w' := fun W b => encode_any _ _ _ _ W (HVC.out.later b)
      have HE2 : ∀ W, Below wr.heap.size wr W → Calls Tryz.prog 10 #[.agg #[.string c.name, .string c.super, .bool c.iface, .slice o3 c.impl.length p3, .slice o4 c.fields.length p4, .slice o5 c.methods.length p5]] W fun e w' => ∃ v, e = .returned v ∧ w'.ownsRow W.heap.size 5 1 v (encodeL (flipC c)).length (cellsOf (encodeL (flipC c))) ∧ (encodeL (flipC c) = [] → v = .slice none 0 0) ∧ Below W.heap.size W w' := fun W b => encode_any _ _ _ _ W (HVD.out.later b)
      refine wp_region_held_drew (S := fun W' => W'.cell? ⟨D, 0, none⟩ = some (.string c.name) ∧ W'.cell? ⟨D, 1, none⟩ = some (.string c.super) ∧ W'.cell? ⟨D, 2, none⟩ = some (.bool c.iface) ∧ W'.cell? ⟨D, 3, none⟩ = some (.slice o3 c.impl.length p3) ∧ W'.cell? ⟨D, 4, none⟩ = some (.slice o4 c.fields.length p4) ∧ W'.cell? ⟨D, 5, none⟩ = some (.slice o5 c.methods.length p5) ∧ W'.cell? ⟨w.heap.size, 0, none⟩ = some (.string c.name) ∧ W'.cell? ⟨w.heap.size, 1, none⟩ = some (.string c.super) ∧ W'.cell? ⟨w.heap.size, 2, none⟩ = some (.bool c.iface) ∧ W'.cell? ⟨w.heap.size, 3, none⟩ = some (.slice e3 c.impl.length f3) ∧ W'.cell? ⟨w.heap.size, 4, none⟩ = some (.slice e4 c.fields.length f4) ∧ W'.cell? ⟨w.heap.size, 5, none⟩ = some (.slice e5 c.methods.length f5)) (by kernel_rfl) ⟨cellOn x0 kk, cellOn x1 kk, cellOn x2 kk, cellOn x3 kk, cellOn x4 kk, cellOn x5 kk, cellOn y0 kk, cellOn y1 kk, cellOn y2 kk, cellOn y3 kk, cellOn y4 kk, cellOn y5 kk⟩ (fun hHeld => ?_)
      refine wpAnyH_take (i := 0) (oi := ⟨some 37, _, _, _, _, _⟩) (v := ?_) rfl (by kernel_rfl) (by kernel_rfl) (by kernel_rfl) (fun _ _ _ h => h) (Or.inl ⟨by kernel_rfl, fun Wx hSw => ?_⟩) (by assumption) ?_
      rotate_left
      · ((try dsimp only at hSw); go_simp; try with_reducible rfl)
      simp only [Act.put, List.setIfInBounds_toArray, List.set_cons_zero, List.set_cons_succ]
      refine wpAnyH_take (i := 2) (oi := ⟨some 39, _, _, _, _, _⟩) (v := ?_) rfl (by kernel_rfl) (by kernel_rfl) (by kernel_rfl) (fun _ _ _ h => h) (Or.inl ⟨by kernel_rfl, fun Wx hSw => ?_⟩) (by assumption) ?_
      rotate_left
      · ((try dsimp only at hSw); go_simp; try with_reducible rfl)
      simp only [Act.put, List.setIfInBounds_toArray, List.set_cons_zero, List.set_cons_succ]
      refine wpAnyH_ready (rs := [1]) (by kernel_rfl) (by simp) ?_
      refine AllReadyH.cons (o := ⟨some 38, _, _, _, _, _⟩) rfl (fun K hK => ?_) AllReadyH.nil
      go_simp
      go_wp2_with (go_at_call 10; refine (HE1 _ kk).mono ?_; rintro e wa ⟨vA, rfl, ownA, _, ba⟩; obtain ⟨aA, cA, rfl, hsA⟩ := own_shape ownA)
      have kk := kk.trans (ba.mono kk.size)
      have HSA : Hid _ := hsA
      clear hsA ownA
      refine hK.out _ _ ⟨cellOn x0 kk, cellOn x1 kk, cellOn x2 kk, cellOn x3 kk, cellOn x4 kk, cellOn x5 kk, cellOn y0 kk, cellOn y1 kk, cellOn y2 kk, cellOn y3 kk, cellOn y4 kk, cellOn y5 kk⟩ (fun hHeld => ?_)
      clear hK K
      refine wpAnyH_ready (rs := [3]) (by kernel_rfl) (by simp) ?_
      refine AllReadyH.cons (o := ⟨some 40, _, _, _, _, _⟩) rfl (fun K hK => ?_) AllReadyH.nil
      go_simp
      go_wp2_with (go_at_call 10; refine (HE2 _ kk).mono ?_; rintro e wb ⟨vB, rfl, ownB, _, bb⟩; obtain ⟨aB, cB, rfl, hsB⟩ := own_shape ownB)
      have kk := kk.trans (bb.mono kk.size)
      have HSB : Hid _ := hsB
      clear hsB ownB
      refine hK.out _ _ ⟨cellOn x0 kk, cellOn x1 kk, cellOn x2 kk, cellOn x3 kk, cellOn x4 kk, cellOn x5 kk, cellOn y0 kk, cellOn y1 kk, cellOn y2 kk, cellOn y3 kk, cellOn y4 kk, cellOn y5 kk⟩ (fun hHeld => ?_)
      clear hK K
      refine wpAnyH_take (i := 4) (oi := ⟨some 6, _, _, _, _, _⟩) (v := ?_) rfl (by kernel_rfl) (by kernel_rfl) (by kernel_rfl) (fun _ _ _ h => h) (Or.inl ⟨by kernel_rfl, fun Wx hSw => ?_⟩) (by assumption) ?_
      rotate_left
      · ((try dsimp only at hSw); go_simp; try with_reducible rfl)
      simp only [Act.put, List.setIfInBounds_toArray, List.set_cons_zero, List.set_cons_succ]
      refine wpAnyH_take (i := 5) (oi := ⟨some 7, _, _, _, _, _⟩) (v := ?_) rfl (by kernel_rfl) (by kernel_rfl) (by kernel_rfl) (fun _ _ _ h => h) (Or.inl ⟨by kernel_rfl, fun Wx hSw => ?_⟩) (by assumption) ?_
      rotate_left
      · ((try dsimp only at hSw); go_simp; try with_reducible rfl)
      simp only [Act.put, List.setIfInBounds_toArray, List.set_cons_zero, List.set_cons_succ]
      refine wpAnyH_done (by kernel_rfl) ?_ _
      have hA := (HSA.out.later bb).str
      have hB := HSB.out.str
      have hlf := enc_flip_len c
      rw [hlf] at hB ⊢
      have hmA := (HSA.out.later bb).max
      have hcA := (HSA.out.later bb).cap
      unfold maxLen at hmA
      have z4 := cellOn y4 kk
      clear x0 x1 x2 x3 x4 x5 y0 y1 y2 y3 y4 y5 HE1 HE2 hHeld
      have hq := str_eq (encodeL_bytes c) (encodeL_bytes (flipC c))
      have HQ : Hid _ := enc_flip c
      have kf := (k2.trans (hbel.mono k2.size)).trans (kk.mono (Nat.le_trans k2.size hbel.size))
      cases hb1 : decide (encodeL c = encodeL (flipC c))
      case false =>
        rw [hb1] at hq
        have h1 : ¬ (c.fields.length = 0 ∨ (encodeL c).length = 0) := fun h => by have := HQ.out.2 h; rw [decide_eq_true this] at hb1; cases hb1
        have n1 : ((c.fields.length : Int) == 0) = false := by rw [beq_eq_false_iff_ne]; omega
        have n2 : (((encodeL c).length : Int) == 0) = false := by rw [beq_eq_false_iff_ne]; omega
        generalize strOfNums (encodeL c) = X at *
        generalize strOfNums (encodeL (flipC c)) = Y at *
        generalize (encodeL c).length = L at *
        clear hlf h1 hb1
        go_wp2_with fail
        go_ret
        exact ⟨rfl, kf⟩
      case true =>
        rw [hb1] at hq
        have h1 := HQ.out.1 (of_decide_eq_true hb1)
        have n3 : (((c.fields.length : Int) == 0) || (((encodeL c).length : Int) == 0)) = true := by rcases h1 with h | h; (rw [h]; rfl); (rw [h]; exact Bool.or_true _)
        generalize strOfNums (encodeL c) = X at *
        generalize strOfNums (encodeL (flipC c)) = Y at *
        generalize (encodeL c).length = L at *
        clear hlf h1 hb1
        cases n1 : ((c.fields.length : Int) == 0)
        case false =>
          have n2 : ((L : Int) == 0) = true := by rw [n1] at n3; simpa using n3
          clear n3
          go_wp2_with fail
          go_ret
          exact ⟨rfl, kf⟩
        case true =>
          clear n3
          cases n2 : ((L : Int) == 0)
          case false =>
            go_wp2_with fail
            go_ret
            exact ⟨rfl, kf⟩
          case true =>
            go_wp2_with fail
            go_ret
            exact ⟨rfl, kf⟩
/-! ### The row -/
theorem own : ownKnob Tryz.prog.godebug = none := by kernel_rfl
theorem laidOut : laidOutB Tryz.prog = true := by kernel_rfl
set_option maxRecDepth 100000 in
theorem lifted (os : Os) (started : os.Started) (H : Type) (enc : TypeId × Value → H) :
    ReturnsInHanded {} Tryz.checked os 5 .any (Rows.fileTruthsSpec.pre6 enc Tryz.prog Tryz.f5 Rows.fileTruthsRow.domain false) (Rows.fileTruthsSpec.post enc Tryz.prog Tryz.f5 false true false false) := by
  refine returnsInHanded_of_change (C := Tryz.checked) own started (by kernel_rfl) Tryz.func5
    (ChangeSpec.witness6 (enc := enc) (C := Tryz.checked) false ⟨#[], #[.agg #[.string ByteArray.empty, .string ByteArray.empty, .bool false, .slice none 0 0, .slice none 0 0, .slice none 0 0]], []⟩ 8 (by kernel_rfl) (by kernel_rfl) (by kernel_rfl) (by kernel_rfl)) ?_
  intro W base args ds gs before hval0 hW hcnd _
  have hval : ∀ (j : Nat) t v, Tryz.f5.params[j]? = some t → args[j]? = some v → Value.okWide Tryz.prog W .any base t v := hval0
  have hW' := hW
  obtain ⟨p, q, hA0, hV, rfl, hfz, hnd⟩ := hW
  have hA : DataW.TrodAll enc Tryz.prog W 0 (fun _ => true) true Tryz.f5.params.toList args.toList ds p := hA0
  rw [Tryz.params5] at hA hval
  obtain ⟨v0, vs0, d0, ds0, p0, q0, hargs, rfl, rfl, h0, r0⟩ := trodAll_cons hA
  obtain ⟨rfl, rfl, rfl⟩ := trodAll_nil r0
  obtain rfl : args = #[v0] := by cases args; simp_all
  obtain ⟨rfl, rfl⟩ := trodVars_none hV
  have k0 := h0
  have lt0 : ∀ x ∈ p0, x.block < W.heap.size := by obtain ⟨m, hm⟩ := k0; exact DataW.trod_lt m _ _ _ hm
  obtain ⟨x0, y0, z0, c0, rfl, w0⟩ := Fil.open_cls (hval 0 26 v0 rfl rfl) h0
  clear hA0 hval0
  refine (walk x0 y0 z0 c0 W w0).mono fun e W' ⟨he, bel⟩ => ?_
  subst he
  exact ⟨_, rfl, _, _, _, [], _, [], hW', trodAll_mk1 (shut_bool Tryz.underlying4 _), (trodAll_cons_mk (Below.trod laidOut (by kernel_rfl) (of_decide_eq_true (by kernel_rfl)) k0 bel lt0) trodAll_mk0), rfl, bel.frame _, fun h => by cases h⟩

theorem over : Rows.fileTruthsRow.holds Tryz.pinned (OpenSpec.ofChange Rows.fileTruthsSpec) :=
  OpenClaim.holds_of_wide 5 Tryz.f5 rfl rfl rfl rfl rfl rfl rfl ⟨rfl, rfl, rfl, rfl, rfl⟩ rfl rfl rfl rfl rfl (by kernel_rfl) Tryz.func5 (by kernel_rfl)
    (of_decide_eq_true (by kernel_rfl)) (by unfold Func.isWrapper; first | (rw [if_pos (by decide +kernel)]; kernel_rfl) | (rw [if_neg (by decide +kernel)]; exact ⟨rfl, rfl⟩))
    (fun os started H enc _ => lifted os started H enc)

end FileTruths

theorem fileTruths_holds : Rows.FileTruthsSaid := FileTruths.over
#print axioms fileTruths_holds
end Go.Proofs.YtjblmgdjaaeedaaGreat

