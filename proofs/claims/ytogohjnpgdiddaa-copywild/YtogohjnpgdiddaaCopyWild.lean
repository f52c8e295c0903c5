/- For all objects, words and roots the law CopyWild answers true: words that name no object are as null; roots that name none are none; no condition on the input. -/
import Derived.Test.YtogohjnpgdiddaaRows
import Derived.Test.YtogohjnpgdiddaaCollWild
import Derived.Test.YtogohjnpgdiddaaCollCopyX
import Derived.WalkKit
import Derived.ProofKit
import Derived.OpenShut
import Derived.ShutString
import Derived.ChangeOld
import Derived.Below
namespace Go.Proofs.Ytogohjnpgdiddaa
namespace CopyWild
open Mem Heap Coll
open Go.ChangeShapes Go.WideShapes Go.ChangeAt Go.RowKit
open Go.ChangeMaps (open_string shut_string)
set_option linter.unusedVariables false
set_option linter.unusedSimpArgs false
set_option maxRecDepth 100000

set_option maxHeartbeats 16000000 in
theorem walk (a : Option Addr) (len cap : Nat) (L : List Nv) (wa : Option Addr) (wlen wcap : Nat) (wz : List Int) (ra : Option Addr) (rlen rcap : Nat) (rz : List Int) (w : World) (h1 : Sl obE 2 w (.slice a len cap) L) (h2 : IsRow .i32 w wa wlen wcap wz) (h3 : IsRow .i64 w ra rlen rcap rz) : Calls Try.prog 5 #[.slice a len cap, .slice wa wlen wcap, .slice ra rlen rcap] w fun e w' => e = .returned (.bool true) ∧ Below w.heap.size w w' := by
  obtain ⟨iN, hiN, hzN0, hzN1, hzN2⟩ := info_parts infoN
  obtain ⟨iA, hiA, hzA0, hzA1, hzA2⟩ := info_parts infoA
  obtain ⟨hrd, _⟩ := h3.reads rlen (Nat.le_refl _)
  obtain ⟨hwd, hwb⟩ := h2.reads wlen (Nat.le_refl _)
  generalize rz.take rlen = xs at *
  generalize wz.take wlen = ys at *
  have hxl := hrd.len
  have hxm := hrd.max
  have hxc := hrd.cap
  have hyl := hwd.len
  have hym := hwd.max
  have hyc := hwd.cap
  unfold maxLen at hxm hym
  have HRD : Hid (Reads .i64 w ra rlen rcap xs) := hrd
  have HWR : Hid (Reads .i32 w wa wlen wcap ys) := hwd
  have HWB : Hid (∀ x ∈ ys, Is32 x) := fun x hx => is32_wf (hwb x hx)
  have HL : Hid (Sl obE 2 w (.slice a len cap) L) := h1
  clear h1 h2 h3 hrd hwd hwb
  obtain ⟨o1, o2, o3⟩ := cut_ok L
  have hcl := cut_len L
  have hn20 : (cutN L).length ≤ 20 := by omega
  clear hcl
  go_enter Try.func5, Try.ntmps5
  go_wp2_with fail
  refine (Coll.begun_any _).mono ?_
  rintro e w1 ⟨rfl, b1⟩
  go_wp2_with fail
  refine (cut_any w1 _ L (Sl.later obE_stable HL.out b1)).mono ?_
  rintro e w2 ⟨v2, rfl, hcut, b2⟩
  obtain ⟨a2, c2, rfl, hsl⟩ := cut_sl' hcut
  have b12 := b1.trans (b2.mono b1.size)
  have HS : Hid (Sl obE 2 w2 (.slice a2 (cutN L).length c2) ((cutN L).map toV)) := hsl
  clear hcut hsl b2 HL
  generalize cutN L = N at *
  have HLD := laid_any w2 a2 N.length c2 N o1 o2 o3 hn20 HS.out
  go_wp2_with fail
  refine HLD.mono ?_
  rintro e w3 ⟨q, S, va, rfl, H3, own3, hap3, b3⟩
  have b13 := b12.trans (b3.mono b12.size)
  obtain ⟨ga, gc, rfl⟩ := own_sl own3
  have HS3 : Hid (Sl obE 2 w3 (.slice a2 N.length c2) (N.map toV)) := Sl.later obE_stable HS.out b3
  have HA3 : Hid (w3.ownsRow w2.heap.size 3 1 (.slice ga N.length gc) N.length ((places N N.length).map (Value.int .i64))) := own3
  have HAP3 : Hid (∀ k, (Value.slice ga N.length gc).ownBlock = some k → ¬ S k) := hap3
  have H3h : Hid (Hp w2.heap.size w3 S q 300 (laidO refsB N)) := H3
  have HS2 : Hid (∀ k, S k → w2.heap.size ≤ k ∧ k < w3.heap.size) := H3.raw.low
  have HR2 : Hid (Reads .i64 w2 ra rlen rcap xs) := HRD.out.later b12
  have HW2 : Hid (Reads .i32 w2 wa wlen wcap ys) := HWR.out.later b12
  have HB2 : Hid (Below w.heap.size w w2) := b12
  have HB23 : Hid (Below w2.heap.size w2 w3) := b3
  have HS22 : Hid (Sl obE 2 w2 (.slice a2 N.length c2) (N.map toV)) := HS.out
  clear HLD HS own3 hap3 H3 b3 b12 b1 HRD HWR b13 HS3
  go_upto_block 0 with fail
  go_cut [11] (fun wv wr => ∃ (os : List Ob) (W : List Nat), Hid (WildO N os W) ∧ Hid (∀ b ∈ W, b < N.length) ∧ Hid (Hp w2.heap.size wr S q 300 os) ∧ Hid (wr.ownsRow w3.heap.size 47 2 wv W.length (pairs W)) ∧ W.length ≤ 20 ∧ Hid (Off S w3 wr))
  case first =>
    go_wp2_with fail
    go_loopw [11, 12] (fun wv i wr => ∃ (j : Nat) (os : List Ob) (W : List Nat), i = .int .i64 j ∧ j ≤ wlen ∧ j ≤ N.length ∧ W.length ≤ j ∧ Hid (WildO N os W) ∧ Hid (∀ b ∈ W, b < j) ∧ Hid (Hp w2.heap.size wr S q 300 os) ∧ Hid (wr.ownsRow w3.heap.size 47 2 wv W.length (pairs W)) ∧ Hid (Off S w3 wr)) (fun _ i _ => N.length - (intOf i).toNat)
    case atStart => exact ⟨0, _, [], rfl, by omega, by omega, by simp, WildO.start N, (fun b hb => by simp at hb), H3h, World.ownsRow_nil _ _ _ _, Off.refl _ _⟩
    case round =>
      obtain ⟨j, os, W, rfl, hj1, hj2, hWl, HWO, HWJ, HH, HWV, HOF⟩ := hrel
      have hb23 := HB23.out.trans (HOF.out.to (B := w2.heap.size) (fun k e => (HS2.out k e).1) HB23.out.size)
      obtain ⟨sa, sc, hsv⟩ := own_sl HWV.out
      subst hsv
      by_cases hin : j < wlen ∧ j < N.length
      · obtain ⟨hin1, hin2⟩ := hin
        obtain ⟨o, hNo⟩ : ∃ o, N[j]? = some o := ⟨_, List.getElem?_eq_getElem hin2⟩
        obtain ⟨qo, hqo, hqk, hqv⟩ := HWO.out.one j o hNo
        obtain ⟨K, ws⟩ := o
        dsimp only at hqk hqv
        obtain ⟨b1, o1', e1, h1⟩ := (HW2.out.later hb23).cells (by omega)
        subst e1
        have zx := h1 j hin1
        have hxb := HWB.out (ys.getD j 0) (by rw [List.getD, List.getElem?_eq_getElem (by omega)]; exact List.getElem_mem (by omega))
        generalize ys.getD j 0 = x at *
        obtain ⟨bb, off, aw, cw, ha2, z0, z1, hxx⟩ := obs_at' (Sl.later obE_stable HS22.out hb23) j K ws hNo
        subst ha2
        have hw5 := o3 _ (List.mem_of_getElem? hNo)
        dsimp only at hw5
        have d1 : decide ((j : Int) < (wlen : Int)) = true := by rw [decide_eq_true_eq]; omega
        have d2 : decide (j < wlen) = true := by rw [decide_eq_true_eq]; omega
        have d3 : decide ((j : Int) < (N.length : Int)) = true := by rw [decide_eq_true_eq]; omega
        have d4 : decide (j < N.length) = true := by rw [decide_eq_true_eq]; omega
        have hx1 : -2147483648 ≤ x := hxb.1
        have hx2 : x ≤ 2147483647 := hxb.2
        have hbw : Hid (Below w2.heap.size w2 wr) := hb23
        clear h1 hxx z0 hb23
        have HSKIP : Hid (∀ b ∈ W, b < j + 1) := fun b hb => by have := HWJ.out b hb; omega
        by_cases hws : ws.length = 0
        · have d5 : decide ((0 : Int) < (ws.length : Int)) = false := by rw [decide_eq_false_iff_not]; omega
          have d6 : decide (0 < ws.length) = false := by rw [decide_eq_false_iff_not]; omega
          go_wp2_with fail
          go_roundw
          case rel =>
            first
            | exact ⟨j + 1, os, W, by go_num, by omega, by omega, by omega, HWO, HSKIP, HH, HWV, HOF⟩
            | ((repeat apply Exists.intro); exact ⟨⟨j + 1, os, W, by go_num, by omega, by omega, by omega, HWO, HSKIP, HH, HWV, HOF⟩, rfl⟩)
          case measure => simp [intOf]; omega
        have d5 : decide ((0 : Int) < (ws.length : Int)) = true := by rw [decide_eq_true_eq]; omega
        have d6 : decide (0 < ws.length) = true := by rw [decide_eq_true_eq]; omega
        by_cases hx0 : x = 0
        · subst hx0
          go_wp2_with fail
          go_roundw
          case rel =>
            first
            | exact ⟨j + 1, os, W, by go_num, by omega, by omega, by omega, HWO, HSKIP, HH, HWV, HOF⟩
            | ((repeat apply Exists.intro); exact ⟨⟨j + 1, os, W, by go_num, by omega, by omega, by omega, HWO, HSKIP, HH, HWV, HOF⟩, rfl⟩)
          case measure => simp [intOf]; omega
        have d7 : decide (x = 0) = false := by rw [decide_eq_false_iff_not]; exact hx0
        have d8 : (x == 0) = false := by rw [beq_eq_false_iff_ne]; exact hx0
        have HHS := has_any _ _ _ _ _ _ (x - 1) HH.out
        cases hhs : hasO os (x - 1)
        · rw [hhs] at HHS
          have hpi := put_idx' os j qo x hqo (by omega)
          rw [HWO.out.pl] at hpi
          have hrow := own_off (show World.ownsRow _ _ _ _ _ _ _ from HA3.out) HOF.out HAP3.out
          obtain ⟨g1, c1, e6, _, _, _, _⟩ := own_some hrow (by omega)
          simp only [Value.slice.injEq, true_and] at e6
          obtain ⟨rfl, rfl⟩ := e6
          have y1 := own_cell hrow j (.int .i64 (plN N j : Int)) (by rw [List.getElem?_map, places_at' N _ j hin2]; rfl)
          have HPT : Hid (Calls Try.prog 25 #[.pointer (some ⟨q, 0, none⟩), .int .i64 (plN N j : Int), .int .i64 0, .int .i32 x] wr.drew fun e w' => e = .returned (.bool true) ∧ Hp w2.heap.size w' S q 300 (os.set j ⟨qo.k, qo.v.set 0 x⟩) ∧ Off S wr.drew w') := by
            have := put_any _ _ _ _ _ _ (plN N j : Int) 0 x (HH.out.later ((Below.refl _ _).drew)) hxb
            rw [hpi.1, hpi.2] at this
            exact this.mono fun e w' h => ⟨h.1, h.2.1, h.2.2.1⟩
          have HWO2 : Hid (WildO N (os.set j ⟨qo.k, qo.v.set 0 x⟩) (W ++ [j])) := HWO.out.put j qo x hqo (by omega) HWJ.out hhs
          have HWJ2 : Hid (∀ b ∈ W ++ [j], b < j + 1) := fun b hb => by
            rcases List.mem_append.1 hb with hb | hb
            · exact HSKIP.out b hb
            · simp at hb; omega
          have HWS : Hid (∀ k, (Value.slice sa W.length sc).ownBlock = some k → w3.heap.size ≤ k) := fun k e => (World.ownsRow.lt HWV.out k e).1
          have hps := plN_le N o3 j
          have hJx := hin2
          clear hpi hrow hqo hhs hws
          generalize plN N j = P at *
          go_wp2_with fail
          refine HHS.mono ?_
          rintro e w' ⟨rfl, rfl⟩
          go_upto_region 11 with fail
          go_region_with (go_at_call 25; refine HPT.out.mono ?_; rintro e w5 ⟨rfl, H5, o5⟩)
          all_goals
            have kd : Below wr.heap.size wr wr.drew := (Below.refl _ _).drew
            have o35 : Off S w3 w5 := HOF.out.trans ((Off.below S kd).trans o5 (fun k e => .inl e)) (fun k e => .inl e)
            have HWV5 := own_off (show World.ownsRow _ _ _ _ _ _ _ from HWV.out) ((Off.below S kd).trans o5 (fun k e => .inl e)) (fun k e e' => by have := HWS.out k e; have := (HS2.out k e').2; omega)
            have ka := alloc1 w5 (.cells #[.int .i64 (j : Int), .int .i64 0] 47)
            have R6 : Hid _ := own_later HWV5 ka
            have H6 : Hid _ := H5.later ka
            have o36 : Hid (Off S w3 (w5.alloc (.cells #[.int .i64 (j : Int), .int .i64 0] 47))) := o35.trans (Off.below S ka) (fun k e => .inl e)
            have HNW : Hid (∀ jj u, ([.int .i64 (j : Int), .int .i64 0] : List Value)[jj]? = some u → (w5.alloc (.cells #[.int .i64 (j : Int), .int .i64 0] 47)).cell? ((⟨w5.heap.size, 0, none⟩ : Addr).add jj) = some u) := fun jj u hu => by
              rw [Addr.add_lit, Nat.zero_add, blk_cell (blk_new w5 _ _) jj]
              simpa using hu
            have HONE : Hid (∀ u ∈ ([.int .i64 (j : Int), .int .i64 0] : List Value), u.oneCell' = true) := by
              intro u hu
              simp at hu
              rcases hu with rfl | rfl <;> rfl
            have hB : w3.heap.size ≤ (w5.alloc (.cells #[.int .i64 (j : Int), .int .i64 0] 47)).heap.size := o36.out.size
            clear H5 o5 o35 HWV5 ka kd zx z1 y1 HPT HHS
            go_wp2_with (at_builtin; refine wpList_append_lies _ rfl (.tmp 76) (.tmp 79) 44 rfl w3.heap.size 47 iA (.agg #[.int .i64 0, .int .i64 0]) 2 16 Try.underlying44 hiA hzA0 hzA1 hzA2 rfl (by decide) (.slice sa W.length sc) W.length (pairs W) rfl R6.out ⟨w5.heap.size, 0, none⟩ 1 1 [.int .i64 (j : Int), .int .i64 0] rfl rfl HNW.out HONE.out (by decide) (by unfold maxLen; omega) (by omega) hB _ rfl ?_; intro g' cap' w9 own9 g9 hat9 hlt9)
            have o69 := Off.grown (S := fun kx => (Value.slice sa W.length sc).ownBlock = some kx) g9 (fun kx e => e)
            have HH9 : Hid (Hp w2.heap.size w9 S q 300 (os.set j ⟨qo.k, qo.v.set 0 x⟩)) := H6.out.off o69 (fun k e e' => by have := HWS.out k e'; have := (HS2.out k e).2; omega)
            have HO9 : Hid (Off S w3 w9) := o36.out.trans o69 (fun k e => .inr (HWS.out k e))
            have HWV9 : Hid (w9.ownsRow w3.heap.size 47 2 (.slice (some ⟨g', 0, none⟩) (W.length + 1) cap') (W ++ [j]).length (pairs (W ++ [j]))) := by
              show World.ownsRow _ _ _ _ _ _ _
              rw [pairs_snoc, List.length_append]
              exact own9
            have HWL9 : Hid ((W ++ [j]).length ≤ j + 1) := by
              show _ ≤ _
              rw [List.length_append]
              simp
              omega
            clear own9 g9 hat9 hlt9 o69
            go_roundw
            case rel =>
              first
              | exact ⟨j + 1, _, W ++ [j], by go_num, by omega, by omega, HWL9.out, HWO2, HWJ2, HH9, HWV9, HO9⟩
              | ((repeat apply Exists.intro); exact ⟨⟨j + 1, _, W ++ [j], by go_num, by omega, by omega, HWL9.out, HWO2, HWJ2, HH9, HWV9, HO9⟩, rfl⟩)
            case measure => simp [intOf]; omega
        · rw [hhs] at HHS
          clear hhs
          go_wp2_with fail
          refine HHS.mono ?_
          rintro e w' ⟨rfl, rfl⟩
          go_wp2_with fail
          go_roundw
          case rel =>
            first
            | exact ⟨j + 1, os, W, by go_num, by omega, by omega, by omega, HWO, HSKIP, HH, HWV, HOF⟩
            | ((repeat apply Exists.intro); exact ⟨⟨j + 1, os, W, by go_num, by omega, by omega, by omega, HWO, HSKIP, HH, HWV, HOF⟩, rfl⟩)
          case measure => simp [intOf]; omega
      · have HWN : Hid (∀ b ∈ W, b < N.length) := fun b hb => by have := HWJ.out b hb; omega
        have hw20 : W.length ≤ 20 := by omega
        have hd : (decide ((j : Int) < (wlen : Int)) = false ∧ decide (j < wlen) = false) ∨ (decide ((j : Int) < (wlen : Int)) = true ∧ decide (j < wlen) = true ∧ decide ((j : Int) < (N.length : Int)) = false ∧ decide (j < N.length) = false ∧ ¬ ((j : Int) < (N.length : Int)) ∧ ¬ (j < N.length)) := by
          simp only [decide_eq_false_iff_not, decide_eq_true_eq]
          omega
        clear hin hb23
        rcases hd with ⟨d1, d2⟩ | ⟨d1, d2, d3, d4, d5, d6⟩
        all_goals
          go_wp2_with fail
          go_meet
          case rel => exact ⟨os, W, HWO, HWN, HH, HWV, hw20, HOF⟩
  case rest =>
    obtain ⟨os, W, HWO, HWN, HH, HWV, hw20, HOF⟩ := hcut
    have hb2c := HB23.out.trans (HOF.out.to (B := w2.heap.size) (fun k e => (HS2.out k e).1) HB23.out.size)
    have bwc := HB2.out.trans (hb2c.mono HB2.out.size)
    have HRC : Hid (Reads .i64 wc ra rlen rcap xs) := HR2.out.later hb2c
    have HAC : Hid (wc.ownsRow w2.heap.size 3 1 (.slice ga N.length gc) N.length ((places N N.length).map (Value.int .i64))) := own_off (show World.ownsRow _ _ _ _ _ _ _ from HA3.out) HOF.out HAP3.out
    obtain ⟨sa, sc, hsv⟩ := own_sl HWV.out
    subst hsv
    clear hb2c HR2 HW2 HWB HS22 HS2 HB23 HB2 HA3 HAP3 H3h HOF hym hyc hyl
    obtain ⟨wv, hwv⟩ : ∃ x, x = wc := ⟨_, rfl⟩
    subst hwv
    apply_assumption
    go_upto_block 2 with fail
    go_cut [13] (fun rv wr => ∃ (rs : List Int), rs.length ≤ 6 ∧ Hid (wr.ownsRow wv.heap.size 3 1 rv rs.length (rs.map (Value.int .i64))) ∧ Hid (Below wv.heap.size wv wr))
    case first =>
      go_wp2_with fail
      go_loopw [13, 14] (fun rv i wr => ∃ (j : Nat), i = .int .i64 j ∧ j ≤ rlen ∧ j ≤ 6 ∧ Hid (wr.ownsRow wv.heap.size 3 1 rv j ((xs.take j).map (Value.int .i64))) ∧ Below wv.heap.size wv wr) (fun _ i _ => 6 - (intOf i).toNat)
      case atStart => exact ⟨0, rfl, by omega, by omega, World.ownsRow_nil _ _ _ _, Below.refl _ _⟩
      case round =>
        obtain ⟨j, rfl, hj1, hj2, HRV, bq⟩ := hrel
        obtain ⟨ta, tc, htv⟩ := own_sl HRV.out
        subst htv
        by_cases hin : j < rlen ∧ j < 6
        · obtain ⟨hin1, hin2⟩ := hin
          obtain ⟨b1, o1', e1, h1⟩ := (HRC.out.later bq).cells (by omega)
          subst e1
          have zx := h1 j hin1
          have htk : Hid (xs.take (j + 1) = xs.take j ++ [xs.getD j 0]) := by
            show _ = _
            rw [take_snoc xs j (by omega)]
            simp [List.getD, show j < xs.length by omega]
          generalize xs.getD j 0 = x at *
          have ka := alloc1 wr (.cells #[.int .i64 x] 3)
          have R6 : Hid _ := own_later (show World.ownsRow _ _ _ _ _ _ _ from HRV.out) ka
          have HNW : Hid _ := news_one wr (.int .i64 x) 3
          have HONE : Hid (∀ u ∈ ([.int .i64 x] : List Value), u.oneCell' = true) := by intro u hu; rw [List.mem_singleton.1 hu]; rfl
          have kk := bq.trans (ka.mono bq.size)
          have hB := kk.size
          have d1 : decide ((j : Int) < (rlen : Int)) = true := by rw [decide_eq_true_eq]; omega
          have d2 : decide (j < rlen) = true := by rw [decide_eq_true_eq]; omega
          have d3 : decide ((j : Int) < 6) = true := by rw [decide_eq_true_eq]; omega
          have d4 : decide (j < 6) = true := by rw [decide_eq_true_eq]; omega
          clear h1 ka
          go_wp2_with (at_builtin; refine wpList_append_lies _ rfl (.tmp 91) (.tmp 96) 23 rfl wv.heap.size 3 iN (.int .i64 0) 1 8 Try.underlying23 hiN hzN0 hzN1 hzN2 rfl (by decide) (.slice ta j tc) j ((xs.take j).map (Value.int .i64)) rfl R6.out ⟨wr.heap.size, 0, none⟩ 1 1 [.int .i64 x] rfl rfl HNW.out HONE.out (by decide) (by unfold maxLen; omega) (by omega) hB _ rfl ?_; intro g' cap' w9 own9 g9 hat9 hlt9)
          have kk9 := kk.grown g9 hB (fun kx e => (World.ownsRow.lt R6.out kx e).1)
          have HRV9 : Hid (w9.ownsRow wv.heap.size 3 1 (.slice (some ⟨g', 0, none⟩) (j + 1) cap') (j + 1) ((xs.take (j + 1)).map (Value.int .i64))) := by
            show World.ownsRow _ _ _ _ _ _ _
            rw [htk.out, List.map_append]
            exact own9
          clear own9 g9 hat9 hlt9
          go_roundw
          case rel =>
            first
            | exact ⟨j + 1, by go_num, by omega, by omega, HRV9, kk9⟩
            | ((repeat apply Exists.intro); exact ⟨⟨j + 1, by go_num, by omega, by omega, HRV9, kk9⟩, rfl⟩)
          case measure => simp [intOf]; omega
        · have hd : (decide ((j : Int) < (rlen : Int)) = false ∧ decide (j < rlen) = false) ∨ (decide ((j : Int) < (rlen : Int)) = true ∧ decide (j < rlen) = true ∧ decide ((j : Int) < 6) = false ∧ decide (j < 6) = false ∧ ¬ ((j : Int) < 6) ∧ ¬ (j < 6)) := by
            simp only [decide_eq_false_iff_not, decide_eq_true_eq]
            omega
          have hlt6 : Hid ((xs.take j).length = j) := by
            show _ = _
            rw [List.length_take]
            omega
          have HRV6 : Hid (wr.ownsRow wv.heap.size 3 1 (.slice ta j tc) (xs.take j).length ((xs.take j).map (Value.int .i64))) := by
            show World.ownsRow _ _ _ _ _ _ _
            rw [hlt6.out]
            exact HRV.out
          have hbq : Hid (Below wv.heap.size wv wr) := bq
          clear hin
          rcases hd with ⟨d1, d2⟩ | ⟨d1, d2, d3, d4, d5, d6⟩
          all_goals
            go_wp2_with fail
            go_meet
            case rel => exact ⟨xs.take j, by rw [hlt6.out]; omega, HRV6, hbq⟩
    case rest =>
      obtain ⟨rs, hrs6, HRV, HBQ⟩ := hcut
      have hbq := HBQ.out
      have HHC : Hid (Hp w2.heap.size wc S q 300 os) := HH.out.later hbq
      have HWC : Hid (wc.ownsRow w3.heap.size 47 2 (.slice sa W.length sc) W.length (pairs W)) := own_later (show World.ownsRow _ _ _ _ _ _ _ from HWV.out) hbq
      have HAC2 : Hid (wc.ownsRow w2.heap.size 3 1 (.slice ga N.length gc) N.length ((places N N.length).map (Value.int .i64))) := own_later (show World.ownsRow _ _ _ _ _ _ _ from HAC.out) hbq
      have b0c := bwc.trans (hbq.mono bwc.size)
      obtain ⟨ta, tc, htv⟩ := own_sl HRV.out
      subst htv
      have hR1 : Reads .i64 wc ta rs.length tc rs := reads_of HRV.out
      have HATR : Hid (Reads .i64 wc ga N.length gc (places N N.length)) := reads_of HAC2.out
      clear HH HWV HAC HBQ hbq HRC
      apply_assumption
      go_wp2_with (first | (at_builtin; refine wpList_reads _ rfl (.const (.slice none 0 0)) (.tmp 100) 23 rfl 3 iN (.int .i64 0) .i64 8 Try.underlying23 hiN hzN0 hzN1 hzN2 rfl rfl ta rs.length tc rs rfl hR1 (by omega) (by omega) ?_; intro v5 w5 own5 b5; obtain ⟨va5, vc5, rfl⟩ := own_sl own5; have HAT5 := HATR.out.later b5; have hB5 := b5.size) | (at_builtin; refine wpList_more _ rfl (.tmp 101) (.tmp 102) 23 rfl 3 iN (.int .i64 0) .i64 8 Try.underlying23 hiN hzN0 hzN1 hzN2 rfl wc.heap.size _ rs.length rs rfl own5 hB5 ga N.length gc (places N N.length) rfl HAT5 (by omega) (by omega) ?_; intro v6 w6 own6 g6; obtain ⟨va6, vc6, rfl⟩ := own_sl own6))
      have b56 : Below wc.heap.size wc w6 := b5.grown g6 hB5 (fun kx e => (World.ownsRow.lt own5 kx e).1)
      have HH6 : Hid (Hp w2.heap.size w6 S q 300 os) := HHC.out.later b56
      have HW6 : Hid (w6.ownsRow w3.heap.size 47 2 (.slice sa W.length sc) W.length (pairs W)) := own_later (show World.ownsRow _ _ _ _ _ _ _ from HWC.out) b56
      have HA6 : Hid (w6.ownsRow w2.heap.size 3 1 (.slice ga N.length gc) N.length ((places N N.length).map (Value.int .i64))) := own_later (show World.ownsRow _ _ _ _ _ _ _ from HAC2.out) b56
      have HR6 : Hid (w6.ownsRow wv.heap.size 3 1 (.slice ta rs.length tc) rs.length (rs.map (Value.int .i64))) := own_later (show World.ownsRow _ _ _ _ _ _ _ from HRV.out) b56
      have b06 := b0c.trans (b56.mono b0c.size)
      have hrd6 := reads_of own6
      have HC := copy_any refsB _ rf_refs _ _ _ _ _ _ _ _ _ _ HH6.out hrd6 (by omega)
      have HCh : Hid (Calls Try.prog 13 #[.pointer (some ⟨q, 0, none⟩), .func (.func 14) #[] #[], .slice va6 (rs.length + N.length) vc6] w6 fun e w' => ∃ q7 S7 v7, e = .returned (.tuple #[.pointer (some ⟨q7, 0, none⟩), v7]) ∧ Hp w6.heap.size w' S7 q7 300 ((live refsB os (rs ++ places N N.length)).map (turnO refsB os (live refsB os (rs ++ places N N.length)))) ∧ w'.ownsRow w6.heap.size 3 1 v7 (rs.length + N.length) (((rs ++ places N N.length).map (placeR os (live refsB os (rs ++ places N N.length)))).map (Value.int .i64)) ∧ (∀ x, v7.ownBlock = some x → ¬ S7 x) ∧ Below w6.heap.size w6 w') := HC
      have hcast : ((rs.length + N.length : Nat) : Int) = (rs.length : Int) + (N.length : Int) := by omega
      clear own5 b5 HAT5 hB5 own6 g6 hR1 hrd6 HC HATR HHC HWC HAC2 HRV b56 b0c
      go_wp2_with fail
      refine HCh.out.mono ?_
      rintro e w7 ⟨q7, S7, v7, rfl, H7, own7, _, b7⟩
      obtain ⟨a7, c7, hv7⟩ := own_sl own7
      subst hv7
      have HG7 : Hid _ := H7
      have HM7 : Hid (w7.ownsRow w6.heap.size 3 1 (.slice a7 (rs.length + N.length) c7) (rs.length + N.length) (((rs ++ places N N.length).map (placeR os (live refsB os (rs ++ places N N.length)))).map (Value.int .i64))) := own7
      have HH7 : Hid (Hp w2.heap.size w7 S q 300 os) := HH6.out.later b7
      have HW7 : Hid (w7.ownsRow w3.heap.size 47 2 (.slice sa W.length sc) W.length (pairs W)) := own_later (show World.ownsRow _ _ _ _ _ _ _ from HW6.out) b7
      have HA7 : Hid (w7.ownsRow w2.heap.size 3 1 (.slice ga N.length gc) N.length ((places N N.length).map (Value.int .i64))) := own_later (show World.ownsRow _ _ _ _ _ _ _ from HA6.out) b7
      have HR7 : Hid (w7.ownsRow wv.heap.size 3 1 (.slice ta rs.length tc) rs.length (rs.map (Value.int .i64))) := own_later (show World.ownsRow _ _ _ _ _ _ _ from HR6.out) b7
      have b07 := b06.trans (b7.mono b06.size)
      clear H7 own7 HH6 HW6 HA6 HR6 b7 b06 HCh
      go_wp2_with fail
      clear hcast
      go_loopw [17] (fun i wr => ∃ (s : Nat), i = .int .i64 s ∧ s ≤ rs.length ∧ Hid (Below w7.heap.size w7 wr)) (fun i _ => rs.length - (intOf i).toNat)
      case atStart => exact ⟨0, rfl, by omega, Below.refl _ _⟩
      case round =>
        obtain ⟨s, rfl, hs, HBR⟩ := hrel
        by_cases hls : s < rs.length
        · have HJ : Hid (s < rs.length) := hls
          obtain ⟨r, hRs⟩ : ∃ r, rs[s]? = some r := ⟨_, List.getElem?_eq_getElem hls⟩
          have hrow1 := own_later (show World.ownsRow _ _ _ _ _ _ _ from HR7.out) HBR.out
          have hrow2 := own_later (show World.ownsRow _ _ _ _ _ _ _ from HM7.out) HBR.out
          obtain ⟨g1, c1, e6, _, _, _, _⟩ := own_some hrow1 (by omega)
          simp only [Value.slice.injEq, true_and] at e6
          obtain ⟨rfl, rfl⟩ := e6
          obtain ⟨g2, c3, e6, _, _, _, _⟩ := own_some hrow2 (by omega)
          simp only [Value.slice.injEq, true_and] at e6
          obtain ⟨rfl, rfl⟩ := e6
          have y1 := own_cell hrow1 s (.int .i64 r) (by rw [List.getElem?_map, hRs]; rfl)
          have y2 := own_cell hrow2 s (.int .i64 (placeR os (live refsB os (rs ++ places N N.length)) r)) (by rw [List.getElem?_map, List.getElem?_map, List.getElem?_append_left hls, hRs]; rfl)
          have hsg := place_sign os (live refsB os (rs ++ places N N.length)) r
          have hph := place_has N os W HWO.out r
          have HPL : Hid (∀ nn, Calls Try.prog 17 #[.slice ga N.length gc, .int .i64 r] (wr.drewN nn) fun e w' => e = .returned (.int .i64 (idxF (places N N.length) r 0)) ∧ w' = wr.drewN nn) := fun nn => by
            have hrow4 := own_later (show World.ownsRow _ _ _ _ _ _ _ from HA7.out) (HBR.out.trans ((below_draws wr.heap.size wr nn).mono HBR.out.size))
            exact (place_any ga N.length gc (places N N.length) r (wr.drewN nn) (reads_of hrow4)).mono fun _ _ h => ⟨h.1, h.2.symm⟩
          have d1 : decide ((s : Int) < (rs.length : Int)) = true := by rw [decide_eq_true_eq]; omega
          have d2 : decide (s < rs.length) = true := by rw [decide_eq_true_eq]; omega
          have e9 : (s : Int) < (rs.length : Int) + (N.length : Int) := by omega
          clear hrow1 hrow2 hRs
          generalize placeR os (live refsB os (rs ++ places N N.length)) r = M at *
          generalize idxF (places N N.length) r 0 = Y at *
          cases hho : hasO os r
          · have hM : M = -1 := hsg.2 hho
            subst hM
            have hY : Y < 0 := hph.2 hho
            have d3 : decide (Y < 0) = true := by rw [decide_eq_true_eq]; exact hY
            clear hsg hph hho
            go_upto_region 24 with fail
            go_quiet ((go_at_call 17; exact Calls.quiet_of_same (HPL.out _)))
            have hb2 : Hid (Below w7.heap.size w7 (wr.drewN nq)) := HBR.out.trans ((below_draws wr.heap.size wr nq).mono HBR.out.size)
            generalize wr.drewN nq = w9 at *
            go_wp2_with fail
            go_roundw
            case rel =>
              first
              | exact ⟨s + 1, by go_num, HJ.out, hb2⟩
              | ((repeat apply Exists.intro); exact ⟨⟨s + 1, by go_num, HJ.out, hb2⟩, rfl⟩)
            case measure => have := HJ.out; simp [intOf]; omega
          · have hM : ¬ M = -1 := fun e => by have := hsg.1 e; rw [hho] at this; cases this
            have hY : ¬ Y < 0 := fun e => by have := hph.1 e; rw [hho] at this; cases this
            have d3 : decide (Y < 0) = false := by rw [decide_eq_false_iff_not]; exact hY
            have d4 : decide (M = -1) = false := by rw [decide_eq_false_iff_not]; exact hM
            have d5 : (M == -1) = false := by rw [beq_eq_false_iff_ne]; exact hM
            clear hsg hph hho
            go_upto_region 24 with fail
            go_quiet ((go_at_call 17; exact Calls.quiet_of_same (HPL.out _)))
            have hb2 : Hid (Below w7.heap.size w7 (wr.drewN nq)) := HBR.out.trans ((below_draws wr.heap.size wr nq).mono HBR.out.size)
            generalize wr.drewN nq = w9 at *
            go_wp2_with fail
            go_roundw
            case rel =>
              first
              | exact ⟨s + 1, by go_num, HJ.out, hb2⟩
              | ((repeat apply Exists.intro); exact ⟨⟨s + 1, by go_num, HJ.out, hb2⟩, rfl⟩)
            case measure => have := HJ.out; simp [intOf]; omega
        · have es : s = rs.length := by omega
          subst es
          have d1 : decide ((rs.length : Int) < (rs.length : Int)) = false := by simp
          have d2 : decide (rs.length < rs.length) = false := by simp
          obtain ⟨wy, hwy⟩ : ∃ x, x = wr := ⟨_, rfl⟩
          subst hwy
          go_wp2_with fail
          clear d1 d2
          go_loopw [18] (fun i wr => ∃ (t : Nat), i = .int .i64 t ∧ t ≤ W.length ∧ Hid (Below wy.heap.size wy wr)) (fun i _ => W.length - (intOf i).toNat)
          case atStart => exact ⟨0, rfl, by omega, Below.refl _ _⟩
          case round =>
            obtain ⟨t, rfl, ht, HBT⟩ := hrel
            have hb7 := HBR.out.trans (HBT.out.mono HBR.out.size)
            by_cases hlt : t < W.length
            · have HJ : Hid (t < W.length) := hlt
              obtain ⟨b, hWb⟩ : ∃ b, W[t]? = some b := ⟨_, List.getElem?_eq_getElem hlt⟩
              have hbW := List.mem_of_getElem? hWb
              have hbN := HWN.out b hbW
              have hz := wild_zero N os W HWO.out rs b hbW hbN
              have hrow1 := own_later (show World.ownsRow _ _ _ _ _ _ _ from HW7.out) hb7
              have hrow2 := own_later (show World.ownsRow _ _ _ _ _ _ _ from HM7.out) hb7
              obtain ⟨g1, c1, e6, _, _, _, _⟩ := own_some hrow1 (by omega)
              simp only [Value.slice.injEq, true_and] at e6
              obtain ⟨rfl, rfl⟩ := e6
              obtain ⟨g2, c3, e6, _, _, _, _⟩ := own_some hrow2 (by omega)
              simp only [Value.slice.injEq, true_and] at e6
              obtain ⟨rfl, rfl⟩ := e6
              have y1 := hrow1.cells (g := g1) rfl (t * 2) _ (pairs_at W t b hWb)
              rw [Addr.add_lit, Nat.zero_add] at y1
              have y2 := own_cell hrow2 (rs.length + b) (.int .i64 (placeR os (live refsB os (rs ++ places N N.length)) (plN N b : Int))) (by rw [List.getElem?_map, List.getElem?_map, List.getElem?_append_right (by omega), Nat.add_sub_cancel_left, places_at' N _ b hbN]; rfl)
              have HG := get_any _ _ _ _ _ _ (placeR os (live refsB os (rs ++ places N N.length)) (plN N b : Int)) 0 ((show Hp _ _ _ _ _ _ from HG7.out).later hb7)
              rw [hz] at HG
              have d1 : decide ((t : Int) < (W.length : Int)) = true := by rw [decide_eq_true_eq]; omega
              have d2 : decide (t < W.length) = true := by rw [decide_eq_true_eq]; omega
              have e3 : ((rs.length : Int) + (b : Int)).toNat = rs.length + b := by omega
              have e0 : (0 : Int) ≤ (rs.length : Int) + (b : Int) := by omega
              have e1 : (rs.length : Int) + (b : Int) < (rs.length : Int) + (N.length : Int) := by omega
              have HGh : Hid (Calls Try.prog 20 #[.pointer (some ⟨q7, 0, none⟩), .int .i64 (placeR os (live refsB os (rs ++ places N N.length)) (plN N b : Int)), .int .i64 0] wr fun e w' => e = .returned (.int .i32 0) ∧ wr = w') := HG
              clear hrow1 hrow2 hz HG hWb hbW
              generalize placeR os (live refsB os (rs ++ places N N.length)) (plN N b : Int) = M at *
              go_wp2_with fail
              refine HGh.out.mono ?_
              rintro e w' ⟨rfl, rfl⟩
              go_wp2_with fail
              go_roundw
              case rel =>
                first
                | exact ⟨t + 1, by go_num, HJ.out, HBT⟩
                | ((repeat apply Exists.intro); exact ⟨⟨t + 1, by go_num, HJ.out, HBT⟩, rfl⟩)
              case measure => have := HJ.out; simp [intOf]; omega
            · have et : t = W.length := by omega
              subst et
              have d1 : decide ((W.length : Int) < (W.length : Int)) = false := by simp
              have d2 : decide (W.length < W.length) = false := by simp
              have HU1 := used_any _ _ _ _ _ _ _ ((show Hp _ _ _ _ _ _ from HG7.out).later hb7).raw
              rw [words_sum os _ (turn_len' refsB os _), all_live N os W HWO.out rs refsB] at HU1
              have HU2 := used_any _ _ _ _ _ _ _ (HH7.out.later hb7).raw
              have b0r := b07.trans (hb7.mono b07.size)
              go_wp2_with fail
              refine HU1.mono ?_
              rintro e w' ⟨rfl, rfl⟩
              go_wp2_with fail
              refine HU2.mono ?_
              rintro e w' ⟨rfl, rfl⟩
              go_wp2_with fail
              go_ret
              exact ⟨rfl, b0r⟩

/-! ### The row -/
theorem own : ownKnob Try.prog.godebug = none := by kernel_rfl
theorem laidOut : laidOutB Try.prog = true := by kernel_rfl
set_option maxRecDepth 100000 in
theorem lifted (os : Os) (started : os.Started) (H : Type) (enc : TypeId × Value → H) :
    ReturnsInHanded {} Try.checked os 5 .any (Rows.copyWildSpec.pre6 enc Try.prog Try.f5 Rows.copyWildRow.domain false) (Rows.copyWildSpec.post enc Try.prog Try.f5 false true false false) := by
  refine returnsInHanded_of_change (C := Try.checked) own started (by kernel_rfl) Try.func5
    (ChangeSpec.witness6 (enc := enc) (C := Try.checked) false ⟨#[], #[.slice none 0 0, .slice none 0 0, .slice none 0 0], []⟩ 8 (by kernel_rfl) (by kernel_rfl) (by kernel_rfl) (by kernel_rfl)) ?_
  intro W base args ds gs before hval0 hW hcnd _
  have hval : ∀ (j : Nat) t v, Try.f5.params[j]? = some t → args[j]? = some v → Value.okWide Try.prog W .any base t v := hval0
  have hW' := hW
  obtain ⟨p, q, hA0, hV, rfl, hfz, hnd⟩ := hW
  have hA : DataW.TrodAll enc Try.prog W 0 (fun _ => true) true Try.f5.params.toList args.toList ds p := hA0
  rw [Try.params5] at hA hval
  obtain ⟨v0, vs0, d0, ds0, p0, q0, hargs, rfl, rfl, h0, r0⟩ := trodAll_cons hA
  obtain ⟨v1, vs1, d1, ds1, p1, q1, rfl, rfl, rfl, h1, r1⟩ := trodAll_cons r0
  obtain ⟨v2, vs2, d2, ds2, p2, q2, rfl, rfl, rfl, h2, r2⟩ := trodAll_cons r1
  obtain ⟨rfl, rfl, rfl⟩ := trodAll_nil r2
  obtain rfl : args = #[v0, v1, v2] := by cases args; simp_all
  obtain ⟨rfl, rfl⟩ := trodVars_none hV
  obtain ⟨a0, len0, cap0, rfl⟩ := okWide_slice Try.underlying22 (hval 0 22 v0 rfl rfl)
  have k0 := h0
  have lt0 : ∀ x ∈ p0, x.block < W.heap.size := by obtain ⟨m, hm⟩ := k0; exact DataW.trod_lt m _ _ _ hm
  obtain ⟨z0, w0⟩ : ∃ L, Sl obE 2 W (.slice a0 len0 cap0) L := by
    obtain ⟨fuel, hf⟩ := h0
    obtain ⟨v, L, e, hL⟩ := open_obs hf
    simp [Value.cells] at e
    subst e
    exact ⟨L, hL⟩
  obtain ⟨a1, len1, cap1, rfl⟩ := okWide_slice Try.underlying29 (hval 1 29 v1 rfl rfl)
  have k1 := h1
  have lt1 : ∀ x ∈ p1, x.block < W.heap.size := by obtain ⟨m, hm⟩ := k1; exact DataW.trod_lt m _ _ _ hm
  obtain ⟨z1, w1⟩ : ∃ zs, IsRow .i32 W a1 len1 cap1 zs := by
    obtain ⟨fuel, hf⟩ := h1
    rcases open_ints Try.underlying29 Try.underlying21 (by kernel_rfl) hf with ⟨hcs, _⟩ | ⟨x, l, c, zs, hcs, _, hl, hm, hz, _, hcell, hwz⟩
    · simp [Value.cells] at hcs
      obtain ⟨rfl, rfl, rfl⟩ := hcs
      exact ⟨[], .inl ⟨rfl, rfl, rfl, rfl⟩⟩
    · simp [Value.cells] at hcs
      obtain ⟨rfl, rfl, rfl⟩ := hcs
      exact ⟨zs, .inr ⟨_, rfl, hl, hm, by simpa using hz, hcell, hwz⟩⟩
  obtain ⟨a2, len2, cap2, rfl⟩ := okWide_slice Try.underlying23 (hval 2 23 v2 rfl rfl)
  have k2 := h2
  have lt2 : ∀ x ∈ p2, x.block < W.heap.size := by obtain ⟨m, hm⟩ := k2; exact DataW.trod_lt m _ _ _ hm
  obtain ⟨z2, w2⟩ : ∃ zs, IsRow .i64 W a2 len2 cap2 zs := by
    obtain ⟨fuel, hf⟩ := h2
    rcases open_ints Try.underlying23 Try.underlying3 (by kernel_rfl) hf with ⟨hcs, _⟩ | ⟨x, l, c, zs, hcs, _, hl, hm, hz, _, hcell, hwz⟩
    · simp [Value.cells] at hcs
      obtain ⟨rfl, rfl, rfl⟩ := hcs
      exact ⟨[], .inl ⟨rfl, rfl, rfl, rfl⟩⟩
    · simp [Value.cells] at hcs
      obtain ⟨rfl, rfl, rfl⟩ := hcs
      exact ⟨zs, .inr ⟨_, rfl, hl, hm, by simpa using hz, hcell, hwz⟩⟩
  clear hA0 hval0
  refine (walk a0 len0 cap0 z0 a1 len1 cap1 z1 a2 len2 cap2 z2 W w0 w1 w2).mono fun e W' ⟨he, bel⟩ => ?_
  subst he
  exact ⟨_, rfl, _, _, _, [], _, [], hW', trodAll_mk1 (shut_bool Try.underlying4 _), (trodAll_cons_mk (Below.trod laidOut (by kernel_rfl) (of_decide_eq_true (by kernel_rfl)) k0 bel lt0) (trodAll_cons_mk (Below.trod laidOut (by kernel_rfl) (of_decide_eq_true (by kernel_rfl)) k1 bel lt1) (trodAll_cons_mk (Below.trod laidOut (by kernel_rfl) (of_decide_eq_true (by kernel_rfl)) k2 bel lt2) trodAll_mk0))), rfl, bel.frame _, fun h => by cases h⟩

theorem over : Rows.copyWildRow.holds Try.pinned (OpenSpec.ofChange Rows.copyWildSpec) :=
  OpenClaim.holds_of_wide 5 Try.f5 rfl rfl rfl rfl rfl rfl rfl ⟨rfl, rfl, rfl, rfl, rfl⟩ rfl rfl rfl rfl rfl (by kernel_rfl) Try.func5 (by kernel_rfl)
    (of_decide_eq_true (by kernel_rfl)) (by unfold Func.isWrapper; first | (rw [if_pos (by decide +kernel)]; kernel_rfl) | (rw [if_neg (by decide +kernel)]; exact ⟨rfl, rfl⟩))
    (fun os started H enc _ => lifted os started H enc)

end CopyWild

theorem copyWild_holds : Rows.CopyWildSaid := CopyWild.over
#print axioms copyWild_holds
end Go.Proofs.Ytogohjnpgdiddaa
