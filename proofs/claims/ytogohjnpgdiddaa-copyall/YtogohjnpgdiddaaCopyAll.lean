/- For all objects and roots the law CopyAll answers true: what lives is copied, word by word, in its order; nothing else is; the elder heap stays; no condition on the input. -/
import Derived.Test.YtogohjnpgdiddaaRows
import Derived.Test.YtogohjnpgdiddaaCollAllM
import Derived.Test.YtogohjnpgdiddaaCollCopyX
import Derived.WalkKit
import Derived.ProofKit
import Derived.OpenShut
import Derived.ShutString
import Derived.ChangeOld
import Derived.Below
namespace Go.Proofs.Ytogohjnpgdiddaa
namespace CopyAll
open Mem Heap Coll
open Go.ChangeShapes Go.WideShapes Go.ChangeAt Go.RowKit
open Go.ChangeMaps (open_string shut_string)
set_option linter.unusedVariables false
set_option linter.unusedSimpArgs false
set_option maxRecDepth 100000

theorem rootP_at (N : List No) (y : Nat) : rootP N (y : Int) = (plN N y : Int) := by
  unfold rootP
  rw [if_pos (by omega), Int.toNat_natCast]
theorem rootP_minus (N : List No) : rootP N (-1) = -1 := by
  unfold rootP
  rw [if_neg (by omega)]
set_option maxHeartbeats 16000000 in
theorem walk (a : Option Addr) (len cap : Nat) (L : List Nv) (ra : Option Addr) (rlen rcap : Nat) (rz : List Int) (w : World) (h1 : Sl obE 2 w (.slice a len cap) L) (h2 : IsRow .i64 w ra rlen rcap rz) : Calls Try.prog 3 #[.slice a len cap, .slice ra rlen rcap] w fun e w' => e = .returned (.bool true) ∧ Below w.heap.size w w' := by
  obtain ⟨iN, hiN, hzN0, hzN1, hzN2⟩ := info_parts infoN
  obtain ⟨hrd, hrb⟩ := h2.reads rlen (Nat.le_refl _)
  generalize rz.take rlen = xs at *
  have hxl := hrd.len
  have hxm := hrd.max
  have hxc := hrd.cap
  unfold maxLen at hxm
  have HRD : Hid (Reads .i64 w ra rlen rcap xs) := hrd
  have HRB : Hid (∀ x ∈ xs, -9223372036854775808 ≤ x ∧ x ≤ 9223372036854775807) := fun x hx => bounds_i64 (hrb x hx)
  have HL : Hid (Sl obE 2 w (.slice a len cap) L) := h1
  clear h1 h2 hrd hrb
  obtain ⟨o1, o2, o3⟩ := cut_ok L
  have hcl := cut_len L
  have hn20 : (cutN L).length ≤ 20 := by omega
  clear hcl
  go_enter Try.func3, Try.ntmps3
  go_wp2_with fail
  refine (Coll.begun_any _).mono ?_
  rintro e w1 ⟨rfl, b1⟩
  go_wp2_with fail
  refine (cut_any w1 _ L (Sl.later obE_stable HL.out b1)).mono ?_
  rintro e w2 ⟨v2, rfl, hcut, b2⟩
  obtain ⟨a2, c2, rfl, hsl⟩ := cut_sl' hcut
  have b12 := b1.trans (b2.mono b1.size)
  have HS : Hid (Sl obE 2 w2 (.slice a2 (cutN L).length c2) ((cutN L).map toV)) := hsl
  clear hcut hsl b2 HL
  generalize cutN L = N at *
  have HLD := laid_any w2 a2 N.length c2 N o1 o2 o3 hn20 HS.out
  go_wp2_with fail
  refine HLD.mono ?_
  rintro e w3 ⟨q, S, va, rfl, H3, own3, _, b3⟩
  have b13 := b12.trans (b3.mono b12.size)
  obtain ⟨ga, gc, rfl⟩ := own_sl own3
  have HS3 : Hid (Sl obE 2 w3 (.slice a2 N.length c2) (N.map toV)) := Sl.later obE_stable HS.out b3
  have HA3 : Hid (w3.ownsRow w2.heap.size 3 1 (.slice ga N.length gc) N.length ((places N N.length).map (Value.int .i64))) := own3
  have H3h : Hid (Hp w2.heap.size w3 S q 300 (laidO refsB N)) := H3
  have HR3 : Hid (Reads .i64 w3 ra rlen rcap xs) := HRD.out.later b13
  have HB3 : Hid (Below w.heap.size w w3) := b13
  clear HLD HS own3 H3 b3 b12 b1 HRD b13
  go_upto_block 0 with fail
  go_cut [9, 10] (fun rv pv wr => ∃ (k : Nat), k ≤ 10 ∧ Hid (wr.ownsRow w3.heap.size 3 1 rv k ((rootsK N.length xs k).map (Value.int .i64))) ∧ Hid (wr.ownsRow w3.heap.size 3 1 pv k (((rootsK N.length xs k).map (rootP N)).map (Value.int .i64))) ∧ Hid (∀ x, rv.ownBlock = some x → pv.ownBlock = some x → False) ∧ Hid (k ≤ xs.length) ∧ Hid (Below w3.heap.size w3 wr))
  case first =>
    go_wp2_with fail
    go_loopw [9, 10, 11] (fun rv pv i wr => ∃ (k : Nat), i = .int .i64 k ∧ k ≤ rlen ∧ k ≤ 10 ∧ (0 < k → 0 < N.length) ∧ Hid (wr.ownsRow w3.heap.size 3 1 rv k ((rootsK N.length xs k).map (Value.int .i64))) ∧ Hid (wr.ownsRow w3.heap.size 3 1 pv k (((rootsK N.length xs k).map (rootP N)).map (Value.int .i64))) ∧ Hid (∀ x, rv.ownBlock = some x → pv.ownBlock = some x → False) ∧ Below w3.heap.size w3 wr) (fun _ _ i _ => 10 - (intOf i).toNat)
    case atStart => exact ⟨0, rfl, by omega, by omega, (fun h => absurd h (by omega)), World.ownsRow_nil _ _ _ _, World.ownsRow_nil _ _ _ _, (fun x e => by cases e), Below.refl _ _⟩
    case round =>
      obtain ⟨k, rfl, hk1, hk2, hk3, HRV, HPV, HAP, bw⟩ := hrel
      by_cases hin : k < rlen ∧ k < 10 ∧ 0 < N.length
      · obtain ⟨hin1, hin2, hin3⟩ := hin
        obtain ⟨b1, o1', e1, h1⟩ := (HR3.out.later bw).cells (by omega)
        subst e1
        have z1 := h1 k hin1
        have hxb := HRB.out (xs.getD k 0) (by rw [List.getD, List.getElem?_eq_getElem (by omega)]; exact List.getElem_mem (by omega))
        have hks := rootsK_succ N.length xs k (by omega)
        generalize xs.getD k 0 = x at *
        obtain ⟨f1, f2, f3, f4, f5, f6⟩ := mod_facts x (N.length + 1) (by omega) (by omega) hxb
        rw [show ((N.length + 1 : Nat) : Int) = (N.length : Int) + 1 by omega] at f1 f2 f3 f5 f6
        have e4 : (x.tmod ((N.length : Int) + 1) + (N.length : Int) + 1).tmod ((N.length : Int) + 1) = (modN x (N.length + 1) : Int) := by rw [Int.add_assoc]; exact f3
        have t1 : -21 ≤ x.tmod ((N.length : Int) + 1) := by omega
        have t2 : x.tmod ((N.length : Int) + 1) ≤ 21 := by omega
        have n20 : (N.length : Int) ≤ 20 := by omega
        have d1 : decide ((k : Int) < (rlen : Int)) = true := by rw [decide_eq_true_eq]; omega
        have d2 : decide (k < rlen) = true := by rw [decide_eq_true_eq]; omega
        have d3 : decide ((k : Int) < 10) = true := by rw [decide_eq_true_eq]; omega
        have d4 : decide (k < 10) = true := by rw [decide_eq_true_eq]; omega
        have d5 : decide ((0 : Int) < (N.length : Int)) = true := by rw [decide_eq_true_eq]; omega
        have d6 : decide (0 < N.length) = true := by rw [decide_eq_true_eq]; omega
        have e5 : ¬ ((N.length : Int) + 1 = 0) := by omega
        have e6 : decide ((N.length : Int) + 1 = 0) = false := by rw [decide_eq_false_iff_not]; omega
        have hgm : modN x (N.length + 1) < N.length + 1 := f4
        have HKS : Hid _ := hks
        generalize hM : modN x (N.length + 1) = m at *
        clear f1 f2 f3 f4 f5 f6 h1 hks hM
        go_upto_region 11 with fail
        obtain ⟨sa, sc, hsv⟩ := own_sl HRV.out
        subst hsv
        obtain ⟨pa, pc, hpv⟩ := own_sl HPV.out
        subst hpv
        have ka := alloc1 wr (.cells #[.int .i64 ((m : Int) - 1)] 3)
        have R6 : Hid _ := own_later (show World.ownsRow _ _ _ _ _ _ _ from HRV.out) ka
        have P6 : Hid _ := own_later (show World.ownsRow _ _ _ _ _ _ _ from HPV.out) ka
        have HNW : Hid _ := news_one wr (.int .i64 ((m : Int) - 1)) 3
        have HONE : Hid (∀ u ∈ ([.int .i64 ((m : Int) - 1)] : List Value), u.oneCell' = true) := by intro u hu; rw [List.mem_singleton.1 hu]; rfl
        have kk := bw.trans (ka.mono bw.size)
        have hB := kk.size
        clear ka d1 d2 d3 d4 d5 d6 e4 e5 e6 z1
        go_upto_region 12 with (at_builtin; refine wpList_append_lies _ rfl (.tmp 67) (.tmp 69) 23 rfl w3.heap.size 3 iN (.int .i64 0) 1 8 Try.underlying23 hiN hzN0 hzN1 hzN2 rfl (by decide) (.slice sa k sc) k ((rootsK N.length xs k).map (Value.int .i64)) rfl R6.out ⟨wr.heap.size, 0, none⟩ 1 1 [.int .i64 ((m : Int) - 1)] rfl rfl HNW.out HONE.out (by decide) (by unfold maxLen; omega) (by omega) hB _ rfl ?_; intro g' cap' w7 own7 g7 hat7 hlt7)
        have kk7 := kk.grown g7 hB (fun kx e => (World.ownsRow.lt R6.out kx e).1)
        have HRV7 : Hid (w7.ownsRow w3.heap.size 3 1 (.slice (some ⟨g', 0, none⟩) (k + 1) cap') (k + 1) ((rootsK N.length xs (k + 1)).map (Value.int .i64))) := by
          show World.ownsRow _ _ _ _ _ _ _
          rw [HKS.out, List.map_append]
          exact own7
        have HPV7 : Hid (w7.ownsRow w3.heap.size 3 1 (.slice pa k pc) k (((rootsK N.length xs k).map (rootP N)).map (Value.int .i64))) := by
          show World.ownsRow _ _ _ _ _ _ _
          refine World.ownsRow.kept (show World.ownsRow _ _ _ _ _ _ _ from P6.out) g7 ?_
          cases hpb : (Value.slice pa k pc).ownBlock with
          | none => exact .inl rfl
          | some y => exact .inr (fun e => HAP.out y e.symm hpb)
        have HAT7 : Hid _ := hat7
        have HLT7 : Hid (g' < w7.heap.size) := hlt7
        have HA7 : Hid _ := own_later (show World.ownsRow _ _ _ _ _ _ _ from HA3.out) kk7
        clear own7 g7 hat7 hlt7 R6 P6 HNW HONE kk hB
        by_cases hm0 : m = 0
        · subst hm0
          have v1 : ((0 : Nat) : Int) - 1 = -1 := by omega
          rw [v1] at HKS ⊢
          have ka8 := alloc1 w7 (.cells #[.int .i64 (-1)] 3)
          have R8 : Hid _ := own_later (show World.ownsRow _ _ _ _ _ _ _ from HPV7.out) ka8
          have HNW8 : Hid _ := news_one w7 (.int .i64 (-1)) 3
          have HON8 : Hid (∀ u ∈ ([.int .i64 (-1)] : List Value), u.oneCell' = true) := by intro u hu; rw [List.mem_singleton.1 hu]; rfl
          have kk8 := kk7.trans (ka8.mono kk7.size)
          have hB8 := kk8.size
          have HSZ8 : Hid (w7.heap.size ≤ (w7.alloc (.cells #[.int .i64 (-1)] 3)).heap.size) := ka8.size
          have HRV8 : Hid _ := own_later (show World.ownsRow _ _ _ _ _ _ _ from HRV7.out) ka8
          clear ka8
          go_wp2_with (at_builtin; refine wpList_append_lies _ rfl (.tmp 73) (.tmp 74) 23 rfl w3.heap.size 3 iN (.int .i64 0) 1 8 Try.underlying23 hiN hzN0 hzN1 hzN2 rfl (by decide) (.slice pa k pc) k (((rootsK N.length xs k).map (rootP N)).map (Value.int .i64)) rfl R8.out ⟨w7.heap.size, 0, none⟩ 1 1 [.int .i64 (-1)] rfl rfl HNW8.out HON8.out (by decide) (by unfold maxLen; omega) (by omega) hB8 _ rfl ?_; intro g2 cap2 w9 own9 g9 hat9 hlt9)
          have kk9 := kk8.grown g9 hB8 (fun kx e => (World.ownsRow.lt R8.out kx e).1)
          have HAP9 : Hid (g' = g2 → False) := fun e => by
            subst e
            have hs := HSZ8.out
            rcases hat9 with h9 | h9
            · rcases HAT7.out with h7 | h7
              · exact HAP.out _ h7 h9
              · have := (World.ownsRow.lt HPV.out _ h9).2; rw [alloc_size] at h7; omega
            · have := HLT7.out; rw [alloc_size] at h9; omega
          have HRV9 : Hid (w9.ownsRow w3.heap.size 3 1 (.slice (some ⟨g', 0, none⟩) (k + 1) cap') (k + 1) ((rootsK N.length xs (k + 1)).map (Value.int .i64))) := by
            show World.ownsRow _ _ _ _ _ _ _
            refine World.ownsRow.kept (show World.ownsRow _ _ _ _ _ _ _ from HRV8.out) g9 (.inr (fun e => ?_))
            refine HAP.out g' ?_ e.symm |>.elim
            rcases HAT7.out with h7 | h7
            · exact h7
            · have h8 : g' < wr.heap.size := (World.ownsRow.lt HPV.out _ e.symm).2; rw [alloc_size] at h7; omega
          have HPV9 : Hid (w9.ownsRow w3.heap.size 3 1 (.slice (some ⟨g2, 0, none⟩) (k + 1) cap2) (k + 1) (((rootsK N.length xs (k + 1)).map (rootP N)).map (Value.int .i64))) := by
            show World.ownsRow _ _ _ _ _ _ _
            rw [HKS.out, List.map_append, List.map_append]
            simp only [List.map_cons, List.map_nil, rootP_minus]
            exact own9
          have HAPN : Hid (∀ x, (Value.slice (some ⟨g', 0, none⟩) (k + 1) cap').ownBlock = some x → (Value.slice (some ⟨g2, 0, none⟩) (k + 1) cap2).ownBlock = some x → False) := fun x ea eb => by
            simp only [Value.ownBlock, Option.some.injEq] at ea eb
            exact HAP9.out (ea.trans eb.symm)
          clear own9 g9 hat9 hlt9
          go_roundw
          case rel =>
            first
            | exact ⟨k + 1, by go_num, by omega, by omega, (fun _ => hin3), HRV9, HPV9, HAPN, kk9⟩
            | ((repeat apply Exists.intro); exact ⟨⟨k + 1, by go_num, by omega, by omega, (fun _ => hin3), HRV9, HPV9, HAPN, kk9⟩, rfl⟩)
          case measure => simp [intOf]; omega
        · obtain ⟨y, rfl⟩ : ∃ y, m = y + 1 := ⟨m - 1, by omega⟩
          have v1 : ((y + 1 : Nat) : Int) - 1 = (y : Int) := by omega
          rw [v1] at HKS ⊢
          have hy : y < N.length := by omega
          obtain ⟨g3, c3, e6, _, _, _, hc3⟩ := own_some HA7.out (by omega)
          simp only [Value.slice.injEq, true_and] at e6
          obtain ⟨rfl, rfl⟩ := e6
          have y0 := own_cell HA7.out y (.int .i64 (plN N y : Int)) (by rw [List.getElem?_map, places_at' N _ y hy]; rfl)
          have d7 : decide ((y : Int) < 0) = false := by rw [decide_eq_false_iff_not]; omega
          have d8 : decide ((y : Int) < (N.length : Int)) = true := by rw [decide_eq_true_eq]; omega
          have ka8 := alloc1 w7 (.cells #[.int .i64 (plN N y : Int)] 3)
          have R8 : Hid _ := own_later (show World.ownsRow _ _ _ _ _ _ _ from HPV7.out) ka8
          have HNW8 : Hid _ := news_one w7 (.int .i64 (plN N y : Int)) 3
          have HON8 : Hid (∀ u ∈ ([.int .i64 (plN N y : Int)] : List Value), u.oneCell' = true) := by intro u hu; rw [List.mem_singleton.1 hu]; rfl
          have kk8 := kk7.trans (ka8.mono kk7.size)
          have hB8 := kk8.size
          have HSZ8 : Hid (w7.heap.size ≤ (w7.alloc (.cells #[.int .i64 (plN N y : Int)] 3)).heap.size) := ka8.size
          have HRV8 : Hid _ := own_later (show World.ownsRow _ _ _ _ _ _ _ from HRV7.out) ka8
          clear ka8
          go_wp2_with (at_builtin; refine wpList_append_lies _ rfl (.tmp 76) (.tmp 81) 23 rfl w3.heap.size 3 iN (.int .i64 0) 1 8 Try.underlying23 hiN hzN0 hzN1 hzN2 rfl (by decide) (.slice pa k pc) k (((rootsK N.length xs k).map (rootP N)).map (Value.int .i64)) rfl R8.out ⟨w7.heap.size, 0, none⟩ 1 1 [.int .i64 (plN N y : Int)] rfl rfl HNW8.out HON8.out (by decide) (by unfold maxLen; omega) (by omega) hB8 _ rfl ?_; intro g2 cap2 w9 own9 g9 hat9 hlt9)
          have kk9 := kk8.grown g9 hB8 (fun kx e => (World.ownsRow.lt R8.out kx e).1)
          have HAP9 : Hid (g' = g2 → False) := fun e => by
            subst e
            have hs := HSZ8.out
            rcases hat9 with h9 | h9
            · rcases HAT7.out with h7 | h7
              · exact HAP.out _ h7 h9
              · have := (World.ownsRow.lt HPV.out _ h9).2; rw [alloc_size] at h7; omega
            · have := HLT7.out; rw [alloc_size] at h9; omega
          have HRV9 : Hid (w9.ownsRow w3.heap.size 3 1 (.slice (some ⟨g', 0, none⟩) (k + 1) cap') (k + 1) ((rootsK N.length xs (k + 1)).map (Value.int .i64))) := by
            show World.ownsRow _ _ _ _ _ _ _
            refine World.ownsRow.kept (show World.ownsRow _ _ _ _ _ _ _ from HRV8.out) g9 (.inr (fun e => ?_))
            refine HAP.out g' ?_ e.symm |>.elim
            rcases HAT7.out with h7 | h7
            · exact h7
            · have h8 : g' < wr.heap.size := (World.ownsRow.lt HPV.out _ e.symm).2; rw [alloc_size] at h7; omega
          have HPV9 : Hid (w9.ownsRow w3.heap.size 3 1 (.slice (some ⟨g2, 0, none⟩) (k + 1) cap2) (k + 1) (((rootsK N.length xs (k + 1)).map (rootP N)).map (Value.int .i64))) := by
            show World.ownsRow _ _ _ _ _ _ _
            rw [HKS.out, List.map_append, List.map_append]
            simp only [List.map_cons, List.map_nil, rootP_at]
            exact own9
          have HAPN : Hid (∀ x, (Value.slice (some ⟨g', 0, none⟩) (k + 1) cap').ownBlock = some x → (Value.slice (some ⟨g2, 0, none⟩) (k + 1) cap2).ownBlock = some x → False) := fun x ea eb => by
            simp only [Value.ownBlock, Option.some.injEq] at ea eb
            exact HAP9.out (ea.trans eb.symm)
          clear own9 g9 hat9 hlt9
          go_roundw
          case rel =>
            first
            | exact ⟨k + 1, by go_num, by omega, by omega, (fun _ => hin3), HRV9, HPV9, HAPN, kk9⟩
            | ((repeat apply Exists.intro); exact ⟨⟨k + 1, by go_num, by omega, by omega, (fun _ => hin3), HRV9, HPV9, HAPN, kk9⟩, rfl⟩)
          case measure => simp [intOf]; omega
      · have hkx : Hid (k ≤ xs.length) := by
          show k ≤ xs.length
          omega
        have HRES : Hid (∃ (k' : Nat), k' = k ∧ k' ≤ 10) := ⟨k, rfl, hk2⟩
        have hbw : Hid (Below w3.heap.size w3 wr) := bw
        have hd : (decide ((k : Int) < (rlen : Int)) = false ∧ decide (k < rlen) = false) ∨ (decide ((k : Int) < (rlen : Int)) = true ∧ decide (k < rlen) = true ∧ decide ((k : Int) < 10) = false ∧ decide (k < 10) = false ∧ ¬ ((k : Int) < 10) ∧ ¬ (k < 10)) ∨ (decide ((k : Int) < (rlen : Int)) = true ∧ decide (k < rlen) = true ∧ decide ((k : Int) < 10) = true ∧ decide (k < 10) = true ∧ decide ((0 : Int) < (N.length : Int)) = false ∧ decide (0 < N.length) = false) := by
          simp only [decide_eq_false_iff_not, decide_eq_true_eq]
          omega
        clear hin
        rcases hd with ⟨d1, d2⟩ | ⟨d1, d2, d3, d4, d5, d6⟩ | ⟨d1, d2, d3, d4, d5, d6⟩
        all_goals
          go_wp2_with fail
          go_meet
          case rel => exact ⟨k, hk2, HRV, HPV, HAP, hkx, hbw⟩
  case rest =>
    obtain ⟨k, hk10, HRV, HPV, HAP, HKX, HBW⟩ := hcut
    have hRlow := rootsK_low N.length xs k
    have hRlen : (rootsK N.length xs k).length = k := by
      have := HKX.out
      simp [rootsK]
      omega
    generalize rootsK N.length xs k = R at *
    obtain ⟨sa, sc, hsv⟩ := own_sl HRV.out
    subst hsv
    obtain ⟨pa, pc, hpv⟩ := own_sl HPV.out
    subst hpv
    have hRn : ∀ r ∈ R, r < (N.length : Int) := fun r hr => (hRlow r hr).2
    have hcop := copy_idx refsB N o1 R hRn
    have hpla := places_idx refsB N o1 R hRn
    have htot := total_idx refsB N o1 R hRn
    obtain ⟨_, hlow⟩ := live_idx refsB N o1 R hRn
    have hnd : (liveI refsB N R).Nodup := nodup_clo refsB N _ _ _ (nodup_root R _)
    have HCL : Hid (∀ (s b : Nat) (o : No), (liveI refsB N R)[s]? = some b → N[b]? = some o → ∀ (k x : Nat), o.ws[k]? = some x → refsB o.k k = true → 0 < x → x - 1 ∈ liveI refsB N R) := fun s b o hb ho k x hx hf h0 => live_closed N o1 R hRn s b o hb ho k x hx hf h0
    have HRTL : Hid (∀ r ∈ R, 0 ≤ r → r.toNat ∈ liveI refsB N R) := fun r hr h0 => root_live N R r hr h0
    have hwc := HBW.out
    have Hwc := H3h.out.later hwc
    have HSc : Hid (Sl obE 2 wc (.slice a2 N.length c2) (N.map toV)) := Sl.later obE_stable HS3.out hwc
    have bwc := HB3.out.trans (hwc.mono HB3.out.size)
    have HWD := words_any _ _ _ _ _ _ _ Hwc.raw
    have Hwch : Hid (Hp w2.heap.size wc S q 300 (laidO refsB N)) := Hwc
    clear HKX HBW hwc Hwc H3h HS3 HA3 HR3 HB3 HAP HRB hxm hxc hxl
    apply_assumption
    go_wp2_with fail
    refine HWD.mono ?_
    rintro e w4 ⟨v4, rfl, own4, b4⟩
    obtain ⟨a4, c4, hv4⟩ := own_sl own4
    subst hv4
    have b04 := bwc.trans (b4.mono bwc.size)
    have HW4 : Hid (Reads .i32 w4 a4 (wordsO (laidO refsB N)).length c4 (wordsO (laidO refsB N))) := reads_of own4
    have HRV4 : Hid (w4.ownsRow w3.heap.size 3 1 (.slice sa k sc) k (R.map (Value.int .i64))) := own_later (show World.ownsRow _ _ _ _ _ _ _ from HRV.out) b4
    have HPV4 : Hid (w4.ownsRow w3.heap.size 3 1 (.slice pa k pc) k ((R.map (rootP N)).map (Value.int .i64))) := own_later (show World.ownsRow _ _ _ _ _ _ _ from HPV.out) b4
    have HH4 : Hid (Hp w2.heap.size w4 S q 300 (laidO refsB N)) := Hwch.out.later b4
    have HS4 : Hid (Sl obE 2 w4 (.slice a2 N.length c2) (N.map toV)) := Sl.later obE_stable HSc.out b4
    clear own4 HWD Hwch HSc HRV HPV b4
    have HC := copy_any refsB _ rf_refs _ _ _ _ _ _ _ _ _ _ HH4.out (reads_of HPV4.out) (by omega)
    rw [hcop, hpla] at HC
    have HCh : Hid (Calls Try.prog 13 #[.pointer (some ⟨q, 0, none⟩), .func (.func 14) #[] #[], .slice pa k pc] w4 fun e w' => ∃ q5 S5 v5, e = .returned (.tuple #[.pointer (some ⟨q5, 0, none⟩), v5]) ∧ Hp w4.heap.size w' S5 q5 300 (copyO refsB N (liveI refsB N R)) ∧ w'.ownsRow w4.heap.size 3 1 v5 k ((R.map fun r => if 0 ≤ r then (posN N (liveI refsB N R) r.toNat : Int) else -1).map (Value.int .i64)) ∧ (∀ x, v5.ownBlock = some x → ¬ S5 x) ∧ Below w4.heap.size w4 w') := HC
    have HTOT : Hid _ := htot
    clear HC hcop hpla htot
    go_wp2_with fail
    refine HCh.out.mono ?_
    rintro e w5 ⟨q5, S5, v5, rfl, H5, own5, _, b5⟩
    obtain ⟨a5, c5, hv5⟩ := own_sl own5
    subst hv5
    have b05 := b04.trans (b5.mono b04.size)
    have HG5 : Hid (Hp w4.heap.size w5 S5 q5 300 (copyO refsB N (liveI refsB N R))) := H5
    have HM5 : Hid (w5.ownsRow w4.heap.size 3 1 (.slice a5 k c5) k ((R.map fun r => if 0 ≤ r then (posN N (liveI refsB N R) r.toNat : Int) else -1).map (Value.int .i64))) := own5
    have HW5 : Hid _ := HW4.out.later b5
    have HRV5 : Hid (w5.ownsRow w3.heap.size 3 1 (.slice sa k sc) k (R.map (Value.int .i64))) := own_later (show World.ownsRow _ _ _ _ _ _ _ from HRV4.out) b5
    have HPV5 : Hid (w5.ownsRow w3.heap.size 3 1 (.slice pa k pc) k ((R.map (rootP N)).map (Value.int .i64))) := own_later (show World.ownsRow _ _ _ _ _ _ _ from HPV4.out) b5
    have HH5 : Hid (Hp w2.heap.size w5 S q 300 (laidO refsB N)) := HH4.out.later b5
    have HS5 : Hid (Sl obE 2 w5 (.slice a2 N.length c2) (N.map toV)) := Sl.later obE_stable HS4.out b5
    have HWD := words_any _ _ _ _ _ _ _ HH5.out.raw
    clear H5 own5 HW4 HRV4 HPV4 HH4 HS4 b5 b04 HCh
    go_wp2_with fail
    refine HWD.mono ?_
    rintro e w6 ⟨v6, rfl, own6, b6⟩
    obtain ⟨a6, c6, hv6⟩ := own_sl own6
    subst hv6
    have b06 := b05.trans (b6.mono b05.size)
    have HEQ := eq_same _ _ _ _ _ _ _ (reads_of own6) (HW5.out.later b6)
    clear own6 HW5 HWD
    go_wp2_with fail
    refine HEQ.mono ?_
    rintro e w7 ⟨rfl, b7⟩
    have b57 := b6.trans (b7.mono b6.size)
    have b07 := b05.trans (b57.mono b05.size)
    have HG7 : Hid (Hp w4.heap.size w7 S5 q5 300 (copyO refsB N (liveI refsB N R))) := HG5.out.later b57
    have HM7 : Hid (w7.ownsRow w4.heap.size 3 1 (.slice a5 k c5) k ((R.map fun r => if 0 ≤ r then (posN N (liveI refsB N R) r.toNat : Int) else -1).map (Value.int .i64))) := own_later (show World.ownsRow _ _ _ _ _ _ _ from HM5.out) b57
    have HRV7 : Hid (w7.ownsRow w3.heap.size 3 1 (.slice sa k sc) k (R.map (Value.int .i64))) := own_later (show World.ownsRow _ _ _ _ _ _ _ from HRV5.out) b57
    have HPV7 : Hid (w7.ownsRow w3.heap.size 3 1 (.slice pa k pc) k ((R.map (rootP N)).map (Value.int .i64))) := own_later (show World.ownsRow _ _ _ _ _ _ _ from HPV5.out) b57
    have HH7 : Hid (Hp w2.heap.size w7 S q 300 (laidO refsB N)) := HH5.out.later b57
    have HS7 : Hid (Sl obE 2 w7 (.slice a2 N.length c2) (N.map toV)) := Sl.later obE_stable HS5.out b57
    clear HEQ HG5 HM5 HRV5 HPV5 HH5 HS5 b57 b6 b7 b05 b06
    have HOR := order_any w7 a2 N.length c2 N o1 o3 hn20 HS7.out sa k sc R (reads_of HRV7.out) hRn (by omega)
    go_wp2_with fail
    refine HOR.mono ?_
    rintro e w8 ⟨v8, rfl, own8, b8⟩
    obtain ⟨a8, c8, hv8⟩ := own_sl own8
    subst hv8
    have b08 := b07.trans (b8.mono b07.size)
    have HG8 : Hid (Hp w4.heap.size w8 S5 q5 300 (copyO refsB N (liveI refsB N R))) := HG7.out.later b8
    have HM8 : Hid (w8.ownsRow w4.heap.size 3 1 (.slice a5 k c5) k ((R.map fun r => if 0 ≤ r then (posN N (liveI refsB N R) r.toNat : Int) else -1).map (Value.int .i64))) := own_later (show World.ownsRow _ _ _ _ _ _ _ from HM7.out) b8
    have HRV8 : Hid (w8.ownsRow w3.heap.size 3 1 (.slice sa k sc) k (R.map (Value.int .i64))) := own_later (show World.ownsRow _ _ _ _ _ _ _ from HRV7.out) b8
    have HPV8 : Hid (w8.ownsRow w3.heap.size 3 1 (.slice pa k pc) k ((R.map (rootP N)).map (Value.int .i64))) := own_later (show World.ownsRow _ _ _ _ _ _ _ from HPV7.out) b8
    have HH8 : Hid (Hp w2.heap.size w8 S q 300 (laidO refsB N)) := HH7.out.later b8
    have HS8 : Hid (Sl obE 2 w8 (.slice a2 N.length c2) (N.map toV)) := Sl.later obE_stable HS7.out b8
    have HI8 : Hid (w8.ownsRow w7.heap.size 3 1 (.slice a8 (liveI refsB N R).length c8) (liveI refsB N R).length ((ints (liveI refsB N R)).map (Value.int .i64))) := own8
    have hcnt := cnt (f := refsB) hnd hlow
    have hw140 : (wordsO (laidO refsB N)).length ≤ 140 := by
      rw [← pl_all, laid_len, pl_laid]
      have := plN_le N o3 N.length
      omega
    clear own8 HOR HG7 HM7 HRV7 HPV7 HH7 HS7 b8 b07
    have htl := (live_good refsB (laidO refsB N) (R.map (rootP N))).total
    rw [HTOT.out, ← preI_all] at htl
    have hp140 : Hid (∀ s, preI N (liveI refsB N R) s ≤ 140) := fun s => by
      have := preI_le N (liveI refsB N R) s
      omega
    have HTT : Hid (total (laidO refsB N) (live refsB (laidO refsB N) (R.map (rootP N))) = preI N (liveI refsB N R) (liveI refsB N R).length) := by
      show _ = _
      rw [HTOT.out, preI_all]
    have hI140 : (liveI refsB N R).length ≤ 140 := by omega
    have HND : Hid ((liveI refsB N R).Nodup) := hnd
    have HLW : Hid (∀ b ∈ liveI refsB N R, b < N.length) := fun b hb => by have := hlow b hb; rwa [laid_len] at this
    clear htl HTOT hnd hlow hcnt hw140
    generalize liveI refsB N R = I at *
    go_wp2_with fail
    go_loopw [17, 18, 19] (fun tv uv i wr => ∃ (s : Nat), i = .int .i64 s ∧ s ≤ I.length ∧ uv = .int .i64 (preI N I s : Int) ∧ Hid (wr.ownsRow w8.heap.size 3 1 tv s ((preL N I s).map (Value.int .i64))) ∧ Below w8.heap.size w8 wr) (fun _ _ i _ => I.length - (intOf i).toNat)
    case atStart => exact ⟨0, rfl, by omega, rfl, World.ownsRow_nil _ _ _ _, Below.refl _ _⟩
    case round =>
      obtain ⟨s, rfl, hs, rfl, HTV, bq⟩ := hrel
      by_cases hls : s < I.length
      · have HJ : Hid (s < I.length) := hls
        obtain ⟨b, hIb⟩ : ∃ b, I[s]? = some b := ⟨_, List.getElem?_eq_getElem hls⟩
        have hbN := HLW.out b (List.mem_of_getElem? hIb)
        obtain ⟨o, hNo⟩ : ∃ o, N[b]? = some o := ⟨_, List.getElem?_eq_getElem hbN⟩
        have hsu := preI_succ N I s b o hIb hNo
        have hps := hp140.out s
        have hw5 := o3 _ (List.mem_of_getElem? hNo)
        obtain ⟨K, ws⟩ := o
        dsimp only at hsu hw5
        have HLS : Hid (preL N I (s + 1) = preL N I s ++ [(preI N I s : Int)]) := preL_succ N I s
        have HSU : Hid _ := hsu
        clear hsu
        generalize preI N I s = P at *
        obtain ⟨ta, tc, htv⟩ := own_sl HTV.out
        subst htv
        have ka := alloc1 wr (.cells #[.int .i64 (P : Int)] 3)
        have R6 : Hid _ := own_later (show World.ownsRow _ _ _ _ _ _ _ from HTV.out) ka
        have HNW : Hid _ := news_one wr (.int .i64 (P : Int)) 3
        have HONE : Hid (∀ u ∈ ([.int .i64 (P : Int)] : List Value), u.oneCell' = true) := by intro u hu; rw [List.mem_singleton.1 hu]; rfl
        have kk := bq.trans (ka.mono bq.size)
        have hB := kk.size
        have d1 : decide ((s : Int) < (I.length : Int)) = true := by rw [decide_eq_true_eq]; omega
        have d2 : decide (s < I.length) = true := by rw [decide_eq_true_eq]; omega
        clear ka
        go_upto_region 26 with (at_builtin; refine wpList_append_lies _ rfl (.tmp 116) (.tmp 118) 23 rfl w8.heap.size 3 iN (.int .i64 0) 1 8 Try.underlying23 hiN hzN0 hzN1 hzN2 rfl (by decide) (.slice ta s tc) s ((preL N I s).map (Value.int .i64)) rfl R6.out ⟨wr.heap.size, 0, none⟩ 1 1 [.int .i64 (P : Int)] rfl rfl HNW.out HONE.out (by decide) (by unfold maxLen; omega) (by omega) hB _ rfl ?_; intro g' cap' w9 own9 g9 hat9 hlt9)
        have kk9 := kk.grown g9 hB (fun kx e => (World.ownsRow.lt R6.out kx e).1)
        have HTV9 : Hid (w9.ownsRow w8.heap.size 3 1 (.slice (some ⟨g', 0, none⟩) (s + 1) cap') (s + 1) ((preL N I (s + 1)).map (Value.int .i64))) := by
          show World.ownsRow _ _ _ _ _ _ _
          rw [HLS.out, List.map_append]
          exact own9
        obtain ⟨gi, ci, e6, _, _, _, _⟩ := own_some (own_later (show World.ownsRow _ _ _ _ _ _ _ from HI8.out) kk9) (by omega)
        simp only [Value.slice.injEq, true_and] at e6
        obtain ⟨rfl, rfl⟩ := e6
        have y0 := own_cell (own_later (show World.ownsRow _ _ _ _ _ _ _ from HI8.out) kk9) s (.int .i64 (b : Int)) (by rw [List.getElem?_map, Coll.ints_at I s b hIb]; rfl)
        obtain ⟨bb, off, aw, cw, ha2, z0, z1, hxx⟩ := obs_at' (Sl.later obE_stable HS8.out kk9) b K ws hNo
        subst ha2
        have d3 : decide ((b : Int) < (N.length : Int)) = true := by rw [decide_eq_true_eq]; omega
        have d4 : decide (b < N.length) = true := by rw [decide_eq_true_eq]; omega
        have HEND : Hid ((preI N I (s + 1) : Int) = (P : Int) + (2 + (ws.length : Int))) := by
          show _ = _
          rw [HSU.out]
          omega
        clear own9 g9 hat9 hlt9 hxx z0 R6 HNW HONE HTV hIb hNo HSU kk hB
        go_wp2_with fail
        go_roundw
        case rel =>
          first
          | exact ⟨s + 1, by go_num, HJ.out, by rw [HEND.out], HTV9, kk9⟩
          | ((repeat apply Exists.intro); exact ⟨⟨s + 1, by go_num, HJ.out, by rw [HEND.out], HTV9, kk9⟩, rfl⟩)
        case measure => have := HJ.out; simp [intOf]; omega
      · have es : s = I.length := by omega
        subst es
        have HTV0 : Hid (wr.ownsRow w8.heap.size 3 1 u17 I.length ((preL N I I.length).map (Value.int .i64))) := HTV
        obtain ⟨ta, tc, htv⟩ := own_sl HTV.out
        subst htv
        have HG9 : Hid (Hp w4.heap.size wr S5 q5 300 (copyO refsB N I)) := HG8.out.later bq
        have HM9 : Hid (wr.ownsRow w4.heap.size 3 1 (.slice a5 k c5) k ((R.map fun r => if 0 ≤ r then (posN N I r.toNat : Int) else -1).map (Value.int .i64))) := own_later (show World.ownsRow _ _ _ _ _ _ _ from HM8.out) bq
        have HRV9 : Hid (wr.ownsRow w3.heap.size 3 1 (.slice sa k sc) k (R.map (Value.int .i64))) := own_later (show World.ownsRow _ _ _ _ _ _ _ from HRV8.out) bq
        have HPV9 : Hid (wr.ownsRow w3.heap.size 3 1 (.slice pa k pc) k ((R.map (rootP N)).map (Value.int .i64))) := own_later (show World.ownsRow _ _ _ _ _ _ _ from HPV8.out) bq
        have HH9 : Hid (Hp w2.heap.size wr S q 300 (laidO refsB N)) := HH8.out.later bq
        have HS9 : Hid (Sl obE 2 wr (.slice a2 N.length c2) (N.map toV)) := Sl.later obE_stable HS8.out bq
        have HI9 : Hid (wr.ownsRow w7.heap.size 3 1 (.slice a8 I.length c8) I.length ((ints I).map (Value.int .i64))) := own_later (show World.ownsRow _ _ _ _ _ _ _ from HI8.out) bq
        have b09 := b08.trans (bq.mono b08.size)
        have d1 : decide ((I.length : Int) < (I.length : Int)) = false := by simp
        have d2 : decide (I.length < I.length) = false := by simp
        obtain ⟨wz, hwz⟩ : ∃ x, x = wr := ⟨_, rfl⟩
        subst hwz
        clear HTV HG8 HM8 HRV8 HPV8 HH8 HS8 HI8 bq b08
        go_wp2_with fail
        clear d1 d2
        go_loopw [20] (fun i wr => ∃ (s : Nat), i = .int .i64 s ∧ s ≤ k ∧ Hid (Below wz.heap.size wz wr)) (fun i _ => k - (intOf i).toNat)
        case atStart => exact ⟨0, rfl, by omega, Below.refl _ _⟩
        case round =>
          obtain ⟨s, rfl, hs, HBQ⟩ := hrel
          by_cases hls : s < k
          · have HJ : Hid (s < k) := hls
            obtain ⟨r, hRs⟩ : ∃ r, R[s]? = some r := ⟨_, List.getElem?_eq_getElem (by omega)⟩
            have hrl := hRlow r (List.mem_of_getElem? hRs)
            have hrow1 := own_later (show World.ownsRow _ _ _ _ _ _ _ from HRV9.out) HBQ.out
            have hrow2 := own_later (show World.ownsRow _ _ _ _ _ _ _ from HM9.out) HBQ.out
            obtain ⟨g1, c1, e6, _, _, _, _⟩ := own_some hrow1 (by omega)
            simp only [Value.slice.injEq, true_and] at e6
            obtain ⟨rfl, rfl⟩ := e6
            obtain ⟨g2, c3, e6, _, _, _, _⟩ := own_some hrow2 (by omega)
            simp only [Value.slice.injEq, true_and] at e6
            obtain ⟨rfl, rfl⟩ := e6
            have y1 := own_cell hrow1 s (.int .i64 r) (by rw [List.getElem?_map, hRs]; rfl)
            have y2 := own_cell hrow2 s (.int .i64 (if 0 ≤ r then (posN N I r.toNat : Int) else -1)) (by rw [List.getElem?_map, List.getElem?_map, hRs]; rfl)
            have d1 : decide ((s : Int) < (k : Int)) = true := by rw [decide_eq_true_eq]; omega
            have d2 : decide (s < k) = true := by rw [decide_eq_true_eq]; omega
            have kd := fun nn => below_draws wr.heap.size wr nn
            by_cases h0 : 0 ≤ r
            · have hrl2 := HRTL.out r (List.mem_of_getElem? hRs) h0
              rw [if_pos h0] at y2
              obtain ⟨b, hb⟩ : ∃ b : Nat, b = r.toNat := ⟨_, rfl⟩
              have hrb : r = (b : Int) := by omega
              rw [← hb] at y2 hrl2
              subst hrb
              obtain ⟨s', hs', hIs'⟩ := List.getElem_of_mem hrl2
              have hIs : I[s']? = some b := by rw [List.getElem?_eq_getElem hs', hIs']
              have hpp := preI_pos N I HND.out s' b hIs
              have hps := hp140.out s'
              rw [hpp] at y2
              have hrow3 := own_later (show World.ownsRow _ _ _ _ _ _ _ from HTV0.out) HBQ.out
              obtain ⟨g3, c4', e6, _, _, _, _⟩ := own_some hrow3 (by omega)
              simp only [Value.slice.injEq, true_and] at e6
              obtain ⟨rfl, rfl⟩ := e6
              have y3 := own_cell hrow3 s' (.int .i64 (preI N I s' : Int)) (by rw [List.getElem?_map, preL_at N I _ s' hs']; rfl)
              have HPL : Hid (∀ nn, Calls Try.prog 17 #[.slice a8 I.length c8, .int .i64 (b : Int)] (wr.drewN nn) fun e w' => e = .returned (.int .i64 (s' : Int)) ∧ w' = wr.drewN nn) := fun nn => by
                have hrow4 := own_later (show World.ownsRow _ _ _ _ _ _ _ from HI9.out) (HBQ.out.trans ((kd nn).mono HBQ.out.size))
                have := place_any a8 I.length c8 (ints I) (b : Int) (wr.drewN nn) (reads_of hrow4)
                rw [idx_ints I HND.out s' b hIs] at this
                exact this.mono fun _ _ h => ⟨h.1, h.2.symm⟩
              have d3 : decide ((b : Int) < 0) = false := by rw [decide_eq_false_iff_not]; omega
              have d4 : decide ((0 : Int) ≤ (b : Int)) = true := by rw [decide_eq_true_eq]; omega
              have d5 : decide ((s' : Int) < (I.length : Int)) = true := by rw [decide_eq_true_eq]; omega
              have d6 : decide (s' < I.length) = true := by rw [decide_eq_true_eq]; omega
              clear hrow1 hrow2 hrow3 hRs hrl2 hIs' hIs hpp kd hb
              generalize preI N I s' = P at *
              go_upto_region 30 with fail
              go_quiet ((go_at_call 17; exact Calls.quiet_of_same (HPL.out _)))
              have hb2 : Hid (Below wz.heap.size wz (wr.drewN nq)) := HBQ.out.trans ((below_draws wr.heap.size wr nq).mono HBQ.out.size)
              generalize wr.drewN nq = w9 at *
              go_wp2_with fail
              go_roundw
              case rel =>
                first
                | exact ⟨s + 1, by go_num, HJ.out, hb2⟩
                | ((repeat apply Exists.intro); exact ⟨⟨s + 1, by go_num, HJ.out, hb2⟩, rfl⟩)
              case measure => have := HJ.out; simp [intOf]; omega
            · have hr1 : r = -1 := by omega
              subst hr1
              rw [if_neg h0] at y2
              clear hrow1 hrow2 hRs h0 kd
              go_upto_region 30 with fail
              go_quiet (fail)
              have hb2 : Hid (Below wz.heap.size wz (wr.drewN nq)) := HBQ.out.trans ((below_draws wr.heap.size wr nq).mono HBQ.out.size)
              generalize wr.drewN nq = w9 at *
              go_wp2_with fail
              go_roundw
              case rel =>
                first
                | exact ⟨s + 1, by go_num, HJ.out, hb2⟩
                | ((repeat apply Exists.intro); exact ⟨⟨s + 1, by go_num, HJ.out, hb2⟩, rfl⟩)
              case measure => have := HJ.out; simp [intOf]; omega
          · have es : s = k := by omega
            subst es
            have d1 : decide ((s : Int) < (s : Int)) = false := by simp
            have d2 : decide (s < s) = false := by simp
            obtain ⟨wy, hwy⟩ : ∃ x, x = wr := ⟨_, rfl⟩
            subst hwy
            have b0y := b09.trans (HBQ.out.mono b09.size)
            have HGY : Hid (Hp w4.heap.size wy S5 q5 300 (copyO refsB N I)) := HG9.out.later HBQ.out
            have HTY : Hid (wy.ownsRow w8.heap.size 3 1 (.slice ta I.length tc) I.length ((preL N I I.length).map (Value.int .i64))) := own_later (show World.ownsRow _ _ _ _ _ _ _ from HTV0.out) HBQ.out
            have HPY : Hid (wy.ownsRow w3.heap.size 3 1 (.slice pa s pc) s ((R.map (rootP N)).map (Value.int .i64))) := own_later (show World.ownsRow _ _ _ _ _ _ _ from HPV9.out) HBQ.out
            have HHY : Hid (Hp w2.heap.size wy S q 300 (laidO refsB N)) := HH9.out.later HBQ.out
            have HSY : Hid (Sl obE 2 wy (.slice a2 N.length c2) (N.map toV)) := Sl.later obE_stable HS9.out HBQ.out
            have HIY : Hid (wy.ownsRow w7.heap.size 3 1 (.slice a8 I.length c8) I.length ((ints I).map (Value.int .i64))) := own_later (show World.ownsRow _ _ _ _ _ _ _ from HI9.out) HBQ.out
            clear HG9 HM9 HRV9 HPV9 HH9 HS9 HI9 HTV0 HBQ b09 HRTL
            go_wp2_with fail
            clear d1 d2
            go_loopw [21] (fun i wr => ∃ (t : Nat), i = .int .i64 t ∧ t ≤ I.length ∧ Hid (Below wy.heap.size wy wr)) (fun i _ => I.length - (intOf i).toNat)
            case atStart => exact ⟨0, rfl, by omega, Below.refl _ _⟩
            case round =>
              obtain ⟨t, rfl, ht, HBR⟩ := hrel
              by_cases hlt : t < I.length
              · have HJ : Hid (t < I.length) := hlt
                obtain ⟨b, hIb⟩ : ∃ b, I[t]? = some b := ⟨_, List.getElem?_eq_getElem hlt⟩
                have hbN := HLW.out b (List.mem_of_getElem? hIb)
                obtain ⟨o, hNo⟩ : ∃ o, N[b]? = some o := ⟨_, List.getElem?_eq_getElem hbN⟩
                obtain ⟨cf1, cf2, cf3⟩ := copy_facts N I HLW.out t b o hIb hNo
                have hcl := HCL.out t b o hIb hNo
                have hw5 := o3 _ (List.mem_of_getElem? hNo)
                have hxb := o1.w _ (List.mem_of_getElem? hNo)
                obtain ⟨K, ws⟩ := o
                dsimp only at hw5 hxb cf1 cf2 cf3 hcl
                have HCF : Hid _ := cf3
                have HCC : Hid _ := hcl
                have HXB : Hid (∀ x ∈ ws, x ≤ N.length) := hxb
                have hrow1 := own_later (show World.ownsRow _ _ _ _ _ _ _ from HIY.out) HBR.out
                have hrow2 := own_later (show World.ownsRow _ _ _ _ _ _ _ from HTY.out) HBR.out
                obtain ⟨g1, c1, e6, _, _, _, _⟩ := own_some hrow1 (by omega)
                simp only [Value.slice.injEq, true_and] at e6
                obtain ⟨rfl, rfl⟩ := e6
                obtain ⟨g2, c3, e6, _, _, _, _⟩ := own_some hrow2 (by omega)
                simp only [Value.slice.injEq, true_and] at e6
                obtain ⟨rfl, rfl⟩ := e6
                have y1 := own_cell hrow1 t (.int .i64 (b : Int)) (by rw [List.getElem?_map, Coll.ints_at I t b hIb]; rfl)
                have y2 := own_cell hrow2 t (.int .i64 (preI N I t : Int)) (by rw [List.getElem?_map, preL_at N I _ t hlt]; rfl)
                obtain ⟨bb, off, aw, cw, ha2, z0, z1, hxx⟩ := obs_at' (Sl.later obE_stable HSY.out HBR.out) b K ws hNo
                subst ha2
                have HWC : Hid (∀ (k x : Nat), ws[k]? = some x → ∃ bw offw, aw = some ⟨bw, offw, none⟩ ∧ wr.cell? ⟨bw, offw + k, none⟩ = some (.int .i64 (x : Int))) := hxx
                have hp := hp140.out t
                have d1 : decide ((t : Int) < (I.length : Int)) = true := by rw [decide_eq_true_eq]; omega
                have d2 : decide (t < I.length) = true := by rw [decide_eq_true_eq]; omega
                have d3 : decide ((b : Int) < (N.length : Int)) = true := by rw [decide_eq_true_eq]; omega
                have d4 : decide (b < N.length) = true := by rw [decide_eq_true_eq]; omega
                have ka := alloc1 wr (.cells #[.int .i64 (K : Int), .slice aw ws.length cw] 36)
                have HBX : Hid ((wr.alloc (.cells #[.int .i64 (K : Int), .slice aw ws.length cw] 36)).heap[wr.heap.size]? = some (.cells #[.int .i64 (K : Int), .slice aw ws.length cw] 36 (0, 0))) := blk_new wr _ _
                have y2a := cellOn y2 ka
                have HGA : Hid (Hp w4.heap.size (wr.alloc (.cells #[.int .i64 (K : Int), .slice aw ws.length cw] 36)) S5 q5 300 (copyO refsB N I)) := HGY.out.later (HBR.out.trans (ka.mono HBR.out.size))
                have HBA : Hid (Below wr.heap.size wr (wr.alloc (.cells #[.int .i64 (K : Int), .slice aw ws.length cw] 36))) := ka
                clear hrow1 hrow2 hxx hcl cf3 hxb hIb hNo ka
                generalize hPe : preI N I t = P at *
                have HPE : Hid (preI N I t = P) := hPe
                clear hPe
                obtain ⟨wo, hwo⟩ : ∃ x, x = wr := ⟨_, rfl⟩
                subst hwo
                go_upto_region 36 with fail
                generalize wo.alloc (.cells #[.int .i64 (K : Int), .slice aw ws.length cw] 36) = wb at *
                have x0 := blk_cell HBX.out 0
                have x1 := blk_cell HBX.out 1
                simp only [List.getElem?_toArray, List.getElem?_cons_zero, List.getElem?_cons_succ] at x0 x1
                have HKN : Hid (∀ nn, Calls Try.prog 18 #[.pointer (some ⟨q5, 0, none⟩), .int .i64 (P : Int)] (wb.drewN nn) fun e w' => e = .returned (.int .i64 (K : Int)) ∧ w' = wb.drewN nn) := fun nn => by
                  have := kind_any _ _ _ _ _ _ (P : Int) (HGA.out.later (below_draws _ wb nn))
                  rw [cf1] at this
                  exact this.mono fun _ _ h => ⟨h.1, h.2.symm⟩
                have HLN : Hid (∀ nn, Calls Try.prog 19 #[.pointer (some ⟨q5, 0, none⟩), .int .i64 (P : Int)] (wb.drewN nn) fun e w' => e = .returned (.int .i64 (ws.length : Int)) ∧ w' = wb.drewN nn) := fun nn => by
                  have := len_any _ _ _ _ _ _ (P : Int) (HGA.out.later (below_draws _ wb nn))
                  rw [cf2] at this
                  exact this.mono fun _ _ h => ⟨h.1, h.2.symm⟩
                clear y1 y2 z0 z1 d3 d4
                go_quiet (first | (go_at_call 18; exact Calls.quiet_of_same (HKN.out _)) | (go_at_call 19; exact Calls.quiet_of_same (HLN.out _)))
                have kq := below_draws wb.heap.size wb nq
                have HBX2 : Hid ((wb.drewN nq).heap[wo.heap.size]? = some (.cells #[.int .i64 (K : Int), .slice aw ws.length cw] 36 (0, 0))) := blk_on HBX.out kq
                have HBW2 : Hid (Below wo.heap.size wo (wb.drewN nq)) := HBA.out.trans (kq.mono HBA.out.size)
                generalize wb.drewN nq = wx at *
                clear x0 x1 y2a kq HBX HKN HLN HGA HBA cf1 cf2
                have HYW : Hid (Below wy.heap.size wy wx) := HBR.out.trans (HBW2.out.mono HBR.out.size)
                go_wp2_with fail
                clear d1 d2
                go_loopw [23] (fun kk wr => ∃ (k' : Nat), kk = .int .i64 k' ∧ k' ≤ ws.length ∧ Hid (Below wx.heap.size wx wr)) (fun kk _ => 5 - (intOf kk).toNat)
                case atStart => exact ⟨0, rfl, by omega, Below.refl _ _⟩
                case round =>
                  obtain ⟨k', rfl, hk', HBK⟩ := hrel
                  have hbx := blk_on (show wx.heap[wo.heap.size]? = some _ from HBX2.out) HBK.out
                  have x0 := blk_cell hbx 0
                  have x1 := blk_cell hbx 1
                  simp only [List.getElem?_toArray, List.getElem?_cons_zero, List.getElem?_cons_succ] at x0 x1
                  clear hbx
                  by_cases hlk : k' < ws.length
                  · have HJK : Hid (k' < ws.length) := hlk
                    obtain ⟨x, hxk⟩ : ∃ x, ws[k']? = some x := ⟨_, List.getElem?_eq_getElem hlk⟩
                    have hx20 := HXB.out x (List.mem_of_getElem? hxk)
                    obtain ⟨bw', offw, haw, z2⟩ := HWC.out k' x hxk
                    subst haw
                    have hbo := HBW2.out.trans (HBK.out.mono HBW2.out.size)
                    have z2 := cellOn z2 hbo
                    have hby := HYW.out.trans (HBK.out.mono HYW.out.size)
                    have hrf := refs_any K k' wr
                    have hrow2 := own_later (show World.ownsRow _ _ _ _ _ _ _ from HTY.out) hby
                    have y2 := own_cell hrow2 t (.int .i64 (preI N I t : Int)) (by rw [List.getElem?_map, preL_at N I _ t HJ.out]; rfl)
                    rw [HPE.out] at y2
                    have d1 : decide ((k' : Int) < (ws.length : Int)) = true := by rw [decide_eq_true_eq]; omega
                    have d2 : decide (k' < ws.length) = true := by rw [decide_eq_true_eq]; omega
                    have d3 : decide ((t : Int) < (I.length : Int)) = true := by rw [decide_eq_true_eq]; exact_mod_cast HJ.out
                    have d4 : decide (t < I.length) = true := by rw [decide_eq_true_eq]; exact HJ.out
                    have htI := HJ.out
                    cases hq : refsB K k'
                    · rw [hq] at hrf
                      have HGT : Hid (Calls Try.prog 20 #[.pointer (some ⟨q5, 0, none⟩), .int .i64 (P : Int), .int .i64 (k' : Int)] wr fun e w' => e = .returned (.int .i32 (x : Int)) ∧ wr = w') := by
                        have := get_any _ _ _ _ _ _ (P : Int) (k' : Int) (HGY.out.later hby)
                        rw [HCF.out k' x hxk, if_neg (by rw [hq]; rintro ⟨h, _⟩; cases h)] at this
                        exact this
                      clear hxk hrow2
                      go_wp2_with fail
                      refine hrf.mono ?_
                      rintro e w' ⟨rfl, hw⟩
                      have hw := hw.symm
                      subst hw
                      go_wp2_with fail
                      refine HGT.out.mono ?_
                      rintro e w' ⟨rfl, rfl⟩
                      go_wp2_with fail
                      go_roundw
                      case rel =>
                        first
                        | exact ⟨k' + 1, by go_num, HJK.out, HBK⟩
                        | ((repeat apply Exists.intro); exact ⟨⟨k' + 1, by go_num, HJK.out, HBK⟩, rfl⟩)
                      case measure => have := HJK.out; simp [intOf]; omega
                    · rw [hq] at hrf
                      by_cases h0 : 0 < x
                      · have hxm := HCC.out k' x hxk hq h0
                        obtain ⟨s', hs', hIs'⟩ := List.getElem_of_mem hxm
                        have hIs : I[s']? = some (x - 1) := by rw [List.getElem?_eq_getElem hs', hIs']
                        have hpp := preI_pos N I HND.out s' (x - 1) hIs
                        have hps := hp140.out s'
                        have hrow4 := own_later (show World.ownsRow _ _ _ _ _ _ _ from HIY.out) hby
                        have hpl := place_any (some ⟨g1, 0, none⟩) I.length c8 (ints I) ((x - 1 : Nat) : Int) wr (reads_of hrow4)
                        rw [idx_ints I HND.out s' (x - 1) hIs] at hpl
                        have y3 := own_cell hrow2 s' (.int .i64 (preI N I s' : Int)) (by rw [List.getElem?_map, preL_at N I _ s' hs']; rfl)
                        have e1 : (x : Int) - 1 = ((x - 1 : Nat) : Int) := by omega
                        rw [← e1] at hpl
                        have HPLh : Hid (Calls Try.prog 17 #[.slice (some ⟨g1, 0, none⟩) I.length c8, .int .i64 ((x : Int) - 1)] wr fun e w' => e = .returned (.int .i64 (s' : Int)) ∧ wr = w') := hpl
                        have HGT : Hid (Calls Try.prog 20 #[.pointer (some ⟨q5, 0, none⟩), .int .i64 (P : Int), .int .i64 (k' : Int)] wr fun e w' => e = .returned (.int .i32 ((preI N I s' : Int) + 1)) ∧ wr = w') := by
                          have := get_any _ _ _ _ _ _ (P : Int) (k' : Int) (HGY.out.later hby)
                          rw [HCF.out k' x hxk, if_pos ⟨hq, h0⟩, hpp] at this
                          exact this
                        have e0 : 0 < (x : Int) := by omega
                        have d5 : decide ((0 : Int) < (x : Int)) = true := by rw [decide_eq_true_eq]; omega
                        have d6 : decide (0 < x) = true := by rw [decide_eq_true_eq]; omega
                        have d7 : decide ((s' : Int) < (I.length : Int)) = true := by rw [decide_eq_true_eq]; omega
                        have d8 : decide (s' < I.length) = true := by rw [decide_eq_true_eq]; omega
                        clear hpl hrow4 hIs hIs' hxm hpp hxk hrow2 e1
                        generalize preI N I s' = Q at *
                        go_wp2_with fail
                        refine hrf.mono ?_
                        rintro e w' ⟨rfl, hw⟩
                        have hw := hw.symm
                        subst hw
                        go_wp2_with fail
                        refine HPLh.out.mono ?_
                        rintro e w' ⟨rfl, rfl⟩
                        go_wp2_with fail
                        refine HGT.out.mono ?_
                        rintro e w' ⟨rfl, rfl⟩
                        go_wp2_with fail
                        go_roundw
                        case rel =>
                          first
                          | exact ⟨k' + 1, by go_num, HJK.out, HBK⟩
                          | ((repeat apply Exists.intro); exact ⟨⟨k' + 1, by go_num, HJK.out, HBK⟩, rfl⟩)
                        case measure => have := HJK.out; simp [intOf]; omega
                      · have HGT : Hid (Calls Try.prog 20 #[.pointer (some ⟨q5, 0, none⟩), .int .i64 (P : Int), .int .i64 (k' : Int)] wr fun e w' => e = .returned (.int .i32 (x : Int)) ∧ wr = w') := by
                          have := get_any _ _ _ _ _ _ (P : Int) (k' : Int) (HGY.out.later hby)
                          rw [HCF.out k' x hxk, if_neg (fun e => h0 e.2)] at this
                          exact this
                        have d5 : decide ((0 : Int) < (x : Int)) = false := by rw [decide_eq_false_iff_not]; omega
                        have d6 : decide (0 < x) = false := by rw [decide_eq_false_iff_not]; omega
                        clear hxk hrow2
                        go_wp2_with fail
                        refine hrf.mono ?_
                        rintro e w' ⟨rfl, hw⟩
                        have hw := hw.symm
                        subst hw
                        go_wp2_with fail
                        refine HGT.out.mono ?_
                        rintro e w' ⟨rfl, rfl⟩
                        go_wp2_with fail
                        go_roundw
                        case rel =>
                          first
                          | exact ⟨k' + 1, by go_num, HJK.out, HBK⟩
                          | ((repeat apply Exists.intro); exact ⟨⟨k' + 1, by go_num, HJK.out, HBK⟩, rfl⟩)
                        case measure => have := HJK.out; simp [intOf]; omega
                  · have ek : k' = ws.length := by omega
                    subst ek
                    have d1 : decide ((ws.length : Int) < (ws.length : Int)) = false := by simp
                    have d2 : decide (ws.length < ws.length) = false := by simp
                    have HEND : Hid (Below wy.heap.size wy wr) := HYW.out.trans (HBK.out.mono HYW.out.size)
                    go_wp2_with fail
                    go_roundw
                    case rel =>
                      first
                      | exact ⟨t + 1, by go_num, HJ.out, HEND⟩
                      | ((repeat apply Exists.intro); exact ⟨⟨t + 1, by go_num, HJ.out, HEND⟩, rfl⟩)
                    case measure => have := HJ.out; simp [intOf]; omega
              · have et : t = I.length := by omega
                subst et
                have d1 : decide ((I.length : Int) < (I.length : Int)) = false := by simp
                have d2 : decide (I.length < I.length) = false := by simp
                have hG := HGY.out.later HBR.out
                have HU := used_any _ _ _ _ _ _ _ hG.raw
                have hcw := copy_words N I
                rw [hcw] at HU
                have HSZ := size_any _ _ _ _ _ _ _ hG.raw
                have hH := HHY.out.later HBR.out
                have hP := own_later (show World.ownsRow _ _ _ _ _ _ _ from HPY.out) HBR.out
                have HLV := live_any refsB _ rf_refs _ _ _ _ _ _ _ _ _ _ hH (reads_of hP) (by omega)
                rw [HTT.out] at HLV
                have b0r := b0y.trans (HBR.out.mono b0y.size)
                clear hG hH hP hcw
                go_wp2_with fail
                refine HU.mono ?_
                rintro e w' ⟨rfl, rfl⟩
                go_wp2_with fail
                refine HSZ.mono ?_
                rintro e w' ⟨rfl, rfl⟩
                go_wp2_with fail
                refine HLV.mono ?_
                rintro e wv ⟨rfl, bv⟩
                go_wp2_with fail
                go_ret
                exact ⟨rfl, b0r.trans (bv.mono b0r.size)⟩

/-! ### The row -/
theorem own : ownKnob Try.prog.godebug = none := by kernel_rfl
theorem laidOut : laidOutB Try.prog = true := by kernel_rfl
set_option maxRecDepth 100000 in
theorem lifted (os : Os) (started : os.Started) (H : Type) (enc : TypeId × Value → H) :
    ReturnsInHanded {} Try.checked os 3 .any (Rows.copyAllSpec.pre6 enc Try.prog Try.f3 Rows.copyAllRow.domain false) (Rows.copyAllSpec.post enc Try.prog Try.f3 false true false false) := by
  refine returnsInHanded_of_change (C := Try.checked) own started (by kernel_rfl) Try.func3
    (ChangeSpec.witness6 (enc := enc) (C := Try.checked) false ⟨#[], #[.slice none 0 0, .slice none 0 0], []⟩ 8 (by kernel_rfl) (by kernel_rfl) (by kernel_rfl) (by kernel_rfl)) ?_
  intro W base args ds gs before hval0 hW hcnd _
  have hval : ∀ (j : Nat) t v, Try.f3.params[j]? = some t → args[j]? = some v → Value.okWide Try.prog W .any base t v := hval0
  have hW' := hW
  obtain ⟨p, q, hA0, hV, rfl, hfz, hnd⟩ := hW
  have hA : DataW.TrodAll enc Try.prog W 0 (fun _ => true) true Try.f3.params.toList args.toList ds p := hA0
  rw [Try.params3] at hA hval
  obtain ⟨v0, vs0, d0, ds0, p0, q0, hargs, rfl, rfl, h0, r0⟩ := trodAll_cons hA
  obtain ⟨v1, vs1, d1, ds1, p1, q1, rfl, rfl, rfl, h1, r1⟩ := trodAll_cons r0
  obtain ⟨rfl, rfl, rfl⟩ := trodAll_nil r1
  obtain rfl : args = #[v0, v1] := by cases args; simp_all
  obtain ⟨rfl, rfl⟩ := trodVars_none hV
  obtain ⟨a0, len0, cap0, rfl⟩ := okWide_slice Try.underlying22 (hval 0 22 v0 rfl rfl)
  have k0 := h0
  have lt0 : ∀ x ∈ p0, x.block < W.heap.size := by obtain ⟨m, hm⟩ := k0; exact DataW.trod_lt m _ _ _ hm
  obtain ⟨z0, w0⟩ : ∃ L, Sl obE 2 W (.slice a0 len0 cap0) L := by
    obtain ⟨fuel, hf⟩ := h0
    obtain ⟨v, L, e, hL⟩ := open_obs hf
    simp [Value.cells] at e
    subst e
    exact ⟨L, hL⟩
  obtain ⟨a1, len1, cap1, rfl⟩ := okWide_slice Try.underlying23 (hval 1 23 v1 rfl rfl)
  have k1 := h1
  have lt1 : ∀ x ∈ p1, x.block < W.heap.size := by obtain ⟨m, hm⟩ := k1; exact DataW.trod_lt m _ _ _ hm
  obtain ⟨z1, w1⟩ : ∃ zs, IsRow .i64 W a1 len1 cap1 zs := by
    obtain ⟨fuel, hf⟩ := h1
    rcases open_ints Try.underlying23 Try.underlying3 (by kernel_rfl) hf with ⟨hcs, _⟩ | ⟨x, l, c, zs, hcs, _, hl, hm, hz, _, hcell, hwz⟩
    · simp [Value.cells] at hcs
      obtain ⟨rfl, rfl, rfl⟩ := hcs
      exact ⟨[], .inl ⟨rfl, rfl, rfl, rfl⟩⟩
    · simp [Value.cells] at hcs
      obtain ⟨rfl, rfl, rfl⟩ := hcs
      exact ⟨zs, .inr ⟨_, rfl, hl, hm, by simpa using hz, hcell, hwz⟩⟩
  clear hA0 hval0
  refine (walk a0 len0 cap0 z0 a1 len1 cap1 z1 W w0 w1).mono fun e W' ⟨he, bel⟩ => ?_
  subst he
  exact ⟨_, rfl, _, _, _, [], _, [], hW', trodAll_mk1 (shut_bool Try.underlying4 _), (trodAll_cons_mk (Below.trod laidOut (by kernel_rfl) (of_decide_eq_true (by kernel_rfl)) k0 bel lt0) (trodAll_cons_mk (Below.trod laidOut (by kernel_rfl) (of_decide_eq_true (by kernel_rfl)) k1 bel lt1) trodAll_mk0)), rfl, bel.frame _, fun h => by cases h⟩

theorem over : Rows.copyAllRow.holds Try.pinned (OpenSpec.ofChange Rows.copyAllSpec) :=
  OpenClaim.holds_of_wide 3 Try.f3 rfl rfl rfl rfl rfl rfl rfl ⟨rfl, rfl, rfl, rfl, rfl⟩ rfl rfl rfl rfl rfl (by kernel_rfl) Try.func3 (by kernel_rfl)
    (of_decide_eq_true (by kernel_rfl)) (by unfold Func.isWrapper; first | (rw [if_pos (by decide +kernel)]; kernel_rfl) | (rw [if_neg (by decide +kernel)]; exact ⟨rfl, rfl⟩))
    (fun os started H enc _ => lifted os started H enc)

end CopyAll

theorem copyAll_holds : Rows.CopyAllSaid := CopyAll.over
#print axioms copyAll_holds
end Go.Proofs.Ytogohjnpgdiddaa
