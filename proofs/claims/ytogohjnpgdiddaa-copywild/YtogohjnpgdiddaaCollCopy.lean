/- collect's Copy and Live. -/
import Derived.Test.YtogohjnpgdiddaaCollTurn
import Derived.Test.YtogohjnpgdiddaaHeapRow
import Derived.OwnWalk
namespace Go.Proofs.Ytogohjnpgdiddaa
namespace Coll
open Mem Heap
open Go.RowKit
set_option linter.unusedVariables false
set_option linter.unusedSimpArgs false
set_option maxRecDepth 100000

theorem copy_nil (rf rs : Value) (w : World) : Calls Try.prog 13 #[.pointer none, rf, rs] w fun e w' => e = .returned (.tuple #[.pointer none, .slice none 0 0]) ∧ w = w' := by
  go_enter Try.func13, Try.ntmps13
  go_wp2_with fail
  go_ret2
  exact ⟨rfl, rfl⟩
theorem live_nil (rf rs : Value) (w : World) : Calls Try.prog 23 #[.pointer none, rf, rs] w fun e w' => e = .returned (.int .i64 0) ∧ w = w' := by
  go_enter Try.func23, Try.ntmps23
  go_wp2_with fail
  refine (copy_nil _ _ _).mono ?_
  rintro e w' ⟨rfl, rfl⟩
  go_wp2_with fail
  refine (used_nil _).mono ?_
  rintro e w' ⟨rfl, rfl⟩
  go_wp2_with fail
  go_ret
  exact ⟨rfl, rfl⟩
theorem root_step (os : List Ob) (rs : List Int) (n : Nat) : rootN os rs n <+: rootN os rs (n + 1) := add_prefix _ _ _
theorem root_le (os : List Ob) (rs : List Int) (n : Nat) : ∀ k, rootN os rs n <+: rootN os rs (n + k)
  | 0 => List.prefix_refl _
  | k + 1 => (root_le os rs n k).trans (root_step os rs (n + k))
theorem root_fin (f : Nat → Nat → Bool) (os : List Ob) (rs : List Int) (j : Nat) (hj : j < rs.length) : rootN os rs (j + 1) <+: live f os rs ∧ placeR os (rootN os rs (j + 1)) (rs.getD j 0) = placeR os (live f os rs) (rs.getD j 0) := by
  have h1 : rootN os rs (j + 1) <+: live f os rs := by
    obtain ⟨k, hk⟩ := Nat.exists_eq_add_of_le (show j + 1 ≤ rs.length by omega)
    have := root_le os rs (j + 1) k
    rw [← hk] at this
    exact this.trans (clo_prefix f os _ _ _)
  refine ⟨h1, (place_fin h1 (fun h => ?_)).symm⟩
  exact add_mem h
theorem root_map (os : List Ob) (rs : List Int) (j : Nat) : (rootN os rs j).map (obAt os) ++ ((rootN os rs (j + 1)).drop (rootN os rs j).length).map (obAt os) = (rootN os rs (j + 1)).map (obAt os) := by
  obtain ⟨e, he⟩ := root_step os rs j
  rw [← he, List.drop_left, List.map_append]
theorem take_mid (pre : List Nat) (a : Nat) (post : List Nat) (j : Nat) (h : pre.length = j) : (pre ++ a :: post).take (j + 1) = pre ++ [a] ∧ (pre ++ a :: post).drop (j + 1) = post := by
  subst h
  rw [show pre ++ a :: post = (pre ++ [a]) ++ post by simp]
  exact ⟨List.take_left' (by simp), List.drop_left' (by simp)⟩
theorem turn_len (f : Nat → Nat → Bool) (os : List Ob) (fin : List Nat) (b : Nat) : (turnO f os fin b).v.length + 2 = sz os b := by simp [turnO, partO, part_len, sz]
theorem mid_words (f : Nat → Nat → Bool) (os : List Ob) (fin out : List Nat) (j : Nat) : (wordsO ((out.take j).map (turnO f os fin) ++ (out.drop j).map (obAt os))).length = total os out := by
  rw [wordsO_append, List.length_append, words_sum os _ (turn_len f os fin), words_sum os _ (fun b => rfl), ← total_append, List.take_append_drop]
/-- How the walk over the copies goes on. -/
theorem clo_on {f : Nat → Nat → Bool} {os : List Ob} {j F : Nat} {out fin : List Nat} (hg : Good os out) (hF : F = (wordsO os).length) (hj : j < out.length) (hc : clo f os (F - j) j out = fin) : out = out.take j ++ out[j] :: out.drop (j + 1) ∧ scanA f os out out[j] <+: fin ∧ clo f os (F - (j + 1)) (j + 1) (scanA f os out out[j]) = fin := by
  have h1 := len_total os out
  have h2 := hg.total
  have h3 : F - j = (F - (j + 1)) + 1 := by omega
  rw [h3, clo_step (List.getElem?_eq_getElem hj)] at hc
  refine ⟨?_, ?_, hc⟩
  · rw [← List.drop_eq_getElem_cons hj, List.take_append_drop]
  · rw [← hc]
    exact clo_prefix f os _ _ _
theorem own_lt {w : World} {B e n g cap m : Nat} {xs : List Value} (h : w.ownsRow B e 1 (.slice (some ⟨g, 0, none⟩) n cap) m xs) (_ : True = True) : g < w.heap.size := by
  obtain ⟨h1, h2⟩ := h
  rcases h2 with h2 | ⟨g', cap', cur, e1, hb, hg, r⟩
  · simp at h2
  · cases e1
    exact lt_of_block hg
theorem grown_below {w w' : World} (h : w.grownBy w' none) : Below w.heap.size w w' := (Below.refl _ _).grown h (Nat.le_refl _) (fun k e => by cases e)
theorem start_mv {B : Nat} {w w1 w2 : World} {p n : Nat} {os : List Ob} {Bf : Nat} {Sf : Nat → Prop} (HF : Hp Bf w Sf p n os) (hB : B = w.heap.size) (b1 : Below w.heap.size w w1) (HT : Hp B w1 (fun k => k = B) B n []) (own : w2.ownsRow B 21 1 (.slice (some ⟨w1.heap.size, 0, none⟩) (wordsO os).length (wordsO os).length) (wordsO os).length (List.replicate (wordsO os).length (.int .i32 0))) (g2 : w1.grownBy w2 none) :
    Mv B (w2.alloc (.cells #[.pointer (some ⟨p, 0, none⟩), .pointer (some ⟨B, 0, none⟩), .slice (some ⟨w1.heap.size, 0, none⟩) (wordsO os).length (wordsO os).length] 58)) p n os w2.heap.size (fun k => k = B ∨ k = w1.heap.size) B [] [] ∧ Below w.heap.size w (w2.alloc (.cells #[.pointer (some ⟨p, 0, none⟩), .pointer (some ⟨B, 0, none⟩), .slice (some ⟨w1.heap.size, 0, none⟩) (wordsO os).length (wordsO os).length] 58)) := by
  have k2 := grown_below g2
  have hBl := HT.lt
  have hgl : w1.heap.size < w2.heap.size := by
    exact own_lt own rfl
  have ka := alloc1 w2 (.cells #[.pointer (some ⟨p, 0, none⟩), .pointer (some ⟨B, 0, none⟩), .slice (some ⟨w1.heap.size, 0, none⟩) (wordsO os).length (wordsO os).length] 58)
  have b2 := b1.trans (k2.mono b1.size)
  have b3 := b2.trans (ka.mono b2.size)
  have hs := alloc_size w2 (.cells #[.pointer (some ⟨p, 0, none⟩), .pointer (some ⟨B, 0, none⟩), .slice (some ⟨w1.heap.size, 0, none⟩) (wordsO os).length (wordsO os).length] 58)
  refine ⟨⟨⟨Bf, Sf, HF.later b3, fun k e => by rw [hB]; exact (HF.raw.low k e).2⟩, ⟨_, _, (HT.later k2).later ka, blk_new _ _ _, ?_, fun k e => .inl e, fun k e => by cases e; exact ⟨.inr rfl, fun e => by have e : w1.heap.size = B := e; omega⟩⟩, ⟨by omega, fun e => by rcases e with e | e <;> omega⟩, ?_, Good.nil os, rfl⟩, b3⟩
  · have := own_later own ka
    rw [moved_nil, List.map_replicate]
    exact this
  · rintro k (e | e)
    · omega
    · subst e; constructor
      · omega
      · omega
set_option maxHeartbeats 4000000 in
theorem copy_any (f : Nat → Nat → Bool) (rf : Value) (hrf : Rf rf f) (Bf : Nat) (w : World) (Sf : Nat → Prop) (p n : Nat) (os : List Ob) (ra : Option Addr) (m rc : Nat) (rs : List Int) (HF : Hp Bf w Sf p n os) (hr : Reads .i64 w ra m rc rs) (hm : m ≤ 10000000) :
    Calls Try.prog 13 #[.pointer (some ⟨p, 0, none⟩), rf, .slice ra m rc] w fun e w' => ∃ q S v, e = .returned (.tuple #[.pointer (some ⟨q, 0, none⟩), v]) ∧ Hp w.heap.size w' S q n ((live f os rs).map (turnO f os (live f os rs))) ∧ w'.ownsRow w.heap.size 3 1 v m ((rs.map (placeR os (live f os rs))).map (Value.int .i64)) ∧ (∀ k, v.ownBlock = some k → ¬ S k) ∧ Below w.heap.size w w' := by
  obtain ⟨iW, hiW, hzW0, hzW1, hzW2⟩ := info_parts infoW
  obtain ⟨iN, hiN, hzN0, hzN1, hzN2⟩ := info_parts infoN
  have hu := HF.used
  have HSZ := size_any _ _ _ _ _ _ _ HF.raw
  have HN := new_any (n : Int) w (by omega)
  have hC : clampN (n : Int) = n := by unfold clampN; omega
  rw [hC] at HN
  clear hC
  obtain ⟨B, hB⟩ : ∃ B, B = w.heap.size := ⟨_, rfl⟩
  rw [← hB] at HN ⊢
  have HBw : Hid _ := hB
  clear hB
  have HUSh : Hid (∀ wx, Below w.heap.size w wx → Calls Try.prog 21 #[.pointer (some ⟨p, 0, none⟩)] wx fun e w' => e = .returned (.int .i64 ((wordsO os).length : Int)) ∧ wx = w') := fun wx hb => used_any _ _ _ _ _ _ _ (HF.later hb).raw
  have HFh : Hid _ := HF
  have HRS : Hid _ := hr
  have HRF : Hid (Rf rf f) := hrf
  have hrl := hr.len
  clear hr hrf HF
  go_enter Try.func13, Try.ntmps13
  go_wp2_with fail
  refine HSZ.mono ?_
  rintro e w' ⟨rfl, rfl⟩
  go_wp2_with fail
  refine HN.mono ?_
  rintro e w1 ⟨rfl, HT, b1⟩
  rw [HBw.out] at b1
  have HU1 := HUSh.out w1 b1
  have HTh : Hid _ := HT
  clear HT
  go_wp2_with fail
  refine HU1.mono ?_
  rintro e w' ⟨rfl, rfl⟩
  clear HU1 HN HSZ
  go_upto_region 4 with (at_make; refine wpList_make_full _ rfl _ _ 29 rfl B 21 iW (.int .i32 0) 1 Try.underlying29 hiW hzW0 hzW1 _ _ _ _ (wordsO os).length rfl rfl rfl rfl (by rw [hzW2]; omega) (by unfold maxLen; omega) (by have := b1.size; have := HBw.out; omega) ?_; intro w2 own2 gr2)
  rw [Nat.mul_one, show (Value.int .i32 0).cells = #[.int .i32 0] from rfl, toList_madeCells_one] at own2
  obtain ⟨hMv, bA⟩ := start_mv HFh.out HBw.out b1 HTh.out own2 gr2
  generalize hA : w2.alloc _ = wA at *
  generalize hpm : w2.heap.size = pm at *
  generalize hg0 : w1.heap.size = g0 at *
  clear own2 gr2 hA
  have HM0 : Hid _ := hMv
  clear hMv hpm hg0 HTh HUSh
  go_upto_region 5 with (at_make; refine wpList_make_full _ rfl _ _ 23 rfl B 3 iN (.int .i64 0) 1 Try.underlying23 hiN hzN0 hzN1 _ _ _ _ m rfl rfl rfl rfl (by rw [hzN2]; omega) (by unfold maxLen; omega) (by have := bA.size; have := HBw.out; omega) ?_; intro w3 own3 gr3)
  rw [Nat.mul_one, show (Value.int .i64 0).cells = #[.int .i64 0] from rfl, toList_madeCells_one] at own3
  have k3 := grown_below gr3
  have bw3 := bA.trans (k3.mono bA.size)
  have HM3 : Hid _ := HM0.out.later k3
  obtain ⟨gp, hgp⟩ : ∃ g, g = wA.heap.size := ⟨_, rfl⟩
  rw [← hgp] at own3 ⊢
  have HG3 : Hid (B ≤ gp ∧ gp < w3.heap.size ∧ ¬ (gp = B ∨ gp = g0) ∧ gp ≠ pm) := by
    have h1 := own_lt own3 rfl
    have h2 := HM0.out.low
    have h3 := HBw.out
    have h4 := bA.size
    refine ⟨by omega, h1, fun e => ?_, fun e => ?_⟩
    · have := (h2 gp e).2; omega
    · obtain ⟨_, ⟨S, vm, _, q2, _⟩, _⟩ := HM0.out
      have := lt_of_block q2; omega
  have HP3 : Hid (w3.ownsRow B 3 1 (.slice (some ⟨gp, 0, none⟩) m m) m ((layV (rs.map (placeR os (live f os rs))) 0).map (Value.int .i64))) := by
    show World.ownsRow _ _ _ _ _ _ _
    rw [lay_zero, List.map_replicate, List.length_map, hrl]
    exact own3
  clear own3 gr3 k3 hgp HM0
  go_wp2_with fail
  go_loopw [29] (fun i wr => ∃ (j : Nat) (M1 : Nat → Prop), i = .int .i64 j ∧ j ≤ m ∧ Hid (Mv B wr p n os pm M1 B ((rootN os rs j).map (obAt os)) (rootN os rs j)) ∧ Hid (wr.ownsRow B 3 1 (.slice (some ⟨gp, 0, none⟩) m m) m ((layV (rs.map (placeR os (live f os rs))) j).map (Value.int .i64))) ∧ Hid (B ≤ gp ∧ gp < wr.heap.size ∧ ¬ M1 gp ∧ gp ≠ pm) ∧ Below w.heap.size w wr) (fun i _ => m - (intOf i).toNat)
  case atStart => exact ⟨0, _, rfl, by omega, HM3, HP3, HG3, bw3⟩
  case round =>
    clear HM3 HP3 HG3 bw3
    obtain ⟨j, M1, rfl, hj, HM, HP, HG, bw⟩ := hrel
    by_cases hlj : j < m
    · have HJ : Hid (j < m) := hlj
      have d1 : decide ((j : Int) < (m : Int)) = true := by simp; omega
      have d2 : decide (j < m) = true := by simp; omega
      obtain ⟨hr1, hr2, hr3, hr4, hr5⟩ := HRS.out.later bw
      obtain ⟨rb, off, rfl, hcc⟩ := hr5 (by omega)
      have x0 := hcc j hlj
      clear hr1 hr2 hr3 hr4 hr5 hcc
      have hxr : (rs.map (placeR os (live f os rs))).getD j 0 = placeR os (live f os rs) (rs.getD j 0) := by
        simp [List.getD, show j < rs.length by omega]
      obtain ⟨hp1, hp2⟩ := root_fin f os rs j (by omega)
      have HX : Hid _ := hp2
      have hmv := move_any B wr p n os pm M1 B _ _ (rs.getD j 0) HM.out
      have HMV : Hid (Calls Try.prog 30 #[.pointer (some ⟨pm, 0, none⟩), .int .i64 (rs.getD j 0)] wr fun e w' => e = .returned (.int .i64 (placeR os (live f os rs) (rs.getD j 0))) ∧ ∃ M', Mv B w' p n os pm M' B ((rootN os rs (j + 1)).map (obAt os)) (rootN os rs (j + 1)) ∧ Off M1 wr w' ∧ ∀ k, M' k → M1 k ∨ wr.heap.size ≤ k) := by
        show Calls _ _ _ _ _
        have e1 : addRef os (rootN os rs j) (rs.getD j 0) = rootN os rs (j + 1) := rfl
        rw [e1, hp2, root_map] at hmv
        exact hmv
      have hls := lay_succ (rs.map (placeR os (live f os rs))) j (by rw [List.length_map]; omega)
      rw [hxr] at hls
      have HLS : Hid _ := hls
      clear hmv hp1 hp2 hxr hls hlj
      generalize rs.getD j 0 = X at *
      generalize placeR os (live f os rs) X = R at *
      go_wp2_with fail
      refine HMV.out.mono ?_
      rintro e w4 ⟨rfl, M2, hM2, o2, l2⟩
      obtain ⟨hg1, hg2, hg3, hg4⟩ := HG.out
      have own4 := own_off (show World.ownsRow _ _ _ _ _ _ _ from HP.out) o2 (fun k e e' => by cases e; exact hg3 e')
      have hjj : j < (layV (rs.map (placeR os (live f os rs))) j).length := by rw [lay_len, List.length_map]; have := HJ.out; omega
      obtain ⟨yv, hyv⟩ : ∃ yv, (layV (rs.map (placeR os (live f os rs))) j)[j]? = some yv := ⟨_, List.getElem?_eq_getElem hjj⟩
      have y1 := own_cell own4 j (.int .i64 yv) (by rw [List.getElem?_map, hyv]; rfl)
      have y2 := own_free own4 j
      have HNM : Hid (Mv B (w4.setCell ⟨gp, j, none⟩ (.int .i64 R)) p n os pm M2 B ((rootN os rs (j + 1)).map (obAt os)) (rootN os rs (j + 1))) := hM2.off (Off.set (S := fun k => k = gp) w4 ⟨gp, j, none⟩ (.int .i64 R) rfl) (fun k e => by
        subst e
        refine ⟨hg1, fun e => ?_, hg4⟩
        rcases l2 k e with h | h
        · exact hg3 h
        · omega)
      have HNP : Hid ((w4.setCell ⟨gp, j, none⟩ (.int .i64 R)).ownsRow B 3 1 (.slice (some ⟨gp, 0, none⟩) m m) m ((layV (rs.map (placeR os (live f os rs))) (j + 1)).map (Value.int .i64))) := by
        show World.ownsRow _ _ _ _ _ _ _
        rw [HLS.out, List.map_set]
        exact own_set own4 j (.int .i64 R) HJ.out
      have HNG : Hid (B ≤ gp ∧ gp < (w4.setCell ⟨gp, j, none⟩ (.int .i64 R)).heap.size ∧ ¬ M2 gp ∧ gp ≠ pm) := ⟨hg1, by have := (Off.set (S := fun k => k = gp) w4 ⟨gp, j, none⟩ (.int .i64 R) rfl).size; have := o2.size; omega, (fun e => by
        rcases l2 gp e with h | h
        · exact hg3 h
        · omega), hg4⟩
      have HNB : Hid (Below w.heap.size w (w4.setCell ⟨gp, j, none⟩ (.int .i64 R))) := by
        have q1 := bw.trans (o2.to (B := w.heap.size) (fun k e => by have := (HM.out.low k e).1; have := HBw.out; omega) bw.size)
        exact q1.trans ((Off.set (S := fun k => k = gp) w4 ⟨gp, j, none⟩ (.int .i64 R) rfl).to (fun k e => by subst e; have := HBw.out; omega) q1.size)
      clear hM2 o2 l2 hg1 hg2 hg3 hg4 own4 hjj hyv HM HP HG HMV
      go_wp2_with fail
      go_roundw
      case rel =>
        first
        | exact ⟨j + 1, M2, by go_num, HJ.out, HNM, HNP, HNG, HNB.out⟩
        | ((repeat apply Exists.intro); exact ⟨⟨j + 1, M2, by go_num, HJ.out, HNM, HNP, HNG, HNB.out⟩, rfl⟩)
      case measure => have := HJ.out; simp [intOf]; omega
    · have ej : j = m := by omega
      subst ej
      have d1 : decide ((j : Int) < (j : Int)) = false := by simp
      have d2 : decide (j < j) = false := by simp
      go_wp2_with fail
      clear d1 d2
      go_loopw [12] (fun i wr => ∃ (k T : Nat) (out : List Nat) (M1 : Nat → Prop), i = .int .i64 (T : Int) ∧ Hid (T = total os (out.take k)) ∧ k ≤ out.length ∧ Hid (clo f os ((wordsO os).length - k) k out = live f os rs) ∧ Hid (Mv B wr p n os pm M1 B ((out.take k).map (turnO f os (live f os rs)) ++ (out.drop k).map (obAt os)) out) ∧ Hid (wr.ownsRow B 3 1 (.slice (some ⟨gp, 0, none⟩) j j) j ((rs.map (placeR os (live f os rs))).map (Value.int .i64))) ∧ Hid (B ≤ gp ∧ gp < wr.heap.size ∧ ¬ M1 gp ∧ gp ≠ pm) ∧ Below w.heap.size w wr) (fun i _ => (wordsO os).length - (intOf i).toNat)
      case atStart =>
        have hP := HP.out
        rw [← hrl, show rs.length = (rs.map (placeR os (live f os rs))).length by simp, lay_all, List.length_map, hrl] at hP
        have hM := HM.out
        refine ⟨0, 0, _, M1, rfl, (show 0 = total os ((rootN os rs j).take 0) by rfl), Nat.zero_le _, (show clo f os ((wordsO os).length - 0) 0 _ = live f os rs from ?_), hM, hP, HG, bw⟩
        rw [← hrl]
        rfl
      case round =>
        clear HM HP HG bw
        obtain ⟨k, T, out, M1, rfl, HT, hk, HC, HM, HP, HG, bw⟩ := hrel
        obtain ⟨va, vc, x0, x1, x2⟩ := mv_cells HM.out
        obtain ⟨S, hto, hSM⟩ := mv_to HM.out
        have hgood := HM.out.good
        have htot := hgood.total
        by_cases hlk : k < out.length
        · obtain ⟨c1, c2, c3⟩ := clo_on hgood rfl hlk HC.out
          have hpl : (out.take k).length = k := by rw [List.length_take]; omega
          have hdr : out.drop k = out[k] :: out.drop (k + 1) := List.drop_eq_getElem_cons hlk
          have hmv := HM.out
          rw [hdr] at hmv
          generalize hpre : out.take k = pre at *
          generalize hmid : out[k] = a at *
          generalize hpost : out.drop (k + 1) = post at *
          have hT := HT.out
          have hw1 : (wordsO (pre.map (turnO f os (live f os rs)))).length = T := by rw [words_sum os _ (turn_len f os _), hT]
          rw [c1] at hmv c2 c3
          have htt : T + sz os a ≤ (wordsO os).length := by
            rw [c1, total_append, total_cons] at htot
            omega
          have hts := turn_any f rf HRF.out B wr p n os pm M1 B pre a post (live f os rs) T hT hmv c2
          have HTS : Hid (Calls Try.prog 31 #[.pointer (some ⟨pm, 0, none⟩), .int .i64 (T : Int), rf] wr fun e w' => e = .returned (.tuple #[]) ∧ ∃ M' post', scanA f os (pre ++ a :: post) a = pre ++ a :: post' ∧ Mv B w' p n os pm M' B ((pre ++ [a]).map (turnO f os (live f os rs)) ++ post'.map (obAt os)) (pre ++ a :: post') ∧ Off M1 wr w' ∧ ∀ k, M' k → M1 k ∨ wr.heap.size ≤ k) := hts
          have HH := has_any _ _ _ _ _ _ (T : Int) hto
          have hhas : hasO (pre.map (turnO f os (live f os rs)) ++ (out.drop k).map (obAt os)) (T : Int) = true := by
            rw [hdr, List.map_cons, ← hw1]
            exact has_at _ _ _
          rw [hhas] at HH
          have HC3 : Hid _ := c3
          have hZ : sz os a = (obAt os a).v.length + 2 := rfl
          have HTL : Hid ((turnO f os (live f os rs) a).v.length = (obAt os a).v.length) := by
            show _ = _
            have := turn_len f os (live f os rs) a
            omega
          have HW1 : Hid _ := hw1
          have HPL : Hid _ := hpl
          rw [hZ] at htt
          generalize hZZ : (obAt os a).v.length = Z at *
          have HZZ : Hid _ := hZZ
          clear c1 c2 c3 hdr hmv hpre hmid hpost hT hw1 hts hhas hZ hto hSM hgood htot hpl hlk hZZ HC
          obtain ⟨hg1, hg2, hg3, hg4⟩ := HG.out
          have HG1 : Hid _ := hg1
          have HG2 : Hid _ := hg2
          have HG3 : Hid _ := hg3
          have HG4 : Hid _ := hg4
          clear hg1 hg2 hg3 hg4 HG
          go_wp2_with fail
          refine HH.mono ?_
          rintro e w' ⟨rfl, rfl⟩
          clear HH
          go_wp2_with fail
          refine HTS.out.mono ?_
          rintro e w5 ⟨rfl, M2, post2, hsc, hM5, o5, l5⟩
          obtain ⟨va5, vc5, y0, y1, y2⟩ := mv_cells hM5
          obtain ⟨S5, hto5, _⟩ := mv_to hM5
          have HL := len_any _ _ _ _ _ _ (T : Int) hto5
          have hlen : lenO ((pre ++ [a]).map (turnO f os (live f os rs)) ++ post2.map (obAt os)) (T : Int) = (Z : Int) := by
            rw [List.map_append, List.append_assoc, ← HW1.out]
            refine (len_at _ _ _).trans ?_
            rw [HTL.out]
          rw [hlen] at HL
          obtain ⟨t1, t2⟩ := take_mid pre a post2 k HPL.out
          have HNM : Hid (Mv B w5 p n os pm M2 B (((pre ++ a :: post2).take (k + 1)).map (turnO f os (live f os rs)) ++ ((pre ++ a :: post2).drop (k + 1)).map (obAt os)) (pre ++ a :: post2)) := by
            show Mv _ _ _ _ _ _ _ _ _ _
            rw [t1, t2]
            exact hM5
          have HNT : Hid (T + (2 + Z) = total os ((pre ++ a :: post2).take (k + 1))) := by
            show _ = _
            rw [t1, total_snoc, ← HT.out]
            unfold sz
            rw [HZZ.out]
            omega
          have HNC : Hid (clo f os ((wordsO os).length - (k + 1)) (k + 1) (pre ++ a :: post2) = live f os rs) := by
            show _ = _
            rw [← hsc]
            exact HC3.out
          have HNP : Hid (w5.ownsRow B 3 1 (.slice (some ⟨gp, 0, none⟩) j j) j ((rs.map (placeR os (live f os rs))).map (Value.int .i64))) := own_off (show World.ownsRow _ _ _ _ _ _ _ from HP.out) o5 (fun k e e' => by cases e; exact HG3.out e')
          have HNG : Hid (B ≤ gp ∧ gp < w5.heap.size ∧ ¬ M2 gp ∧ gp ≠ pm) := ⟨HG1.out, by have := o5.size; have := HG2.out; omega, (fun e => by
            rcases l5 gp e with h | h
            · exact HG3.out h
            · have := HG2.out; omega), HG4.out⟩
          have HNB : Hid (Below w.heap.size w w5) := bw.trans (o5.to (B := w.heap.size) (fun k e => by have := (HM.out.low k e).1; have := HBw.out; omega) bw.size)
          have HNL : Hid (k + 1 ≤ (pre ++ a :: post2).length) := by
            show _ ≤ _
            have := HPL.out
            simp
            omega
          clear hsc hM5 o5 l5 hto5 hlen t1 t2 HC3 HTS HP HM y0 y2 x0 x1 x2
          go_wp2_with fail
          refine HL.mono ?_
          rintro e w' ⟨rfl, rfl⟩
          go_wp2_with fail
          go_roundw
          case rel =>
            first
            | exact ⟨k + 1, T + (2 + Z), _, M2, by go_num, HNT, HNL.out, HNC, HNM, HNP, HNG, HNB.out⟩
            | ((repeat apply Exists.intro); exact ⟨⟨k + 1, T + (2 + Z), _, M2, by go_num, HNT, HNL.out, HNC, HNM, HNP, HNG, HNB.out⟩, rfl⟩)
          case measure => simp [intOf]; omega
        · have ek : k = out.length := by omega
          have hfin : out = live f os rs := by rw [← HC.out, clo_stop (by omega)]
          have HH := has_any _ _ _ _ _ _ (T : Int) hto
          have hno : hasO ((out.take k).map (turnO f os (live f os rs)) ++ (out.drop k).map (obAt os)) (T : Int) = false := by
            apply no_at
            rw [mid_words, HT.out, ek, List.take_length]
            exact Int.le_refl _
          rw [hno] at HH
          have hres : (out.take k).map (turnO f os (live f os rs)) ++ (out.drop k).map (obAt os) = (live f os rs).map (turnO f os (live f os rs)) := by
            rw [ek, List.take_length, List.drop_length, List.map_nil, List.append_nil, ← hfin]
          rw [hres] at hto
          have HTO : Hid _ := hto
          have HSM : Hid _ := hSM
          clear hno hres hto hSM hfin ek hlk hgood htot
          go_wp2_with fail
          refine HH.mono ?_
          rintro e w' ⟨rfl, rfl⟩
          go_wp2_with fail
          go_ret2
          refine ⟨_, S, _, rfl, HTO.out, HP.out, fun k e e' => ?_, ?_⟩
          · cases e
            exact HG.out.2.2.1 (HSM.out _ e')
          · rw [HBw.out]
            exact bw
theorem live_any (f : Nat → Nat → Bool) (rf : Value) (hrf : Rf rf f) (Bf : Nat) (w : World) (Sf : Nat → Prop) (p n : Nat) (os : List Ob) (ra : Option Addr) (m rc : Nat) (rs : List Int) (HF : Hp Bf w Sf p n os) (hr : Reads .i64 w ra m rc rs) (hm : m ≤ 10000000) :
    Calls Try.prog 23 #[.pointer (some ⟨p, 0, none⟩), rf, .slice ra m rc] w fun e w' => e = .returned (.int .i64 (total os (live f os rs) : Int)) ∧ Below w.heap.size w w' := by
  have HC := copy_any f rf hrf Bf w Sf p n os ra m rc rs HF hr hm
  clear hrf HF hr
  go_enter Try.func23, Try.ntmps23
  go_wp2_with fail
  refine HC.mono ?_
  rintro e w1 ⟨q, S, v, rfl, h1, h2, h3, h4⟩
  obtain ⟨a, c, rfl⟩ := own_sl h2
  have HU := used_any _ _ _ _ _ _ _ h1.raw
  rw [words_sum os _ (turn_len f os _)] at HU
  clear h1 h2 h3 HC
  go_wp2_with fail
  refine HU.mono ?_
  rintro e w' ⟨rfl, rfl⟩
  go_wp2_with fail
  go_ret
  exact ⟨rfl, h4⟩
end Coll
end Go.Proofs.Ytogohjnpgdiddaa
