/- HeapOf over more than sixty words. (Written by tools/gen/genheapof.py.) -/
import Derived.Test.YtjcnjjbokmbfkaaHeapOfP
namespace Go.Proofs.Ytjcnjjbokmbfkaa
namespace HeapOf
open Mem Heap
open Go.RowKit
set_option linter.unusedVariables false
set_option linter.unusedSimpArgs false
set_option maxRecDepth 100000

set_option maxHeartbeats 8000000 in
theorem walkB (a : Option Addr) (len cap : Nat) (z : List Int) (n : Int) (w : World) (hz : IsRow .i32 w a len cap z) (h2 : (Lit.int .i64 n).wf = true) (hcase : 60 < len) :
    Calls Try.prog 4 #[.slice a len cap, .int .i64 n] w fun e w' => e = .returned (.bool true) ∧ Below w.heap.size w w' := by
  have hn := bounds_i64 h2
  have hmx := hz.max
  unfold maxLen at hmx
  obtain ⟨hR, hwf⟩ := hz.reads 60 (by omega)
  have hx32 : ∀ x ∈ z.take 60, Is32 x := fun x hx => is32_wf (hwf x hx)
  generalize z.take 60 = xs at *
  clear hz hwf h2
  obtain ⟨i0, hi0, hz0, hz1, hz2⟩ := info_parts infoW
  obtain ⟨iN, hiN, hzN0, hzN1, hzN2⟩ := info_parts infoN
  have d60 : decide (60 < (len : Int)) = true := by simp; omega
  have d60b : 60 < len := by omega
  go_enter Try.func4, Try.ntmps4
  go_wp2_with fail
  refine (begun_any _).mono ?_
  rintro e w1 ⟨rfl, b1⟩
  have hR1 := hR.later b1
  go_upto_region 10 with (at_builtin; refine wpList_reads _ rfl (.const (.slice none 0 0)) (.tmp 23) 31 rfl 21 i0 (.int .i32 0) .i32 4 Try.underlying31 hi0 hz0 hz1 hz2 rfl rfl a 60 cap xs rfl hR1 (by omega) (by omega) ?_; intro v6 w2 own b2; obtain ⟨va, vc, rfl⟩ := own_sl own)
  have hLx := hR.len
  have b12 := b1.trans (b2.mono b1.size)
  clear hR hR1
  obtain ⟨M, hM⟩ : ∃ M : Nat, M = 60 := ⟨_, rfl⟩
  generalize hV : Value.slice va 60 vc = V at *
  obtain rfl : V = .slice va M vc := by rw [hM]; exact hV.symm
  clear hV
  rw [← hM] at own hLx
  have hM61 : M ≤ 60 := by omega
  clear hM
  have hM60 : M ≤ 60 := by omega
  go_loopw [7, 8, 9] (fun m8 st at' wr => ∃ (pre : List Ob) (f : Nat), m8 = .bool true ∧ at' = .int .i64 ((wordsO pre).length : Int) ∧ (wordsO pre).length ≤ M ∧ Hid (xs = wordsO pre ++ xs.drop (wordsO pre).length) ∧ Hid (∀ o ∈ pre, Ob.Ok o) ∧ Hid (readO (M + 1) xs = (readO f (xs.drop (wordsO pre).length)).map (pre ++ ·)) ∧ M - (wordsO pre).length < f ∧ wr.ownsRow w.heap.size 3 1 st pre.length ((placesP pre).map (Value.int .i64)) ∧ wr.ownsRow w1.heap.size 21 1 (.slice va M vc) M (xs.map (Value.int .i32)) ∧ Below w.heap.size w wr) (fun _ _ at' _ => M - (intOf at').toNat)
  case atStart =>
    refine ⟨[], M + 1, rfl, rfl, Nat.zero_le _, ?_, ?_, ?_, by simp [wordsO], World.ownsRow_nil _ _ _ _, own, b12⟩
    · show xs = _
      simp [wordsO]
    · exact fun o ho => by cases ho
    · show readO (M + 1) xs = _
      simp [wordsO]
  case round =>
    clear own b12
    obtain ⟨pre, f, rfl, rfl, hA, hxs, hpre, hrest, hf, hst, hl, bw⟩ := hrel
    have hp2 := two_len pre
    by_cases hlt : (wordsO pre).length < M
    case pos =>
      obtain ⟨g, cap6, e6, _, _, hc1, hc2⟩ := own_some hl (by omega)
      simp only [Value.slice.injEq, true_and] at e6
      obtain ⟨rfl, rfl⟩ := e6
      have hdl : (xs.drop (wordsO pre).length).length = M - (wordsO pre).length := by rw [List.length_drop, hLx]
      have hx0 : (xs.drop (wordsO pre).length).getD 0 0 = xs.getD (wordsO pre).length 0 := by simp [List.getD]
      have hx1 : (xs.drop (wordsO pre).length).getD 1 0 = xs.getD ((wordsO pre).length + 1) 0 := by simp [List.getD]
      have big_false := fun h => @big_false (wordsO pre).length (xs.getD (wordsO pre).length 0) (xs.getD ((wordsO pre).length + 1) 0) M _ hx0 hx1 hdl hlt h
      have big_true := fun h1 h => @big_true (wordsO pre).length (xs.getD (wordsO pre).length 0) (xs.getD ((wordsO pre).length + 1) 0) M _ hx0 hx1 hdl h1 h
      obtain ⟨f, rfl⟩ : ∃ f', f = f' + 1 := ⟨f - 1, by omega⟩
      have hgX : ∀ i, i < M → (xs.map (Value.int .i32))[i]? = some (.int .i32 (xs.getD i 0)) := fun i hi => by rw [List.getElem?_map, List.getElem?_eq_getElem (by omega)]; simp [List.getD, List.getElem?_eq_getElem (show i < xs.length by omega)]
      have y0 := own_cell hl (wordsO pre).length _ (hgX _ hlt)
      by_cases h1 : (wordsO pre).length + 1 < M
      case neg =>
        have HNO : Hid (∀ N, ofO xs N = none) := fun N => by
          unfold ofO
          rw [hLx, hrest.out, read_stop f _ (by omega) (big_false (.inl h1))]
          split <;> rfl
        have OF := fun N hN => of_any (some ⟨g, 0, none⟩) M vc xs N wr (reads_of hl) hx32 (by omega) hN
        clear hrest hxs hpre hst hl hx32
        clear big_false big_true hx0 hx1 hdl
        generalize hGX0 : xs.getD (wordsO pre).length 0 = X0 at *
        generalize hGX1 : xs.getD ((wordsO pre).length + 1) 0 = X1 at *
        clear hGX0 hGX1
        generalize (wordsO pre).length = A at *
        have d0 : decide ((A : Int) < (M : Int)) = true := by simp; omega
        go_upto_region 16 with fail
        by_cases hmn : 100000 < n
        · go_wp2_with fail
          refine (OF (100000) (by omega)).mono ?_
          rintro e w5 h5
          rcases h5 with ⟨_, rfl, b5⟩ | ⟨os2, p5, S5, ho, _⟩
          case inr => rw [HNO.out] at ho; cases ho
          go_wp2_with fail
          go_ret
          exact ⟨rfl, bw.trans (b5.mono bw.size)⟩
        · go_wp2_with fail
          refine (OF (n) (by omega)).mono ?_
          rintro e w5 h5
          rcases h5 with ⟨_, rfl, b5⟩ | ⟨os2, p5, S5, ho, _⟩
          case inr => rw [HNO.out] at ho; cases ho
          go_wp2_with fail
          go_ret
          exact ⟨rfl, bw.trans (b5.mono bw.size)⟩
      case pos =>
        have y1 := own_cell hl ((wordsO pre).length + 1) _ (hgX _ h1)
        have h32 : ∀ i, i < M → Is32 (xs.getD i 0) := fun i hi => by
          rw [List.getD, List.getElem?_eq_getElem (by omega)]
          exact hx32 _ (List.getElem_mem _)
        obtain ⟨hb0, hb0'⟩ := h32 (wordsO pre).length (by omega)
        obtain ⟨hb1, hb1'⟩ := h32 ((wordsO pre).length + 1) (by omega)
        clear hgX h32
        cases c2 : decide (xs.getD (wordsO pre).length 0 < 0)
        case true =>
          have HNO : Hid (∀ N, ofO xs N = none) := fun N => by
            unfold ofO
            rw [hLx, hrest.out, read_stop f _ (by omega) (big_false (.inr (.inl (of_decide_eq_true c2))))]
            split <;> rfl
          have OF := fun N hN => of_any (some ⟨g, 0, none⟩) M vc xs N wr (reads_of hl) hx32 (by omega) hN
          clear hrest hxs hpre hst hl hx32
          clear big_false big_true hx0 hx1 hdl
          generalize hGX0 : xs.getD (wordsO pre).length 0 = X0 at *
          generalize hGX1 : xs.getD ((wordsO pre).length + 1) 0 = X1 at *
          clear hGX0 hGX1
          generalize (wordsO pre).length = A at *
          have d0 : decide ((A : Int) < (M : Int)) = true := by simp; omega
          go_upto_region 16 with fail
          by_cases hmn : 100000 < n
          · go_wp2_with fail
            refine (OF (100000) (by omega)).mono ?_
            rintro e w5 h5
            rcases h5 with ⟨_, rfl, b5⟩ | ⟨os2, p5, S5, ho, _⟩
            case inr => rw [HNO.out] at ho; cases ho
            go_wp2_with fail
            go_ret
            exact ⟨rfl, bw.trans (b5.mono bw.size)⟩
          · go_wp2_with fail
            refine (OF (n) (by omega)).mono ?_
            rintro e w5 h5
            rcases h5 with ⟨_, rfl, b5⟩ | ⟨os2, p5, S5, ho, _⟩
            case inr => rw [HNO.out] at ho; cases ho
            go_wp2_with fail
            go_ret
            exact ⟨rfl, bw.trans (b5.mono bw.size)⟩
        cases c3 : decide (10000 < xs.getD (wordsO pre).length 0)
        case true =>
          have HNO : Hid (∀ N, ofO xs N = none) := fun N => by
            unfold ofO
            rw [hLx, hrest.out, read_stop f _ (by omega) (big_false (.inr (.inr (.inl (of_decide_eq_true c3)))))]
            split <;> rfl
          have OF := fun N hN => of_any (some ⟨g, 0, none⟩) M vc xs N wr (reads_of hl) hx32 (by omega) hN
          clear hrest hxs hpre hst hl hx32
          clear big_false big_true hx0 hx1 hdl
          generalize hGX0 : xs.getD (wordsO pre).length 0 = X0 at *
          generalize hGX1 : xs.getD ((wordsO pre).length + 1) 0 = X1 at *
          clear hGX0 hGX1
          generalize (wordsO pre).length = A at *
          have d0 : decide ((A : Int) < (M : Int)) = true := by simp; omega
          go_upto_region 16 with fail
          by_cases hmn : 100000 < n
          · go_wp2_with fail
            refine (OF (100000) (by omega)).mono ?_
            rintro e w5 h5
            rcases h5 with ⟨_, rfl, b5⟩ | ⟨os2, p5, S5, ho, _⟩
            case inr => rw [HNO.out] at ho; cases ho
            go_wp2_with fail
            go_ret
            exact ⟨rfl, bw.trans (b5.mono bw.size)⟩
          · go_wp2_with fail
            refine (OF (n) (by omega)).mono ?_
            rintro e w5 h5
            rcases h5 with ⟨_, rfl, b5⟩ | ⟨os2, p5, S5, ho, _⟩
            case inr => rw [HNO.out] at ho; cases ho
            go_wp2_with fail
            go_ret
            exact ⟨rfl, bw.trans (b5.mono bw.size)⟩
        cases c4 : decide (xs.getD ((wordsO pre).length + 1) 0 < 0)
        case true =>
          have HNO : Hid (∀ N, ofO xs N = none) := fun N => by
            unfold ofO
            rw [hLx, hrest.out, read_stop f _ (by omega) (big_false (.inr (.inr (.inr (.inl (of_decide_eq_true c4))))))]
            split <;> rfl
          have OF := fun N hN => of_any (some ⟨g, 0, none⟩) M vc xs N wr (reads_of hl) hx32 (by omega) hN
          clear hrest hxs hpre hst hl hx32
          clear big_false big_true hx0 hx1 hdl
          generalize hGX0 : xs.getD (wordsO pre).length 0 = X0 at *
          generalize hGX1 : xs.getD ((wordsO pre).length + 1) 0 = X1 at *
          clear hGX0 hGX1
          generalize (wordsO pre).length = A at *
          have d0 : decide ((A : Int) < (M : Int)) = true := by simp; omega
          go_upto_region 16 with fail
          by_cases hmn : 100000 < n
          · go_wp2_with fail
            refine (OF (100000) (by omega)).mono ?_
            rintro e w5 h5
            rcases h5 with ⟨_, rfl, b5⟩ | ⟨os2, p5, S5, ho, _⟩
            case inr => rw [HNO.out] at ho; cases ho
            go_wp2_with fail
            go_ret
            exact ⟨rfl, bw.trans (b5.mono bw.size)⟩
          · go_wp2_with fail
            refine (OF (n) (by omega)).mono ?_
            rintro e w5 h5
            rcases h5 with ⟨_, rfl, b5⟩ | ⟨os2, p5, S5, ho, _⟩
            case inr => rw [HNO.out] at ho; cases ho
            go_wp2_with fail
            go_ret
            exact ⟨rfl, bw.trans (b5.mono bw.size)⟩
        cases c5 : decide (1000 < xs.getD ((wordsO pre).length + 1) 0)
        case true =>
          have HNO : Hid (∀ N, ofO xs N = none) := fun N => by
            unfold ofO
            rw [hLx, hrest.out, read_stop f _ (by omega) (big_false (.inr (.inr (.inr (.inr (.inl (of_decide_eq_true c5)))))))]
            split <;> rfl
          have OF := fun N hN => of_any (some ⟨g, 0, none⟩) M vc xs N wr (reads_of hl) hx32 (by omega) hN
          clear hrest hxs hpre hst hl hx32
          clear big_false big_true hx0 hx1 hdl
          generalize hGX0 : xs.getD (wordsO pre).length 0 = X0 at *
          generalize hGX1 : xs.getD ((wordsO pre).length + 1) 0 = X1 at *
          clear hGX0 hGX1
          generalize (wordsO pre).length = A at *
          have d0 : decide ((A : Int) < (M : Int)) = true := by simp; omega
          go_upto_region 16 with fail
          by_cases hmn : 100000 < n
          · go_wp2_with fail
            refine (OF (100000) (by omega)).mono ?_
            rintro e w5 h5
            rcases h5 with ⟨_, rfl, b5⟩ | ⟨os2, p5, S5, ho, _⟩
            case inr => rw [HNO.out] at ho; cases ho
            go_wp2_with fail
            go_ret
            exact ⟨rfl, bw.trans (b5.mono bw.size)⟩
          · go_wp2_with fail
            refine (OF (n) (by omega)).mono ?_
            rintro e w5 h5
            rcases h5 with ⟨_, rfl, b5⟩ | ⟨os2, p5, S5, ho, _⟩
            case inr => rw [HNO.out] at ho; cases ho
            go_wp2_with fail
            go_ret
            exact ⟨rfl, bw.trans (b5.mono bw.size)⟩
        cases c6 : decide ((M : Int) - ((wordsO pre).length : Int) - 2 < xs.getD ((wordsO pre).length + 1) 0)
        case true =>
          have HNO : Hid (∀ N, ofO xs N = none) := fun N => by
            unfold ofO
            rw [hLx, hrest.out, read_stop f _ (by omega) (big_false (.inr (.inr (.inr (.inr (.inr (of_decide_eq_true c6)))))))]
            split <;> rfl
          have OF := fun N hN => of_any (some ⟨g, 0, none⟩) M vc xs N wr (reads_of hl) hx32 (by omega) hN
          clear hrest hxs hpre hst hl hx32
          clear big_false big_true hx0 hx1 hdl
          generalize hGX0 : xs.getD (wordsO pre).length 0 = X0 at *
          generalize hGX1 : xs.getD ((wordsO pre).length + 1) 0 = X1 at *
          clear hGX0 hGX1
          generalize (wordsO pre).length = A at *
          have d0 : decide ((A : Int) < (M : Int)) = true := by simp; omega
          go_upto_region 16 with fail
          by_cases hmn : 100000 < n
          · go_wp2_with fail
            refine (OF (100000) (by omega)).mono ?_
            rintro e w5 h5
            rcases h5 with ⟨_, rfl, b5⟩ | ⟨os2, p5, S5, ho, _⟩
            case inr => rw [HNO.out] at ho; cases ho
            go_wp2_with fail
            go_ret
            exact ⟨rfl, bw.trans (b5.mono bw.size)⟩
          · go_wp2_with fail
            refine (OF (n) (by omega)).mono ?_
            rintro e w5 h5
            rcases h5 with ⟨_, rfl, b5⟩ | ⟨os2, p5, S5, ho, _⟩
            case inr => rw [HNO.out] at ho; cases ho
            go_wp2_with fail
            go_ret
            exact ⟨rfl, bw.trans (b5.mono bw.size)⟩
        obtain ⟨o, ho1, ho2, ho3, ho4, hok⟩ := read_step f _ (by omega) (fun x hx => hx32 x (List.mem_of_mem_drop hx)) (big_true h1 ⟨of_decide_eq_false c2, of_decide_eq_false c3, of_decide_eq_false c4, of_decide_eq_false c5, of_decide_eq_false c6⟩)
        have hon := hok.n
        have ea : wordsO (pre ++ [o]) = wordsO pre ++ obW o := by rw [wordsO_append, wordsO_cons]; simp [wordsO]
        have el : (wordsO (pre ++ [o])).length = (wordsO pre).length + (2 + o.v.length) := by rw [ea, List.length_append, obW_len]; omega
        have HR : Hid (readO (M + 1) xs = (readO f (xs.drop (wordsO (pre ++ [o])).length)).map ((pre ++ [o]) ++ ·)) := by
          show _ = _
          rw [hrest.out, ho1, List.drop_drop, el, Option.map_map, Nat.add_comm 2]
          congr 1
          funext t
          simp
        have HX : Hid (xs = wordsO (pre ++ [o]) ++ xs.drop (wordsO (pre ++ [o])).length) := by
          show _ = _
          have e1 : xs = wordsO pre ++ (obW o ++ xs.drop (wordsO (pre ++ [o])).length) := by
            conv => lhs; rw [hxs.out, ho2]
            rw [List.drop_drop, el, Nat.add_comm 2]
          rw [← List.append_assoc, ← ea] at e1
          exact e1
        have HPRE : Hid (∀ q ∈ pre ++ [o], Ob.Ok q) := fun q hq => by
          rcases List.mem_append.1 hq with hq | hq
          · exact hpre.out q hq
          · rw [List.mem_singleton.1 hq]; exact hok
        have hA2 : (wordsO (pre ++ [o])).length ≤ M := by rw [el]; rw [List.length_drop, hLx] at ho4; omega
        have hf2 : M - (wordsO (pre ++ [o])).length < f := by omega
        have hX1 : xs.getD ((wordsO pre).length + 1) 0 = (o.v.length : Int) := by rw [← ho3]; simp [List.getD]
        have hpl : (pre ++ [o]).length = pre.length + 1 := by simp
        have HPL : Hid (placesP (pre ++ [o]) = placesP pre ++ [((wordsO pre).length : Int)]) := places_snoc pre o
        have HLAST : Hid (∀ g' cap' (w7 : World), w7.ownsRow w.heap.size 3 1 (.slice (some ⟨g', 0, none⟩) (pre.length + 1) cap') (pre.length + 1) ((placesP pre).map (Value.int .i64) ++ [.int .i64 ((wordsO pre).length : Int)]) → w7.ownsRow w.heap.size 3 1 (.slice (some ⟨g', 0, none⟩) (pre.length + 1) cap') (pre ++ [o]).length ((placesP (pre ++ [o])).map (Value.int .i64))) := by
          intro g' cap' w7 h
          rw [HPL.out, hpl, List.map_append]
          exact h
        rw [hX1] at y1 c4 c5 c6 hb1 hb1'
        obtain ⟨sa, sc, rfl⟩ := own_sl hst
        have ka := alloc1 wr (.cells #[.int .i64 ((wordsO pre).length : Int)] 3)
        have hst2 := own_later hst ka
        have hl2 := own_later hl ka
        have HNW : Hid _ := news_one wr (.int .i64 ((wordsO pre).length : Int)) 3
        have kk := bw.trans (ka.mono bw.size)
        have hB := kk.size
        have hone : ∀ u ∈ ([.int .i64 ((wordsO pre).length : Int)] : List Value), u.oneCell' = true := by intro u hu; rw [List.mem_singleton.1 hu]; rfl
        have HONE : Hid _ := hone
        have HST : Hid _ := hst2
        have HL2 : Hid _ := hl2
        have HYX : Hid ((xs.map (Value.int .i32))[(wordsO pre).length + 1]? = some (.int .i32 (o.v.length : Int))) := by
          show _ = _
          rw [List.getElem?_map, List.getElem?_eq_getElem (by omega)]
          rw [List.getD, List.getElem?_eq_getElem (by omega), Option.getD_some] at hX1
          rw [hX1]
          rfl
        have hp2b : pre.length ≤ 60 := by omega
        have d0 : decide (((wordsO pre).length : Int) < (M : Int)) = true := by simp; omega
        clear big_true big_false hx0 hx1 hst hl hst2 hl2 hone hxs hrest hpre ho1 ho2 ho3 ho4 hok hX1 ea HPL hdl
        generalize hA3 : (wordsO (pre ++ [o])).length = A2 at *
        have HA3 : Hid _ := hA3
        generalize (wordsO pre).length = A at *
        generalize o.v.length = K at *
        generalize xs.getD A 0 = X0 at *
        clear hA3
        go_wp2_with (at_builtin; refine wpList_append_lies _ rfl (.tmp 78) (.tmp 80) 41 rfl w.heap.size 3 iN (.int .i64 0) 1 8 Try.underlying41 hiN hzN0 hzN1 hzN2 rfl (by decide) (.slice sa pre.length sc) pre.length ((placesP pre).map (Value.int .i64)) rfl HST.out ⟨wr.heap.size, 0, none⟩ 1 1 [.int .i64 (A : Int)] rfl rfl HNW.out HONE.out (by decide) (by unfold maxLen; omega) (by omega) hB _ rfl ?_; intro g' cap' w7 own7 g7 hat hlt7; have hl7 := World.ownsRow.kept HL2.out g7 (own_apart HL2.out HST.out (by decide)); have y7 := own_cell hl7 (A + 1) _ HYX.out; have HL7 : Hid _ := hl7; clear hl7)
        have kk7 := kk.grown g7 hB (fun k e => (World.ownsRow.lt HST.out k e).1)
        go_roundw
        case rel =>
          obtain rfl := HA3.out
          exact ⟨pre ++ [o], f, rfl, by rw [el]; go_num, hA2, HX, HPRE, HR, hf2, HLAST.out _ _ _ own7, HL7.out, kk7⟩
        case measure => simp [intOf]; omega
    case neg =>
      have hAm : (wordsO pre).length = M := by omega
      have hd : xs.drop (wordsO pre).length = [] := List.drop_eq_nil_of_le (by omega)
      have HRD : Hid (readO (M + 1) xs = some pre) := by
        show _ = _
        rw [hrest.out, hd]
        obtain ⟨f, rfl⟩ : ∃ f', f = f' + 1 := ⟨f - 1, by omega⟩
        simp [readO]
      have HXS : Hid (wordsO pre = xs) := by
        show _ = _
        have := hxs.out
        rw [hd, List.append_nil] at this
        exact this.symm
      obtain ⟨sa, sc, rfl⟩ := own_sl hst
      have OF := fun N hN => of_any va M vc xs N wr (reads_of hl) hx32 (by omega) hN
      have HST : Hid _ := hst
      have HL : Hid _ := hl
      clear hrest hxs hd hst hl hx32 hpre hf
      have d2 : decide (((wordsO pre).length : Int) < (M : Int)) = false := by simp; omega
      have d3 : ¬ ((wordsO pre).length < M) := hlt
      generalize hAg : (wordsO pre).length = A at *
      have HAG : Hid _ := hAg
      clear hAg
      by_cases k1 : 0 < n
      case pos =>
        by_cases k2 : 100000 < n
        case pos =>
          by_cases k3 : 1048576 < n
          case pos =>
            have k4 : (0 : Int) < 1048576 := by omega
            have dfit : decide ((M : Int) ≤ 1048576) = true := by simp; omega
            have HSO : Hid (ofO xs (100000) = some pre) := by
              show _ = _
              unfold ofO clampN
              rw [hLx, if_pos (by have := of_decide_eq_true dfit; omega), HRD.out]
            go_wp2_with fail
            refine (OF (100000) (by omega)).mono ?_
            rintro e w5 h5
            rcases h5 with ⟨hno, _⟩ | ⟨os2, p5, S5, ho, rfl, H5, hwo, b5⟩
            case inl => rw [HSO.out] at hno; cases hno
            obtain rfl := Option.some.inj (HSO.out.symm.trans ho)
            have HST5 : Hid _ := own_later HST.out b5
            have HL5 : Hid _ := own_later HL.out b5
            have b15 := bw.trans (b5.mono bw.size)
            have H5 : Hid _ := H5
            clear ho hwo
            go_upto_region 22 with fail
            go_loopw [12] (fun i wq => ∃ k : Nat, i = .int .i64 k ∧ k ≤ pre.length ∧ Hid (Hp wr.heap.size wq S5 p5 (clampN (100000)) pre) ∧ Hid (wq.ownsRow w.heap.size 3 1 (.slice sa pre.length sc) pre.length ((placesP pre).map (Value.int .i64))) ∧ Hid (wq.ownsRow w1.heap.size 21 1 (.slice va M vc) M (xs.map (Value.int .i32))) ∧ Below w.heap.size w wq) (fun i _ => pre.length - (intOf i).toNat)
            case atStart => exact ⟨0, rfl, Nat.zero_le _, H5, HST5, HL5, b15⟩
            case round =>
              clear H5 HST5 HL5 b15
              obtain ⟨k, rfl, hk, H6, HST6, HL6, b16⟩ := hrel
              by_cases hkn : k < pre.length
              · obtain ⟨f1, f2, f3, f4, f5, f6⟩ := at_facts pre k hkn
                have hst6 := HST6.out
                have hl6 := HL6.out
                rw [HXS.out] at f4 f5 f6
                rw [hLx] at f6
                obtain ⟨sg, scap, e6, _, _, hsc1, hsc2⟩ := own_some hst6 (by omega)
                simp only [Value.slice.injEq, true_and] at e6
                obtain ⟨rfl, rfl⟩ := e6
                obtain ⟨lg, lcap, e6, _, _, hlc1, hlc2⟩ := own_some hl6 (by omega)
                simp only [Value.slice.injEq, true_and] at e6
                obtain ⟨rfl, rfl⟩ := e6
                have z0 := own_cell hst6 k (.int .i64 ((wordsO (pre.take k)).length : Int)) (by rw [List.getElem?_map, places_at pre k hkn]; rfl)
                have z1 := own_cell hl6 (wordsO (pre.take k)).length (.int .i32 (pre[k].k : Int)) (by rw [List.getElem?_map, f4]; rfl)
                have z2 := own_cell hl6 ((wordsO (pre.take k)).length + 1) (.int .i32 (pre[k].v.length : Int)) (by rw [List.getElem?_map, f5]; rfl)
                have hok := H6.out.ok pre[k] (List.getElem_mem _)
                have hok1 := hok.k
                have hok2 := hok.n
                have CH : Hid (∀ nn, Calls Try.prog 17 #[.pointer (some ⟨p5, 0, none⟩), .int .i64 ((wordsO (pre.take k)).length : Int)] (wr.drewN nn) fun e w'' => e = .returned (.bool true) ∧ w'' = wr.drewN nn) := fun nn => by
                  have := has_any _ _ _ _ _ _ ((wordsO (pre.take k)).length : Int) (H6.out.later (below_draws _ wr nn))
                  rw [f1] at this
                  exact this.mono fun _ _ h => ⟨h.1, h.2.symm⟩
                have CK : Hid (∀ nn, Calls Try.prog 18 #[.pointer (some ⟨p5, 0, none⟩), .int .i64 ((wordsO (pre.take k)).length : Int)] (wr.drewN nn) fun e w'' => e = .returned (.int .i64 (pre[k].k : Int)) ∧ w'' = wr.drewN nn) := fun nn => by
                  have := kind_any _ _ _ _ _ _ ((wordsO (pre.take k)).length : Int) (H6.out.later (below_draws _ wr nn))
                  rw [f2] at this
                  exact this.mono fun _ _ h => ⟨h.1, h.2.symm⟩
                have CL : Hid (∀ nn, Calls Try.prog 19 #[.pointer (some ⟨p5, 0, none⟩), .int .i64 ((wordsO (pre.take k)).length : Int)] (wr.drewN nn) fun e w'' => e = .returned (.int .i64 (pre[k].v.length : Int)) ∧ w'' = wr.drewN nn) := fun nn => by
                  have := len_any _ _ _ _ _ _ ((wordsO (pre.take k)).length : Int) (H6.out.later (below_draws _ wr nn))
                  rw [f3] at this
                  exact this.mono fun _ _ h => ⟨h.1, h.2.symm⟩
                clear f1 f2 f3 f4 f5 hst6 hl6 hok
                have hp60 : pre.length ≤ 60 := by omega
                generalize (wordsO (pre.take k)).length = A at *
                generalize pre[k].k = KK at *
                generalize pre[k].v.length = KL at *
                generalize hpn : pre.length = N at *
                have HPN : Hid _ := hpn
                clear hpn
                have d1 : decide ((k : Int) < (N : Int)) = true := by simp; omega
                have e1 : IntKind.i64.wrap ((A : Int) + 1) = (A : Int) + 1 := by rw [IntKind.wrap_i64]; omega
                have e2 : IntKind.i64.wrap (KK : Int) = (KK : Int) := by rw [IntKind.wrap_i64]; omega
                have e3 : IntKind.i64.wrap (KL : Int) = (KL : Int) := by rw [IntKind.wrap_i64]; omega
                have e4 : (0 : Int) ≤ (A : Int) + 1 := by omega
                have e5 : (A : Int) + 1 < (M : Int) := by omega
                have e6 : (A : Int) < (M : Int) := by omega
                have e7 : (k : Int) < (N : Int) := by omega
                have e8 : ((A : Int) + 1).toNat = A + 1 := by omega
                have e9 : A < M := by omega
                go_wp2_with fail
                go_quiet (first | (go_at_call 17; exact Calls.quiet_of_same (CH.out _)) | (go_at_call 18; exact Calls.quiet_of_same (CK.out _)) | (go_at_call 19; exact Calls.quiet_of_same (CL.out _)))
                go_wp2_with fail
                obtain rfl := HPN.out
                exact ⟨⟨k + 1, by go_num, by omega, H6.out.later (below_draws _ _ _), own_later HST6.out (below_draws _ _ _), own_later HL6.out (below_draws _ _ _), b16.trans (below_draws _ _ _)⟩, by simp [intOf]; omega⟩
              · have hWD := words_any _ _ _ _ _ _ _ H6.out.raw
                rw [HXS.out, hLx] at hWD
                generalize hpn : pre.length = N at *
                have HPN : Hid _ := hpn
                clear hpn
                have d1 : decide ((k : Int) < (N : Int)) = false := by simp; omega
                have d2 : ¬ (k < N) := hkn
                go_wp2_with fail
                refine hWD.mono ?_
                rintro e w8 ⟨v8, rfl, own8, b8⟩
                obtain ⟨a8, c8, rfl⟩ := own_sl own8
                have HL8 : Hid _ := own_later HL6.out b8
                have b18 := b16.trans (b8.mono b16.size)
                have O8 : Hid _ := own8
                clear own8
                go_upto_region 28 with fail
                go_loopw [14] (fun i wq => ∃ k : Nat, i = .int .i64 k ∧ k ≤ M ∧ Hid (wq.ownsRow w8.heap.size 21 1 (.slice a8 M c8) M (xs.map (Value.int .i32)) ∨ wq.ownsRow 0 21 1 (.slice a8 M c8) M (xs.map (Value.int .i32))) ∧ Hid (wq.ownsRow w1.heap.size 21 1 (.slice va M vc) M (xs.map (Value.int .i32))) ∧ Below w.heap.size w wq) (fun i _ => M - (intOf i).toNat)
                case atStart => exact ⟨0, rfl, Nat.zero_le _, .inr (own_low O8.out (Nat.zero_le _)), HL8, b18⟩
                case round =>
                  clear O8 HL8 b18
                  obtain ⟨k, rfl, hk, O9, HL9, b19⟩ := hrel
                  by_cases hkm : k < M
                  · have hl9 := HL9.out
                    have o9 : wr.ownsRow 0 21 1 (.slice a8 M c8) M (xs.map (Value.int .i32)) := O9.out.elim (fun h => own_low h (Nat.zero_le _)) id
                    obtain ⟨lg, lcap, e6, _, _, hlc1, hlc2⟩ := own_some hl9 (by omega)
                    simp only [Value.slice.injEq, true_and] at e6
                    obtain ⟨rfl, rfl⟩ := e6
                    obtain ⟨og, ocap, e6, _, _, hoc1, hoc2⟩ := own_some o9 (by omega)
                    simp only [Value.slice.injEq, true_and] at e6
                    obtain ⟨rfl, rfl⟩ := e6
                    have hxk : (xs.map (Value.int .i32))[k]? = some (.int .i32 (xs.getD k 0)) := by rw [List.getElem?_map, List.getElem?_eq_getElem (by omega)]; simp [List.getD, List.getElem?_eq_getElem (show k < xs.length by omega)]
                    have z0 := own_cell o9 k _ hxk
                    have z1 := own_cell hl9 k _ hxk
                    clear hxk o9 hl9
                    generalize xs.getD k 0 = X at *
                    have d1 : decide ((k : Int) < (M : Int)) = true := by simp; omega
                    have e7 : (k : Int) < (M : Int) := by omega
                    go_wp2_with fail
                    go_quiet (fail)
                    go_wp2_with fail
                    exact ⟨⟨k + 1, by go_num, by omega, O9.out.elim (fun h => .inl (own_later h (below_draws _ _ _))) (fun h => .inr (own_later h (below_draws _ _ _))), own_later HL9.out (below_draws _ _ _), b19.trans (below_draws _ _ _)⟩, by simp [intOf]; omega⟩
                  · have d1 : decide ((k : Int) < (M : Int)) = false := by simp; omega
                    have d2 : ¬ (k < M) := hkm
                    go_wp2_with fail
                    go_ret
                    exact ⟨by simp, b19⟩
          case neg =>
            have dfit : decide ((M : Int) ≤ n) = true := by simp; omega
            have HSO : Hid (ofO xs (100000) = some pre) := by
              show _ = _
              unfold ofO clampN
              rw [hLx, if_pos (by have := of_decide_eq_true dfit; omega), HRD.out]
            go_wp2_with fail
            refine (OF (100000) (by omega)).mono ?_
            rintro e w5 h5
            rcases h5 with ⟨hno, _⟩ | ⟨os2, p5, S5, ho, rfl, H5, hwo, b5⟩
            case inl => rw [HSO.out] at hno; cases hno
            obtain rfl := Option.some.inj (HSO.out.symm.trans ho)
            have HST5 : Hid _ := own_later HST.out b5
            have HL5 : Hid _ := own_later HL.out b5
            have b15 := bw.trans (b5.mono bw.size)
            have H5 : Hid _ := H5
            clear ho hwo
            go_upto_region 22 with fail
            go_loopw [12] (fun i wq => ∃ k : Nat, i = .int .i64 k ∧ k ≤ pre.length ∧ Hid (Hp wr.heap.size wq S5 p5 (clampN (100000)) pre) ∧ Hid (wq.ownsRow w.heap.size 3 1 (.slice sa pre.length sc) pre.length ((placesP pre).map (Value.int .i64))) ∧ Hid (wq.ownsRow w1.heap.size 21 1 (.slice va M vc) M (xs.map (Value.int .i32))) ∧ Below w.heap.size w wq) (fun i _ => pre.length - (intOf i).toNat)
            case atStart => exact ⟨0, rfl, Nat.zero_le _, H5, HST5, HL5, b15⟩
            case round =>
              clear H5 HST5 HL5 b15
              obtain ⟨k, rfl, hk, H6, HST6, HL6, b16⟩ := hrel
              by_cases hkn : k < pre.length
              · obtain ⟨f1, f2, f3, f4, f5, f6⟩ := at_facts pre k hkn
                have hst6 := HST6.out
                have hl6 := HL6.out
                rw [HXS.out] at f4 f5 f6
                rw [hLx] at f6
                obtain ⟨sg, scap, e6, _, _, hsc1, hsc2⟩ := own_some hst6 (by omega)
                simp only [Value.slice.injEq, true_and] at e6
                obtain ⟨rfl, rfl⟩ := e6
                obtain ⟨lg, lcap, e6, _, _, hlc1, hlc2⟩ := own_some hl6 (by omega)
                simp only [Value.slice.injEq, true_and] at e6
                obtain ⟨rfl, rfl⟩ := e6
                have z0 := own_cell hst6 k (.int .i64 ((wordsO (pre.take k)).length : Int)) (by rw [List.getElem?_map, places_at pre k hkn]; rfl)
                have z1 := own_cell hl6 (wordsO (pre.take k)).length (.int .i32 (pre[k].k : Int)) (by rw [List.getElem?_map, f4]; rfl)
                have z2 := own_cell hl6 ((wordsO (pre.take k)).length + 1) (.int .i32 (pre[k].v.length : Int)) (by rw [List.getElem?_map, f5]; rfl)
                have hok := H6.out.ok pre[k] (List.getElem_mem _)
                have hok1 := hok.k
                have hok2 := hok.n
                have CH : Hid (∀ nn, Calls Try.prog 17 #[.pointer (some ⟨p5, 0, none⟩), .int .i64 ((wordsO (pre.take k)).length : Int)] (wr.drewN nn) fun e w'' => e = .returned (.bool true) ∧ w'' = wr.drewN nn) := fun nn => by
                  have := has_any _ _ _ _ _ _ ((wordsO (pre.take k)).length : Int) (H6.out.later (below_draws _ wr nn))
                  rw [f1] at this
                  exact this.mono fun _ _ h => ⟨h.1, h.2.symm⟩
                have CK : Hid (∀ nn, Calls Try.prog 18 #[.pointer (some ⟨p5, 0, none⟩), .int .i64 ((wordsO (pre.take k)).length : Int)] (wr.drewN nn) fun e w'' => e = .returned (.int .i64 (pre[k].k : Int)) ∧ w'' = wr.drewN nn) := fun nn => by
                  have := kind_any _ _ _ _ _ _ ((wordsO (pre.take k)).length : Int) (H6.out.later (below_draws _ wr nn))
                  rw [f2] at this
                  exact this.mono fun _ _ h => ⟨h.1, h.2.symm⟩
                have CL : Hid (∀ nn, Calls Try.prog 19 #[.pointer (some ⟨p5, 0, none⟩), .int .i64 ((wordsO (pre.take k)).length : Int)] (wr.drewN nn) fun e w'' => e = .returned (.int .i64 (pre[k].v.length : Int)) ∧ w'' = wr.drewN nn) := fun nn => by
                  have := len_any _ _ _ _ _ _ ((wordsO (pre.take k)).length : Int) (H6.out.later (below_draws _ wr nn))
                  rw [f3] at this
                  exact this.mono fun _ _ h => ⟨h.1, h.2.symm⟩
                clear f1 f2 f3 f4 f5 hst6 hl6 hok
                have hp60 : pre.length ≤ 60 := by omega
                generalize (wordsO (pre.take k)).length = A at *
                generalize pre[k].k = KK at *
                generalize pre[k].v.length = KL at *
                generalize hpn : pre.length = N at *
                have HPN : Hid _ := hpn
                clear hpn
                have d1 : decide ((k : Int) < (N : Int)) = true := by simp; omega
                have e1 : IntKind.i64.wrap ((A : Int) + 1) = (A : Int) + 1 := by rw [IntKind.wrap_i64]; omega
                have e2 : IntKind.i64.wrap (KK : Int) = (KK : Int) := by rw [IntKind.wrap_i64]; omega
                have e3 : IntKind.i64.wrap (KL : Int) = (KL : Int) := by rw [IntKind.wrap_i64]; omega
                have e4 : (0 : Int) ≤ (A : Int) + 1 := by omega
                have e5 : (A : Int) + 1 < (M : Int) := by omega
                have e6 : (A : Int) < (M : Int) := by omega
                have e7 : (k : Int) < (N : Int) := by omega
                have e8 : ((A : Int) + 1).toNat = A + 1 := by omega
                have e9 : A < M := by omega
                go_wp2_with fail
                go_quiet (first | (go_at_call 17; exact Calls.quiet_of_same (CH.out _)) | (go_at_call 18; exact Calls.quiet_of_same (CK.out _)) | (go_at_call 19; exact Calls.quiet_of_same (CL.out _)))
                go_wp2_with fail
                obtain rfl := HPN.out
                exact ⟨⟨k + 1, by go_num, by omega, H6.out.later (below_draws _ _ _), own_later HST6.out (below_draws _ _ _), own_later HL6.out (below_draws _ _ _), b16.trans (below_draws _ _ _)⟩, by simp [intOf]; omega⟩
              · have hWD := words_any _ _ _ _ _ _ _ H6.out.raw
                rw [HXS.out, hLx] at hWD
                generalize hpn : pre.length = N at *
                have HPN : Hid _ := hpn
                clear hpn
                have d1 : decide ((k : Int) < (N : Int)) = false := by simp; omega
                have d2 : ¬ (k < N) := hkn
                go_wp2_with fail
                refine hWD.mono ?_
                rintro e w8 ⟨v8, rfl, own8, b8⟩
                obtain ⟨a8, c8, rfl⟩ := own_sl own8
                have HL8 : Hid _ := own_later HL6.out b8
                have b18 := b16.trans (b8.mono b16.size)
                have O8 : Hid _ := own8
                clear own8
                go_upto_region 28 with fail
                go_loopw [14] (fun i wq => ∃ k : Nat, i = .int .i64 k ∧ k ≤ M ∧ Hid (wq.ownsRow w8.heap.size 21 1 (.slice a8 M c8) M (xs.map (Value.int .i32)) ∨ wq.ownsRow 0 21 1 (.slice a8 M c8) M (xs.map (Value.int .i32))) ∧ Hid (wq.ownsRow w1.heap.size 21 1 (.slice va M vc) M (xs.map (Value.int .i32))) ∧ Below w.heap.size w wq) (fun i _ => M - (intOf i).toNat)
                case atStart => exact ⟨0, rfl, Nat.zero_le _, .inr (own_low O8.out (Nat.zero_le _)), HL8, b18⟩
                case round =>
                  clear O8 HL8 b18
                  obtain ⟨k, rfl, hk, O9, HL9, b19⟩ := hrel
                  by_cases hkm : k < M
                  · have hl9 := HL9.out
                    have o9 : wr.ownsRow 0 21 1 (.slice a8 M c8) M (xs.map (Value.int .i32)) := O9.out.elim (fun h => own_low h (Nat.zero_le _)) id
                    obtain ⟨lg, lcap, e6, _, _, hlc1, hlc2⟩ := own_some hl9 (by omega)
                    simp only [Value.slice.injEq, true_and] at e6
                    obtain ⟨rfl, rfl⟩ := e6
                    obtain ⟨og, ocap, e6, _, _, hoc1, hoc2⟩ := own_some o9 (by omega)
                    simp only [Value.slice.injEq, true_and] at e6
                    obtain ⟨rfl, rfl⟩ := e6
                    have hxk : (xs.map (Value.int .i32))[k]? = some (.int .i32 (xs.getD k 0)) := by rw [List.getElem?_map, List.getElem?_eq_getElem (by omega)]; simp [List.getD, List.getElem?_eq_getElem (show k < xs.length by omega)]
                    have z0 := own_cell o9 k _ hxk
                    have z1 := own_cell hl9 k _ hxk
                    clear hxk o9 hl9
                    generalize xs.getD k 0 = X at *
                    have d1 : decide ((k : Int) < (M : Int)) = true := by simp; omega
                    have e7 : (k : Int) < (M : Int) := by omega
                    go_wp2_with fail
                    go_quiet (fail)
                    go_wp2_with fail
                    exact ⟨⟨k + 1, by go_num, by omega, O9.out.elim (fun h => .inl (own_later h (below_draws _ _ _))) (fun h => .inr (own_later h (below_draws _ _ _))), own_later HL9.out (below_draws _ _ _), b19.trans (below_draws _ _ _)⟩, by simp [intOf]; omega⟩
                  · have d1 : decide ((k : Int) < (M : Int)) = false := by simp; omega
                    have d2 : ¬ (k < M) := hkm
                    go_wp2_with fail
                    go_ret
                    exact ⟨by simp, b19⟩
        case neg =>
          have k3 : ¬ (1048576 < n) := by omega
          cases dfit : decide ((M : Int) ≤ n)
          case false =>
            have HNO : Hid (ofO xs (n) = none) := by
              show _ = _
              unfold ofO clampN
              rw [if_neg (by rw [hLx]; have := of_decide_eq_false dfit; omega)]
            go_wp2_with fail
            refine (OF (n) (by omega)).mono ?_
            rintro e w5 h5
            rcases h5 with ⟨_, rfl, b5⟩ | ⟨os2, p5, S5, ho, _⟩
            case inr => rw [HNO.out] at ho; cases ho
            go_wp2_with fail
            go_ret
            exact ⟨rfl, bw.trans (b5.mono bw.size)⟩
          case true =>
            have HSO : Hid (ofO xs (n) = some pre) := by
              show _ = _
              unfold ofO clampN
              rw [hLx, if_pos (by have := of_decide_eq_true dfit; omega), HRD.out]
            go_wp2_with fail
            refine (OF (n) (by omega)).mono ?_
            rintro e w5 h5
            rcases h5 with ⟨hno, _⟩ | ⟨os2, p5, S5, ho, rfl, H5, hwo, b5⟩
            case inl => rw [HSO.out] at hno; cases hno
            obtain rfl := Option.some.inj (HSO.out.symm.trans ho)
            have HST5 : Hid _ := own_later HST.out b5
            have HL5 : Hid _ := own_later HL.out b5
            have b15 := bw.trans (b5.mono bw.size)
            have H5 : Hid _ := H5
            clear ho hwo
            go_upto_region 22 with fail
            go_loopw [12] (fun i wq => ∃ k : Nat, i = .int .i64 k ∧ k ≤ pre.length ∧ Hid (Hp wr.heap.size wq S5 p5 (clampN (n)) pre) ∧ Hid (wq.ownsRow w.heap.size 3 1 (.slice sa pre.length sc) pre.length ((placesP pre).map (Value.int .i64))) ∧ Hid (wq.ownsRow w1.heap.size 21 1 (.slice va M vc) M (xs.map (Value.int .i32))) ∧ Below w.heap.size w wq) (fun i _ => pre.length - (intOf i).toNat)
            case atStart => exact ⟨0, rfl, Nat.zero_le _, H5, HST5, HL5, b15⟩
            case round =>
              clear H5 HST5 HL5 b15
              obtain ⟨k, rfl, hk, H6, HST6, HL6, b16⟩ := hrel
              by_cases hkn : k < pre.length
              · obtain ⟨f1, f2, f3, f4, f5, f6⟩ := at_facts pre k hkn
                have hst6 := HST6.out
                have hl6 := HL6.out
                rw [HXS.out] at f4 f5 f6
                rw [hLx] at f6
                obtain ⟨sg, scap, e6, _, _, hsc1, hsc2⟩ := own_some hst6 (by omega)
                simp only [Value.slice.injEq, true_and] at e6
                obtain ⟨rfl, rfl⟩ := e6
                obtain ⟨lg, lcap, e6, _, _, hlc1, hlc2⟩ := own_some hl6 (by omega)
                simp only [Value.slice.injEq, true_and] at e6
                obtain ⟨rfl, rfl⟩ := e6
                have z0 := own_cell hst6 k (.int .i64 ((wordsO (pre.take k)).length : Int)) (by rw [List.getElem?_map, places_at pre k hkn]; rfl)
                have z1 := own_cell hl6 (wordsO (pre.take k)).length (.int .i32 (pre[k].k : Int)) (by rw [List.getElem?_map, f4]; rfl)
                have z2 := own_cell hl6 ((wordsO (pre.take k)).length + 1) (.int .i32 (pre[k].v.length : Int)) (by rw [List.getElem?_map, f5]; rfl)
                have hok := H6.out.ok pre[k] (List.getElem_mem _)
                have hok1 := hok.k
                have hok2 := hok.n
                have CH : Hid (∀ nn, Calls Try.prog 17 #[.pointer (some ⟨p5, 0, none⟩), .int .i64 ((wordsO (pre.take k)).length : Int)] (wr.drewN nn) fun e w'' => e = .returned (.bool true) ∧ w'' = wr.drewN nn) := fun nn => by
                  have := has_any _ _ _ _ _ _ ((wordsO (pre.take k)).length : Int) (H6.out.later (below_draws _ wr nn))
                  rw [f1] at this
                  exact this.mono fun _ _ h => ⟨h.1, h.2.symm⟩
                have CK : Hid (∀ nn, Calls Try.prog 18 #[.pointer (some ⟨p5, 0, none⟩), .int .i64 ((wordsO (pre.take k)).length : Int)] (wr.drewN nn) fun e w'' => e = .returned (.int .i64 (pre[k].k : Int)) ∧ w'' = wr.drewN nn) := fun nn => by
                  have := kind_any _ _ _ _ _ _ ((wordsO (pre.take k)).length : Int) (H6.out.later (below_draws _ wr nn))
                  rw [f2] at this
                  exact this.mono fun _ _ h => ⟨h.1, h.2.symm⟩
                have CL : Hid (∀ nn, Calls Try.prog 19 #[.pointer (some ⟨p5, 0, none⟩), .int .i64 ((wordsO (pre.take k)).length : Int)] (wr.drewN nn) fun e w'' => e = .returned (.int .i64 (pre[k].v.length : Int)) ∧ w'' = wr.drewN nn) := fun nn => by
                  have := len_any _ _ _ _ _ _ ((wordsO (pre.take k)).length : Int) (H6.out.later (below_draws _ wr nn))
                  rw [f3] at this
                  exact this.mono fun _ _ h => ⟨h.1, h.2.symm⟩
                clear f1 f2 f3 f4 f5 hst6 hl6 hok
                have hp60 : pre.length ≤ 60 := by omega
                generalize (wordsO (pre.take k)).length = A at *
                generalize pre[k].k = KK at *
                generalize pre[k].v.length = KL at *
                generalize hpn : pre.length = N at *
                have HPN : Hid _ := hpn
                clear hpn
                have d1 : decide ((k : Int) < (N : Int)) = true := by simp; omega
                have e1 : IntKind.i64.wrap ((A : Int) + 1) = (A : Int) + 1 := by rw [IntKind.wrap_i64]; omega
                have e2 : IntKind.i64.wrap (KK : Int) = (KK : Int) := by rw [IntKind.wrap_i64]; omega
                have e3 : IntKind.i64.wrap (KL : Int) = (KL : Int) := by rw [IntKind.wrap_i64]; omega
                have e4 : (0 : Int) ≤ (A : Int) + 1 := by omega
                have e5 : (A : Int) + 1 < (M : Int) := by omega
                have e6 : (A : Int) < (M : Int) := by omega
                have e7 : (k : Int) < (N : Int) := by omega
                have e8 : ((A : Int) + 1).toNat = A + 1 := by omega
                have e9 : A < M := by omega
                go_wp2_with fail
                go_quiet (first | (go_at_call 17; exact Calls.quiet_of_same (CH.out _)) | (go_at_call 18; exact Calls.quiet_of_same (CK.out _)) | (go_at_call 19; exact Calls.quiet_of_same (CL.out _)))
                go_wp2_with fail
                obtain rfl := HPN.out
                exact ⟨⟨k + 1, by go_num, by omega, H6.out.later (below_draws _ _ _), own_later HST6.out (below_draws _ _ _), own_later HL6.out (below_draws _ _ _), b16.trans (below_draws _ _ _)⟩, by simp [intOf]; omega⟩
              · have hWD := words_any _ _ _ _ _ _ _ H6.out.raw
                rw [HXS.out, hLx] at hWD
                generalize hpn : pre.length = N at *
                have HPN : Hid _ := hpn
                clear hpn
                have d1 : decide ((k : Int) < (N : Int)) = false := by simp; omega
                have d2 : ¬ (k < N) := hkn
                go_wp2_with fail
                refine hWD.mono ?_
                rintro e w8 ⟨v8, rfl, own8, b8⟩
                obtain ⟨a8, c8, rfl⟩ := own_sl own8
                have HL8 : Hid _ := own_later HL6.out b8
                have b18 := b16.trans (b8.mono b16.size)
                have O8 : Hid _ := own8
                clear own8
                go_upto_region 28 with fail
                go_loopw [14] (fun i wq => ∃ k : Nat, i = .int .i64 k ∧ k ≤ M ∧ Hid (wq.ownsRow w8.heap.size 21 1 (.slice a8 M c8) M (xs.map (Value.int .i32)) ∨ wq.ownsRow 0 21 1 (.slice a8 M c8) M (xs.map (Value.int .i32))) ∧ Hid (wq.ownsRow w1.heap.size 21 1 (.slice va M vc) M (xs.map (Value.int .i32))) ∧ Below w.heap.size w wq) (fun i _ => M - (intOf i).toNat)
                case atStart => exact ⟨0, rfl, Nat.zero_le _, .inr (own_low O8.out (Nat.zero_le _)), HL8, b18⟩
                case round =>
                  clear O8 HL8 b18
                  obtain ⟨k, rfl, hk, O9, HL9, b19⟩ := hrel
                  by_cases hkm : k < M
                  · have hl9 := HL9.out
                    have o9 : wr.ownsRow 0 21 1 (.slice a8 M c8) M (xs.map (Value.int .i32)) := O9.out.elim (fun h => own_low h (Nat.zero_le _)) id
                    obtain ⟨lg, lcap, e6, _, _, hlc1, hlc2⟩ := own_some hl9 (by omega)
                    simp only [Value.slice.injEq, true_and] at e6
                    obtain ⟨rfl, rfl⟩ := e6
                    obtain ⟨og, ocap, e6, _, _, hoc1, hoc2⟩ := own_some o9 (by omega)
                    simp only [Value.slice.injEq, true_and] at e6
                    obtain ⟨rfl, rfl⟩ := e6
                    have hxk : (xs.map (Value.int .i32))[k]? = some (.int .i32 (xs.getD k 0)) := by rw [List.getElem?_map, List.getElem?_eq_getElem (by omega)]; simp [List.getD, List.getElem?_eq_getElem (show k < xs.length by omega)]
                    have z0 := own_cell o9 k _ hxk
                    have z1 := own_cell hl9 k _ hxk
                    clear hxk o9 hl9
                    generalize xs.getD k 0 = X at *
                    have d1 : decide ((k : Int) < (M : Int)) = true := by simp; omega
                    have e7 : (k : Int) < (M : Int) := by omega
                    go_wp2_with fail
                    go_quiet (fail)
                    go_wp2_with fail
                    exact ⟨⟨k + 1, by go_num, by omega, O9.out.elim (fun h => .inl (own_later h (below_draws _ _ _))) (fun h => .inr (own_later h (below_draws _ _ _))), own_later HL9.out (below_draws _ _ _), b19.trans (below_draws _ _ _)⟩, by simp [intOf]; omega⟩
                  · have d1 : decide ((k : Int) < (M : Int)) = false := by simp; omega
                    have d2 : ¬ (k < M) := hkm
                    go_wp2_with fail
                    go_ret
                    exact ⟨by simp, b19⟩
      case neg =>
        have k2 : ¬ (100000 < n) := by omega
        have k3 : ¬ (1048576 < n) := by omega
        by_cases hM0 : M = 0
        case neg =>
          have dfit : decide ((M : Int) ≤ 0) = false := by simp; omega
          have dfit2 : decide (M = 0) = false := by simp; omega
          have HNO : Hid (ofO xs (n) = none) := by
            show _ = _
            unfold ofO clampN
            rw [if_neg (by rw [hLx]; have := of_decide_eq_false dfit; omega)]
          go_wp2_with fail
          refine (OF (n) (by omega)).mono ?_
          rintro e w5 h5
          rcases h5 with ⟨_, rfl, b5⟩ | ⟨os2, p5, S5, ho, _⟩
          case inr => rw [HNO.out] at ho; cases ho
          go_wp2_with fail
          go_ret
          exact ⟨rfl, bw.trans (b5.mono bw.size)⟩
        case pos =>
          subst hM0
          have HP0 : Hid (pre.length = 0) := by
            show _ = _
            have := HAG.out
            omega
          have HSO : Hid (ofO xs (n) = some pre) := by
            show _ = _
            unfold ofO clampN
            rw [hLx, if_pos (by omega), HRD.out]
          go_wp2_with fail
          refine (OF (n) (by omega)).mono ?_
          rintro e w5 h5
          rcases h5 with ⟨hno, _⟩ | ⟨os2, p5, S5, ho, rfl, H5, hwo, b5⟩
          case inl => rw [HSO.out] at hno; cases hno
          obtain rfl := Option.some.inj (HSO.out.symm.trans ho)
          have b15 := bw.trans (b5.mono bw.size)
          have H5 : Hid _ := H5
          clear ho hwo HST HL
          go_upto_region 22 with fail
          go_loopw [12] (fun i wq => ∃ k : Nat, i = .int .i64 k ∧ k ≤ pre.length ∧ Hid (Hp wr.heap.size wq S5 p5 (clampN (n)) pre) ∧ Below w.heap.size w wq) (fun i _ => pre.length - (intOf i).toNat)
          case atStart => exact ⟨0, rfl, Nat.zero_le _, H5, b15⟩
          case round =>
            clear H5 b15
            obtain ⟨k, rfl, hk, H6, b16⟩ := hrel
            have hkn : ¬ (k < pre.length) := by have := HP0.out; omega
            have hWD := words_any _ _ _ _ _ _ _ H6.out.raw
            rw [HXS.out, hLx] at hWD
            generalize hpn : pre.length = N at *
            have HPN : Hid _ := hpn
            clear hpn
            have d1 : decide ((k : Int) < (N : Int)) = false := by simp; omega
            go_wp2_with fail
            refine hWD.mono ?_
            rintro e w8 ⟨v8, rfl, own8, b8⟩
            obtain ⟨a8, c8, rfl⟩ := own_sl own8
            have b18 := b16.trans (b8.mono b16.size)
            clear own8
            go_upto_region 28 with fail
            go_loopw [14] (fun i wq => i = .int .i64 0 ∧ Below w.heap.size w wq) (fun i _ => 0)
            case atStart => exact ⟨rfl, b18⟩
            case round =>
              clear b18
              obtain ⟨rfl, b19⟩ := hrel
              go_wp2_with fail
              go_ret
              exact ⟨rfl, b19⟩
end HeapOf
end Go.Proofs.Ytjcnjjbokmbfkaa
