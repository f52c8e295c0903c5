/- heap's Of: of any words. -/
import Derived.Test.YtpjccmcbagoplaaHeapWords
import Derived.Deep.Cut
namespace Go.Proofs.Ytpjccmcbagoplaa
namespace Heap
open Mem
open Go.RowKit
set_option linter.unusedVariables false
set_option linter.unusedSimpArgs false
set_option maxRecDepth 100000

/-- The objects that Of makes of these words. -/
def ofO (xs : List Int) (n : Int) : Option (List Ob) := if xs.length ≤ clampN n then readO (xs.length + 1) xs else none
theorem read_step (f : Nat) (l : List Int) (h0 : 0 < l.length) (hx : ∀ x ∈ l, Is32 x) (hw : wholeB l = true) :
    ∃ o : Ob, readO (f + 1) l = (readO f (l.drop (o.v.length + 2))).map (o :: ·) ∧ l = obW o ++ l.drop (o.v.length + 2) ∧ l.getD 1 0 = (o.v.length : Int) ∧ o.v.length + 2 ≤ l.length ∧ o.Ok := by
  match l, h0, hw, hx with
  | [_], _, hw, _ => simp [wholeB] at hw
  | k :: n :: r, _, hw, hx =>
    simp only [wholeB, Bool.and_eq_true, decide_eq_true_eq, List.getD_cons_zero, List.getD_cons_succ] at hw
    obtain ⟨_, hm, hl⟩ := hw
    have hmb := hm
    simp only [mayB, Bool.and_eq_true, decide_eq_true_eq] at hmb
    obtain ⟨hk0, hk1, hn0, hn1⟩ := hmb
    simp only [List.length_cons] at hl
    have hlen : (r.take n.toNat).length = n.toNat := by rw [List.length_take]; omega
    refine ⟨⟨k.toNat, r.take n.toNat⟩, ?_, ?_, ?_, ?_, ?_⟩
    · rw [readO, if_pos (by rw [hm]; simp; omega)]
      simp only [hlen]
      rfl
    · simp only [obW, hlen]
      rw [show ((k.toNat : Nat) : Int) = k by omega, show ((n.toNat : Nat) : Int) = n by omega]
      simp [List.take_append_drop]
    · simp only [hlen, List.getD_cons_succ, List.getD_cons_zero]; omega
    · simp only [hlen, List.length_cons]; omega
    · exact ⟨by show k.toNat ≤ 10000; omega, by show (r.take n.toNat).length ≤ 1000; omega, fun x hxx => hx x (by simp [List.mem_of_mem_take hxx])⟩
theorem read_stop (f : Nat) (l : List Int) (h0 : 0 < l.length) (hw : wholeB l = false) : readO (f + 1) l = none := by
  match l, h0, hw with
  | [_], _, _ => rfl
  | k :: n :: r, _, hw =>
    rw [readO, if_neg]
    intro hc
    simp only [Bool.and_eq_true, decide_eq_true_eq] at hc
    have : wholeB (k :: n :: r) = true := by
      simp only [wholeB, List.getD_cons_zero, List.getD_cons_succ, hc.1, List.length_cons]
      simp; omega
    rw [this] at hw
    cases hw
theorem fill_words {w w1 w2 : World} {p n : Nat} {ws : List Int} {v : Value} (H : Hp w.heap.size w1 (fun k => k = p) p n []) (b1 : Below w.heap.size w w1) (own : w2.ownsRow w1.heap.size 21 1 v ws.length (ws.map (Value.int .i32))) (b2 : Below w1.heap.size w1 w2)
    (hu : ws.length ≤ n) (hi : ∀ x ∈ ws, Is32 x) : ∃ S, Hw w.heap.size (w2.setCell ⟨p, 1, none⟩ v) S p n ws [] ∧ Below w.heap.size w (w2.setCell ⟨p, 1, none⟩ v) := by
  obtain ⟨⟨⟨vw, vb, h1, h2, h3, h4, h5⟩, hh, hl, hs, _, _⟩, _⟩ := H
  have hpl := hl p rfl
  have BP := blk_set (blk_on h1 b2) 1 v
  have hne := own_ne_blk own (blk_on h1 b2) (by decide)
  have ownS := own_other own (a := ⟨p, 1, none⟩) (fun e => hne e.symm) v
  have h3b := own_later h3 b2
  have hne3 := own_ne_blk h3b (blk_on h1 b2) (by decide)
  have ow3 := own_other h3b (a := ⟨p, 1, none⟩) (fun e => hne3 e.symm) v
  have hs2 : (w2.setCell ⟨p, 1, none⟩ v).heap.size = w2.heap.size := by simp [World.setCell]
  have b1s := b1.size
  have b2s := b2.size
  refine ⟨fun k => k = p ∨ v.ownBlock = some k ∨ vb.ownBlock = some k, ⟨⟨_, vb, BP, own_low ownS b1s, ow3, fun k e => .inr (.inl e), fun k e => .inr (.inr e)⟩, .inl rfl, fun k e => ?_, hs, hu, hi⟩, (b1.trans (b2.mono b1s)).setCell (p := ⟨p, 1, none⟩) hpl.1 v⟩
  rw [hs2]
  rcases e with rfl | e | e
  · exact ⟨hpl.1, by omega⟩
  · have := own.lt k e
    exact ⟨by omega, this.2⟩
  · have := h3b.lt k e
    exact this
set_option maxHeartbeats 2000000 in
theorem of_any (a : Option Addr) (m c : Nat) (xs : List Int) (n : Int) (w : World) (h : Reads .i32 w a m c xs) (hi : ∀ x ∈ xs, Is32 x) (hm : m ≤ 10000000000) (hn : -9223372036854775808 ≤ n ∧ n ≤ 9223372036854775807) :
    Calls Try.prog 9 #[.slice a m c, .int .i64 n] w fun e w' =>
      (ofO xs n = none ∧ e = .returned (.tuple #[.pointer none, .bool false]) ∧ Below w.heap.size w w') ∨
      ∃ os p S, ofO xs n = some os ∧ e = .returned (.tuple #[.pointer (some ⟨p, 0, none⟩), .bool true]) ∧ Hp w.heap.size w' S p (clampN n) os ∧ wordsO os = xs ∧ Below w.heap.size w w' := by
  have hcap := h.cap
  have hmax := h.max
  unfold maxLen at hmax
  have hlen := h.len
  have HC := clone_any a m c xs
  have hcl := clamp_le n
  by_cases hfit : m ≤ clampN n
  · have HO : Hid (ofO xs n = readO (m + 1) xs) := by
      show _ = _
      unfold ofO
      rw [hlen, if_pos hfit]
    have hNew := new_any n w hn
    generalize clampN n = C at *
    generalize ofO xs n = oo at *
    have d1 : decide ((C : Int) < (m : Int)) = false := by simp; omega
    have d1' : decide (C < m) = false := by simp; omega
    go_enter Try.func9, Try.ntmps9
    go_wp2_with fail
    refine hNew.mono ?_
    rintro e w1 ⟨rfl, H1, b1⟩
    obtain ⟨⟨vw, vb, h1, h2, h3, h4, h5⟩, hh, hl, hs, hu, _⟩ := H1.raw
    have x0 := blk_cell h1 0
    simp only [List.getElem?_toArray, List.getElem?_cons_zero, List.getElem?_cons_succ] at x0
    have HP : Hid _ := H1
    clear h2 h3 h4 h5 hl hu hs hh H1 hNew
    go_wp2_with fail
    refine (HC w1 (h.later b1) hm).mono ?_
    rintro e w2 ⟨v, rfl, own, b2⟩
    obtain ⟨va, vc, rfl⟩ := own_sl own
    have hrd := (h.later b1).later b2
    have y1 := blk_cell (blk_on h1 b2) 1
    have f1 := blk_free (blk_on h1 b2) 1
    simp only [List.getElem?_toArray, List.getElem?_cons_zero, List.getElem?_cons_succ] at y1
    obtain ⟨S0, H3, b3⟩ := fill_words (ws := xs) (v := .slice va m vc) HP.out b1 (by rw [hlen]; exact own) b2 (by omega) hi
    have hrd3 := h.later b3
    have H3 : Hid _ := H3
    have hlow := HP.out.raw.low
    clear own HC HP h1 hrd
    go_upto_region 6 with fail
    generalize w2.setCell ⟨w.heap.size, 1, none⟩ (.slice va m vc) = w3 at *
    clear y1 f1 x0 b1 b2 hlow
    go_loopw [7] (fun i wr => ∃ (pre : List Ob) (S : Nat → Prop) (f : Nat), i = .int .i64 ((wordsO pre).length : Int) ∧ (wordsO pre).length ≤ m ∧ Hid (xs = wordsO pre ++ xs.drop (wordsO pre).length) ∧ (∀ o ∈ pre, Ob.Ok o) ∧ Hid (oo = (readO f (xs.drop (wordsO pre).length)).map (pre ++ ·)) ∧ m - (wordsO pre).length < f ∧ Hid (Hw w.heap.size wr S w.heap.size C xs (marksO pre)) ∧ Below w.heap.size w wr ∧ Reads .i32 wr a m c xs) (fun i _ => m - (intOf i).toNat)
    case atStart =>
      refine ⟨[], S0, m + 1, rfl, Nat.zero_le _, ?_, (fun o ho => by cases ho), ?_, by simp [wordsO], H3, b3, hrd3⟩
      · show xs = _
        simp [wordsO]
      · show oo = _
        rw [HO.out]
        simp [wordsO]
    case round =>
      clear hrd3 H3 b3 HO
      obtain ⟨pre, S, f, rfl, hA, hxs, hpre, hrest, hf, HW, bw, hrr⟩ := hrel
      by_cases hlt : (wordsO pre).length < m
      · obtain ⟨b, off, rfl, _⟩ := h.cells (by omega)
        have hdl : (xs.drop (wordsO pre).length).length = m - (wordsO pre).length := by rw [List.length_drop, hlen]
        have hdi : ∀ x ∈ xs.drop (wordsO pre).length, Is32 x := fun x hx => hi x (List.mem_of_mem_drop hx)
        have WH := whole_any _ _ _ _ wr (hrr.drop (wordsO pre).length (by omega)) hdi
        obtain ⟨f, rfl⟩ : ∃ f', f = f' + 1 := ⟨f - 1, by omega⟩
        cases hw : wholeB (xs.drop (wordsO pre).length)
        · rw [hw] at WH
          have HN : Hid (oo = none) := by
            show _ = _
            rw [hrest.out, read_stop f _ (by omega) hw]
            rfl
          clear hw hdi hdl hrest hxs
          generalize (wordsO pre).length = A at *
          have d2 : decide ((A : Int) < (m : Int)) = true := by simp; omega
          go_wp2_with fail
          refine WH.mono ?_
          rintro e w5 ⟨rfl, j, rfl⟩
          go_wp2_with fail
          go_ret2
          exact .inl ⟨HN.out, rfl, bw.trans (below_draws _ _ _)⟩
        · rw [hw] at WH
          obtain ⟨o, ho1, ho2, ho3, ho4, hok⟩ := read_step f _ (by omega) hdi hw
          have hML : (marksO pre).length = (wordsO pre).length := marks_len pre
          have hon := hok.n
          have hg1 : xs.getD ((wordsO pre).length + 1) 0 = (o.v.length : Int) := by
            rw [← ho3]
            simp [List.getD]
          have hW5 : ∀ j, Hw w.heap.size (wr.drewN j) S w.heap.size C xs (marksO pre) := fun j => HW.out.later (below_draws _ _ _)
          have MK := fun j => mark_any w.heap.size _ S w.heap.size C xs (marksO pre) o.v.length (hW5 j) (by rw [hML, hlen]; omega) (by rw [hML]; exact hg1) hon
          rw [hML] at MK
          have ea : wordsO (pre ++ [o]) = wordsO pre ++ obW o := by rw [wordsO_append, wordsO_cons]; simp [wordsO]
          have eb : marksO (pre ++ [o]) = marksO pre ++ obMk o.v.length := by rw [marksO_append]; simp [marksO, obM, obMk]
          have el : (wordsO (pre ++ [o])).length = (wordsO pre).length + (o.v.length + 2) := by rw [ea, List.length_append, obW_len]
          have HR : Hid (oo = (readO f (xs.drop (wordsO (pre ++ [o])).length)).map ((pre ++ [o]) ++ ·)) := by
            show oo = _
            rw [hrest.out, ho1, List.drop_drop, el, Option.map_map]
            congr 1
            funext t
            simp
          have HX : Hid (xs = wordsO (pre ++ [o]) ++ xs.drop (wordsO (pre ++ [o])).length) := by
            show _ = _
            rw [ea]
            conv => lhs; rw [hxs.out, ho2]
            rw [List.drop_drop, ← el, ← ea, ← List.append_assoc, ea]
          have hpre2 : ∀ q ∈ pre ++ [o], Ob.Ok q := fun q hq => by
            rcases List.mem_append.1 hq with hq | hq
            · exact hpre q hq
            · rw [List.mem_singleton.1 hq]; exact hok
          have hA2 : (wordsO (pre ++ [o])).length ≤ m := by omega
          have hf2 : m - (wordsO (pre ++ [o])).length < f := by omega
          have hML2 : Hid ((marksO pre ++ obMk o.v.length).length = (wordsO (pre ++ [o])).length) := by
            show _ = _
            rw [← eb, marks_len]
          have HEB : Hid _ := eb
          have hlt2 : (wordsO pre).length < (wordsO (pre ++ [o])).length := by omega
          clear hw hdi hdl hrest hxs hpre ho1 ho2 ho3 ho4 hok hon hg1 hML ea eb el
          generalize (wordsO pre).length = A at *
          generalize hA3 : (wordsO (pre ++ [o])).length = A2 at *
          have HA3 : Hid _ := hA3
          clear hA3
          have d2 : decide ((A : Int) < (m : Int)) = true := by simp; omega
          go_wp2_with fail
          refine WH.mono ?_
          rintro e w5 ⟨rfl, j, rfl⟩
          go_wp2_with fail
          refine (MK j).mono ?_
          rintro e w6 ⟨rfl, S6, HW6, o6, hS6⟩
          have b6 : Below w.heap.size w w6 := (bw.trans ((below_draws _ _ j).mono (Nat.le_refl _))).trans (o6.to (fun k e => ((hW5 j).low k e).1) bw.size)
          obtain ⟨vw6, vb6, k1, k2, k3, _, _⟩ := HW6.rows
          have x6 := blk_cell k1 2
          simp only [List.getElem?_toArray, List.getElem?_cons_zero, List.getElem?_cons_succ] at x6
          obtain ⟨v6, c6, rfl⟩ := own_sl k3
          have HW7 : Hid _ := HW6
          clear k1 k2 k3 HW6 MK WH hW5 HW
          rw [hML2.out] at *
          go_wp2_with fail
          obtain rfl := HA3.out
          refine ⟨⟨pre ++ [o], S6, f, rfl, hA2, HX, hpre2, HR, hf2, ?_, b6, h.later b6⟩, by simp [intOf]; omega⟩
          rw [HEB.out]
          exact HW7
      · have hAm : (wordsO pre).length = m := by omega
        have hd : xs.drop (wordsO pre).length = [] := List.drop_eq_nil_of_le (by omega)
        have HO2 : Hid (oo = some pre) := by
          show _ = _
          rw [hrest.out, hd]
          obtain ⟨f, rfl⟩ : ∃ f', f = f' + 1 := ⟨f - 1, by omega⟩
          simp [readO]
        have HX : Hid (xs = wordsO pre) := by
          show _ = _
          have := hxs.out
          rw [hd, List.append_nil] at this
          exact this
        clear hrest hxs hd
        have HP : Hid (∀ o ∈ pre, Ob.Ok o) := hpre
        clear hpre
        have d2 : decide (((wordsO pre).length : Int) < (m : Int)) = false := by simp; omega
        have d3 : ¬ ((wordsO pre).length < m) := hlt
        clear hAm
        go_wp2_with fail
        go_ret2
        refine .inr ⟨pre, w.heap.size, S, HO2.out, rfl, ⟨?_, HP.out⟩, HX.out.symm, bw⟩
        have := HW.out
        rw [HX.out] at this
        exact this
  · have HO : Hid (ofO xs n = none) := by
      show _ = _
      unfold ofO
      rw [hlen, if_neg hfit]
    have hNew := new_any n w hn
    generalize clampN n = C at *
    generalize ofO xs n = oo at *
    have d1 : decide ((C : Int) < (m : Int)) = true := by simp; omega
    have d1' : decide (C < m) = true := by simp; omega
    clear HC
    go_enter Try.func9, Try.ntmps9
    go_wp2_with fail
    refine hNew.mono ?_
    rintro e w1 ⟨rfl, H1, b1⟩
    obtain ⟨⟨vw, vb, h1, h2, h3, h4, h5⟩, hh, hl, hs, hu, _⟩ := H1.raw
    have x0 := blk_cell h1 0
    simp only [List.getElem?_toArray, List.getElem?_cons_zero, List.getElem?_cons_succ] at x0
    clear h1 h2 h3 h4 h5 hl hu hs hh H1 hNew
    go_wp2_with fail
    go_ret2
    exact .inl ⟨HO.out, rfl, b1⟩
end Heap
end Go.Proofs.Ytpjccmcbagoplaa
