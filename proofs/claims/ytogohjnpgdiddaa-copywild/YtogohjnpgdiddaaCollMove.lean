/- collect's mover in memory; its move. -/
import Derived.Test.YtogohjnpgdiddaaCollLay
namespace Go.Proofs.Ytogohjnpgdiddaa
namespace Coll
open Mem Heap
open Go.RowKit
set_option linter.unusedVariables false
set_option linter.unusedSimpArgs false
set_option maxRecDepth 100000

/-- A mover in block pm: from the heap in p to the one in q; what was told so far; what it may write lies in M, all from B on. -/
structure Mv (B : Nat) (w : World) (p n : Nat) (os : List Ob) (pm : Nat) (M : Nat → Prop) (q : Nat) (ts : List Ob) (out : List Nat) : Prop where
  src : ∃ Bf Sf, Hp Bf w Sf p n os ∧ ∀ k, Sf k → k < B
  parts : ∃ S vm, Hp B w S q n ts ∧ w.heap[pm]? = some (.cells #[.pointer (some ⟨p, 0, none⟩), .pointer (some ⟨q, 0, none⟩), vm] 58 (0, 0)) ∧ w.ownsRow B 21 1 vm (wordsO os).length ((movedL os out).map (Value.int .i32)) ∧ (∀ k, S k → M k) ∧ (∀ k, vm.ownBlock = some k → M k ∧ ¬ S k)
  box : B ≤ pm ∧ ¬ M pm
  low : ∀ k, M k → B ≤ k ∧ k < w.heap.size
  good : Good os out
  sum : (wordsO ts).length = total os out
theorem Mv.off {B : Nat} {w w' : World} {p n : Nat} {os : List Ob} {pm : Nat} {M S' : Nat → Prop} {q : Nat} {ts : List Ob} {out : List Nat} (h : Mv B w p n os pm M q ts out) (hf : Off S' w w') (hS : ∀ k, S' k → B ≤ k ∧ ¬ M k ∧ k ≠ pm) : Mv B w' p n os pm M q ts out := by
  obtain ⟨⟨Bf, Sf, hF, hlo⟩, ⟨S, vm, h1, h2, h3, h4, h5⟩, hb, hl, hg, hs⟩ := h
  exact ⟨⟨Bf, Sf, hF.off hf (fun k e e' => by have := hlo k e; have := (hS k e').1; omega), hlo⟩, ⟨S, vm, h1.off hf (fun k e e' => (hS k e').2.1 (h4 k e)), blk_off h2 hf (fun e => (hS pm e).2.2 rfl), own_off h3 hf (fun k e e' => (hS k e').2.1 (h5 k e).1), h4, h5⟩, hb, fun k e => ⟨(hl k e).1, Nat.lt_of_lt_of_le (hl k e).2 hf.size⟩, hg, hs⟩
theorem Mv.later {B : Nat} {w w' : World} {p n : Nat} {os : List Ob} {pm : Nat} {M : Nat → Prop} {q : Nat} {ts : List Ob} {out : List Nat} (h : Mv B w p n os pm M q ts out) (hb : Below w.heap.size w w') : Mv B w' p n os pm M q ts out :=
  h.off (Off.below (fun _ => False) hb) (fun _ e => e.elim)
theorem no_at {os : List Ob} {x : Int} (h : ((wordsO os).length : Int) ≤ x) : hasO os x = false := by
  cases hq : hasO os x
  · rfl
  · have hx := has_nat hq
    have := (has_fit hx.1).1
    unfold sz at this
    omega
theorem no_neg {os : List Ob} {x : Int} (h : x < 0) : hasO os x = false := by
  cases hq : hasO os x
  · rfl
  · have hx := has_nat hq
    omega
/-- Behind lay: the store. -/
theorem move_done {B : Nat} {w wm : World} {p n pm q : Nat} {os : List Ob} {M S S' : Nat → Prop} {ts : List Ob} {out : List Nat} {g cap a : Nat} {Bf : Nat} {Sf : Nat → Prop}
    (hF : Hp Bf w Sf p n os) (hlo : ∀ k, Sf k → k < B) (hT : Hp B w S q n ts) (hbx : w.heap[pm]? = some (.cells #[.pointer (some ⟨p, 0, none⟩), .pointer (some ⟨q, 0, none⟩), .slice (some ⟨g, 0, none⟩) (wordsO os).length cap] 58 (0, 0)))
    (hrow : w.ownsRow B 21 1 (.slice (some ⟨g, 0, none⟩) (wordsO os).length cap) (wordsO os).length ((movedL os out).map (Value.int .i32))) (hS : ∀ k, S k → M k) (hg : M g ∧ ¬ S g) (hb : B ≤ pm ∧ ¬ M pm) (hl : ∀ k, M k → B ≤ k ∧ k < w.heap.size) (hgo : Good os out) (hs : (wordsO ts).length = total os out)
    (ha : hasO os (a : Int) = true) (hn : a ∉ out) (h1 : Hp B wm S' q n (ts ++ [obAt os a])) (h2 : Off S w wm) (h3 : ∀ k, S' k → S k ∨ w.heap.size ≤ k) :
    Mv B (wm.setCell ⟨g, a, none⟩ (.int .i32 (((wordsO ts).length : Int) + 1))) p n os pm (fun k => M k ∨ S' k) q (ts ++ [obAt os a]) (out ++ [a]) ∧ Off M w (wm.setCell ⟨g, a, none⟩ (.int .i32 (((wordsO ts).length : Int) + 1))) ∧ ∀ k, M k ∨ S' k → M k ∨ w.heap.size ≤ k := by
  have hfit := (has_fit ha).1
  unfold sz at hfit
  have hgp : pm ≠ g := fun e => hb.2 (e ▸ hg.1)
  have hgs : ∀ k, S' k → k ≠ g := fun k e e2 => by
    subst e2
    rcases h3 k e with h | h
    · exact hg.2 h
    · have := (hl k hg.1).2; omega
  have hpl := lt_of_block hbx
  have oS : ∀ v, Off (fun k => k = g) wm (wm.setCell ⟨g, a, none⟩ v) := fun v => Off.set wm ⟨g, a, none⟩ v rfl
  have hF2 := hF.off h2 (fun k e e' => by have := hlo k e; have := (hT.raw.low k e').1; omega)
  have hrow2 := own_off hrow h2 (fun k e e' => by cases e; exact hg.2 e')
  have hbx2 := blk_off hbx h2 (fun e => hb.2 (hS pm e))
  refine ⟨⟨⟨Bf, Sf, hF2.off (oS _) (fun k e e' => by subst e'; have := hlo k e; have := (hl k hg.1).1; omega), hlo⟩, ⟨S', _, h1.off (oS _) (fun k e e' => hgs k e e'), blk_off hbx2 (oS _) hgp, ?_, fun k e => .inr e, fun k e => by cases e; exact ⟨.inl hg.1, fun e => hgs _ e rfl⟩⟩, ⟨hb.1, ?_⟩, ?_, hgo.snoc ha hn, ?_⟩, ?_, ?_⟩
  · have := own_set hrow2 a (.int .i32 (((wordsO ts).length : Int) + 1)) (by omega)
    rw [moved_snoc os out a hn, List.map_set, ← hs]
    exact this
  · rintro (e | e)
    · exact hb.2 e
    · rcases h3 pm e with h | h
      · exact hb.2 (hS pm h)
      · omega
  · rintro k (e | e)
    · exact ⟨(hl k e).1, by have := (hl k e).2; have := h2.size; have := (oS (.int .i32 (((wordsO ts).length : Int) + 1))).size; omega⟩
    · exact ⟨(h1.raw.low k e).1, by have := (h1.raw.low k e).2; have := (oS (.int .i32 (((wordsO ts).length : Int) + 1))).size; omega⟩
  · rw [total_snoc, ← hs, words_len]
    simp [wordsO, sz]
  · exact (h2.mono (fun k _ e => hS k e)).trans (oS _) (fun k e => by subst e; exact .inl hg.1)
  · rintro k (e | e)
    · exact .inl e
    · rcases h3 k e with h | h
      · exact .inl (hS k h)
      · exact .inr h
theorem mv_cells {B : Nat} {w : World} {p n : Nat} {os : List Ob} {pm : Nat} {M : Nat → Prop} {q : Nat} {ts : List Ob} {out : List Nat} (h : Mv B w p n os pm M q ts out) : ∃ va vc, w.cell? ⟨pm, 0, none⟩ = some (.pointer (some ⟨p, 0, none⟩)) ∧ w.cell? ⟨pm, 1, none⟩ = some (.pointer (some ⟨q, 0, none⟩)) ∧ w.cell? ⟨pm, 2, none⟩ = some (.slice va (wordsO os).length vc) := by
  obtain ⟨_, ⟨S, vm, h1, h2, h3, h4, h5⟩, _⟩ := h
  obtain ⟨a, c, rfl⟩ := own_sl h3
  have x0 := blk_cell h2 0
  have x1 := blk_cell h2 1
  have x2 := blk_cell h2 2
  simp only [List.getElem?_toArray, List.getElem?_cons_zero, List.getElem?_cons_succ] at x0 x1 x2
  exact ⟨a, c, x0, x1, x2⟩
theorem mv_cell {B : Nat} {w : World} {p n : Nat} {os : List Ob} {pm : Nat} {M : Nat → Prop} {q : Nat} {ts : List Ob} {out : List Nat} (h : Mv B w p n os pm M q ts out) (a : Nat) (ha : a < (wordsO os).length) : ∃ g vc, w.cell? ⟨pm, 2, none⟩ = some (.slice (some ⟨g, 0, none⟩) (wordsO os).length vc) ∧ w.cell? ⟨g, a, none⟩ = some (.int .i32 (movedV os out a)) ∧ M g := by
  obtain ⟨_, ⟨S, vm, h1, h2, h3, h4, h5⟩, _⟩ := h
  obtain ⟨g, c, rfl, _, _, hc1, hc2⟩ := own_some h3 (by omega)
  have x2 := blk_cell h2 2
  simp only [List.getElem?_toArray, List.getElem?_cons_zero, List.getElem?_cons_succ] at x2
  exact ⟨g, c, x2, own_cell h3 a _ (by rw [List.getElem?_map, moved_at os out a ha]; rfl), (h5 g rfl).1⟩
theorem mv_has {B : Nat} {w : World} {p n : Nat} {os : List Ob} {pm : Nat} {M : Nat → Prop} {q : Nat} {ts : List Ob} {out : List Nat} (h : Mv B w p n os pm M q ts out) (x : Int) : Calls Try.prog 24 #[.pointer (some ⟨p, 0, none⟩), .int .i64 x] w fun e w' => e = .returned (.bool (hasO os x)) ∧ w = w' := by
  obtain ⟨⟨Bf, Sf, hF, hlo⟩, _⟩ := h
  exact has_any _ _ _ _ _ _ x hF
theorem mv_used {B : Nat} {w : World} {p n : Nat} {os : List Ob} {pm : Nat} {M : Nat → Prop} {q : Nat} {ts : List Ob} {out : List Nat} (h : Mv B w p n os pm M q ts out) : (wordsO os).length ≤ n ∧ n ≤ 1048576 ∧ ∀ o ∈ os, o.Ok := by
  obtain ⟨⟨Bf, Sf, hF, hlo⟩, _⟩ := h
  exact ⟨hF.used.1, hF.used.2, hF.ok⟩
set_option maxHeartbeats 2000000 in
theorem move_any (B : Nat) (w : World) (p n : Nat) (os : List Ob) (pm : Nat) (M : Nat → Prop) (q : Nat) (ts : List Ob) (out : List Nat) (x : Int) (H : Mv B w p n os pm M q ts out) :
    Calls Try.prog 30 #[.pointer (some ⟨pm, 0, none⟩), .int .i64 x] w fun e w' => e = .returned (.int .i64 (placeR os (addRef os out x) x)) ∧ ∃ M', Mv B w' p n os pm M' q (ts ++ ((addRef os out x).drop out.length).map (obAt os)) (addRef os out x) ∧ Off M w w' ∧ ∀ k, M' k → M k ∨ w.heap.size ≤ k := by
  obtain ⟨hu1, hu2, hok⟩ := mv_used H
  cases hq : hasO os x
  · have hadd : addRef os out x = out := by unfold addRef; rw [hq]; rfl
    have hpl : placeR os out x = -1 := by unfold placeR; rw [hq]; rfl
    rw [hadd, hpl]
    have HR : Hid (∃ M', Mv B w p n os pm M' q (ts ++ (out.drop out.length).map (obAt os)) out ∧ Off M w w ∧ ∀ k, M' k → M k ∨ w.heap.size ≤ k) := ⟨M, by rw [List.drop_length]; simpa using H, Off.refl _ _, fun k e => .inl e⟩
    have HH := mv_has H x
    rw [hq] at HH
    obtain ⟨va, vc, x0, x1, x2⟩ := mv_cells H
    clear H hok
    clear hadd hpl hq
    generalize (wordsO os).length = L at *
    by_cases hL : (L : Int) ≤ x
    · have d1 : decide ((L : Int) ≤ x) = true := by simp; omega
      go_enter Try.func30, Try.ntmps30
      go_wp2_with fail
      go_ret
      exact ⟨rfl, HR.out⟩
    · have d1 : decide ((L : Int) ≤ x) = false := by simp; omega
      go_enter Try.func30, Try.ntmps30
      go_wp2_with fail
      refine HH.mono ?_
      rintro e w' ⟨rfl, rfl⟩
      go_wp2_with fail
      go_ret
      exact ⟨rfl, HR.out⟩
  · obtain ⟨hq1, hq2⟩ := has_nat hq
    generalize x.toNat = a at *
    subst hq2
    have hfit := (has_fit hq1).1
    have hlt : a < (wordsO os).length := by unfold sz at hfit; omega
    have HH := mv_has H (a : Int)
    rw [hq] at HH
    obtain ⟨va, vc, x0, x1, x2⟩ := mv_cells H
    obtain ⟨g, c, x3, x4, hMg⟩ := mv_cell H a hlt
    rw [x2] at x3
    simp only [Option.some.injEq, Value.slice.injEq, true_and] at x3
    obtain ⟨rfl, rfl⟩ := x3
    by_cases hm : a ∈ out
    · have hadd : addRef os out (a : Int) = out := by unfold addRef; rw [if_pos hq1, Int.toNat_natCast, if_pos hm]
      have hpl : placeR os out (a : Int) = (posOf os out a : Int) := by unfold placeR; rw [if_pos hq1, Int.toNat_natCast]
      rw [hadd, hpl]
      have HR : Hid (∃ M', Mv B w p n os pm M' q (ts ++ (out.drop out.length).map (obAt os)) out ∧ Off M w w ∧ ∀ k, M' k → M k ∨ w.heap.size ≤ k) := ⟨M, by rw [List.drop_length]; simpa using H, Off.refl _ _, fun k e => .inl e⟩
      have hpo := pos_lt os a out hm
      have hto := H.good.total
      unfold movedV at x4
      rw [if_pos hm] at x4
      clear H hok hadd hpl hq hq1 hm hfit
      generalize posOf os out a = P at *
      have hP : P < 1048576 := by unfold sz at hpo; omega
      clear hpo hto hu1
      generalize (wordsO os).length = L at *
      have d1 : decide ((L : Int) ≤ (a : Int)) = false := by simp; omega
      have d2 : decide ((a : Int) < (L : Int)) = true := by simp; omega
      have d3 : decide (a < L) = true := by simp; omega
      have d4 : decide (L ≤ a) = false := by simp; omega
      have d5 : decide ((P : Int) + 1 = 0) = false := by simp; omega
      have d6 : ((P : Int) + 1 == 0) = false := by simp; omega
      go_enter Try.func30, Try.ntmps30
      go_wp2_with fail
      refine HH.mono ?_
      rintro e w' ⟨rfl, rfl⟩
      go_wp2_with fail
      go_ret
      refine ⟨?_, HR.out⟩
      go_num
    · have hadd : addRef os out (a : Int) = out ++ [a] := by unfold addRef; rw [if_pos hq1, Int.toNat_natCast, if_neg hm]
      have hpl : placeR os (out ++ [a]) (a : Int) = ((wordsO ts).length : Int) := by unfold placeR; rw [if_pos hq1, Int.toNat_natCast, pos_new os a [] out hm, H.sum]
      rw [hadd, hpl, List.drop_left]
      have hmv : movedV os out a = 0 := by unfold movedV; rw [if_neg hm]
      have hmv2 : movedV os (out ++ [a]) a = ((wordsO ts).length : Int) + 1 := by unfold movedV; rw [if_pos (by simp), pos_new os a [] out hm, H.sum]
      rw [hmv] at x4
      have hgs := H.good.snoc hq1 hm
      have hto := hgs.total
      rw [total_snoc, ← H.sum] at hto
      have hT : (wordsO ts).length < 1048576 := by unfold sz at hto; omega
      have kd : Below w.heap.size w w.drew := (Below.refl _ _).drew
      obtain ⟨⟨Bf, Sf, hF, hlo⟩, ⟨S, vm, h1, h2, h3, h4, h5⟩, hb, hl, hg, hs⟩ := H
      obtain ⟨g', c', rfl, _, _, hc1, hc2⟩ := own_some h3 (by omega)
      have x5 := blk_cell h2 2
      simp only [List.getElem?_toArray, List.getElem?_cons_zero, List.getElem?_cons_succ] at x5
      rw [x2] at x5
      simp only [Option.some.injEq, Value.slice.injEq, true_and] at x5
      obtain ⟨e5, rfl⟩ := x5
      obtain rfl : g = g' := by simpa using e5
      clear e5
      have hpS : ¬ S pm := fun e => hb.2 (h4 pm e)
      have hgS : ¬ S g := (h5 g rfl).2
      have HLY : Hid (Calls Try.prog 37 #[.pointer (some ⟨pm, 0, none⟩), .int .i64 (a : Int)] w.drew fun e w' => e = .returned (.int .i64 ((wordsO ts).length : Int)) ∧ ∃ S', Hp B w' S' q n (ts ++ [obAt os a]) ∧ Off S w.drew w' ∧ ∀ k, S' k → S k ∨ w.drew.heap.size ≤ k) := lay_any B w.drew S p n os pm q ts _ a Bf Sf (hF.later kd) hlo (h1.later kd) (blk_on h2 kd) hpS hq1 (by omega)
      have HFIN : Hid (∀ (wm : World) (S' : Nat → Prop), Hp B wm S' q n (ts ++ [obAt os a]) → Off S w.drew wm → (∀ k, S' k → S k ∨ w.drew.heap.size ≤ k) → ∃ M', Mv B (wm.setCell ⟨g, a, none⟩ (.int .i32 (((wordsO ts).length : Int) + 1))) p n os pm M' q (ts ++ [obAt os a]) (out ++ [a]) ∧ Off M w (wm.setCell ⟨g, a, none⟩ (.int .i32 (((wordsO ts).length : Int) + 1))) ∧ ∀ k, M' k → M k ∨ w.heap.size ≤ k) := fun wm S' q1 q2 q3 =>
        ⟨_, move_done hF hlo h1 h2 h3 h4 (h5 g rfl) hb hl hg hs hq1 hm q1 ((Off.below S kd).trans q2 (fun k e => .inl e)) q3⟩
      have HY2 : Hid (∀ wm, Off S w.drew wm → wm.cell? ⟨pm, 2, none⟩ = some (.slice (some ⟨g, 0, none⟩) (wordsO os).length vc) ∧ wm.cell? ⟨g, a, none⟩ = some (.int .i32 0) ∧ wm.frozen? ⟨g, a, none⟩ = false) := fun wm q2 => by
        have z := blk_cell (blk_off (blk_on h2 kd) q2 hpS) 2
        simp only [List.getElem?_toArray, List.getElem?_cons_zero, List.getElem?_cons_succ] at z
        have zr := own_off (own_later h3 kd) q2 (fun k e e' => by cases e; exact hgS e')
        exact ⟨z, own_cell zr a _ (by rw [List.getElem?_map, moved_at os out a hlt, hmv]; rfl), own_free zr a⟩
      have e1 : IntKind.i64.wrap (((wordsO ts).length : Int) + 1) = ((wordsO ts).length : Int) + 1 := by rw [IntKind.wrap_i64]; omega
      have e2 : IntKind.i32.wrap (((wordsO ts).length : Int) + 1) = ((wordsO ts).length : Int) + 1 := by rw [IntKind.wrap_i32]; omega
      clear hF hlo h1 h2 h3 h4 h5 hb hl hg hs hok hadd hpl hq hq1 hm hfit hmv hgs hto hpS hgS hu1 hMg
      have HLT : Hid (a < (wordsO os).length) := hlt
      have HMV2 : Hid _ := hmv2
      clear hmv2
      generalize hLL : (wordsO os).length = L at *
      have HLL : Hid _ := hLL
      clear hLL
      generalize hTT : (wordsO ts).length = T at *
      have HTT : Hid _ := hTT
      clear hTT
      have d1 : decide ((L : Int) ≤ (a : Int)) = false := by simp; omega
      have d2 : decide ((a : Int) < (L : Int)) = true := by simp; omega
      have d3 : decide (a < L) = true := by simp; omega
      have d4 : decide (L ≤ a) = false := by simp; omega
      go_enter Try.func30, Try.ntmps30
      go_wp2_with fail
      refine HH.mono ?_
      rintro e w' ⟨rfl, rfl⟩
      go_upto_region 4 with fail
      go_cut [1] (fun v1 wx => v1 = .int .i64 (a : Int) ∧ Hid (∃ M', Mv B wx p n os pm M' q (ts ++ [obAt os a]) (out ++ [a]) ∧ Off M w wx ∧ ∀ k, M' k → M k ∨ w.heap.size ≤ k))
      case first =>
        go_region_with (go_at_call 37; refine HLY.out.mono ?_; rintro e wm ⟨rfl, S', l1, l2, l3⟩; obtain ⟨y1, y2, y3⟩ := HY2.out wm l2)
        all_goals
          have HF := HFIN.out _ _ l1 l2 l3
          clear l1 l2 l3
          go_wp2_with fail
          go_meet
          case rel => exact ⟨rfl, HF⟩
      case rest =>
        obtain ⟨rfl, h6⟩ := hcut
        have HR : Hid _ := h6
        obtain ⟨M', hM, _, _⟩ := h6
        obtain ⟨g2, c2, z2, z4, _⟩ := mv_cell hM a (by rw [HLL.out]; exact HLT.out)
        rw [HMV2.out] at z4
        rw [HLL.out] at z2
        clear hM
        go_wp2_with fail
        go_ret
        refine ⟨?_, HR.out⟩
        go_num
end Coll
end Go.Proofs.Ytogohjnpgdiddaa
