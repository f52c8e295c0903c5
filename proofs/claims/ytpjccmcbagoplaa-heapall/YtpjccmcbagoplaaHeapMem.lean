/- A heap as it lies in memory, and what is asked of it: Size, Used, Has, Kind, Len, Get: what speaks of the program. -/
import Derived.Test.YtpjccmcbagoplaaLibMem
import Derived.Test.YtpjccmcbagoplaaHeapSpec
import Derived.Deep.QuietTactic
import Derived.BigQuiet
namespace Go.Proofs.Ytpjccmcbagoplaa
namespace Heap
open Mem
open Go.RowKit
set_option linter.unusedVariables false
set_option linter.unusedSimpArgs false
set_option maxRecDepth 100000

/-- A heap in block p: so many words, those that are used, where objects begin; what it may write lies in S. -/
structure Hw (B : Nat) (w : World) (S : Nat → Prop) (p n : Nat) (ws : List Int) (ms : List Bool) : Prop where
  rows : ∃ vw vb, w.heap[p]? = some (.cells #[.int .i64 n, vw, vb] 46 (0, 0)) ∧ w.ownsRow B 21 1 vw ws.length (ws.map (Value.int .i32)) ∧ w.ownsRow B 4 1 vb ms.length (ms.map Value.bool) ∧ (∀ k, vw.ownBlock = some k → S k) ∧ (∀ k, vb.ownBlock = some k → S k)
  here : S p
  low : ∀ k, S k → B ≤ k ∧ k < w.heap.size
  size : n ≤ 1048576
  used : ws.length ≤ n
  is32 : ∀ x ∈ ws, Is32 x
/-- A heap of these objects. -/
structure Hp (B : Nat) (w : World) (S : Nat → Prop) (p n : Nat) (os : List Ob) : Prop where
  raw : Hw B w S p n (wordsO os) (marksO os)
  ok : ∀ o ∈ os, Ob.Ok o
theorem Hw.lt {B : Nat} {w : World} {S : Nat → Prop} {p n : Nat} {ws : List Int} {ms : List Bool} (h : Hw B w S p n ws ms) : p < w.heap.size := (h.low p h.here).2
theorem Hw.off {B : Nat} {w w' : World} {S S' : Nat → Prop} {p n : Nat} {ws : List Int} {ms : List Bool} (h : Hw B w S p n ws ms) (hf : Off S' w w') (hS : ∀ k, S k → ¬ S' k) : Hw B w' S p n ws ms := by
  obtain ⟨⟨vw, vb, h1, h2, h3, h4, h5⟩, hh, hl, hs, hu, hi⟩ := h
  exact ⟨⟨vw, vb, blk_off h1 hf (hS p hh), own_off h2 hf (fun k e => hS k (h4 k e)), own_off h3 hf (fun k e => hS k (h5 k e)), h4, h5⟩, hh, fun k e => ⟨(hl k e).1, Nat.lt_of_lt_of_le (hl k e).2 hf.size⟩, hs, hu, hi⟩
theorem Hw.later {B : Nat} {w w' : World} {S : Nat → Prop} {p n : Nat} {ws : List Int} {ms : List Bool} (h : Hw B w S p n ws ms) (hb : Below w.heap.size w w') : Hw B w' S p n ws ms := h.off (Off.below (fun _ => False) hb) (fun _ _ e => e)
theorem Hw.lower {B B' : Nat} {w : World} {S : Nat → Prop} {p n : Nat} {ws : List Int} {ms : List Bool} (h : Hw B w S p n ws ms) (hB : B' ≤ B) : Hw B' w S p n ws ms := by
  obtain ⟨⟨vw, vb, h1, h2, h3, h4, h5⟩, hh, hl, hs, hu, hi⟩ := h
  exact ⟨⟨vw, vb, h1, own_low h2 hB, own_low h3 hB, h4, h5⟩, hh, fun k e => ⟨Nat.le_trans hB (hl k e).1, (hl k e).2⟩, hs, hu, hi⟩
theorem Hp.off {B : Nat} {w w' : World} {S S' : Nat → Prop} {p n : Nat} {os : List Ob} (h : Hp B w S p n os) (hf : Off S' w w') (hS : ∀ k, S k → ¬ S' k) : Hp B w' S p n os := ⟨h.raw.off hf hS, h.ok⟩
theorem Hp.later {B : Nat} {w w' : World} {S : Nat → Prop} {p n : Nat} {os : List Ob} (h : Hp B w S p n os) (hb : Below w.heap.size w w') : Hp B w' S p n os := ⟨h.raw.later hb, h.ok⟩
theorem Hp.lower {B B' : Nat} {w : World} {S : Nat → Prop} {p n : Nat} {os : List Ob} (h : Hp B w S p n os) (hB : B' ≤ B) : Hp B' w S p n os := ⟨h.raw.lower hB, h.ok⟩
theorem Hp.lt {B : Nat} {w : World} {S : Nat → Prop} {p n : Nat} {os : List Ob} (h : Hp B w S p n os) : p < w.heap.size := h.raw.lt
theorem Hp.used {B : Nat} {w : World} {S : Nat → Prop} {p n : Nat} {os : List Ob} (h : Hp B w S p n os) : (wordsO os).length ≤ n ∧ n ≤ 1048576 := ⟨h.raw.used, h.raw.size⟩

theorem ret_b {a b : Bool} (h : a = b) : Ending.returned (.bool a) = .returned (.bool b) := by rw [h]
theorem ret_i {k : IntKind} {a b : Int} (h : a = b) : Ending.returned (.int k a) = .returned (.int k b) := by rw [h]

/-! ### Size, Used -/
theorem size_nil (w : World) : Calls Try.prog 10 #[.pointer none] w fun e w' => e = .returned (.int .i64 0) ∧ w = w' := by
  go_enter Try.func10, Try.ntmps10
  go_wp2_with fail
  go_ret
  exact ⟨rfl, rfl⟩
theorem size_any (B : Nat) (w : World) (S : Nat → Prop) (p n : Nat) (ws : List Int) (ms : List Bool) (H : Hw B w S p n ws ms) : Calls Try.prog 10 #[.pointer (some ⟨p, 0, none⟩)] w fun e w' => e = .returned (.int .i64 n) ∧ w = w' := by
  obtain ⟨⟨vw, vb, h1, h2, h3, h4, h5⟩, hh, hl, hs, hu, hi⟩ := H
  have x0 := blk_cell h1 0
  simp only [List.getElem?_toArray, List.getElem?_cons_zero, List.getElem?_cons_succ] at x0
  clear h1 h2 h3 h4 h5 hl hi
  go_enter Try.func10, Try.ntmps10
  go_wp2_with fail
  go_ret
  exact ⟨rfl, rfl⟩
theorem used_nil (w : World) : Calls Try.prog 16 #[.pointer none] w fun e w' => e = .returned (.int .i64 0) ∧ w = w' := by
  go_enter Try.func16, Try.ntmps16
  go_wp2_with fail
  go_ret
  exact ⟨rfl, rfl⟩
theorem used_any (B : Nat) (w : World) (S : Nat → Prop) (p n : Nat) (ws : List Int) (ms : List Bool) (H : Hw B w S p n ws ms) : Calls Try.prog 16 #[.pointer (some ⟨p, 0, none⟩)] w fun e w' => e = .returned (.int .i64 ws.length) ∧ w = w' := by
  obtain ⟨⟨vw, vb, h1, h2, h3, h4, h5⟩, hh, hl, hs, hu, hi⟩ := H
  have x1 := blk_cell h1 1
  simp only [List.getElem?_toArray, List.getElem?_cons_zero, List.getElem?_cons_succ] at x1
  obtain ⟨a, c, rfl⟩ := own_sl h2
  clear h1 h2 h3 h4 h5 hl hi
  go_enter Try.func16, Try.ntmps16
  go_wp2_with fail
  go_ret
  exact ⟨rfl, rfl⟩
/-! ### Has -/
theorem has_nil (a : Int) (w : World) : Calls Try.prog 15 #[.pointer none, .int .i64 a] w fun e w' => e = .returned (.bool false) ∧ w = w' := by
  go_enter Try.func15, Try.ntmps15
  go_wp2_with fail
  go_ret
  exact ⟨rfl, rfl⟩
theorem has_any (B : Nat) (w : World) (S : Nat → Prop) (p n : Nat) (os : List Ob) (a : Int) (H : Hp B w S p n os) : Calls Try.prog 15 #[.pointer (some ⟨p, 0, none⟩), .int .i64 a] w fun e w' => e = .returned (.bool (hasO os a)) ∧ w = w' := by
  obtain ⟨⟨⟨vw, vb, h1, h2, h3, h4, h5⟩, hh, hl, hs, hu, hi⟩, hok⟩ := H
  have x2 := blk_cell h1 2
  simp only [List.getElem?_toArray, List.getElem?_cons_zero, List.getElem?_cons_succ] at x2
  have hml := marks_len os
  have hM : (marksO os).length ≤ 1048576 := by omega
  by_cases h0 : 0 ≤ a
  · obtain ⟨k, rfl⟩ := Int.eq_ofNat_of_zero_le h0
    by_cases hk : k < (marksO os).length
    · obtain ⟨g, cap, rfl, _, _, hc1, hc2⟩ := own_some h3 (by omega)
      obtain ⟨b, hb⟩ : ∃ b, (marksO os)[k]? = some b := ⟨_, List.getElem?_eq_getElem hk⟩
      have y := own_cell h3 k (.bool b) (by rw [List.getElem?_map, hb]; rfl)
      have HE : Hid (hasO os (k : Int) = b) := by
        show _ = _
        simp only [hasO, Int.toNat_natCast, hb]
        cases b <;> simp
      clear h1 h2 h3 h4 h5 hl hi hb hml hok hu
      unfold maxLen at hc2
      generalize (marksO os).length = L at *
      generalize hasO os (k : Int) = hx at *
      have d1 : decide ((k : Int) < (L : Int)) = true := by simp; omega
      have d2 : decide (k < L) = true := by simp; omega
      go_enter Try.func15, Try.ntmps15
      go_wp2_with fail
      go_ret
      exact ⟨ret_b HE.out.symm, rfl⟩
    · have HE : Hid (hasO os (k : Int) = false) := by
        show _ = _
        simp only [hasO, Int.toNat_natCast]
        rw [List.getElem?_eq_none (by omega)]
        simp
      obtain ⟨va, vc, rfl⟩ := own_sl h3
      clear h1 h2 h3 h4 h5 hl hi hml hok hu
      generalize (marksO os).length = L at *
      generalize hasO os (k : Int) = hx at *
      have d1 : decide ((k : Int) < (L : Int)) = false := by simp; omega
      have d2 : decide (k < L) = false := by simp; omega
      go_enter Try.func15, Try.ntmps15
      go_wp2_with fail
      go_ret
      exact ⟨ret_b HE.out.symm, rfl⟩
  · have HE : Hid (hasO os a = false) := by
      show _ = _
      simp [hasO, h0]
    clear h1 h2 h3 h4 h5 hl hi hml hok hu
    generalize hasO os a = hx at *
    have d1 : decide (0 ≤ a) = false := by simp; omega
    go_enter Try.func15, Try.ntmps15
    go_wp2_with fail
    go_ret
    exact ⟨ret_b HE.out.symm, rfl⟩
/-! ### Kind, Len -/
theorem kind_nil (a : Int) (w : World) : Calls Try.prog 12 #[.pointer none, .int .i64 a] w fun e w' => e = .returned (.int .i64 (-1)) ∧ w = w' := by
  go_enter Try.func12, Try.ntmps12
  go_wp2_with (go_at_call 15; refine (has_nil _ _).mono ?_; rintro e w' ⟨rfl, rfl⟩)
  go_ret
  exact ⟨rfl, rfl⟩
theorem len_nil (a : Int) (w : World) : Calls Try.prog 13 #[.pointer none, .int .i64 a] w fun e w' => e = .returned (.int .i64 0) ∧ w = w' := by
  go_enter Try.func13, Try.ntmps13
  go_wp2_with (go_at_call 15; refine (has_nil _ _).mono ?_; rintro e w' ⟨rfl, rfl⟩)
  go_ret
  exact ⟨rfl, rfl⟩
theorem kind_any (B : Nat) (w : World) (S : Nat → Prop) (p n : Nat) (os : List Ob) (a : Int) (H : Hp B w S p n os) : Calls Try.prog 12 #[.pointer (some ⟨p, 0, none⟩), .int .i64 a] w fun e w' => e = .returned (.int .i64 (kindO os a)) ∧ w = w' := by
  have HC := has_any B w S p n os a H
  cases hq : hasO os a
  · rw [hq] at HC
    have HE : Hid (kindO os a = -1) := by
      show _ = _
      simp [kindO, hq]
    clear hq
    generalize kindO os a = kx at *
    go_enter Try.func12, Try.ntmps12
    go_wp2_with fail
    refine HC.mono ?_
    rintro e w' ⟨rfl, rfl⟩
    go_wp2_with fail
    go_ret
    exact ⟨ret_i HE.out.symm, rfl⟩
  · rw [hq] at HC
    obtain ⟨pre, o, post, rfl, rfl⟩ := has_split hq
    have hok := H.ok o (by simp)
    obtain ⟨⟨⟨vw, vb, h1, h2, h3, h4, h5⟩, hh, hl, hs, hu, hi⟩, _⟩ := H
    have x1 := blk_cell h1 1
    simp only [List.getElem?_toArray, List.getElem?_cons_zero, List.getElem?_cons_succ] at x1
    have hlen := words_len pre o post
    obtain ⟨g, cap, rfl, _, _, hc1, hc2⟩ := own_some h2 (by omega)
    have hw := words_at pre o post 0 (by omega)
    rw [Nat.add_zero] at hw
    have y := own_cell h2 (wordsO pre).length (.int .i32 (o.k : Int)) (by rw [List.getElem?_map, hw]; rfl)
    have HE : Hid _ := kind_at pre o post
    have hk := hok.k
    clear h1 h2 h3 h4 h5 hl hi hw hq hok
    generalize kindO (pre ++ o :: post) ((wordsO pre).length : Int) = kx at *
    generalize (wordsO (pre ++ o :: post)).length = L at *
    generalize (wordsO pre).length = A at *
    generalize o.k = K at *
    have hAL : A < L := by omega
    clear hlen
    go_enter Try.func12, Try.ntmps12
    go_wp2_with fail
    refine HC.mono ?_
    rintro e w' ⟨rfl, rfl⟩
    go_wp2_with fail
    go_ret
    exact ⟨ret_i HE.out.symm, rfl⟩
theorem len_any (B : Nat) (w : World) (S : Nat → Prop) (p n : Nat) (os : List Ob) (a : Int) (H : Hp B w S p n os) : Calls Try.prog 13 #[.pointer (some ⟨p, 0, none⟩), .int .i64 a] w fun e w' => e = .returned (.int .i64 (lenO os a)) ∧ w = w' := by
  have HC := has_any B w S p n os a H
  cases hq : hasO os a
  · rw [hq] at HC
    have HE : Hid (lenO os a = 0) := by
      show _ = _
      simp [lenO, hq]
    clear hq
    generalize lenO os a = kx at *
    go_enter Try.func13, Try.ntmps13
    go_wp2_with fail
    refine HC.mono ?_
    rintro e w' ⟨rfl, rfl⟩
    go_wp2_with fail
    go_ret
    exact ⟨ret_i HE.out.symm, rfl⟩
  · rw [hq] at HC
    obtain ⟨pre, o, post, rfl, rfl⟩ := has_split hq
    have hok := H.ok o (by simp)
    obtain ⟨⟨⟨vw, vb, h1, h2, h3, h4, h5⟩, hh, hl, hs, hu, hi⟩, _⟩ := H
    have x1 := blk_cell h1 1
    simp only [List.getElem?_toArray, List.getElem?_cons_zero, List.getElem?_cons_succ] at x1
    have hlen := words_len pre o post
    obtain ⟨g, cap, rfl, _, _, hc1, hc2⟩ := own_some h2 (by omega)
    have hw := words_at pre o post 1 (by omega)
    have y := own_cell h2 ((wordsO pre).length + 1) (.int .i32 (o.v.length : Int)) (by rw [List.getElem?_map, hw]; rfl)
    have HE : Hid _ := len_at pre o post
    have hk := hok.n
    clear h1 h2 h3 h4 h5 hl hi hw hq hok
    generalize lenO (pre ++ o :: post) ((wordsO pre).length : Int) = kx at *
    generalize (wordsO (pre ++ o :: post)).length = L at *
    generalize (wordsO pre).length = A at *
    generalize o.v.length = K at *
    have hAL : A + 1 < L := by omega
    clear hlen
    go_enter Try.func13, Try.ntmps13
    go_wp2_with fail
    refine HC.mono ?_
    rintro e w' ⟨rfl, rfl⟩
    go_wp2_with fail
    go_ret
    exact ⟨ret_i HE.out.symm, rfl⟩
end Heap
end Go.Proofs.Ytpjccmcbagoplaa
