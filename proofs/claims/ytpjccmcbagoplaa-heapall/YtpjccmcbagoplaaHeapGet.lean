/- heap's holds, Get, Put, mayBe, New: what speaks of the program. -/
import Derived.Test.YtpjccmcbagoplaaHeapMem
namespace Go.Proofs.Ytpjccmcbagoplaa
namespace Heap
open Mem
open Go.RowKit
set_option linter.unusedVariables false
set_option linter.unusedSimpArgs false
set_option maxRecDepth 100000

theorem holds_nil (a i : Int) (w : World) : Calls Try.prog 19 #[.pointer none, .int .i64 a, .int .i64 i] w fun e w' => e = .returned (.bool false) ∧ w = w' := by
  by_cases h0 : 0 ≤ i
  · have d1 : decide (0 ≤ i) = true := by simp; omega
    have d2 : decide (i < 0) = false := by simp; omega
    go_enter Try.func19, Try.ntmps19
    go_wp2_with (go_at_call 13; refine (len_nil _ _).mono ?_; rintro e w' ⟨rfl, rfl⟩)
    go_ret
    exact ⟨rfl, rfl⟩
  · have d1 : decide (0 ≤ i) = false := by simp; omega
    go_enter Try.func19, Try.ntmps19
    go_wp2_with fail
    go_ret
    exact ⟨rfl, rfl⟩
theorem holds_any (B : Nat) (w : World) (S : Nat → Prop) (p n : Nat) (os : List Ob) (a i : Int) (H : Hp B w S p n os) : Calls Try.prog 19 #[.pointer (some ⟨p, 0, none⟩), .int .i64 a, .int .i64 i] w fun e w' => e = .returned (.bool (holdsO os a i)) ∧ w = w' := by
  have HC := len_any B w S p n os a H
  have HE : Hid (holdsO os a i = (decide (0 ≤ i) && decide (i < lenO os a))) := rfl
  clear H
  generalize holdsO os a i = hx at *
  generalize lenO os a = L at *
  by_cases h0 : 0 ≤ i
  · have d1 : decide (0 ≤ i) = true := by simp; omega
    go_enter Try.func19, Try.ntmps19
    go_wp2_with fail
    refine HC.mono ?_
    rintro e w' ⟨rfl, rfl⟩
    go_wp2_with fail
    go_ret
    exact ⟨ret_b (by rw [HE.out, d1]; simp), rfl⟩
  · have d1 : decide (0 ≤ i) = false := by simp; omega
    clear HC
    go_enter Try.func19, Try.ntmps19
    go_wp2_with fail
    go_ret
    exact ⟨ret_b (by rw [HE.out, d1]; simp), rfl⟩
theorem get_nil (a i : Int) (w : World) : Calls Try.prog 14 #[.pointer none, .int .i64 a, .int .i64 i] w fun e w' => e = .returned (.int .i32 0) ∧ w = w' := by
  go_enter Try.func14, Try.ntmps14
  go_wp2_with (go_at_call 19; refine (holds_nil _ _ _).mono ?_; rintro e w' ⟨rfl, rfl⟩)
  go_ret
  exact ⟨rfl, rfl⟩
theorem put_nil (a i x : Int) (w : World) : Calls Try.prog 7 #[.pointer none, .int .i64 a, .int .i64 i, .int .i32 x] w fun e w' => e = .returned (.bool false) ∧ w = w' := by
  go_enter Try.func7, Try.ntmps7
  go_wp2_with (go_at_call 19; refine (holds_nil _ _ _).mono ?_; rintro e w' ⟨rfl, rfl⟩)
  go_ret
  exact ⟨rfl, rfl⟩
theorem get_any (B : Nat) (w : World) (S : Nat → Prop) (p n : Nat) (os : List Ob) (a i : Int) (H : Hp B w S p n os) : Calls Try.prog 14 #[.pointer (some ⟨p, 0, none⟩), .int .i64 a, .int .i64 i] w fun e w' => e = .returned (.int .i32 (getO os a i)) ∧ w = w' := by
  have HC := holds_any B w S p n os a i H
  cases hq : holdsO os a i
  · rw [hq] at HC
    have HE : Hid (getO os a i = 0) := by
      show _ = _
      simp [getO, hq]
    clear hq
    generalize getO os a i = kx at *
    go_enter Try.func14, Try.ntmps14
    go_wp2_with fail
    refine HC.mono ?_
    rintro e w' ⟨rfl, rfl⟩
    go_wp2_with fail
    go_ret
    exact ⟨ret_i HE.out.symm, rfl⟩
  · rw [hq] at HC
    obtain ⟨pre, o, post, rfl, rfl, hi0, hi1⟩ := holds_split hq
    obtain ⟨i, rfl⟩ := Int.eq_ofNat_of_zero_le hi0
    have hil : i < o.v.length := by omega
    have hok := H.ok o (by simp)
    obtain ⟨⟨⟨vw, vb, h1, h2, h3, h4, h5⟩, hh, hl, hs, hu, hi⟩, _⟩ := H
    have x1 := blk_cell h1 1
    simp only [List.getElem?_toArray, List.getElem?_cons_zero, List.getElem?_cons_succ] at x1
    have hlen := words_len pre o post
    obtain ⟨g, cap, rfl, _, _, hc1, hc2⟩ := own_some h2 (by omega)
    have hw := words_at pre o post (2 + i) (by omega)
    have ho : (obW o)[2 + i]? = some (o.v.getD i 0) := by
      rw [show 2 + i = i + 1 + 1 by omega]
      simp [obW, List.getD, List.getElem?_eq_getElem hil]
    have y := own_cell h2 ((wordsO pre).length + 2 + i) (.int .i32 (o.v.getD i 0)) (by rw [List.getElem?_map, Nat.add_assoc, hw, ho]; rfl)
    have HE : Hid _ := get_at pre o post i hil
    have hn := hok.n
    clear h1 h2 h3 h4 h5 hl hi hw hq hok ho
    generalize getO (pre ++ o :: post) ((wordsO pre).length : Int) (i : Int) = kx at *
    generalize (wordsO (pre ++ o :: post)).length = L at *
    generalize (wordsO pre).length = A at *
    generalize o.v.getD i 0 = X at *
    generalize o.v.length = K at *
    have hAL : A + 2 + i < L := by omega
    clear hlen
    go_enter Try.func14, Try.ntmps14
    go_wp2_with fail
    refine HC.mono ?_
    rintro e w' ⟨rfl, rfl⟩
    go_wp2_with fail
    go_ret
    exact ⟨ret_i HE.out.symm, rfl⟩
/-- What Put makes of a heap. -/
def putS (os : List Ob) (a i x : Int) : List Ob := if holdsO os a i then putO os a.toNat i.toNat x else os
theorem put_any (B : Nat) (w : World) (S : Nat → Prop) (p n : Nat) (os : List Ob) (a i x : Int) (H : Hp B w S p n os) (hx : Is32 x) : Calls Try.prog 7 #[.pointer (some ⟨p, 0, none⟩), .int .i64 a, .int .i64 i, .int .i32 x] w fun e w' => e = .returned (.bool (holdsO os a i)) ∧ Hp B w' S p n (putS os a i x) ∧ Off S w w' ∧ (holdsO os a i = false → w = w') := by
  have HC := holds_any B w S p n os a i H
  cases hq : holdsO os a i
  · rw [hq] at HC
    have HE : Hid (Hp B w S p n (putS os a i x)) := by
      show Hp _ _ _ _ _ _
      unfold putS
      rw [hq]
      exact H
    clear hq H
    generalize putS os a i x = P at *
    go_enter Try.func7, Try.ntmps7
    go_wp2_with fail
    refine HC.mono ?_
    rintro e w' ⟨rfl, rfl⟩
    go_wp2_with fail
    go_ret
    exact ⟨rfl, HE.out, Off.refl _ _, fun _ => rfl⟩
  · rw [hq] at HC
    have HP : Hid (putS os a i x = putO os a.toNat i.toNat x) := by
      show _ = _
      unfold putS
      rw [if_pos hq]
    obtain ⟨pre, o, post, rfl, rfl, hi0, hi1⟩ := holds_split hq
    obtain ⟨i, rfl⟩ := Int.eq_ofNat_of_zero_le hi0
    have hil : i < o.v.length := by omega
    obtain ⟨⟨⟨vw, vb, h1, h2, h3, h4, h5⟩, hh, hl, hs, hu, hi⟩, hok⟩ := H
    have x1 := blk_cell h1 1
    simp only [List.getElem?_toArray, List.getElem?_cons_zero, List.getElem?_cons_succ] at x1
    have hlen := words_len pre o post
    obtain ⟨g, cap, rfl, hBg, hg, hc1, hc2⟩ := own_some h2 (by omega)
    have hSg := h4 g rfl
    have hne := own_ne_blk h2 h1 (by decide)
    have hAL : (wordsO pre).length + 2 + i < (wordsO (pre ++ o :: post)).length := by omega
    have y := own_cell h2 ((wordsO pre).length + 2 + i) (.int .i32 ((wordsO (pre ++ o :: post)).getD ((wordsO pre).length + 2 + i) 0)) (by rw [List.getElem?_map, List.getElem?_eq_getElem hAL]; simp [List.getD, List.getElem?_eq_getElem hAL])
    have f := own_free h2 ((wordsO pre).length + 2 + i)
    have own2 := own_set h2 ((wordsO pre).length + 2 + i) (.int .i32 x) hAL
    have hpg : p ≠ g := fun e => hne (by rw [e]; rfl)
    have BP := blk_other h1 (a := ⟨g, (wordsO pre).length + 2 + i, none⟩) (.int .i32 x) hpg
    have ownB := own_other h3 (a := ⟨g, (wordsO pre).length + 2 + i, none⟩) (fun e => (own_apart h3 h2 (by decide)).elim (fun e' => by rw [e'] at e; cases e) (fun e' => e' e)) (.int .i32 x)
    have HE : Hid (Hp B (w.setCell ⟨g, (wordsO pre).length + 2 + i, none⟩ (.int .i32 x)) S p n (putS (pre ++ o :: post) ((wordsO pre).length : Int) (i : Int) x)) := by
      show Hp _ _ _ _ _ _
      rw [HP.out, Int.toNat_natCast, Int.toNat_natCast, put_at]
      have hok2 : ∀ q ∈ pre ++ ⟨o.k, o.v.set i x⟩ :: post, Ob.Ok q := fun q hm => by
        rcases List.mem_append.1 hm with hm | hm
        · exact hok q (by simp [hm])
        · rcases List.mem_cons.1 hm with rfl | hm
          · exact (hok o (by simp)).set i hx
          · exact hok q (by simp [hm])
      refine ⟨⟨⟨_, vb, BP, ?_, ?_, h4, h5⟩, hh, fun k e => ⟨(hl k e).1, by simpa [World.setCell] using (hl k e).2⟩, hs, ?_, words_is32 _ hok2⟩, hok2⟩
      · rw [words_put pre o post i x hil, List.map_set, List.length_set]
        exact own2
      · rw [marks_put]
        exact ownB
      · rw [words_put pre o post i x hil, List.length_set]
        exact hu
    have hn := (hok o (by simp)).n
    clear h1 h2 h3 h4 h5 hl hi hq hok HP own2 BP ownB
    generalize putS (pre ++ o :: post) ((wordsO pre).length : Int) (i : Int) x = PS at *
    generalize (wordsO (pre ++ o :: post)).getD ((wordsO pre).length + 2 + i) 0 = Y at *
    generalize (wordsO (pre ++ o :: post)).length = L at *
    generalize (wordsO pre).length = A at *
    generalize o.v.length = K at *
    clear hlen
    go_enter Try.func7, Try.ntmps7
    go_wp2_with fail
    refine HC.mono ?_
    rintro e w' ⟨rfl, rfl⟩
    go_wp2_with fail
    go_ret
    exact ⟨rfl, HE.out, Off.set _ _ _ hSg, fun e => by cases e⟩
/-! ### mayBe, New -/
theorem mayBe_any (k n : Int) (w : World) : Calls Try.prog 17 #[.int .i64 k, .int .i64 n] w fun e w' => e = .returned (.bool (mayB k n)) ∧ w = w' := by
  have HE : Hid (mayB k n = (decide (0 ≤ k) && (decide (k ≤ 10000) && (decide (0 ≤ n) && decide (n ≤ 1000))))) := rfl
  generalize mayB k n = mb at *
  cases h1 : decide (0 ≤ k)
  · rw [h1] at HE
    go_enter Try.func17, Try.ntmps17
    go_wp2_with fail
    go_ret
    exact ⟨ret_b (by rw [HE.out]; rfl), rfl⟩
  · cases h2 : decide (k ≤ 10000)
    · rw [h1, h2] at HE
      go_enter Try.func17, Try.ntmps17
      go_wp2_with fail
      go_ret
      exact ⟨ret_b (by rw [HE.out]; rfl), rfl⟩
    · cases h3 : decide (0 ≤ n)
      · rw [h1, h2, h3] at HE
        go_enter Try.func17, Try.ntmps17
        go_wp2_with fail
        go_ret
        exact ⟨ret_b (by rw [HE.out]; rfl), rfl⟩
      · rw [h1, h2, h3] at HE
        go_enter Try.func17, Try.ntmps17
        go_wp2_with fail
        go_ret
        exact ⟨ret_b (by rw [HE.out]; simp), rfl⟩
theorem new_hp (w : World) (x : Int) (C : Nat) (hx : x = (C : Int)) (hC : C ≤ 1048576) : Hp w.heap.size (w.alloc (.cells #[.int .i64 x, .slice none 0 0, .slice none 0 0] 46)) (fun k => k = w.heap.size) w.heap.size C [] := by
  subst hx
  refine ⟨⟨⟨_, _, blk_new w _ _, World.ownsRow_nil _ _ _ _, World.ownsRow_nil _ _ _ _, (fun k e => by cases e), (fun k e => by cases e)⟩, rfl, fun k e => ?_, hC, Nat.zero_le _, fun x hx => by simp [wordsO] at hx⟩, fun o ho => by cases ho⟩
  rw [alloc_size]
  exact ⟨by omega, by omega⟩
theorem new_any (n : Int) (w : World) (hn : -9223372036854775808 ≤ n ∧ n ≤ 9223372036854775807) : Calls Try.prog 5 #[.int .i64 n] w fun e w' => e = .returned (.pointer (some ⟨w.heap.size, 0, none⟩)) ∧ Hp w.heap.size w' (fun k => k = w.heap.size) w.heap.size (clampN n) [] ∧ Below w.heap.size w w' := by
  have HE : Hid (((clampN n : Nat) : Int) = min (max n 0) 1048576) := by
    show _ = _
    unfold clampN
    omega
  have hcl := clamp_le n
  generalize clampN n = C at *
  go_enter Try.func5, Try.ntmps5
  go_wp2_with fail
  all_goals
    go_ret
    refine ⟨rfl, new_hp w _ C (by have := HE.out; omega) hcl, alloc1 _ _⟩
end Heap
end Go.Proofs.Ytpjccmcbagoplaa
