/- slices.Clone of words, heap's Words, whole, Of: what speaks of the program. -/
import Derived.Test.YtpjccmcbagoplaaHeapMk
namespace Go.Proofs.Ytpjccmcbagoplaa
namespace Heap
open Mem
open Go.RowKit
set_option linter.unusedVariables false
set_option linter.unusedSimpArgs false
set_option maxRecDepth 100000

/-- The slice (a, n, c) reads as these numbers of kind k. -/
structure Reads (k : IntKind) (w : World) (a : Option Addr) (n c : Nat) (xs : List Int) : Prop where
  len : xs.length = n
  cap : n ≤ c
  max : c ≤ maxLen
  nil : a = none → n = 0 ∧ c = 0
  cells : 0 < n → ∃ b off, a = some ⟨b, off, none⟩ ∧ ∀ i, i < n → w.cell? ⟨b, off + i, none⟩ = some (.int k (xs.getD i 0))
theorem Reads.none (k : IntKind) (w : World) : Reads k w .none 0 0 [] := ⟨rfl, Nat.le_refl _, Nat.zero_le _, fun _ => ⟨rfl, rfl⟩, fun h0 => absurd h0 (by omega)⟩
theorem Reads.later {k : IntKind} {w w' : World} {a : Option Addr} {n c : Nat} {xs : List Int} (h : Reads k w a n c xs) (hb : Below w.heap.size w w') : Reads k w' a n c xs :=
  ⟨h.len, h.cap, h.max, h.nil, fun h0 => by
    obtain ⟨b, off, e, hc⟩ := h.cells h0
    exact ⟨b, off, e, fun i hi => cellOn (hc i hi) hb⟩⟩
theorem Reads.news {k : IntKind} {w : World} {a : Option Addr} {n c : Nat} {xs : List Int} (h : Reads k w a n c xs) : ∀ ad, a = some ad → ∀ j u, (xs.map (Value.int k))[j]? = some u → w.cell? (ad.add j) = some u := by
  intro ad had j u hu
  have hj : j < xs.length := by
    have := (List.getElem?_eq_some_iff.1 hu).1
    simpa using this
  obtain ⟨b, off, e, hc⟩ := h.cells (by have := h.len; omega)
  rw [e] at had
  obtain rfl := Option.some.inj had
  rw [Addr.add_lit, hc j (by rw [← h.len]; exact hj)]
  simp [List.getElem?_eq_getElem hj] at hu
  simp [List.getD, List.getElem?_eq_getElem hj, hu]
theorem Reads.own {k : IntKind} {w : World} {B e n : Nat} {v : Value} {xs : List Int} (h : w.ownsRow B e 1 v n (xs.map (Value.int k))) : ∃ a c, v = .slice a n c ∧ Reads k w a n c xs := by
  have hl := h.1
  rw [List.length_map, Nat.mul_one] at hl
  have hc := h
  rcases h.2 with ⟨rfl, rfl⟩ | ⟨g, cap, cur, rfl, hb, hg, hn, hm, hs, ht⟩
  · obtain rfl : xs = [] := List.eq_nil_of_length_eq_zero hl
    exact ⟨.none, 0, rfl, Reads.none _ _⟩
  · refine ⟨some ⟨g, 0, Option.none⟩, cap, rfl, hl, hn, hm, fun e => (by cases e), fun h0 => ⟨g, 0, rfl, fun i hi => ?_⟩⟩
    rw [Nat.zero_add]
    exact own_cell hc i _ (by rw [List.getElem?_map, List.getElem?_eq_getElem (by omega)]; simp [List.getD, List.getElem?_eq_getElem (show i < xs.length by omega)])
theorem Reads.drop {k : IntKind} {w : World} {b off n c : Nat} {xs : List Int} (h : Reads k w (some ⟨b, off, .none⟩) n c xs) (j : Nat) (hj : j ≤ n) : Reads k w (some ⟨b, off + j, .none⟩) (n - j) (c - j) (xs.drop j) := by
  refine ⟨by rw [List.length_drop, h.len], by have := h.cap; omega, by have := h.max; omega, fun e => (by cases e), fun h0 => ?_⟩
  obtain ⟨b', off', e, hc⟩ := h.cells (by omega)
  simp only [Option.some.injEq, Addr.mk.injEq, and_true] at e
  obtain ⟨rfl, rfl⟩ := e
  refine ⟨b, off + j, rfl, fun i hi => ?_⟩
  rw [Nat.add_assoc, hc (j + i) (by omega)]
  simp [List.getD]
theorem one_ints (k : IntKind) (xs : List Int) : ∀ u ∈ xs.map (Value.int k), u.oneCell' = true := ints_oneCell k xs

theorem nil_w (w : World) : (binOp .eql 31 (.slice none 0 0) (.slice none 0 0)).run Try.prog w = .ok (.bool true) w := by kernel_rfl
theorem some_w (a : Addr) (n c : Nat) (w : World) : (binOp .eql 31 (.slice (some a) n c) (.slice none 0 0)).run Try.prog w = .ok (.bool false) w := by kernel_rfl
set_option maxHeartbeats 2000000 in
theorem clone_any (a : Option Addr) (n c : Nat) (xs : List Int) (w : World) (h : Reads .i32 w a n c xs) (hn : n ≤ 10000000000) :
    Calls Try.prog 20 #[.slice a n c] w fun e w' => ∃ v', e = .returned v' ∧ w'.ownsRow w.heap.size 21 1 v' n (xs.map (Value.int .i32)) ∧ Below w.heap.size w w' := by
  obtain ⟨i0, hi, hz0, hz1, hz2⟩ := info_parts infoW
  have hln : (xs.map (Value.int .i32)).length = n * 1 := by rw [List.length_map, Nat.mul_one]; exact h.len
  cases a with
  | none =>
    obtain ⟨rfl, rfl⟩ := h.nil rfl
    obtain rfl : xs = [] := List.eq_nil_of_length_eq_zero h.len
    have hq := nil_w w
    clear h hln
    go_enter Try.func20, Try.ntmps20
    go_wp2_with fail
    go_ret
    exact ⟨_, rfl, World.ownsRow_nil _ _ _ _, Below.refl _ _⟩
  | some ad =>
    have hq := some_w ad n c w
    have ka := alloc1 w (.cells #[] 21)
    have own0 : (w.alloc (.cells #[] 21)).ownsRow w.heap.size 21 1 (.slice (some ⟨w.heap.size, 0, none⟩) 0 0) 0 [] :=
      ⟨by simp, .inr ⟨w.heap.size, 0, _, rfl, Nat.le_refl _, heap_alloc_new w _, Nat.le_refl _, Nat.zero_le _, by simp, by simp⟩⟩
    have HN : Hid _ := (h.later ka).news ad rfl
    have hB := ka.size
    have HL : Hid _ := hln
    have HO : Hid _ := one_ints .i32 xs
    clear h hln
    go_enter Try.func20, Try.ntmps20
    go_wp2_with (at_builtin; refine wpList_append_own _ rfl (.tmp 5) (.tmp 6) 31 rfl w.heap.size 21 i0 (.int .i32 0) 1 4 Try.underlying31 hi hz0 hz1 hz2 rfl (by decide) (.slice (some ⟨w.heap.size, 0, none⟩) 0 0) 0 [] rfl own0 ad n c (xs.map (Value.int .i32)) rfl HL.out HN.out HO.out (by unfold maxLen; omega) (by omega) hB ?_; intro v' w' h2 h3 h4)
    have kb := ka.grown h3 hB (fun k e => by cases e; exact Nat.le_refl _)
    rw [List.nil_append, Nat.zero_add] at h2
    go_ret
    exact ⟨_, rfl, h2, kb⟩
theorem words_nil (w : World) : Calls Try.prog 8 #[.pointer none] w fun e w' => e = .returned (.slice none 0 0) ∧ w = w' := by
  go_enter Try.func8, Try.ntmps8
  go_wp2_with fail
  go_ret
  exact ⟨rfl, rfl⟩
theorem words_any (B : Nat) (w : World) (S : Nat → Prop) (p n : Nat) (ws : List Int) (ms : List Bool) (H : Hw B w S p n ws ms) :
    Calls Try.prog 8 #[.pointer (some ⟨p, 0, none⟩)] w fun e w' => ∃ v', e = .returned v' ∧ w'.ownsRow w.heap.size 21 1 v' ws.length (ws.map (Value.int .i32)) ∧ Below w.heap.size w w' := by
  obtain ⟨⟨vw, vb, h1, h2, h3, h4, h5⟩, hh, hl, hs, hu, hi⟩ := H
  have x1 := blk_cell h1 1
  simp only [List.getElem?_toArray, List.getElem?_cons_zero, List.getElem?_cons_succ] at x1
  obtain ⟨a, c, rfl, hr⟩ := Reads.own h2
  have HC := clone_any a ws.length c ws w hr (by omega)
  clear h1 h2 h3 h4 h5 hl hi hr
  go_enter Try.func8, Try.ntmps8
  go_wp2_with fail
  refine HC.mono ?_
  rintro e w' ⟨v', rfl, own, b⟩
  obtain ⟨va, vc, rfl⟩ := own_sl own
  go_wp2_with fail
  go_ret
  exact ⟨_, rfl, own, b⟩
/-- Do the words begin with an object, with all of it? -/
def wholeB (xs : List Int) : Bool := decide (2 ≤ xs.length) && (mayB (xs.getD 0 0) (xs.getD 1 0) && decide (2 + xs.getD 1 0 ≤ (xs.length : Int)))
set_option maxHeartbeats 1000000 in
theorem whole_any (a : Option Addr) (n c : Nat) (xs : List Int) (w : World) (h : Reads .i32 w a n c xs) (hi : ∀ x ∈ xs, Is32 x) :
    Calls Try.prog 21 #[.slice a n c] w fun e w' => e = .returned (.bool (wholeB xs)) ∧ ∃ j, w' = w.drewN j := by
  have hcap := h.cap
  have hmax := h.max
  unfold maxLen at hmax
  have hlen := h.len
  by_cases h2 : 2 ≤ n
  · have hb32 : ∀ i, i < n → Is32 (xs.getD i 0) := fun i hi' => by
      rw [List.getD, List.getElem?_eq_getElem (by omega)]
      exact hi _ (List.getElem_mem _)
    obtain ⟨ha0, ha1⟩ := hb32 0 (by omega)
    obtain ⟨hb0, hb1⟩ := hb32 1 (by omega)
    obtain ⟨b, off, rfl, hc⟩ := h.cells (by omega)
    have x0 := hc 0 (by omega)
    have x1 := hc 1 (by omega)
    rw [Nat.add_zero] at x0
    have HE : Hid (wholeB xs = (mayB (xs.getD 0 0) (xs.getD 1 0) && decide (2 + xs.getD 1 0 ≤ (n : Int)))) := by
      show _ = _
      unfold wholeB
      rw [hlen]
      simp [h2]
    clear hc hi hb32 h hlen
    generalize wholeB xs = wb at *
    generalize xs.getD 0 0 = K at *
    generalize xs.getD 1 0 = M at *
    have d0 : decide ((2 : Int) ≤ (n : Int)) = true := by simp; omega
    have d0' : decide (2 ≤ n) = true := by simp; omega
    have e1 : IntKind.i64.wrap K = K := by rw [IntKind.wrap_i64]; omega
    have e2 : IntKind.i64.wrap M = M := by rw [IntKind.wrap_i64]; omega
    have e3 : IntKind.i64.wrap (2 + M) = 2 + M := by rw [IntKind.wrap_i64]; omega
    have e4 : (1 : Int) < (n : Int) := by omega
    have e5 : (0 : Int) < (n : Int) := by omega
    have e6 : 1 < n := by omega
    have e7 : 0 < n := by omega
    have HM : ∃ q, mayB K M = q := ⟨_, rfl⟩
    obtain ⟨q, hq⟩ := HM
    have HQ : Hid _ := hq
    clear hq
    cases q
    · go_enter Try.func21, Try.ntmps21
      go_wp2_with fail
      go_quiet ((go_at_call 17; exact Calls.quiet_of_same (mayBe_q _ _ _ _ HQ.out)))
      go_wp2_with fail
      go_ret
      exact ⟨ret_b (by rw [HE.out, HQ.out]; rfl), _, rfl⟩
    · cases hd : decide (2 + M ≤ (n : Int))
      · have HD : Hid _ := hd
        go_enter Try.func21, Try.ntmps21
        go_wp2_with fail
        go_quiet ((go_at_call 17; exact Calls.quiet_of_same (mayBe_q _ _ _ _ HQ.out)))
        go_wp2_with fail
        go_ret
        exact ⟨ret_b (by rw [HE.out, HQ.out, HD.out]; rfl), _, rfl⟩
      · have HD : Hid _ := hd
        go_enter Try.func21, Try.ntmps21
        go_wp2_with fail
        go_quiet ((go_at_call 17; exact Calls.quiet_of_same (mayBe_q _ _ _ _ HQ.out)))
        go_wp2_with fail
        go_ret
        exact ⟨ret_b (by rw [HE.out, HQ.out, HD.out]; rfl), _, rfl⟩
  · have HE : Hid (wholeB xs = false) := by
      show _ = _
      unfold wholeB
      rw [hlen]
      simp [h2]
    clear h hi hlen
    generalize wholeB xs = wb at *
    have d0 : decide ((2 : Int) ≤ (n : Int)) = false := by simp; omega
    have d0' : decide (2 ≤ n) = false := by simp; omega
    go_enter Try.func21, Try.ntmps21
    go_wp2_with fail
    go_quiet (fail)
    go_wp2_with fail
    go_ret
    exact ⟨ret_b HE.out.symm, _, rfl⟩
end Heap
end Go.Proofs.Ytpjccmcbagoplaa
