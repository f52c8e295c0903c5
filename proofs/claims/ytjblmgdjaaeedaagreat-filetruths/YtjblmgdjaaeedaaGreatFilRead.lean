/- The contracts of file's reader: number, poolText, truth, text, count: what speaks of the program. -/
import Derived.Test.YtjblmgdjaaeedaaGreatFilWhole
import Derived.Test.YtjblmgdjaaeedaaGreatFilMay
namespace Go.Proofs.YtjblmgdjaaeedaaGreat
namespace Fil
open Num Kind Op4 Cls
open Go.RowKit
set_option linter.unusedVariables false
set_option linter.unusedSimpArgs false
set_option maxRecDepth 100000

/-- The world of which a block is struck: what reads in it reads without that block. -/
def wipe (R : Nat) (w : World) : World := { w with heap := w.heap.setIfInBounds R (.cells #[] 0 (0, 0)) }
theorem wipe_size (R : Nat) (w : World) : (wipe R w).heap.size = w.heap.size := by simp [wipe]
theorem wipe_other {R b : Nat} {w : World} (h : b ≠ R) : (wipe R w).heap[b]? = w.heap[b]? := by
  simp only [wipe]
  rw [Array.getElem?_setIfInBounds_ne (by omega)]
theorem wipe_self {R : Nat} {w : World} (h : R < w.heap.size) : (wipe R w).heap[R]? = some (.cells #[] 0 (0, 0)) := by
  simp only [wipe]
  rw [Array.getElem?_setIfInBounds_self_of_lt h]
theorem wipe_cell {R : Nat} {w : World} {a : Addr} {v : Value} (h : (wipe R w).cell? a = some v) : w.cell? a = some v := by
  by_cases e : a.block = R
  · by_cases hlt : R < w.heap.size
    · simp only [World.cell?, e, wipe_self hlt] at h
      simp at h
    · have : (wipe R w).heap[a.block]? = none := Array.getElem?_eq_none (by rw [wipe_size]; omega)
      simp [World.cell?, this] at h
  · rw [World.cell?_of_block (w := w) (wipe_other e)] at h
    exact h
theorem wipe_keep {R : Nat} {w w' : World} (h : w.grownBy w' (some R)) (hR : R < w.heap.size) : Below (wipe R w).heap.size (wipe R w) (wipe R w') := by
  refine ⟨h.os, h.tape, h.output, by rw [wipe_size, wipe_size]; exact h.size, fun k hk => ?_⟩
  rw [wipe_size] at hk
  by_cases e : k = R
  · subst e
    rw [wipe_self hR, wipe_self (Nat.lt_of_lt_of_le hR h.size)]
  · rw [wipe_other e, wipe_other e]
    exact h.block k hk (fun e' => e (Option.some.inj e'))

/-- The reader in block R: what is left to read lies where it lay in w0; its pool reads as P. -/
structure Rd (w0 w : World) (R : Nat) (v1 : Value) (P : List ByteArray) (r : List Int) : Prop where
  bel : Below w0.heap.size w0 w
  lo : w0.heap.size ≤ R
  blk : ∃ p n k, w.heap[R]? = some (.cells #[.slice p n k, v1] 95 (0, 0)) ∧ Has w0 p n k r ∧ Sl strE 1 (wipe R w) v1 P
  byt : Bytes r ∧ r.length ≤ 1000000
theorem Rd.lt {w0 w : World} {R : Nat} {v1 : Value} {P : List ByteArray} {r : List Int} (h : Rd w0 w R v1 P r) : R < w.heap.size := by
  obtain ⟨p, n, k, hb, _⟩ := h.blk
  exact lt_of_block hb
theorem Rd.grown {w0 w w' : World} {R : Nat} {v1 : Value} {P : List ByteArray} {r : List Int} (h : Rd w0 w R v1 P r) (hb : Below w.heap.size w w') : Rd w0 w' R v1 P r := by
  have hlt := h.lt
  obtain ⟨bel, lo, ⟨p, n, k, BB, hh, hs⟩, byt⟩ := h
  refine ⟨bel.trans (hb.mono bel.size), lo, ⟨p, n, k, blk_on BB hb, hh, hs.later strE_stable (wipe_keep ⟨hb.os, hb.tape, hb.output, hb.size, fun k hk _ => hb.block k hk⟩ hlt)⟩, byt⟩
theorem below_grown {w w' : World} {row : Option Nat} (hb : Below w.heap.size w w') : w.grownBy w' row := ⟨hb.os, hb.tape, hb.output, hb.size, fun k hk _ => hb.block k hk⟩
theorem bytes_drop {xs : List Int} (h : Bytes xs) (k : Nat) : Bytes (xs.drop k) := fun x hx => h x (List.mem_of_mem_drop hx)
theorem Rd.store {w0 w : World} {R : Nat} {v1 : Value} {P : List ByteArray} {p p' : Option Addr} {n k n' k' : Nat} {r' : List Int} (bel : Below w0.heap.size w0 w) (lo : w0.heap.size ≤ R)
    (BB : w.heap[R]? = some (.cells #[.slice p n k, v1] 95 (0, 0))) (hs : Sl strE 1 (wipe R w) v1 P) (hh : Has w0 p' n' k' r') (byt : Bytes r' ∧ r'.length ≤ 1000000) :
    Rd w0 (w.setCell ⟨R, 0, none⟩ (.slice p' n' k')) R v1 P r' ∧ w.grownBy (w.setCell ⟨R, 0, none⟩ (.slice p' n' k')) (some R) := by
  have hg := set_grown w R 0 (.slice p' n' k')
  refine ⟨⟨bel.setCell (p := ⟨R, 0, none⟩) lo _, lo, ⟨p', n', k', blk_set BB 0 _, hh, hs.later strE_stable (wipe_keep hg (lt_of_block BB))⟩, byt⟩, hg⟩

set_option maxHeartbeats 2000000 in
theorem rnum_any (R : Nat) (v1 : Value) (P : List ByteArray) (r : List Int) (w0 w : World) (H : Rd w0 w R v1 P r) :
    Calls Tryz.prog 126 #[.pointer (some ⟨R, 0, none⟩)] w fun e w' => e = .returned (.int .i64 (rN r).1) ∧ Rd w0 w' R v1 P (rN r).2 ∧ w.grownBy w' (some R) := by
  obtain ⟨bel, lo, ⟨p, n, k, BB, h, hs⟩, hb⟩ := H
  have c0 := blk_cell BB 0
  have f0 := blk_free BB 0
  simp only [List.getElem?_toArray, List.getElem?_cons_zero, List.getElem?_cons_succ] at c0
  have HG := get_any p n k r w (h.later bel) hb.1
  have hbd := get_bd r hb.1
  unfold rN
  have hcap := h.cap
  have hmax := h.max
  unfold maxLen at hmax
  have hlen := h.len
  have hbb : ∀ j, Bytes (r.drop j) ∧ (r.drop j).length ≤ 1000000 := fun j => ⟨bytes_drop hb.1 j, by rw [List.length_drop]; have := hb.2; omega⟩
  generalize get r = gr at *
  obtain ⟨N, K, E⟩ := gr
  simp only at hbd ⊢
  obtain ⟨h64, hk20, hk2, he0, he2⟩ := hbd
  obtain ⟨K, rfl⟩ := Int.eq_ofNat_of_zero_le hk20
  have hK : K ≤ n := by omega
  simp only [Int.toNat_natCast]
  clear hk20 hk2 hlen
  cases p with
  | none =>
    obtain ⟨rfl, rfl⟩ := h.nil rfl
    obtain rfl : K = 0 := by omega
    go_enter Tryz.func126, Tryz.ntmps126
    go_wp2_with fail
    refine HG.mono ?_
    rintro e w1 ⟨rfl, rfl⟩
    simp only [resG]
    go_wp2_with fail
    go_ret
    exact ⟨rfl, Rd.store bel lo BB hs h hb⟩
  | some ad =>
    obtain ⟨ab, ao, asp⟩ := ad
    by_cases hkK : k = K
    · subst hkK
      obtain rfl : n = k := by omega
      have hz : Has w0 (some ⟨ab, ao, asp⟩) 0 0 (r.drop n) := ⟨by rw [List.length_drop, h.len]; omega, Nat.le_refl _, Nat.zero_le _, fun e => (by cases e), fun h => absurd h (by omega)⟩
      go_enter Tryz.func126, Tryz.ntmps126
      go_wp2_with fail
      refine HG.mono ?_
      rintro e w1 ⟨rfl, rfl⟩
      simp only [resG]
      go_wp2_with fail
      go_ret
      exact ⟨rfl, Rd.store bel lo BB hs hz (hbb _)⟩
    · by_cases hn0 : n = 0
      · subst hn0
        obtain rfl : K = 0 := by omega
        go_enter Tryz.func126, Tryz.ntmps126
        go_wp2_with fail
        refine HG.mono ?_
        rintro e w1 ⟨rfl, rfl⟩
        simp only [resG]
        go_wp2_with fail
        go_ret
        exact ⟨rfl, Rd.store bel lo BB hs h hb⟩
      · obtain ⟨b', off', e', _, _⟩ := h.cells (by omega)
        simp only [Option.some.injEq, Addr.mk.injEq] at e'
        obtain ⟨rfl, rfl, rfl⟩ := e'
        have hz := h.drop K hK
        go_enter Tryz.func126, Tryz.ntmps126
        go_wp2_with fail
        refine HG.mono ?_
        rintro e w1 ⟨rfl, rfl⟩
        simp only [resG]
        go_wp2_with fail
        go_ret
        exact ⟨rfl, Rd.store bel lo BB hs hz (hbb _)⟩
set_option maxHeartbeats 2000000 in
theorem rpool_any (R : Nat) (v1 : Value) (P : List ByteArray) (r : List Int) (w0 w : World) (H : Rd w0 w R v1 P r) :
    Calls Tryz.prog 66 #[.pointer (some ⟨R, 0, none⟩)] w fun e w' => e = .returned (.string (rP r).1) ∧ Rd w0 w' R v1 P (rP r).2 ∧ w.grownBy w' (some R) := by
  obtain ⟨bel, lo, ⟨p, n, k, BB, h, hs⟩, hb⟩ := H
  have c0 := blk_cell BB 0
  have f0 := blk_free BB 0
  simp only [List.getElem?_toArray, List.getElem?_cons_zero, List.getElem?_cons_succ] at c0
  have hcap := h.cap
  have hmax := h.max
  unfold maxLen at hmax
  have HG := get_text p n k r w (h.later bel) hb.1 (by have := h.len; have := hb.2; omega)
  have hbd := getText_bd r hb.1
  unfold rP
  have hlen := h.len
  have hbb : ∀ j, Bytes (r.drop j) ∧ (r.drop j).length ≤ 1000000 := fun j => ⟨bytes_drop hb.1 j, by rw [List.length_drop]; have := hb.2; omega⟩
  generalize getText r = gr at *
  obtain ⟨N, K, E⟩ := gr
  simp only at hbd ⊢
  obtain ⟨hsb, hsl, hk20, hk2, he0, he2⟩ := hbd
  obtain ⟨K, rfl⟩ := Int.eq_ofNat_of_zero_le hk20
  have hK : K ≤ n := by omega
  simp only [Int.toNat_natCast]
  clear hk20 hk2 hlen hsl
  cases p with
  | none =>
    obtain ⟨rfl, rfl⟩ := h.nil rfl
    obtain rfl : K = 0 := by omega
    go_enter Tryz.func66, Tryz.ntmps66
    go_wp2_with fail
    refine HG.mono ?_
    rintro e w1 ⟨rfl, rfl⟩
    simp only [resT]
    go_wp2_with fail
    go_ret
    exact ⟨rfl, Rd.store bel lo BB hs h hb⟩
  | some ad =>
    obtain ⟨ab, ao, asp⟩ := ad
    by_cases hkK : k = K
    · subst hkK
      obtain rfl : n = k := by omega
      have hz : Has w0 (some ⟨ab, ao, asp⟩) 0 0 (r.drop n) := ⟨by rw [List.length_drop, h.len]; omega, Nat.le_refl _, Nat.zero_le _, fun e => (by cases e), fun h => absurd h (by omega)⟩
      go_enter Tryz.func66, Tryz.ntmps66
      go_wp2_with fail
      refine HG.mono ?_
      rintro e w1 ⟨rfl, rfl⟩
      simp only [resT]
      go_wp2_with fail
      go_ret
      exact ⟨rfl, Rd.store bel lo BB hs hz (hbb _)⟩
    · by_cases hn0 : n = 0
      · subst hn0
        obtain rfl : K = 0 := by omega
        go_enter Tryz.func66, Tryz.ntmps66
        go_wp2_with fail
        refine HG.mono ?_
        rintro e w1 ⟨rfl, rfl⟩
        simp only [resT]
        go_wp2_with fail
        go_ret
        exact ⟨rfl, Rd.store bel lo BB hs h hb⟩
      · obtain ⟨b', off', e', _, _⟩ := h.cells (by omega)
        simp only [Option.some.injEq, Addr.mk.injEq] at e'
        obtain ⟨rfl, rfl, rfl⟩ := e'
        have hz := h.drop K hK
        go_enter Tryz.func66, Tryz.ntmps66
        go_wp2_with fail
        refine HG.mono ?_
        rintro e w1 ⟨rfl, rfl⟩
        simp only [resT]
        go_wp2_with fail
        go_ret
        exact ⟨rfl, Rd.store bel lo BB hs hz (hbb _)⟩
theorem rtruth_any (R : Nat) (v1 : Value) (P : List ByteArray) (r : List Int) (w0 w : World) (H : Rd w0 w R v1 P r) :
    Calls Tryz.prog 96 #[.pointer (some ⟨R, 0, none⟩)] w fun e w' => e = .returned (.bool (rB r).1) ∧ Rd w0 w' R v1 P (rB r).2 ∧ w.grownBy w' (some R) := by
  have HC := rnum_any R v1 P r w0 w H
  unfold rB
  go_enter Tryz.func96, Tryz.ntmps96
  go_wp2_with fail
  refine HC.mono ?_
  rintro e w1 ⟨rfl, H1, g1⟩
  go_wp2_with fail
  go_ret
  exact ⟨rfl, H1, g1⟩
set_option maxHeartbeats 2000000 in
theorem rcount_any (R : Nat) (v1 : Value) (P : List ByteArray) (r : List Int) (w0 w : World) (H : Rd w0 w R v1 P r) :
    Calls Tryz.prog 93 #[.pointer (some ⟨R, 0, none⟩)] w fun e w' => e = .returned (.int .i64 (rQ r).1) ∧ Rd w0 w' R v1 P (rQ r).2 ∧ w.grownBy w' (some R) := by
  have HC := rnum_any R v1 P r w0 w H
  unfold rQ
  generalize rN r = q at *
  obtain ⟨N, r1⟩ := q
  simp only at HC ⊢
  by_cases h0 : N < 0
  · rw [if_pos (.inl h0)]
    have d0 : decide (N < 0) = true := by simp [h0]
    go_enter Tryz.func93, Tryz.ntmps93
    go_wp2_with fail
    refine HC.mono ?_
    rintro e w1 ⟨rfl, H1, g1⟩
    go_wp2_with fail
    go_ret
    exact ⟨rfl, H1, g1⟩
  · have d0 : decide (N < 0) = false := by simp; omega
    by_cases h1 : (r1.length : Int) < N
    · rw [if_pos (.inr h1)]
      go_enter Tryz.func93, Tryz.ntmps93
      go_wp2_with fail
      refine HC.mono ?_
      rintro e w1 ⟨rfl, H1, g1⟩
      have HH : Hid _ := H1
      obtain ⟨bel, lo, ⟨p, n, k, BB, h, hs⟩, hb⟩ := H1
      have c0 := blk_cell BB 0
      simp only [List.getElem?_toArray, List.getElem?_cons_zero, List.getElem?_cons_succ] at c0
      have hl := h.len
      have d1 : decide ((n : Int) < N) = true := by simp; omega
      clear hl
      go_wp2_with fail
      go_ret
      exact ⟨rfl, HH.out, g1⟩
    · rw [if_neg (by omega)]
      obtain ⟨N, rfl⟩ := Int.eq_ofNat_of_zero_le (show 0 ≤ N by omega)
      simp only [Int.toNat_natCast]
      go_enter Tryz.func93, Tryz.ntmps93
      go_wp2_with fail
      refine HC.mono ?_
      rintro e w1 ⟨rfl, H1, g1⟩
      have HH : Hid _ := H1
      obtain ⟨bel, lo, ⟨p, n, k, BB, h, hs⟩, hb⟩ := H1
      have c0 := blk_cell BB 0
      simp only [List.getElem?_toArray, List.getElem?_cons_zero, List.getElem?_cons_succ] at c0
      have hl := h.len
      have d1 : decide ((n : Int) < (N : Int)) = false := by simp; omega
      have d2 : decide (n < N) = false := by simp; omega
      clear hl h1
      go_wp2_with fail
      go_ret
      exact ⟨rfl, HH.out, g1⟩
set_option maxHeartbeats 2000000 in
theorem rtext_any (R : Nat) (v1 : Value) (P : List ByteArray) (r : List Int) (w0 w : World) (H : Rd w0 w R v1 P r) :
    Calls Tryz.prog 95 #[.pointer (some ⟨R, 0, none⟩)] w fun e w' => e = .returned (.string (rT P r).1) ∧ Rd w0 w' R v1 P (rT P r).2 ∧ w.grownBy w' (some R) ∧ (rT P r).1.size ≤ maxLen := by
  have HC := rnum_any R v1 P r w0 w H
  unfold rT
  generalize rN r = q at *
  obtain ⟨N, r1⟩ := q
  simp only at HC ⊢
  by_cases h0 : N < 0
  · rw [if_neg (by omega)]
    have d0 : decide (N < 0) = true := by simp [h0]
    go_enter Tryz.func95, Tryz.ntmps95
    go_wp2_with fail
    refine HC.mono ?_
    rintro e w1 ⟨rfl, H1, g1⟩
    go_wp2_with fail
    go_ret
    exact ⟨rfl, H1, g1, by decide⟩
  · have d0 : decide (N < 0) = false := by simp; omega
    by_cases h1 : (P.length : Int) ≤ N
    · rw [if_neg (by omega)]
      go_enter Tryz.func95, Tryz.ntmps95
      go_wp2_with fail
      refine HC.mono ?_
      rintro e w1 ⟨rfl, H1, g1⟩
      have HH : Hid _ := H1
      obtain ⟨bel, lo, ⟨p, n, k, BB, h, hs⟩, hb⟩ := H1
      obtain ⟨a1, c1, e1, _⟩ := hs
      subst e1
      have x1 := blk_cell BB 1
      simp only [List.getElem?_toArray, List.getElem?_cons_zero, List.getElem?_cons_succ] at x1
      have d1 : decide ((P.length : Int) ≤ N) = true := by simp; omega
      go_wp2_with fail
      go_ret
      exact ⟨rfl, HH.out, g1, by decide⟩
    · rw [if_pos (by omega)]
      obtain ⟨N, rfl⟩ := Int.eq_ofNat_of_zero_le (show 0 ≤ N by omega)
      simp only [Int.toNat_natCast]
      have hN : N < P.length := by omega
      have hX : P.getD N ⟨#[]⟩ = P[N] := by simp [List.getD, List.getElem?_eq_getElem hN]
      rw [hX]
      clear hX
      have HX : Hid (∃ X, X = P[N]) := ⟨_, rfl⟩
      obtain ⟨X, hX⟩ := HX.out
      clear HX
      rw [← hX]
      have HX : Hid _ := hX
      clear hX
      go_enter Tryz.func95, Tryz.ntmps95
      go_wp2_with fail
      refine HC.mono ?_
      rintro e w1 ⟨rfl, H1, g1⟩
      have HH : Hid _ := H1
      obtain ⟨bel, lo, ⟨p, n, k, BB, h, hs⟩, hb⟩ := H1
      obtain ⟨a1, c1, e1, hl, hm, _, hx⟩ := hs
      subst e1
      obtain ⟨b9, off9, rfl, _, hx⟩ := hx (by omega)
      obtain ⟨z0, z1⟩ := hx N hN
      rw [← HX.out] at z0 z1
      have z0 := wipe_cell z0
      simp only [Nat.mul_one] at z0
      unfold maxLen at hm
      have x1 := blk_cell BB 1
      simp only [List.getElem?_toArray, List.getElem?_cons_zero, List.getElem?_cons_succ] at x1
      have d1 : decide ((P.length : Int) ≤ (N : Int)) = false := by simp; omega
      have d2 : decide (P.length ≤ N) = false := by simp; omega
      clear hx h1 HX
      go_wp2_with fail
      go_ret
      exact ⟨rfl, HH.out, g1, z1⟩
theorem rP_size {r : List Int} (hb : Bytes r ∧ r.length ≤ 1000000) : (rP r).1.size ≤ maxLen := by
  have := (getText_bd r hb.1).2.1
  unfold rP maxLen
  have e : (strOfNums (getText r).1).size = (getText r).1.length := by simp [strOfNums, ByteArray.size]
  rw [e]
  have := hb.2
  omega
end Fil
end Go.Proofs.YtjblmgdjaaeedaaGreat
