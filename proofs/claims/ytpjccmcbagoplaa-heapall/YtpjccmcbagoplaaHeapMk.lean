/- heap's Make: what speaks of the program. -/
import Derived.Test.YtpjccmcbagoplaaHeapMake
namespace Go.Proofs.Ytpjccmcbagoplaa
namespace Heap
open Mem
open Go.RowKit
set_option linter.unusedVariables false
set_option linter.unusedSimpArgs false
set_option maxRecDepth 100000

def makeB (n : Nat) (os : List Ob) (k m : Int) : Bool := mayB k m && decide (2 + m ≤ (n : Int) - ((wordsO os).length : Int))
def makeA (n : Nat) (os : List Ob) (k m : Int) : Int := if makeB n os k m then ((wordsO os).length : Int) else -1
def makeS (n : Nat) (os : List Ob) (k m : Int) : List Ob := if makeB n os k m then os ++ [newOb k m] else os
theorem mayBe_q (k n : Int) (q : Bool) (w : World) (h : mayB k n = q) : Calls Try.prog 17 #[.int .i64 k, .int .i64 n] w fun e w' => e = .returned (.bool q) ∧ w' = w := by
  subst h
  exact (mayBe_any k n w).mono fun e w' h => ⟨h.1, h.2.symm⟩
theorem make_nil (k m : Int) (w : World) : Calls Try.prog 6 #[.pointer none, .int .i64 k, .int .i64 m] w fun e w' => e = .returned (.tuple #[.int .i64 (-1), .bool false]) ∧ ∃ j, w' = w.drewN j := by
  go_enter Try.func6, Try.ntmps6
  go_wp2_with fail
  go_quiet (fail)
  go_wp2_with fail
  go_ret2
  exact ⟨rfl, _, rfl⟩
theorem set_two (ws : List Int) (k m : Nat) : (((ws.map (Value.int .i32)) ++ List.replicate (2 + m) (Value.int .i32 0)).set ws.length (.int .i32 (k : Int))).set (ws.length + 1) (.int .i32 (m : Int)) = (ws ++ obW (newOb (k : Int) (m : Int))).map (Value.int .i32) := by
  rw [List.set_append_right _ _ (by simp), List.length_map, Nat.sub_self, List.set_append_right _ _ (by simp), List.length_map, Nat.add_sub_cancel_left, show 2 + m = m + 1 + 1 by omega, List.replicate_succ, List.replicate_succ, List.set_cons_zero, List.set_cons_succ, List.set_cons_zero, List.map_append]
  simp [obW, newOb]
theorem words_done {B : Nat} {w wq w1 : World} {S : Nat → Prop} {p n g2 cap2 k m : Nat} {vw vb : Value} {ws : List Int} {ms : List Bool}
    (h1 : wq.heap[p]? = some (.cells #[.int .i64 n, vw, vb] 46 (0, 0))) (h2 : wq.ownsRow B 21 1 vw ws.length (ws.map (Value.int .i32))) (h3 : wq.ownsRow B 4 1 vb ms.length (ms.map Value.bool)) (kq : Below w.heap.size w wq)
    (h4 : ∀ k, vw.ownBlock = some k → S k) (h5 : ∀ k, vb.ownBlock = some k → S k) (hh : S p) (hl : ∀ k, S k → B ≤ k ∧ k < w.heap.size) (hs : n ≤ 1048576) (hu : ws.length + (2 + m) ≤ n) (hi : ∀ x ∈ ws, Is32 x) (hk : k ≤ 10000) (hm : m ≤ 1000)
    (g1 : wq.grownBy w1 vw.ownBlock) (own1 : w1.ownsRow B 21 1 (.slice (some ⟨g2, 0, none⟩) (ws.length + (2 + m)) cap2) (ws.length + (2 + m)) (ws.map (Value.int .i32) ++ List.replicate (2 + m) (Value.int .i32 0)))
    (at1 : (Value.slice (some ⟨g2, 0, none⟩) (ws.length + (2 + m)) cap2).ownBlock = vw.ownBlock ∨ (Value.slice (some ⟨g2, 0, none⟩) (ws.length + (2 + m)) cap2).ownBlock = some wq.heap.size) :
    ∃ S', Hw B (((w1.setCell ⟨p, 1, none⟩ (.slice (some ⟨g2, 0, none⟩) (ws.length + (2 + m)) cap2)).drew.setCell ⟨g2, ws.length, none⟩ (.int .i32 k)).setCell ⟨g2, ws.length + 1, none⟩ (.int .i32 m)) S' p n (ws ++ obW (newOb (k : Int) (m : Int))) ms ∧
      Off S w (((w1.setCell ⟨p, 1, none⟩ (.slice (some ⟨g2, 0, none⟩) (ws.length + (2 + m)) cap2)).drew.setCell ⟨g2, ws.length, none⟩ (.int .i32 k)).setCell ⟨g2, ws.length + 1, none⟩ (.int .i32 m)) ∧ ∀ k, S' k → S k ∨ w.heap.size ≤ k := by
  have hne := own_ne_blk h2 h1 (by decide)
  have BPE := blk_grown h1 g1 hne
  have hpg2 : p ≠ g2 := fun e => own_ne_blk own1 BPE (by decide) (by rw [e]; rfl)
  have BPS := blk_set BPE 1 (.slice (some ⟨g2, 0, none⟩) (ws.length + (2 + m)) cap2)
  have ownS := own_other own1 (a := ⟨p, 1, none⟩) (fun e => hpg2 (by cases e; rfl)) (.slice (some ⟨g2, 0, none⟩) (ws.length + (2 + m)) cap2)
  have ow1 := h3.kept g1 (own_apart h3 h2 (by decide))
  have hbp := own_ne_blk ow1 BPE (by decide)
  have owS := own_other ow1 (a := ⟨p, 1, none⟩) (fun e => hbp e.symm) (.slice (some ⟨g2, 0, none⟩) (ws.length + (2 + m)) cap2)
  have hsz : w.heap.size ≤ w1.heap.size := Nat.le_trans kq.size g1.size
  have o1 : Off S w w1 := (Off.below S kq).trans (Off.grown g1 h4) (fun k e => .inl e)
  have o2 : Off S w (w1.setCell ⟨p, 1, none⟩ (.slice (some ⟨g2, 0, none⟩) (ws.length + (2 + m)) cap2)) := o1.trans (Off.set (S := fun k => k = p) _ ⟨p, 1, none⟩ _ rfl) (fun k e => by subst e; exact .inl hh)
  have hg2 : S g2 ∨ w.heap.size ≤ g2 := by
    rcases at1 with e | e
    · exact .inl (h4 g2 e.symm)
    · right
      have e' : g2 = wq.heap.size := by simpa [Value.ownBlock] using e
      have := kq.size
      omega
  have hlt := own1.lt g2 rfl
  have hs1 : (w1.setCell ⟨p, 1, none⟩ (.slice (some ⟨g2, 0, none⟩) (ws.length + (2 + m)) cap2)).heap.size = w1.heap.size := by simp [World.setCell]
  generalize w1.setCell ⟨p, 1, none⟩ (.slice (some ⟨g2, 0, none⟩) (ws.length + (2 + m)) cap2) = w2 at *
  have kd : Below w2.heap.size w2 w2.drew := (Below.refl _ _).drew
  have BPd := blk_on BPS kd
  have ownD := own_later ownS kd
  have owD := own_later owS kd
  have hgg : vb.ownBlock ≠ some g2 := fun e => (own_apart owD ownD (by decide)).elim (fun e' => by rw [e'] at e; cases e) (fun e' => e' e)
  have own3 := own_set (own_set ownD ws.length (.int .i32 k) (by omega)) (ws.length + 1) (.int .i32 m) (by omega)
  rw [set_two] at own3
  have ow3 := own_other (own_other owD (a := ⟨g2, ws.length, none⟩) hgg (.int .i32 k)) (a := ⟨g2, ws.length + 1, none⟩) hgg (.int .i32 m)
  have BP3 := blk_other (blk_other BPd (a := ⟨g2, ws.length, none⟩) (.int .i32 k) hpg2) (a := ⟨g2, ws.length + 1, none⟩) (.int .i32 m) hpg2
  have hlen : (ws ++ obW (newOb (k : Int) (m : Int))).length = ws.length + (2 + m) := by simp [obW, newOb]; omega
  have hs3 : ((w2.drew.setCell ⟨g2, ws.length, none⟩ (.int .i32 k)).setCell ⟨g2, ws.length + 1, none⟩ (.int .i32 m)).heap.size = w1.heap.size := by
    rw [← hs1]
    simp [World.setCell]
  have hpl := hl p hh
  refine ⟨fun k => k = p ∨ k = g2 ∨ vb.ownBlock = some k, ⟨⟨_, vb, BP3, by rw [hlen]; exact own3, ow3, fun k e => ?_, fun k e => .inr (.inr e)⟩, .inl rfl, fun k e => ?_, hs, by rw [hlen]; exact hu, fun x hx => ?_⟩, ?_, fun k e => ?_⟩
  · cases e; exact .inr (.inl rfl)
  · rw [hs3]
    rcases e with rfl | rfl | e
    · exact ⟨hpl.1, by omega⟩
    · exact hlt
    · exact ow1.lt k e
  · rcases List.mem_append.1 hx with hx | hx
    · exact hi x hx
    · simp only [obW, newOb, List.mem_cons, List.length_replicate, Int.toNat_natCast] at hx
      rcases hx with rfl | rfl | hx
      · exact ⟨by omega, by omega⟩
      · exact ⟨by omega, by omega⟩
      · rw [(List.mem_replicate.1 hx).2]; exact is32_zero
  · refine o2.trans (Off.trans (S := fun k => k = g2) (Off.below _ kd) ((Off.set (S := fun k => k = g2) _ ⟨g2, ws.length, none⟩ _ rfl).trans (Off.set (S := fun k => k = g2) _ ⟨g2, ws.length + 1, none⟩ _ rfl) (fun k e => .inl e)) (fun k e => .inl e)) (fun k e => ?_)
    subst e
    exact hg2
  · rcases e with rfl | rfl | e
    · exact .inl hh
    · exact hg2
    · exact .inl (h5 k e)
set_option maxHeartbeats 1000000 in
theorem make_any (B : Nat) (w : World) (S : Nat → Prop) (p n : Nat) (os : List Ob) (k m : Int) (H : Hp B w S p n os) :
    Calls Try.prog 6 #[.pointer (some ⟨p, 0, none⟩), .int .i64 k, .int .i64 m] w fun e w' => e = .returned (.tuple #[.int .i64 (makeA n os k m), .bool (makeB n os k m)]) ∧ ∃ S', Hp B w' S' p n (makeS n os k m) ∧ Off S w w' ∧ ∀ k, S' k → S k ∨ w.heap.size ≤ k := by
  cases hq : mayB k m
  · have hB : makeB n os k m = false := by simp [makeB, hq]
    have hA : makeA n os k m = -1 := by simp [makeA, hB]
    have hS : makeS n os k m = os := by simp [makeS, hB]
    rw [hB, hA, hS]
    have HQ : Hid _ := hq
    clear hB hA hS hq
    have HH : Hid _ := H
    clear H
    go_enter Try.func6, Try.ntmps6
    go_wp2_with fail
    go_quiet ((go_at_call 17; exact Calls.quiet_of_same (mayBe_q _ _ _ _ HQ.out)))
    go_wp2_with fail
    go_ret2
    exact ⟨rfl, S, HH.out.later (below_draws _ _ _), Off.below _ (below_draws _ _ _), fun k e => .inl e⟩
  · have HMK : Hid _ := newOb_ok hq
    have hmb := hq
    simp only [mayB, Bool.and_eq_true, decide_eq_true_eq] at hmb
    obtain ⟨hk0, hk1, hm0, hm1⟩ := hmb
    have HQ : Hid _ := hq
    obtain ⟨⟨vw, vb, h1, h2, h3, h4, h5⟩, hh, hl, hs, hu, hi⟩ := H.raw
    by_cases hr : 2 + m ≤ (n : Int) - ((wordsO os).length : Int)
    · have hB : makeB n os k m = true := by simp [makeB, hq, hr]
      have hA : makeA n os k m = ((wordsO os).length : Int) := by simp [makeA, hB]
      have hS : makeS n os k m = os ++ [newOb k m] := by simp [makeS, hB]
      rw [hB, hA, hS]
      clear hB hA hS hq
      have HH : Hid _ := H
      obtain ⟨i0, hi0, hz0, hz1, hz2⟩ := info_parts infoW
      obtain ⟨m, rfl⟩ := Int.eq_ofNat_of_zero_le hm0
      obtain ⟨k, rfl⟩ := Int.eq_ofNat_of_zero_le hk0
      have x0 := blk_cell h1 0
      have x1 := blk_cell h1 1
      simp only [List.getElem?_toArray, List.getElem?_cons_zero, List.getElem?_cons_succ] at x0 x1
      obtain ⟨va, vc, rfl⟩ := own_sl h2
      have hpl := hl p hh
      have H5 : Hid _ := h5
      have H4 : Hid _ := h4
      have HL2 : Hid _ := hl
      have HI : Hid _ := hi
      clear H h4 h5 hl hi
      generalize hL : (wordsO os).length = L at *
      have HL : Hid _ := hL
      clear hL
      have e5 : IntKind.i64.wrap (2 + (m : Int)) = 2 + (m : Int) := by rw [IntKind.wrap_i64]; omega
      have e6 : IntKind.i64.wrap ((n : Int) - (L : Int)) = (n : Int) - (L : Int) := by rw [IntKind.wrap_i64]; omega
      have e7 : decide ((n : Int) - (L : Int) < 2 + (m : Int)) = false := by simp; omega
      go_enter Try.func6, Try.ntmps6
      go_wp2_with fail
      go_quiet ((go_at_call 17; exact Calls.quiet_of_same (mayBe_q _ _ _ _ HQ.out)))
      have kq := below_draws w.heap.size w nq
      have h1q := blk_on h1 kq
      have h2q := own_later h2 kq
      have hne := own_ne_blk h2q h1q (by decide)
      have x0q := blk_cell h1q 0
      have x1q := blk_cell h1q 1
      simp only [List.getElem?_toArray, List.getElem?_cons_zero, List.getElem?_cons_succ] at x0q x1q
      have hBq : B ≤ (w.drewN nq).heap.size := by have := kq.size; omega
      generalize w.drewN nq = wq at *
      go_wp2_with (at_builtin; refine wpList_zeros _ rfl (.tmp 41) (.tmp 43) 31 3 rfl B 21 i0 (.int .i32 0) .i64 .i64 4 Try.underlying31 Try.underlying3 hi0 hz0 hz1 hz2 rfl rfl (.slice va L vc) L ((wordsO os).map (Value.int .i32)) rfl h2q (2 + m) (by simp [Act.eval, Act.put]) (by omega) (by omega) (by omega) hBq ?_; intro v1 w1 own1 g1 at1; obtain ⟨g2, cap2, rfl, hBg2, hg2, hd1, hd2⟩ := own_some own1 (by omega); have BPE := blk_grown h1q g1 hne; have x2 := blk_cell BPE 1; have f2 := blk_free BPE 1; simp only [List.getElem?_toArray, List.getElem?_cons_zero, List.getElem?_cons_succ] at x2)
      have HWX : Hid (∃ S', Hw B (((w1.setCell ⟨p, 1, none⟩ (.slice (some ⟨g2, 0, none⟩) (L + (2 + m)) cap2)).drew.setCell ⟨g2, L, none⟩ (.int .i32 k)).setCell ⟨g2, L + 1, none⟩ (.int .i32 m)) S' p n (wordsO os ++ obW (newOb (k : Int) (m : Int))) (marksO os) ∧
          Off S w (((w1.setCell ⟨p, 1, none⟩ (.slice (some ⟨g2, 0, none⟩) (L + (2 + m)) cap2)).drew.setCell ⟨g2, L, none⟩ (.int .i32 k)).setCell ⟨g2, L + 1, none⟩ (.int .i32 m)) ∧ ∀ k, S' k → S k ∨ w.heap.size ≤ k) := by
        obtain rfl := HL.out
        exact words_done h1q h2q (own_later h3 kq) kq H4.out H5.out hh HL2.out hs (by omega) HI.out (by omega) (by omega) g1 own1 at1
      have hpg2 : p ≠ g2 := fun e => own_ne_blk own1 BPE (by decide) (by rw [e]; rfl)
      have hgp : g2 ≠ p := fun e => hpg2 e.symm
      have BPS := blk_set BPE 1 (.slice (some ⟨g2, 0, none⟩) (L + (2 + m)) cap2)
      have ownS := own_other own1 (a := ⟨p, 1, none⟩) (fun e => hpg2 (by cases e; rfl)) (.slice (some ⟨g2, 0, none⟩) (L + (2 + m)) cap2)
      show Code.wp _ _ _ _ (w1.setCell ⟨p, 1, none⟩ (.slice (some ⟨g2, 0, none⟩) (L + (2 + m)) cap2))
      generalize hw2 : w1.setCell ⟨p, 1, none⟩ (.slice (some ⟨g2, 0, none⟩) (L + (2 + m)) cap2) = w2 at *
      have HW2 : Hid _ := hw2
      clear hw2
      have kd : Below w2.heap.size w2 w2.drew := (Below.refl _ _).drew
      have BPd := blk_on BPS kd
      have ownD := own_later ownS kd
      have x3 := blk_cell BPd 1
      simp only [List.getElem?_toArray, List.setIfInBounds_toArray, List.set_cons_succ, List.set_cons_zero, List.getElem?_cons_zero, List.getElem?_cons_succ] at x3
      have hz : ∀ j, j < 2 + m → (List.map (Value.int .i32) (wordsO os) ++ List.replicate (2 + m) (Value.int .i32 0))[L + j]? = some (.int .i32 0) := fun j hj => by
        rw [List.getElem?_append_right (by rw [List.length_map, HL.out]; omega), List.length_map, HL.out, Nat.add_sub_cancel_left, List.getElem?_replicate, if_pos hj]
      have y0 := own_cell ownD L (.int .i32 0) (hz 0 (by omega))
      have f0 := own_free ownD L
      have own3 := own_set ownD L (.int .i32 k) (by omega)
      have y1 := own_cell own3 (L + 1) (.int .i32 0) (by rw [List.getElem?_set_ne (by omega)]; exact hz 1 (by omega))
      have f1 := own_free own3 (L + 1)
      have e8 : IntKind.i64.wrap ((L : Int) + 1) = (L : Int) + 1 := by rw [IntKind.wrap_i64]; omega
      have e9 : IntKind.i32.wrap (k : Int) = (k : Int) := by rw [IntKind.wrap_i32]; omega
      have e10 : IntKind.i32.wrap (m : Int) = (m : Int) := by rw [IntKind.wrap_i32]; omega
      have e11 : (0 : Int) ≤ (L : Int) + 1 := by omega
      have e12 : (L : Int) < ((L + (2 + m) : Nat) : Int) := by omega
      have e13 : (L : Int) + 1 < ((L + (2 + m) : Nat) : Int) := by omega
      have e14 : ((L : Int) + 1).toNat = L + 1 := by omega
      have y1' : (w2.setCell ⟨g2, L, none⟩ (.int .i32 k)).cell? ⟨g2, L + 1, none⟩ = some (.int .i32 0) := y1
      have f1' : (w2.setCell ⟨g2, L, none⟩ (.int .i32 k)).frozen? ⟨g2, L + 1, none⟩ = false := f1
      have y0' : w2.cell? ⟨g2, L, none⟩ = some (.int .i32 0) := y0
      have f0' : w2.frozen? ⟨g2, L, none⟩ = false := f0
      have z1 := blk_cell (blk_other BPd (a := ⟨g2, L, none⟩) (.int .i32 k) hpg2) 1
      have z2 := blk_cell (blk_other (blk_other BPd (a := ⟨g2, L, none⟩) (.int .i32 k) hpg2) (a := ⟨g2, L + 1, none⟩) (.int .i32 m) hpg2) 1
      simp only [List.getElem?_toArray, List.setIfInBounds_toArray, List.set_cons_succ, List.set_cons_zero, List.getElem?_cons_zero, List.getElem?_cons_succ] at z1 z2
      clear hz own1 g1 at1 x2 f2 x0 x1 x0q x1q h1q h2q BPE hne
      go_region_held (fun w' => w'.cell? ⟨p, 1, none⟩ = some (.slice (some ⟨g2, 0, none⟩) (L + (2 + m)) cap2)) (first | exact x3 | exact z1 | exact z2) (fail)
      obtain ⟨S3, HW3, o3, hS3⟩ := HWX.out
      have hML : (marksO os).length = L := (marks_len os).trans HL.out
      have MK := mark_any B _ S3 p n _ _ m HW3 (by rw [hML, List.length_append, HL.out, obW_len]; omega) (by rw [hML, List.getD, List.getElem?_append_right (by rw [HL.out]; omega), HL.out, Nat.add_sub_cancel_left]; simp [obW, newOb]) (by omega)
      rw [hML] at MK
      go_wp2_with fail
      refine MK.mono ?_
      rintro e w4 ⟨rfl, S4, HW4, o4, hS4⟩
      go_wp2_with fail
      go_ret2
      refine ⟨rfl, S4, ⟨?_, ?_⟩, o3.trans o4 hS3, fun k e => ?_⟩
      · have ea : wordsO (os ++ [newOb (k : Int) (m : Int)]) = wordsO os ++ obW (newOb (k : Int) (m : Int)) := by rw [wordsO_append, wordsO_cons]; simp [wordsO]
        have eb : marksO (os ++ [newOb (k : Int) (m : Int)]) = marksO os ++ obMk m := by rw [marksO_append]; simp [marksO, obM, obMk, newOb]
        rw [ea, eb]
        exact HW4
      · intro o ho
        rcases List.mem_append.1 ho with ho | ho
        · exact HH.out.ok o ho
        · rw [List.mem_singleton.1 ho]
          exact HMK.out
      · rcases hS4 k e with e | e
        · exact hS3 k e
        · exact .inr (Nat.le_trans o3.size e)
    · have hB : makeB n os k m = false := by simp [makeB, hr]
      have hA : makeA n os k m = -1 := by simp [makeA, hB]
      have hS : makeS n os k m = os := by simp [makeS, hB]
      rw [hB, hA, hS]
      clear hB hA hS hq
      have HH : Hid _ := H
      have x0 := blk_cell h1 0
      have x1 := blk_cell h1 1
      simp only [List.getElem?_toArray, List.getElem?_cons_zero, List.getElem?_cons_succ] at x0 x1
      obtain ⟨va, vc, rfl⟩ := own_sl h2
      clear H h1 h2 h3 h4 h5 hl hi HMK
      generalize (wordsO os).length = L at *
      have e5 : IntKind.i64.wrap (2 + m) = 2 + m := by rw [IntKind.wrap_i64]; omega
      have e6 : IntKind.i64.wrap ((n : Int) - (L : Int)) = (n : Int) - (L : Int) := by rw [IntKind.wrap_i64]; omega
      have e7 : decide ((n : Int) - (L : Int) < 2 + m) = true := by simp; omega
      go_enter Try.func6, Try.ntmps6
      go_wp2_with fail
      go_quiet ((go_at_call 17; exact Calls.quiet_of_same (mayBe_q _ _ _ _ HQ.out)))
      go_wp2_with fail
      go_ret2
      exact ⟨rfl, S, HH.out.later (below_draws _ _ _), Off.below _ (below_draws _ _ _), fun k e => .inl e⟩
end Heap
end Go.Proofs.Ytpjccmcbagoplaa
