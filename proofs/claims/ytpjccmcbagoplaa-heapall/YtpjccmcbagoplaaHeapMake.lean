/- heap's mark and Make: what speaks of the program. -/
import Derived.Test.YtpjccmcbagoplaaHeapGet
import Derived.Deep.RegionHeldLaw
import Derived.Handy
namespace Go.Proofs.Ytpjccmcbagoplaa
namespace Heap
open Mem
open Go.RowKit
set_option linter.unusedVariables false
set_option linter.unusedSimpArgs false
set_option maxRecDepth 100000

theorem infoB : (Try.prog.info? 4).map (fun i => (i.zero, i.size, i.bytes)) = some (some (.bool false), 1, 1) := by kernel_rfl
theorem infoW : (Try.prog.info? 21).map (fun i => (i.zero, i.size, i.bytes)) = some (some (.int .i32 0), 1, 4) := by kernel_rfl
def obMk (n : Nat) : List Bool := true :: List.replicate (n + 1) false
theorem set_mark (ms : List Bool) (n : Nat) : ((ms.map Value.bool) ++ List.replicate (2 + n) (Value.bool false)).set ms.length (.bool true) = (ms ++ obMk n).map Value.bool := by
  rw [List.set_append_right _ _ (by simp), List.length_map, Nat.sub_self, show 2 + n = (n + 1) + 1 by omega, List.replicate_succ, List.set_cons_zero, List.map_append]
  simp [obMk]
theorem mark_done {B : Nat} {w w1 : World} {S : Nat → Prop} {p n g cap g2 cap2 m : Nat} {vb : Value} {ws : List Int} {ms : List Bool}
    (h1 : w.heap[p]? = some (.cells #[.int .i64 n, .slice (some ⟨g, 0, none⟩) ws.length cap, vb] 46 (0, 0))) (h2 : w.ownsRow B 21 1 (.slice (some ⟨g, 0, none⟩) ws.length cap) ws.length (ws.map (Value.int .i32))) (h3 : w.ownsRow B 4 1 vb ms.length (ms.map Value.bool))
    (h4 : S g) (h5 : ∀ k, vb.ownBlock = some k → S k) (hh : S p) (hl : ∀ k, S k → B ≤ k ∧ k < w.heap.size) (hs : n ≤ 1048576) (hu : ws.length ≤ n) (hi : ∀ x ∈ ws, Is32 x)
    (g1 : w.drew.grownBy w1 vb.ownBlock) (own1 : w1.ownsRow B 4 1 (.slice (some ⟨g2, 0, none⟩) (ms.length + (2 + m)) cap2) (ms.length + (2 + m)) (ms.map Value.bool ++ List.replicate (2 + m) (Value.bool false)))
    (at1 : (Value.slice (some ⟨g2, 0, none⟩) (ms.length + (2 + m)) cap2).ownBlock = vb.ownBlock ∨ (Value.slice (some ⟨g2, 0, none⟩) (ms.length + (2 + m)) cap2).ownBlock = some w.drew.heap.size) :
    ∃ S', Hw B ((w1.setCell ⟨p, 2, none⟩ (.slice (some ⟨g2, 0, none⟩) (ms.length + (2 + m)) cap2)).setCell ⟨g2, ms.length, none⟩ (.bool true)) S' p n ws (ms ++ obMk m) ∧ Off S w ((w1.setCell ⟨p, 2, none⟩ (.slice (some ⟨g2, 0, none⟩) (ms.length + (2 + m)) cap2)).setCell ⟨g2, ms.length, none⟩ (.bool true)) ∧ ∀ k, S' k → S k ∨ w.heap.size ≤ k := by
  have kk : Below w.heap.size w w.drew := (Below.refl _ _).drew
  have h1d := blk_on h1 kk
  have h2d := own_later h2 kk
  have h3d := own_later h3 kk
  have BPE := blk_grown h1d g1 (own_ne_blk h3d h1d (by decide))
  have hpg2 : p ≠ g2 := fun e => own_ne_blk own1 BPE (by decide) (by rw [e]; rfl)
  have BPS := blk_set BPE 2 (.slice (some ⟨g2, 0, none⟩) (ms.length + (2 + m)) cap2)
  have own1S := own_other own1 (a := ⟨p, 2, none⟩) (fun e => hpg2 (by cases e; rfl)) (.slice (some ⟨g2, 0, none⟩) (ms.length + (2 + m)) cap2)
  have own2 := own_set own1S ms.length (.bool true) (by omega)
  rw [set_mark] at own2
  have BPT := blk_other BPS (a := ⟨g2, ms.length, none⟩) (.bool true) hpg2
  have ow1 := h2d.kept g1 (own_apart h2d h3d (by decide))
  have hgp : some p ≠ (Value.slice (some ⟨g, 0, none⟩) ws.length cap).ownBlock := own_ne_blk ow1 BPE (by decide)
  have hgg : (Value.slice (some ⟨g, 0, none⟩) ws.length cap).ownBlock ≠ (Value.slice (some ⟨g2, 0, none⟩) (ms.length + (2 + m)) cap2).ownBlock := (own_apart ow1 own1 (by decide)).elim (fun e => by cases e) id
  have ow2 := own_other (own_other ow1 (a := ⟨p, 2, none⟩) (fun e => hgp e.symm) (.slice (some ⟨g2, 0, none⟩) (ms.length + (2 + m)) cap2)) (a := ⟨g2, ms.length, none⟩) (fun e => hgg e) (.bool true)
  have hsz : w.heap.size ≤ w1.heap.size := g1.size
  have hg2 : S g2 ∨ w.heap.size ≤ g2 := by
    rcases at1 with e | e
    · exact .inl (h5 g2 e.symm)
    · right
      have e' : g2 = w.heap.size := by simpa [Value.ownBlock] using e
      omega
  have hlt := (own1.lt g2 rfl)
  have hpl := hl p hh
  have hgl := hl g h4
  have hlen : (ms ++ obMk m).length = ms.length + (2 + m) := by simp [obMk]; omega
  refine ⟨fun k => k = p ∨ k = g ∨ k = g2, ⟨⟨_, _, BPT, ow2, by rw [hlen]; exact own2, fun k e => ?_, fun k e => ?_⟩, .inl rfl, fun k e => ?_, hs, hu, hi⟩, ?_, fun k e => ?_⟩
  · cases e; exact .inr (.inl rfl)
  · cases e; exact .inr (.inr rfl)
  · have hs2 : ((w1.setCell ⟨p, 2, none⟩ (.slice (some ⟨g2, 0, none⟩) (ms.length + (2 + m)) cap2)).setCell ⟨g2, ms.length, none⟩ (.bool true)).heap.size = w1.heap.size := by simp [World.setCell]
    rw [hs2]
    rcases e with rfl | rfl | rfl
    · exact ⟨hpl.1, by omega⟩
    · exact ⟨hgl.1, by omega⟩
    · exact hlt
  · have o1 : Off S w w1 := (Off.below S kk).trans (Off.grown g1 h5) (fun k e => .inl e)
    refine o1.trans ((Off.set (S := fun k => k = p ∨ k = g2) w1 ⟨p, 2, none⟩ _ (.inl rfl)).trans (Off.set (S := fun k => k = p ∨ k = g2) _ ⟨g2, ms.length, none⟩ _ (.inr rfl)) (fun k e => .inl e)) (fun k e => ?_)
    rcases e with rfl | rfl
    · exact .inl hh
    · exact hg2
  · rcases e with rfl | rfl | rfl
    · exact .inl hh
    · exact .inl h4
    · exact hg2
set_option maxHeartbeats 1000000 in
theorem mark_any (B : Nat) (w : World) (S : Nat → Prop) (p n : Nat) (ws : List Int) (ms : List Bool) (m : Nat) (H : Hw B w S p n ws ms) (hm : ms.length + 1 < ws.length) (hx : ws.getD (ms.length + 1) 0 = (m : Int)) (hm1 : m ≤ 1000) :
    Calls Try.prog 18 #[.pointer (some ⟨p, 0, none⟩), .int .i64 ms.length] w fun e w' => e = .returned (.tuple #[]) ∧ ∃ S', Hw B w' S' p n ws (ms ++ obMk m) ∧ Off S w w' ∧ ∀ k, S' k → S k ∨ w.heap.size ≤ k := by
  obtain ⟨⟨vw, vb, h1, h2, h3, h4, h5⟩, hh, hl, hs, hu, hi⟩ := H
  obtain ⟨i0, hi0, hz0, hz1, hz2⟩ := info_parts infoB
  have hws : ws.length ≤ 1048576 := by omega
  obtain ⟨g, cap, rfl, hBg, hg, hc1, hc2⟩ := own_some h2 (by omega)
  have hpl := (hl p hh)
  have kk : Below w.heap.size w w.drew := (Below.refl _ _).drew
  have h1d := blk_on h1 kk
  have x1 := blk_cell h1d 1
  have x2 := blk_cell h1d 2
  simp only [List.getElem?_toArray, List.getElem?_cons_zero, List.getElem?_cons_succ] at x1 x2
  have y := own_cell (own_later h2 kk) (ms.length + 1) (.int .i32 (m : Int)) (by rw [List.getElem?_map, List.getElem?_eq_getElem hm]; simp only [List.getD, List.getElem?_eq_getElem hm, Option.getD_some] at hx; rw [← hx]; rfl)
  have h3d := own_later h3 kk
  have hne := own_ne_blk h3d h1d (by decide)
  have hBd : B ≤ w.drew.heap.size := by show B ≤ w.heap.size; omega
  clear hx
  generalize hL : ws.length = L at *
  generalize hM : ms.length = M at *
  have HL : Hid (ws.length = L) := hL
  have HM : Hid (ms.length = M) := hM
  clear hL hM
  have e0 : (0 : Int) ≤ (M : Int) + 1 := by omega
  have e1 : (M : Int) + 1 < (L : Int) := by omega
  have e3 : ((M : Int) + 1).toNat = M + 1 := by omega
  have e4 : IntKind.i64.wrap ((M : Int) + 1) = (M : Int) + 1 := by rw [IntKind.wrap_i64]; omega
  have e5 : IntKind.i64.wrap (2 + (m : Int)) = ((2 + m : Nat) : Int) := by rw [IntKind.wrap_i64]; omega
  have e6 : IntKind.i64.wrap (m : Int) = (m : Int) := by rw [IntKind.wrap_i64]; omega
  go_enter Try.func18, Try.ntmps18
  go_wp2_with fail
  go_region_law (first | (refine step_zeros rfl (.tmp 8) (.tmp 18) 44 3 rfl B 4 i0 (.bool false) .i64 .i64 1 Try.underlying44 Try.underlying3 hi0 hz0 hz1 hz2 rfl rfl vb M (ms.map Value.bool) (by simp [Act.eval, Act.put]) h3d (2 + m) (by simp [Act.eval, Act.put]) (by omega) (by omega) (by omega) hBd ?_; intro v1 w1 own1 g1 at1; obtain ⟨g2, cap2, rfl, hBg2, hg2, hd1, hd2⟩ := own_some own1 (by omega); have BPE := blk_grown h1d g1 hne; have x1 := blk_cell BPE 1; have x2 := blk_cell BPE 2; have f2 := blk_free BPE 2; simp only [List.getElem?_toArray, List.getElem?_cons_zero, List.getElem?_cons_succ] at x1 x2))
  all_goals
    have hpg2 : p ≠ g2 := fun e => own_ne_blk own1 BPE (by decide) (by rw [e]; rfl)
    have BPS := blk_set BPE 2 (.slice (some ⟨g2, 0, none⟩) (M + (2 + m)) cap2)
    have own1S := own_other own1 (a := ⟨p, 2, none⟩) (fun e => hpg2 (by cases e; rfl)) (.slice (some ⟨g2, 0, none⟩) (M + (2 + m)) cap2)
    have x3 := blk_cell BPS 2
    simp only [List.getElem?_toArray, List.setIfInBounds_toArray, List.set_cons_succ, List.set_cons_zero, List.getElem?_cons_zero, List.getElem?_cons_succ] at x3
    have y3 := own_cell own1S M (.bool false) (by rw [List.getElem?_append_right (by rw [List.length_map, HM.out]; exact Nat.le_refl _), List.length_map, HM.out, Nat.sub_self, show 2 + m = (m + 1) + 1 by omega]; rfl)
    have f3 := own_free own1S M
    clear own1S x1 x2 f2
    go_wp2_with fail
    go_returns
    obtain rfl := HL.out
    obtain rfl := HM.out
    exact ⟨rfl, mark_done h1 h2 h3 (h4 g rfl) h5 hh hl hs hu hi g1 own1 at1⟩
end Heap
end Go.Proofs.Ytpjccmcbagoplaa
