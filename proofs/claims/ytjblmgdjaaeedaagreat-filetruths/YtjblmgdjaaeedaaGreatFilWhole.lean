/- The contracts of file's whole and Encode: what speaks of the program. -/
import Derived.Test.YtjblmgdjaaeedaaGreatFilW
import Derived.Test.YtjblmgdjaaeedaaGreatClsMayAll
import Derived.ArgAppend
namespace Go.Proofs.YtjblmgdjaaeedaaGreat
namespace Fil
open Num Kind Op4 Cls
open Go.RowKit
set_option linter.unusedVariables false
set_option linter.unusedSimpArgs false
set_option maxRecDepth 100000

theorem pool_sl {w : World} {base : Nat} {v : Value} {p : List ByteArray} (h : w.ownsRow base 9 1 v p.length (strs p)) (hp : ∀ t ∈ p, okT t) : Sl strE 1 w v p :=
  Sl.own h rfl (fun b hc i hi => ⟨by rw [Nat.mul_one]; exact hc i _ (by simp [strs, List.getElem?_eq_getElem hi]), okT_max (hp _ (List.getElem_mem hi))⟩)
theorem pool_step (p : List ByteArray) (k : Nat) (h : k < p.length) : poolB (p.take (k + 1)) = poolB (p.take k) ++ encT p[k] := by
  unfold poolB
  rw [List.take_add_one, List.getElem?_eq_getElem h, Option.toList_some, List.flatMap_append]
  simp
theorem pool_small (p : List ByteArray) (hp : ∀ t ∈ p, okT t) (k : Nat) : (poolB (p.take k)).length ≤ p.length * 110 := by
  have := (poolB_len (p.take k)).2 (fun t ht => hp t (List.mem_of_mem_take ht))
  refine Nat.le_trans this (Nat.mul_le_mul_right _ ?_)
  rw [List.length_take]
  omega
def headW (w : World) : World := (w.alloc (.cells #[.int .u8 74, .int .u8 65, .int .u8 86, .int .u8 65] 5)).freeze ⟨w.heap.size, 4, none⟩ 1
theorem headW_facts (w : World) : Below w.heap.size w (headW w) ∧ Has (headW w) (some ⟨w.heap.size, 0, none⟩) 4 4 magic := by
  have hb := heap_alloc_new w (.cells #[.int .u8 74, .int .u8 65, .int .u8 86, .int .u8 65] 5)
  have ka := alloc1 w (.cells #[.int .u8 74, .int .u8 65, .int .u8 86, .int .u8 65] 5)
  obtain ⟨fr, hf⟩ := freeze_block _ w.heap.size 4 _ _ hb
  exact ⟨ka.trans (freeze_below w.heap.size _ w.heap.size 4 (Nat.le_refl _)), Has.block (xs := magic) hf (by decide)⟩
theorem headW_conv (w : World) : (convert 29 29 (.slice (some ⟨w.heap.size, 0, none⟩) 4 4)).run Tryz.prog (w.alloc (.cells #[.int .u8 74, .int .u8 65, .int .u8 86, .int .u8 65] 5)) = .ok (.slice (some ⟨w.heap.size, 0, none⟩) 4 4) (headW w) :=
  conv_mark _ w.heap.size 4 4 _ _ (heap_alloc_new w (.cells #[.int .u8 74, .int .u8 65, .int .u8 86, .int .u8 65] 5))
set_option maxHeartbeats 4000000 in
theorem whole_any (B M : Nat) (s : WS) (w0 w : World) (H : Wrt w0 w B M s) (hf : Fits s) (hp : ∀ t ∈ s.pool, okT t) :
    Calls Tryz.prog 24 #[.pointer (some ⟨B, 0, none⟩)] w fun e w' => ∃ g cap, e = .returned (.slice (some ⟨g, 0, none⟩) (whole s).length cap) ∧
      w'.ownsRow w.heap.size 5 1 (.slice (some ⟨g, 0, none⟩) (whole s).length cap) (whole s).length (cellsOf (whole s)) ∧ Below w.heap.size w w' := by
  obtain ⟨bel, lo, mlo, ⟨v0, v1, BB, own0, own1⟩, ⟨D, om, ok⟩⟩ := H
  obtain ⟨i0, hi, hz0, hz1, hz2⟩ := info_parts info8
  obtain ⟨hf1, hf2⟩ := hf
  have HSL : Hid _ := pool_sl own1 hp
  obtain ⟨a1, c1, rfl⟩ : ∃ a c, v1 = .slice a s.pool.length c := by
    rcases own1.2 with ⟨rfl, h0⟩ | ⟨g, cap, cur, rfl, _⟩
    · exact ⟨none, 0, by rw [h0]⟩
    · exact ⟨_, cap, rfl⟩
  obtain ⟨a0, c0, rfl, hpar⟩ := own_shape own0
  have hel := enc_len s.pool.length
  have hcv := headW_conv w
  obtain ⟨kf, hx⟩ := headW_facts w
  generalize headW w = F at *
  have x1 := blk_cell (blk_on BB kf) 1
  simp only [List.getElem?_toArray, List.getElem?_cons_zero, List.getElem?_cons_succ] at x1
  go_enter Tryz.func24, Tryz.ntmps24
  go_wp2_with fail
  refine (put_any none 0 0 [] s.pool.length _ (Has.none _) (by unfold Is64; omega) (by omega)).mono ?_
  rintro e w1 ⟨g1, cap1, rfl, own, b1⟩
  have hE := Has.own own
  simp only [List.nil_append, Nat.zero_add] at hE
  have hx1 := hx.later b1
  have k1 := kf.trans (b1.mono kf.size)
  have y1 := blk_cell (blk_on BB k1) 1
  simp only [List.getElem?_toArray, List.getElem?_cons_zero, List.getElem?_cons_succ] at y1
  clear x1 hcv own hx kf b1
  go_upto_region 2 with (at_builtin; refine wpList_append_arg _ rfl (.tmp 7) (.tmp 13) 29 rfl 5 i0 (.int .u8 0) 1 1 Tryz.underlying29 hi hz0 hz1 hz2 rfl (by decide) w.heap.size 0 4 4 (cellsOf magic) rfl rfl (fun j u hj => by have := hx1.news _ rfl j u hj; rwa [Addr.add_lit] at this) ⟨g1, 0, none⟩ ((enc s.pool.length).length) cap1 (cellsOf (enc s.pool.length)) rfl (by rw [cellsOf_length]; omega) (hE.news _ rfl) (cellsOf_one _) (fun h => absurd h (by omega)) (by unfold maxLen; omega) (by omega) (fun h => absurd h (by omega)) ?_; intro _ v2 w2 own2 gr2)
  have k2 : Below w.heap.size w w2 := k1.grown gr2 k1.size (fun k e => by cases e)
  rw [← cellsOf_append] at own2
  have own2 := own_low own2 k1.size
  obtain ⟨g2, cap2, rfl, _, _⟩ := own2.form (by omega)
  have y1 := blk_cell (blk_on BB k2) 1
  simp only [List.getElem?_toArray, List.getElem?_cons_zero, List.getElem?_cons_succ] at y1
  clear hx1 hE gr2 k1
  have hpl := pool_small s.pool hp
  have HP : Hid _ := hpl
  clear hpl
  go_wp2_with fail
  go_loopw [3, 20] (fun v i wr => ∃ (k g cap m : Nat), k ≤ s.pool.length ∧ i = .int .i64 k ∧ v = .slice (some ⟨g, 0, none⟩) m cap ∧ m = (magic ++ enc s.pool.length ++ poolB (s.pool.take k)).length ∧
      wr.ownsRow w.heap.size 5 1 (.slice (some ⟨g, 0, none⟩) m cap) m (cellsOf (magic ++ enc s.pool.length ++ poolB (s.pool.take k))) ∧ Below w.heap.size w wr) (fun _ i _ => s.pool.length - (intOf i).toNat)
  case atStart => exact ⟨0, g2, cap2, _, by omega, rfl, rfl, by simp [magic, poolB]; omega, by simpa [poolB] using own2, k2⟩
  case round =>
    clear own2 k2 y1
    obtain ⟨k, g, cap, m, hk, rfl, rfl, hm, hown, hbel⟩ := hrel
    have HM : Hid _ := hm
    have hpk := HP.out k
    have hms : m ≤ 4 + 10 + s.pool.length * 110 := by rw [hm]; simp [magic]; omega
    clear hm hpk
    by_cases hlk : k < s.pool.length
    · obtain ⟨aa, cc, ev, _, _, _, hx9⟩ := Sl.later strE_stable HSL.out hbel
      simp only [Value.slice.injEq, true_and] at ev
      obtain ⟨rfl, rfl⟩ := ev
      obtain ⟨b9, off9, rfl, _, hx9⟩ := hx9 (by omega)
      obtain ⟨z0, z1⟩ := hx9 k hlk
      simp only [Nat.mul_one] at z0
      have HS : Hid _ := pool_step s.pool k hlk
      have hok := hp _ (List.getElem_mem hlk)
      clear hx9 z1
      generalize s.pool[k] = X at *
      unfold okT at hok
      have hXl := encT_length X
      have hXe := enc_len X.size
      have hXb : (encT X).length ≤ 110 := by omega
      clear hXl hXe
      go_wp2_with fail
      refine (put_text none 0 0 [] X _ (Has.none _) (by omega)).mono ?_
      rintro e w2 ⟨g3, cap3, rfl, own3, b3⟩
      have hE := Has.own own3
      simp only [List.nil_append, Nat.zero_add] at hE
      have hownk := own_later hown (b3.mono (Nat.le_refl _))
      have hb3 := hbel.trans (b3.mono hbel.size)
      go_upto_region 6 with (at_builtin; refine wpList_has _ rfl (.tmp 24) (.tmp 26) 29 rfl w.heap.size i0 Tryz.underlying29 hi hz0 hz1 hz2 _ m _ rfl hownk (some ⟨g3, 0, none⟩) ((encT X).length) cap3 (encT X) rfl hE (by omega) hb3.size ?_; intro a' c' w4 own4 hE4 gr4)
      have hb4 := hb3.grown gr4 hb3.size (fun k e => (hownk.lt k e).1)
      obtain ⟨g4, cap4, e4, _, _⟩ := own4.form (by have := (enc_len X.size).1; have := encT_length X; omega)
      simp only [Value.slice.injEq] at e4
      obtain ⟨rfl, _, rfl⟩ := e4
      have hm4 : m + (encT X).length = (magic ++ enc s.pool.length ++ poolB (s.pool.take (k + 1))).length := by rw [HS.out, HM.out]; simp; omega
      have hc4 : magic ++ enc s.pool.length ++ poolB (s.pool.take k) ++ encT X = magic ++ enc s.pool.length ++ poolB (s.pool.take (k + 1)) := by rw [HS.out]; simp
      rw [hc4] at own4
      go_wp2_with fail
      go_roundw
      case rel => exact ⟨k + 1, g4, _, _, by omega, by go_num, rfl, hm4, own4, hb4⟩
      case measure => simp [intOf]; omega
    · have hE0 := hpar.later hbel
      have z0 := blk_cell (blk_on BB hbel) 0
      simp only [List.getElem?_toArray, List.getElem?_cons_zero, List.getElem?_cons_succ] at z0
      have hT : s.pool.take k = s.pool := List.take_of_length_le (by omega)
      rw [hT] at hown
      have hHM := HM.out
      rw [hT] at hHM
      go_wp2_with (at_builtin; refine wpList_has _ rfl (.tmp 29) (.tmp 33) 29 rfl w.heap.size i0 Tryz.underlying29 hi hz0 hz1 hz2 _ m _ rfl hown a0 s.out.length c0 s.out rfl hE0 (by omega) hbel.size ?_; intro a' c' w4 own4 hE4 gr4)
      have hb4 := hbel.grown gr4 hbel.size (fun k e => (hown.lt k e).1)
      have hl4 : m + s.out.length = (whole s).length := by rw [hHM]; unfold whole; simp; omega
      have hc4 : magic ++ enc s.pool.length ++ poolB s.pool ++ s.out = whole s := rfl
      rw [hc4, hl4] at own4
      obtain ⟨g4, cap4, e4, _, _⟩ := own4.form (by unfold whole; simp [magic])
      simp only [Value.slice.injEq] at e4
      obtain ⟨rfl, _, rfl⟩ := e4
      go_ret
      have hl5 : magic.length + ((enc s.pool.length).length + (poolB s.pool).length) + s.out.length = (whole s).length := by unfold whole; simp; omega
      exact ⟨g4, _, by simp [hl5], own4, hb4⟩
/-- What Encode answers, as bytes. -/
def encodeL (c : ClsL) : List Int := if mayP c = true ∧ (bytesL c).length ≤ 6000 then bytesL c else []
end Fil
end Go.Proofs.YtjblmgdjaaeedaaGreat
