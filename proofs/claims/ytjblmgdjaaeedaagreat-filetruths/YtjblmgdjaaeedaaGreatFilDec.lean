/- The contracts of bytes.Equal, bytes.TrimPrefix, file.read and file.Decode: of any bytes. -/
import Derived.Test.YtjblmgdjaaeedaaGreatFilL
import Derived.Test.YtjblmgdjaaeedaaGreatFilE
namespace Go.Proofs.YtjblmgdjaaeedaaGreat
namespace Fil
open Num Kind Op4 Cls
open Go.RowKit
set_option linter.unusedVariables false
set_option linter.unusedSimpArgs false
set_option maxRecDepth 100000

theorem str_inj {a b : List Int} (ha : Bytes a) (hb : Bytes b) (h : strOfNums a = strOfNums b) : a = b := by
  have key : ∀ l : List Int, Bytes l → nums (strOfNums l) = l := fun l hl => by
    unfold nums strOfNums
    simp only [List.map_map]
    conv => rhs; rw [← List.map_id l]
    apply List.map_congr_left
    intro x hx
    obtain ⟨h0, h1⟩ := hl x hx
    simp
    omega
  rw [← key a ha, ← key b hb, h]
theorem str_beq {a b : List Int} (ha : Bytes a) (hb : Bytes b) : ((strOfNums a).toList == (strOfNums b).toList) = decide (a = b) := by
  by_cases h : a = b
  · subst h; simp
  · have : ¬ (strOfNums a).toList = (strOfNums b).toList := fun e => h (str_inj ha hb (by
      rw [Lib.toList_data, Lib.toList_data] at e
      cases hA : strOfNums a
      cases hB : strOfNums b
      rw [hA, hB] at e
      congr 1
      exact Array.toList_inj.1 e))
    simp [h, this]
theorem bequal_any (a a' : Option Addr) (n n' c c' : Nat) (xs ys : List Int) (w : World) (h : Has w a n c xs) (h' : Has w a' n' c' ys) (hb : Bytes xs) (hb' : Bytes ys) :
    Calls Tryz.prog 39 #[.slice a n c, .slice a' n' c'] w fun e w' => e = .returned (.bool (decide (xs = ys))) ∧ w = w' := by
  have s1 := h.str
  have s2 := h'.str
  have hq := str_beq hb hb'
  go_enter Tryz.func39, Tryz.ntmps39
  go_wp2_with fail
  go_ret
  exact ⟨rfl, rfl⟩
def trimL (xs : List Int) : List Int := if magic.isPrefixOf xs then xs.drop 4 else xs
set_option maxHeartbeats 2000000 in
theorem bhas_any (a : Option Addr) (n c : Nat) (xs : List Int) (a' : Option Addr) (w : World) (h : Has w a n c xs) (hb : Bytes xs) (h' : Has w a' 4 4 magic) :
    Calls Tryz.prog 92 #[.slice a n c, .slice a' 4 4] w fun e w' => e = .returned (.bool (magic.isPrefixOf xs)) ∧ w = w' := by
  have hl := h.len
  have hc := h.cap
  have hm := h.max
  unfold maxLen at hm
  by_cases h4 : 4 ≤ n
  · obtain ⟨b, off, rfl, _, _⟩ := h.cells (by omega)
    have HC := bequal_any _ _ _ _ _ _ _ _ w (h.take 4 h4) h' (bytes_take hb 4) (by intro x hx; simp [magic] at hx; omega)
    have hv : decide (xs.take 4 = magic) = magic.isPrefixOf xs := by
      match xs, hl with
      | [], hl => simp at hl; omega
      | [_], hl => simp at hl; omega
      | [_, _], hl => simp at hl; omega
      | [_, _, _], hl => simp at hl; omega
      | p :: q :: r :: s :: t, _ =>
        rw [Bool.eq_iff_iff]
        simp [magic, List.isPrefixOf]
        constructor
        · rintro ⟨rfl, rfl, rfl, rfl⟩; exact ⟨rfl, rfl, rfl, rfl⟩
        · rintro ⟨rfl, rfl, rfl, rfl⟩; exact ⟨rfl, rfl, rfl, rfl⟩
    rw [hv] at HC
    have d1 : decide ((4 : Int) ≤ (n : Int)) = true := by simp; omega
    go_enter Tryz.func92, Tryz.ntmps92
    go_wp2_with fail
    refine HC.mono ?_
    rintro e w1 ⟨rfl, rfl⟩
    go_wp2_with fail
    go_ret
    exact ⟨rfl, rfl⟩
  · have hv : magic.isPrefixOf xs = false := by
      match xs, hl with
      | [], _ => rfl
      | [_], _ => simp [magic, List.isPrefixOf]
      | [_, _], _ => simp [magic, List.isPrefixOf]
      | [_, _, _], _ => simp [magic, List.isPrefixOf]
      | p :: q :: r :: s :: t, hl => simp at hl; omega
    rw [hv]
    have d1 : decide ((4 : Int) ≤ (n : Int)) = false := by simp; omega
    go_enter Tryz.func92, Tryz.ntmps92
    go_wp2_with fail
    go_ret
    exact ⟨rfl, rfl⟩
set_option maxHeartbeats 2000000 in
theorem btrim_any (a : Option Addr) (n c : Nat) (xs : List Int) (a' : Option Addr) (w : World) (h : Has w a n c xs) (hb : Bytes xs) (h' : Has w a' 4 4 magic) :
    Calls Tryz.prog 64 #[.slice a n c, .slice a' 4 4] w fun e w' => ∃ p m k, e = .returned (.slice p m k) ∧ w = w' ∧ Has w p m k (trimL xs) := by
  have HC := bhas_any a n c xs a' w h hb h'
  have hl := h.len
  have hc := h.cap
  have hm := h.max
  unfold maxLen at hm
  unfold trimL
  cases hq : magic.isPrefixOf xs
  · rw [hq] at HC
    rw [if_neg (by simp)]
    go_enter Tryz.func64, Tryz.ntmps64
    go_wp2_with fail
    refine HC.mono ?_
    rintro e w1 ⟨rfl, rfl⟩
    go_wp2_with fail
    go_ret
    exact ⟨_, _, _, rfl, rfl, h⟩
  · rw [hq] at HC
    rw [if_pos rfl]
    have h4 : 4 ≤ n := by
      have := List.IsPrefix.length_le (List.isPrefixOf_iff_prefix.1 hq)
      simp [magic] at this
      omega
    obtain ⟨b, off, rfl, hlt, _⟩ := h.cells (by omega)
    by_cases hk : c = 4
    · subst hk
      obtain rfl : n = 4 := by omega
      have hz : Has w (some ⟨b, off, none⟩) 0 0 (xs.drop 4) := ⟨by rw [List.length_drop]; omega, Nat.le_refl _, Nat.zero_le _, fun e => (by cases e), fun h => absurd h (by omega)⟩
      go_enter Tryz.func64, Tryz.ntmps64
      go_wp2_with fail
      refine HC.mono ?_
      rintro e w1 ⟨rfl, rfl⟩
      go_wp2_with fail
      go_ret
      exact ⟨_, _, _, rfl, rfl, hz⟩
    · have hz := h.drop 4 h4
      go_enter Tryz.func64, Tryz.ntmps64
      go_wp2_with fail
      refine HC.mono ?_
      rintro e w1 ⟨rfl, rfl⟩
      go_wp2_with fail
      go_ret
      exact ⟨_, _, _, rfl, rfl, hz⟩

theorem Sl.imp {α : Type} {E E' : World → Nat → Nat → α → Prop} {size : Nat} {w : World} {v : Value} {l : List α} (hE : ∀ b off x, E w b off x → E' w b off x) (h : Sl E size w v l) : Sl E' size w v l := by
  obtain ⟨a, c, h1, h2, h3, h4, h5⟩ := h
  refine ⟨a, c, h1, h2, h3, h4, fun h0 => ?_⟩
  obtain ⟨b, off, e, hlt, hx⟩ := h5 h0
  exact ⟨b, off, e, hlt, fun i hi => hE _ _ _ (hx i hi)⟩
theorem methN_low {b base : Nat} {w : World} {k off : Nat} {m : MethL} (h : methN b w k off m) (hb : base ≤ b) : methN base w k off m := by
  obtain ⟨v1, v7, v8, v9, h1, h2, h3⟩ := h
  exact ⟨v1, v7, v8, v9, h1, h2.low hb, h3⟩
theorem clsN.low {b base : Nat} {w : World} {us : List Value} {c : ClsL} (h : clsN b w us c) (hb : base ≤ b) : clsN base w us c := by
  obtain ⟨v3, v4, v5, h0, h1, h2, h3, h4, h5, h6⟩ := h
  exact ⟨v3, v4, v5, h0, h1, h2, h3.low hb, Sl.imp (fun _ _ _ h => methN_low h hb) h4, h5.low hb, h6⟩
theorem clsN.later {b : Nat} {w w' : World} {us : List Value} {c : ClsL} (h : clsN b w us c) (hb : Below w.heap.size w w') : clsN b w' us c := by
  obtain ⟨v3, v4, v5, h0, h1, h2, h3, h4, h5, h6⟩ := h
  exact ⟨v3, v4, v5, h0, h1.later strE_stable hb, h2.later fieldE_stable hb, h3.later hb, h4.later (methN_stable _) hb, h5.later hb, h6⟩
theorem clsN.mono {b N N' : Nat} {w : World} {us : List Value} {c : ClsL} (hN : N ≤ N') (h : clsN b (young N' w) us c) : clsN b (young N w) us c := by
  obtain ⟨v3, v4, v5, h0, h1, h2, h3, h4, h5, h6⟩ := h
  exact ⟨v3, v4, v5, h0, sls_mono hN h1, slf_mono hN h2, h3.mono hN (by decide), slm_mono hN h4, h5.mono hN (by decide), h6⟩
theorem clsN.cls {b N : Nat} {w : World} {us : List Value} {c : ClsL} (h : clsN b (young N w) us c) : ∃ v3 v4 v5, us = [.string c.name, .string c.super, .bool c.iface, v3, v4, v5] ∧ ClsV w v3 v4 v5 c := by
  have h := clsN.mono (Nat.zero_le N) h
  rw [young_zero] at h
  obtain ⟨v3, v4, v5, h0, h1, h2, _, h4, _, h5, h6⟩ := h
  exact ⟨v3, v4, v5, h0, h1, h2, Sl.imp (fun _ _ _ h => methN_E h) h4, h5, h6⟩
theorem young_wipe {N R : Nat} {w : World} (h : R < N) : Ext (young N w) (wipe R w) := by
  refine ⟨by rw [young_size, wipe_size]; exact Nat.le_refl _, fun a v hv => ?_⟩
  by_cases e : N ≤ a.block
  · rw [World.cell?_of_block (w := wipe R w) ((young_at e).trans (wipe_other (by omega)).symm)] at hv
    exact hv
  · by_cases hlt : a.block < w.heap.size
    · have hl := young_low (N := N) (w := w) (show a.block < N by omega) hlt
      simp [World.cell?, hl] at hv
    · have : (young N w).heap[a.block]? = none := Array.getElem?_eq_none (by rw [young_size]; omega)
      simp [World.cell?, this] at hv
theorem headW_size (w : World) : (headW w).heap.size = w.heap.size + 1 := by
  unfold headW World.freeze
  rw [if_neg (by decide)]
  simp [alloc_size]
set_option maxHeartbeats 4000000 in
theorem read_any (a : Option Addr) (n c : Nat) (xs : List Int) (w : World) (h : Has w a n c xs) (hb : Bytes xs) (hl : xs.length ≤ 1000000) :
    Calls Tryz.prog 38 #[.slice a n c] w fun e w' => ∃ us, e = .returned (.agg us.toArray) ∧ clsN w.heap.size (young w.heap.size w') us (readL xs) ∧ Below w.heap.size w w' := by
  have ka := alloc1 w (.cells #[.string ⟨#[]⟩, .string ⟨#[]⟩, .bool false, .slice none 0 0, .slice none 0 0, .slice none 0 0] 26)
  have hsz := alloc_size w (.cells #[.string ⟨#[]⟩, .string ⟨#[]⟩, .bool false, .slice none 0 0, .slice none 0 0, .slice none 0 0] 26)
  have BX := blk_new w #[.string ⟨#[]⟩, .string ⟨#[]⟩, .bool false, .slice none 0 0, .slice none 0 0, .slice none 0 0] 26
  have hcv := headW_conv (w.alloc (.cells #[.string ⟨#[]⟩, .string ⟨#[]⟩, .bool false, .slice none 0 0, .slice none 0 0, .slice none 0 0] 26))
  obtain ⟨kf, hx⟩ := headW_facts (w.alloc (.cells #[.string ⟨#[]⟩, .string ⟨#[]⟩, .bool false, .slice none 0 0, .slice none 0 0, .slice none 0 0] 26))
  have hfs := headW_size (w.alloc (.cells #[.string ⟨#[]⟩, .string ⟨#[]⟩, .bool false, .slice none 0 0, .slice none 0 0, .slice none 0 0] 26))
  have BXf := blk_on BX kf
  generalize headW (w.alloc (.cells #[.string ⟨#[]⟩, .string ⟨#[]⟩, .bool false, .slice none 0 0, .slice none 0 0, .slice none 0 0] 26)) = F at *
  have kwF := ka.trans (kf.mono ka.size)
  rw [hsz] at hcv hx hfs
  have HC0 := btrim_any a n c xs _ F (h.later kwF) hb hx
  have hRL : readL xs = (rC (rL rP (trimL xs)).1 (rL rP (trimL xs)).2).1 := rfl
  have htl : Bytes (trimL xs) ∧ (trimL xs).length ≤ 1000000 := by
    unfold trimL
    split
    · exact ⟨bytes_drop hb 4, by rw [List.length_drop]; omega⟩
    · exact ⟨hb, hl⟩
  rw [hRL]
  generalize trimL xs = ts at *
  have HFS : Hid _ := hfs
  clear hRL hx kf BX hsz hfs
  generalize hCC0 : (rC (rL rP ts).1 (rL rP ts).2).1 = CC
  have HCC : Hid _ := hCC0
  clear hCC0
  go_enter Tryz.func38, Tryz.ntmps38
  go_wp2_with fail
  refine HC0.mono ?_
  rintro e w1 ⟨p, m, k, rfl, rfl, hT⟩
  clear HC0 hcv
  have k2 := alloc1 F (.cells #[.slice p m k, .slice none 0 0] 95)
  have BR := blk_new F #[.slice p m k, .slice none 0 0] 95
  have hz2 := alloc_size F (.cells #[.slice p m k, .slice none 0 0] 95)
  have H2 : Rd F (F.alloc (.cells #[.slice p m k, .slice none 0 0] 95)) F.heap.size (.slice none 0 0) [] ts := ⟨k2, Nat.le_refl _, ⟨p, m, k, BR, hT, Sl.none _ _ _⟩, htl⟩
  have BX2 := blk_on BXf k2
  have HC1 := rlp_any _ _ _ ts F _ H2
  have hR2 := H2.lt
  go_wp2_with fail
  generalize F.alloc (.cells #[.slice p m k, .slice none 0 0] 95) = w2 at *
  refine HC1.mono ?_
  rintro e w3 ⟨v, rfl, H3, g3, s3, _⟩
  clear HC1 H2
  have hCC := HCC.out
  clear HCC
  generalize rL rP ts = q at H3 s3 hCC
  obtain ⟨pool, r3⟩ := q
  simp only at H3 s3 hCC
  have HCC : Hid _ := hCC
  clear hCC
  have BX3 := blk_grown BX2 g3 (fun e => by have := Option.some.inj e; have := HFS.out; omega)
  obtain ⟨pa, pc, rfl, _⟩ := id s3
  obtain ⟨bel3, lo3, ⟨p3, n3, k3, BR3, hh3, _⟩, byt3⟩ := H3
  have y1 := blk_cell BR3 1
  have y1f := blk_free BR3 1
  simp only [List.getElem?_toArray, List.getElem?_cons_zero, List.getElem?_cons_succ] at y1
  have g4 := set_grown w3 F.heap.size 1 (.slice pa pool.length pc)
  have BR4 : (w3.setCell ⟨F.heap.size, 1, none⟩ (.slice pa pool.length pc)).heap[F.heap.size]? = some (.cells #[.slice p3 n3 k3, .slice pa pool.length pc] 95 (0, 0)) := blk_set BR3 1 _
  have H4 : Rd F (w3.setCell ⟨F.heap.size, 1, none⟩ (.slice pa pool.length pc)) F.heap.size (.slice pa pool.length pc) pool r3 :=
    ⟨bel3.setCell (p := ⟨F.heap.size, 1, none⟩) (Nat.le_refl _) _, Nat.le_refl _, ⟨p3, n3, k3, BR4, hh3, (sls_ext (young_wipe hR2) s3).later strE_stable (wipe_keep g4 (lt_of_block BR3))⟩, byt3⟩
  have BX4 := blk_other BX3 (a := ⟨F.heap.size, 1, none⟩) (.slice pa pool.length pc) (by have := HFS.out; show w.heap.size ≠ F.heap.size; omega)
  have HC2 := rclass_any _ _ _ r3 F _ H4
  have hs4 : w.heap.size + 1 ≤ (w3.setCell ⟨F.heap.size, 1, none⟩ (.slice pa pool.length pc)).heap.size := by have := lt_of_block BX4; omega
  clear BX3 BR3 g4 BR4 bel3 lo3 hh3 byt3 s3 BX2 BR BXf
  go_wp2_with fail
  generalize w3.setCell ⟨F.heap.size, 1, none⟩ (.slice pa pool.length pc) = w4 at *
  refine HC2.mono ?_
  rintro e w5 ⟨us, rfl, H5, g5, hN⟩
  have BX5 := blk_grown BX4 g5 (fun e => by have := Option.some.inj e; have := HFS.out; omega)
  have bel5 := H5.bel
  clear HC2 H5 H4 BX4
  have hCC := HCC.out
  clear HCC
  generalize (rC pool r3).1 = C at hN hCC
  subst hCC
  obtain ⟨v3, v4, v5, hus, s3, s4, n4, s5, n5, z0, z1⟩ := id hN
  obtain ⟨q3, d3, e3, _⟩ := id s3
  obtain ⟨q4, d4, e4, _⟩ := id s4
  obtain ⟨q5, d5, e5, _⟩ := id s5
  subst e3 e4 e5 hus
  clear s3 s4 n4 s5 n5 z0 z1
  have x0 := blk_cell BX5 0
  have x1 := blk_cell BX5 1
  have x2 := blk_cell BX5 2
  have x3 := blk_cell BX5 3
  have x4 := blk_cell BX5 4
  have x5 := blk_cell BX5 5
  have f0 := blk_free BX5 0
  have f1 := blk_free BX5 1
  have f2 := blk_free BX5 2
  have f3 := blk_free BX5 3
  have f4 := blk_free BX5 4
  have f5 := blk_free BX5 5
  simp only [List.getElem?_toArray, List.getElem?_cons_zero, List.getElem?_cons_succ] at x0 x1 x2 x3 x4 x5
  have g9 := setCells_grown w.heap.size [.string C.name, .string C.super, .bool C.iface, .slice q3 C.impl.length d3, .slice q4 C.fields.length d4, .slice q5 C.methods.length d5] 0 w5
  have BX9 := set_cells [.string C.name, .string C.super, .bool C.iface, .slice q3 C.impl.length d3, .slice q4 C.fields.length d4, .slice q5 C.methods.length d5] [] [.string ⟨#[]⟩, .string ⟨#[]⟩, .bool false, .slice none 0 0, .slice none 0 0, .slice none 0 0] w5 w.heap.size 26 BX5 (Nat.le_refl _)
  have hN9 := (clsN.mono (Nat.le_of_succ_le hs4) (hN.later (young_keep g9 (fun k e => by cases e; omega)))).low (base := w.heap.size) (by have := HFS.out; omega)
  have kw5 := kwF.trans (bel5.mono kwF.size)
  have kw9 : Below w.heap.size w (w5.setCells w.heap.size 0 [.string C.name, .string C.super, .bool C.iface, .slice q3 C.impl.length d3, .slice q4 C.fields.length d4, .slice q5 C.methods.length d5]) := kw5.grown g9 kw5.size (fun k e => by cases e; exact Nat.le_refl _)
  simp only [World.setCells, List.nil_append, List.length_nil, Nat.zero_add, Nat.reduceAdd] at BX9 hN9 kw9
  clear BX5 hN g9
  go_wp2_with fail
  generalize (((((w5.setCell ⟨w.heap.size, 0, none⟩ (.string C.name)).setCell ⟨w.heap.size, 1, none⟩ (.string C.super)).setCell ⟨w.heap.size, 2, none⟩ (.bool C.iface)).setCell ⟨w.heap.size, 3, none⟩ (.slice q3 C.impl.length d3)).setCell ⟨w.heap.size, 4, none⟩ (.slice q4 C.fields.length d4)).setCell ⟨w.heap.size, 5, none⟩ (.slice q5 C.methods.length d5) = W9 at *
  have y0 := blk_cell BX9 0
  have y1 := blk_cell BX9 1
  have y2 := blk_cell BX9 2
  have y3 := blk_cell BX9 3
  have y4 := blk_cell BX9 4
  have y5 := blk_cell BX9 5
  simp only [List.cons_append, List.nil_append, List.getElem?_toArray, List.getElem?_cons_zero, List.getElem?_cons_succ] at y0 y1 y2 y3 y4 y5
  refine bodyPost_ret (by simp [results, Tryz.results38, go_sem, y0, y1, y2, y3, y4, y5]; try rfl) rfl ?_
  exact ⟨_, rfl, hN9, kw9⟩
theorem cmp_none (w : World) : (binOp .eql 29 (.slice none 0 0) (.slice none 0 0)).run Tryz.prog w = .ok (.bool true) w := by kernel_rfl
theorem cmp_some (g n c : Nat) (w : World) : (binOp .eql 29 (.slice (some ⟨g, 0, none⟩) n c) (.slice none 0 0)).run Tryz.prog w = .ok (.bool false) w := by kernel_rfl
def zeroCls : Value := .agg #[.string ⟨#[]⟩, .string ⟨#[]⟩, .bool false, .slice none 0 0, .slice none 0 0, .slice none 0 0]
/-- What Decode answers: a class in new memory and 0, or nothing and an error. -/
def Decoded (w w' : World) (xs : List Int) (e : Ending) : Prop :=
  (6000 < xs.length ∧ e = .returned (.tuple #[zeroCls, .int .i64 3])) ∨
  (xs.length ≤ 6000 ∧ xs ≠ [] ∧ encodeL (readL xs) = xs ∧ ∃ us, e = .returned (.tuple #[.agg us.toArray, .int .i64 0]) ∧ clsN w.heap.size (young w.heap.size w') us (readL xs)) ∨
  (xs.length ≤ 6000 ∧ ¬ (xs ≠ [] ∧ encodeL (readL xs) = xs) ∧ e = .returned (.tuple #[zeroCls, .int .i64 1]))
set_option maxHeartbeats 4000000 in
theorem decode_any (a : Option Addr) (n c : Nat) (xs : List Int) (w : World) (h : Has w a n c xs) (hb : Bytes xs) :
    Calls Tryz.prog 13 #[.slice a n c] w fun e w' => Decoded w w' xs e ∧ Below w.heap.size w w' := by
  have hl := h.len
  have ka := alloc1 w (.cells #[.string ⟨#[]⟩, .string ⟨#[]⟩, .bool false, .slice none 0 0, .slice none 0 0, .slice none 0 0] 26)
  have BX := blk_new w #[.string ⟨#[]⟩, .string ⟨#[]⟩, .bool false, .slice none 0 0, .slice none 0 0, .slice none 0 0] 26
  by_cases h6 : 6000 < n
  · have d1 : decide ((6000 : Int) < (n : Int)) = true := by simp; omega
    go_enter Tryz.func13, Tryz.ntmps13
    go_wp2_with fail
    refine bodyPost_ret (by simp [results, Tryz.results13, go_sem]; try rfl) rfl ?_
    exact ⟨.inl ⟨by omega, rfl⟩, ka⟩
  have d1 : decide ((6000 : Int) < (n : Int)) = false := by simp; omega
  have HC0 := read_any a n c xs _ (h.later ka) hb (by omega)
  obtain ⟨C, hC⟩ : ∃ C, readL xs = C := ⟨_, rfl⟩
  have hE := encodeL_bytes C
  rw [hC] at HC0
  have HRC : Hid _ := hC
  clear hC
  have HXS : Hid (xs.length ≤ 6000) := by show _ ≤ _; omega
  go_enter Tryz.func13, Tryz.ntmps13
  go_wp2_with fail
  refine HC0.mono ?_
  rintro e w1 ⟨us, rfl, hN, b1⟩
  clear HC0
  have hlt : w.heap.size + 1 ≤ (w.alloc (.cells #[.string ⟨#[]⟩, .string ⟨#[]⟩, .bool false, .slice none 0 0, .slice none 0 0, .slice none 0 0] 26)).heap.size := by rw [alloc_size]; exact Nat.le_refl _
  have BX1 := blk_on BX b1
  have k1 := ka.trans (b1.mono ka.size)
  generalize w.alloc (.cells #[.string ⟨#[]⟩, .string ⟨#[]⟩, .bool false, .slice none 0 0, .slice none 0 0, .slice none 0 0] 26) = wa at *
  obtain ⟨v3, v4, v5, hus, hV⟩ := hN.cls
  obtain ⟨q3, d3, e3, _⟩ := id hV.impl
  obtain ⟨q4, d4, e4, _⟩ := id hV.fields
  obtain ⟨q5, d5, e5, _⟩ := id hV.methods
  subst e3 e4 e5 hus
  have k2 := alloc1 w1 (.cells #[.string C.name, .string C.super, .bool C.iface, .slice q3 C.impl.length d3, .slice q4 C.fields.length d4, .slice q5 C.methods.length d5] 26)
  have BC2 := blk_new w1 #[.string C.name, .string C.super, .bool C.iface, .slice q3 C.impl.length d3, .slice q4 C.fields.length d4, .slice q5 C.methods.length d5] 26
  have HC1 := encode_any _ _ _ C _ (hV.later k2)
  unfold clsVal at HC1
  have BX2 := blk_on BX1 k2
  go_wp2_with fail
  generalize w1.alloc (.cells #[.string C.name, .string C.super, .bool C.iface, .slice q3 C.impl.length d3, .slice q4 C.fields.length d4, .slice q5 C.methods.length d5] 26) = w2 at *
  refine HC1.mono ?_
  rintro e w3 ⟨v, rfl, own3, hnil, b3⟩
  have BX3 := blk_on BX2 b3
  have k2' := k1.trans (k2.mono k1.size)
  have k3 := k2'.trans (b3.mono k2'.size)
  clear HC1 BX1 BX BX2
  by_cases hz : encodeL C = []
  · obtain rfl := hnil hz
    have hcm := cmp_none w3
    have HF : Hid (¬ (xs ≠ [] ∧ encodeL C = xs)) := fun h => h.1 (by rw [← h.2, hz])
    clear hnil hz own3
    have x0 := blk_cell BX3 0
    have x1 := blk_cell BX3 1
    have x2 := blk_cell BX3 2
    have x3 := blk_cell BX3 3
    have x4 := blk_cell BX3 4
    have x5 := blk_cell BX3 5
    have f0 := blk_free BX3 0
    have f1 := blk_free BX3 1
    have f2 := blk_free BX3 2
    have f3 := blk_free BX3 3
    have f4 := blk_free BX3 4
    have f5 := blk_free BX3 5
    simp only [List.getElem?_toArray, List.getElem?_cons_zero, List.getElem?_cons_succ] at x0 x1 x2 x3 x4 x5
    have g9 := setCells_grown w.heap.size [.string ⟨#[]⟩, .string ⟨#[]⟩, .bool false, .slice none 0 0, .slice none 0 0, .slice none 0 0] 0 w3
    have BX9 := set_cells [.string ⟨#[]⟩, .string ⟨#[]⟩, .bool false, .slice none 0 0, .slice none 0 0, .slice none 0 0] [] [.string ⟨#[]⟩, .string ⟨#[]⟩, .bool false, .slice none 0 0, .slice none 0 0, .slice none 0 0] w3 w.heap.size 26 BX3 (Nat.le_refl _)
    have kw9 : Below w.heap.size w (w3.setCells w.heap.size 0 [.string ⟨#[]⟩, .string ⟨#[]⟩, .bool false, .slice none 0 0, .slice none 0 0, .slice none 0 0]) := k3.grown g9 k3.size (fun k e => by cases e; exact Nat.le_refl _)
    simp only [World.setCells, List.nil_append, List.length_nil, Nat.zero_add, Nat.reduceAdd] at BX9 kw9
    clear g9
    go_wp2_with fail
    generalize ((((((w3.setCell ⟨w.heap.size, 0, none⟩ (.string ⟨#[]⟩)).setCell ⟨w.heap.size, 1, none⟩ (.string ⟨#[]⟩)).setCell ⟨w.heap.size, 2, none⟩ (.bool false)).setCell ⟨w.heap.size, 3, none⟩ (.slice none 0 0)).setCell ⟨w.heap.size, 4, none⟩ (.slice none 0 0)).setCell ⟨w.heap.size, 5, none⟩ (.slice none 0 0)) = W9 at *
    have y0 := blk_cell BX9 0
    have y1 := blk_cell BX9 1
    have y2 := blk_cell BX9 2
    have y3 := blk_cell BX9 3
    have y4 := blk_cell BX9 4
    have y5 := blk_cell BX9 5
    simp only [List.cons_append, List.nil_append, List.getElem?_toArray, List.getElem?_cons_zero, List.getElem?_cons_succ] at y0 y1 y2 y3 y4 y5
    refine bodyPost_ret (by simp [results, Tryz.results13, go_sem, y0, y1, y2, y3, y4, y5]; try rfl) rfl ?_
    refine ⟨.inr (.inr ⟨HXS.out, by rw [HRC.out]; exact HF.out, rfl⟩), kw9⟩
  · have hpos : 0 < (encodeL C).length := by
      cases hh : encodeL C with
      | nil => exact absurd hh hz
      | cons p q => simp
    obtain ⟨g, cap, rfl, _, _⟩ := own3.form hpos
    have hcm := cmp_some g (encodeL C).length cap w3
    have hR3 := Has.own own3
    have hX3 := (h.later k3)
    have HC2 := bequal_any _ _ _ _ _ _ _ _ w3 hR3 hX3 hE hb
    have hne : xs ≠ [] ∨ ¬ encodeL C = xs := by
      by_cases e : encodeL C = xs
      · left; rw [← e]; exact hz
      · right; exact e
    clear hnil
    by_cases hq : encodeL C = xs
    · have HF : Hid (xs ≠ [] ∧ encodeL C = xs) := ⟨by rw [← hq]; exact hz, hq⟩
      have hd : decide (encodeL C = xs) = true := by simp [hq]
      rw [hd] at HC2
      clear hz hq hd hne hpos own3 hR3
      generalize (encodeL C).length = ne at *
      have x0 := blk_cell BX3 0
      have x1 := blk_cell BX3 1
      have x2 := blk_cell BX3 2
      have x3 := blk_cell BX3 3
      have x4 := blk_cell BX3 4
      have x5 := blk_cell BX3 5
      have f0 := blk_free BX3 0
      have f1 := blk_free BX3 1
      have f2 := blk_free BX3 2
      have f3 := blk_free BX3 3
      have f4 := blk_free BX3 4
      have f5 := blk_free BX3 5
      simp only [List.getElem?_toArray, List.getElem?_cons_zero, List.getElem?_cons_succ] at x0 x1 x2 x3 x4 x5
      have BC3 := blk_on BC2 b3
      have t0 := blk_cell BC3 0
      have t1 := blk_cell BC3 1
      have t2 := blk_cell BC3 2
      have t3 := blk_cell BC3 3
      have t4 := blk_cell BC3 4
      have t5 := blk_cell BC3 5
      simp only [List.getElem?_toArray, List.getElem?_cons_zero, List.getElem?_cons_succ] at t0 t1 t2 t3 t4 t5
      go_wp2_with fail
      refine HC2.mono ?_
      rintro e w9 ⟨rfl, rfl⟩
      have g9 := setCells_grown w.heap.size [.string C.name, .string C.super, .bool C.iface, .slice q3 C.impl.length d3, .slice q4 C.fields.length d4, .slice q5 C.methods.length d5] 0 w3
      have BX9 := set_cells [.string C.name, .string C.super, .bool C.iface, .slice q3 C.impl.length d3, .slice q4 C.fields.length d4, .slice q5 C.methods.length d5] [] [.string ⟨#[]⟩, .string ⟨#[]⟩, .bool false, .slice none 0 0, .slice none 0 0, .slice none 0 0] w3 w.heap.size 26 BX3 (Nat.le_refl _)
      have kw9 : Below w.heap.size w (w3.setCells w.heap.size 0 [.string C.name, .string C.super, .bool C.iface, .slice q3 C.impl.length d3, .slice q4 C.fields.length d4, .slice q5 C.methods.length d5]) := k3.grown g9 k3.size (fun k e => by cases e; exact Nat.le_refl _)
      have hN2 := hN.later (young_keep (below_grown (row := none) k2) (fun k e => by cases e))
      have hN3 := hN2.later (young_keep (below_grown (row := none) b3) (fun k e => by cases e))
      have hN9 := (clsN.mono (N := w.heap.size) (by omega) (hN3.later (young_keep g9 (fun k e => by cases e; omega)))).low (base := w.heap.size) (by omega)
      simp only [World.setCells, List.nil_append, List.length_nil, Nat.zero_add, Nat.reduceAdd] at BX9 kw9 hN9
      clear g9
      go_wp2_with fail
      generalize ((((((w3.setCell ⟨w.heap.size, 0, none⟩ (.string C.name)).setCell ⟨w.heap.size, 1, none⟩ (.string C.super)).setCell ⟨w.heap.size, 2, none⟩ (.bool C.iface)).setCell ⟨w.heap.size, 3, none⟩ (.slice q3 C.impl.length d3)).setCell ⟨w.heap.size, 4, none⟩ (.slice q4 C.fields.length d4)).setCell ⟨w.heap.size, 5, none⟩ (.slice q5 C.methods.length d5)) = W9 at *
      have y0 := blk_cell BX9 0
      have y1 := blk_cell BX9 1
      have y2 := blk_cell BX9 2
      have y3 := blk_cell BX9 3
      have y4 := blk_cell BX9 4
      have y5 := blk_cell BX9 5
      simp only [List.cons_append, List.nil_append, List.getElem?_toArray, List.getElem?_cons_zero, List.getElem?_cons_succ] at y0 y1 y2 y3 y4 y5
      refine bodyPost_ret (by simp [results, Tryz.results13, go_sem, y0, y1, y2, y3, y4, y5]; try rfl) rfl ?_
      refine ⟨.inr (.inl ⟨HXS.out, HF.out.1, by rw [HRC.out]; exact HF.out.2, _, rfl, by rw [HRC.out]; exact hN9⟩), kw9⟩
    · have HF : Hid (¬ (xs ≠ [] ∧ encodeL C = xs)) := fun h => hq h.2
      have hd : decide (encodeL C = xs) = false := by simp [hq]
      rw [hd] at HC2
      clear hz hq hd hne hpos own3 hR3
      generalize (encodeL C).length = ne at *
      go_wp2_with fail
      refine HC2.mono ?_
      rintro e w9 ⟨rfl, rfl⟩
      have x0 := blk_cell BX3 0
      have x1 := blk_cell BX3 1
      have x2 := blk_cell BX3 2
      have x3 := blk_cell BX3 3
      have x4 := blk_cell BX3 4
      have x5 := blk_cell BX3 5
      have f0 := blk_free BX3 0
      have f1 := blk_free BX3 1
      have f2 := blk_free BX3 2
      have f3 := blk_free BX3 3
      have f4 := blk_free BX3 4
      have f5 := blk_free BX3 5
      simp only [List.getElem?_toArray, List.getElem?_cons_zero, List.getElem?_cons_succ] at x0 x1 x2 x3 x4 x5
      have g9 := setCells_grown w.heap.size [.string ⟨#[]⟩, .string ⟨#[]⟩, .bool false, .slice none 0 0, .slice none 0 0, .slice none 0 0] 0 w3
      have BX9 := set_cells [.string ⟨#[]⟩, .string ⟨#[]⟩, .bool false, .slice none 0 0, .slice none 0 0, .slice none 0 0] [] [.string ⟨#[]⟩, .string ⟨#[]⟩, .bool false, .slice none 0 0, .slice none 0 0, .slice none 0 0] w3 w.heap.size 26 BX3 (Nat.le_refl _)
      have kw9 : Below w.heap.size w (w3.setCells w.heap.size 0 [.string ⟨#[]⟩, .string ⟨#[]⟩, .bool false, .slice none 0 0, .slice none 0 0, .slice none 0 0]) := k3.grown g9 k3.size (fun k e => by cases e; exact Nat.le_refl _)
      simp only [World.setCells, List.nil_append, List.length_nil, Nat.zero_add, Nat.reduceAdd] at BX9 kw9
      clear g9
      go_wp2_with fail
      generalize ((((((w3.setCell ⟨w.heap.size, 0, none⟩ (.string ⟨#[]⟩)).setCell ⟨w.heap.size, 1, none⟩ (.string ⟨#[]⟩)).setCell ⟨w.heap.size, 2, none⟩ (.bool false)).setCell ⟨w.heap.size, 3, none⟩ (.slice none 0 0)).setCell ⟨w.heap.size, 4, none⟩ (.slice none 0 0)).setCell ⟨w.heap.size, 5, none⟩ (.slice none 0 0)) = W9 at *
      have y0 := blk_cell BX9 0
      have y1 := blk_cell BX9 1
      have y2 := blk_cell BX9 2
      have y3 := blk_cell BX9 3
      have y4 := blk_cell BX9 4
      have y5 := blk_cell BX9 5
      simp only [List.cons_append, List.nil_append, List.getElem?_toArray, List.getElem?_cons_zero, List.getElem?_cons_succ] at y0 y1 y2 y3 y4 y5
      refine bodyPost_ret (by simp [results, Tryz.results13, go_sem, y0, y1, y2, y3, y4, y5]; try rfl) rfl ?_
      refine ⟨.inr (.inr ⟨HXS.out, by rw [HRC.out]; exact HF.out, rfl⟩), kw9⟩
end Fil
end Go.Proofs.YtjblmgdjaaeedaaGreat
