/- The laws' own Cut: a class. (Written by tools/gen/gencutc.py.) -/
import Derived.Test.YtjblmgdjaaeedaaGreatFilCutN
namespace Go.Proofs.YtjblmgdjaaeedaaGreat
namespace Fil
open Num Kind Op4 Cls
open Go.RowKit
set_option linter.unusedVariables false
set_option linter.unusedSimpArgs false
set_option maxRecDepth 100000

def pF (T : Nat) : Bool := !(T == 40)
def pC (T : Nat) : Bool := T == 26
/-- Classes and fields are struck. -/
def pCF (T : Nat) : Bool := (T == 26) || (T == 40)
theorem pS_C (T : Nat) (h : pS T = false) : pC T = false := by
  simp [pS] at h
  subst h
  decide
theorem pF_C (T : Nat) (h : pF T = false) : pC T = false := by
  simp [pF] at h
  subst h
  decide
theorem pCF_C (T : Nat) (h : pCF T = false) : pC T = false := by
  simp [pCF] at h
  simp [pC, h.1]
theorem pMC_CF (T : Nat) (h : pMC T = false) : pCF T = false := by
  simp [pMC] at h
  simp [pCF, h.1.2, h.2]
theorem pS_CF (T : Nat) (h : pS T = false) : pCF T = false := by
  simp [pS] at h
  subst h
  decide
def cutF (f : FieldL) : FieldL := ⟨cutS f.name 10, cutS f.type 12, f.static⟩
def cutC (c : ClsL) : ClsL := ⟨cutS c.name 10, cutS c.super 10, c.iface, cutTs 6 c.impl, (c.fields.take 10).map cutF, (c.methods.take 10).map cutM⟩
def fcl (f : FieldL) : List Value := [.string f.name, .string f.type, .bool f.static]
theorem cutF_small {l : List FieldL} {x : FieldL} (h : x ∈ l.map cutF) : x.name.size ≤ maxLen ∧ x.type.size ≤ maxLen := by
  obtain ⟨y, _, rfl⟩ := List.mem_map.1 h
  exact ⟨cutS_max _ _ (by decide), cutS_max _ _ (by decide)⟩
theorem one_fcl (x : FieldL) : ∀ u ∈ fcl x, u.oneCell' = true := by
  intro u hu
  simp [fcl] at hu
  rcases hu with rfl | rfl | rfl <;> rfl
theorem sl_fields {w : World} {base : Nat} {v : Value} {n : Nat} {l : List FieldL} (h : w.ownsRow base 40 3 v n (l.flatMap fcl)) (hl : l.length = n) (hs : ∀ x ∈ l, x.name.size ≤ maxLen ∧ x.type.size ≤ maxLen) : Sl fieldE 3 w v l :=
  Sl.own h hl (fun b hb i hi => by
    have hat := fun j hj => flat_same fcl 3 (fun x => rfl) l i j hi hj
    have h2 := hs _ (List.getElem_mem hi)
    exact ⟨hb _ _ (hat 0 (by decide)), hb _ _ (hat 1 (by decide)), hb _ _ (hat 2 (by decide)), h2.1, h2.2⟩)
/-- A method with its slices. -/
structure MY where
  m : MethL
  v1 : Value
  v7 : Value
  v8 : Value
  v9 : Value
def mcells (y : MY) : List Value := [.string y.m.name, y.v1, .string y.m.ret, .bool y.m.static, .bool y.m.abstract, .int .i64 y.m.locals, .int .i64 y.m.stack, y.v7, y.v8, y.v9]
def MYs (w : World) (l : List MY) : Prop := ∀ y ∈ l, MethV w y.v1 y.v7 y.v8 y.v9 y.m
theorem MYs.ext {w w' : World} (he : Ext w w') {l : List MY} (h : MYs w l) : MYs w' l := fun y hy => MethV.ext he (h y hy)
theorem MYs.add {w : World} {l : List MY} (h : MYs w l) {y : MY} (h1 : MethV w y.v1 y.v7 y.v8 y.v9 y.m) : MYs w (l ++ [y]) := fun z hz => by
  rcases List.mem_append.1 hz with hz | hz
  · exact h z hz
  · rw [List.mem_singleton.1 hz]; exact h1
theorem one_mcells (m : MethL) (a1 a7 a8 a9 : Option Addr) (n1 n7 n8 n9 c1 c7 c8 c9 : Nat) : ∀ u ∈ mcells ⟨m, .slice a1 n1 c1, .slice a7 n7 c7, .slice a8 n8 c8, .slice a9 n9 c9⟩, u.oneCell' = true := by
  intro u hu
  simp [mcells] at hu
  rcases hu with rfl | rfl | rfl | rfl | rfl | rfl | rfl | rfl | rfl | rfl <;> rfl
theorem sl_meths {w : World} {base : Nat} {v : Value} {n : Nat} {l : List MY} (h : w.ownsRow base 46 10 v n (l.flatMap mcells)) (hl : l.length = n) (hs : MYs w l) : Sl methE 10 w v (l.map (·.m)) :=
  Sl.own h (by simpa using hl) (fun b hb i hi => by
    have hi' : i < l.length := by simpa using hi
    have hat := fun j hj => flat_same mcells 10 (fun x => rfl) l i j hi' hj
    have h2 := hs _ (List.getElem_mem hi')
    rw [List.getElem_map]
    refine ⟨_, _, _, _, h2, fun j hj => ?_⟩
    have hm : (mcells l[i])[j]? = (methCells l[i].v1 l[i].v7 l[i].v8 l[i].v9 l[i].m)[j]? := by simp [mcells, methCells]
    have hlt : j < (mcells l[i]).length := hj
    rw [← hm, List.getElem?_eq_getElem hlt]
    refine hb _ _ ?_
    rw [hat j hj, List.getElem?_eq_getElem hlt])
theorem methE_ext {w w' : World} (he : Ext w w') (b off : Nat) (m : MethL) (h : methE w b off m) : methE w' b off m := by
  obtain ⟨v1, v7, v8, v9, h1, h2⟩ := h
  refine ⟨v1, v7, v8, v9, MethV.ext he h1, fun j hj => ?_⟩
  have hj' : j < (methCells v1 v7 v8 v9 m).size := by simpa [methCells] using hj
  have := h2 j hj
  rw [Array.getElem?_eq_getElem hj'] at this ⊢
  exact he.2 _ _ this
theorem ClsV.ext {w w' : World} (he : Ext w w') {v3 v4 v5 : Value} {c : ClsL} (h : ClsV w v3 v4 v5 c) : ClsV w' v3 v4 v5 c :=
  ⟨sls_ext he h.impl, Sl.ext (fieldE_ext he) he.1 h.fields, Sl.ext (methE_ext he) he.1 h.methods, h.s0, h.s1⟩
theorem set6 (z0 z1 z2 z3 z4 z5 v0 v1 v2 v3 v4 v5 : Value) : setAll #[z0, z1, z2, z3, z4, z5] 0 [v0, v1, v2, v3, v4, v5] = #[v0, v1, v2, v3, v4, v5] := by
  simp only [setAll, List.setIfInBounds_toArray, List.set_cons_zero, List.set_cons_succ, Nat.reduceAdd]
theorem blk_sets6 {w : World} {B T : Nat} {z0 z1 z2 z3 z4 z5 : Value} (h : w.heap[B]? = some (.cells #[z0, z1, z2, z3, z4, z5] T (0, 0))) (v0 v1 v2 v3 v4 v5 : Value) : (w.setCells B 0 #[v0, v1, v2, v3, v4, v5].toList).heap[B]? = some (.cells #[v0, v1, v2, v3, v4, v5] T (0, 0)) := by
  have := blk_sets [v0, v1, v2, v3, v4, v5] 0 w _ h
  rw [set6] at this
  exact this
/-- A class that Cut has made: its fields lie in a row of their own, the rest reads without it. -/
structure CutV (base : Nat) (w : World) (v3 v4 v5 : Value) (c : ClsL) : Prop where
  impl : Sl strE 1 (msk pCF w) v3 c.impl
  fields : w.ownsRow base 40 3 v4 c.fields.length (c.fields.flatMap fcl)
  methods : Sl methE 10 (msk pCF w) v5 c.methods
  s0 : c.name.size ≤ maxLen
  s1 : c.super.size ≤ maxLen
  sf : ∀ x ∈ c.fields, x.name.size ≤ maxLen ∧ x.type.size ≤ maxLen
theorem CutV.cls {base : Nat} {w : World} {v3 v4 v5 : Value} {c : ClsL} (h : CutV base w v3 v4 v5 c) : ClsV (msk pC w) v3 v4 v5 c :=
  ⟨sls_ext (ext_mono w pCF_C) h.impl, sl_fields (own_msk (p := pC) h.fields (by decide)) rfl h.sf, Sl.ext (methE_ext (ext_mono w pCF_C)) (ext_mono w pCF_C).1 h.methods, h.s0, h.s1⟩
theorem info6 : (Tryz.prog.info? 26).map (·.size) = some 6 := by kernel_rfl

set_option maxHeartbeats 16000000 in
theorem cutc_own (nm su : ByteArray) (fa : Bool) (im : List ByteArray) (fs : List FieldL) (ms : List MethL) (q3 q4 q5 : Option Addr) (d3 d4 d5 : Nat) (w : World)
    (hv : ClsV w (.slice q3 im.length d3) (.slice q4 fs.length d4) (.slice q5 ms.length d5) ⟨nm, su, fa, im, fs, ms⟩) :
    Calls Tryz.prog 9 #[.agg #[.string nm, .string su, .bool fa, .slice q3 im.length d3, .slice q4 fs.length d4, .slice q5 ms.length d5]] w fun e w' =>
      ∃ v3 v4 v5, e = .returned (clsVal v3 v4 v5 (cutC ⟨nm, su, fa, im, fs, ms⟩)) ∧ CutV w.heap.size w' v3 v4 v5 (cutC ⟨nm, su, fa, im, fs, ms⟩) ∧ Below w.heap.size w w' := by
  obtain ⟨iS, hiS, hzS0, hzS1, hzS2⟩ := info_parts infoS
  obtain ⟨iF, hiF, hzF0, hzF1, hzF2⟩ := info_parts infoF
  obtain ⟨iM, hiM, hzM0, hzM1, hzM2⟩ := info_parts infoM
  have k0 := alloc1 w (.cells #[.string nm, .string su, .bool fa, .slice q3 im.length d3, .slice q4 fs.length d4, .slice q5 ms.length d5] 26)
  have BM0 := blk_new w #[.string nm, .string su, .bool fa, .slice q3 im.length d3, .slice q4 fs.length d4, .slice q5 ms.length d5] 26
  have kz := alloc1 (w.alloc (.cells #[.string nm, .string su, .bool fa, .slice q3 im.length d3, .slice q4 fs.length d4, .slice q5 ms.length d5] 26)) (.cells #[.string ⟨#[]⟩, .string ⟨#[]⟩, .bool false, .slice none 0 0, .slice none 0 0, .slice none 0 0] 26)
  have BM := blk_on BM0 kz
  have BR := blk_new (w.alloc (.cells #[.string nm, .string su, .bool fa, .slice q3 im.length d3, .slice q4 fs.length d4, .slice q5 ms.length d5] 26)) #[.string ⟨#[]⟩, .string ⟨#[]⟩, .bool false, .slice none 0 0, .slice none 0 0, .slice none 0 0] 26
  rw [alloc_size] at BR
  have kB := k0.trans (kz.mono k0.size)
  go_enter Tryz.func9, Tryz.ntmps9
  go_upto_region 1 with fail
  generalize (w.alloc (.cells #[.string nm, .string su, .bool fa, .slice q3 im.length d3, .slice q4 fs.length d4, .slice q5 ms.length d5] 26)).alloc (.cells #[.string ⟨#[]⟩, .string ⟨#[]⟩, .bool false, .slice none 0 0, .slice none 0 0, .slice none 0 0] 26) = wB at *
  clear k0 kz BM0
  have hvB := hv.later kB
  have s0 := hv.s0
  have s1 := hv.s1
  simp only at s0 s1
  go_cut [3] (fun s3 wc => ∃ (O : Nat) (v3 : Value), s3 = .pointer (some ⟨O, 0, none⟩) ∧ wB.heap.size ≤ O ∧ wc.heap[O]? = some (.cells #[.string (cutS nm 10), .string (cutS su 10), .bool fa, v3, .slice none 0 0, .slice none 0 0] 26 (0, 0)) ∧ Sl strE 1 (msk pS wc) v3 (cutTs 6 im) ∧ Below wB.heap.size wB wc)
  case first =>
    have x0 := blk_cell BM 0
    have x1 := blk_cell BM 1
    have x2 := blk_cell BM 2
    have x3 := blk_cell BM 3
    simp only [List.getElem?_toArray, List.getElem?_cons_zero, List.getElem?_cons_succ] at x0 x1 x2 x3
    have kk : Below wB.heap.size wB wB.drew := (Below.refl _ _).drew
    have HT := fun W (b : Below wB.heap.size wB W) => texts_any _ im W 6 (by decide) (hvB.impl.later strE_stable b)
    refine wp_region_held_drew (S := fun W' => W'.cell? ⟨w.heap.size, 0, none⟩ = some (.string nm) ∧ W'.cell? ⟨w.heap.size, 1, none⟩ = some (.string su) ∧ W'.cell? ⟨w.heap.size, 2, none⟩ = some (.bool fa) ∧ W'.cell? ⟨w.heap.size, 3, none⟩ = some (.slice q3 im.length d3)) (by kernel_rfl) ⟨cellOn x0 kk, cellOn x1 kk, cellOn x2 kk, cellOn x3 kk⟩ (fun hHeld => ?_)
    have hkk := kk.size
    refine wpAnyH_take (i := 0) (oi := ⟨some 7, _, _, _, _, _⟩) (v := ?_) rfl (by kernel_rfl) (by kernel_rfl) (by kernel_rfl) (fun _ _ _ h => h) (Or.inl ⟨by kernel_rfl, fun Wx hSw => ?_⟩) (by assumption) ?_
    rotate_left
    · ((try dsimp only at hSw); go_simp; try with_reducible rfl)
    simp only [Act.put, List.setIfInBounds_toArray, List.set_cons_zero, List.set_cons_succ]
    refine wpAnyH_take (i := 1) (oi := ⟨some 8, _, _, _, _, _⟩) (v := ?_) rfl (by kernel_rfl) (by kernel_rfl) (by kernel_rfl) (fun _ _ _ h => h) (Or.inl ⟨by kernel_rfl, fun Wx hSw => ?_⟩) (by assumption) ?_
    rotate_left
    · ((try dsimp only at hSw); go_simp; try with_reducible rfl)
    simp only [Act.put, List.setIfInBounds_toArray, List.set_cons_zero, List.set_cons_succ]
    refine wpAnyH_take (i := 3) (oi := ⟨some 10, _, _, _, _, _⟩) (v := ?_) rfl (by kernel_rfl) (by kernel_rfl) (by kernel_rfl) (fun _ _ _ h => h) (Or.inl ⟨by kernel_rfl, fun Wx hSw => ?_⟩) (by assumption) ?_
    rotate_left
    · ((try dsimp only at hSw); go_simp; try with_reducible rfl)
    simp only [Act.put, List.setIfInBounds_toArray, List.set_cons_zero, List.set_cons_succ]
    refine wpAnyH_take (i := 4) (oi := ⟨some 11, _, _, _, _, _⟩) (v := ?_) rfl (by kernel_rfl) (by kernel_rfl) (by kernel_rfl) (fun _ _ _ h => h) (Or.inl ⟨by kernel_rfl, fun Wx hSw => ?_⟩) (by assumption) ?_
    rotate_left
    · ((try dsimp only at hSw); go_simp; try with_reducible rfl)
    simp only [Act.put, List.setIfInBounds_toArray, List.set_cons_zero, List.set_cons_succ]
    refine wpAnyH_take (i := 6) (oi := ⟨some 13, _, _, _, _, _⟩) (v := ?_) rfl (by kernel_rfl) (by kernel_rfl) (by kernel_rfl) (fun _ _ _ h => h) (Or.inl ⟨by kernel_rfl, fun Wx hSw => ?_⟩) (by assumption) ?_
    rotate_left
    · ((try dsimp only at hSw); go_simp; try with_reducible rfl)
    simp only [Act.put, List.setIfInBounds_toArray, List.set_cons_zero, List.set_cons_succ]
    refine wpAnyH_take (i := 7) (oi := ⟨some 14, _, _, _, _, _⟩) (v := ?_) rfl (by kernel_rfl) (by kernel_rfl) (by kernel_rfl) (fun _ _ _ h => h) (Or.inl ⟨by kernel_rfl, fun Wx hSw => ?_⟩) (by assumption) ?_
    rotate_left
    · ((try dsimp only at hSw); go_simp; try with_reducible rfl)
    simp only [Act.put, List.setIfInBounds_toArray, List.set_cons_zero, List.set_cons_succ]
    refine wpAnyH_take (i := 8) (oi := ⟨some 15, _, _, _, _, _⟩) (v := ?_) rfl (by kernel_rfl) (by kernel_rfl) (by kernel_rfl) (fun _ _ _ h => h) (Or.inl ⟨by kernel_rfl, fun Wx hSw => ?_⟩) (by assumption) ?_
    rotate_left
    · ((try dsimp only at hSw); go_simp; try with_reducible rfl)
    simp only [Act.put, List.setIfInBounds_toArray, List.set_cons_zero, List.set_cons_succ]
    refine wpAnyH_take (i := 9) (oi := ⟨some 16, _, _, _, _, _⟩) (v := ?_) rfl (by kernel_rfl) (by kernel_rfl) (by kernel_rfl) (fun _ _ _ h => h) (Or.inl ⟨by kernel_rfl, fun Wx hSw => ?_⟩) (by assumption) ?_
    rotate_left
    · ((try dsimp only at hSw); go_simp; try with_reducible rfl)
    simp only [Act.put, List.setIfInBounds_toArray, List.set_cons_zero, List.set_cons_succ]
    refine wpAnyH_ready (rs := [2, 12]) (by kernel_rfl) (by simp) ?_
    refine AllReadyH.cons (o := ⟨some 9, _, _, _, _, _⟩) rfl (fun K hK => ?_) ?_
    · go_simp
      go_wp2_with (go_at_call 19; refine (cut_any nm _ 10 10 rfl (by decide) s0).mono ?_; rintro e w' ⟨rfl, rfl⟩)
      refine hK.out _ _ (by assumption) (fun hHeld => ?_)
      clear hK K
      refine wpAnyH_ready (rs := [5, 12]) (by kernel_rfl) (by simp) ?_
      refine AllReadyH.cons (o := ⟨some 12, _, _, _, _, _⟩) rfl (fun K hK => ?_) ?_
      · go_simp
        go_wp2_with (go_at_call 19; refine (cut_any su _ 10 10 rfl (by decide) s1).mono ?_; rintro e w' ⟨rfl, rfl⟩)
        refine hK.out _ _ (by assumption) (fun hHeld => ?_)
        clear hK K
        refine wpAnyH_ready (rs := [10, 12]) (by kernel_rfl) (by simp) ?_
        refine AllReadyH.cons (o := ⟨some 17, _, _, _, _, _⟩) rfl (fun K hK => ?_) ?_
        · go_simp
          go_wp2_with (go_at_call 20; refine (HT _ kk).mono ?_; rintro e wT ⟨vT, rfl, ownT, bT⟩; obtain ⟨aT, cT, rfl⟩ := own_sl ownT)
          have kk := kk.trans (bT.mono kk.size)
          have ownT := own_low ownT hkk
          refine hK.out _ _ ⟨cellOn x0 kk, cellOn x1 kk, cellOn x2 kk, cellOn x3 kk⟩ (fun hHeld => ?_)
          clear hK K
          have hkk := kk.size
          refine wpAnyH_take (i := 11) (oi := ⟨some 18, _, _, _, _, _⟩) (v := ?_) rfl (by kernel_rfl) (by kernel_rfl) (by kernel_rfl) (fun _ _ _ h => h) (Or.inl ⟨by kernel_rfl, fun Wx hSw => ?_⟩) (by assumption) ?_
          rotate_left
          · ((try dsimp only at hSw); go_simp; try with_reducible rfl)
          simp only [Act.put, List.setIfInBounds_toArray, List.set_cons_zero, List.set_cons_succ]
          refine wpAnyH_ready (rs := [12]) (by kernel_rfl) (by simp) ?_
          refine AllReadyH.cons (o := ⟨some 3, _, _, _, _, _⟩) rfl (fun K hK => ?_) AllReadyH.nil
          go_simp
          have hO : wB.heap.size ≤ wT.heap.size := hkk
          have BO := blk_new wT #[.string ⟨#[]⟩, .string ⟨#[]⟩, .bool false, .slice none 0 0, .slice none 0 0, .slice none 0 0] 26
          have kA := alloc1 wT (.cells #[.string ⟨#[]⟩, .string ⟨#[]⟩, .bool false, .slice none 0 0, .slice none 0 0, .slice none 0 0] 26)
          have kk := kk.trans (kA.mono kk.size)
          have ownT := own_later ownT kA
          refine hK.out _ _ ⟨cellOn x0 kk, cellOn x1 kk, cellOn x2 kk, cellOn x3 kk⟩ (fun hHeld => ?_)
          clear hK K
          have hkk := kk.size
          generalize wT.alloc (.cells #[.string ⟨#[]⟩, .string ⟨#[]⟩, .bool false, .slice none 0 0, .slice none 0 0, .slice none 0 0] 26) = wA at *
          refine wpAnyH_ready (rs := [13]) (by kernel_rfl) (by simp) ?_
          refine AllReadyH.cons (o := ⟨none, _, _, _, _, _⟩) rfl (fun K hK => ?_) AllReadyH.nil
          rw [if_pos (by kernel_rfl)]
          refine wp_store_mid _ _ _ rfl wT.heap.size 0 #[.string (cutS nm 10), .string (cutS su 10), .bool fa, .slice aT (cutTs 6 im).length cT, .slice none 0 0, .slice none 0 0] rfl rfl (there_blk BO (by simp)) info6 (by simp [Value.oneCell']) ?_
          have hne := own_ne_blk ownT BO (by decide)
          have kk := below_sets hO #[.string (cutS nm 10), .string (cutS su 10), .bool fa, .slice aT (cutTs 6 im).length cT, .slice none 0 0, .slice none 0 0].toList 0 _ kk
          have BZ : (wA.setCells (wT.heap.size) 0 #[.string (cutS nm 10), .string (cutS su 10), .bool fa, .slice aT (cutTs 6 im).length cT, .slice none 0 0, .slice none 0 0].toList).heap[wT.heap.size]? = some (.cells #[.string (cutS nm 10), .string (cutS su 10), .bool fa, .slice aT (cutTs 6 im).length cT, .slice none 0 0, .slice none 0 0] 26 (0, 0)) := blk_sets6 BO _ _ _ _ _ _
          have ownZ := own_sets ownT hne #[.string (cutS nm 10), .string (cutS su 10), .bool fa, .slice aT (cutTs 6 im).length cT, .slice none 0 0, .slice none 0 0].toList 0
          refine hK.out _ _ ⟨cellOn x0 kk, cellOn x1 kk, cellOn x2 kk, cellOn x3 kk⟩ (fun hHeld => ?_)
          clear hK K
          generalize (wA.setCells (wT.heap.size) 0 #[.string (cutS nm 10), .string (cutS su 10), .bool fa, .slice aT (cutTs 6 im).length cT, .slice none 0 0, .slice none 0 0].toList) = wZ at *
          refine wpAnyH_done (by kernel_rfl) ?_ _
          clear hHeld BO ownT hne x0 x1 x2 x3 HT BM hvB
          have H3 : Hid _ := sl_texts (own_msk (p := pS) ownZ (by decide)) rfl (cutTs_small 6 im)
          clear ownZ
          go_wp2_with fail
          go_meet
          exact ⟨_, _, rfl, hO, BZ, H3.out, kk⟩
        refine AllReadyH.cons (o := ⟨some 3, _, _, _, _, _⟩) rfl (fun K hK => ?_) AllReadyH.nil
        go_simp
        have hO : wB.heap.size ≤ wB.heap.size := Nat.le_refl _
        have BO : ((wB.alloc (.cells #[.string ⟨#[]⟩, .string ⟨#[]⟩, .bool false, .slice none 0 0, .slice none 0 0, .slice none 0 0] 26)).drew).heap[wB.heap.size]? = some (.cells #[.string ⟨#[]⟩, .string ⟨#[]⟩, .bool false, .slice none 0 0, .slice none 0 0, .slice none 0 0] 26 (0, 0)) := blk_new wB _ _
        have kk : Below wB.heap.size wB ((wB.alloc (.cells #[.string ⟨#[]⟩, .string ⟨#[]⟩, .bool false, .slice none 0 0, .slice none 0 0, .slice none 0 0] 26)).drew) := (alloc1 wB _).drew
        refine hK.out _ _ ⟨cellOn x0 kk, cellOn x1 kk, cellOn x2 kk, cellOn x3 kk⟩ (fun hHeld => ?_)
        clear hK K
        have hkk := kk.size
        generalize (wB.alloc (.cells #[.string ⟨#[]⟩, .string ⟨#[]⟩, .bool false, .slice none 0 0, .slice none 0 0, .slice none 0 0] 26)).drew = wA at *
        refine wpAnyH_ready (rs := [10]) (by kernel_rfl) (by simp) ?_
        refine AllReadyH.cons (o := ⟨some 17, _, _, _, _, _⟩) rfl (fun K hK => ?_) AllReadyH.nil
        go_simp
        go_wp2_with (go_at_call 20; refine (HT _ kk).mono ?_; rintro e wT ⟨vT, rfl, ownT, bT⟩; obtain ⟨aT, cT, rfl⟩ := own_sl ownT)
        have kk := kk.trans (bT.mono kk.size)
        have ownT := own_low ownT hkk
        have BO := blk_on BO bT
        refine hK.out _ _ ⟨cellOn x0 kk, cellOn x1 kk, cellOn x2 kk, cellOn x3 kk⟩ (fun hHeld => ?_)
        clear hK K
        have hkk := kk.size
        refine wpAnyH_take (i := 11) (oi := ⟨some 18, _, _, _, _, _⟩) (v := ?_) rfl (by kernel_rfl) (by kernel_rfl) (by kernel_rfl) (fun _ _ _ h => h) (Or.inl ⟨by kernel_rfl, fun Wx hSw => ?_⟩) (by assumption) ?_
        rotate_left
        · ((try dsimp only at hSw); go_simp; try with_reducible rfl)
        simp only [Act.put, List.setIfInBounds_toArray, List.set_cons_zero, List.set_cons_succ]
        refine wpAnyH_ready (rs := [13]) (by kernel_rfl) (by simp) ?_
        refine AllReadyH.cons (o := ⟨none, _, _, _, _, _⟩) rfl (fun K hK => ?_) AllReadyH.nil
        rw [if_pos (by kernel_rfl)]
        refine wp_store_mid _ _ _ rfl wB.heap.size 0 #[.string (cutS nm 10), .string (cutS su 10), .bool fa, .slice aT (cutTs 6 im).length cT, .slice none 0 0, .slice none 0 0] rfl rfl (there_blk BO (by simp)) info6 (by simp [Value.oneCell']) ?_
        have hne := own_ne_blk ownT BO (by decide)
        have kk := below_sets hO #[.string (cutS nm 10), .string (cutS su 10), .bool fa, .slice aT (cutTs 6 im).length cT, .slice none 0 0, .slice none 0 0].toList 0 _ kk
        have BZ : (wT.setCells (wB.heap.size) 0 #[.string (cutS nm 10), .string (cutS su 10), .bool fa, .slice aT (cutTs 6 im).length cT, .slice none 0 0, .slice none 0 0].toList).heap[wB.heap.size]? = some (.cells #[.string (cutS nm 10), .string (cutS su 10), .bool fa, .slice aT (cutTs 6 im).length cT, .slice none 0 0, .slice none 0 0] 26 (0, 0)) := blk_sets6 BO _ _ _ _ _ _
        have ownZ := own_sets ownT hne #[.string (cutS nm 10), .string (cutS su 10), .bool fa, .slice aT (cutTs 6 im).length cT, .slice none 0 0, .slice none 0 0].toList 0
        refine hK.out _ _ ⟨cellOn x0 kk, cellOn x1 kk, cellOn x2 kk, cellOn x3 kk⟩ (fun hHeld => ?_)
        clear hK K
        generalize (wT.setCells (wB.heap.size) 0 #[.string (cutS nm 10), .string (cutS su 10), .bool fa, .slice aT (cutTs 6 im).length cT, .slice none 0 0, .slice none 0 0].toList) = wZ at *
        refine wpAnyH_done (by kernel_rfl) ?_ _
        clear hHeld BO ownT hne x0 x1 x2 x3 HT BM hvB
        have H3 : Hid _ := sl_texts (own_msk (p := pS) ownZ (by decide)) rfl (cutTs_small 6 im)
        clear ownZ
        go_wp2_with fail
        go_meet
        exact ⟨_, _, rfl, hO, BZ, H3.out, kk⟩
      refine AllReadyH.cons (o := ⟨some 3, _, _, _, _, _⟩) rfl (fun K hK => ?_) AllReadyH.nil
      go_simp
      have hO : wB.heap.size ≤ wB.heap.size := Nat.le_refl _
      have BO : ((wB.alloc (.cells #[.string ⟨#[]⟩, .string ⟨#[]⟩, .bool false, .slice none 0 0, .slice none 0 0, .slice none 0 0] 26)).drew).heap[wB.heap.size]? = some (.cells #[.string ⟨#[]⟩, .string ⟨#[]⟩, .bool false, .slice none 0 0, .slice none 0 0, .slice none 0 0] 26 (0, 0)) := blk_new wB _ _
      have kk : Below wB.heap.size wB ((wB.alloc (.cells #[.string ⟨#[]⟩, .string ⟨#[]⟩, .bool false, .slice none 0 0, .slice none 0 0, .slice none 0 0] 26)).drew) := (alloc1 wB _).drew
      refine hK.out _ _ ⟨cellOn x0 kk, cellOn x1 kk, cellOn x2 kk, cellOn x3 kk⟩ (fun hHeld => ?_)
      clear hK K
      have hkk := kk.size
      generalize (wB.alloc (.cells #[.string ⟨#[]⟩, .string ⟨#[]⟩, .bool false, .slice none 0 0, .slice none 0 0, .slice none 0 0] 26)).drew = wA at *
      refine wpAnyH_ready (rs := [5]) (by kernel_rfl) (by simp) ?_
      refine AllReadyH.cons (o := ⟨some 12, _, _, _, _, _⟩) rfl (fun K hK => ?_) AllReadyH.nil
      go_simp
      go_wp2_with (go_at_call 19; refine (cut_any su _ 10 10 rfl (by decide) s1).mono ?_; rintro e w' ⟨rfl, rfl⟩)
      refine hK.out _ _ (by assumption) (fun hHeld => ?_)
      clear hK K
      refine wpAnyH_ready (rs := [10]) (by kernel_rfl) (by simp) ?_
      refine AllReadyH.cons (o := ⟨some 17, _, _, _, _, _⟩) rfl (fun K hK => ?_) AllReadyH.nil
      go_simp
      go_wp2_with (go_at_call 20; refine (HT _ kk).mono ?_; rintro e wT ⟨vT, rfl, ownT, bT⟩; obtain ⟨aT, cT, rfl⟩ := own_sl ownT)
      have kk := kk.trans (bT.mono kk.size)
      have ownT := own_low ownT hkk
      have BO := blk_on BO bT
      refine hK.out _ _ ⟨cellOn x0 kk, cellOn x1 kk, cellOn x2 kk, cellOn x3 kk⟩ (fun hHeld => ?_)
      clear hK K
      have hkk := kk.size
      refine wpAnyH_take (i := 11) (oi := ⟨some 18, _, _, _, _, _⟩) (v := ?_) rfl (by kernel_rfl) (by kernel_rfl) (by kernel_rfl) (fun _ _ _ h => h) (Or.inl ⟨by kernel_rfl, fun Wx hSw => ?_⟩) (by assumption) ?_
      rotate_left
      · ((try dsimp only at hSw); go_simp; try with_reducible rfl)
      simp only [Act.put, List.setIfInBounds_toArray, List.set_cons_zero, List.set_cons_succ]
      refine wpAnyH_ready (rs := [13]) (by kernel_rfl) (by simp) ?_
      refine AllReadyH.cons (o := ⟨none, _, _, _, _, _⟩) rfl (fun K hK => ?_) AllReadyH.nil
      rw [if_pos (by kernel_rfl)]
      refine wp_store_mid _ _ _ rfl wB.heap.size 0 #[.string (cutS nm 10), .string (cutS su 10), .bool fa, .slice aT (cutTs 6 im).length cT, .slice none 0 0, .slice none 0 0] rfl rfl (there_blk BO (by simp)) info6 (by simp [Value.oneCell']) ?_
      have hne := own_ne_blk ownT BO (by decide)
      have kk := below_sets hO #[.string (cutS nm 10), .string (cutS su 10), .bool fa, .slice aT (cutTs 6 im).length cT, .slice none 0 0, .slice none 0 0].toList 0 _ kk
      have BZ : (wT.setCells (wB.heap.size) 0 #[.string (cutS nm 10), .string (cutS su 10), .bool fa, .slice aT (cutTs 6 im).length cT, .slice none 0 0, .slice none 0 0].toList).heap[wB.heap.size]? = some (.cells #[.string (cutS nm 10), .string (cutS su 10), .bool fa, .slice aT (cutTs 6 im).length cT, .slice none 0 0, .slice none 0 0] 26 (0, 0)) := blk_sets6 BO _ _ _ _ _ _
      have ownZ := own_sets ownT hne #[.string (cutS nm 10), .string (cutS su 10), .bool fa, .slice aT (cutTs 6 im).length cT, .slice none 0 0, .slice none 0 0].toList 0
      refine hK.out _ _ ⟨cellOn x0 kk, cellOn x1 kk, cellOn x2 kk, cellOn x3 kk⟩ (fun hHeld => ?_)
      clear hK K
      generalize (wT.setCells (wB.heap.size) 0 #[.string (cutS nm 10), .string (cutS su 10), .bool fa, .slice aT (cutTs 6 im).length cT, .slice none 0 0, .slice none 0 0].toList) = wZ at *
      refine wpAnyH_done (by kernel_rfl) ?_ _
      clear hHeld BO ownT hne x0 x1 x2 x3 HT BM hvB
      have H3 : Hid _ := sl_texts (own_msk (p := pS) ownZ (by decide)) rfl (cutTs_small 6 im)
      clear ownZ
      go_wp2_with fail
      go_meet
      exact ⟨_, _, rfl, hO, BZ, H3.out, kk⟩
    refine AllReadyH.cons (o := ⟨some 3, _, _, _, _, _⟩) rfl (fun K hK => ?_) AllReadyH.nil
    go_simp
    have hO : wB.heap.size ≤ wB.heap.size := Nat.le_refl _
    have BO : ((wB.alloc (.cells #[.string ⟨#[]⟩, .string ⟨#[]⟩, .bool false, .slice none 0 0, .slice none 0 0, .slice none 0 0] 26)).drew).heap[wB.heap.size]? = some (.cells #[.string ⟨#[]⟩, .string ⟨#[]⟩, .bool false, .slice none 0 0, .slice none 0 0, .slice none 0 0] 26 (0, 0)) := blk_new wB _ _
    have kk : Below wB.heap.size wB ((wB.alloc (.cells #[.string ⟨#[]⟩, .string ⟨#[]⟩, .bool false, .slice none 0 0, .slice none 0 0, .slice none 0 0] 26)).drew) := (alloc1 wB _).drew
    refine hK.out _ _ ⟨cellOn x0 kk, cellOn x1 kk, cellOn x2 kk, cellOn x3 kk⟩ (fun hHeld => ?_)
    clear hK K
    have hkk := kk.size
    generalize (wB.alloc (.cells #[.string ⟨#[]⟩, .string ⟨#[]⟩, .bool false, .slice none 0 0, .slice none 0 0, .slice none 0 0] 26)).drew = wA at *
    refine wpAnyH_ready (rs := [2]) (by kernel_rfl) (by simp) ?_
    refine AllReadyH.cons (o := ⟨some 9, _, _, _, _, _⟩) rfl (fun K hK => ?_) AllReadyH.nil
    go_simp
    go_wp2_with (go_at_call 19; refine (cut_any nm _ 10 10 rfl (by decide) s0).mono ?_; rintro e w' ⟨rfl, rfl⟩)
    refine hK.out _ _ (by assumption) (fun hHeld => ?_)
    clear hK K
    refine wpAnyH_ready (rs := [5]) (by kernel_rfl) (by simp) ?_
    refine AllReadyH.cons (o := ⟨some 12, _, _, _, _, _⟩) rfl (fun K hK => ?_) AllReadyH.nil
    go_simp
    go_wp2_with (go_at_call 19; refine (cut_any su _ 10 10 rfl (by decide) s1).mono ?_; rintro e w' ⟨rfl, rfl⟩)
    refine hK.out _ _ (by assumption) (fun hHeld => ?_)
    clear hK K
    refine wpAnyH_ready (rs := [10]) (by kernel_rfl) (by simp) ?_
    refine AllReadyH.cons (o := ⟨some 17, _, _, _, _, _⟩) rfl (fun K hK => ?_) AllReadyH.nil
    go_simp
    go_wp2_with (go_at_call 20; refine (HT _ kk).mono ?_; rintro e wT ⟨vT, rfl, ownT, bT⟩; obtain ⟨aT, cT, rfl⟩ := own_sl ownT)
    have kk := kk.trans (bT.mono kk.size)
    have ownT := own_low ownT hkk
    have BO := blk_on BO bT
    refine hK.out _ _ ⟨cellOn x0 kk, cellOn x1 kk, cellOn x2 kk, cellOn x3 kk⟩ (fun hHeld => ?_)
    clear hK K
    have hkk := kk.size
    refine wpAnyH_take (i := 11) (oi := ⟨some 18, _, _, _, _, _⟩) (v := ?_) rfl (by kernel_rfl) (by kernel_rfl) (by kernel_rfl) (fun _ _ _ h => h) (Or.inl ⟨by kernel_rfl, fun Wx hSw => ?_⟩) (by assumption) ?_
    rotate_left
    · ((try dsimp only at hSw); go_simp; try with_reducible rfl)
    simp only [Act.put, List.setIfInBounds_toArray, List.set_cons_zero, List.set_cons_succ]
    refine wpAnyH_ready (rs := [13]) (by kernel_rfl) (by simp) ?_
    refine AllReadyH.cons (o := ⟨none, _, _, _, _, _⟩) rfl (fun K hK => ?_) AllReadyH.nil
    rw [if_pos (by kernel_rfl)]
    refine wp_store_mid _ _ _ rfl wB.heap.size 0 #[.string (cutS nm 10), .string (cutS su 10), .bool fa, .slice aT (cutTs 6 im).length cT, .slice none 0 0, .slice none 0 0] rfl rfl (there_blk BO (by simp)) info6 (by simp [Value.oneCell']) ?_
    have hne := own_ne_blk ownT BO (by decide)
    have kk := below_sets hO #[.string (cutS nm 10), .string (cutS su 10), .bool fa, .slice aT (cutTs 6 im).length cT, .slice none 0 0, .slice none 0 0].toList 0 _ kk
    have BZ : (wT.setCells (wB.heap.size) 0 #[.string (cutS nm 10), .string (cutS su 10), .bool fa, .slice aT (cutTs 6 im).length cT, .slice none 0 0, .slice none 0 0].toList).heap[wB.heap.size]? = some (.cells #[.string (cutS nm 10), .string (cutS su 10), .bool fa, .slice aT (cutTs 6 im).length cT, .slice none 0 0, .slice none 0 0] 26 (0, 0)) := blk_sets6 BO _ _ _ _ _ _
    have ownZ := own_sets ownT hne #[.string (cutS nm 10), .string (cutS su 10), .bool fa, .slice aT (cutTs 6 im).length cT, .slice none 0 0, .slice none 0 0].toList 0
    refine hK.out _ _ ⟨cellOn x0 kk, cellOn x1 kk, cellOn x2 kk, cellOn x3 kk⟩ (fun hHeld => ?_)
    clear hK K
    generalize (wT.setCells (wB.heap.size) 0 #[.string (cutS nm 10), .string (cutS su 10), .bool fa, .slice aT (cutTs 6 im).length cT, .slice none 0 0, .slice none 0 0].toList) = wZ at *
    refine wpAnyH_done (by kernel_rfl) ?_ _
    clear hHeld BO ownT hne x0 x1 x2 x3 HT BM hvB
    have H3 : Hid _ := sl_texts (own_msk (p := pS) ownZ (by decide)) rfl (cutTs_small 6 im)
    clear ownZ
    go_wp2_with fail
    go_meet
    exact ⟨_, _, rfl, hO, BZ, H3.out, kk⟩
  case rest =>
  obtain ⟨O, v3, rfl, hO, BO, h3, kC⟩ := hcut
  obtain ⟨wC, hwC⟩ : ∃ x, x = wc := ⟨_, rfl⟩
  subst hwC
  have hlt0 := lt_of_block BM
  have y4 := blk_cell BM 4
  have y5 := blk_cell BM 5
  simp only [List.getElem?_toArray, List.getElem?_cons_zero, List.getElem?_cons_succ] at y4 y5
  have HV : Hid _ := hvB
  have H3 : Hid _ := h3
  have hfs : fs.length ≤ 9223372036854775807 := by obtain ⟨_, _, e, h1, h2, _⟩ := hvB.fields; simp only at h1; unfold maxLen at h2; omega
  have hms : ms.length ≤ 9223372036854775807 := by obtain ⟨_, _, e, h1, h2, _⟩ := hvB.methods; simp only at h1; unfold maxLen at h2; omega
  clear h3 BM hvB hv s0 s1
  apply_assumption
  refine wp_seq_k (fun K2 hK2 => ?_)
  go_cut [4, 5] (fun s4 s5 wc => ∃ (v4 : Value), wc.heap[O]? = some (.cells #[.string (cutS nm 10), .string (cutS su 10), .bool fa, v3, v4, .slice none 0 0] 26 (0, 0)) ∧ Sl strE 1 (msk pS wc) v3 (cutTs 6 im) ∧ wc.ownsRow wB.heap.size 40 3 v4 ((fs.take 10).map cutF).length (((fs.take 10).map cutF).flatMap fcl) ∧ Below wB.heap.size wB wc)
  case first =>
    go_wp2_with fail
    go_loopw [4, 5] (fun i s5 wr => ∃ (k : Nat) (v4 : Value), k ≤ fs.length ∧ k ≤ 10 ∧ i = .int .i64 k ∧ wr.heap[O]? = some (.cells #[.string (cutS nm 10), .string (cutS su 10), .bool fa, v3, v4, .slice none 0 0] 26 (0, 0)) ∧ wr.ownsRow wB.heap.size 40 3 v4 k (((fs.take k).map cutF).flatMap fcl) ∧ Ext (msk pS wC) (msk pS wr) ∧ Below wB.heap.size wB wr) (fun i _ _ => fs.length - (intOf i).toNat)
    case atStart => exact ⟨0, _, by omega, by omega, rfl, BO, World.ownsRow_nil _ _ _ _, Ext.refl _, kC⟩
    case round =>
      clear BO
      obtain ⟨k, v4, hk, hkn, rfl, BO, own, ex, hbel⟩ := hrel
      have x4 := cellOn y4 hbel
      by_cases hlk : k < fs.length
      case pos =>
        by_cases hln : k < 10
        case pos =>
          have d1 : decide ((k : Int) < (fs.length : Int)) = true := by simp; omega
          have d3 : decide (k < fs.length) = true := by simp; omega
          have d2 : decide ((k : Int) < 10) = true := by simp; omega
          have d4 : decide (k < 10) = true := by simp; omega
          obtain ⟨aa, cc, ev, _, _, _, hx9⟩ := HV.out.fields
          simp only [Value.slice.injEq, true_and] at ev
          obtain ⟨rfl, rfl⟩ := ev
          obtain ⟨b9, off9, rfl, _, hx9⟩ := hx9 (by simp only; omega)
          obtain ⟨g0, g1, g2, hc0, hc1⟩ := hx9 k hlk
          have HS : Hid _ := map_succ cutF hlk
          clear hx9
          generalize fs[k] = X at *
          have g0 := cellOn g0 hbel
          have g1 := cellOn g1 hbel
          have g2 := cellOn g2 hbel
          have fb := alloc1 wr (.cells #[.string X.name, .string X.type, .bool X.static] 40)
          have BF0 := blk_new wr #[.string X.name, .string X.type, .bool X.static] 40
          have hgF : some wr.heap.size ≠ v4.ownBlock := fun e => by have := (own.lt _ e.symm).2; omega
          have hOF : wr.heap.size ≠ O := by have := lt_of_block BO; omega
          go_upto_region 6 with fail
          clear d1 d2 d3 d4 x4 g0 g1 g2
          have kr : Below wr.heap.size wr (wr.alloc (.cells #[.string X.name, .string X.type, .bool X.static] 40)).drew := fb.drew
          have kk := hbel.trans (kr.mono hbel.size)
          have BO := blk_on BO kr
          have own := own_later own kr
          have ex := ex.trans (ext_below kr)
          have BF : (wr.alloc (.cells #[.string X.name, .string X.type, .bool X.static] 40)).drew.heap[wr.heap.size]? = some (.cells #[.string X.name, .string X.type, .bool X.static] 40 (0, 0)) := BF0
          have z := blk_cell BO 4
          simp only [List.getElem?_toArray, List.getElem?_cons_zero, List.getElem?_cons_succ] at z
          refine wp_region_held_drew (S := fun W' => W'.cell? ⟨wr.heap.size, 0, none⟩ = some (.string X.name) ∧ W'.cell? ⟨wr.heap.size, 1, none⟩ = some (.string X.type) ∧ W'.cell? ⟨wr.heap.size, 2, none⟩ = some (.bool X.static)) (by kernel_rfl) ⟨blk_cell BF 0, blk_cell BF 1, blk_cell BF 2⟩ (fun hHeld => ?_)
          generalize (wr.alloc (.cells #[.string X.name, .string X.type, .bool X.static] 40)).drew = wX at *
          clear hbel kr fb BF0
          generalize wr.heap.size = F at *
          refine wpAnyH_take (i := 0) (oi := ⟨some 35, _, _, _, _, _⟩) (v := ?_) rfl (by kernel_rfl) (by kernel_rfl) (by kernel_rfl) (fun _ _ _ h => h) (Or.inl ⟨by kernel_rfl, fun Wx hSw => ?_⟩) (by assumption) ?_
          rotate_left
          · ((try dsimp only at hSw); go_simp; try with_reducible rfl)
          simp only [Act.put, List.setIfInBounds_toArray, List.set_cons_zero, List.set_cons_succ]
          refine wpAnyH_take (i := 2) (oi := ⟨some 37, _, _, _, _, _⟩) (v := ?_) rfl (by kernel_rfl) (by kernel_rfl) (by kernel_rfl) (fun _ _ _ h => h) (Or.inl ⟨by kernel_rfl, fun Wx hSw => ?_⟩) (by assumption) ?_
          rotate_left
          · ((try dsimp only at hSw); go_simp; try with_reducible rfl)
          simp only [Act.put, List.setIfInBounds_toArray, List.set_cons_zero, List.set_cons_succ]
          refine wpAnyH_take (i := 3) (oi := ⟨some 38, _, _, _, _, _⟩) (v := ?_) rfl (by kernel_rfl) (by kernel_rfl) (by kernel_rfl) (fun _ _ _ h => h) (Or.inl ⟨by kernel_rfl, fun Wx hSw => ?_⟩) (by assumption) ?_
          rotate_left
          · ((try dsimp only at hSw); go_simp; try with_reducible rfl)
          simp only [Act.put, List.setIfInBounds_toArray, List.set_cons_zero, List.set_cons_succ]
          refine wpAnyH_take (i := 5) (oi := ⟨some 40, _, _, _, _, _⟩) (v := ?_) rfl (by kernel_rfl) (by kernel_rfl) (by kernel_rfl) (fun _ _ _ h => h) (Or.inl ⟨by kernel_rfl, fun Wx hSw => ?_⟩) (by assumption) ?_
          rotate_left
          · ((try dsimp only at hSw); go_simp; try with_reducible rfl)
          simp only [Act.put, List.setIfInBounds_toArray, List.set_cons_zero, List.set_cons_succ]
          refine wpAnyH_take (i := 6) (oi := ⟨some 41, _, _, _, _, _⟩) (v := ?_) rfl (by kernel_rfl) (by kernel_rfl) (by kernel_rfl) (fun _ _ _ h => h) (Or.inl ⟨by kernel_rfl, fun Wx hSw => ?_⟩) (by assumption) ?_
          rotate_left
          · ((try dsimp only at hSw); go_simp; try with_reducible rfl)
          simp only [Act.put, List.setIfInBounds_toArray, List.set_cons_zero, List.set_cons_succ]
          refine wpAnyH_take (i := 8) (oi := ⟨some 43, _, _, _, _, _⟩) (v := ?_) rfl (by kernel_rfl) (by kernel_rfl) (by kernel_rfl) (fun _ _ _ h => h) (Or.inl ⟨by kernel_rfl, fun Wx hSw => ?_⟩) (by assumption) ?_
          rotate_left
          · ((try dsimp only at hSw); go_simp; try with_reducible rfl)
          simp only [Act.put, List.setIfInBounds_toArray, List.set_cons_zero, List.set_cons_succ]
          refine wpAnyH_take (i := 9) (oi := ⟨some 44, _, _, _, _, _⟩) (v := ?_) rfl (by kernel_rfl) (by kernel_rfl) (by kernel_rfl) (fun _ _ _ h => h) (Or.inl ⟨by kernel_rfl, fun Wx hSw => ?_⟩) (by assumption) ?_
          rotate_left
          · ((try dsimp only at hSw); go_simp; try with_reducible rfl)
          simp only [Act.put, List.setIfInBounds_toArray, List.set_cons_zero, List.set_cons_succ]
          refine wpAnyH_ready (rs := [1, 4]) (by kernel_rfl) (by simp) ?_
          refine AllReadyH.cons (o := ⟨some 36, _, _, _, _, _⟩) rfl (fun K hK => ?_) ?_
          · go_simp
            refine hK.out _ _ (by assumption) (fun hHeld => ?_)
            clear hK K
            refine wpAnyH_ready (rs := [4]) (by kernel_rfl) (by simp) ?_
            refine AllReadyH.cons (o := ⟨some 39, _, _, _, _, _⟩) rfl (fun K hK => ?_) AllReadyH.nil
            go_simp
            go_wp2_with (go_at_call 19; refine (cut_any X.name _ 10 10 rfl (by decide) hc0).mono ?_; rintro e w' ⟨rfl, rfl⟩)
            refine hK.out _ _ (by assumption) (fun hHeld => ?_)
            clear hK K
            refine wpAnyH_ready (rs := [7]) (by kernel_rfl) (by simp) ?_
            refine AllReadyH.cons (o := ⟨some 42, _, _, _, _, _⟩) rfl (fun K hK => ?_) AllReadyH.nil
            go_simp
            go_wp2_with (go_at_call 19; refine (cut_any X.type _ 12 12 rfl (by decide) hc1).mono ?_; rintro e w' ⟨rfl, rfl⟩)
            refine hK.out _ _ (by assumption) (fun hHeld => ?_)
            clear hK K
            refine wpAnyH_take (i := 10) (oi := ⟨some 45, _, _, _, _, _⟩) (v := ?_) rfl (by kernel_rfl) (by kernel_rfl) (by kernel_rfl) (fun _ _ _ h => h) (Or.inl ⟨by kernel_rfl, fun Wx hSw => ?_⟩) (by assumption) ?_
            rotate_left
            · ((try dsimp only at hSw); go_simp; try with_reducible rfl)
            simp only [Act.put, List.setIfInBounds_toArray, List.set_cons_zero, List.set_cons_succ]
            refine wpAnyH_ready (rs := [11]) (by kernel_rfl) (by simp) ?_
            refine AllReadyH.cons (o := ⟨some 46, _, _, _, _, _⟩) rfl (fun K hK => ?_) AllReadyH.nil
            go_simp
            have b6 := alloc1 wX (.cells #[.string (cutS X.name 10), .string (cutS X.type 12), .bool X.static] 40)
            have hnews : ∀ (j : Nat) (u : Value), (fcl (cutF X))[j]? = some u → (wX.alloc (.cells #[.string (cutS X.name 10), .string (cutS X.type 12), .bool X.static] 40)).cell? ((⟨wX.heap.size, 0, none⟩ : Addr).add j) = some u := news_lit wX (fcl (cutF X)) 40
            have kk := kk.trans (b6.mono kk.size)
            have BO := blk_on BO b6
            have own := own_later own b6
            have ex := ex.trans (ext_below b6)
            have z := blk_cell BO 4
            simp only [List.getElem?_toArray, List.getElem?_cons_zero, List.getElem?_cons_succ] at z
            have BF := blk_on BF b6
            refine hK.out _ _ ⟨blk_cell BF 0, blk_cell BF 1, blk_cell BF 2⟩ (fun hHeld => ?_)
            clear hK K
            generalize wX.alloc (.cells #[.string (cutS X.name 10), .string (cutS X.type 12), .bool X.static] 40) = w6 at *
            have hB6 := kk.size
            clear b6
            refine wpAnyH_ready (rs := [12]) (by kernel_rfl) (by simp) ?_
            refine AllReadyH.cons (o := ⟨some 47, _, _, _, _, _⟩) rfl (fun K hK => ?_) AllReadyH.nil
            have hne := own_ne_blk own BO (by decide)
            have hlow := fun g e => (own.lt g e).1
            refine step_append_lies _ rfl (.tmp 36) (.tmp 46) 23 rfl wB.heap.size 40 iF (.agg #[.string ⟨#[]⟩, .string ⟨#[]⟩, .bool false]) 3 40 Tryz.underlying23 hiF hzF0 hzF1 hzF2 rfl (by decide) v4 k _ rfl own ⟨wX.heap.size, 0, none⟩ 1 1 (fcl (cutF X)) rfl rfl hnews (one_fcl _) (by decide) (by unfold maxLen; omega) (by omega) hB6 _ rfl ?_
            intro g' cap' w7 own7 g7 hat hlt
            have kk := kk.grown g7 hB6 hlow
            have BO := blk_grown BO g7 hne
            have ex := ex.trans (ext_grown own (by decide) g7)
            have BF := blk_grown BF g7 hgF
            have z := blk_cell BO 4
            simp only [List.getElem?_toArray, List.getElem?_cons_zero, List.getElem?_cons_succ] at z
            have zf := blk_free BO 4
            refine hK.out _ _ ⟨blk_cell BF 0, blk_cell BF 1, blk_cell BF 2⟩ (fun hHeld => ?_)
            clear hK K
            clear own hnews g7 hne hlow
            refine wpAnyH_take (i := 13) (oi := ⟨some 48, _, _, _, _, _⟩) (v := ?_) rfl (by kernel_rfl) (by kernel_rfl) (by kernel_rfl) (fun _ _ _ h => h) (Or.inl ⟨by kernel_rfl, fun Wx hSw => ?_⟩) (by assumption) ?_
            rotate_left
            · ((try dsimp only at hSw); go_simp; try with_reducible rfl)
            simp only [Act.put, List.setIfInBounds_toArray, List.set_cons_zero, List.set_cons_succ]
            refine wpAnyH_ready (rs := [14]) (by kernel_rfl) (by simp) ?_
            refine AllReadyH.cons (o := ⟨none, _, _, _, _, _⟩) rfl (fun K hK => ?_) AllReadyH.nil
            go_simp
            have BO5 : (w7.setCell ⟨O, 4, none⟩ (.slice (some ⟨g', 0, none⟩) (k + 1) cap')).heap[O]? = some (.cells #[.string (cutS nm 10), .string (cutS su 10), .bool fa, v3, (.slice (some ⟨g', 0, none⟩) (k + 1) cap'), .slice none 0 0] 26 (0, 0)) := blk_set BO 4 _
            have own := ownsRow_setCell_other own7 (a := ⟨O, 4, none⟩) (fun e => own_ne_blk own7 BO (by decide) e.symm) (.slice (some ⟨g', 0, none⟩) (k + 1) cap')
            have kk := kk.setCell (p := ⟨O, 4, none⟩) hO (.slice (some ⟨g', 0, none⟩) (k + 1) cap')
            have ex := ex.trans (ext_set BO (by decide) 4 (.slice (some ⟨g', 0, none⟩) (k + 1) cap'))
            have BF := (Below.heap_setCell w7 ⟨O, 4, none⟩ (.slice (some ⟨g', 0, none⟩) (k + 1) cap') F hOF).trans BF
            refine hK.out _ _ ⟨blk_cell BF 0, blk_cell BF 1, blk_cell BF 2⟩ (fun hHeld => ?_)
            clear hK K
            generalize w7.setCell ⟨O, 4, none⟩ (.slice (some ⟨g', 0, none⟩) (k + 1) cap') = w8 at *
            clear own7 BO z zf
            refine wpAnyH_done (by kernel_rfl) ?_ _
            clear hHeld y4 y5
            have e4 : ((fs.take k).map cutF).flatMap fcl ++ fcl (cutF X) = ((fs.take (k + 1)).map cutF).flatMap fcl := by rw [HS.out, List.flatMap_append]; simp
            rw [e4] at own
            go_wp2_with fail
            go_roundw
            case rel => exact ⟨k + 1, _, by omega, by omega, by go_num, BO5, own, ex, kk⟩
            case measure => simp [intOf]; omega
          refine AllReadyH.cons (o := ⟨some 39, _, _, _, _, _⟩) rfl (fun K hK => ?_) AllReadyH.nil
          go_simp
          go_wp2_with (go_at_call 19; refine (cut_any X.name _ 10 10 rfl (by decide) hc0).mono ?_; rintro e w' ⟨rfl, rfl⟩)
          refine hK.out _ _ (by assumption) (fun hHeld => ?_)
          clear hK K
          refine wpAnyH_ready (rs := [1, 7]) (by kernel_rfl) (by simp) ?_
          refine AllReadyH.cons (o := ⟨some 36, _, _, _, _, _⟩) rfl (fun K hK => ?_) ?_
          · go_simp
            refine hK.out _ _ (by assumption) (fun hHeld => ?_)
            clear hK K
            refine wpAnyH_ready (rs := [7]) (by kernel_rfl) (by simp) ?_
            refine AllReadyH.cons (o := ⟨some 42, _, _, _, _, _⟩) rfl (fun K hK => ?_) AllReadyH.nil
            go_simp
            go_wp2_with (go_at_call 19; refine (cut_any X.type _ 12 12 rfl (by decide) hc1).mono ?_; rintro e w' ⟨rfl, rfl⟩)
            refine hK.out _ _ (by assumption) (fun hHeld => ?_)
            clear hK K
            refine wpAnyH_take (i := 10) (oi := ⟨some 45, _, _, _, _, _⟩) (v := ?_) rfl (by kernel_rfl) (by kernel_rfl) (by kernel_rfl) (fun _ _ _ h => h) (Or.inl ⟨by kernel_rfl, fun Wx hSw => ?_⟩) (by assumption) ?_
            rotate_left
            · ((try dsimp only at hSw); go_simp; try with_reducible rfl)
            simp only [Act.put, List.setIfInBounds_toArray, List.set_cons_zero, List.set_cons_succ]
            refine wpAnyH_ready (rs := [11]) (by kernel_rfl) (by simp) ?_
            refine AllReadyH.cons (o := ⟨some 46, _, _, _, _, _⟩) rfl (fun K hK => ?_) AllReadyH.nil
            go_simp
            have b6 := alloc1 wX (.cells #[.string (cutS X.name 10), .string (cutS X.type 12), .bool X.static] 40)
            have hnews : ∀ (j : Nat) (u : Value), (fcl (cutF X))[j]? = some u → (wX.alloc (.cells #[.string (cutS X.name 10), .string (cutS X.type 12), .bool X.static] 40)).cell? ((⟨wX.heap.size, 0, none⟩ : Addr).add j) = some u := news_lit wX (fcl (cutF X)) 40
            have kk := kk.trans (b6.mono kk.size)
            have BO := blk_on BO b6
            have own := own_later own b6
            have ex := ex.trans (ext_below b6)
            have z := blk_cell BO 4
            simp only [List.getElem?_toArray, List.getElem?_cons_zero, List.getElem?_cons_succ] at z
            have BF := blk_on BF b6
            refine hK.out _ _ ⟨blk_cell BF 0, blk_cell BF 1, blk_cell BF 2⟩ (fun hHeld => ?_)
            clear hK K
            generalize wX.alloc (.cells #[.string (cutS X.name 10), .string (cutS X.type 12), .bool X.static] 40) = w6 at *
            have hB6 := kk.size
            clear b6
            refine wpAnyH_ready (rs := [12]) (by kernel_rfl) (by simp) ?_
            refine AllReadyH.cons (o := ⟨some 47, _, _, _, _, _⟩) rfl (fun K hK => ?_) AllReadyH.nil
            have hne := own_ne_blk own BO (by decide)
            have hlow := fun g e => (own.lt g e).1
            refine step_append_lies _ rfl (.tmp 36) (.tmp 46) 23 rfl wB.heap.size 40 iF (.agg #[.string ⟨#[]⟩, .string ⟨#[]⟩, .bool false]) 3 40 Tryz.underlying23 hiF hzF0 hzF1 hzF2 rfl (by decide) v4 k _ rfl own ⟨wX.heap.size, 0, none⟩ 1 1 (fcl (cutF X)) rfl rfl hnews (one_fcl _) (by decide) (by unfold maxLen; omega) (by omega) hB6 _ rfl ?_
            intro g' cap' w7 own7 g7 hat hlt
            have kk := kk.grown g7 hB6 hlow
            have BO := blk_grown BO g7 hne
            have ex := ex.trans (ext_grown own (by decide) g7)
            have BF := blk_grown BF g7 hgF
            have z := blk_cell BO 4
            simp only [List.getElem?_toArray, List.getElem?_cons_zero, List.getElem?_cons_succ] at z
            have zf := blk_free BO 4
            refine hK.out _ _ ⟨blk_cell BF 0, blk_cell BF 1, blk_cell BF 2⟩ (fun hHeld => ?_)
            clear hK K
            clear own hnews g7 hne hlow
            refine wpAnyH_take (i := 13) (oi := ⟨some 48, _, _, _, _, _⟩) (v := ?_) rfl (by kernel_rfl) (by kernel_rfl) (by kernel_rfl) (fun _ _ _ h => h) (Or.inl ⟨by kernel_rfl, fun Wx hSw => ?_⟩) (by assumption) ?_
            rotate_left
            · ((try dsimp only at hSw); go_simp; try with_reducible rfl)
            simp only [Act.put, List.setIfInBounds_toArray, List.set_cons_zero, List.set_cons_succ]
            refine wpAnyH_ready (rs := [14]) (by kernel_rfl) (by simp) ?_
            refine AllReadyH.cons (o := ⟨none, _, _, _, _, _⟩) rfl (fun K hK => ?_) AllReadyH.nil
            go_simp
            have BO5 : (w7.setCell ⟨O, 4, none⟩ (.slice (some ⟨g', 0, none⟩) (k + 1) cap')).heap[O]? = some (.cells #[.string (cutS nm 10), .string (cutS su 10), .bool fa, v3, (.slice (some ⟨g', 0, none⟩) (k + 1) cap'), .slice none 0 0] 26 (0, 0)) := blk_set BO 4 _
            have own := ownsRow_setCell_other own7 (a := ⟨O, 4, none⟩) (fun e => own_ne_blk own7 BO (by decide) e.symm) (.slice (some ⟨g', 0, none⟩) (k + 1) cap')
            have kk := kk.setCell (p := ⟨O, 4, none⟩) hO (.slice (some ⟨g', 0, none⟩) (k + 1) cap')
            have ex := ex.trans (ext_set BO (by decide) 4 (.slice (some ⟨g', 0, none⟩) (k + 1) cap'))
            have BF := (Below.heap_setCell w7 ⟨O, 4, none⟩ (.slice (some ⟨g', 0, none⟩) (k + 1) cap') F hOF).trans BF
            refine hK.out _ _ ⟨blk_cell BF 0, blk_cell BF 1, blk_cell BF 2⟩ (fun hHeld => ?_)
            clear hK K
            generalize w7.setCell ⟨O, 4, none⟩ (.slice (some ⟨g', 0, none⟩) (k + 1) cap') = w8 at *
            clear own7 BO z zf
            refine wpAnyH_done (by kernel_rfl) ?_ _
            clear hHeld y4 y5
            have e4 : ((fs.take k).map cutF).flatMap fcl ++ fcl (cutF X) = ((fs.take (k + 1)).map cutF).flatMap fcl := by rw [HS.out, List.flatMap_append]; simp
            rw [e4] at own
            go_wp2_with fail
            go_roundw
            case rel => exact ⟨k + 1, _, by omega, by omega, by go_num, BO5, own, ex, kk⟩
            case measure => simp [intOf]; omega
          refine AllReadyH.cons (o := ⟨some 42, _, _, _, _, _⟩) rfl (fun K hK => ?_) AllReadyH.nil
          go_simp
          go_wp2_with (go_at_call 19; refine (cut_any X.type _ 12 12 rfl (by decide) hc1).mono ?_; rintro e w' ⟨rfl, rfl⟩)
          refine hK.out _ _ (by assumption) (fun hHeld => ?_)
          clear hK K
          refine wpAnyH_take (i := 10) (oi := ⟨some 45, _, _, _, _, _⟩) (v := ?_) rfl (by kernel_rfl) (by kernel_rfl) (by kernel_rfl) (fun _ _ _ h => h) (Or.inl ⟨by kernel_rfl, fun Wx hSw => ?_⟩) (by assumption) ?_
          rotate_left
          · ((try dsimp only at hSw); go_simp; try with_reducible rfl)
          simp only [Act.put, List.setIfInBounds_toArray, List.set_cons_zero, List.set_cons_succ]
          refine wpAnyH_ready (rs := [1, 11]) (by kernel_rfl) (by simp) ?_
          refine AllReadyH.cons (o := ⟨some 36, _, _, _, _, _⟩) rfl (fun K hK => ?_) ?_
          · go_simp
            refine hK.out _ _ (by assumption) (fun hHeld => ?_)
            clear hK K
            refine wpAnyH_ready (rs := [11]) (by kernel_rfl) (by simp) ?_
            refine AllReadyH.cons (o := ⟨some 46, _, _, _, _, _⟩) rfl (fun K hK => ?_) AllReadyH.nil
            go_simp
            have b6 := alloc1 wX (.cells #[.string (cutS X.name 10), .string (cutS X.type 12), .bool X.static] 40)
            have hnews : ∀ (j : Nat) (u : Value), (fcl (cutF X))[j]? = some u → (wX.alloc (.cells #[.string (cutS X.name 10), .string (cutS X.type 12), .bool X.static] 40)).cell? ((⟨wX.heap.size, 0, none⟩ : Addr).add j) = some u := news_lit wX (fcl (cutF X)) 40
            have kk := kk.trans (b6.mono kk.size)
            have BO := blk_on BO b6
            have own := own_later own b6
            have ex := ex.trans (ext_below b6)
            have z := blk_cell BO 4
            simp only [List.getElem?_toArray, List.getElem?_cons_zero, List.getElem?_cons_succ] at z
            have BF := blk_on BF b6
            refine hK.out _ _ ⟨blk_cell BF 0, blk_cell BF 1, blk_cell BF 2⟩ (fun hHeld => ?_)
            clear hK K
            generalize wX.alloc (.cells #[.string (cutS X.name 10), .string (cutS X.type 12), .bool X.static] 40) = w6 at *
            have hB6 := kk.size
            clear b6
            refine wpAnyH_ready (rs := [12]) (by kernel_rfl) (by simp) ?_
            refine AllReadyH.cons (o := ⟨some 47, _, _, _, _, _⟩) rfl (fun K hK => ?_) AllReadyH.nil
            have hne := own_ne_blk own BO (by decide)
            have hlow := fun g e => (own.lt g e).1
            refine step_append_lies _ rfl (.tmp 36) (.tmp 46) 23 rfl wB.heap.size 40 iF (.agg #[.string ⟨#[]⟩, .string ⟨#[]⟩, .bool false]) 3 40 Tryz.underlying23 hiF hzF0 hzF1 hzF2 rfl (by decide) v4 k _ rfl own ⟨wX.heap.size, 0, none⟩ 1 1 (fcl (cutF X)) rfl rfl hnews (one_fcl _) (by decide) (by unfold maxLen; omega) (by omega) hB6 _ rfl ?_
            intro g' cap' w7 own7 g7 hat hlt
            have kk := kk.grown g7 hB6 hlow
            have BO := blk_grown BO g7 hne
            have ex := ex.trans (ext_grown own (by decide) g7)
            have BF := blk_grown BF g7 hgF
            have z := blk_cell BO 4
            simp only [List.getElem?_toArray, List.getElem?_cons_zero, List.getElem?_cons_succ] at z
            have zf := blk_free BO 4
            refine hK.out _ _ ⟨blk_cell BF 0, blk_cell BF 1, blk_cell BF 2⟩ (fun hHeld => ?_)
            clear hK K
            clear own hnews g7 hne hlow
            refine wpAnyH_take (i := 13) (oi := ⟨some 48, _, _, _, _, _⟩) (v := ?_) rfl (by kernel_rfl) (by kernel_rfl) (by kernel_rfl) (fun _ _ _ h => h) (Or.inl ⟨by kernel_rfl, fun Wx hSw => ?_⟩) (by assumption) ?_
            rotate_left
            · ((try dsimp only at hSw); go_simp; try with_reducible rfl)
            simp only [Act.put, List.setIfInBounds_toArray, List.set_cons_zero, List.set_cons_succ]
            refine wpAnyH_ready (rs := [14]) (by kernel_rfl) (by simp) ?_
            refine AllReadyH.cons (o := ⟨none, _, _, _, _, _⟩) rfl (fun K hK => ?_) AllReadyH.nil
            go_simp
            have BO5 : (w7.setCell ⟨O, 4, none⟩ (.slice (some ⟨g', 0, none⟩) (k + 1) cap')).heap[O]? = some (.cells #[.string (cutS nm 10), .string (cutS su 10), .bool fa, v3, (.slice (some ⟨g', 0, none⟩) (k + 1) cap'), .slice none 0 0] 26 (0, 0)) := blk_set BO 4 _
            have own := ownsRow_setCell_other own7 (a := ⟨O, 4, none⟩) (fun e => own_ne_blk own7 BO (by decide) e.symm) (.slice (some ⟨g', 0, none⟩) (k + 1) cap')
            have kk := kk.setCell (p := ⟨O, 4, none⟩) hO (.slice (some ⟨g', 0, none⟩) (k + 1) cap')
            have ex := ex.trans (ext_set BO (by decide) 4 (.slice (some ⟨g', 0, none⟩) (k + 1) cap'))
            have BF := (Below.heap_setCell w7 ⟨O, 4, none⟩ (.slice (some ⟨g', 0, none⟩) (k + 1) cap') F hOF).trans BF
            refine hK.out _ _ ⟨blk_cell BF 0, blk_cell BF 1, blk_cell BF 2⟩ (fun hHeld => ?_)
            clear hK K
            generalize w7.setCell ⟨O, 4, none⟩ (.slice (some ⟨g', 0, none⟩) (k + 1) cap') = w8 at *
            clear own7 BO z zf
            refine wpAnyH_done (by kernel_rfl) ?_ _
            clear hHeld y4 y5
            have e4 : ((fs.take k).map cutF).flatMap fcl ++ fcl (cutF X) = ((fs.take (k + 1)).map cutF).flatMap fcl := by rw [HS.out, List.flatMap_append]; simp
            rw [e4] at own
            go_wp2_with fail
            go_roundw
            case rel => exact ⟨k + 1, _, by omega, by omega, by go_num, BO5, own, ex, kk⟩
            case measure => simp [intOf]; omega
          refine AllReadyH.cons (o := ⟨some 46, _, _, _, _, _⟩) rfl (fun K hK => ?_) AllReadyH.nil
          go_simp
          have b6 := alloc1 wX (.cells #[.string (cutS X.name 10), .string (cutS X.type 12), .bool X.static] 40)
          have hnews : ∀ (j : Nat) (u : Value), (fcl (cutF X))[j]? = some u → (wX.alloc (.cells #[.string (cutS X.name 10), .string (cutS X.type 12), .bool X.static] 40)).cell? ((⟨wX.heap.size, 0, none⟩ : Addr).add j) = some u := news_lit wX (fcl (cutF X)) 40
          have kk := kk.trans (b6.mono kk.size)
          have BO := blk_on BO b6
          have own := own_later own b6
          have ex := ex.trans (ext_below b6)
          have z := blk_cell BO 4
          simp only [List.getElem?_toArray, List.getElem?_cons_zero, List.getElem?_cons_succ] at z
          have BF := blk_on BF b6
          refine hK.out _ _ ⟨blk_cell BF 0, blk_cell BF 1, blk_cell BF 2⟩ (fun hHeld => ?_)
          clear hK K
          generalize wX.alloc (.cells #[.string (cutS X.name 10), .string (cutS X.type 12), .bool X.static] 40) = w6 at *
          have hB6 := kk.size
          clear b6
          refine wpAnyH_ready (rs := [1]) (by kernel_rfl) (by simp) ?_
          refine AllReadyH.cons (o := ⟨some 36, _, _, _, _, _⟩) rfl (fun K hK => ?_) AllReadyH.nil
          go_simp
          refine hK.out _ _ (by assumption) (fun hHeld => ?_)
          clear hK K
          refine wpAnyH_ready (rs := [12]) (by kernel_rfl) (by simp) ?_
          refine AllReadyH.cons (o := ⟨some 47, _, _, _, _, _⟩) rfl (fun K hK => ?_) AllReadyH.nil
          have hne := own_ne_blk own BO (by decide)
          have hlow := fun g e => (own.lt g e).1
          refine step_append_lies _ rfl (.tmp 36) (.tmp 46) 23 rfl wB.heap.size 40 iF (.agg #[.string ⟨#[]⟩, .string ⟨#[]⟩, .bool false]) 3 40 Tryz.underlying23 hiF hzF0 hzF1 hzF2 rfl (by decide) v4 k _ rfl own ⟨wX.heap.size, 0, none⟩ 1 1 (fcl (cutF X)) rfl rfl hnews (one_fcl _) (by decide) (by unfold maxLen; omega) (by omega) hB6 _ rfl ?_
          intro g' cap' w7 own7 g7 hat hlt
          have kk := kk.grown g7 hB6 hlow
          have BO := blk_grown BO g7 hne
          have ex := ex.trans (ext_grown own (by decide) g7)
          have BF := blk_grown BF g7 hgF
          have z := blk_cell BO 4
          simp only [List.getElem?_toArray, List.getElem?_cons_zero, List.getElem?_cons_succ] at z
          have zf := blk_free BO 4
          refine hK.out _ _ ⟨blk_cell BF 0, blk_cell BF 1, blk_cell BF 2⟩ (fun hHeld => ?_)
          clear hK K
          clear own hnews g7 hne hlow
          refine wpAnyH_take (i := 13) (oi := ⟨some 48, _, _, _, _, _⟩) (v := ?_) rfl (by kernel_rfl) (by kernel_rfl) (by kernel_rfl) (fun _ _ _ h => h) (Or.inl ⟨by kernel_rfl, fun Wx hSw => ?_⟩) (by assumption) ?_
          rotate_left
          · ((try dsimp only at hSw); go_simp; try with_reducible rfl)
          simp only [Act.put, List.setIfInBounds_toArray, List.set_cons_zero, List.set_cons_succ]
          refine wpAnyH_ready (rs := [14]) (by kernel_rfl) (by simp) ?_
          refine AllReadyH.cons (o := ⟨none, _, _, _, _, _⟩) rfl (fun K hK => ?_) AllReadyH.nil
          go_simp
          have BO5 : (w7.setCell ⟨O, 4, none⟩ (.slice (some ⟨g', 0, none⟩) (k + 1) cap')).heap[O]? = some (.cells #[.string (cutS nm 10), .string (cutS su 10), .bool fa, v3, (.slice (some ⟨g', 0, none⟩) (k + 1) cap'), .slice none 0 0] 26 (0, 0)) := blk_set BO 4 _
          have own := ownsRow_setCell_other own7 (a := ⟨O, 4, none⟩) (fun e => own_ne_blk own7 BO (by decide) e.symm) (.slice (some ⟨g', 0, none⟩) (k + 1) cap')
          have kk := kk.setCell (p := ⟨O, 4, none⟩) hO (.slice (some ⟨g', 0, none⟩) (k + 1) cap')
          have ex := ex.trans (ext_set BO (by decide) 4 (.slice (some ⟨g', 0, none⟩) (k + 1) cap'))
          have BF := (Below.heap_setCell w7 ⟨O, 4, none⟩ (.slice (some ⟨g', 0, none⟩) (k + 1) cap') F hOF).trans BF
          refine hK.out _ _ ⟨blk_cell BF 0, blk_cell BF 1, blk_cell BF 2⟩ (fun hHeld => ?_)
          clear hK K
          generalize w7.setCell ⟨O, 4, none⟩ (.slice (some ⟨g', 0, none⟩) (k + 1) cap') = w8 at *
          clear own7 BO z zf
          refine wpAnyH_done (by kernel_rfl) ?_ _
          clear hHeld y4 y5
          have e4 : ((fs.take k).map cutF).flatMap fcl ++ fcl (cutF X) = ((fs.take (k + 1)).map cutF).flatMap fcl := by rw [HS.out, List.flatMap_append]; simp
          rw [e4] at own
          go_wp2_with fail
          go_roundw
          case rel => exact ⟨k + 1, _, by omega, by omega, by go_num, BO5, own, ex, kk⟩
          case measure => simp [intOf]; omega
        case neg =>
          have d1 : decide ((k : Int) < (fs.length : Int)) = true := by simp; omega
          have d3 : decide (k < fs.length) = true := by simp; omega
          have d2 : decide ((k : Int) < 10) = false := by simp; omega
          have d4 : decide (k < 10) = false := by simp; omega
          have eL : (fs.take k).map cutF = (fs.take 10).map cutF := by rw [show k = 10 by omega]
          have eN : k = ((fs.take 10).map cutF).length := by simp; omega
          rw [eL] at own
          have H4 : Hid (wr.ownsRow wB.heap.size 40 3 v4 ((fs.take 10).map cutF).length (((fs.take 10).map cutF).flatMap fcl)) := by have h := own; rw [eN] at h; exact h
          clear own eL eN
          go_wp2_with fail
          go_meet
          exact ⟨_, BO, sls_ext ex H3.out, H4.out, hbel⟩
      case neg =>
        have d1 : decide ((k : Int) < (fs.length : Int)) = false := by simp; omega
        have d3 : decide (k < fs.length) = false := by simp; omega
        have eL : (fs.take k).map cutF = (fs.take 10).map cutF := by rw [List.take_of_length_le (by omega), List.take_of_length_le (by omega)]
        have eN : k = ((fs.take 10).map cutF).length := by simp; omega
        rw [eL] at own
        have H4 : Hid (wr.ownsRow wB.heap.size 40 3 v4 ((fs.take 10).map cutF).length (((fs.take 10).map cutF).flatMap fcl)) := by have h := own; rw [eN] at h; exact h
        clear own eL eN
        go_wp2_with fail
        go_meet
        exact ⟨_, BO, sls_ext ex H3.out, H4.out, hbel⟩
  case rest =>
  clear BO H3 kC
  obtain ⟨v4, BO, h3, h4, kC⟩ := hcut
  obtain ⟨wD, hwD⟩ : ∃ x, x = wc := ⟨_, rfl⟩
  subst hwD
  have H3 : Hid _ := h3
  have H4 : Hid _ := h4
  clear h3 h4
  apply_assumption
  refine wp_seq_k (fun K3 hK3 => ?_)
  go_cut [6] (fun s6 wc => ∃ (v5 : Value), wc.heap[O]? = some (.cells #[.string (cutS nm 10), .string (cutS su 10), .bool fa, v3, v4, v5] 26 (0, 0)) ∧ Sl strE 1 (msk pS wc) v3 (cutTs 6 im) ∧ wc.ownsRow wB.heap.size 40 3 v4 ((fs.take 10).map cutF).length (((fs.take 10).map cutF).flatMap fcl) ∧ Sl methE 10 (msk pCF wc) v5 ((ms.take 10).map cutM) ∧ Below wB.heap.size wB wc)
  case first =>
    go_wp2_with fail
    go_loopw [6] (fun i wr => ∃ (k : Nat) (v5 : Value) (ML : List MY), k ≤ ms.length ∧ k ≤ 10 ∧ i = .int .i64 k ∧ ML.map (·.m) = (ms.take k).map cutM ∧ wr.heap[O]? = some (.cells #[.string (cutS nm 10), .string (cutS su 10), .bool fa, v3, v4, v5] 26 (0, 0)) ∧ wr.ownsRow wB.heap.size 46 10 v5 k (ML.flatMap mcells) ∧ MYs (msk pMC wr) ML ∧ Ext (msk pS wD) (msk pS wr) ∧ wr.ownsRow wB.heap.size 40 3 v4 ((fs.take 10).map cutF).length (((fs.take 10).map cutF).flatMap fcl) ∧ Below wB.heap.size wB wr) (fun i _ => ms.length - (intOf i).toNat)
    case atStart => exact ⟨0, _, [], by omega, by omega, rfl, rfl, BO, World.ownsRow_nil _ _ _ _, fun y hy => (by cases hy), Ext.refl _, H4.out, kC⟩
    case round =>
      clear BO H4
      obtain ⟨k, v5, ML, hk, hkn, rfl, hYL, BO, own, hHY, ex, own4, hbel⟩ := hrel
      have H4 : Hid _ := own4
      clear own4
      have HE : Hid _ := hYL
      have HY : Hid _ := hHY
      clear hYL hHY
      have x5 := cellOn y5 hbel
      by_cases hlk : k < ms.length
      case pos =>
        by_cases hln : k < 10
        case pos =>
          have d1 : decide ((k : Int) < (ms.length : Int)) = true := by simp; omega
          have d3 : decide (k < ms.length) = true := by simp; omega
          have d2 : decide ((k : Int) < 10) = true := by simp; omega
          have d4 : decide (k < 10) = true := by simp; omega
          go_upto_region 10 with fail
          clear d1 d2 d3 d4 x5
          obtain ⟨aa, cc, ev, _, _, _, hx9⟩ := HV.out.methods
          simp only [Value.slice.injEq, true_and] at ev
          obtain ⟨rfl, rfl⟩ := ev
          obtain ⟨b9, off9, rfl, _, hx9⟩ := hx9 (by simp only; omega)
          obtain ⟨v1, v7, v8, v9, hMV, hcs⟩ := hx9 k hlk
          have HS : Hid _ := map_succ cutM hlk
          clear hx9
          generalize ms[k] = X at *
          obtain ⟨mn, mp1, mr, mst, mab, mlo, mso, mcd, mmp, mtr⟩ := X
          obtain ⟨a1, c1, rfl, _⟩ := id hMV.params
          obtain ⟨a7, c7, rfl, _⟩ := id hMV.code
          obtain ⟨a8, c8, rfl, _⟩ := id hMV.maps
          obtain ⟨a9, c9, rfl, _⟩ := id hMV.traps
          have m0 : wB.cell? ⟨b9, off9 + k * 10 + 0, none⟩ = some (.string mn) := hcs 0 (by decide)
          have m1 : wB.cell? ⟨b9, off9 + k * 10 + 1, none⟩ = some (.slice a1 mp1.length c1) := hcs 1 (by decide)
          have m2 : wB.cell? ⟨b9, off9 + k * 10 + 2, none⟩ = some (.string mr) := hcs 2 (by decide)
          have m3 : wB.cell? ⟨b9, off9 + k * 10 + 3, none⟩ = some (.bool mst) := hcs 3 (by decide)
          have m4 : wB.cell? ⟨b9, off9 + k * 10 + 4, none⟩ = some (.bool mab) := hcs 4 (by decide)
          have m5 : wB.cell? ⟨b9, off9 + k * 10 + 5, none⟩ = some (.int .i64 mlo) := hcs 5 (by decide)
          have m6 : wB.cell? ⟨b9, off9 + k * 10 + 6, none⟩ = some (.int .i64 mso) := hcs 6 (by decide)
          have m7 : wB.cell? ⟨b9, off9 + k * 10 + 7, none⟩ = some (.slice a7 mcd.length c7) := hcs 7 (by decide)
          have m8 : wB.cell? ⟨b9, off9 + k * 10 + 8, none⟩ = some (.slice a8 mmp.length c8) := hcs 8 (by decide)
          have m9 : wB.cell? ⟨b9, off9 + k * 10 + 9, none⟩ = some (.slice a9 mtr.length c9) := hcs 9 (by decide)
          rw [Nat.add_zero] at m0
          clear hcs
          have HM : Hid _ := hMV
          clear hMV
          obtain ⟨Y, hY⟩ : ∃ Y, cutM ⟨mn, mp1, mr, mst, mab, mlo, mso, mcd, mmp, mtr⟩ = Y := ⟨_, rfl⟩
          rw [hY] at HS
          have HC : ∀ W, Below wB.heap.size wB W → Calls Tryz.prog 21 #[.agg #[.string mn, .slice a1 mp1.length c1, .string mr, .bool mst, .bool mab, .int .i64 mlo, .int .i64 mso, .slice a7 mcd.length c7, .slice a8 mmp.length c8, .slice a9 mtr.length c9]] W fun e w' => ∃ v1 v7 v8 v9, e = .returned (.agg #[.string Y.name, v1, .string Y.ret, .bool Y.static, .bool Y.abstract, .int .i64 Y.locals, .int .i64 Y.stack, v7, v8, v9]) ∧ MethV (Fil.msk pMC w') v1 v7 v8 v9 Y ∧ Below W.heap.size W w' := fun W b => by have h := cutm_any mn mp1 mr mst mab mlo mso mcd mmp mtr a1 a7 a8 a9 c1 c7 c8 c9 W (HM.out.later b); rw [hY] at h; exact h
          clear hY HM
          have kr : Below wr.heap.size wr wr.drew := (Below.refl _ _).drew
          have kk := hbel.trans (kr.mono hbel.size)
          have BO := blk_on BO kr
          have own := own_later own kr
          have H4 : Hid _ := own_later H4.out kr
          have ex := ex.trans (ext_below kr)
          have HY : Hid _ := MYs.ext (ext_below kr) HY.out
          have z := blk_cell BO 5
          simp only [List.getElem?_toArray, List.getElem?_cons_zero, List.getElem?_cons_succ] at z
          refine wp_region_held_drew (S := fun W' => W'.cell? ⟨w.heap.size, 5, none⟩ = some (.slice (some ⟨b9, off9, none⟩) ms.length d5) ∧ W'.cell? ⟨b9, off9 + k * 10, none⟩ = some (.string mn) ∧ W'.cell? ⟨b9, off9 + k * 10 + 1, none⟩ = some (.slice a1 mp1.length c1) ∧ W'.cell? ⟨b9, off9 + k * 10 + 2, none⟩ = some (.string mr) ∧ W'.cell? ⟨b9, off9 + k * 10 + 3, none⟩ = some (.bool mst) ∧ W'.cell? ⟨b9, off9 + k * 10 + 4, none⟩ = some (.bool mab) ∧ W'.cell? ⟨b9, off9 + k * 10 + 5, none⟩ = some (.int .i64 mlo) ∧ W'.cell? ⟨b9, off9 + k * 10 + 6, none⟩ = some (.int .i64 mso) ∧ W'.cell? ⟨b9, off9 + k * 10 + 7, none⟩ = some (.slice a7 mcd.length c7) ∧ W'.cell? ⟨b9, off9 + k * 10 + 8, none⟩ = some (.slice a8 mmp.length c8) ∧ W'.cell? ⟨b9, off9 + k * 10 + 9, none⟩ = some (.slice a9 mtr.length c9)) (by kernel_rfl) ⟨cellOn y5 kk, cellOn m0 kk, cellOn m1 kk, cellOn m2 kk, cellOn m3 kk, cellOn m4 kk, cellOn m5 kk, cellOn m6 kk, cellOn m7 kk, cellOn m8 kk, cellOn m9 kk⟩ (fun hHeld => ?_)
          generalize wr.drew = wX at *
          clear hbel kr
          refine wpAnyH_take (i := 0) (oi := ⟨some 60, _, _, _, _, _⟩) (v := ?_) rfl (by kernel_rfl) (by kernel_rfl) (by kernel_rfl) (fun _ _ _ h => h) (Or.inl ⟨by kernel_rfl, fun Wx hSw => ?_⟩) (by assumption) ?_
          rotate_left
          · ((try dsimp only at hSw); go_simp; try with_reducible rfl)
          simp only [Act.put, List.setIfInBounds_toArray, List.set_cons_zero, List.set_cons_succ]
          refine wpAnyH_take (i := 2) (oi := ⟨some 62, _, _, _, _, _⟩) (v := ?_) rfl (by kernel_rfl) (by kernel_rfl) (by kernel_rfl) (fun _ _ _ h => h) (Or.inl ⟨by kernel_rfl, fun Wx hSw => ?_⟩) (by assumption) ?_
          rotate_left
          · ((try dsimp only at hSw); go_simp; try with_reducible rfl)
          simp only [Act.put, List.setIfInBounds_toArray, List.set_cons_zero, List.set_cons_succ]
          refine wpAnyH_take (i := 3) (oi := ⟨some 63, _, _, _, _, _⟩) (v := ?_) rfl (by kernel_rfl) (by kernel_rfl) (by kernel_rfl) (fun _ _ _ h => h) (Or.inl ⟨by kernel_rfl, fun Wx hSw => ?_⟩) (by assumption) ?_
          rotate_left
          · ((try dsimp only at hSw); go_simp; try with_reducible rfl)
          simp only [Act.put, List.setIfInBounds_toArray, List.set_cons_zero, List.set_cons_succ]
          refine wpAnyH_take (i := 4) (oi := ⟨some 64, _, _, _, _, _⟩) (v := ?_) rfl (by kernel_rfl) (by kernel_rfl) (by kernel_rfl) (fun _ _ _ h => h) (Or.inl ⟨by kernel_rfl, fun Wx hSw => ?_⟩) (by assumption) ?_
          rotate_left
          · ((try dsimp only at hSw); go_simp; try with_reducible rfl)
          simp only [Act.put, List.setIfInBounds_toArray, List.set_cons_zero, List.set_cons_succ]
          refine wpAnyH_take (i := 5) (oi := ⟨some 65, _, _, _, _, _⟩) (v := ?_) rfl (by kernel_rfl) (by kernel_rfl) (by kernel_rfl) (fun _ _ _ h => h) (Or.inl ⟨by kernel_rfl, fun Wx hSw => ?_⟩) (by assumption) ?_
          rotate_left
          · ((try dsimp only at hSw); go_simp; try with_reducible rfl)
          simp only [Act.put, List.setIfInBounds_toArray, List.set_cons_zero, List.set_cons_succ]
          refine wpAnyH_take (i := 6) (oi := ⟨some 66, _, _, _, _, _⟩) (v := ?_) rfl (by kernel_rfl) (by kernel_rfl) (by kernel_rfl) (fun _ _ _ h => h) (Or.inl ⟨by kernel_rfl, fun Wx hSw => ?_⟩) (by assumption) ?_
          rotate_left
          · ((try dsimp only at hSw); go_simp; try with_reducible rfl)
          simp only [Act.put, List.setIfInBounds_toArray, List.set_cons_zero, List.set_cons_succ]
          refine wpAnyH_ready (rs := [1, 7]) (by kernel_rfl) (by simp) ?_
          refine AllReadyH.cons (o := ⟨some 61, _, _, _, _, _⟩) rfl (fun K hK => ?_) ?_
          · go_simp
            refine hK.out _ _ (by assumption) (fun hHeld => ?_)
            clear hK K
            refine wpAnyH_ready (rs := [7]) (by kernel_rfl) (by simp) ?_
            refine AllReadyH.cons (o := ⟨some 67, _, _, _, _, _⟩) rfl (fun K hK => ?_) AllReadyH.nil
            go_simp
            go_wp2_with (go_at_call 21; refine (HC _ kk).mono ?_; rintro e w5 ⟨u1, u7, u8, u9, rfl, hM5, b5⟩; obtain ⟨e1, f1, rfl, _⟩ := id hM5.params; obtain ⟨e7, f7, rfl, _⟩ := id hM5.code; obtain ⟨e8, f8, rfl, _⟩ := id hM5.maps; obtain ⟨e9, f9, rfl, _⟩ := id hM5.traps)
            have sM : Hid _ := hM5
            clear hM5
            have kk := kk.trans (b5.mono kk.size)
            have BO := blk_on BO b5
            have own := own_later own b5
            have ex := ex.trans (ext_below b5)
            have z := blk_cell BO 5
            simp only [List.getElem?_toArray, List.getElem?_cons_zero, List.getElem?_cons_succ] at z
            have HY : Hid _ := MYs.ext (ext_below b5) HY.out
            have H4 : Hid _ := own_later H4.out b5
            refine hK.out _ _ ⟨cellOn y5 kk, cellOn m0 kk, cellOn m1 kk, cellOn m2 kk, cellOn m3 kk, cellOn m4 kk, cellOn m5 kk, cellOn m6 kk, cellOn m7 kk, cellOn m8 kk, cellOn m9 kk⟩ (fun hHeld => ?_)
            clear hK K
            clear b5
            refine wpAnyH_ready (rs := [8]) (by kernel_rfl) (by simp) ?_
            refine AllReadyH.cons (o := ⟨some 68, _, _, _, _, _⟩) rfl (fun K hK => ?_) AllReadyH.nil
            go_simp
            have b6 := alloc1 w5 (.cells #[.string Y.name, .slice e1 Y.params.length f1, .string Y.ret, .bool Y.static, .bool Y.abstract, .int .i64 Y.locals, .int .i64 Y.stack, .slice e7 Y.code.length f7, .slice e8 Y.maps.length f8, .slice e9 Y.traps.length f9] 46)
            have hnews : ∀ (j : Nat) (u : Value), (mcells (⟨Y, .slice e1 Y.params.length f1, .slice e7 Y.code.length f7, .slice e8 Y.maps.length f8, .slice e9 Y.traps.length f9⟩ : MY))[j]? = some u → (w5.alloc (.cells #[.string Y.name, .slice e1 Y.params.length f1, .string Y.ret, .bool Y.static, .bool Y.abstract, .int .i64 Y.locals, .int .i64 Y.stack, .slice e7 Y.code.length f7, .slice e8 Y.maps.length f8, .slice e9 Y.traps.length f9] 46)).cell? ((⟨w5.heap.size, 0, none⟩ : Addr).add j) = some u := news_lit w5 (mcells (⟨Y, .slice e1 Y.params.length f1, .slice e7 Y.code.length f7, .slice e8 Y.maps.length f8, .slice e9 Y.traps.length f9⟩ : MY)) 46
            have kk := kk.trans (b6.mono kk.size)
            have BO := blk_on BO b6
            have own := own_later own b6
            have ex := ex.trans (ext_below b6)
            have z := blk_cell BO 5
            simp only [List.getElem?_toArray, List.getElem?_cons_zero, List.getElem?_cons_succ] at z
            have HY : Hid _ := MYs.ext (ext_below b6) HY.out
            have H4 : Hid _ := own_later H4.out b6
            have sM : Hid _ := MethV.ext (ext_below b6) sM.out
            refine hK.out _ _ ⟨cellOn y5 kk, cellOn m0 kk, cellOn m1 kk, cellOn m2 kk, cellOn m3 kk, cellOn m4 kk, cellOn m5 kk, cellOn m6 kk, cellOn m7 kk, cellOn m8 kk, cellOn m9 kk⟩ (fun hHeld => ?_)
            clear hK K
            generalize w5.alloc (.cells #[.string Y.name, .slice e1 Y.params.length f1, .string Y.ret, .bool Y.static, .bool Y.abstract, .int .i64 Y.locals, .int .i64 Y.stack, .slice e7 Y.code.length f7, .slice e8 Y.maps.length f8, .slice e9 Y.traps.length f9] 46) = w6 at *
            have hB6 := kk.size
            clear b6
            refine wpAnyH_ready (rs := [9]) (by kernel_rfl) (by simp) ?_
            refine AllReadyH.cons (o := ⟨some 69, _, _, _, _, _⟩) rfl (fun K hK => ?_) AllReadyH.nil
            have hne := own_ne_blk own BO (by decide)
            have hlow := fun g e => (own.lt g e).1
            refine step_append_lies _ rfl (.tmp 61) (.tmp 68) 24 rfl wB.heap.size 46 iM (.agg #[.string ⟨#[]⟩, .slice none 0 0, .string ⟨#[]⟩, .bool false, .bool false, .int .i64 0, .int .i64 0, .slice none 0 0, .slice none 0 0, .slice none 0 0]) 10 152 Tryz.underlying24 hiM hzM0 hzM1 hzM2 rfl (by decide) v5 k _ rfl own ⟨w5.heap.size, 0, none⟩ 1 1 (mcells (⟨Y, .slice e1 Y.params.length f1, .slice e7 Y.code.length f7, .slice e8 Y.maps.length f8, .slice e9 Y.traps.length f9⟩ : MY)) rfl rfl hnews (one_mcells _ _ _ _ _ _ _ _ _ _ _ _ _) (by decide) (by unfold maxLen; omega) (by omega) hB6 _ rfl ?_
            intro g' cap' w7 own7 g7 hat hlt
            have kk := kk.grown g7 hB6 hlow
            have BO := blk_grown BO g7 hne
            have ex := ex.trans (ext_grown own (by decide) g7)
            have H4 : Hid _ := World.ownsRow.kept H4.out g7 (own_apart H4.out own (by decide))
            have HY : Hid _ := MYs.ext (ext_grown own (by decide) g7) HY.out
            have sM : Hid _ := MethV.ext (ext_grown own (by decide) g7) sM.out
            have z := blk_cell BO 5
            simp only [List.getElem?_toArray, List.getElem?_cons_zero, List.getElem?_cons_succ] at z
            have zf := blk_free BO 5
            refine hK.out _ _ ⟨cellOn y5 kk, cellOn m0 kk, cellOn m1 kk, cellOn m2 kk, cellOn m3 kk, cellOn m4 kk, cellOn m5 kk, cellOn m6 kk, cellOn m7 kk, cellOn m8 kk, cellOn m9 kk⟩ (fun hHeld => ?_)
            clear hK K
            clear own hnews g7 hne hlow
            refine wpAnyH_take (i := 10) (oi := ⟨some 70, _, _, _, _, _⟩) (v := ?_) rfl (by kernel_rfl) (by kernel_rfl) (by kernel_rfl) (fun _ _ _ h => h) (Or.inl ⟨by kernel_rfl, fun Wx hSw => ?_⟩) (by assumption) ?_
            rotate_left
            · ((try dsimp only at hSw); go_simp; try with_reducible rfl)
            simp only [Act.put, List.setIfInBounds_toArray, List.set_cons_zero, List.set_cons_succ]
            refine wpAnyH_ready (rs := [11]) (by kernel_rfl) (by simp) ?_
            refine AllReadyH.cons (o := ⟨none, _, _, _, _, _⟩) rfl (fun K hK => ?_) AllReadyH.nil
            go_simp
            have BO5 : (w7.setCell ⟨O, 5, none⟩ (.slice (some ⟨g', 0, none⟩) (k + 1) cap')).heap[O]? = some (.cells #[.string (cutS nm 10), .string (cutS su 10), .bool fa, v3, v4, (.slice (some ⟨g', 0, none⟩) (k + 1) cap')] 26 (0, 0)) := blk_set BO 5 _
            have own := ownsRow_setCell_other own7 (a := ⟨O, 5, none⟩) (fun e => own_ne_blk own7 BO (by decide) e.symm) (.slice (some ⟨g', 0, none⟩) (k + 1) cap')
            have kk := kk.setCell (p := ⟨O, 5, none⟩) hO (.slice (some ⟨g', 0, none⟩) (k + 1) cap')
            have ex := ex.trans (ext_set BO (by decide) 5 (.slice (some ⟨g', 0, none⟩) (k + 1) cap'))
            have HY : Hid _ := MYs.ext (ext_set BO (by decide) 5 (.slice (some ⟨g', 0, none⟩) (k + 1) cap')) HY.out
            have sM : Hid _ := MethV.ext (ext_set BO (by decide) 5 (.slice (some ⟨g', 0, none⟩) (k + 1) cap')) sM.out
            have H4 : Hid _ := ownsRow_setCell_other H4.out (a := ⟨O, 5, none⟩) (fun e => own_ne_blk H4.out BO (by decide) e.symm) (.slice (some ⟨g', 0, none⟩) (k + 1) cap')
            refine hK.out _ _ ⟨cellOn y5 kk, cellOn m0 kk, cellOn m1 kk, cellOn m2 kk, cellOn m3 kk, cellOn m4 kk, cellOn m5 kk, cellOn m6 kk, cellOn m7 kk, cellOn m8 kk, cellOn m9 kk⟩ (fun hHeld => ?_)
            clear hK K
            generalize w7.setCell ⟨O, 5, none⟩ (.slice (some ⟨g', 0, none⟩) (k + 1) cap') = w8 at *
            clear own7 BO z zf
            refine wpAnyH_done (by kernel_rfl) ?_ _
            clear hHeld y4 y5 HC m0 m1 m2 m3 m4 m5 m6 m7 m8 m9
            have e4 : ML.flatMap mcells ++ mcells (⟨Y, .slice e1 Y.params.length f1, .slice e7 Y.code.length f7, .slice e8 Y.maps.length f8, .slice e9 Y.traps.length f9⟩ : MY) = (ML ++ [(⟨Y, .slice e1 Y.params.length f1, .slice e7 Y.code.length f7, .slice e8 Y.maps.length f8, .slice e9 Y.traps.length f9⟩ : MY)]).flatMap mcells := by rw [List.flatMap_append]; simp
            rw [e4] at own
            have e5 : Hid ((ML ++ [(⟨Y, .slice e1 Y.params.length f1, .slice e7 Y.code.length f7, .slice e8 Y.maps.length f8, .slice e9 Y.traps.length f9⟩ : MY)]).map (·.m) = (ms.take (k + 1)).map cutM) := by show _ = _; rw [List.map_append, HE.out, HS.out]; rfl
            have e6 : Hid _ := MYs.add HY.out (y := (⟨Y, .slice e1 Y.params.length f1, .slice e7 Y.code.length f7, .slice e8 Y.maps.length f8, .slice e9 Y.traps.length f9⟩ : MY)) sM.out
            clear HE HS e4
            go_wp2_with fail
            go_roundw
            case rel => exact ⟨k + 1, _, _, by omega, by omega, by go_num, e5.out, BO5, own, e6.out, ex, H4.out, kk⟩
            case measure => simp [intOf]; omega
          refine AllReadyH.cons (o := ⟨some 67, _, _, _, _, _⟩) rfl (fun K hK => ?_) AllReadyH.nil
          go_simp
          go_wp2_with (go_at_call 21; refine (HC _ kk).mono ?_; rintro e w5 ⟨u1, u7, u8, u9, rfl, hM5, b5⟩; obtain ⟨e1, f1, rfl, _⟩ := id hM5.params; obtain ⟨e7, f7, rfl, _⟩ := id hM5.code; obtain ⟨e8, f8, rfl, _⟩ := id hM5.maps; obtain ⟨e9, f9, rfl, _⟩ := id hM5.traps)
          have sM : Hid _ := hM5
          clear hM5
          have kk := kk.trans (b5.mono kk.size)
          have BO := blk_on BO b5
          have own := own_later own b5
          have ex := ex.trans (ext_below b5)
          have z := blk_cell BO 5
          simp only [List.getElem?_toArray, List.getElem?_cons_zero, List.getElem?_cons_succ] at z
          have HY : Hid _ := MYs.ext (ext_below b5) HY.out
          have H4 : Hid _ := own_later H4.out b5
          refine hK.out _ _ ⟨cellOn y5 kk, cellOn m0 kk, cellOn m1 kk, cellOn m2 kk, cellOn m3 kk, cellOn m4 kk, cellOn m5 kk, cellOn m6 kk, cellOn m7 kk, cellOn m8 kk, cellOn m9 kk⟩ (fun hHeld => ?_)
          clear hK K
          clear b5
          refine wpAnyH_ready (rs := [1, 8]) (by kernel_rfl) (by simp) ?_
          refine AllReadyH.cons (o := ⟨some 61, _, _, _, _, _⟩) rfl (fun K hK => ?_) ?_
          · go_simp
            refine hK.out _ _ (by assumption) (fun hHeld => ?_)
            clear hK K
            refine wpAnyH_ready (rs := [8]) (by kernel_rfl) (by simp) ?_
            refine AllReadyH.cons (o := ⟨some 68, _, _, _, _, _⟩) rfl (fun K hK => ?_) AllReadyH.nil
            go_simp
            have b6 := alloc1 w5 (.cells #[.string Y.name, .slice e1 Y.params.length f1, .string Y.ret, .bool Y.static, .bool Y.abstract, .int .i64 Y.locals, .int .i64 Y.stack, .slice e7 Y.code.length f7, .slice e8 Y.maps.length f8, .slice e9 Y.traps.length f9] 46)
            have hnews : ∀ (j : Nat) (u : Value), (mcells (⟨Y, .slice e1 Y.params.length f1, .slice e7 Y.code.length f7, .slice e8 Y.maps.length f8, .slice e9 Y.traps.length f9⟩ : MY))[j]? = some u → (w5.alloc (.cells #[.string Y.name, .slice e1 Y.params.length f1, .string Y.ret, .bool Y.static, .bool Y.abstract, .int .i64 Y.locals, .int .i64 Y.stack, .slice e7 Y.code.length f7, .slice e8 Y.maps.length f8, .slice e9 Y.traps.length f9] 46)).cell? ((⟨w5.heap.size, 0, none⟩ : Addr).add j) = some u := news_lit w5 (mcells (⟨Y, .slice e1 Y.params.length f1, .slice e7 Y.code.length f7, .slice e8 Y.maps.length f8, .slice e9 Y.traps.length f9⟩ : MY)) 46
            have kk := kk.trans (b6.mono kk.size)
            have BO := blk_on BO b6
            have own := own_later own b6
            have ex := ex.trans (ext_below b6)
            have z := blk_cell BO 5
            simp only [List.getElem?_toArray, List.getElem?_cons_zero, List.getElem?_cons_succ] at z
            have HY : Hid _ := MYs.ext (ext_below b6) HY.out
            have H4 : Hid _ := own_later H4.out b6
            have sM : Hid _ := MethV.ext (ext_below b6) sM.out
            refine hK.out _ _ ⟨cellOn y5 kk, cellOn m0 kk, cellOn m1 kk, cellOn m2 kk, cellOn m3 kk, cellOn m4 kk, cellOn m5 kk, cellOn m6 kk, cellOn m7 kk, cellOn m8 kk, cellOn m9 kk⟩ (fun hHeld => ?_)
            clear hK K
            generalize w5.alloc (.cells #[.string Y.name, .slice e1 Y.params.length f1, .string Y.ret, .bool Y.static, .bool Y.abstract, .int .i64 Y.locals, .int .i64 Y.stack, .slice e7 Y.code.length f7, .slice e8 Y.maps.length f8, .slice e9 Y.traps.length f9] 46) = w6 at *
            have hB6 := kk.size
            clear b6
            refine wpAnyH_ready (rs := [9]) (by kernel_rfl) (by simp) ?_
            refine AllReadyH.cons (o := ⟨some 69, _, _, _, _, _⟩) rfl (fun K hK => ?_) AllReadyH.nil
            have hne := own_ne_blk own BO (by decide)
            have hlow := fun g e => (own.lt g e).1
            refine step_append_lies _ rfl (.tmp 61) (.tmp 68) 24 rfl wB.heap.size 46 iM (.agg #[.string ⟨#[]⟩, .slice none 0 0, .string ⟨#[]⟩, .bool false, .bool false, .int .i64 0, .int .i64 0, .slice none 0 0, .slice none 0 0, .slice none 0 0]) 10 152 Tryz.underlying24 hiM hzM0 hzM1 hzM2 rfl (by decide) v5 k _ rfl own ⟨w5.heap.size, 0, none⟩ 1 1 (mcells (⟨Y, .slice e1 Y.params.length f1, .slice e7 Y.code.length f7, .slice e8 Y.maps.length f8, .slice e9 Y.traps.length f9⟩ : MY)) rfl rfl hnews (one_mcells _ _ _ _ _ _ _ _ _ _ _ _ _) (by decide) (by unfold maxLen; omega) (by omega) hB6 _ rfl ?_
            intro g' cap' w7 own7 g7 hat hlt
            have kk := kk.grown g7 hB6 hlow
            have BO := blk_grown BO g7 hne
            have ex := ex.trans (ext_grown own (by decide) g7)
            have H4 : Hid _ := World.ownsRow.kept H4.out g7 (own_apart H4.out own (by decide))
            have HY : Hid _ := MYs.ext (ext_grown own (by decide) g7) HY.out
            have sM : Hid _ := MethV.ext (ext_grown own (by decide) g7) sM.out
            have z := blk_cell BO 5
            simp only [List.getElem?_toArray, List.getElem?_cons_zero, List.getElem?_cons_succ] at z
            have zf := blk_free BO 5
            refine hK.out _ _ ⟨cellOn y5 kk, cellOn m0 kk, cellOn m1 kk, cellOn m2 kk, cellOn m3 kk, cellOn m4 kk, cellOn m5 kk, cellOn m6 kk, cellOn m7 kk, cellOn m8 kk, cellOn m9 kk⟩ (fun hHeld => ?_)
            clear hK K
            clear own hnews g7 hne hlow
            refine wpAnyH_take (i := 10) (oi := ⟨some 70, _, _, _, _, _⟩) (v := ?_) rfl (by kernel_rfl) (by kernel_rfl) (by kernel_rfl) (fun _ _ _ h => h) (Or.inl ⟨by kernel_rfl, fun Wx hSw => ?_⟩) (by assumption) ?_
            rotate_left
            · ((try dsimp only at hSw); go_simp; try with_reducible rfl)
            simp only [Act.put, List.setIfInBounds_toArray, List.set_cons_zero, List.set_cons_succ]
            refine wpAnyH_ready (rs := [11]) (by kernel_rfl) (by simp) ?_
            refine AllReadyH.cons (o := ⟨none, _, _, _, _, _⟩) rfl (fun K hK => ?_) AllReadyH.nil
            go_simp
            have BO5 : (w7.setCell ⟨O, 5, none⟩ (.slice (some ⟨g', 0, none⟩) (k + 1) cap')).heap[O]? = some (.cells #[.string (cutS nm 10), .string (cutS su 10), .bool fa, v3, v4, (.slice (some ⟨g', 0, none⟩) (k + 1) cap')] 26 (0, 0)) := blk_set BO 5 _
            have own := ownsRow_setCell_other own7 (a := ⟨O, 5, none⟩) (fun e => own_ne_blk own7 BO (by decide) e.symm) (.slice (some ⟨g', 0, none⟩) (k + 1) cap')
            have kk := kk.setCell (p := ⟨O, 5, none⟩) hO (.slice (some ⟨g', 0, none⟩) (k + 1) cap')
            have ex := ex.trans (ext_set BO (by decide) 5 (.slice (some ⟨g', 0, none⟩) (k + 1) cap'))
            have HY : Hid _ := MYs.ext (ext_set BO (by decide) 5 (.slice (some ⟨g', 0, none⟩) (k + 1) cap')) HY.out
            have sM : Hid _ := MethV.ext (ext_set BO (by decide) 5 (.slice (some ⟨g', 0, none⟩) (k + 1) cap')) sM.out
            have H4 : Hid _ := ownsRow_setCell_other H4.out (a := ⟨O, 5, none⟩) (fun e => own_ne_blk H4.out BO (by decide) e.symm) (.slice (some ⟨g', 0, none⟩) (k + 1) cap')
            refine hK.out _ _ ⟨cellOn y5 kk, cellOn m0 kk, cellOn m1 kk, cellOn m2 kk, cellOn m3 kk, cellOn m4 kk, cellOn m5 kk, cellOn m6 kk, cellOn m7 kk, cellOn m8 kk, cellOn m9 kk⟩ (fun hHeld => ?_)
            clear hK K
            generalize w7.setCell ⟨O, 5, none⟩ (.slice (some ⟨g', 0, none⟩) (k + 1) cap') = w8 at *
            clear own7 BO z zf
            refine wpAnyH_done (by kernel_rfl) ?_ _
            clear hHeld y4 y5 HC m0 m1 m2 m3 m4 m5 m6 m7 m8 m9
            have e4 : ML.flatMap mcells ++ mcells (⟨Y, .slice e1 Y.params.length f1, .slice e7 Y.code.length f7, .slice e8 Y.maps.length f8, .slice e9 Y.traps.length f9⟩ : MY) = (ML ++ [(⟨Y, .slice e1 Y.params.length f1, .slice e7 Y.code.length f7, .slice e8 Y.maps.length f8, .slice e9 Y.traps.length f9⟩ : MY)]).flatMap mcells := by rw [List.flatMap_append]; simp
            rw [e4] at own
            have e5 : Hid ((ML ++ [(⟨Y, .slice e1 Y.params.length f1, .slice e7 Y.code.length f7, .slice e8 Y.maps.length f8, .slice e9 Y.traps.length f9⟩ : MY)]).map (·.m) = (ms.take (k + 1)).map cutM) := by show _ = _; rw [List.map_append, HE.out, HS.out]; rfl
            have e6 : Hid _ := MYs.add HY.out (y := (⟨Y, .slice e1 Y.params.length f1, .slice e7 Y.code.length f7, .slice e8 Y.maps.length f8, .slice e9 Y.traps.length f9⟩ : MY)) sM.out
            clear HE HS e4
            go_wp2_with fail
            go_roundw
            case rel => exact ⟨k + 1, _, _, by omega, by omega, by go_num, e5.out, BO5, own, e6.out, ex, H4.out, kk⟩
            case measure => simp [intOf]; omega
          refine AllReadyH.cons (o := ⟨some 68, _, _, _, _, _⟩) rfl (fun K hK => ?_) AllReadyH.nil
          go_simp
          have b6 := alloc1 w5 (.cells #[.string Y.name, .slice e1 Y.params.length f1, .string Y.ret, .bool Y.static, .bool Y.abstract, .int .i64 Y.locals, .int .i64 Y.stack, .slice e7 Y.code.length f7, .slice e8 Y.maps.length f8, .slice e9 Y.traps.length f9] 46)
          have hnews : ∀ (j : Nat) (u : Value), (mcells (⟨Y, .slice e1 Y.params.length f1, .slice e7 Y.code.length f7, .slice e8 Y.maps.length f8, .slice e9 Y.traps.length f9⟩ : MY))[j]? = some u → (w5.alloc (.cells #[.string Y.name, .slice e1 Y.params.length f1, .string Y.ret, .bool Y.static, .bool Y.abstract, .int .i64 Y.locals, .int .i64 Y.stack, .slice e7 Y.code.length f7, .slice e8 Y.maps.length f8, .slice e9 Y.traps.length f9] 46)).cell? ((⟨w5.heap.size, 0, none⟩ : Addr).add j) = some u := news_lit w5 (mcells (⟨Y, .slice e1 Y.params.length f1, .slice e7 Y.code.length f7, .slice e8 Y.maps.length f8, .slice e9 Y.traps.length f9⟩ : MY)) 46
          have kk := kk.trans (b6.mono kk.size)
          have BO := blk_on BO b6
          have own := own_later own b6
          have ex := ex.trans (ext_below b6)
          have z := blk_cell BO 5
          simp only [List.getElem?_toArray, List.getElem?_cons_zero, List.getElem?_cons_succ] at z
          have HY : Hid _ := MYs.ext (ext_below b6) HY.out
          have H4 : Hid _ := own_later H4.out b6
          have sM : Hid _ := MethV.ext (ext_below b6) sM.out
          refine hK.out _ _ ⟨cellOn y5 kk, cellOn m0 kk, cellOn m1 kk, cellOn m2 kk, cellOn m3 kk, cellOn m4 kk, cellOn m5 kk, cellOn m6 kk, cellOn m7 kk, cellOn m8 kk, cellOn m9 kk⟩ (fun hHeld => ?_)
          clear hK K
          generalize w5.alloc (.cells #[.string Y.name, .slice e1 Y.params.length f1, .string Y.ret, .bool Y.static, .bool Y.abstract, .int .i64 Y.locals, .int .i64 Y.stack, .slice e7 Y.code.length f7, .slice e8 Y.maps.length f8, .slice e9 Y.traps.length f9] 46) = w6 at *
          have hB6 := kk.size
          clear b6
          refine wpAnyH_ready (rs := [1]) (by kernel_rfl) (by simp) ?_
          refine AllReadyH.cons (o := ⟨some 61, _, _, _, _, _⟩) rfl (fun K hK => ?_) AllReadyH.nil
          go_simp
          refine hK.out _ _ (by assumption) (fun hHeld => ?_)
          clear hK K
          refine wpAnyH_ready (rs := [9]) (by kernel_rfl) (by simp) ?_
          refine AllReadyH.cons (o := ⟨some 69, _, _, _, _, _⟩) rfl (fun K hK => ?_) AllReadyH.nil
          have hne := own_ne_blk own BO (by decide)
          have hlow := fun g e => (own.lt g e).1
          refine step_append_lies _ rfl (.tmp 61) (.tmp 68) 24 rfl wB.heap.size 46 iM (.agg #[.string ⟨#[]⟩, .slice none 0 0, .string ⟨#[]⟩, .bool false, .bool false, .int .i64 0, .int .i64 0, .slice none 0 0, .slice none 0 0, .slice none 0 0]) 10 152 Tryz.underlying24 hiM hzM0 hzM1 hzM2 rfl (by decide) v5 k _ rfl own ⟨w5.heap.size, 0, none⟩ 1 1 (mcells (⟨Y, .slice e1 Y.params.length f1, .slice e7 Y.code.length f7, .slice e8 Y.maps.length f8, .slice e9 Y.traps.length f9⟩ : MY)) rfl rfl hnews (one_mcells _ _ _ _ _ _ _ _ _ _ _ _ _) (by decide) (by unfold maxLen; omega) (by omega) hB6 _ rfl ?_
          intro g' cap' w7 own7 g7 hat hlt
          have kk := kk.grown g7 hB6 hlow
          have BO := blk_grown BO g7 hne
          have ex := ex.trans (ext_grown own (by decide) g7)
          have H4 : Hid _ := World.ownsRow.kept H4.out g7 (own_apart H4.out own (by decide))
          have HY : Hid _ := MYs.ext (ext_grown own (by decide) g7) HY.out
          have sM : Hid _ := MethV.ext (ext_grown own (by decide) g7) sM.out
          have z := blk_cell BO 5
          simp only [List.getElem?_toArray, List.getElem?_cons_zero, List.getElem?_cons_succ] at z
          have zf := blk_free BO 5
          refine hK.out _ _ ⟨cellOn y5 kk, cellOn m0 kk, cellOn m1 kk, cellOn m2 kk, cellOn m3 kk, cellOn m4 kk, cellOn m5 kk, cellOn m6 kk, cellOn m7 kk, cellOn m8 kk, cellOn m9 kk⟩ (fun hHeld => ?_)
          clear hK K
          clear own hnews g7 hne hlow
          refine wpAnyH_take (i := 10) (oi := ⟨some 70, _, _, _, _, _⟩) (v := ?_) rfl (by kernel_rfl) (by kernel_rfl) (by kernel_rfl) (fun _ _ _ h => h) (Or.inl ⟨by kernel_rfl, fun Wx hSw => ?_⟩) (by assumption) ?_
          rotate_left
          · ((try dsimp only at hSw); go_simp; try with_reducible rfl)
          simp only [Act.put, List.setIfInBounds_toArray, List.set_cons_zero, List.set_cons_succ]
          refine wpAnyH_ready (rs := [11]) (by kernel_rfl) (by simp) ?_
          refine AllReadyH.cons (o := ⟨none, _, _, _, _, _⟩) rfl (fun K hK => ?_) AllReadyH.nil
          go_simp
          have BO5 : (w7.setCell ⟨O, 5, none⟩ (.slice (some ⟨g', 0, none⟩) (k + 1) cap')).heap[O]? = some (.cells #[.string (cutS nm 10), .string (cutS su 10), .bool fa, v3, v4, (.slice (some ⟨g', 0, none⟩) (k + 1) cap')] 26 (0, 0)) := blk_set BO 5 _
          have own := ownsRow_setCell_other own7 (a := ⟨O, 5, none⟩) (fun e => own_ne_blk own7 BO (by decide) e.symm) (.slice (some ⟨g', 0, none⟩) (k + 1) cap')
          have kk := kk.setCell (p := ⟨O, 5, none⟩) hO (.slice (some ⟨g', 0, none⟩) (k + 1) cap')
          have ex := ex.trans (ext_set BO (by decide) 5 (.slice (some ⟨g', 0, none⟩) (k + 1) cap'))
          have HY : Hid _ := MYs.ext (ext_set BO (by decide) 5 (.slice (some ⟨g', 0, none⟩) (k + 1) cap')) HY.out
          have sM : Hid _ := MethV.ext (ext_set BO (by decide) 5 (.slice (some ⟨g', 0, none⟩) (k + 1) cap')) sM.out
          have H4 : Hid _ := ownsRow_setCell_other H4.out (a := ⟨O, 5, none⟩) (fun e => own_ne_blk H4.out BO (by decide) e.symm) (.slice (some ⟨g', 0, none⟩) (k + 1) cap')
          refine hK.out _ _ ⟨cellOn y5 kk, cellOn m0 kk, cellOn m1 kk, cellOn m2 kk, cellOn m3 kk, cellOn m4 kk, cellOn m5 kk, cellOn m6 kk, cellOn m7 kk, cellOn m8 kk, cellOn m9 kk⟩ (fun hHeld => ?_)
          clear hK K
          generalize w7.setCell ⟨O, 5, none⟩ (.slice (some ⟨g', 0, none⟩) (k + 1) cap') = w8 at *
          clear own7 BO z zf
          refine wpAnyH_done (by kernel_rfl) ?_ _
          clear hHeld y4 y5 HC m0 m1 m2 m3 m4 m5 m6 m7 m8 m9
          have e4 : ML.flatMap mcells ++ mcells (⟨Y, .slice e1 Y.params.length f1, .slice e7 Y.code.length f7, .slice e8 Y.maps.length f8, .slice e9 Y.traps.length f9⟩ : MY) = (ML ++ [(⟨Y, .slice e1 Y.params.length f1, .slice e7 Y.code.length f7, .slice e8 Y.maps.length f8, .slice e9 Y.traps.length f9⟩ : MY)]).flatMap mcells := by rw [List.flatMap_append]; simp
          rw [e4] at own
          have e5 : Hid ((ML ++ [(⟨Y, .slice e1 Y.params.length f1, .slice e7 Y.code.length f7, .slice e8 Y.maps.length f8, .slice e9 Y.traps.length f9⟩ : MY)]).map (·.m) = (ms.take (k + 1)).map cutM) := by show _ = _; rw [List.map_append, HE.out, HS.out]; rfl
          have e6 : Hid _ := MYs.add HY.out (y := (⟨Y, .slice e1 Y.params.length f1, .slice e7 Y.code.length f7, .slice e8 Y.maps.length f8, .slice e9 Y.traps.length f9⟩ : MY)) sM.out
          clear HE HS e4
          go_wp2_with fail
          go_roundw
          case rel => exact ⟨k + 1, _, _, by omega, by omega, by go_num, e5.out, BO5, own, e6.out, ex, H4.out, kk⟩
          case measure => simp [intOf]; omega
        case neg =>
          have d1 : decide ((k : Int) < (ms.length : Int)) = true := by simp; omega
          have d3 : decide (k < ms.length) = true := by simp; omega
          have d2 : decide ((k : Int) < 10) = false := by simp; omega
          have d4 : decide (k < 10) = false := by simp; omega
          have eL : Hid (ML.map (·.m) = (ms.take 10).map cutM) := by show _ = _; rw [HE.out, show k = 10 by omega]
          have eN : ML.length = k := by have := congrArg List.length HE.out; simp at this; omega
          have H5 : Hid _ := sl_meths (own_msk (p := pCF) own (by decide)) eN (MYs.ext (ext_mono wr pMC_CF) HY.out)
          rw [eL.out] at H5
          clear own eL eN HE HY
          go_wp2_with fail
          go_meet
          exact ⟨_, BO, sls_ext ex H3.out, H4.out, H5.out, hbel⟩
      case neg =>
        have d1 : decide ((k : Int) < (ms.length : Int)) = false := by simp; omega
        have d3 : decide (k < ms.length) = false := by simp; omega
        have eL : Hid (ML.map (·.m) = (ms.take 10).map cutM) := by show _ = _; rw [HE.out, List.take_of_length_le (by omega), List.take_of_length_le (by omega)]
        have eN : ML.length = k := by have := congrArg List.length HE.out; simp at this; omega
        have H5 : Hid _ := sl_meths (own_msk (p := pCF) own (by decide)) eN (MYs.ext (ext_mono wr pMC_CF) HY.out)
        rw [eL.out] at H5
        clear own eL eN HE HY
        go_wp2_with fail
        go_meet
        exact ⟨_, BO, sls_ext ex H3.out, H4.out, H5.out, hbel⟩
  case rest =>
  clear BO H3 H4 kC
  obtain ⟨v5, BO, h3, h4, h5, kC⟩ := hcut
  have BR2 := blk_up BR kC (lt_of_block BR)
  have HM3 : Hid _ := sls_ext (ext_mono wc pS_CF) h3
  have HM4 : Hid _ := own_low h4 kB.size
  have HM5 : Hid _ := h5
  obtain ⟨a4, c4, rfl⟩ := own_sl h4
  obtain ⟨a3, c3, rfl, _⟩ := h3
  obtain ⟨a5, c5, rfl, _⟩ := h5
  clear y4 y5
  go_upto_region 11 with fail
  refine wp_region_list ?_
  refine wpList_load_mid rfl _ _ rfl O 0 rfl #[.string (cutS nm 10), .string (cutS su 10), .bool fa, .slice a3 (cutTs 6 im).length c3, .slice a4 ((fs.take 10).map cutF).length c4, .slice a5 ((ms.take 10).map cutM).length c5].toList _ (range_blk BO) Tryz.underlying26 rfl info6 ?_
  refine wpList_store_mid rfl _ _ _ rfl (w.heap.size + 1) 0 #[.string (cutS nm 10), .string (cutS su 10), .bool fa, .slice a3 (cutTs 6 im).length c3, .slice a4 ((fs.take 10).map cutF).length c4, .slice a5 ((ms.take 10).map cutM).length c5] rfl rfl (there_blk BR2 (by simp)) info6 (by simp [Value.oneCell']) ?_
  have BZ := blk_sets6 BR2 (.string (cutS nm 10)) (.string (cutS su 10)) (.bool fa) (.slice a3 (cutTs 6 im).length c3) (.slice a4 ((fs.take 10).map cutF).length c4) (.slice a5 ((ms.take 10).map cutM).length c5)
  have eZ : Ext (msk pCF wc) _ := ext_sets (p := pCF) (T := 26) (by decide) #[.string (cutS nm 10), .string (cutS su 10), .bool fa, .slice a3 (cutTs 6 im).length c3, .slice a4 ((fs.take 10).map cutF).length c4, .slice a5 ((ms.take 10).map cutM).length c5].toList 0 wc _ BR2
  have HM4 : Hid _ := own_sets HM4.out (own_ne_blk HM4.out BR2 (by decide)) #[.string (cutS nm 10), .string (cutS su 10), .bool fa, .slice a3 (cutTs 6 im).length c3, .slice a4 ((fs.take 10).map cutF).length c4, .slice a5 ((ms.take 10).map cutM).length c5].toList 0
  have kW := kB.trans (kC.mono kB.size)
  have kZ := below_sets (Nat.le_succ w.heap.size) #[.string (cutS nm 10), .string (cutS su 10), .bool fa, .slice a3 (cutTs 6 im).length c3, .slice a4 ((fs.take 10).map cutF).length c4, .slice a5 ((ms.take 10).map cutM).length c5].toList 0 _ kW
  generalize wc.setCells (w.heap.size + 1) 0 #[.string (cutS nm 10), .string (cutS su 10), .bool fa, .slice a3 (cutTs 6 im).length c3, .slice a4 ((fs.take 10).map cutF).length c4, .slice a5 ((ms.take 10).map cutM).length c5].toList = wZ at *
  have r0 := blk_cell BZ 0
  have r1 := blk_cell BZ 1
  have r2 := blk_cell BZ 2
  have r3 := blk_cell BZ 3
  have r4 := blk_cell BZ 4
  have r5 := blk_cell BZ 5
  simp only [List.getElem?_toArray, List.getElem?_cons_zero, List.getElem?_cons_succ] at r0 r1 r2 r3 r4 r5
  clear BO BR2 kC
  go_wp2_with fail
  refine bodyPost_ret (by simp [results, Tryz.results9, go_sem, r0, r1, r2, r3, r4, r5]; try rfl) rfl ?_
  have hm3 := sls_ext eZ HM3.out
  have hm5 := Sl.ext (methE_ext eZ) eZ.1 HM5.out
  have hm4 := HM4.out
  simp only [List.length_map, List.length_take] at hm3 hm4 hm5
  refine ⟨_, _, _, rfl, ⟨hm3, ?_, hm5, cutS_max _ _ (by decide), cutS_max _ _ (by decide), fun x hx => cutF_small hx⟩, kZ⟩
  simp only [cutC, List.length_map, List.length_take]
  exact hm4
theorem cutc_any (nm su : ByteArray) (fa : Bool) (im : List ByteArray) (fs : List FieldL) (ms : List MethL) (q3 q4 q5 : Option Addr) (d3 d4 d5 : Nat) (w : World)
    (hv : ClsV w (.slice q3 im.length d3) (.slice q4 fs.length d4) (.slice q5 ms.length d5) ⟨nm, su, fa, im, fs, ms⟩) :
    Calls Tryz.prog 9 #[.agg #[.string nm, .string su, .bool fa, .slice q3 im.length d3, .slice q4 fs.length d4, .slice q5 ms.length d5]] w fun e w' =>
      ∃ v3 v4 v5, e = .returned (clsVal v3 v4 v5 (cutC ⟨nm, su, fa, im, fs, ms⟩)) ∧ ClsV (msk pC w') v3 v4 v5 (cutC ⟨nm, su, fa, im, fs, ms⟩) ∧ Below w.heap.size w w' :=
  (cutc_own nm su fa im fs ms q3 q4 q5 d3 d4 d5 w hv).mono fun e w' ⟨v3, v4, v5, h1, h2, h3⟩ => ⟨v3, v4, v5, h1, h2.cls, h3⟩
end Fil
end Go.Proofs.YtjblmgdjaaeedaaGreat
