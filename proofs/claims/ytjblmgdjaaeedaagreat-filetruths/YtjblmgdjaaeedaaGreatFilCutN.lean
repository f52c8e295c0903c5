/- The laws' own Cut: a method. (Written by tools/gen/gencutm.py.) -/
import Derived.Test.YtjblmgdjaaeedaaGreatFilCutA
namespace Go.Proofs.YtjblmgdjaaeedaaGreat
namespace Fil
open Num Kind Op4 Cls
open Go.RowKit
set_option linter.unusedVariables false
set_option linter.unusedSimpArgs false
set_option maxRecDepth 100000

def pS (T : Nat) : Bool := !(T == 9)
def pI (T : Nat) : Bool := !(T == 48)
def pX (T : Nat) : Bool := !(T == 50) && !(T == 9)
def pR (T : Nat) : Bool := !(T == 80)
def pMC (T : Nat) : Bool := (T == 46) || (T == 26) || (T == 40)
theorem pS_MC (T : Nat) (h : pS T = false) : pMC T = false := by
  simp [pS] at h
  subst h
  decide
theorem pI_MC (T : Nat) (h : pI T = false) : pMC T = false := by
  simp [pI] at h
  subst h
  decide
theorem pR_MC (T : Nat) (h : pR T = false) : pMC T = false := by
  simp [pR] at h
  subst h
  decide
theorem pX_MC (T : Nat) (h : pX T = false) : pMC T = false := by
  by_cases e : T = 50
  · subst e; decide
  · simp [pX, e] at h
    subst h
    decide
theorem pS_X (T : Nat) (h : pS T = false) : pX T = false := by
  simp [pS] at h
  subst h
  decide
theorem set10 (z0 z1 z2 z3 z4 z5 z6 z7 z8 z9 v0 v1 v2 v3 v4 v5 v6 v7 v8 v9 : Value) : setAll #[z0, z1, z2, z3, z4, z5, z6, z7, z8, z9] 0 [v0, v1, v2, v3, v4, v5, v6, v7, v8, v9] = #[v0, v1, v2, v3, v4, v5, v6, v7, v8, v9] := by
  simp only [setAll, List.setIfInBounds_toArray, List.set_cons_zero, List.set_cons_succ, Nat.reduceAdd]
theorem blk_sets10 {w : World} {B T : Nat} {z0 z1 z2 z3 z4 z5 z6 z7 z8 z9 : Value} (h : w.heap[B]? = some (.cells #[z0, z1, z2, z3, z4, z5, z6, z7, z8, z9] T (0, 0))) (v0 v1 v2 v3 v4 v5 v6 v7 v8 v9 : Value) : (w.setCells B 0 #[v0, v1, v2, v3, v4, v5, v6, v7, v8, v9].toList).heap[B]? = some (.cells #[v0, v1, v2, v3, v4, v5, v6, v7, v8, v9] T (0, 0)) := by
  have := blk_sets [v0, v1, v2, v3, v4, v5, v6, v7, v8, v9] 0 w _ h
  rw [set10] at this
  exact this
theorem one_map (n : Int) (a b : Option Addr) (i j k l : Nat) : ∀ u ∈ [Value.int .i64 n, .slice a i j, .slice b k l], u.oneCell' = true := by
  intro u hu
  simp at hu
  rcases hu with rfl | rfl | rfl <;> rfl
theorem yl_ext {w w' : World} (he : Ext w w') {YL : List (MapL × Value × Value)} (h : ∀ y ∈ YL, Sl strE 1 w y.2.1 y.1.locals ∧ Sl strE 1 w y.2.2 y.1.stack) : ∀ y ∈ YL, Sl strE 1 w' y.2.1 y.1.locals ∧ Sl strE 1 w' y.2.2 y.1.stack :=
  fun y hy => ⟨sls_ext he (h y hy).1, sls_ext he (h y hy).2⟩
theorem yl_add {w : World} {YL : List (MapL × Value × Value)} (h : ∀ y ∈ YL, Sl strE 1 w y.2.1 y.1.locals ∧ Sl strE 1 w y.2.2 y.1.stack) {y : MapL × Value × Value} (h1 : Sl strE 1 w y.2.1 y.1.locals) (h2 : Sl strE 1 w y.2.2 y.1.stack) : ∀ z ∈ YL ++ [y], Sl strE 1 w z.2.1 z.1.locals ∧ Sl strE 1 w z.2.2 z.1.stack := fun z hz => by
  rcases List.mem_append.1 hz with hz | hz
  · exact h z hz
  · rw [List.mem_singleton.1 hz]; exact ⟨h1, h2⟩
theorem range_blk {w : World} {B T : Nat} {cs : Array Value} (h : w.heap[B]? = some (.cells cs T (0, 0))) : w.rangeAt B 0 cs.toList := fun j v hv => by
  rw [Nat.zero_add, blk_cell h]
  simpa using hv
theorem one_ins (x : InsL) : ∀ u ∈ icells x, u.oneCell' = true := by
  intro u hu
  simp [icells] at hu
  rcases hu with rfl | rfl | rfl | rfl <;> rfl
theorem one_trap (x : TrapL) : ∀ u ∈ rcells x, u.oneCell' = true := by
  intro u hu
  simp [rcells] at hu
  rcases hu with rfl | rfl | rfl | rfl <;> rfl
theorem cutI_small {l : List InsL} {x : InsL} (h : x ∈ l.map cutI) : x.c.size ≤ maxLen ∧ x.m.size ≤ maxLen := by
  obtain ⟨y, _, rfl⟩ := List.mem_map.1 h
  exact ⟨cutS_max _ _ (by decide), cutS_max _ _ (by decide)⟩
theorem cutR_small {l : List TrapL} {x : TrapL} (h : x ∈ l.map cutR) : x.c.size ≤ maxLen := by
  obtain ⟨y, _, rfl⟩ := List.mem_map.1 h
  exact cutS_max _ _ (by decide)
theorem info10 : (Tryz.prog.info? 46).map (·.size) = some 10 := by kernel_rfl
theorem infoX : (Tryz.prog.info? 50).map (fun i => (i.zero, i.size, i.bytes)) = some (some (.agg #[.int .i64 0, .slice none 0 0, .slice none 0 0]), 3, 56) := by kernel_rfl
def xcells (y : MapL × Value × Value) : List Value := [.int .i64 y.1.at', y.2.1, y.2.2]
theorem sl_maps {w : World} {base : Nat} {v : Value} {n : Nat} {l : List (MapL × Value × Value)} (h : w.ownsRow base 50 3 v n (l.flatMap xcells)) (hl : l.length = n) (hs : ∀ y ∈ l, Sl strE 1 w y.2.1 y.1.locals ∧ Sl strE 1 w y.2.2 y.1.stack) : Sl mapE 3 w v (l.map (·.1)) :=
  Sl.own h (by simpa using hl) (fun b hb i hi => by
    have hi' : i < l.length := by simpa using hi
    have hat := fun j hj => flat_same xcells 3 (fun x => rfl) l i j hi' hj
    have h2 := hs _ (List.getElem_mem hi')
    rw [List.getElem_map]
    exact ⟨_, _, hb _ _ (hat 0 (by decide)), hb _ _ (hat 1 (by decide)), hb _ _ (hat 2 (by decide)), h2.1, h2.2⟩)

set_option maxHeartbeats 16000000 in
theorem cutm_any (nm : ByteArray) (ps : List ByteArray) (rt : ByteArray) (st ab : Bool) (lo sk : Int) (cd : List InsL) (mp : List MapL) (tr : List TrapL) (q1 q7 q8 q9 : Option Addr) (d1 d7 d8 d9 : Nat) (w : World)
    (hv : MethV w (.slice q1 ps.length d1) (.slice q7 cd.length d7) (.slice q8 mp.length d8) (.slice q9 tr.length d9) ⟨nm, ps, rt, st, ab, lo, sk, cd, mp, tr⟩) :
    Calls Tryz.prog 21 #[.agg #[.string nm, .slice q1 ps.length d1, .string rt, .bool st, .bool ab, .int .i64 lo, .int .i64 sk, .slice q7 cd.length d7, .slice q8 mp.length d8, .slice q9 tr.length d9]] w fun e w' =>
      ∃ v1 v7 v8 v9, e = .returned (methVal v1 v7 v8 v9 (cutM ⟨nm, ps, rt, st, ab, lo, sk, cd, mp, tr⟩)) ∧ MethV (msk pMC w') v1 v7 v8 v9 (cutM ⟨nm, ps, rt, st, ab, lo, sk, cd, mp, tr⟩) ∧ Below w.heap.size w w' := by
  obtain ⟨iS, hiS, hzS0, hzS1, hzS2⟩ := info_parts infoS
  obtain ⟨iI, hiI, hzI0, hzI1, hzI2⟩ := info_parts infoI
  obtain ⟨iT, hiT, hzT0, hzT1, hzT2⟩ := info_parts infoT
  obtain ⟨iX, hiX, hzX0, hzX1, hzX2⟩ := info_parts infoX
  have k0 := alloc1 w (.cells #[.string nm, .slice q1 ps.length d1, .string rt, .bool st, .bool ab, .int .i64 lo, .int .i64 sk, .slice q7 cd.length d7, .slice q8 mp.length d8, .slice q9 tr.length d9] 46)
  have BM0 := blk_new w #[.string nm, .slice q1 ps.length d1, .string rt, .bool st, .bool ab, .int .i64 lo, .int .i64 sk, .slice q7 cd.length d7, .slice q8 mp.length d8, .slice q9 tr.length d9] 46
  have kz := alloc1 (w.alloc (.cells #[.string nm, .slice q1 ps.length d1, .string rt, .bool st, .bool ab, .int .i64 lo, .int .i64 sk, .slice q7 cd.length d7, .slice q8 mp.length d8, .slice q9 tr.length d9] 46)) (.cells #[.string ⟨#[]⟩, .slice none 0 0, .string ⟨#[]⟩, .bool false, .bool false, .int .i64 0, .int .i64 0, .slice none 0 0, .slice none 0 0, .slice none 0 0] 46)
  have BM := blk_on BM0 kz
  have BR := blk_new (w.alloc (.cells #[.string nm, .slice q1 ps.length d1, .string rt, .bool st, .bool ab, .int .i64 lo, .int .i64 sk, .slice q7 cd.length d7, .slice q8 mp.length d8, .slice q9 tr.length d9] 46)) #[.string ⟨#[]⟩, .slice none 0 0, .string ⟨#[]⟩, .bool false, .bool false, .int .i64 0, .int .i64 0, .slice none 0 0, .slice none 0 0, .slice none 0 0] 46
  rw [alloc_size] at BR
  have kB := k0.trans (kz.mono k0.size)
  go_enter Tryz.func21, Tryz.ntmps21
  go_upto_region 1 with fail
  generalize (w.alloc (.cells #[.string nm, .slice q1 ps.length d1, .string rt, .bool st, .bool ab, .int .i64 lo, .int .i64 sk, .slice q7 cd.length d7, .slice q8 mp.length d8, .slice q9 tr.length d9] 46)).alloc (.cells #[.string ⟨#[]⟩, .slice none 0 0, .string ⟨#[]⟩, .bool false, .bool false, .int .i64 0, .int .i64 0, .slice none 0 0, .slice none 0 0, .slice none 0 0] 46) = wB at *
  clear k0 kz BM0
  have hvB := hv.later kB
  have s0 := hv.s0
  have s2 := hv.s2
  simp only at s0 s2
  go_cut [3] (fun s3 wc => ∃ (O : Nat) (v1 : Value), s3 = .pointer (some ⟨O, 0, none⟩) ∧ wB.heap.size ≤ O ∧ wc.heap[O]? = some (.cells #[.string (cutS nm 10), v1, .string (cutS rt 12), .bool st, .bool ab, .int .i64 lo, .int .i64 sk, .slice none 0 0, .slice none 0 0, .slice none 0 0] 46 (0, 0)) ∧ wc.ownsRow wB.heap.size 9 1 v1 (cutTs 8 ps).length (strs (cutTs 8 ps)) ∧ Below wB.heap.size wB wc)
  case first =>
    have x0 := blk_cell BM 0
    have x1 := blk_cell BM 1
    have x2 := blk_cell BM 2
    have x3 := blk_cell BM 3
    have x4 := blk_cell BM 4
    have x5 := blk_cell BM 5
    have x6 := blk_cell BM 6
    simp only [List.getElem?_toArray, List.getElem?_cons_zero, List.getElem?_cons_succ] at x0 x1 x2 x3 x4 x5 x6
    have kk : Below wB.heap.size wB wB.drew := (Below.refl _ _).drew
    have HT := fun W (b : Below wB.heap.size wB W) => texts_any _ ps W 8 (by decide) (hvB.params.later strE_stable b)
    refine wp_region_held_drew (S := fun W' => W'.cell? ⟨w.heap.size, 0, none⟩ = some (.string nm) ∧ W'.cell? ⟨w.heap.size, 1, none⟩ = some (.slice q1 ps.length d1) ∧ W'.cell? ⟨w.heap.size, 2, none⟩ = some (.string rt) ∧ W'.cell? ⟨w.heap.size, 3, none⟩ = some (.bool st) ∧ W'.cell? ⟨w.heap.size, 4, none⟩ = some (.bool ab) ∧ W'.cell? ⟨w.heap.size, 5, none⟩ = some (.int .i64 lo) ∧ W'.cell? ⟨w.heap.size, 6, none⟩ = some (.int .i64 sk)) (by kernel_rfl) ⟨cellOn x0 kk, cellOn x1 kk, cellOn x2 kk, cellOn x3 kk, cellOn x4 kk, cellOn x5 kk, cellOn x6 kk⟩ (fun hHeld => ?_)
    have hkk := kk.size
    refine wpAnyH_take (i := 0) (oi := ⟨some 8, _, _, _, _, _⟩) (v := ?_) rfl (by kernel_rfl) (by kernel_rfl) (by kernel_rfl) (fun _ _ _ h => h) (Or.inl ⟨by kernel_rfl, fun Wx hSw => ?_⟩) (by assumption) ?_
    rotate_left
    · ((try dsimp only at hSw); go_simp; try with_reducible rfl)
    simp only [Act.put, List.setIfInBounds_toArray, List.set_cons_zero, List.set_cons_succ]
    refine wpAnyH_take (i := 1) (oi := ⟨some 9, _, _, _, _, _⟩) (v := ?_) rfl (by kernel_rfl) (by kernel_rfl) (by kernel_rfl) (fun _ _ _ h => h) (Or.inl ⟨by kernel_rfl, fun Wx hSw => ?_⟩) (by assumption) ?_
    rotate_left
    · ((try dsimp only at hSw); go_simp; try with_reducible rfl)
    simp only [Act.put, List.setIfInBounds_toArray, List.set_cons_zero, List.set_cons_succ]
    refine wpAnyH_take (i := 3) (oi := ⟨some 11, _, _, _, _, _⟩) (v := ?_) rfl (by kernel_rfl) (by kernel_rfl) (by kernel_rfl) (fun _ _ _ h => h) (Or.inl ⟨by kernel_rfl, fun Wx hSw => ?_⟩) (by assumption) ?_
    rotate_left
    · ((try dsimp only at hSw); go_simp; try with_reducible rfl)
    simp only [Act.put, List.setIfInBounds_toArray, List.set_cons_zero, List.set_cons_succ]
    refine wpAnyH_take (i := 4) (oi := ⟨some 12, _, _, _, _, _⟩) (v := ?_) rfl (by kernel_rfl) (by kernel_rfl) (by kernel_rfl) (fun _ _ _ h => h) (Or.inl ⟨by kernel_rfl, fun Wx hSw => ?_⟩) (by assumption) ?_
    rotate_left
    · ((try dsimp only at hSw); go_simp; try with_reducible rfl)
    simp only [Act.put, List.setIfInBounds_toArray, List.set_cons_zero, List.set_cons_succ]
    refine wpAnyH_take (i := 6) (oi := ⟨some 14, _, _, _, _, _⟩) (v := ?_) rfl (by kernel_rfl) (by kernel_rfl) (by kernel_rfl) (fun _ _ _ h => h) (Or.inl ⟨by kernel_rfl, fun Wx hSw => ?_⟩) (by assumption) ?_
    rotate_left
    · ((try dsimp only at hSw); go_simp; try with_reducible rfl)
    simp only [Act.put, List.setIfInBounds_toArray, List.set_cons_zero, List.set_cons_succ]
    refine wpAnyH_take (i := 7) (oi := ⟨some 15, _, _, _, _, _⟩) (v := ?_) rfl (by kernel_rfl) (by kernel_rfl) (by kernel_rfl) (fun _ _ _ h => h) (Or.inl ⟨by kernel_rfl, fun Wx hSw => ?_⟩) (by assumption) ?_
    rotate_left
    · ((try dsimp only at hSw); go_simp; try with_reducible rfl)
    simp only [Act.put, List.setIfInBounds_toArray, List.set_cons_zero, List.set_cons_succ]
    refine wpAnyH_take (i := 9) (oi := ⟨some 17, _, _, _, _, _⟩) (v := ?_) rfl (by kernel_rfl) (by kernel_rfl) (by kernel_rfl) (fun _ _ _ h => h) (Or.inl ⟨by kernel_rfl, fun Wx hSw => ?_⟩) (by assumption) ?_
    rotate_left
    · ((try dsimp only at hSw); go_simp; try with_reducible rfl)
    simp only [Act.put, List.setIfInBounds_toArray, List.set_cons_zero, List.set_cons_succ]
    refine wpAnyH_take (i := 10) (oi := ⟨some 18, _, _, _, _, _⟩) (v := ?_) rfl (by kernel_rfl) (by kernel_rfl) (by kernel_rfl) (fun _ _ _ h => h) (Or.inl ⟨by kernel_rfl, fun Wx hSw => ?_⟩) (by assumption) ?_
    rotate_left
    · ((try dsimp only at hSw); go_simp; try with_reducible rfl)
    simp only [Act.put, List.setIfInBounds_toArray, List.set_cons_zero, List.set_cons_succ]
    refine wpAnyH_take (i := 11) (oi := ⟨some 19, _, _, _, _, _⟩) (v := ?_) rfl (by kernel_rfl) (by kernel_rfl) (by kernel_rfl) (fun _ _ _ h => h) (Or.inl ⟨by kernel_rfl, fun Wx hSw => ?_⟩) (by assumption) ?_
    rotate_left
    · ((try dsimp only at hSw); go_simp; try with_reducible rfl)
    simp only [Act.put, List.setIfInBounds_toArray, List.set_cons_zero, List.set_cons_succ]
    refine wpAnyH_take (i := 12) (oi := ⟨some 20, _, _, _, _, _⟩) (v := ?_) rfl (by kernel_rfl) (by kernel_rfl) (by kernel_rfl) (fun _ _ _ h => h) (Or.inl ⟨by kernel_rfl, fun Wx hSw => ?_⟩) (by assumption) ?_
    rotate_left
    · ((try dsimp only at hSw); go_simp; try with_reducible rfl)
    simp only [Act.put, List.setIfInBounds_toArray, List.set_cons_zero, List.set_cons_succ]
    refine wpAnyH_take (i := 13) (oi := ⟨some 21, _, _, _, _, _⟩) (v := ?_) rfl (by kernel_rfl) (by kernel_rfl) (by kernel_rfl) (fun _ _ _ h => h) (Or.inl ⟨by kernel_rfl, fun Wx hSw => ?_⟩) (by assumption) ?_
    rotate_left
    · ((try dsimp only at hSw); go_simp; try with_reducible rfl)
    simp only [Act.put, List.setIfInBounds_toArray, List.set_cons_zero, List.set_cons_succ]
    refine wpAnyH_take (i := 14) (oi := ⟨some 22, _, _, _, _, _⟩) (v := ?_) rfl (by kernel_rfl) (by kernel_rfl) (by kernel_rfl) (fun _ _ _ h => h) (Or.inl ⟨by kernel_rfl, fun Wx hSw => ?_⟩) (by assumption) ?_
    rotate_left
    · ((try dsimp only at hSw); go_simp; try with_reducible rfl)
    simp only [Act.put, List.setIfInBounds_toArray, List.set_cons_zero, List.set_cons_succ]
    refine wpAnyH_take (i := 15) (oi := ⟨some 23, _, _, _, _, _⟩) (v := ?_) rfl (by kernel_rfl) (by kernel_rfl) (by kernel_rfl) (fun _ _ _ h => h) (Or.inl ⟨by kernel_rfl, fun Wx hSw => ?_⟩) (by assumption) ?_
    rotate_left
    · ((try dsimp only at hSw); go_simp; try with_reducible rfl)
    simp only [Act.put, List.setIfInBounds_toArray, List.set_cons_zero, List.set_cons_succ]
    refine wpAnyH_take (i := 16) (oi := ⟨some 24, _, _, _, _, _⟩) (v := ?_) rfl (by kernel_rfl) (by kernel_rfl) (by kernel_rfl) (fun _ _ _ h => h) (Or.inl ⟨by kernel_rfl, fun Wx hSw => ?_⟩) (by assumption) ?_
    rotate_left
    · ((try dsimp only at hSw); go_simp; try with_reducible rfl)
    simp only [Act.put, List.setIfInBounds_toArray, List.set_cons_zero, List.set_cons_succ]
    refine wpAnyH_ready (rs := [2, 18]) (by kernel_rfl) (by simp) ?_
    refine AllReadyH.cons (o := ⟨some 10, _, _, _, _, _⟩) rfl (fun K hK => ?_) ?_
    · go_simp
      go_wp2_with (go_at_call 19; refine (cut_any nm _ 10 10 rfl (by decide) s0).mono ?_; rintro e w' ⟨rfl, rfl⟩)
      refine hK.out _ _ (by assumption) (fun hHeld => ?_)
      clear hK K
      refine wpAnyH_ready (rs := [5, 18]) (by kernel_rfl) (by simp) ?_
      refine AllReadyH.cons (o := ⟨some 13, _, _, _, _, _⟩) rfl (fun K hK => ?_) ?_
      · go_simp
        go_wp2_with (go_at_call 20; refine (HT _ kk).mono ?_; rintro e wT ⟨vT, rfl, ownT, bT⟩; obtain ⟨aT, cT, rfl⟩ := own_sl ownT)
        have kk := kk.trans (bT.mono kk.size)
        have ownT := own_low ownT hkk
        refine hK.out _ _ ⟨cellOn x0 kk, cellOn x1 kk, cellOn x2 kk, cellOn x3 kk, cellOn x4 kk, cellOn x5 kk, cellOn x6 kk⟩ (fun hHeld => ?_)
        clear hK K
        have hkk := kk.size
        refine wpAnyH_ready (rs := [8, 18]) (by kernel_rfl) (by simp) ?_
        refine AllReadyH.cons (o := ⟨some 16, _, _, _, _, _⟩) rfl (fun K hK => ?_) ?_
        · go_simp
          go_wp2_with (go_at_call 19; refine (cut_any rt _ 12 12 rfl (by decide) s2).mono ?_; rintro e w' ⟨rfl, rfl⟩)
          refine hK.out _ _ (by assumption) (fun hHeld => ?_)
          clear hK K
          refine wpAnyH_take (i := 17) (oi := ⟨some 25, _, _, _, _, _⟩) (v := ?_) rfl (by kernel_rfl) (by kernel_rfl) (by kernel_rfl) (fun _ _ _ h => h) (Or.inl ⟨by kernel_rfl, fun Wx hSw => ?_⟩) (by assumption) ?_
          rotate_left
          · ((try dsimp only at hSw); go_simp; try with_reducible rfl)
          simp only [Act.put, List.setIfInBounds_toArray, List.set_cons_zero, List.set_cons_succ]
          refine wpAnyH_ready (rs := [18]) (by kernel_rfl) (by simp) ?_
          refine AllReadyH.cons (o := ⟨some 3, _, _, _, _, _⟩) rfl (fun K hK => ?_) AllReadyH.nil
          go_simp
          have hO : wB.heap.size ≤ wT.heap.size := hkk
          have BO := blk_new wT #[.string ⟨#[]⟩, .slice none 0 0, .string ⟨#[]⟩, .bool false, .bool false, .int .i64 0, .int .i64 0, .slice none 0 0, .slice none 0 0, .slice none 0 0] 46
          have kA := alloc1 wT (.cells #[.string ⟨#[]⟩, .slice none 0 0, .string ⟨#[]⟩, .bool false, .bool false, .int .i64 0, .int .i64 0, .slice none 0 0, .slice none 0 0, .slice none 0 0] 46)
          have kk := kk.trans (kA.mono kk.size)
          have ownT := own_later ownT kA
          refine hK.out _ _ ⟨cellOn x0 kk, cellOn x1 kk, cellOn x2 kk, cellOn x3 kk, cellOn x4 kk, cellOn x5 kk, cellOn x6 kk⟩ (fun hHeld => ?_)
          clear hK K
          have hkk := kk.size
          generalize wT.alloc (.cells #[.string ⟨#[]⟩, .slice none 0 0, .string ⟨#[]⟩, .bool false, .bool false, .int .i64 0, .int .i64 0, .slice none 0 0, .slice none 0 0, .slice none 0 0] 46) = wA at *
          refine wpAnyH_ready (rs := [19]) (by kernel_rfl) (by simp) ?_
          refine AllReadyH.cons (o := ⟨none, _, _, _, _, _⟩) rfl (fun K hK => ?_) AllReadyH.nil
          rw [if_pos (by kernel_rfl)]
          refine wp_store_mid _ _ _ rfl wT.heap.size 0 #[.string (cutS nm 10), .slice aT (cutTs 8 ps).length cT, .string (cutS rt 12), .bool st, .bool ab, .int .i64 lo, .int .i64 sk, .slice none 0 0, .slice none 0 0, .slice none 0 0] rfl rfl (there_blk BO (by simp)) info10 (by simp [Value.oneCell']) ?_
          have hne := own_ne_blk ownT BO (by decide)
          have kk := below_sets hO #[.string (cutS nm 10), .slice aT (cutTs 8 ps).length cT, .string (cutS rt 12), .bool st, .bool ab, .int .i64 lo, .int .i64 sk, .slice none 0 0, .slice none 0 0, .slice none 0 0].toList 0 _ kk
          have BZ : (wA.setCells (wT.heap.size) 0 #[.string (cutS nm 10), .slice aT (cutTs 8 ps).length cT, .string (cutS rt 12), .bool st, .bool ab, .int .i64 lo, .int .i64 sk, .slice none 0 0, .slice none 0 0, .slice none 0 0].toList).heap[wT.heap.size]? = some (.cells #[.string (cutS nm 10), .slice aT (cutTs 8 ps).length cT, .string (cutS rt 12), .bool st, .bool ab, .int .i64 lo, .int .i64 sk, .slice none 0 0, .slice none 0 0, .slice none 0 0] 46 (0, 0)) := blk_sets10 BO _ _ _ _ _ _ _ _ _ _
          have ownZ := own_sets ownT hne #[.string (cutS nm 10), .slice aT (cutTs 8 ps).length cT, .string (cutS rt 12), .bool st, .bool ab, .int .i64 lo, .int .i64 sk, .slice none 0 0, .slice none 0 0, .slice none 0 0].toList 0
          refine hK.out _ _ ⟨cellOn x0 kk, cellOn x1 kk, cellOn x2 kk, cellOn x3 kk, cellOn x4 kk, cellOn x5 kk, cellOn x6 kk⟩ (fun hHeld => ?_)
          clear hK K
          generalize (wA.setCells (wT.heap.size) 0 #[.string (cutS nm 10), .slice aT (cutTs 8 ps).length cT, .string (cutS rt 12), .bool st, .bool ab, .int .i64 lo, .int .i64 sk, .slice none 0 0, .slice none 0 0, .slice none 0 0].toList) = wZ at *
          refine wpAnyH_done (by kernel_rfl) ?_ _
          clear hHeld BO ownT hne x0 x1 x2 x3 x4 x5 x6 HT BM hvB
          go_wp2_with fail
          go_meet
          exact ⟨_, _, rfl, hO, BZ, ownZ, kk⟩
        refine AllReadyH.cons (o := ⟨some 3, _, _, _, _, _⟩) rfl (fun K hK => ?_) AllReadyH.nil
        go_simp
        have hO : wB.heap.size ≤ wT.heap.size := hkk
        have BO := blk_new wT #[.string ⟨#[]⟩, .slice none 0 0, .string ⟨#[]⟩, .bool false, .bool false, .int .i64 0, .int .i64 0, .slice none 0 0, .slice none 0 0, .slice none 0 0] 46
        have kA := alloc1 wT (.cells #[.string ⟨#[]⟩, .slice none 0 0, .string ⟨#[]⟩, .bool false, .bool false, .int .i64 0, .int .i64 0, .slice none 0 0, .slice none 0 0, .slice none 0 0] 46)
        have kk := kk.trans (kA.mono kk.size)
        have ownT := own_later ownT kA
        refine hK.out _ _ ⟨cellOn x0 kk, cellOn x1 kk, cellOn x2 kk, cellOn x3 kk, cellOn x4 kk, cellOn x5 kk, cellOn x6 kk⟩ (fun hHeld => ?_)
        clear hK K
        have hkk := kk.size
        generalize wT.alloc (.cells #[.string ⟨#[]⟩, .slice none 0 0, .string ⟨#[]⟩, .bool false, .bool false, .int .i64 0, .int .i64 0, .slice none 0 0, .slice none 0 0, .slice none 0 0] 46) = wA at *
        refine wpAnyH_ready (rs := [8]) (by kernel_rfl) (by simp) ?_
        refine AllReadyH.cons (o := ⟨some 16, _, _, _, _, _⟩) rfl (fun K hK => ?_) AllReadyH.nil
        go_simp
        go_wp2_with (go_at_call 19; refine (cut_any rt _ 12 12 rfl (by decide) s2).mono ?_; rintro e w' ⟨rfl, rfl⟩)
        refine hK.out _ _ (by assumption) (fun hHeld => ?_)
        clear hK K
        refine wpAnyH_take (i := 17) (oi := ⟨some 25, _, _, _, _, _⟩) (v := ?_) rfl (by kernel_rfl) (by kernel_rfl) (by kernel_rfl) (fun _ _ _ h => h) (Or.inl ⟨by kernel_rfl, fun Wx hSw => ?_⟩) (by assumption) ?_
        rotate_left
        · ((try dsimp only at hSw); go_simp; try with_reducible rfl)
        simp only [Act.put, List.setIfInBounds_toArray, List.set_cons_zero, List.set_cons_succ]
        refine wpAnyH_ready (rs := [19]) (by kernel_rfl) (by simp) ?_
        refine AllReadyH.cons (o := ⟨none, _, _, _, _, _⟩) rfl (fun K hK => ?_) AllReadyH.nil
        rw [if_pos (by kernel_rfl)]
        refine wp_store_mid _ _ _ rfl wT.heap.size 0 #[.string (cutS nm 10), .slice aT (cutTs 8 ps).length cT, .string (cutS rt 12), .bool st, .bool ab, .int .i64 lo, .int .i64 sk, .slice none 0 0, .slice none 0 0, .slice none 0 0] rfl rfl (there_blk BO (by simp)) info10 (by simp [Value.oneCell']) ?_
        have hne := own_ne_blk ownT BO (by decide)
        have kk := below_sets hO #[.string (cutS nm 10), .slice aT (cutTs 8 ps).length cT, .string (cutS rt 12), .bool st, .bool ab, .int .i64 lo, .int .i64 sk, .slice none 0 0, .slice none 0 0, .slice none 0 0].toList 0 _ kk
        have BZ : (wA.setCells (wT.heap.size) 0 #[.string (cutS nm 10), .slice aT (cutTs 8 ps).length cT, .string (cutS rt 12), .bool st, .bool ab, .int .i64 lo, .int .i64 sk, .slice none 0 0, .slice none 0 0, .slice none 0 0].toList).heap[wT.heap.size]? = some (.cells #[.string (cutS nm 10), .slice aT (cutTs 8 ps).length cT, .string (cutS rt 12), .bool st, .bool ab, .int .i64 lo, .int .i64 sk, .slice none 0 0, .slice none 0 0, .slice none 0 0] 46 (0, 0)) := blk_sets10 BO _ _ _ _ _ _ _ _ _ _
        have ownZ := own_sets ownT hne #[.string (cutS nm 10), .slice aT (cutTs 8 ps).length cT, .string (cutS rt 12), .bool st, .bool ab, .int .i64 lo, .int .i64 sk, .slice none 0 0, .slice none 0 0, .slice none 0 0].toList 0
        refine hK.out _ _ ⟨cellOn x0 kk, cellOn x1 kk, cellOn x2 kk, cellOn x3 kk, cellOn x4 kk, cellOn x5 kk, cellOn x6 kk⟩ (fun hHeld => ?_)
        clear hK K
        generalize (wA.setCells (wT.heap.size) 0 #[.string (cutS nm 10), .slice aT (cutTs 8 ps).length cT, .string (cutS rt 12), .bool st, .bool ab, .int .i64 lo, .int .i64 sk, .slice none 0 0, .slice none 0 0, .slice none 0 0].toList) = wZ at *
        refine wpAnyH_done (by kernel_rfl) ?_ _
        clear hHeld BO ownT hne x0 x1 x2 x3 x4 x5 x6 HT BM hvB
        go_wp2_with fail
        go_meet
        exact ⟨_, _, rfl, hO, BZ, ownZ, kk⟩
      refine AllReadyH.cons (o := ⟨some 3, _, _, _, _, _⟩) rfl (fun K hK => ?_) AllReadyH.nil
      go_simp
      have hO : wB.heap.size ≤ wB.heap.size := Nat.le_refl _
      have BO : ((wB.alloc (.cells #[.string ⟨#[]⟩, .slice none 0 0, .string ⟨#[]⟩, .bool false, .bool false, .int .i64 0, .int .i64 0, .slice none 0 0, .slice none 0 0, .slice none 0 0] 46)).drew).heap[wB.heap.size]? = some (.cells #[.string ⟨#[]⟩, .slice none 0 0, .string ⟨#[]⟩, .bool false, .bool false, .int .i64 0, .int .i64 0, .slice none 0 0, .slice none 0 0, .slice none 0 0] 46 (0, 0)) := blk_new wB _ _
      have kk : Below wB.heap.size wB ((wB.alloc (.cells #[.string ⟨#[]⟩, .slice none 0 0, .string ⟨#[]⟩, .bool false, .bool false, .int .i64 0, .int .i64 0, .slice none 0 0, .slice none 0 0, .slice none 0 0] 46)).drew) := (alloc1 wB _).drew
      refine hK.out _ _ ⟨cellOn x0 kk, cellOn x1 kk, cellOn x2 kk, cellOn x3 kk, cellOn x4 kk, cellOn x5 kk, cellOn x6 kk⟩ (fun hHeld => ?_)
      clear hK K
      have hkk := kk.size
      generalize (wB.alloc (.cells #[.string ⟨#[]⟩, .slice none 0 0, .string ⟨#[]⟩, .bool false, .bool false, .int .i64 0, .int .i64 0, .slice none 0 0, .slice none 0 0, .slice none 0 0] 46)).drew = wA at *
      refine wpAnyH_ready (rs := [5]) (by kernel_rfl) (by simp) ?_
      refine AllReadyH.cons (o := ⟨some 13, _, _, _, _, _⟩) rfl (fun K hK => ?_) AllReadyH.nil
      go_simp
      go_wp2_with (go_at_call 20; refine (HT _ kk).mono ?_; rintro e wT ⟨vT, rfl, ownT, bT⟩; obtain ⟨aT, cT, rfl⟩ := own_sl ownT)
      have kk := kk.trans (bT.mono kk.size)
      have ownT := own_low ownT hkk
      have BO := blk_on BO bT
      refine hK.out _ _ ⟨cellOn x0 kk, cellOn x1 kk, cellOn x2 kk, cellOn x3 kk, cellOn x4 kk, cellOn x5 kk, cellOn x6 kk⟩ (fun hHeld => ?_)
      clear hK K
      have hkk := kk.size
      refine wpAnyH_ready (rs := [8]) (by kernel_rfl) (by simp) ?_
      refine AllReadyH.cons (o := ⟨some 16, _, _, _, _, _⟩) rfl (fun K hK => ?_) AllReadyH.nil
      go_simp
      go_wp2_with (go_at_call 19; refine (cut_any rt _ 12 12 rfl (by decide) s2).mono ?_; rintro e w' ⟨rfl, rfl⟩)
      refine hK.out _ _ (by assumption) (fun hHeld => ?_)
      clear hK K
      refine wpAnyH_take (i := 17) (oi := ⟨some 25, _, _, _, _, _⟩) (v := ?_) rfl (by kernel_rfl) (by kernel_rfl) (by kernel_rfl) (fun _ _ _ h => h) (Or.inl ⟨by kernel_rfl, fun Wx hSw => ?_⟩) (by assumption) ?_
      rotate_left
      · ((try dsimp only at hSw); go_simp; try with_reducible rfl)
      simp only [Act.put, List.setIfInBounds_toArray, List.set_cons_zero, List.set_cons_succ]
      refine wpAnyH_ready (rs := [19]) (by kernel_rfl) (by simp) ?_
      refine AllReadyH.cons (o := ⟨none, _, _, _, _, _⟩) rfl (fun K hK => ?_) AllReadyH.nil
      rw [if_pos (by kernel_rfl)]
      refine wp_store_mid _ _ _ rfl wB.heap.size 0 #[.string (cutS nm 10), .slice aT (cutTs 8 ps).length cT, .string (cutS rt 12), .bool st, .bool ab, .int .i64 lo, .int .i64 sk, .slice none 0 0, .slice none 0 0, .slice none 0 0] rfl rfl (there_blk BO (by simp)) info10 (by simp [Value.oneCell']) ?_
      have hne := own_ne_blk ownT BO (by decide)
      have kk := below_sets hO #[.string (cutS nm 10), .slice aT (cutTs 8 ps).length cT, .string (cutS rt 12), .bool st, .bool ab, .int .i64 lo, .int .i64 sk, .slice none 0 0, .slice none 0 0, .slice none 0 0].toList 0 _ kk
      have BZ : (wT.setCells (wB.heap.size) 0 #[.string (cutS nm 10), .slice aT (cutTs 8 ps).length cT, .string (cutS rt 12), .bool st, .bool ab, .int .i64 lo, .int .i64 sk, .slice none 0 0, .slice none 0 0, .slice none 0 0].toList).heap[wB.heap.size]? = some (.cells #[.string (cutS nm 10), .slice aT (cutTs 8 ps).length cT, .string (cutS rt 12), .bool st, .bool ab, .int .i64 lo, .int .i64 sk, .slice none 0 0, .slice none 0 0, .slice none 0 0] 46 (0, 0)) := blk_sets10 BO _ _ _ _ _ _ _ _ _ _
      have ownZ := own_sets ownT hne #[.string (cutS nm 10), .slice aT (cutTs 8 ps).length cT, .string (cutS rt 12), .bool st, .bool ab, .int .i64 lo, .int .i64 sk, .slice none 0 0, .slice none 0 0, .slice none 0 0].toList 0
      refine hK.out _ _ ⟨cellOn x0 kk, cellOn x1 kk, cellOn x2 kk, cellOn x3 kk, cellOn x4 kk, cellOn x5 kk, cellOn x6 kk⟩ (fun hHeld => ?_)
      clear hK K
      generalize (wT.setCells (wB.heap.size) 0 #[.string (cutS nm 10), .slice aT (cutTs 8 ps).length cT, .string (cutS rt 12), .bool st, .bool ab, .int .i64 lo, .int .i64 sk, .slice none 0 0, .slice none 0 0, .slice none 0 0].toList) = wZ at *
      refine wpAnyH_done (by kernel_rfl) ?_ _
      clear hHeld BO ownT hne x0 x1 x2 x3 x4 x5 x6 HT BM hvB
      go_wp2_with fail
      go_meet
      exact ⟨_, _, rfl, hO, BZ, ownZ, kk⟩
    refine AllReadyH.cons (o := ⟨some 3, _, _, _, _, _⟩) rfl (fun K hK => ?_) AllReadyH.nil
    go_simp
    have hO : wB.heap.size ≤ wB.heap.size := Nat.le_refl _
    have BO : ((wB.alloc (.cells #[.string ⟨#[]⟩, .slice none 0 0, .string ⟨#[]⟩, .bool false, .bool false, .int .i64 0, .int .i64 0, .slice none 0 0, .slice none 0 0, .slice none 0 0] 46)).drew).heap[wB.heap.size]? = some (.cells #[.string ⟨#[]⟩, .slice none 0 0, .string ⟨#[]⟩, .bool false, .bool false, .int .i64 0, .int .i64 0, .slice none 0 0, .slice none 0 0, .slice none 0 0] 46 (0, 0)) := blk_new wB _ _
    have kk : Below wB.heap.size wB ((wB.alloc (.cells #[.string ⟨#[]⟩, .slice none 0 0, .string ⟨#[]⟩, .bool false, .bool false, .int .i64 0, .int .i64 0, .slice none 0 0, .slice none 0 0, .slice none 0 0] 46)).drew) := (alloc1 wB _).drew
    refine hK.out _ _ ⟨cellOn x0 kk, cellOn x1 kk, cellOn x2 kk, cellOn x3 kk, cellOn x4 kk, cellOn x5 kk, cellOn x6 kk⟩ (fun hHeld => ?_)
    clear hK K
    have hkk := kk.size
    generalize (wB.alloc (.cells #[.string ⟨#[]⟩, .slice none 0 0, .string ⟨#[]⟩, .bool false, .bool false, .int .i64 0, .int .i64 0, .slice none 0 0, .slice none 0 0, .slice none 0 0] 46)).drew = wA at *
    refine wpAnyH_ready (rs := [2]) (by kernel_rfl) (by simp) ?_
    refine AllReadyH.cons (o := ⟨some 10, _, _, _, _, _⟩) rfl (fun K hK => ?_) AllReadyH.nil
    go_simp
    go_wp2_with (go_at_call 19; refine (cut_any nm _ 10 10 rfl (by decide) s0).mono ?_; rintro e w' ⟨rfl, rfl⟩)
    refine hK.out _ _ (by assumption) (fun hHeld => ?_)
    clear hK K
    refine wpAnyH_ready (rs := [5]) (by kernel_rfl) (by simp) ?_
    refine AllReadyH.cons (o := ⟨some 13, _, _, _, _, _⟩) rfl (fun K hK => ?_) AllReadyH.nil
    go_simp
    go_wp2_with (go_at_call 20; refine (HT _ kk).mono ?_; rintro e wT ⟨vT, rfl, ownT, bT⟩; obtain ⟨aT, cT, rfl⟩ := own_sl ownT)
    have kk := kk.trans (bT.mono kk.size)
    have ownT := own_low ownT hkk
    have BO := blk_on BO bT
    refine hK.out _ _ ⟨cellOn x0 kk, cellOn x1 kk, cellOn x2 kk, cellOn x3 kk, cellOn x4 kk, cellOn x5 kk, cellOn x6 kk⟩ (fun hHeld => ?_)
    clear hK K
    have hkk := kk.size
    refine wpAnyH_ready (rs := [8]) (by kernel_rfl) (by simp) ?_
    refine AllReadyH.cons (o := ⟨some 16, _, _, _, _, _⟩) rfl (fun K hK => ?_) AllReadyH.nil
    go_simp
    go_wp2_with (go_at_call 19; refine (cut_any rt _ 12 12 rfl (by decide) s2).mono ?_; rintro e w' ⟨rfl, rfl⟩)
    refine hK.out _ _ (by assumption) (fun hHeld => ?_)
    clear hK K
    refine wpAnyH_take (i := 17) (oi := ⟨some 25, _, _, _, _, _⟩) (v := ?_) rfl (by kernel_rfl) (by kernel_rfl) (by kernel_rfl) (fun _ _ _ h => h) (Or.inl ⟨by kernel_rfl, fun Wx hSw => ?_⟩) (by assumption) ?_
    rotate_left
    · ((try dsimp only at hSw); go_simp; try with_reducible rfl)
    simp only [Act.put, List.setIfInBounds_toArray, List.set_cons_zero, List.set_cons_succ]
    refine wpAnyH_ready (rs := [19]) (by kernel_rfl) (by simp) ?_
    refine AllReadyH.cons (o := ⟨none, _, _, _, _, _⟩) rfl (fun K hK => ?_) AllReadyH.nil
    rw [if_pos (by kernel_rfl)]
    refine wp_store_mid _ _ _ rfl wB.heap.size 0 #[.string (cutS nm 10), .slice aT (cutTs 8 ps).length cT, .string (cutS rt 12), .bool st, .bool ab, .int .i64 lo, .int .i64 sk, .slice none 0 0, .slice none 0 0, .slice none 0 0] rfl rfl (there_blk BO (by simp)) info10 (by simp [Value.oneCell']) ?_
    have hne := own_ne_blk ownT BO (by decide)
    have kk := below_sets hO #[.string (cutS nm 10), .slice aT (cutTs 8 ps).length cT, .string (cutS rt 12), .bool st, .bool ab, .int .i64 lo, .int .i64 sk, .slice none 0 0, .slice none 0 0, .slice none 0 0].toList 0 _ kk
    have BZ : (wT.setCells (wB.heap.size) 0 #[.string (cutS nm 10), .slice aT (cutTs 8 ps).length cT, .string (cutS rt 12), .bool st, .bool ab, .int .i64 lo, .int .i64 sk, .slice none 0 0, .slice none 0 0, .slice none 0 0].toList).heap[wB.heap.size]? = some (.cells #[.string (cutS nm 10), .slice aT (cutTs 8 ps).length cT, .string (cutS rt 12), .bool st, .bool ab, .int .i64 lo, .int .i64 sk, .slice none 0 0, .slice none 0 0, .slice none 0 0] 46 (0, 0)) := blk_sets10 BO _ _ _ _ _ _ _ _ _ _
    have ownZ := own_sets ownT hne #[.string (cutS nm 10), .slice aT (cutTs 8 ps).length cT, .string (cutS rt 12), .bool st, .bool ab, .int .i64 lo, .int .i64 sk, .slice none 0 0, .slice none 0 0, .slice none 0 0].toList 0
    refine hK.out _ _ ⟨cellOn x0 kk, cellOn x1 kk, cellOn x2 kk, cellOn x3 kk, cellOn x4 kk, cellOn x5 kk, cellOn x6 kk⟩ (fun hHeld => ?_)
    clear hK K
    generalize (wT.setCells (wB.heap.size) 0 #[.string (cutS nm 10), .slice aT (cutTs 8 ps).length cT, .string (cutS rt 12), .bool st, .bool ab, .int .i64 lo, .int .i64 sk, .slice none 0 0, .slice none 0 0, .slice none 0 0].toList) = wZ at *
    refine wpAnyH_done (by kernel_rfl) ?_ _
    clear hHeld BO ownT hne x0 x1 x2 x3 x4 x5 x6 HT BM hvB
    go_wp2_with fail
    go_meet
    exact ⟨_, _, rfl, hO, BZ, ownZ, kk⟩
  case rest =>
  obtain ⟨O, v1, rfl, hO, BO, own1, kC⟩ := hcut
  rename World => wC
  have hlt0 := lt_of_block BM
  have y7 := blk_cell BM 7
  have y8 := blk_cell BM 8
  have y9 := blk_cell BM 9
  simp only [List.getElem?_toArray, List.getElem?_cons_zero, List.getElem?_cons_succ] at y7 y8 y9
  have HB : Hid _ := BM
  have HV : Hid _ := hvB
  have H1 : Hid _ := sl_texts (own_msk (p := pS) own1 (by decide)) rfl (cutTs_small 8 ps)
  have hcd : cd.length ≤ 9223372036854775807 := by obtain ⟨_, _, e, h1, h2, _⟩ := hvB.code; simp only at h1; unfold maxLen at h2; omega
  have hmp : mp.length ≤ 9223372036854775807 := by obtain ⟨_, _, e, h1, h2, _⟩ := hvB.maps; simp only at h1; unfold maxLen at h2; omega
  have htr : tr.length ≤ 9223372036854775807 := by obtain ⟨_, _, e, h1, h2, _⟩ := hvB.traps; simp only at h1; unfold maxLen at h2; omega
  clear own1 BM hvB hv s0 s2
  apply_assumption
  refine wp_seq_k (fun K2 hK2 => ?_)
  go_cut [4] (fun s4 wc => ∃ (v7 : Value), wc.heap[O]? = some (.cells #[.string (cutS nm 10), v1, .string (cutS rt 12), .bool st, .bool ab, .int .i64 lo, .int .i64 sk, v7, .slice none 0 0, .slice none 0 0] 46 (0, 0)) ∧ Sl strE 1 (msk pS wc) v1 (cutTs 8 ps) ∧ Sl insE 4 (msk pI wc) v7 ((cd.take 104).map cutI) ∧ Below wB.heap.size wB wc)
  case first =>
    go_wp2_with fail
    go_loopw [4] (fun i wr => ∃ (k : Nat) (v7 : Value), k ≤ cd.length ∧ k ≤ 104 ∧ i = .int .i64 k ∧ wr.heap[O]? = some (.cells #[.string (cutS nm 10), v1, .string (cutS rt 12), .bool st, .bool ab, .int .i64 lo, .int .i64 sk, v7, .slice none 0 0, .slice none 0 0] 46 (0, 0)) ∧ wr.ownsRow wB.heap.size 48 4 v7 k (((cd.take k).map cutI).flatMap icells) ∧ Ext (msk pS wC) (msk pS wr) ∧ Below wB.heap.size wB wr) (fun i _ => cd.length - (intOf i).toNat)
    case atStart => exact ⟨0, _, by omega, by omega, rfl, BO, World.ownsRow_nil _ _ _ _, Ext.refl _, kC⟩
    case round =>
      clear BO
      obtain ⟨k, v7, hk, hkn, rfl, BO, own, ex, hbel⟩ := hrel
      have x7 := cellOn y7 hbel
      by_cases hlk : k < cd.length
      case pos =>
        by_cases hln : k < 104
        case pos =>
          have d1 : decide ((k : Int) < (cd.length : Int)) = true := by simp; omega
          have d3 : decide (k < cd.length) = true := by simp; omega
          have d2 : decide ((k : Int) < 104) = true := by simp; omega
          have d4 : decide (k < 104) = true := by simp; omega
          go_upto_region 5 with fail
          clear d1 d2 d3 d4 x7
          obtain ⟨aa, cc, ev, _, _, _, hx9⟩ := HV.out.code
          simp only [Value.slice.injEq, true_and] at ev
          obtain ⟨rfl, rfl⟩ := ev
          obtain ⟨b9, off9, rfl, _, hx9⟩ := hx9 (by simp only; omega)
          obtain ⟨⟨g0, g1, g2, g3⟩, hc1, hc2⟩ := hx9 k hlk
          try simp only at g0 g1 g2 g3 hc1 hc2
          have HS : Hid _ := map_succ cutI hlk
          clear hx9
          generalize cd[k] = X at *
          have HC : ∀ W, Calls Tryz.prog 43 #[.agg #[.int .i64 X.o, .int .i64 X.a, .string X.c, .string X.m]] W fun e w' => e = .returned (.agg #[.int .i64 X.o, .int .i64 X.a, .string (cutS X.c 14), .string (cutS X.m 12)]) ∧ Below W.heap.size W w' := fun W => cut_ins X.o X.a X.c X.m W hc1 hc2
          have kr : Below wr.heap.size wr wr.drew := (Below.refl _ _).drew
          have kk := hbel.trans (kr.mono hbel.size)
          have BO := blk_on BO kr
          have own := own_later own kr
          have ex := ex.trans (ext_below kr)
          have z := blk_cell BO 7
          simp only [List.getElem?_toArray, List.getElem?_cons_zero, List.getElem?_cons_succ] at z
          refine wp_region_held_drew (S := fun W' => W'.cell? ⟨w.heap.size, 7, none⟩ = some (.slice (some ⟨b9, off9, none⟩) cd.length d7) ∧ W'.cell? ⟨b9, off9 + k * 4, none⟩ = some (.int .i64 X.o) ∧ W'.cell? ⟨b9, off9 + k * 4 + 1, none⟩ = some (.int .i64 X.a) ∧ W'.cell? ⟨b9, off9 + k * 4 + 2, none⟩ = some (.string X.c) ∧ W'.cell? ⟨b9, off9 + k * 4 + 3, none⟩ = some (.string X.m)) (by kernel_rfl) ⟨cellOn y7 kk, cellOn g0 kk, cellOn g1 kk, cellOn g2 kk, cellOn g3 kk⟩ (fun hHeld => ?_)
          generalize wr.drew = wX at *
          clear hbel kr
          refine wpAnyH_take (i := 0) (oi := ⟨some 37, _, _, _, _, _⟩) (v := ?_) rfl (by kernel_rfl) (by kernel_rfl) (by kernel_rfl) (fun _ _ _ h => h) (Or.inl ⟨by kernel_rfl, fun Wx hSw => ?_⟩) (by assumption) ?_
          rotate_left
          · ((try dsimp only at hSw); go_simp; try with_reducible rfl)
          simp only [Act.put, List.setIfInBounds_toArray, List.set_cons_zero, List.set_cons_succ]
          refine wpAnyH_take (i := 2) (oi := ⟨some 39, _, _, _, _, _⟩) (v := ?_) rfl (by kernel_rfl) (by kernel_rfl) (by kernel_rfl) (fun _ _ _ h => h) (Or.inl ⟨by kernel_rfl, fun Wx hSw => ?_⟩) (by assumption) ?_
          rotate_left
          · ((try dsimp only at hSw); go_simp; try with_reducible rfl)
          simp only [Act.put, List.setIfInBounds_toArray, List.set_cons_zero, List.set_cons_succ]
          refine wpAnyH_take (i := 3) (oi := ⟨some 40, _, _, _, _, _⟩) (v := ?_) rfl (by kernel_rfl) (by kernel_rfl) (by kernel_rfl) (fun _ _ _ h => h) (Or.inl ⟨by kernel_rfl, fun Wx hSw => ?_⟩) (by assumption) ?_
          rotate_left
          · ((try dsimp only at hSw); go_simp; try with_reducible rfl)
          simp only [Act.put, List.setIfInBounds_toArray, List.set_cons_zero, List.set_cons_succ]
          refine wpAnyH_take (i := 4) (oi := ⟨some 41, _, _, _, _, _⟩) (v := ?_) rfl (by kernel_rfl) (by kernel_rfl) (by kernel_rfl) (fun _ _ _ h => h) (Or.inl ⟨by kernel_rfl, fun Wx hSw => ?_⟩) (by assumption) ?_
          rotate_left
          · ((try dsimp only at hSw); go_simp; try with_reducible rfl)
          simp only [Act.put, List.setIfInBounds_toArray, List.set_cons_zero, List.set_cons_succ]
          refine wpAnyH_take (i := 5) (oi := ⟨some 42, _, _, _, _, _⟩) (v := ?_) rfl (by kernel_rfl) (by kernel_rfl) (by kernel_rfl) (fun _ _ _ h => h) (Or.inl ⟨by kernel_rfl, fun Wx hSw => ?_⟩) (by assumption) ?_
          rotate_left
          · ((try dsimp only at hSw); go_simp; try with_reducible rfl)
          simp only [Act.put, List.setIfInBounds_toArray, List.set_cons_zero, List.set_cons_succ]
          refine wpAnyH_take (i := 6) (oi := ⟨some 43, _, _, _, _, _⟩) (v := ?_) rfl (by kernel_rfl) (by kernel_rfl) (by kernel_rfl) (fun _ _ _ h => h) (Or.inl ⟨by kernel_rfl, fun Wx hSw => ?_⟩) (by assumption) ?_
          rotate_left
          · ((try dsimp only at hSw); go_simp; try with_reducible rfl)
          simp only [Act.put, List.setIfInBounds_toArray, List.set_cons_zero, List.set_cons_succ]
          refine wpAnyH_ready (rs := [1, 7]) (by kernel_rfl) (by simp) ?_
          refine AllReadyH.cons (o := ⟨some 38, _, _, _, _, _⟩) rfl (fun K hK => ?_) ?_
          · go_simp
            refine hK.out _ _ (by assumption) (fun hHeld => ?_)
            clear hK K
            refine wpAnyH_ready (rs := [7]) (by kernel_rfl) (by simp) ?_
            refine AllReadyH.cons (o := ⟨some 44, _, _, _, _, _⟩) rfl (fun K hK => ?_) AllReadyH.nil
            go_simp
            go_wp2_with (go_at_call 43; refine (HC _).mono ?_; rintro e w5 ⟨rfl, b5⟩)
            have kk := kk.trans (b5.mono kk.size)
            have BO := blk_on BO b5
            have own := own_later own b5
            have ex := ex.trans (ext_below b5)
            have z := blk_cell BO 7
            simp only [List.getElem?_toArray, List.getElem?_cons_zero, List.getElem?_cons_succ] at z
            refine hK.out _ _ ⟨cellOn y7 kk, cellOn g0 kk, cellOn g1 kk, cellOn g2 kk, cellOn g3 kk⟩ (fun hHeld => ?_)
            clear hK K
            clear b5
            refine wpAnyH_ready (rs := [8]) (by kernel_rfl) (by simp) ?_
            refine AllReadyH.cons (o := ⟨some 45, _, _, _, _, _⟩) rfl (fun K hK => ?_) AllReadyH.nil
            go_simp
            have b6 := alloc1 w5 (.cells #[.int .i64 X.o, .int .i64 X.a, .string (cutS X.c 14), .string (cutS X.m 12)] 48)
            have hnews : ∀ (j : Nat) (u : Value), (icells (cutI X))[j]? = some u → (w5.alloc (.cells #[.int .i64 X.o, .int .i64 X.a, .string (cutS X.c 14), .string (cutS X.m 12)] 48)).cell? ((⟨w5.heap.size, 0, none⟩ : Addr).add j) = some u := news_lit w5 (icells (cutI X)) 48
            have kk := kk.trans (b6.mono kk.size)
            have BO := blk_on BO b6
            have own := own_later own b6
            have ex := ex.trans (ext_below b6)
            have z := blk_cell BO 7
            simp only [List.getElem?_toArray, List.getElem?_cons_zero, List.getElem?_cons_succ] at z
            refine hK.out _ _ ⟨cellOn y7 kk, cellOn g0 kk, cellOn g1 kk, cellOn g2 kk, cellOn g3 kk⟩ (fun hHeld => ?_)
            clear hK K
            generalize w5.alloc (.cells #[.int .i64 X.o, .int .i64 X.a, .string (cutS X.c 14), .string (cutS X.m 12)] 48) = w6 at *
            have hB6 := kk.size
            clear b6
            refine wpAnyH_ready (rs := [9]) (by kernel_rfl) (by simp) ?_
            refine AllReadyH.cons (o := ⟨some 46, _, _, _, _, _⟩) rfl (fun K hK => ?_) AllReadyH.nil
            have hne := own_ne_blk own BO (by decide)
            have hlow := fun g e => (own.lt g e).1
            refine step_append_lies _ rfl (.tmp 38) (.tmp 45) 42 rfl wB.heap.size 48 iI (.agg #[.int .i64 0, .int .i64 0, .string ⟨#[]⟩, .string ⟨#[]⟩]) 4 48 Tryz.underlying42 hiI hzI0 hzI1 hzI2 rfl (by decide) v7 k _ rfl own ⟨w5.heap.size, 0, none⟩ 1 1 (icells (cutI X)) rfl rfl hnews (one_ins _) (by decide) (by unfold maxLen; omega) (by omega) hB6 _ rfl ?_
            intro g' cap' w7 own7 g7 hat hlt
            have kk := kk.grown g7 hB6 hlow
            have BO := blk_grown BO g7 hne
            have ex := ex.trans (ext_grown own (by decide) g7)
            have z := blk_cell BO 7
            simp only [List.getElem?_toArray, List.getElem?_cons_zero, List.getElem?_cons_succ] at z
            have zf := blk_free BO 7
            refine hK.out _ _ ⟨cellOn y7 kk, cellOn g0 kk, cellOn g1 kk, cellOn g2 kk, cellOn g3 kk⟩ (fun hHeld => ?_)
            clear hK K
            clear own hnews g7 hne hlow
            refine wpAnyH_take (i := 10) (oi := ⟨some 47, _, _, _, _, _⟩) (v := ?_) rfl (by kernel_rfl) (by kernel_rfl) (by kernel_rfl) (fun _ _ _ h => h) (Or.inl ⟨by kernel_rfl, fun Wx hSw => ?_⟩) (by assumption) ?_
            rotate_left
            · ((try dsimp only at hSw); go_simp; try with_reducible rfl)
            simp only [Act.put, List.setIfInBounds_toArray, List.set_cons_zero, List.set_cons_succ]
            refine wpAnyH_ready (rs := [11]) (by kernel_rfl) (by simp) ?_
            refine AllReadyH.cons (o := ⟨none, _, _, _, _, _⟩) rfl (fun K hK => ?_) AllReadyH.nil
            go_simp
            have BO5 : (w7.setCell ⟨O, 7, none⟩ (.slice (some ⟨g', 0, none⟩) (k + 1) cap')).heap[O]? = some (.cells #[.string (cutS nm 10), v1, .string (cutS rt 12), .bool st, .bool ab, .int .i64 lo, .int .i64 sk, (.slice (some ⟨g', 0, none⟩) (k + 1) cap'), .slice none 0 0, .slice none 0 0] 46 (0, 0)) := blk_set BO 7 _
            have own := ownsRow_setCell_other own7 (a := ⟨O, 7, none⟩) (fun e => own_ne_blk own7 BO (by decide) e.symm) (.slice (some ⟨g', 0, none⟩) (k + 1) cap')
            have kk := kk.setCell (p := ⟨O, 7, none⟩) hO (.slice (some ⟨g', 0, none⟩) (k + 1) cap')
            have ex := ex.trans (ext_set BO (by decide) 7 (.slice (some ⟨g', 0, none⟩) (k + 1) cap'))
            refine hK.out _ _ ⟨cellOn y7 kk, cellOn g0 kk, cellOn g1 kk, cellOn g2 kk, cellOn g3 kk⟩ (fun hHeld => ?_)
            clear hK K
            generalize w7.setCell ⟨O, 7, none⟩ (.slice (some ⟨g', 0, none⟩) (k + 1) cap') = w8 at *
            clear own7 BO z zf
            refine wpAnyH_done (by kernel_rfl) ?_ _
            clear hHeld y7 y8 y9 g0 g1 g2 g3 HC
            have e4 : ((cd.take k).map cutI).flatMap icells ++ icells (cutI X) = ((cd.take (k + 1)).map cutI).flatMap icells := by rw [HS.out, List.flatMap_append]; simp
            rw [e4] at own
            go_wp2_with fail
            go_roundw
            case rel => exact ⟨k + 1, _, by omega, by omega, by go_num, BO5, own, ex, kk⟩
            case measure => simp [intOf]; omega
          refine AllReadyH.cons (o := ⟨some 44, _, _, _, _, _⟩) rfl (fun K hK => ?_) AllReadyH.nil
          go_simp
          go_wp2_with (go_at_call 43; refine (HC _).mono ?_; rintro e w5 ⟨rfl, b5⟩)
          have kk := kk.trans (b5.mono kk.size)
          have BO := blk_on BO b5
          have own := own_later own b5
          have ex := ex.trans (ext_below b5)
          have z := blk_cell BO 7
          simp only [List.getElem?_toArray, List.getElem?_cons_zero, List.getElem?_cons_succ] at z
          refine hK.out _ _ ⟨cellOn y7 kk, cellOn g0 kk, cellOn g1 kk, cellOn g2 kk, cellOn g3 kk⟩ (fun hHeld => ?_)
          clear hK K
          clear b5
          refine wpAnyH_ready (rs := [1, 8]) (by kernel_rfl) (by simp) ?_
          refine AllReadyH.cons (o := ⟨some 38, _, _, _, _, _⟩) rfl (fun K hK => ?_) ?_
          · go_simp
            refine hK.out _ _ (by assumption) (fun hHeld => ?_)
            clear hK K
            refine wpAnyH_ready (rs := [8]) (by kernel_rfl) (by simp) ?_
            refine AllReadyH.cons (o := ⟨some 45, _, _, _, _, _⟩) rfl (fun K hK => ?_) AllReadyH.nil
            go_simp
            have b6 := alloc1 w5 (.cells #[.int .i64 X.o, .int .i64 X.a, .string (cutS X.c 14), .string (cutS X.m 12)] 48)
            have hnews : ∀ (j : Nat) (u : Value), (icells (cutI X))[j]? = some u → (w5.alloc (.cells #[.int .i64 X.o, .int .i64 X.a, .string (cutS X.c 14), .string (cutS X.m 12)] 48)).cell? ((⟨w5.heap.size, 0, none⟩ : Addr).add j) = some u := news_lit w5 (icells (cutI X)) 48
            have kk := kk.trans (b6.mono kk.size)
            have BO := blk_on BO b6
            have own := own_later own b6
            have ex := ex.trans (ext_below b6)
            have z := blk_cell BO 7
            simp only [List.getElem?_toArray, List.getElem?_cons_zero, List.getElem?_cons_succ] at z
            refine hK.out _ _ ⟨cellOn y7 kk, cellOn g0 kk, cellOn g1 kk, cellOn g2 kk, cellOn g3 kk⟩ (fun hHeld => ?_)
            clear hK K
            generalize w5.alloc (.cells #[.int .i64 X.o, .int .i64 X.a, .string (cutS X.c 14), .string (cutS X.m 12)] 48) = w6 at *
            have hB6 := kk.size
            clear b6
            refine wpAnyH_ready (rs := [9]) (by kernel_rfl) (by simp) ?_
            refine AllReadyH.cons (o := ⟨some 46, _, _, _, _, _⟩) rfl (fun K hK => ?_) AllReadyH.nil
            have hne := own_ne_blk own BO (by decide)
            have hlow := fun g e => (own.lt g e).1
            refine step_append_lies _ rfl (.tmp 38) (.tmp 45) 42 rfl wB.heap.size 48 iI (.agg #[.int .i64 0, .int .i64 0, .string ⟨#[]⟩, .string ⟨#[]⟩]) 4 48 Tryz.underlying42 hiI hzI0 hzI1 hzI2 rfl (by decide) v7 k _ rfl own ⟨w5.heap.size, 0, none⟩ 1 1 (icells (cutI X)) rfl rfl hnews (one_ins _) (by decide) (by unfold maxLen; omega) (by omega) hB6 _ rfl ?_
            intro g' cap' w7 own7 g7 hat hlt
            have kk := kk.grown g7 hB6 hlow
            have BO := blk_grown BO g7 hne
            have ex := ex.trans (ext_grown own (by decide) g7)
            have z := blk_cell BO 7
            simp only [List.getElem?_toArray, List.getElem?_cons_zero, List.getElem?_cons_succ] at z
            have zf := blk_free BO 7
            refine hK.out _ _ ⟨cellOn y7 kk, cellOn g0 kk, cellOn g1 kk, cellOn g2 kk, cellOn g3 kk⟩ (fun hHeld => ?_)
            clear hK K
            clear own hnews g7 hne hlow
            refine wpAnyH_take (i := 10) (oi := ⟨some 47, _, _, _, _, _⟩) (v := ?_) rfl (by kernel_rfl) (by kernel_rfl) (by kernel_rfl) (fun _ _ _ h => h) (Or.inl ⟨by kernel_rfl, fun Wx hSw => ?_⟩) (by assumption) ?_
            rotate_left
            · ((try dsimp only at hSw); go_simp; try with_reducible rfl)
            simp only [Act.put, List.setIfInBounds_toArray, List.set_cons_zero, List.set_cons_succ]
            refine wpAnyH_ready (rs := [11]) (by kernel_rfl) (by simp) ?_
            refine AllReadyH.cons (o := ⟨none, _, _, _, _, _⟩) rfl (fun K hK => ?_) AllReadyH.nil
            go_simp
            have BO5 : (w7.setCell ⟨O, 7, none⟩ (.slice (some ⟨g', 0, none⟩) (k + 1) cap')).heap[O]? = some (.cells #[.string (cutS nm 10), v1, .string (cutS rt 12), .bool st, .bool ab, .int .i64 lo, .int .i64 sk, (.slice (some ⟨g', 0, none⟩) (k + 1) cap'), .slice none 0 0, .slice none 0 0] 46 (0, 0)) := blk_set BO 7 _
            have own := ownsRow_setCell_other own7 (a := ⟨O, 7, none⟩) (fun e => own_ne_blk own7 BO (by decide) e.symm) (.slice (some ⟨g', 0, none⟩) (k + 1) cap')
            have kk := kk.setCell (p := ⟨O, 7, none⟩) hO (.slice (some ⟨g', 0, none⟩) (k + 1) cap')
            have ex := ex.trans (ext_set BO (by decide) 7 (.slice (some ⟨g', 0, none⟩) (k + 1) cap'))
            refine hK.out _ _ ⟨cellOn y7 kk, cellOn g0 kk, cellOn g1 kk, cellOn g2 kk, cellOn g3 kk⟩ (fun hHeld => ?_)
            clear hK K
            generalize w7.setCell ⟨O, 7, none⟩ (.slice (some ⟨g', 0, none⟩) (k + 1) cap') = w8 at *
            clear own7 BO z zf
            refine wpAnyH_done (by kernel_rfl) ?_ _
            clear hHeld y7 y8 y9 g0 g1 g2 g3 HC
            have e4 : ((cd.take k).map cutI).flatMap icells ++ icells (cutI X) = ((cd.take (k + 1)).map cutI).flatMap icells := by rw [HS.out, List.flatMap_append]; simp
            rw [e4] at own
            go_wp2_with fail
            go_roundw
            case rel => exact ⟨k + 1, _, by omega, by omega, by go_num, BO5, own, ex, kk⟩
            case measure => simp [intOf]; omega
          refine AllReadyH.cons (o := ⟨some 45, _, _, _, _, _⟩) rfl (fun K hK => ?_) AllReadyH.nil
          go_simp
          have b6 := alloc1 w5 (.cells #[.int .i64 X.o, .int .i64 X.a, .string (cutS X.c 14), .string (cutS X.m 12)] 48)
          have hnews : ∀ (j : Nat) (u : Value), (icells (cutI X))[j]? = some u → (w5.alloc (.cells #[.int .i64 X.o, .int .i64 X.a, .string (cutS X.c 14), .string (cutS X.m 12)] 48)).cell? ((⟨w5.heap.size, 0, none⟩ : Addr).add j) = some u := news_lit w5 (icells (cutI X)) 48
          have kk := kk.trans (b6.mono kk.size)
          have BO := blk_on BO b6
          have own := own_later own b6
          have ex := ex.trans (ext_below b6)
          have z := blk_cell BO 7
          simp only [List.getElem?_toArray, List.getElem?_cons_zero, List.getElem?_cons_succ] at z
          refine hK.out _ _ ⟨cellOn y7 kk, cellOn g0 kk, cellOn g1 kk, cellOn g2 kk, cellOn g3 kk⟩ (fun hHeld => ?_)
          clear hK K
          generalize w5.alloc (.cells #[.int .i64 X.o, .int .i64 X.a, .string (cutS X.c 14), .string (cutS X.m 12)] 48) = w6 at *
          have hB6 := kk.size
          clear b6
          refine wpAnyH_ready (rs := [1]) (by kernel_rfl) (by simp) ?_
          refine AllReadyH.cons (o := ⟨some 38, _, _, _, _, _⟩) rfl (fun K hK => ?_) AllReadyH.nil
          go_simp
          refine hK.out _ _ (by assumption) (fun hHeld => ?_)
          clear hK K
          refine wpAnyH_ready (rs := [9]) (by kernel_rfl) (by simp) ?_
          refine AllReadyH.cons (o := ⟨some 46, _, _, _, _, _⟩) rfl (fun K hK => ?_) AllReadyH.nil
          have hne := own_ne_blk own BO (by decide)
          have hlow := fun g e => (own.lt g e).1
          refine step_append_lies _ rfl (.tmp 38) (.tmp 45) 42 rfl wB.heap.size 48 iI (.agg #[.int .i64 0, .int .i64 0, .string ⟨#[]⟩, .string ⟨#[]⟩]) 4 48 Tryz.underlying42 hiI hzI0 hzI1 hzI2 rfl (by decide) v7 k _ rfl own ⟨w5.heap.size, 0, none⟩ 1 1 (icells (cutI X)) rfl rfl hnews (one_ins _) (by decide) (by unfold maxLen; omega) (by omega) hB6 _ rfl ?_
          intro g' cap' w7 own7 g7 hat hlt
          have kk := kk.grown g7 hB6 hlow
          have BO := blk_grown BO g7 hne
          have ex := ex.trans (ext_grown own (by decide) g7)
          have z := blk_cell BO 7
          simp only [List.getElem?_toArray, List.getElem?_cons_zero, List.getElem?_cons_succ] at z
          have zf := blk_free BO 7
          refine hK.out _ _ ⟨cellOn y7 kk, cellOn g0 kk, cellOn g1 kk, cellOn g2 kk, cellOn g3 kk⟩ (fun hHeld => ?_)
          clear hK K
          clear own hnews g7 hne hlow
          refine wpAnyH_take (i := 10) (oi := ⟨some 47, _, _, _, _, _⟩) (v := ?_) rfl (by kernel_rfl) (by kernel_rfl) (by kernel_rfl) (fun _ _ _ h => h) (Or.inl ⟨by kernel_rfl, fun Wx hSw => ?_⟩) (by assumption) ?_
          rotate_left
          · ((try dsimp only at hSw); go_simp; try with_reducible rfl)
          simp only [Act.put, List.setIfInBounds_toArray, List.set_cons_zero, List.set_cons_succ]
          refine wpAnyH_ready (rs := [11]) (by kernel_rfl) (by simp) ?_
          refine AllReadyH.cons (o := ⟨none, _, _, _, _, _⟩) rfl (fun K hK => ?_) AllReadyH.nil
          go_simp
          have BO5 : (w7.setCell ⟨O, 7, none⟩ (.slice (some ⟨g', 0, none⟩) (k + 1) cap')).heap[O]? = some (.cells #[.string (cutS nm 10), v1, .string (cutS rt 12), .bool st, .bool ab, .int .i64 lo, .int .i64 sk, (.slice (some ⟨g', 0, none⟩) (k + 1) cap'), .slice none 0 0, .slice none 0 0] 46 (0, 0)) := blk_set BO 7 _
          have own := ownsRow_setCell_other own7 (a := ⟨O, 7, none⟩) (fun e => own_ne_blk own7 BO (by decide) e.symm) (.slice (some ⟨g', 0, none⟩) (k + 1) cap')
          have kk := kk.setCell (p := ⟨O, 7, none⟩) hO (.slice (some ⟨g', 0, none⟩) (k + 1) cap')
          have ex := ex.trans (ext_set BO (by decide) 7 (.slice (some ⟨g', 0, none⟩) (k + 1) cap'))
          refine hK.out _ _ ⟨cellOn y7 kk, cellOn g0 kk, cellOn g1 kk, cellOn g2 kk, cellOn g3 kk⟩ (fun hHeld => ?_)
          clear hK K
          generalize w7.setCell ⟨O, 7, none⟩ (.slice (some ⟨g', 0, none⟩) (k + 1) cap') = w8 at *
          clear own7 BO z zf
          refine wpAnyH_done (by kernel_rfl) ?_ _
          clear hHeld y7 y8 y9 g0 g1 g2 g3 HC
          have e4 : ((cd.take k).map cutI).flatMap icells ++ icells (cutI X) = ((cd.take (k + 1)).map cutI).flatMap icells := by rw [HS.out, List.flatMap_append]; simp
          rw [e4] at own
          go_wp2_with fail
          go_roundw
          case rel => exact ⟨k + 1, _, by omega, by omega, by go_num, BO5, own, ex, kk⟩
          case measure => simp [intOf]; omega
        case neg =>
          have d1 : decide ((k : Int) < (cd.length : Int)) = true := by simp; omega
          have d3 : decide (k < cd.length) = true := by simp; omega
          have d2 : decide ((k : Int) < 104) = false := by simp; omega
          have d4 : decide (k < 104) = false := by simp; omega
          have eL : (cd.take k).map cutI = (cd.take 104).map cutI := by rw [show k = 104 by omega]
          have H7 : Hid _ := sl_ins (own_msk (p := pI) own (by decide)) (by simp; omega) (fun x hx => cutI_small hx)
          rw [eL] at H7
          clear own eL
          go_wp2_with fail
          go_meet
          exact ⟨_, BO, sls_ext ex H1.out, H7.out, hbel⟩
      case neg =>
        have d1 : decide ((k : Int) < (cd.length : Int)) = false := by simp; omega
        have d3 : decide (k < cd.length) = false := by simp; omega
        have eL : (cd.take k).map cutI = (cd.take 104).map cutI := by rw [List.take_of_length_le (by omega), List.take_of_length_le (by omega)]
        have H7 : Hid _ := sl_ins (own_msk (p := pI) own (by decide)) (by simp; omega) (fun x hx => cutI_small hx)
        rw [eL] at H7
        clear own eL
        go_wp2_with fail
        go_meet
        exact ⟨_, BO, sls_ext ex H1.out, H7.out, hbel⟩
  case rest =>
  clear BO H1 kC
  obtain ⟨v7, BO, h1, h7, kC⟩ := hcut
  obtain ⟨wD, hwD⟩ : ∃ x, x = wc := ⟨_, rfl⟩
  subst hwD
  have H1 : Hid _ := h1
  have H7 : Hid _ := h7
  clear h1 h7
  apply_assumption
  refine wp_seq_k (fun K3 hK3 => ?_)
  go_cut [5] (fun s5 wc => ∃ (v8 : Value), wc.heap[O]? = some (.cells #[.string (cutS nm 10), v1, .string (cutS rt 12), .bool st, .bool ab, .int .i64 lo, .int .i64 sk, v7, v8, .slice none 0 0] 46 (0, 0)) ∧ Sl strE 1 (msk pS wc) v1 (cutTs 8 ps) ∧ Sl insE 4 (msk pI wc) v7 ((cd.take 104).map cutI) ∧ Sl mapE 3 (msk pX wc) v8 ((mp.take 104).map cutX) ∧ Below wB.heap.size wB wc)
  case first =>
    go_wp2_with fail
    go_loopw [5] (fun i wr => ∃ (k : Nat) (v8 : Value) (YL : List (MapL × Value × Value)), k ≤ mp.length ∧ k ≤ 104 ∧ i = .int .i64 k ∧ YL.map (·.1) = (mp.take k).map cutX ∧ wr.heap[O]? = some (.cells #[.string (cutS nm 10), v1, .string (cutS rt 12), .bool st, .bool ab, .int .i64 lo, .int .i64 sk, v7, v8, .slice none 0 0] 46 (0, 0)) ∧ wr.ownsRow wB.heap.size 50 3 v8 k (YL.flatMap xcells) ∧ (∀ y ∈ YL, Sl strE 1 (msk pS wr) y.2.1 y.1.locals ∧ Sl strE 1 (msk pS wr) y.2.2 y.1.stack) ∧ Ext (msk pS wD) (msk pS wr) ∧ Ext (msk pI wD) (msk pI wr) ∧ Below wB.heap.size wB wr) (fun i _ => mp.length - (intOf i).toNat)
    case atStart => exact ⟨0, _, [], by omega, by omega, rfl, rfl, BO, World.ownsRow_nil _ _ _ _, fun y hy => (by cases hy), Ext.refl _, Ext.refl _, kC⟩
    case round =>
      clear BO
      obtain ⟨k, v8, YL, hk, hkn, rfl, hYL, BO, own, hHY, ex, ei, hbel⟩ := hrel
      have HE : Hid _ := hYL
      have HY : Hid _ := hHY
      clear hYL hHY
      have x8 := cellOn y8 hbel
      by_cases hlk : k < mp.length
      case pos =>
        by_cases hln : k < 104
        case pos =>
          have d1 : decide ((k : Int) < (mp.length : Int)) = true := by simp; omega
          have d3 : decide (k < mp.length) = true := by simp; omega
          have d2 : decide ((k : Int) < 104) = true := by simp; omega
          have d4 : decide (k < 104) = true := by simp; omega
          go_upto_region 9 with fail
          clear d1 d2 d3 d4 x8
          obtain ⟨aa, cc, ev, _, _, _, hx9⟩ := HV.out.maps
          simp only [Value.slice.injEq, true_and] at ev
          obtain ⟨rfl, rfl⟩ := ev
          obtain ⟨b9, off9, rfl, _, hx9⟩ := hx9 (by simp only; omega)
          obtain ⟨vL, vS, g0, g1, g2, sL, sS⟩ := hx9 k hlk
          have HS : Hid _ := map_succ cutX hlk
          clear hx9
          generalize mp[k] = X at *
          have HL1 : Hid _ := sL
          have HS1 : Hid _ := sS
          obtain ⟨aL, cL, rfl, _⟩ := sL
          obtain ⟨aS, cS, rfl, _⟩ := sS
          have HT1 := fun W (b : Below wB.heap.size wB W) => texts_any _ X.locals W 20 (by decide) (Sl.later strE_stable HL1.out b)
          have HT2 := fun W (b : Below wB.heap.size wB W) => texts_any _ X.stack W 20 (by decide) (Sl.later strE_stable HS1.out b)
          have kr : Below wr.heap.size wr wr.drew := (Below.refl _ _).drew
          have kk := hbel.trans (kr.mono hbel.size)
          have BO := blk_on BO kr
          have own := own_later own kr
          have ex := ex.trans (ext_below kr)
          have ei := ei.trans (ext_below kr)
          have z := blk_cell BO 8
          simp only [List.getElem?_toArray, List.getElem?_cons_zero, List.getElem?_cons_succ] at z
          have HY : Hid _ := yl_ext (ext_below kr) HY.out
          refine wp_region_held_drew (S := fun W' => W'.cell? ⟨w.heap.size, 8, none⟩ = some (.slice (some ⟨b9, off9, none⟩) mp.length d8) ∧ W'.cell? ⟨b9, off9 + k * 3, none⟩ = some (.int .i64 X.at') ∧ W'.cell? ⟨b9, off9 + k * 3 + 1, none⟩ = some (.slice aL X.locals.length cL) ∧ W'.cell? ⟨b9, off9 + k * 3 + 2, none⟩ = some (.slice aS X.stack.length cS)) (by kernel_rfl) ⟨cellOn y8 kk, cellOn g0 kk, cellOn g1 kk, cellOn g2 kk⟩ (fun hHeld => ?_)
          generalize wr.drew = wX at *
          clear hbel kr
          refine wpAnyH_take (i := 0) (oi := ⟨some 59, _, _, _, _, _⟩) (v := ?_) rfl (by kernel_rfl) (by kernel_rfl) (by kernel_rfl) (fun _ _ _ h => h) (Or.inl ⟨by kernel_rfl, fun Wx hSw => ?_⟩) (by assumption) ?_
          rotate_left
          · ((try dsimp only at hSw); go_simp; try with_reducible rfl)
          simp only [Act.put, List.setIfInBounds_toArray, List.set_cons_zero, List.set_cons_succ]
          refine wpAnyH_take (i := 2) (oi := ⟨some 61, _, _, _, _, _⟩) (v := ?_) rfl (by kernel_rfl) (by kernel_rfl) (by kernel_rfl) (fun _ _ _ h => h) (Or.inl ⟨by kernel_rfl, fun Wx hSw => ?_⟩) (by assumption) ?_
          rotate_left
          · ((try dsimp only at hSw); go_simp; try with_reducible rfl)
          simp only [Act.put, List.setIfInBounds_toArray, List.set_cons_zero, List.set_cons_succ]
          refine wpAnyH_take (i := 3) (oi := ⟨some 62, _, _, _, _, _⟩) (v := ?_) rfl (by kernel_rfl) (by kernel_rfl) (by kernel_rfl) (fun _ _ _ h => h) (Or.inl ⟨by kernel_rfl, fun Wx hSw => ?_⟩) (by assumption) ?_
          rotate_left
          · ((try dsimp only at hSw); go_simp; try with_reducible rfl)
          simp only [Act.put, List.setIfInBounds_toArray, List.set_cons_zero, List.set_cons_succ]
          refine wpAnyH_take (i := 4) (oi := ⟨some 63, _, _, _, _, _⟩) (v := ?_) rfl (by kernel_rfl) (by kernel_rfl) (by kernel_rfl) (fun _ _ _ h => h) (Or.inl ⟨by kernel_rfl, fun Wx hSw => ?_⟩) (by assumption) ?_
          rotate_left
          · ((try dsimp only at hSw); go_simp; try with_reducible rfl)
          simp only [Act.put, List.setIfInBounds_toArray, List.set_cons_zero, List.set_cons_succ]
          refine wpAnyH_take (i := 5) (oi := ⟨some 64, _, _, _, _, _⟩) (v := ?_) rfl (by kernel_rfl) (by kernel_rfl) (by kernel_rfl) (fun _ _ _ h => h) (Or.inl ⟨by kernel_rfl, fun Wx hSw => ?_⟩) (by assumption) ?_
          rotate_left
          · ((try dsimp only at hSw); go_simp; try with_reducible rfl)
          simp only [Act.put, List.setIfInBounds_toArray, List.set_cons_zero, List.set_cons_succ]
          refine wpAnyH_take (i := 6) (oi := ⟨some 65, _, _, _, _, _⟩) (v := ?_) rfl (by kernel_rfl) (by kernel_rfl) (by kernel_rfl) (fun _ _ _ h => h) (Or.inl ⟨by kernel_rfl, fun Wx hSw => ?_⟩) (by assumption) ?_
          rotate_left
          · ((try dsimp only at hSw); go_simp; try with_reducible rfl)
          simp only [Act.put, List.setIfInBounds_toArray, List.set_cons_zero, List.set_cons_succ]
          refine wpAnyH_take (i := 7) (oi := ⟨some 66, _, _, _, _, _⟩) (v := ?_) rfl (by kernel_rfl) (by kernel_rfl) (by kernel_rfl) (fun _ _ _ h => h) (Or.inl ⟨by kernel_rfl, fun Wx hSw => ?_⟩) (by assumption) ?_
          rotate_left
          · ((try dsimp only at hSw); go_simp; try with_reducible rfl)
          simp only [Act.put, List.setIfInBounds_toArray, List.set_cons_zero, List.set_cons_succ]
          refine wpAnyH_take (i := 8) (oi := ⟨some 67, _, _, _, _, _⟩) (v := ?_) rfl (by kernel_rfl) (by kernel_rfl) (by kernel_rfl) (fun _ _ _ h => h) (Or.inl ⟨by kernel_rfl, fun Wx hSw => ?_⟩) (by assumption) ?_
          rotate_left
          · ((try dsimp only at hSw); go_simp; try with_reducible rfl)
          simp only [Act.put, List.setIfInBounds_toArray, List.set_cons_zero, List.set_cons_succ]
          refine wpAnyH_take (i := 9) (oi := ⟨some 68, _, _, _, _, _⟩) (v := ?_) rfl (by kernel_rfl) (by kernel_rfl) (by kernel_rfl) (fun _ _ _ h => h) (Or.inl ⟨by kernel_rfl, fun Wx hSw => ?_⟩) (by assumption) ?_
          rotate_left
          · ((try dsimp only at hSw); go_simp; try with_reducible rfl)
          simp only [Act.put, List.setIfInBounds_toArray, List.set_cons_zero, List.set_cons_succ]
          refine wpAnyH_take (i := 10) (oi := ⟨some 69, _, _, _, _, _⟩) (v := ?_) rfl (by kernel_rfl) (by kernel_rfl) (by kernel_rfl) (fun _ _ _ h => h) (Or.inl ⟨by kernel_rfl, fun Wx hSw => ?_⟩) (by assumption) ?_
          rotate_left
          · ((try dsimp only at hSw); go_simp; try with_reducible rfl)
          simp only [Act.put, List.setIfInBounds_toArray, List.set_cons_zero, List.set_cons_succ]
          refine wpAnyH_take (i := 11) (oi := ⟨some 70, _, _, _, _, _⟩) (v := ?_) rfl (by kernel_rfl) (by kernel_rfl) (by kernel_rfl) (fun _ _ _ h => h) (Or.inl ⟨by kernel_rfl, fun Wx hSw => ?_⟩) (by assumption) ?_
          rotate_left
          · ((try dsimp only at hSw); go_simp; try with_reducible rfl)
          simp only [Act.put, List.setIfInBounds_toArray, List.set_cons_zero, List.set_cons_succ]
          refine wpAnyH_take (i := 12) (oi := ⟨some 71, _, _, _, _, _⟩) (v := ?_) rfl (by kernel_rfl) (by kernel_rfl) (by kernel_rfl) (fun _ _ _ h => h) (Or.inl ⟨by kernel_rfl, fun Wx hSw => ?_⟩) (by assumption) ?_
          rotate_left
          · ((try dsimp only at hSw); go_simp; try with_reducible rfl)
          simp only [Act.put, List.setIfInBounds_toArray, List.set_cons_zero, List.set_cons_succ]
          refine wpAnyH_take (i := 13) (oi := ⟨some 72, _, _, _, _, _⟩) (v := ?_) rfl (by kernel_rfl) (by kernel_rfl) (by kernel_rfl) (fun _ _ _ h => h) (Or.inl ⟨by kernel_rfl, fun Wx hSw => ?_⟩) (by assumption) ?_
          rotate_left
          · ((try dsimp only at hSw); go_simp; try with_reducible rfl)
          simp only [Act.put, List.setIfInBounds_toArray, List.set_cons_zero, List.set_cons_succ]
          refine wpAnyH_take (i := 15) (oi := ⟨some 74, _, _, _, _, _⟩) (v := ?_) rfl (by kernel_rfl) (by kernel_rfl) (by kernel_rfl) (fun _ _ _ h => h) (Or.inl ⟨by kernel_rfl, fun Wx hSw => ?_⟩) (by assumption) ?_
          rotate_left
          · ((try dsimp only at hSw); go_simp; try with_reducible rfl)
          simp only [Act.put, List.setIfInBounds_toArray, List.set_cons_zero, List.set_cons_succ]
          refine wpAnyH_take (i := 16) (oi := ⟨some 75, _, _, _, _, _⟩) (v := ?_) rfl (by kernel_rfl) (by kernel_rfl) (by kernel_rfl) (fun _ _ _ h => h) (Or.inl ⟨by kernel_rfl, fun Wx hSw => ?_⟩) (by assumption) ?_
          rotate_left
          · ((try dsimp only at hSw); go_simp; try with_reducible rfl)
          simp only [Act.put, List.setIfInBounds_toArray, List.set_cons_zero, List.set_cons_succ]
          refine wpAnyH_take (i := 17) (oi := ⟨some 76, _, _, _, _, _⟩) (v := ?_) rfl (by kernel_rfl) (by kernel_rfl) (by kernel_rfl) (fun _ _ _ h => h) (Or.inl ⟨by kernel_rfl, fun Wx hSw => ?_⟩) (by assumption) ?_
          rotate_left
          · ((try dsimp only at hSw); go_simp; try with_reducible rfl)
          simp only [Act.put, List.setIfInBounds_toArray, List.set_cons_zero, List.set_cons_succ]
          refine wpAnyH_take (i := 18) (oi := ⟨some 77, _, _, _, _, _⟩) (v := ?_) rfl (by kernel_rfl) (by kernel_rfl) (by kernel_rfl) (fun _ _ _ h => h) (Or.inl ⟨by kernel_rfl, fun Wx hSw => ?_⟩) (by assumption) ?_
          rotate_left
          · ((try dsimp only at hSw); go_simp; try with_reducible rfl)
          simp only [Act.put, List.setIfInBounds_toArray, List.set_cons_zero, List.set_cons_succ]
          refine wpAnyH_take (i := 19) (oi := ⟨some 78, _, _, _, _, _⟩) (v := ?_) rfl (by kernel_rfl) (by kernel_rfl) (by kernel_rfl) (fun _ _ _ h => h) (Or.inl ⟨by kernel_rfl, fun Wx hSw => ?_⟩) (by assumption) ?_
          rotate_left
          · ((try dsimp only at hSw); go_simp; try with_reducible rfl)
          simp only [Act.put, List.setIfInBounds_toArray, List.set_cons_zero, List.set_cons_succ]
          refine wpAnyH_take (i := 20) (oi := ⟨some 79, _, _, _, _, _⟩) (v := ?_) rfl (by kernel_rfl) (by kernel_rfl) (by kernel_rfl) (fun _ _ _ h => h) (Or.inl ⟨by kernel_rfl, fun Wx hSw => ?_⟩) (by assumption) ?_
          rotate_left
          · ((try dsimp only at hSw); go_simp; try with_reducible rfl)
          simp only [Act.put, List.setIfInBounds_toArray, List.set_cons_zero, List.set_cons_succ]
          refine wpAnyH_ready (rs := [1, 14]) (by kernel_rfl) (by simp) ?_
          refine AllReadyH.cons (o := ⟨some 60, _, _, _, _, _⟩) rfl (fun K hK => ?_) ?_
          · go_simp
            refine hK.out _ _ (by assumption) (fun hHeld => ?_)
            clear hK K
            refine wpAnyH_ready (rs := [14]) (by kernel_rfl) (by simp) ?_
            refine AllReadyH.cons (o := ⟨some 73, _, _, _, _, _⟩) rfl (fun K hK => ?_) AllReadyH.nil
            go_simp
            go_wp2_with (go_at_call 20; refine (HT1 _ kk).mono ?_; rintro e w4 ⟨vA, rfl, ownA, bA⟩; obtain ⟨aA, cA, rfl⟩ := own_sl ownA)
            have sA : Hid _ := sl_texts (own_msk (p := pS) ownA (by decide)) rfl (cutTs_small 20 X.locals)
            clear ownA
            have kk := kk.trans (bA.mono kk.size)
            have BO := blk_on BO bA
            have own := own_later own bA
            have ex := ex.trans (ext_below bA)
            have ei := ei.trans (ext_below bA)
            have z := blk_cell BO 8
            simp only [List.getElem?_toArray, List.getElem?_cons_zero, List.getElem?_cons_succ] at z
            have HY : Hid _ := yl_ext (ext_below bA) HY.out
            refine hK.out _ _ ⟨cellOn y8 kk, cellOn g0 kk, cellOn g1 kk, cellOn g2 kk⟩ (fun hHeld => ?_)
            clear hK K
            clear bA
            refine wpAnyH_ready (rs := [21]) (by kernel_rfl) (by simp) ?_
            refine AllReadyH.cons (o := ⟨some 80, _, _, _, _, _⟩) rfl (fun K hK => ?_) AllReadyH.nil
            go_simp
            go_wp2_with (go_at_call 20; refine (HT2 _ kk).mono ?_; rintro e w5 ⟨vB, rfl, ownB, bB⟩; obtain ⟨aB, cB, rfl⟩ := own_sl ownB)
            have sB : Hid _ := sl_texts (own_msk (p := pS) ownB (by decide)) rfl (cutTs_small 20 X.stack)
            clear ownB
            have kk := kk.trans (bB.mono kk.size)
            have BO := blk_on BO bB
            have own := own_later own bB
            have ex := ex.trans (ext_below bB)
            have ei := ei.trans (ext_below bB)
            have z := blk_cell BO 8
            simp only [List.getElem?_toArray, List.getElem?_cons_zero, List.getElem?_cons_succ] at z
            have HY : Hid _ := yl_ext (ext_below bB) HY.out
            have sA : Hid _ := sls_ext (ext_below bB) sA.out
            refine hK.out _ _ ⟨cellOn y8 kk, cellOn g0 kk, cellOn g1 kk, cellOn g2 kk⟩ (fun hHeld => ?_)
            clear hK K
            clear bB
            refine wpAnyH_take (i := 22) (oi := ⟨some 81, _, _, _, _, _⟩) (v := ?_) rfl (by kernel_rfl) (by kernel_rfl) (by kernel_rfl) (fun _ _ _ h => h) (Or.inl ⟨by kernel_rfl, fun Wx hSw => ?_⟩) (by assumption) ?_
            rotate_left
            · ((try dsimp only at hSw); go_simp; try with_reducible rfl)
            simp only [Act.put, List.setIfInBounds_toArray, List.set_cons_zero, List.set_cons_succ]
            refine wpAnyH_ready (rs := [23]) (by kernel_rfl) (by simp) ?_
            refine AllReadyH.cons (o := ⟨some 82, _, _, _, _, _⟩) rfl (fun K hK => ?_) AllReadyH.nil
            go_simp
            have b6 := alloc1 w5 (.cells #[.int .i64 X.at', .slice aA (cutTs 20 X.locals).length cA, .slice aB (cutTs 20 X.stack).length cB] 50)
            have hnews : ∀ (j : Nat) (u : Value), (xcells ((cutX X, .slice aA (cutTs 20 X.locals).length cA, .slice aB (cutTs 20 X.stack).length cB) : MapL × Value × Value))[j]? = some u → (w5.alloc (.cells #[.int .i64 X.at', .slice aA (cutTs 20 X.locals).length cA, .slice aB (cutTs 20 X.stack).length cB] 50)).cell? ((⟨w5.heap.size, 0, none⟩ : Addr).add j) = some u := news_lit w5 (xcells ((cutX X, .slice aA (cutTs 20 X.locals).length cA, .slice aB (cutTs 20 X.stack).length cB) : MapL × Value × Value)) 50
            have kk := kk.trans (b6.mono kk.size)
            have BO := blk_on BO b6
            have own := own_later own b6
            have ex := ex.trans (ext_below b6)
            have ei := ei.trans (ext_below b6)
            have z := blk_cell BO 8
            simp only [List.getElem?_toArray, List.getElem?_cons_zero, List.getElem?_cons_succ] at z
            have HY : Hid _ := yl_ext (ext_below b6) HY.out
            have sA : Hid _ := sls_ext (ext_below b6) sA.out
            have sB : Hid _ := sls_ext (ext_below b6) sB.out
            refine hK.out _ _ ⟨cellOn y8 kk, cellOn g0 kk, cellOn g1 kk, cellOn g2 kk⟩ (fun hHeld => ?_)
            clear hK K
            generalize w5.alloc (.cells #[.int .i64 X.at', .slice aA (cutTs 20 X.locals).length cA, .slice aB (cutTs 20 X.stack).length cB] 50) = w6 at *
            have hB6 := kk.size
            clear b6
            refine wpAnyH_ready (rs := [24]) (by kernel_rfl) (by simp) ?_
            refine AllReadyH.cons (o := ⟨some 83, _, _, _, _, _⟩) rfl (fun K hK => ?_) AllReadyH.nil
            have hne := own_ne_blk own BO (by decide)
            have hlow := fun g e => (own.lt g e).1
            refine step_append_lies _ rfl (.tmp 60) (.tmp 82) 43 rfl wB.heap.size 50 iX (.agg #[.int .i64 0, .slice none 0 0, .slice none 0 0]) 3 56 Tryz.underlying43 hiX hzX0 hzX1 hzX2 rfl (by decide) v8 k _ rfl own ⟨w5.heap.size, 0, none⟩ 1 1 (xcells ((cutX X, .slice aA (cutTs 20 X.locals).length cA, .slice aB (cutTs 20 X.stack).length cB) : MapL × Value × Value)) rfl rfl hnews (one_map _ _ _ _ _ _ _) (by decide) (by unfold maxLen; omega) (by omega) hB6 _ rfl ?_
            intro g' cap' w7 own7 g7 hat hlt
            have kk := kk.grown g7 hB6 hlow
            have BO := blk_grown BO g7 hne
            have ex := ex.trans (ext_grown own (by decide) g7)
            have ei := ei.trans (ext_grown own (by decide) g7)
            have HY : Hid _ := yl_ext (ext_grown own (by decide) g7) HY.out
            have sA : Hid _ := sls_ext (ext_grown own (by decide) g7) sA.out
            have sB : Hid _ := sls_ext (ext_grown own (by decide) g7) sB.out
            have z := blk_cell BO 8
            simp only [List.getElem?_toArray, List.getElem?_cons_zero, List.getElem?_cons_succ] at z
            have zf := blk_free BO 8
            refine hK.out _ _ ⟨cellOn y8 kk, cellOn g0 kk, cellOn g1 kk, cellOn g2 kk⟩ (fun hHeld => ?_)
            clear hK K
            clear own hnews g7 hne hlow
            refine wpAnyH_take (i := 25) (oi := ⟨some 84, _, _, _, _, _⟩) (v := ?_) rfl (by kernel_rfl) (by kernel_rfl) (by kernel_rfl) (fun _ _ _ h => h) (Or.inl ⟨by kernel_rfl, fun Wx hSw => ?_⟩) (by assumption) ?_
            rotate_left
            · ((try dsimp only at hSw); go_simp; try with_reducible rfl)
            simp only [Act.put, List.setIfInBounds_toArray, List.set_cons_zero, List.set_cons_succ]
            refine wpAnyH_ready (rs := [26]) (by kernel_rfl) (by simp) ?_
            refine AllReadyH.cons (o := ⟨none, _, _, _, _, _⟩) rfl (fun K hK => ?_) AllReadyH.nil
            go_simp
            have BO5 : (w7.setCell ⟨O, 8, none⟩ (.slice (some ⟨g', 0, none⟩) (k + 1) cap')).heap[O]? = some (.cells #[.string (cutS nm 10), v1, .string (cutS rt 12), .bool st, .bool ab, .int .i64 lo, .int .i64 sk, v7, (.slice (some ⟨g', 0, none⟩) (k + 1) cap'), .slice none 0 0] 46 (0, 0)) := blk_set BO 8 _
            have own := ownsRow_setCell_other own7 (a := ⟨O, 8, none⟩) (fun e => own_ne_blk own7 BO (by decide) e.symm) (.slice (some ⟨g', 0, none⟩) (k + 1) cap')
            have kk := kk.setCell (p := ⟨O, 8, none⟩) hO (.slice (some ⟨g', 0, none⟩) (k + 1) cap')
            have ex := ex.trans (ext_set BO (by decide) 8 (.slice (some ⟨g', 0, none⟩) (k + 1) cap'))
            have ei := ei.trans (ext_set BO (by decide) 8 (.slice (some ⟨g', 0, none⟩) (k + 1) cap'))
            have HY : Hid _ := yl_ext (ext_set BO (by decide) 8 (.slice (some ⟨g', 0, none⟩) (k + 1) cap')) HY.out
            have sA : Hid _ := sls_ext (ext_set BO (by decide) 8 (.slice (some ⟨g', 0, none⟩) (k + 1) cap')) sA.out
            have sB : Hid _ := sls_ext (ext_set BO (by decide) 8 (.slice (some ⟨g', 0, none⟩) (k + 1) cap')) sB.out
            refine hK.out _ _ ⟨cellOn y8 kk, cellOn g0 kk, cellOn g1 kk, cellOn g2 kk⟩ (fun hHeld => ?_)
            clear hK K
            generalize w7.setCell ⟨O, 8, none⟩ (.slice (some ⟨g', 0, none⟩) (k + 1) cap') = w8 at *
            clear own7 BO z zf
            refine wpAnyH_done (by kernel_rfl) ?_ _
            clear hHeld y7 y8 y9 g0 g1 g2 HT1 HT2
            have e4 : YL.flatMap xcells ++ xcells ((cutX X, .slice aA (cutTs 20 X.locals).length cA, .slice aB (cutTs 20 X.stack).length cB) : MapL × Value × Value) = (YL ++ [((cutX X, .slice aA (cutTs 20 X.locals).length cA, .slice aB (cutTs 20 X.stack).length cB) : MapL × Value × Value)]).flatMap xcells := by rw [List.flatMap_append]; simp
            rw [e4] at own
            have e5 : Hid ((YL ++ [((cutX X, .slice aA (cutTs 20 X.locals).length cA, .slice aB (cutTs 20 X.stack).length cB) : MapL × Value × Value)]).map (·.1) = (mp.take (k + 1)).map cutX) := by show _ = _; rw [List.map_append, HE.out, HS.out]; rfl
            have e6 : Hid _ := yl_add HY.out (y := ((cutX X, .slice aA (cutTs 20 X.locals).length cA, .slice aB (cutTs 20 X.stack).length cB) : MapL × Value × Value)) sA.out sB.out
            clear HE HS e4
            go_wp2_with fail
            go_roundw
            case rel => exact ⟨k + 1, _, _, by omega, by omega, by go_num, e5.out, BO5, own, e6.out, ex, ei, kk⟩
            case measure => simp [intOf]; omega
          refine AllReadyH.cons (o := ⟨some 73, _, _, _, _, _⟩) rfl (fun K hK => ?_) AllReadyH.nil
          go_simp
          go_wp2_with (go_at_call 20; refine (HT1 _ kk).mono ?_; rintro e w4 ⟨vA, rfl, ownA, bA⟩; obtain ⟨aA, cA, rfl⟩ := own_sl ownA)
          have sA : Hid _ := sl_texts (own_msk (p := pS) ownA (by decide)) rfl (cutTs_small 20 X.locals)
          clear ownA
          have kk := kk.trans (bA.mono kk.size)
          have BO := blk_on BO bA
          have own := own_later own bA
          have ex := ex.trans (ext_below bA)
          have ei := ei.trans (ext_below bA)
          have z := blk_cell BO 8
          simp only [List.getElem?_toArray, List.getElem?_cons_zero, List.getElem?_cons_succ] at z
          have HY : Hid _ := yl_ext (ext_below bA) HY.out
          refine hK.out _ _ ⟨cellOn y8 kk, cellOn g0 kk, cellOn g1 kk, cellOn g2 kk⟩ (fun hHeld => ?_)
          clear hK K
          clear bA
          refine wpAnyH_ready (rs := [1, 21]) (by kernel_rfl) (by simp) ?_
          refine AllReadyH.cons (o := ⟨some 60, _, _, _, _, _⟩) rfl (fun K hK => ?_) ?_
          · go_simp
            refine hK.out _ _ (by assumption) (fun hHeld => ?_)
            clear hK K
            refine wpAnyH_ready (rs := [21]) (by kernel_rfl) (by simp) ?_
            refine AllReadyH.cons (o := ⟨some 80, _, _, _, _, _⟩) rfl (fun K hK => ?_) AllReadyH.nil
            go_simp
            go_wp2_with (go_at_call 20; refine (HT2 _ kk).mono ?_; rintro e w5 ⟨vB, rfl, ownB, bB⟩; obtain ⟨aB, cB, rfl⟩ := own_sl ownB)
            have sB : Hid _ := sl_texts (own_msk (p := pS) ownB (by decide)) rfl (cutTs_small 20 X.stack)
            clear ownB
            have kk := kk.trans (bB.mono kk.size)
            have BO := blk_on BO bB
            have own := own_later own bB
            have ex := ex.trans (ext_below bB)
            have ei := ei.trans (ext_below bB)
            have z := blk_cell BO 8
            simp only [List.getElem?_toArray, List.getElem?_cons_zero, List.getElem?_cons_succ] at z
            have HY : Hid _ := yl_ext (ext_below bB) HY.out
            have sA : Hid _ := sls_ext (ext_below bB) sA.out
            refine hK.out _ _ ⟨cellOn y8 kk, cellOn g0 kk, cellOn g1 kk, cellOn g2 kk⟩ (fun hHeld => ?_)
            clear hK K
            clear bB
            refine wpAnyH_take (i := 22) (oi := ⟨some 81, _, _, _, _, _⟩) (v := ?_) rfl (by kernel_rfl) (by kernel_rfl) (by kernel_rfl) (fun _ _ _ h => h) (Or.inl ⟨by kernel_rfl, fun Wx hSw => ?_⟩) (by assumption) ?_
            rotate_left
            · ((try dsimp only at hSw); go_simp; try with_reducible rfl)
            simp only [Act.put, List.setIfInBounds_toArray, List.set_cons_zero, List.set_cons_succ]
            refine wpAnyH_ready (rs := [23]) (by kernel_rfl) (by simp) ?_
            refine AllReadyH.cons (o := ⟨some 82, _, _, _, _, _⟩) rfl (fun K hK => ?_) AllReadyH.nil
            go_simp
            have b6 := alloc1 w5 (.cells #[.int .i64 X.at', .slice aA (cutTs 20 X.locals).length cA, .slice aB (cutTs 20 X.stack).length cB] 50)
            have hnews : ∀ (j : Nat) (u : Value), (xcells ((cutX X, .slice aA (cutTs 20 X.locals).length cA, .slice aB (cutTs 20 X.stack).length cB) : MapL × Value × Value))[j]? = some u → (w5.alloc (.cells #[.int .i64 X.at', .slice aA (cutTs 20 X.locals).length cA, .slice aB (cutTs 20 X.stack).length cB] 50)).cell? ((⟨w5.heap.size, 0, none⟩ : Addr).add j) = some u := news_lit w5 (xcells ((cutX X, .slice aA (cutTs 20 X.locals).length cA, .slice aB (cutTs 20 X.stack).length cB) : MapL × Value × Value)) 50
            have kk := kk.trans (b6.mono kk.size)
            have BO := blk_on BO b6
            have own := own_later own b6
            have ex := ex.trans (ext_below b6)
            have ei := ei.trans (ext_below b6)
            have z := blk_cell BO 8
            simp only [List.getElem?_toArray, List.getElem?_cons_zero, List.getElem?_cons_succ] at z
            have HY : Hid _ := yl_ext (ext_below b6) HY.out
            have sA : Hid _ := sls_ext (ext_below b6) sA.out
            have sB : Hid _ := sls_ext (ext_below b6) sB.out
            refine hK.out _ _ ⟨cellOn y8 kk, cellOn g0 kk, cellOn g1 kk, cellOn g2 kk⟩ (fun hHeld => ?_)
            clear hK K
            generalize w5.alloc (.cells #[.int .i64 X.at', .slice aA (cutTs 20 X.locals).length cA, .slice aB (cutTs 20 X.stack).length cB] 50) = w6 at *
            have hB6 := kk.size
            clear b6
            refine wpAnyH_ready (rs := [24]) (by kernel_rfl) (by simp) ?_
            refine AllReadyH.cons (o := ⟨some 83, _, _, _, _, _⟩) rfl (fun K hK => ?_) AllReadyH.nil
            have hne := own_ne_blk own BO (by decide)
            have hlow := fun g e => (own.lt g e).1
            refine step_append_lies _ rfl (.tmp 60) (.tmp 82) 43 rfl wB.heap.size 50 iX (.agg #[.int .i64 0, .slice none 0 0, .slice none 0 0]) 3 56 Tryz.underlying43 hiX hzX0 hzX1 hzX2 rfl (by decide) v8 k _ rfl own ⟨w5.heap.size, 0, none⟩ 1 1 (xcells ((cutX X, .slice aA (cutTs 20 X.locals).length cA, .slice aB (cutTs 20 X.stack).length cB) : MapL × Value × Value)) rfl rfl hnews (one_map _ _ _ _ _ _ _) (by decide) (by unfold maxLen; omega) (by omega) hB6 _ rfl ?_
            intro g' cap' w7 own7 g7 hat hlt
            have kk := kk.grown g7 hB6 hlow
            have BO := blk_grown BO g7 hne
            have ex := ex.trans (ext_grown own (by decide) g7)
            have ei := ei.trans (ext_grown own (by decide) g7)
            have HY : Hid _ := yl_ext (ext_grown own (by decide) g7) HY.out
            have sA : Hid _ := sls_ext (ext_grown own (by decide) g7) sA.out
            have sB : Hid _ := sls_ext (ext_grown own (by decide) g7) sB.out
            have z := blk_cell BO 8
            simp only [List.getElem?_toArray, List.getElem?_cons_zero, List.getElem?_cons_succ] at z
            have zf := blk_free BO 8
            refine hK.out _ _ ⟨cellOn y8 kk, cellOn g0 kk, cellOn g1 kk, cellOn g2 kk⟩ (fun hHeld => ?_)
            clear hK K
            clear own hnews g7 hne hlow
            refine wpAnyH_take (i := 25) (oi := ⟨some 84, _, _, _, _, _⟩) (v := ?_) rfl (by kernel_rfl) (by kernel_rfl) (by kernel_rfl) (fun _ _ _ h => h) (Or.inl ⟨by kernel_rfl, fun Wx hSw => ?_⟩) (by assumption) ?_
            rotate_left
            · ((try dsimp only at hSw); go_simp; try with_reducible rfl)
            simp only [Act.put, List.setIfInBounds_toArray, List.set_cons_zero, List.set_cons_succ]
            refine wpAnyH_ready (rs := [26]) (by kernel_rfl) (by simp) ?_
            refine AllReadyH.cons (o := ⟨none, _, _, _, _, _⟩) rfl (fun K hK => ?_) AllReadyH.nil
            go_simp
            have BO5 : (w7.setCell ⟨O, 8, none⟩ (.slice (some ⟨g', 0, none⟩) (k + 1) cap')).heap[O]? = some (.cells #[.string (cutS nm 10), v1, .string (cutS rt 12), .bool st, .bool ab, .int .i64 lo, .int .i64 sk, v7, (.slice (some ⟨g', 0, none⟩) (k + 1) cap'), .slice none 0 0] 46 (0, 0)) := blk_set BO 8 _
            have own := ownsRow_setCell_other own7 (a := ⟨O, 8, none⟩) (fun e => own_ne_blk own7 BO (by decide) e.symm) (.slice (some ⟨g', 0, none⟩) (k + 1) cap')
            have kk := kk.setCell (p := ⟨O, 8, none⟩) hO (.slice (some ⟨g', 0, none⟩) (k + 1) cap')
            have ex := ex.trans (ext_set BO (by decide) 8 (.slice (some ⟨g', 0, none⟩) (k + 1) cap'))
            have ei := ei.trans (ext_set BO (by decide) 8 (.slice (some ⟨g', 0, none⟩) (k + 1) cap'))
            have HY : Hid _ := yl_ext (ext_set BO (by decide) 8 (.slice (some ⟨g', 0, none⟩) (k + 1) cap')) HY.out
            have sA : Hid _ := sls_ext (ext_set BO (by decide) 8 (.slice (some ⟨g', 0, none⟩) (k + 1) cap')) sA.out
            have sB : Hid _ := sls_ext (ext_set BO (by decide) 8 (.slice (some ⟨g', 0, none⟩) (k + 1) cap')) sB.out
            refine hK.out _ _ ⟨cellOn y8 kk, cellOn g0 kk, cellOn g1 kk, cellOn g2 kk⟩ (fun hHeld => ?_)
            clear hK K
            generalize w7.setCell ⟨O, 8, none⟩ (.slice (some ⟨g', 0, none⟩) (k + 1) cap') = w8 at *
            clear own7 BO z zf
            refine wpAnyH_done (by kernel_rfl) ?_ _
            clear hHeld y7 y8 y9 g0 g1 g2 HT1 HT2
            have e4 : YL.flatMap xcells ++ xcells ((cutX X, .slice aA (cutTs 20 X.locals).length cA, .slice aB (cutTs 20 X.stack).length cB) : MapL × Value × Value) = (YL ++ [((cutX X, .slice aA (cutTs 20 X.locals).length cA, .slice aB (cutTs 20 X.stack).length cB) : MapL × Value × Value)]).flatMap xcells := by rw [List.flatMap_append]; simp
            rw [e4] at own
            have e5 : Hid ((YL ++ [((cutX X, .slice aA (cutTs 20 X.locals).length cA, .slice aB (cutTs 20 X.stack).length cB) : MapL × Value × Value)]).map (·.1) = (mp.take (k + 1)).map cutX) := by show _ = _; rw [List.map_append, HE.out, HS.out]; rfl
            have e6 : Hid _ := yl_add HY.out (y := ((cutX X, .slice aA (cutTs 20 X.locals).length cA, .slice aB (cutTs 20 X.stack).length cB) : MapL × Value × Value)) sA.out sB.out
            clear HE HS e4
            go_wp2_with fail
            go_roundw
            case rel => exact ⟨k + 1, _, _, by omega, by omega, by go_num, e5.out, BO5, own, e6.out, ex, ei, kk⟩
            case measure => simp [intOf]; omega
          refine AllReadyH.cons (o := ⟨some 80, _, _, _, _, _⟩) rfl (fun K hK => ?_) AllReadyH.nil
          go_simp
          go_wp2_with (go_at_call 20; refine (HT2 _ kk).mono ?_; rintro e w5 ⟨vB, rfl, ownB, bB⟩; obtain ⟨aB, cB, rfl⟩ := own_sl ownB)
          have sB : Hid _ := sl_texts (own_msk (p := pS) ownB (by decide)) rfl (cutTs_small 20 X.stack)
          clear ownB
          have kk := kk.trans (bB.mono kk.size)
          have BO := blk_on BO bB
          have own := own_later own bB
          have ex := ex.trans (ext_below bB)
          have ei := ei.trans (ext_below bB)
          have z := blk_cell BO 8
          simp only [List.getElem?_toArray, List.getElem?_cons_zero, List.getElem?_cons_succ] at z
          have HY : Hid _ := yl_ext (ext_below bB) HY.out
          have sA : Hid _ := sls_ext (ext_below bB) sA.out
          refine hK.out _ _ ⟨cellOn y8 kk, cellOn g0 kk, cellOn g1 kk, cellOn g2 kk⟩ (fun hHeld => ?_)
          clear hK K
          clear bB
          refine wpAnyH_take (i := 22) (oi := ⟨some 81, _, _, _, _, _⟩) (v := ?_) rfl (by kernel_rfl) (by kernel_rfl) (by kernel_rfl) (fun _ _ _ h => h) (Or.inl ⟨by kernel_rfl, fun Wx hSw => ?_⟩) (by assumption) ?_
          rotate_left
          · ((try dsimp only at hSw); go_simp; try with_reducible rfl)
          simp only [Act.put, List.setIfInBounds_toArray, List.set_cons_zero, List.set_cons_succ]
          refine wpAnyH_ready (rs := [1, 23]) (by kernel_rfl) (by simp) ?_
          refine AllReadyH.cons (o := ⟨some 60, _, _, _, _, _⟩) rfl (fun K hK => ?_) ?_
          · go_simp
            refine hK.out _ _ (by assumption) (fun hHeld => ?_)
            clear hK K
            refine wpAnyH_ready (rs := [23]) (by kernel_rfl) (by simp) ?_
            refine AllReadyH.cons (o := ⟨some 82, _, _, _, _, _⟩) rfl (fun K hK => ?_) AllReadyH.nil
            go_simp
            have b6 := alloc1 w5 (.cells #[.int .i64 X.at', .slice aA (cutTs 20 X.locals).length cA, .slice aB (cutTs 20 X.stack).length cB] 50)
            have hnews : ∀ (j : Nat) (u : Value), (xcells ((cutX X, .slice aA (cutTs 20 X.locals).length cA, .slice aB (cutTs 20 X.stack).length cB) : MapL × Value × Value))[j]? = some u → (w5.alloc (.cells #[.int .i64 X.at', .slice aA (cutTs 20 X.locals).length cA, .slice aB (cutTs 20 X.stack).length cB] 50)).cell? ((⟨w5.heap.size, 0, none⟩ : Addr).add j) = some u := news_lit w5 (xcells ((cutX X, .slice aA (cutTs 20 X.locals).length cA, .slice aB (cutTs 20 X.stack).length cB) : MapL × Value × Value)) 50
            have kk := kk.trans (b6.mono kk.size)
            have BO := blk_on BO b6
            have own := own_later own b6
            have ex := ex.trans (ext_below b6)
            have ei := ei.trans (ext_below b6)
            have z := blk_cell BO 8
            simp only [List.getElem?_toArray, List.getElem?_cons_zero, List.getElem?_cons_succ] at z
            have HY : Hid _ := yl_ext (ext_below b6) HY.out
            have sA : Hid _ := sls_ext (ext_below b6) sA.out
            have sB : Hid _ := sls_ext (ext_below b6) sB.out
            refine hK.out _ _ ⟨cellOn y8 kk, cellOn g0 kk, cellOn g1 kk, cellOn g2 kk⟩ (fun hHeld => ?_)
            clear hK K
            generalize w5.alloc (.cells #[.int .i64 X.at', .slice aA (cutTs 20 X.locals).length cA, .slice aB (cutTs 20 X.stack).length cB] 50) = w6 at *
            have hB6 := kk.size
            clear b6
            refine wpAnyH_ready (rs := [24]) (by kernel_rfl) (by simp) ?_
            refine AllReadyH.cons (o := ⟨some 83, _, _, _, _, _⟩) rfl (fun K hK => ?_) AllReadyH.nil
            have hne := own_ne_blk own BO (by decide)
            have hlow := fun g e => (own.lt g e).1
            refine step_append_lies _ rfl (.tmp 60) (.tmp 82) 43 rfl wB.heap.size 50 iX (.agg #[.int .i64 0, .slice none 0 0, .slice none 0 0]) 3 56 Tryz.underlying43 hiX hzX0 hzX1 hzX2 rfl (by decide) v8 k _ rfl own ⟨w5.heap.size, 0, none⟩ 1 1 (xcells ((cutX X, .slice aA (cutTs 20 X.locals).length cA, .slice aB (cutTs 20 X.stack).length cB) : MapL × Value × Value)) rfl rfl hnews (one_map _ _ _ _ _ _ _) (by decide) (by unfold maxLen; omega) (by omega) hB6 _ rfl ?_
            intro g' cap' w7 own7 g7 hat hlt
            have kk := kk.grown g7 hB6 hlow
            have BO := blk_grown BO g7 hne
            have ex := ex.trans (ext_grown own (by decide) g7)
            have ei := ei.trans (ext_grown own (by decide) g7)
            have HY : Hid _ := yl_ext (ext_grown own (by decide) g7) HY.out
            have sA : Hid _ := sls_ext (ext_grown own (by decide) g7) sA.out
            have sB : Hid _ := sls_ext (ext_grown own (by decide) g7) sB.out
            have z := blk_cell BO 8
            simp only [List.getElem?_toArray, List.getElem?_cons_zero, List.getElem?_cons_succ] at z
            have zf := blk_free BO 8
            refine hK.out _ _ ⟨cellOn y8 kk, cellOn g0 kk, cellOn g1 kk, cellOn g2 kk⟩ (fun hHeld => ?_)
            clear hK K
            clear own hnews g7 hne hlow
            refine wpAnyH_take (i := 25) (oi := ⟨some 84, _, _, _, _, _⟩) (v := ?_) rfl (by kernel_rfl) (by kernel_rfl) (by kernel_rfl) (fun _ _ _ h => h) (Or.inl ⟨by kernel_rfl, fun Wx hSw => ?_⟩) (by assumption) ?_
            rotate_left
            · ((try dsimp only at hSw); go_simp; try with_reducible rfl)
            simp only [Act.put, List.setIfInBounds_toArray, List.set_cons_zero, List.set_cons_succ]
            refine wpAnyH_ready (rs := [26]) (by kernel_rfl) (by simp) ?_
            refine AllReadyH.cons (o := ⟨none, _, _, _, _, _⟩) rfl (fun K hK => ?_) AllReadyH.nil
            go_simp
            have BO5 : (w7.setCell ⟨O, 8, none⟩ (.slice (some ⟨g', 0, none⟩) (k + 1) cap')).heap[O]? = some (.cells #[.string (cutS nm 10), v1, .string (cutS rt 12), .bool st, .bool ab, .int .i64 lo, .int .i64 sk, v7, (.slice (some ⟨g', 0, none⟩) (k + 1) cap'), .slice none 0 0] 46 (0, 0)) := blk_set BO 8 _
            have own := ownsRow_setCell_other own7 (a := ⟨O, 8, none⟩) (fun e => own_ne_blk own7 BO (by decide) e.symm) (.slice (some ⟨g', 0, none⟩) (k + 1) cap')
            have kk := kk.setCell (p := ⟨O, 8, none⟩) hO (.slice (some ⟨g', 0, none⟩) (k + 1) cap')
            have ex := ex.trans (ext_set BO (by decide) 8 (.slice (some ⟨g', 0, none⟩) (k + 1) cap'))
            have ei := ei.trans (ext_set BO (by decide) 8 (.slice (some ⟨g', 0, none⟩) (k + 1) cap'))
            have HY : Hid _ := yl_ext (ext_set BO (by decide) 8 (.slice (some ⟨g', 0, none⟩) (k + 1) cap')) HY.out
            have sA : Hid _ := sls_ext (ext_set BO (by decide) 8 (.slice (some ⟨g', 0, none⟩) (k + 1) cap')) sA.out
            have sB : Hid _ := sls_ext (ext_set BO (by decide) 8 (.slice (some ⟨g', 0, none⟩) (k + 1) cap')) sB.out
            refine hK.out _ _ ⟨cellOn y8 kk, cellOn g0 kk, cellOn g1 kk, cellOn g2 kk⟩ (fun hHeld => ?_)
            clear hK K
            generalize w7.setCell ⟨O, 8, none⟩ (.slice (some ⟨g', 0, none⟩) (k + 1) cap') = w8 at *
            clear own7 BO z zf
            refine wpAnyH_done (by kernel_rfl) ?_ _
            clear hHeld y7 y8 y9 g0 g1 g2 HT1 HT2
            have e4 : YL.flatMap xcells ++ xcells ((cutX X, .slice aA (cutTs 20 X.locals).length cA, .slice aB (cutTs 20 X.stack).length cB) : MapL × Value × Value) = (YL ++ [((cutX X, .slice aA (cutTs 20 X.locals).length cA, .slice aB (cutTs 20 X.stack).length cB) : MapL × Value × Value)]).flatMap xcells := by rw [List.flatMap_append]; simp
            rw [e4] at own
            have e5 : Hid ((YL ++ [((cutX X, .slice aA (cutTs 20 X.locals).length cA, .slice aB (cutTs 20 X.stack).length cB) : MapL × Value × Value)]).map (·.1) = (mp.take (k + 1)).map cutX) := by show _ = _; rw [List.map_append, HE.out, HS.out]; rfl
            have e6 : Hid _ := yl_add HY.out (y := ((cutX X, .slice aA (cutTs 20 X.locals).length cA, .slice aB (cutTs 20 X.stack).length cB) : MapL × Value × Value)) sA.out sB.out
            clear HE HS e4
            go_wp2_with fail
            go_roundw
            case rel => exact ⟨k + 1, _, _, by omega, by omega, by go_num, e5.out, BO5, own, e6.out, ex, ei, kk⟩
            case measure => simp [intOf]; omega
          refine AllReadyH.cons (o := ⟨some 82, _, _, _, _, _⟩) rfl (fun K hK => ?_) AllReadyH.nil
          go_simp
          have b6 := alloc1 w5 (.cells #[.int .i64 X.at', .slice aA (cutTs 20 X.locals).length cA, .slice aB (cutTs 20 X.stack).length cB] 50)
          have hnews : ∀ (j : Nat) (u : Value), (xcells ((cutX X, .slice aA (cutTs 20 X.locals).length cA, .slice aB (cutTs 20 X.stack).length cB) : MapL × Value × Value))[j]? = some u → (w5.alloc (.cells #[.int .i64 X.at', .slice aA (cutTs 20 X.locals).length cA, .slice aB (cutTs 20 X.stack).length cB] 50)).cell? ((⟨w5.heap.size, 0, none⟩ : Addr).add j) = some u := news_lit w5 (xcells ((cutX X, .slice aA (cutTs 20 X.locals).length cA, .slice aB (cutTs 20 X.stack).length cB) : MapL × Value × Value)) 50
          have kk := kk.trans (b6.mono kk.size)
          have BO := blk_on BO b6
          have own := own_later own b6
          have ex := ex.trans (ext_below b6)
          have ei := ei.trans (ext_below b6)
          have z := blk_cell BO 8
          simp only [List.getElem?_toArray, List.getElem?_cons_zero, List.getElem?_cons_succ] at z
          have HY : Hid _ := yl_ext (ext_below b6) HY.out
          have sA : Hid _ := sls_ext (ext_below b6) sA.out
          have sB : Hid _ := sls_ext (ext_below b6) sB.out
          refine hK.out _ _ ⟨cellOn y8 kk, cellOn g0 kk, cellOn g1 kk, cellOn g2 kk⟩ (fun hHeld => ?_)
          clear hK K
          generalize w5.alloc (.cells #[.int .i64 X.at', .slice aA (cutTs 20 X.locals).length cA, .slice aB (cutTs 20 X.stack).length cB] 50) = w6 at *
          have hB6 := kk.size
          clear b6
          refine wpAnyH_ready (rs := [1]) (by kernel_rfl) (by simp) ?_
          refine AllReadyH.cons (o := ⟨some 60, _, _, _, _, _⟩) rfl (fun K hK => ?_) AllReadyH.nil
          go_simp
          refine hK.out _ _ (by assumption) (fun hHeld => ?_)
          clear hK K
          refine wpAnyH_ready (rs := [24]) (by kernel_rfl) (by simp) ?_
          refine AllReadyH.cons (o := ⟨some 83, _, _, _, _, _⟩) rfl (fun K hK => ?_) AllReadyH.nil
          have hne := own_ne_blk own BO (by decide)
          have hlow := fun g e => (own.lt g e).1
          refine step_append_lies _ rfl (.tmp 60) (.tmp 82) 43 rfl wB.heap.size 50 iX (.agg #[.int .i64 0, .slice none 0 0, .slice none 0 0]) 3 56 Tryz.underlying43 hiX hzX0 hzX1 hzX2 rfl (by decide) v8 k _ rfl own ⟨w5.heap.size, 0, none⟩ 1 1 (xcells ((cutX X, .slice aA (cutTs 20 X.locals).length cA, .slice aB (cutTs 20 X.stack).length cB) : MapL × Value × Value)) rfl rfl hnews (one_map _ _ _ _ _ _ _) (by decide) (by unfold maxLen; omega) (by omega) hB6 _ rfl ?_
          intro g' cap' w7 own7 g7 hat hlt
          have kk := kk.grown g7 hB6 hlow
          have BO := blk_grown BO g7 hne
          have ex := ex.trans (ext_grown own (by decide) g7)
          have ei := ei.trans (ext_grown own (by decide) g7)
          have HY : Hid _ := yl_ext (ext_grown own (by decide) g7) HY.out
          have sA : Hid _ := sls_ext (ext_grown own (by decide) g7) sA.out
          have sB : Hid _ := sls_ext (ext_grown own (by decide) g7) sB.out
          have z := blk_cell BO 8
          simp only [List.getElem?_toArray, List.getElem?_cons_zero, List.getElem?_cons_succ] at z
          have zf := blk_free BO 8
          refine hK.out _ _ ⟨cellOn y8 kk, cellOn g0 kk, cellOn g1 kk, cellOn g2 kk⟩ (fun hHeld => ?_)
          clear hK K
          clear own hnews g7 hne hlow
          refine wpAnyH_take (i := 25) (oi := ⟨some 84, _, _, _, _, _⟩) (v := ?_) rfl (by kernel_rfl) (by kernel_rfl) (by kernel_rfl) (fun _ _ _ h => h) (Or.inl ⟨by kernel_rfl, fun Wx hSw => ?_⟩) (by assumption) ?_
          rotate_left
          · ((try dsimp only at hSw); go_simp; try with_reducible rfl)
          simp only [Act.put, List.setIfInBounds_toArray, List.set_cons_zero, List.set_cons_succ]
          refine wpAnyH_ready (rs := [26]) (by kernel_rfl) (by simp) ?_
          refine AllReadyH.cons (o := ⟨none, _, _, _, _, _⟩) rfl (fun K hK => ?_) AllReadyH.nil
          go_simp
          have BO5 : (w7.setCell ⟨O, 8, none⟩ (.slice (some ⟨g', 0, none⟩) (k + 1) cap')).heap[O]? = some (.cells #[.string (cutS nm 10), v1, .string (cutS rt 12), .bool st, .bool ab, .int .i64 lo, .int .i64 sk, v7, (.slice (some ⟨g', 0, none⟩) (k + 1) cap'), .slice none 0 0] 46 (0, 0)) := blk_set BO 8 _
          have own := ownsRow_setCell_other own7 (a := ⟨O, 8, none⟩) (fun e => own_ne_blk own7 BO (by decide) e.symm) (.slice (some ⟨g', 0, none⟩) (k + 1) cap')
          have kk := kk.setCell (p := ⟨O, 8, none⟩) hO (.slice (some ⟨g', 0, none⟩) (k + 1) cap')
          have ex := ex.trans (ext_set BO (by decide) 8 (.slice (some ⟨g', 0, none⟩) (k + 1) cap'))
          have ei := ei.trans (ext_set BO (by decide) 8 (.slice (some ⟨g', 0, none⟩) (k + 1) cap'))
          have HY : Hid _ := yl_ext (ext_set BO (by decide) 8 (.slice (some ⟨g', 0, none⟩) (k + 1) cap')) HY.out
          have sA : Hid _ := sls_ext (ext_set BO (by decide) 8 (.slice (some ⟨g', 0, none⟩) (k + 1) cap')) sA.out
          have sB : Hid _ := sls_ext (ext_set BO (by decide) 8 (.slice (some ⟨g', 0, none⟩) (k + 1) cap')) sB.out
          refine hK.out _ _ ⟨cellOn y8 kk, cellOn g0 kk, cellOn g1 kk, cellOn g2 kk⟩ (fun hHeld => ?_)
          clear hK K
          generalize w7.setCell ⟨O, 8, none⟩ (.slice (some ⟨g', 0, none⟩) (k + 1) cap') = w8 at *
          clear own7 BO z zf
          refine wpAnyH_done (by kernel_rfl) ?_ _
          clear hHeld y7 y8 y9 g0 g1 g2 HT1 HT2
          have e4 : YL.flatMap xcells ++ xcells ((cutX X, .slice aA (cutTs 20 X.locals).length cA, .slice aB (cutTs 20 X.stack).length cB) : MapL × Value × Value) = (YL ++ [((cutX X, .slice aA (cutTs 20 X.locals).length cA, .slice aB (cutTs 20 X.stack).length cB) : MapL × Value × Value)]).flatMap xcells := by rw [List.flatMap_append]; simp
          rw [e4] at own
          have e5 : Hid ((YL ++ [((cutX X, .slice aA (cutTs 20 X.locals).length cA, .slice aB (cutTs 20 X.stack).length cB) : MapL × Value × Value)]).map (·.1) = (mp.take (k + 1)).map cutX) := by show _ = _; rw [List.map_append, HE.out, HS.out]; rfl
          have e6 : Hid _ := yl_add HY.out (y := ((cutX X, .slice aA (cutTs 20 X.locals).length cA, .slice aB (cutTs 20 X.stack).length cB) : MapL × Value × Value)) sA.out sB.out
          clear HE HS e4
          go_wp2_with fail
          go_roundw
          case rel => exact ⟨k + 1, _, _, by omega, by omega, by go_num, e5.out, BO5, own, e6.out, ex, ei, kk⟩
          case measure => simp [intOf]; omega
        case neg =>
          have d1 : decide ((k : Int) < (mp.length : Int)) = true := by simp; omega
          have d3 : decide (k < mp.length) = true := by simp; omega
          have d2 : decide ((k : Int) < 104) = false := by simp; omega
          have d4 : decide (k < 104) = false := by simp; omega
          have eL : Hid (YL.map (·.1) = (mp.take 104).map cutX) := by show _ = _; rw [HE.out, show k = 104 by omega]
          have eN : YL.length = k := by have := congrArg List.length HE.out; simp at this; omega
          have H8 : Hid _ := sl_maps (own_msk (p := pX) own (by decide)) eN (fun y hy => ⟨sls_ext (ext_mono wr pS_X) (HY.out y hy).1, sls_ext (ext_mono wr pS_X) (HY.out y hy).2⟩)
          rw [eL.out] at H8
          clear own eL eN HE HY
          go_wp2_with fail
          go_meet
          exact ⟨_, BO, sls_ext ex H1.out, Sl.ext (insE_ext ei) ei.1 H7.out, H8.out, hbel⟩
      case neg =>
        have d1 : decide ((k : Int) < (mp.length : Int)) = false := by simp; omega
        have d3 : decide (k < mp.length) = false := by simp; omega
        have eL : Hid (YL.map (·.1) = (mp.take 104).map cutX) := by show _ = _; rw [HE.out, List.take_of_length_le (by omega), List.take_of_length_le (by omega)]
        have eN : YL.length = k := by have := congrArg List.length HE.out; simp at this; omega
        have H8 : Hid _ := sl_maps (own_msk (p := pX) own (by decide)) eN (fun y hy => ⟨sls_ext (ext_mono wr pS_X) (HY.out y hy).1, sls_ext (ext_mono wr pS_X) (HY.out y hy).2⟩)
        rw [eL.out] at H8
        clear own eL eN HE HY
        go_wp2_with fail
        go_meet
        exact ⟨_, BO, sls_ext ex H1.out, Sl.ext (insE_ext ei) ei.1 H7.out, H8.out, hbel⟩
  case rest =>
  clear BO H1 H7 kC
  obtain ⟨v8, BO, h1, h7, h8, kC⟩ := hcut
  obtain ⟨wE, hwE⟩ : ∃ x, x = wc := ⟨_, rfl⟩
  subst hwE
  have H1 : Hid _ := h1
  have H7 : Hid _ := h7
  have H8 : Hid _ := h8
  clear h1 h7 h8
  apply_assumption
  refine wp_seq_k (fun K4 hK4 => ?_)
  go_cut [6, 7] (fun s6 s7 wc => ∃ (v9 : Value), wc.heap[O]? = some (.cells #[.string (cutS nm 10), v1, .string (cutS rt 12), .bool st, .bool ab, .int .i64 lo, .int .i64 sk, v7, v8, v9] 46 (0, 0)) ∧ Sl strE 1 (msk pS wc) v1 (cutTs 8 ps) ∧ Sl insE 4 (msk pI wc) v7 ((cd.take 104).map cutI) ∧ Sl mapE 3 (msk pX wc) v8 ((mp.take 104).map cutX) ∧ Sl trapE 4 (msk pR wc) v9 ((tr.take 8).map cutR) ∧ Below wB.heap.size wB wc)
  case first =>
    go_wp2_with fail
    go_loopw [6, 7] (fun i s7 wr => ∃ (k : Nat) (v9 : Value), k ≤ tr.length ∧ k ≤ 8 ∧ i = .int .i64 k ∧ wr.heap[O]? = some (.cells #[.string (cutS nm 10), v1, .string (cutS rt 12), .bool st, .bool ab, .int .i64 lo, .int .i64 sk, v7, v8, v9] 46 (0, 0)) ∧ wr.ownsRow wB.heap.size 80 4 v9 k (((tr.take k).map cutR).flatMap rcells) ∧ Ext (msk pS wE) (msk pS wr) ∧ Ext (msk pI wE) (msk pI wr) ∧ Ext (msk pX wE) (msk pX wr) ∧ Below wB.heap.size wB wr) (fun i _ _ => tr.length - (intOf i).toNat)
    case atStart => exact ⟨0, _, by omega, by omega, rfl, BO, World.ownsRow_nil _ _ _ _, Ext.refl _, Ext.refl _, Ext.refl _, kC⟩
    case round =>
      clear BO
      obtain ⟨k, v9, hk, hkn, rfl, BO, own, ex, ei, em, hbel⟩ := hrel
      have x9 := cellOn y9 hbel
      by_cases hlk : k < tr.length
      case pos =>
        by_cases hln : k < 8
        case pos =>
          have d1 : decide ((k : Int) < (tr.length : Int)) = true := by simp; omega
          have d3 : decide (k < tr.length) = true := by simp; omega
          have d2 : decide ((k : Int) < 8) = true := by simp; omega
          have d4 : decide (k < 8) = true := by simp; omega
          go_upto_region 13 with fail
          clear d1 d2 d3 d4
          obtain ⟨aa, cc, ev, _, _, _, hx9⟩ := HV.out.traps
          simp only [Value.slice.injEq, true_and] at ev
          obtain ⟨rfl, rfl⟩ := ev
          obtain ⟨b9, off9, rfl, _, hx9⟩ := hx9 (by simp only; omega)
          obtain ⟨g0, g1, g2, g3, hc⟩ := hx9 k hlk
          have HS : Hid _ := map_succ cutR hlk
          clear hx9
          generalize tr[k] = X at *
          try simp only at hc
          have g0 := cellOn g0 hbel
          have g1 := cellOn g1 hbel
          have g2 := cellOn g2 hbel
          have g3 := cellOn g3 hbel
          have f1 := alloc1 wr (.cells #[.int .i64 X.from', .int .i64 X.to, .int .i64 X.at', .string (cutS X.c 10)] 80)
          have f2 := f1.alloc f1.size (.cells #[.int .i64 X.from', .int .i64 X.to, .int .i64 X.at', .string (cutS X.c 10)] 80)
          have own2 := own_later own f2
          have hnews : ∀ (j : Nat) (u : Value), (rcells (cutR X))[j]? = some u → ((wr.alloc (.cells #[.int .i64 X.from', .int .i64 X.to, .int .i64 X.at', .string (cutS X.c 10)] 80)).alloc (.cells #[.int .i64 X.from', .int .i64 X.to, .int .i64 X.at', .string (cutS X.c 10)] 80)).cell? ((⟨wr.heap.size + 1, 0, none⟩ : Addr).add j) = some u := by have := news_lit (wr.alloc (.cells #[.int .i64 X.from', .int .i64 X.to, .int .i64 X.at', .string (cutS X.c 10)] 80)) (rcells (cutR X)) 80; rw [alloc_size] at this; exact this
          have BO2 := blk_on BO f2
          have kk2 := hbel.trans (f2.mono hbel.size)
          have hne := own_ne_blk own2 BO2 (by decide)
          have hlow := fun g e => (own2.lt g e).1
          have hB2 := kk2.size
          have z0 := blk_cell BO 9
          have z := blk_cell BO2 9
          have z1 := blk_cell (blk_on BO f1) 9
          simp only [List.getElem?_toArray, List.getElem?_cons_zero, List.getElem?_cons_succ] at z z0 z1
          go_wp2_with (first | (go_at_call 19; refine (cut_any X.c _ 10 10 rfl (by decide) hc).mono ?_; rintro e w' ⟨rfl, rfl⟩) | (at_builtin; refine wpList_append_lies _ rfl (.tmp 106) (.tmp 108) 44 rfl wB.heap.size 80 iT (.agg #[.int .i64 0, .int .i64 0, .int .i64 0, .string ⟨#[]⟩]) 4 40 Tryz.underlying44 hiT hzT0 hzT1 hzT2 rfl (by decide) v9 k _ rfl own2 ⟨wr.heap.size + 1, 0, none⟩ 1 1 (rcells (cutR X)) rfl rfl hnews (one_trap _) (by decide) (by unfold maxLen; omega) (by omega) hB2 _ rfl ?_; intro g' cap' w7 own7 g7 hat hlt; have BO7 := blk_grown BO2 g7 hne; have z7 := blk_cell BO7 9; have zf := blk_free BO7 9; simp only [List.getElem?_toArray, List.getElem?_cons_zero, List.getElem?_cons_succ] at z7))
          have kk := (kk2.grown g7 hB2 hlow).setCell (p := ⟨O, 9, none⟩) hO (.slice (some ⟨g', 0, none⟩) (k + 1) cap')
          have BO5 : (w7.setCell ⟨O, 9, none⟩ (.slice (some ⟨g', 0, none⟩) (k + 1) cap')).heap[O]? = some (.cells #[.string (cutS nm 10), v1, .string (cutS rt 12), .bool st, .bool ab, .int .i64 lo, .int .i64 sk, v7, v8, (.slice (some ⟨g', 0, none⟩) (k + 1) cap')] 46 (0, 0)) := blk_set BO7 9 _
          have own5 := ownsRow_setCell_other own7 (a := ⟨O, 9, none⟩) (fun e => own_ne_blk own7 BO7 (by decide) e.symm) (.slice (some ⟨g', 0, none⟩) (k + 1) cap')
          have ex := ((ex.trans (ext_below f2)).trans (ext_grown own2 (by decide) g7)).trans (ext_set BO7 (by decide) 9 (.slice (some ⟨g', 0, none⟩) (k + 1) cap'))
          have ei := ((ei.trans (ext_below f2)).trans (ext_grown own2 (by decide) g7)).trans (ext_set BO7 (by decide) 9 (.slice (some ⟨g', 0, none⟩) (k + 1) cap'))
          have em := ((em.trans (ext_below f2)).trans (ext_grown own2 (by decide) g7)).trans (ext_set BO7 (by decide) 9 (.slice (some ⟨g', 0, none⟩) (k + 1) cap'))
          have e4 : ((tr.take k).map cutR).flatMap rcells ++ rcells (cutR X) = ((tr.take (k + 1)).map cutR).flatMap rcells := by rw [HS.out, List.flatMap_append]; simp
          rw [e4] at own5
          go_roundw
          case rel => exact ⟨k + 1, _, by omega, by omega, by go_num, BO5, own5, ex, ei, em, kk⟩
          case measure => simp [intOf]; omega
        case neg =>
          have d1 : decide ((k : Int) < (tr.length : Int)) = true := by simp; omega
          have d3 : decide (k < tr.length) = true := by simp; omega
          have d2 : decide ((k : Int) < 8) = false := by simp; omega
          have d4 : decide (k < 8) = false := by simp; omega
          have eL : (tr.take k).map cutR = (tr.take 8).map cutR := by rw [show k = 8 by omega]
          have H9 : Hid _ := sl_traps (own_msk (p := pR) own (by decide)) (by simp; omega) (fun x hx => cutR_small hx)
          rw [eL] at H9
          clear own eL
          go_wp2_with fail
          go_meet
          exact ⟨_, BO, sls_ext ex H1.out, Sl.ext (insE_ext ei) ei.1 H7.out, Sl.ext (mapE_ext em) em.1 H8.out, H9.out, hbel⟩
      case neg =>
        have d1 : decide ((k : Int) < (tr.length : Int)) = false := by simp; omega
        have d3 : decide (k < tr.length) = false := by simp; omega
        have eL : (tr.take k).map cutR = (tr.take 8).map cutR := by rw [List.take_of_length_le (by omega), List.take_of_length_le (by omega)]
        have H9 : Hid _ := sl_traps (own_msk (p := pR) own (by decide)) (by simp; omega) (fun x hx => cutR_small hx)
        rw [eL] at H9
        clear own eL
        go_wp2_with fail
        go_meet
        exact ⟨_, BO, sls_ext ex H1.out, Sl.ext (insE_ext ei) ei.1 H7.out, Sl.ext (mapE_ext em) em.1 H8.out, H9.out, hbel⟩
  case rest =>
  clear BO H1 H7 H8 kC
  obtain ⟨v9, BO, h1, h7, h8, h9, kC⟩ := hcut
  have BR2 := blk_up BR kC (lt_of_block BR)
  have HM : Hid (MethV (msk pMC wc) v1 v7 v8 v9 (cutM ⟨nm, ps, rt, st, ab, lo, sk, cd, mp, tr⟩)) := ⟨sls_ext (ext_mono wc pS_MC) h1, Sl.ext (insE_ext (ext_mono wc pI_MC)) (ext_mono wc pI_MC).1 h7, Sl.ext (mapE_ext (ext_mono wc pX_MC)) (ext_mono wc pX_MC).1 h8, Sl.ext (trapE_ext (ext_mono wc pR_MC)) (ext_mono wc pR_MC).1 h9, cutS_max _ _ (by decide), cutS_max _ _ (by decide)⟩
  obtain ⟨a1, c1, rfl, _⟩ := h1
  obtain ⟨a7, c7, rfl, _⟩ := h7
  obtain ⟨a8, c8, rfl, _⟩ := h8
  obtain ⟨a9, c9, rfl, _⟩ := h9
  clear y7 y8 y9
  go_upto_region 16 with fail
  refine wp_region_list ?_
  refine wpList_load_mid rfl _ _ rfl O 0 rfl #[.string (cutS nm 10), .slice a1 (cutTs 8 ps).length c1, .string (cutS rt 12), .bool st, .bool ab, .int .i64 lo, .int .i64 sk, .slice a7 ((cd.take 104).map cutI).length c7, .slice a8 ((mp.take 104).map cutX).length c8, .slice a9 ((tr.take 8).map cutR).length c9].toList _ (range_blk BO) Tryz.underlying46 rfl info10 ?_
  refine wpList_store_mid rfl _ _ _ rfl (w.heap.size + 1) 0 #[.string (cutS nm 10), .slice a1 (cutTs 8 ps).length c1, .string (cutS rt 12), .bool st, .bool ab, .int .i64 lo, .int .i64 sk, .slice a7 ((cd.take 104).map cutI).length c7, .slice a8 ((mp.take 104).map cutX).length c8, .slice a9 ((tr.take 8).map cutR).length c9] rfl rfl (there_blk BR2 (by simp)) info10 (by simp [Value.oneCell']) ?_
  have BZ := blk_sets10 BR2 (.string (cutS nm 10)) (.slice a1 (cutTs 8 ps).length c1) (.string (cutS rt 12)) (.bool st) (.bool ab) (.int .i64 lo) (.int .i64 sk) (.slice a7 ((cd.take 104).map cutI).length c7) (.slice a8 ((mp.take 104).map cutX).length c8) (.slice a9 ((tr.take 8).map cutR).length c9)
  have eZ : Ext (msk pMC wc) _ := ext_sets (p := pMC) (T := 46) (by decide) #[.string (cutS nm 10), .slice a1 (cutTs 8 ps).length c1, .string (cutS rt 12), .bool st, .bool ab, .int .i64 lo, .int .i64 sk, .slice a7 ((cd.take 104).map cutI).length c7, .slice a8 ((mp.take 104).map cutX).length c8, .slice a9 ((tr.take 8).map cutR).length c9].toList 0 wc _ BR2
  have kW := kB.trans (kC.mono kB.size)
  have kZ := below_sets (Nat.le_succ w.heap.size) #[.string (cutS nm 10), .slice a1 (cutTs 8 ps).length c1, .string (cutS rt 12), .bool st, .bool ab, .int .i64 lo, .int .i64 sk, .slice a7 ((cd.take 104).map cutI).length c7, .slice a8 ((mp.take 104).map cutX).length c8, .slice a9 ((tr.take 8).map cutR).length c9].toList 0 _ kW
  generalize wc.setCells (w.heap.size + 1) 0 #[.string (cutS nm 10), .slice a1 (cutTs 8 ps).length c1, .string (cutS rt 12), .bool st, .bool ab, .int .i64 lo, .int .i64 sk, .slice a7 ((cd.take 104).map cutI).length c7, .slice a8 ((mp.take 104).map cutX).length c8, .slice a9 ((tr.take 8).map cutR).length c9].toList = wZ at *
  have r0 := blk_cell BZ 0
  have r1 := blk_cell BZ 1
  have r2 := blk_cell BZ 2
  have r3 := blk_cell BZ 3
  have r4 := blk_cell BZ 4
  have r5 := blk_cell BZ 5
  have r6 := blk_cell BZ 6
  have r7 := blk_cell BZ 7
  have r8 := blk_cell BZ 8
  have r9 := blk_cell BZ 9
  simp only [List.getElem?_toArray, List.getElem?_cons_zero, List.getElem?_cons_succ] at r0 r1 r2 r3 r4 r5 r6 r7 r8 r9
  clear BO BR2 kC
  go_wp2_with fail
  refine bodyPost_ret (by simp [results, Tryz.results21, go_sem, r0, r1, r2, r3, r4, r5, r6, r7, r8, r9]; try rfl) rfl ?_
  have HM2 := MethV.ext eZ HM.out
  simp only [List.length_map, List.length_take] at HM2
  exact ⟨_, _, _, _, rfl, HM2, kZ⟩
end Fil
end Go.Proofs.YtjblmgdjaaeedaaGreat
