/- Lists that the reader makes: rows of the call's own, filled element by element. -/
import Derived.Test.YtjblmgdjaaeedaaGreatFilRead
import Derived.OwnWalk
namespace Go.Proofs.YtjblmgdjaaeedaaGreat
namespace Fil
open Num Kind Op4 Cls
open Go.RowKit
set_option linter.unusedVariables false
set_option linter.unusedSimpArgs false
set_option maxRecDepth 100000

/-- Every cell that reads reads on. -/
def Ext (w w' : World) : Prop := w.heap.size ≤ w'.heap.size ∧ ∀ a v, w.cell? a = some v → w'.cell? a = some v
/-- The world of which all blocks below N are struck: what reads in it lies in new memory. -/
def young (N : Nat) (w : World) : World := { w with heap := w.heap.mapIdx fun i o => if i < N then .cells #[] 0 (0, 0) else o }
theorem young_size (N : Nat) (w : World) : (young N w).heap.size = w.heap.size := by simp [young]
theorem young_at {N b : Nat} {w : World} (h : N ≤ b) : (young N w).heap[b]? = w.heap[b]? := by
  simp [young, show ¬ b < N by omega]
theorem young_low {N b : Nat} {w : World} (h : b < N) (hb : b < w.heap.size) : (young N w).heap[b]? = some (.cells #[] 0 (0, 0)) := by
  simp only [young, Array.getElem?_mapIdx, Array.getElem?_eq_getElem hb, Option.map_some]
  rw [if_pos h]
theorem young_zero (w : World) : young 0 w = w := by
  have e : (fun (i : Nat) (o : Obj) => if i < 0 then Obj.cells #[] 0 (0, 0) else o) = fun _ o => o := by
    funext i o
    rw [if_neg (by omega)]
  cases w
  simp only [young, e]
  congr 1
  apply Array.ext_getElem?
  intro i
  simp
theorem young_cell {N N' : Nat} {w : World} {a : Addr} {v : Value} (hN : N ≤ N') (h : (young N' w).cell? a = some v) : (young N w).cell? a = some v := by
  by_cases e : N' ≤ a.block
  · rw [World.cell?_of_block (w := young N w) ((young_at e).trans (young_at (Nat.le_trans hN e)).symm)] at h
    exact h
  · by_cases hlt : a.block < w.heap.size
    · have hl := young_low (N := N') (w := w) (show a.block < N' by omega) hlt
      simp [World.cell?, hl] at h
    · have : (young N' w).heap[a.block]? = none := Array.getElem?_eq_none (by rw [young_size]; omega)
      simp [World.cell?, this] at h
theorem young_keep {N : Nat} {w w' : World} {row : Option Nat} (h : w.grownBy w' row) (hr : ∀ k, row = some k → k < N) : Below (young N w).heap.size (young N w) (young N w') := by
  refine ⟨h.os, h.tape, h.output, by rw [young_size, young_size]; exact h.size, fun k hk => ?_⟩
  rw [young_size] at hk
  by_cases e : k < N
  · rw [young_low e hk, young_low e (Nat.lt_of_lt_of_le hk h.size)]
  · rw [young_at (by omega), young_at (by omega)]
    exact h.block k hk (fun e' => e (hr k e'.symm))
theorem Ext.young {N N' : Nat} (w : World) (h : N ≤ N') : Ext (young N' w) (young N w) := ⟨by rw [young_size, young_size]; exact Nat.le_refl _, fun a v hv => young_cell h hv⟩
theorem Sl.ext {α : Type} {E : World → Nat → Nat → α → Prop} {size : Nat} {w w' : World} {v : Value} {l : List α} (hE : ∀ b off x, E w b off x → E w' b off x) (he : w.heap.size ≤ w'.heap.size) (h : Sl E size w v l) : Sl E size w' v l := by
  obtain ⟨a, c, h1, h2, h3, h4, h5⟩ := h
  refine ⟨a, c, h1, h2, h3, h4, fun h0 => ?_⟩
  obtain ⟨b, off, e, hlt, hx⟩ := h5 h0
  exact ⟨b, off, e, Nat.lt_of_lt_of_le hlt he, fun i hi => hE _ _ _ (hx i hi)⟩
theorem strE_ext {w w' : World} (he : Ext w w') (b off : Nat) (x : ByteArray) (h : strE w b off x) : strE w' b off x := ⟨he.2 _ _ h.1, h.2⟩
theorem insE_ext {w w' : World} (he : Ext w w') (b off : Nat) (x : InsL) (h : insE w b off x) : insE w' b off x := by
  obtain ⟨⟨h0, h1, h2, h3⟩, h4⟩ := h
  exact ⟨⟨he.2 _ _ h0, he.2 _ _ h1, he.2 _ _ h2, he.2 _ _ h3⟩, h4⟩
theorem trapE_ext {w w' : World} (he : Ext w w') (b off : Nat) (x : TrapL) (h : trapE w b off x) : trapE w' b off x := ⟨he.2 _ _ h.c0, he.2 _ _ h.c1, he.2 _ _ h.c2, he.2 _ _ h.c3, h.sz⟩
theorem fieldE_ext {w w' : World} (he : Ext w w') (b off : Nat) (x : FieldL) (h : fieldE w b off x) : fieldE w' b off x := ⟨he.2 _ _ h.c0, he.2 _ _ h.c1, he.2 _ _ h.c2, h.s0, h.s1⟩
theorem sls_ext {w w' : World} (he : Ext w w') {v : Value} {l : List ByteArray} (h : Sl strE 1 w v l) : Sl strE 1 w' v l := Sl.ext (strE_ext he) he.1 h
theorem mapE_ext {w w' : World} (he : Ext w w') (b off : Nat) (x : MapL) (h : mapE w b off x) : mapE w' b off x := by
  obtain ⟨v1, v2, h0, h1, h2, h3, h4⟩ := h
  exact ⟨v1, v2, he.2 _ _ h0, he.2 _ _ h1, he.2 _ _ h2, sls_ext he h3, sls_ext he h4⟩
theorem MethV.ext {w w' : World} (he : Ext w w') {v1 v7 v8 v9 : Value} {m : MethL} (h : MethV w v1 v7 v8 v9 m) : MethV w' v1 v7 v8 v9 m :=
  ⟨sls_ext he h.params, Sl.ext (insE_ext he) he.1 h.code, Sl.ext (mapE_ext he) he.1 h.maps, Sl.ext (trapE_ext he) he.1 h.traps, h.s0, h.s2⟩
/-- A slice whose row is a new block of its own, all of it, free to be written. -/
def New (w : World) (base size T : Nat) (v : Value) (n : Nat) : Prop := ∃ g cs, v = .slice (some ⟨g, 0, none⟩) n n ∧ base ≤ g ∧ w.heap[g]? = some (.cells cs T (0, 0)) ∧ cs.size = n * size
theorem New.later {w w' : World} {base size T : Nat} {v : Value} {n : Nat} (h : New w base size T v n) (hb : Below w.heap.size w w') : New w' base size T v n := by
  obtain ⟨g, cs, h1, h2, h3, h4⟩ := h
  exact ⟨g, cs, h1, h2, blk_on h3 hb, h4⟩
theorem New.mono {N N' : Nat} {w : World} {base size T : Nat} {v : Value} {n : Nat} (hN : N ≤ N') (h : New (young N' w) base size T v n) (hT : T ≠ 0) : New (young N w) base size T v n := by
  obtain ⟨g, cs, h1, h2, h3, h4⟩ := h
  refine ⟨g, cs, h1, h2, ?_, h4⟩
  by_cases e : N' ≤ g
  · rw [young_at e] at h3
    rw [young_at (Nat.le_trans hN e)]
    exact h3
  · have hlt := lt_of_block h3
    rw [young_size] at hlt
    rw [young_low (by omega) hlt] at h3
    simp at h3
    exact absurd h3.2.symm hT
/-! ### What the cells of an element say -/
def strV (w : World) (us : List Value) (s : ByteArray) : Prop := us = [.string s] ∧ s.size ≤ maxLen
def fieldV (w : World) (us : List Value) (f : FieldL) : Prop := us = [.string f.name, .string f.type, .bool f.static] ∧ f.name.size ≤ maxLen ∧ f.type.size ≤ maxLen
def insV (w : World) (us : List Value) (x : InsL) : Prop := us = [.int .i64 x.o, .int .i64 x.a, .string x.c, .string x.m] ∧ x.c.size ≤ maxLen ∧ x.m.size ≤ maxLen
def trapV (w : World) (us : List Value) (t : TrapL) : Prop := us = [.int .i64 t.from', .int .i64 t.to, .int .i64 t.at', .string t.c] ∧ t.c.size ≤ maxLen
def mapV (w : World) (us : List Value) (x : MapL) : Prop := ∃ v1 v2, us = [.int .i64 x.at', v1, v2] ∧ Sl strE 1 w v1 x.locals ∧ Sl strE 1 w v2 x.stack
def methV (base : Nat) (w : World) (us : List Value) (m : MethL) : Prop := ∃ v1 v7 v8 v9, us = (methCells v1 v7 v8 v9 m).toList ∧ MethV w v1 v7 v8 v9 m ∧ New w base 4 48 v7 m.code.length
def methN (base : Nat) (w : World) (b off : Nat) (m : MethL) : Prop := ∃ v1 v7 v8 v9, MethV w v1 v7 v8 v9 m ∧ New w base 4 48 v7 m.code.length ∧ ∀ j, j < 10 → w.cell? ⟨b, off + j, none⟩ = (methCells v1 v7 v8 v9 m)[j]?
theorem methN_E {base : Nat} {w : World} {b off : Nat} {m : MethL} (h : methN base w b off m) : methE w b off m := by
  obtain ⟨v1, v7, v8, v9, h1, _, h2⟩ := h
  exact ⟨v1, v7, v8, v9, h1, h2⟩
theorem methN_stable (base : Nat) : Stable (methN base) := fun w w' b off m ⟨v1, v7, v8, v9, h, hn, hc⟩ hb => by
  refine ⟨v1, v7, v8, v9, h.later hb, hn.later hb, fun j hj => ?_⟩
  have := hc j hj
  have hj' : j < (methCells v1 v7 v8 v9 m).size := by simpa [methCells] using hj
  rw [Array.getElem?_eq_getElem hj'] at this ⊢
  exact cellOn this hb
/-- How an element's cells make it lie at a place; how they are carried on. -/
structure Elem {α : Type} (V : World → List Value → α → Prop) (E : World → Nat → Nat → α → Prop) (size : Nat) : Prop where
  len : ∀ w us x, V w us x → us.length = size
  lies : ∀ w us x b off, V w us x → (∀ j u, us[j]? = some u → w.cell? ⟨b, off + j, none⟩ = some u) → E w b off x
  later : ∀ w w' us x, V w us x → Below w.heap.size w w' → V w' us x
  mono : ∀ N N' w us x, N ≤ N' → V (young N' w) us x → V (young N w) us x
theorem elemS : Elem strV strE 1 := by
  refine ⟨fun w us x h => by rw [h.1]; rfl, fun w us x b off h hc => ?_, fun w w' us x h _ => h, fun N N' w us x _ h => h⟩
  obtain ⟨rfl, h1⟩ := h
  exact ⟨hc 0 _ rfl, h1⟩
theorem elemF : Elem fieldV fieldE 3 := by
  refine ⟨fun w us x h => by rw [h.1]; rfl, fun w us x b off h hc => ?_, fun w w' us x h _ => h, fun N N' w us x _ h => h⟩
  obtain ⟨rfl, h1, h2⟩ := h
  exact ⟨hc 0 _ rfl, hc 1 _ rfl, hc 2 _ rfl, h1, h2⟩
theorem elemI : Elem insV insE 4 := by
  refine ⟨fun w us x h => by rw [h.1]; rfl, fun w us x b off h hc => ?_, fun w w' us x h _ => h, fun N N' w us x _ h => h⟩
  obtain ⟨rfl, h1, h2⟩ := h
  exact ⟨⟨hc 0 _ rfl, hc 1 _ rfl, hc 2 _ rfl, hc 3 _ rfl⟩, h1, h2⟩
theorem elemR : Elem trapV trapE 4 := by
  refine ⟨fun w us x h => by rw [h.1]; rfl, fun w us x b off h hc => ?_, fun w w' us x h _ => h, fun N N' w us x _ h => h⟩
  obtain ⟨rfl, h1⟩ := h
  exact ⟨hc 0 _ rfl, hc 1 _ rfl, hc 2 _ rfl, hc 3 _ rfl, h1⟩
theorem elemX : Elem mapV mapE 3 := by
  refine ⟨fun w us x h => ?_, fun w us x b off h hc => ?_, fun w w' us x h hb => ?_, fun N N' w us x hN h => ?_⟩
  · obtain ⟨v1, v2, rfl, _⟩ := h; rfl
  · obtain ⟨v1, v2, rfl, h1, h2⟩ := h
    exact ⟨v1, v2, hc 0 _ rfl, hc 1 _ rfl, hc 2 _ rfl, h1, h2⟩
  · obtain ⟨v1, v2, rfl, h1, h2⟩ := h
    exact ⟨v1, v2, rfl, h1.later strE_stable hb, h2.later strE_stable hb⟩
  · obtain ⟨v1, v2, rfl, h1, h2⟩ := h
    exact ⟨v1, v2, rfl, sls_ext (Ext.young w hN) h1, sls_ext (Ext.young w hN) h2⟩
theorem elemM (base : Nat) : Elem (methV base) (methN base) 10 := by
  refine ⟨fun w us x h => ?_, fun w us x b off h hc => ?_, fun w w' us x h hb => ?_, fun N N' w us x hN h => ?_⟩
  · obtain ⟨v1, v7, v8, v9, rfl, _⟩ := h; rfl
  · obtain ⟨v1, v7, v8, v9, rfl, h1, h2⟩ := h
    refine ⟨v1, v7, v8, v9, h1, h2, fun j hj => ?_⟩
    have hj' : j < (methCells v1 v7 v8 v9 x).size := by simpa [methCells] using hj
    rw [Array.getElem?_eq_getElem hj']
    exact hc j _ (by rw [Array.getElem?_toList, Array.getElem?_eq_getElem hj'])
  · obtain ⟨v1, v7, v8, v9, rfl, h1, h2⟩ := h
    exact ⟨v1, v7, v8, v9, rfl, h1.later hb, h2.later hb⟩
  · obtain ⟨v1, v7, v8, v9, rfl, h1, h2⟩ := h
    exact ⟨v1, v7, v8, v9, rfl, MethV.ext (Ext.young w hN) h1, h2.mono hN (by decide)⟩

/-! ### A row that is filled -/
/-- Block g holds the cells of the elements xs, and z more; R: the reader's block, which is elder. -/
structure Fill {α : Type} (V : World → List Value → α → Prop) (size T : Nat) (R g : Nat) (w : World) (xs : List α) (z : Nat) : Prop where
  ne : R < g
  row : ∃ U : List (List Value), U.length = xs.length ∧ (∀ i (h : i < xs.length) (h' : i < U.length), V (young (g + 1) w) U[i] xs[i]) ∧ ∃ Z : List Value, Z.length = z * size ∧ w.heap[g]? = some (.cells (U.flatten ++ Z).toArray T (0, 0))
theorem Fill.lt {α : Type} {V : World → List Value → α → Prop} {size T R g : Nat} {w : World} {xs : List α} {z : Nat} (h : Fill V size T R g w xs z) : g < w.heap.size := by
  obtain ⟨U, _, _, Z, _, hb⟩ := h.row
  exact lt_of_block hb
theorem Fill.grown {α : Type} {V : World → List Value → α → Prop} {E : World → Nat → Nat → α → Prop} {size T R g : Nat} {w w' : World} {xs : List α} {z : Nat} (hE : Elem V E size) (h : Fill V size T R g w xs z) (hg : w.grownBy w' (some R)) : Fill V size T R g w' xs z := by
  obtain ⟨ne, U, h1, h2, Z, h3, hb⟩ := h
  refine ⟨ne, U, h1, fun i hi hi' => ?_, Z, h3, blk_grown hb hg (fun e => by have := Option.some.inj e; omega)⟩
  exact hE.later _ _ _ _ (h2 i hi hi') (young_keep hg (fun k e => by cases e; omega))
theorem set_cells : ∀ (us A Z : List Value) (w : World) (g T : Nat), w.heap[g]? = some (.cells (A ++ Z).toArray T (0, 0)) → us.length ≤ Z.length → (w.setCells g A.length us).heap[g]? = some (.cells (A ++ (us ++ Z.drop us.length)).toArray T (0, 0))
  | [], A, Z, w, g, T, h, _ => by simpa [World.setCells] using h
  | u :: us, A, Z, w, g, T, h, hl => by
    obtain ⟨z0, Z', rfl⟩ : ∃ z0 Z', Z = z0 :: Z' := by
      cases Z with
      | nil => simp at hl
      | cons a b => exact ⟨a, b, rfl⟩
    have hs := blk_set h A.length u
    have e : (A ++ z0 :: Z').toArray.setIfInBounds A.length u = (A ++ [u] ++ Z').toArray := by
      rw [← Array.toList_inj]
      simp [List.set_append]
    rw [e] at hs
    have := set_cells us (A ++ [u]) Z' (w.setCell ⟨g, A.length, none⟩ u) g T hs (by simpa using hl)
    simp only [World.setCells]
    rw [show A.length + 1 = (A ++ [u]).length by simp, this]
    simp
theorem setCells_grown (g : Nat) : ∀ (us : List Value) (o : Nat) (w : World), w.grownBy (w.setCells g o us) (some g)
  | [], o, w => World.grownBy.refl _ _
  | u :: us, o, w => by
    simp only [World.setCells]
    exact grown_trans (set_grown w g o u) (setCells_grown g us (o + 1) _)
theorem flat_len {α : Type} {V : World → List Value → α → Prop} {E : World → Nat → Nat → α → Prop} {size : Nat} (hE : Elem V E size) (w : World) : ∀ (U : List (List Value)) (xs : List α), U.length = xs.length → (∀ i (h : i < xs.length) (h' : i < U.length), V w U[i] xs[i]) → U.flatten.length = xs.length * size
  | [], [], _, _ => by simp
  | u :: U, x :: xs, h, hv => by
    have h0 := hE.len _ _ _ (hv 0 (by simp) (by simp))
    have := flat_len hE w U xs (by simpa using h) (fun i hi hi' => hv (i + 1) (by simpa using hi) (by simpa using hi'))
    simp only [List.getElem_cons_zero] at h0
    rw [List.flatten_cons, List.length_append, this, h0, List.length_cons, Nat.succ_mul]
    omega
theorem Fill.store {α : Type} {V : World → List Value → α → Prop} {E : World → Nat → Nat → α → Prop} {size T R g : Nat} {w : World} {xs : List α} {z : Nat} (hE : Elem V E size) (h : Fill V size T R g w xs (z + 1)) {us : List Value} {x : α} (hx : V (young (g + 1) w) us x) :
    Fill V size T R g (w.setCells g (xs.length * size) us) (xs ++ [x]) z ∧ w.grownBy (w.setCells g (xs.length * size) us) (some g) := by
  obtain ⟨ne, U, h1, h2, Z, h3, hb⟩ := h
  have hfl := flat_len hE _ U xs h1 h2
  have hus := hE.len _ _ _ hx
  have hg := setCells_grown g us (xs.length * size) w
  have hs := set_cells us U.flatten Z w g T hb (by rw [h3, hus, Nat.succ_mul]; omega)
  rw [hfl] at hs
  have hk : Below (young (g + 1) w).heap.size (young (g + 1) w) (young (g + 1) (w.setCells g (xs.length * size) us)) := young_keep hg (fun k e => by cases e; omega)
  refine ⟨⟨ne, U ++ [us], by simp [h1], fun i hi hi' => ?_, Z.drop us.length, by rw [List.length_drop, h3, hus, Nat.succ_mul]; omega, ?_⟩, hg⟩
  · by_cases hi2 : i < xs.length
    · have hi3 : i < U.length := by omega
      rw [List.getElem_append_left hi3, List.getElem_append_left hi2]
      exact hE.later _ _ _ _ (h2 i hi2 hi3) hk
    · have e : i = xs.length := by simp at hi; omega
      subst e
      rw [List.getElem_append_right (by omega), List.getElem_append_right (by omega)]
      simp only [h1, Nat.sub_self, List.getElem_cons_zero]
      exact hE.later _ _ _ _ hx hk
  · rw [hs]
    simp
theorem flat_at {α : Type} {V : World → List Value → α → Prop} {E : World → Nat → Nat → α → Prop} {size : Nat} (hE : Elem V E size) (w : World) : ∀ (U : List (List Value)) (xs : List α), U.length = xs.length → (∀ i (h : i < xs.length) (h' : i < U.length), V w U[i] xs[i]) → ∀ i (h' : i < U.length) j u, U[i][j]? = some u → U.flatten[i * size + j]? = some u
  | [], [], _, _, i, h', _, _, _ => by simp at h'
  | u :: U, x :: xs, h, hv, i, h', j, v, hj => by
    have h0 := hE.len _ _ _ (hv 0 (by simp) (by simp))
    simp only [List.getElem_cons_zero] at h0
    cases i with
    | zero =>
      simp only [List.getElem_cons_zero] at hj
      have := (List.getElem?_eq_some_iff.1 hj).1
      rw [List.flatten_cons, Nat.zero_mul, Nat.zero_add, List.getElem?_append_left this]
      exact hj
    | succ i =>
      have := flat_at hE w U xs (by simpa using h) (fun i hi hi' => hv (i + 1) (by simpa using hi) (by simpa using hi')) i (by simpa using h') j v (by simpa using hj)
      rw [List.flatten_cons, List.getElem?_append_right (by rw [h0, Nat.succ_mul]; omega), show (i + 1) * size + j - u.length = i * size + j by rw [h0, Nat.succ_mul]; omega]
      exact this
theorem Fill.done {α : Type} {V : World → List Value → α → Prop} {E : World → Nat → Nat → α → Prop} {size T R g base : Nat} {w : World} {xs : List α} (hE : Elem V E size) (h : Fill V size T R g w xs 0) (hg : base ≤ g) (hm : xs.length ≤ maxLen) :
    Sl E size (young base w) (.slice (some ⟨g, 0, none⟩) xs.length xs.length) xs ∧ New (young base w) base size T (.slice (some ⟨g, 0, none⟩) xs.length xs.length) xs.length := by
  have hlt := h.lt
  obtain ⟨ne, U, h1, h2, Z, h3, hb⟩ := h
  have hfl := flat_len hE _ U xs h1 h2
  have hZ : Z = [] := List.eq_nil_of_length_eq_zero (by rw [h3, Nat.zero_mul])
  subst hZ
  rw [List.append_nil] at hb
  have hb' : (young base w).heap[g]? = some (.cells U.flatten.toArray T (0, 0)) := by rw [young_at hg]; exact hb
  refine ⟨⟨_, _, rfl, Nat.le_refl _, hm, fun e => (by cases e), fun _ => ⟨g, 0, rfl, by rw [young_size]; exact hlt, fun i hi => ?_⟩⟩, ⟨g, _, rfl, hg, hb', by simpa using hfl⟩⟩
  have hi' : i < U.length := by omega
  refine hE.lies _ _ _ _ _ (hE.mono base (g + 1) _ _ _ (by omega) (h2 i hi hi')) (fun j u hj => ?_)
  rw [blk_cell hb', Nat.zero_add]
  simpa using flat_at hE _ U xs h1 h2 i hi' j u hj
theorem Fill.new {α : Type} {V : World → List Value → α → Prop} {size T R n : Nat} {w w' : World} {cs : List Value} {base : Nat} (hR : R < w.heap.size) (own : w'.ownsRow base T size (.slice (some ⟨w.heap.size, 0, none⟩) n n) n cs) :
    Fill V size T R w.heap.size w' ([] : List α) n := by
  refine ⟨hR, [], rfl, fun i hi => (by simp at hi), cs, own.1, ?_⟩
  rcases own.2 with ⟨hv, _⟩ | ⟨g, cap, cur, hv, _, hb, _, _, hcs, ht⟩
  · cases hv
  · simp only [Value.slice.injEq, Option.some.injEq, Addr.mk.injEq, and_true, true_and] at hv
    obtain ⟨rfl, rfl⟩ := hv
    rw [hb]
    have : cur.toList = cs := by rw [← ht, List.take_of_length_le (by rw [Array.length_toList, hcs]; exact Nat.le_refl _)]
    rw [← this]
    simp
/-- A list read up to a place. -/
theorem rK_split {α : Type} (f : List Int → α × List Int) : ∀ (k m : Nat) (r : List Int), rK f (k + m) r = ((rK f k r).1 ++ (rK f m (rK f k r).2).1, (rK f m (rK f k r).2).2)
  | 0, m, r => by simp [rK]
  | k + 1, m, r => by
    have := rK_split f k m (f r).2
    rw [Nat.add_right_comm]
    show ((f r).1 :: (rK f (k + m) (f r).2).1, (rK f (k + m) (f r).2).2) = _
    rw [this]
    rfl
theorem rK_succ {α : Type} (f : List Int → α × List Int) (k : Nat) (r : List Int) : rK f (k + 1) r = ((rK f k r).1 ++ [(f (rK f k r).2).1], (f (rK f k r).2).2) := by
  rw [rK_split f k 1 r]
  rfl
theorem rK_len {α : Type} (f : List Int → α × List Int) : ∀ (k : Nat) (r : List Int), (rK f k r).1.length = k
  | 0, r => rfl
  | k + 1, r => by
    show ((f r).1 :: _).length = _
    rw [List.length_cons, rK_len f k]
theorem Rd.kept {w0 w1 w w' : World} {R : Nat} {v1 : Value} {P : List ByteArray} {r : List Int} (h : Rd w0 w R v1 P r) {g : Nat} (hg : w.grownBy w' (some g)) (hgR : R < g) (hlo : w0.heap.size ≤ g) (hs1 : Sl strE 1 (wipe R w1) v1 P) (hR1 : R < w1.heap.size) (h1 : w1.grownBy w' (some R)) : Rd w0 w' R v1 P r := by
  obtain ⟨bel, lo, ⟨p, n, k, BB, hh, hs⟩, byt⟩ := h
  exact ⟨bel.grown hg bel.size (fun k e => by cases e; exact hlo), lo, ⟨p, n, k, blk_grown BB hg (fun e => by have := Option.some.inj e; omega), hh, hs1.later strE_stable (wipe_keep h1 hR1)⟩, byt⟩
theorem grown_new {w1 w w' : World} {R g : Nat} (h : w1.grownBy w (some R)) (hg : w.grownBy w' (some g)) (hlt : w1.heap.size ≤ g) : w1.grownBy w' (some R) :=
  ⟨hg.os.trans h.os, hg.tape.trans h.tape, hg.output.trans h.output, Nat.le_trans h.size hg.size, fun k hk hne => (hg.block k (Nat.lt_of_lt_of_le hk h.size) (fun e => by have := Option.some.inj e; omega)).trans (h.block k hk hne)⟩
theorem grown_none {w w' : World} {row : Option Nat} (h : w.grownBy w' none) : w.grownBy w' row := ⟨h.os, h.tape, h.output, h.size, fun k hk _ => h.block k hk (fun e => by cases e)⟩
theorem grown_below {w w' : World} (h : w.grownBy w' none) : Below w.heap.size w w' := ⟨h.os, h.tape, h.output, h.size, fun k hk => h.block k hk (fun e => by cases e)⟩
end Fil
end Go.Proofs.YtjblmgdjaaeedaaGreat
