/- A slice of the law's own Op that came in; the row of objects as it grows, and as a word of it is turned. -/
import Derived.Test.YtpjccmcbagoplaaHaSame
import Derived.Deep.QuietTactic
import Derived.BigQuiet
namespace Go.Proofs.Ytpjccmcbagoplaa
namespace Heap
open Mem Coll
open Go.RowKit
set_option linter.unusedVariables false
set_option linter.unusedSimpArgs false
set_option maxRecDepth 100000

structure OpL where
  kd : Int
  k : Int
  n : Int
  at' : Int
  i : Int
  x : Int
def Is64 (n : Int) : Prop := -9223372036854775808 ≤ n ∧ n ≤ 9223372036854775807
structure OpL.Ok (o : OpL) : Prop where
  kd : Is64 o.kd
  k : Is64 o.k
  n : Is64 o.n
  at' : Is64 o.at'
  i : Is64 o.i
  x : Is32 o.x
def opCells (o : OpL) : List Value := [.int .i64 o.kd, .int .i64 o.k, .int .i64 o.n, .int .i64 o.at', .int .i64 o.i, .int .i32 o.x]
def opE (w : World) (b off : Nat) (o : OpL) : Prop := (∀ j v, (opCells o)[j]? = some v → w.cell? ⟨b, off + j, none⟩ = some v) ∧ o.Ok
theorem opE_stable : Stable opE := fun _ _ _ _ _ ⟨h1, h2⟩ hb => ⟨fun j v hj => cellOn (h1 j v hj) hb, h2⟩
section
variable {H : Type} {enc : TypeId × Value → H} {W : World} {base : Nat} {spare : Nat → Bool} {held : Bool}
theorem trod_i32 {fuel : Nat} {cs : List Value} {x : DataW H × List MemPlace} (h : DataW.trod enc Try.prog W base spare held fuel 21 cs = some x) : ∃ n : Int, cs = [.int .i32 n] ∧ Is32 n := by
  obtain ⟨n, e, _, hw⟩ := DataW.trod_int Try.underlying21 h
  exact ⟨n, e, is32_wf hw⟩
theorem open_ops {fuel : Nat} {cs : List Value} {x : DataW H × List MemPlace} (h : DataW.trod enc Try.prog W base spare held fuel 22 cs = some x) : ∃ v L, cs = [v] ∧ Sl opE 6 W v L :=
  open_row ⟨0, 0, 0, 0, 0, 0⟩ opE 6 Try.underlying22 (by kernel_rfl) (by decide) (fun fuel cs x h hl => by
    obtain ⟨xs, n, _, _, _, hxl, hf⟩ := DataW.trod_struct Try.underlying28 h
    match xs, hxl with
    | [y0, y1, y2, y3, y4, y5], _ =>
      obtain ⟨a0, e0, s0⟩ := trod_i (hf 0 _ rfl)
      obtain ⟨a1, e1, s1⟩ := trod_i (hf 1 _ rfl)
      obtain ⟨a2, e2, s2⟩ := trod_i (hf 2 _ rfl)
      obtain ⟨a3, e3, s3⟩ := trod_i (hf 3 _ rfl)
      obtain ⟨a4, e4, s4⟩ := trod_i (hf 4 _ rfl)
      obtain ⟨a5, e5, s5⟩ := trod_i32 (hf 5 _ rfl)
      refine ⟨⟨a0, a1, a2, a3, a4, a5⟩, fun b off hc => ⟨fun j v hj => hc j v ?_, ⟨s0, s1, s2, s3, s4, s5⟩⟩⟩
      match j, hj with
      | 0, hj => simp [opCells] at hj; subst hj; exact take1 e0
      | 1, hj => simp [opCells] at hj; subst hj; exact take1 e1
      | 2, hj => simp [opCells] at hj; subst hj; exact take1 e2
      | 3, hj => simp [opCells] at hj; subst hj; exact take1 e3
      | 4, hj => simp [opCells] at hj; subst hj; exact take1 e4
      | 5, hj => simp [opCells] at hj; subst hj; exact take1 e5
      | j + 6, hj => simp [opCells] at hj) h
end
theorem infoQ : (Try.prog.info? 33).map (fun i => (i.zero, i.size, i.bytes)) = some (some (.agg #[.int .i64 0, .int .i64 0, .slice none 0 0]), 3, 40) := by kernel_rfl
/-- No object's words lie in another's block, none in the heap's; nor does the row. -/
structure Sep (lv : Value) (Q : List (Ob × Nat)) (S : Nat → Prop) : Prop where
  row : ∀ k, lv.ownBlock = some k → ¬ S k
  ns : ∀ (i : Nat) (o : Ob) (g : Nat), Q[i]? = some (o, g) → ¬ S g
  nd : (Q.map Prod.snd).Nodup
theorem RowsR.start (B : Nat) (w : World) : RowsR B w (.slice none 0 0) [] := ⟨World.ownsRow_nil _ _ _ _, fun i o g h => by simp at h⟩
theorem Sep.start (S : Nat → Prop) : Sep (.slice none 0 0) [] S := ⟨(fun k e => by cases e), (fun i o g h => by simp at h), by simp⟩
theorem nd_inj {l : List Nat} (h : l.Nodup) {i j : Nat} {x : Nat} (hi : l[i]? = some x) (hj : l[j]? = some x) : i = j := by
  obtain ⟨l1, f1⟩ := List.getElem?_eq_some_iff.1 hi
  obtain ⟨l2, f2⟩ := List.getElem?_eq_some_iff.1 hj
  have hp := List.pairwise_iff_getElem.1 h
  rcases Nat.lt_trichotomy i j with hl | hl | hl
  · exact absurd (f1.trans f2.symm) (hp i j l1 l2 hl)
  · exact hl
  · exact absurd (f2.trans f1.symm) (hp j i l2 l1 hl)
/-- One object more. -/
theorem rows_more {B : Nat} {w w8 : World} {lv v8 : Value} {Q : List (Ob × Nat)} {o : Ob} {g : Nat} (h : RowsR B w lv Q) (hv : w.ownsRow B 21 1 (.slice (some ⟨g, 0, none⟩) o.v.length o.v.length) o.v.length (o.v.map (Value.int .i32))) (g8 : w.grownBy w8 lv.ownBlock)
    (own8 : w8.ownsRow B 33 3 v8 (Q.length + 1) (objCells Q ++ [.int .i64 ((wordsO (Q.map Prod.fst)).length : Int), .int .i64 (o.k : Int), .slice (some ⟨g, 0, none⟩) o.v.length o.v.length])) : RowsR B w8 v8 (Q ++ [(o, g)]) := by
  refine ⟨?_, fun i o' g' hi => ?_⟩
  · rw [objCells_snoc, List.length_append]
    exact own8
  · by_cases hl : i < Q.length
    · rw [List.getElem?_append_left hl] at hi
      exact World.ownsRow.kept (h.vs i o' g' hi) g8 (own_apart (h.vs i o' g' hi) h.row (by decide))
    · rw [List.getElem?_append_right (by omega)] at hi
      have hz : i - Q.length = 0 := by
        cases hz : i - Q.length with
        | zero => rfl
        | succ m => rw [hz] at hi; simp at hi
      rw [hz] at hi
      simp only [List.getElem?_cons_zero, Option.some.injEq, Prod.mk.injEq] at hi
      obtain ⟨rfl, rfl⟩ := hi
      exact World.ownsRow.kept hv g8 (own_apart hv h.row (by decide))
/-- One word turned. -/
def setQ (Q : List (Ob × Nat)) (i j : Nat) (x : Int) : List (Ob × Nat) := match Q[i]? with
  | some (o, g) => Q.set i (⟨o.k, o.v.set j x⟩, g)
  | none => Q
theorem setQ_snd (Q : List (Ob × Nat)) (i j : Nat) (x : Int) (o : Ob) (g : Nat) (hi : Q[i]? = some (o, g)) : (setQ Q i j x).map Prod.snd = Q.map Prod.snd ∧ (setQ Q i j x).map Prod.fst = (Q.map Prod.fst).set i ⟨o.k, o.v.set j x⟩ ∧ (setQ Q i j x).length = Q.length := by
  obtain ⟨hl, e⟩ := List.getElem?_eq_some_iff.1 hi
  unfold setQ
  rw [hi]
  simp only
  refine ⟨?_, by rw [List.map_set], by simp⟩
  rw [List.map_set]
  apply List.ext_getElem
  · simp
  · intro c h1 h2
    rw [List.getElem_set]
    by_cases hc : i = c
    · subst hc
      rw [if_pos rfl]
      simp [e]
    · rw [if_neg hc]
theorem setQ_at (Q : List (Ob × Nat)) (i j : Nat) (x : Int) (o : Ob) (g : Nat) (hi : Q[i]? = some (o, g)) (c : Nat) : (setQ Q i j x)[c]? = if c = i then some (⟨o.k, o.v.set j x⟩, g) else Q[c]? := by
  obtain ⟨hl, e⟩ := List.getElem?_eq_some_iff.1 hi
  unfold setQ
  rw [hi]
  simp only
  by_cases hc : c = i
  · subst hc
    rw [if_pos rfl, List.getElem?_set_self hl]
  · rw [if_neg hc, List.getElem?_set_ne (fun e => hc e.symm)]
theorem setQ_cells (Q : List (Ob × Nat)) (i j : Nat) (x : Int) (o : Ob) (g : Nat) (hi : Q[i]? = some (o, g)) : objCells (setQ Q i j x) = objCells Q := by
  obtain ⟨e1, e2, e3⟩ := setQ_snd Q i j x o g hi
  unfold objCells
  rw [e3]
  refine fm_congr _ _ _ (fun c hc => ?_)
  have hoi : (Q.map Prod.fst)[i]? = some o := by rw [List.getElem?_map, hi]; rfl
  unfold objAt
  rw [setQ_at Q i j x o g hi c]
  by_cases h : c = i
  · subst h
    rw [if_pos rfl, hi]
    simp only [e2]
    rw [set_pl _ _ _ _ _ hoi]
    simp
  · rw [if_neg h, e2]
    rw [set_pl _ _ _ _ _ hoi]
theorem rows_set {B : Nat} {w : World} {lv : Value} {Q : List (Ob × Nat)} {i j : Nat} {x : Int} {o : Ob} {g : Nat} (h : RowsR B w lv Q) (hnd : (Q.map Prod.snd).Nodup) (hi : Q[i]? = some (o, g)) (hj : j < o.v.length) : RowsR B (w.setCell ⟨g, j, none⟩ (.int .i32 x)) lv (setQ Q i j x) := by
  obtain ⟨e1, e2, e3⟩ := setQ_snd Q i j x o g hi
  have hv := h.vs i o g hi
  refine ⟨?_, fun c o' g' hc => ?_⟩
  · rw [setQ_cells Q i j x o g hi, e3]
    rcases own_apart h.row hv (by decide) with hh | hh
    · exact own_other h.row (a := ⟨g, j, none⟩) (fun e => by rw [hh] at e; cases e) _
    · exact own_other h.row (a := ⟨g, j, none⟩) (fun e => hh e) _
  · rw [setQ_at Q i j x o g hi c] at hc
    by_cases hci : c = i
    · subst hci
      rw [if_pos rfl] at hc
      simp only [Option.some.injEq, Prod.mk.injEq] at hc
      obtain ⟨rfl, rfl⟩ := hc
      have := own_set hv j (.int .i32 x) hj
      rw [← List.map_set] at this
      simpa using this
    · rw [if_neg hci] at hc
      refine own_other (h.vs c o' g' hc) (a := ⟨g, j, none⟩) (fun e => ?_) _
      have hgg : g' = g := by simpa [Value.ownBlock] using e
      subst hgg
      have q1 : (Q.map Prod.snd)[c]? = some g' := by rw [List.getElem?_map, hc]; rfl
      have q2 : (Q.map Prod.snd)[i]? = some g' := by rw [List.getElem?_map, hi]; rfl
      exact hci (nd_inj hnd q1 q2)
end Heap
end Go.Proofs.Ytpjccmcbagoplaa
