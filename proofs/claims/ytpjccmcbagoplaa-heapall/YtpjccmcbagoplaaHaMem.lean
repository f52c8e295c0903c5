/- The laws' own objects in memory: a row of them, each with its words in a block of its own; 'find', 'same'. -/
import Derived.Test.YtpjccmcbagoplaaHaSpec
import Derived.Test.YtpjccmcbagoplaaLibSl
import Derived.Test.YtpjccmcbagoplaaHeapRow
import Derived.Deep.RegionWith
import Derived.Deep.DeepCutAuto
import Derived.Deep.AppendLies
import Derived.Deep.RegionHeldLaw
import Derived.Deep.CutBlock
import Derived.OwnWalk
namespace Go.Proofs.Ytpjccmcbagoplaa
namespace Heap
open Mem Coll
open Go.RowKit
set_option linter.unusedVariables false
set_option linter.unusedSimpArgs false
set_option maxRecDepth 100000

/-- The cells of one object. -/
def objAt (Q : List (Ob × Nat)) (i : Nat) : List Value := match Q[i]? with
  | some (o, g) => [.int .i64 (pl (Q.map Prod.fst) i : Int), .int .i64 (o.k : Int), .slice (some ⟨g, 0, none⟩) o.v.length o.v.length]
  | none => [.int .i64 0, .int .i64 0, .slice none 0 0]
theorem objAt_len (Q : List (Ob × Nat)) (i : Nat) : (objAt Q i).length = 3 := by
  unfold objAt
  split <;> rfl
def objCells (Q : List (Ob × Nat)) : List Value := (List.range Q.length).flatMap (objAt Q)
theorem flat3 (f : Nat → List Value) (hf : ∀ i, (f i).length = 3) : ∀ n, ((List.range n).flatMap f).length = n * 3 ∧ ∀ i j, i < n → j < 3 → ((List.range n).flatMap f)[i * 3 + j]? = (f i)[j]?
  | 0 => ⟨rfl, fun i j hi => by omega⟩
  | n + 1 => by
    obtain ⟨h1, h2⟩ := flat3 f hf n
    have e : (List.range (n + 1)).flatMap f = (List.range n).flatMap f ++ f n := by rw [List.range_succ, List.flatMap_append]; simp
    rw [e]
    refine ⟨by rw [List.length_append, h1, hf]; omega, fun i j hi hj => ?_⟩
    by_cases h : i < n
    · rw [List.getElem?_append_left (by rw [h1]; omega)]
      exact h2 i j h hj
    · have hin : i = n := by omega
      subst hin
      rw [List.getElem?_append_right (by rw [h1]; omega), h1]
      congr 1
      omega
theorem objCells_at (Q : List (Ob × Nat)) (i : Nat) (o : Ob) (g : Nat) (hi : Q[i]? = some (o, g)) : (objCells Q)[i * 3]? = some (.int .i64 (pl (Q.map Prod.fst) i : Int)) ∧ (objCells Q)[i * 3 + 1]? = some (.int .i64 (o.k : Int)) ∧ (objCells Q)[i * 3 + 2]? = some (.slice (some ⟨g, 0, none⟩) o.v.length o.v.length) := by
  obtain ⟨hl, _⟩ := List.getElem?_eq_some_iff.1 hi
  have h := (flat3 (objAt Q) (objAt_len Q) Q.length).2 i
  have e : objAt Q i = [.int .i64 (pl (Q.map Prod.fst) i : Int), .int .i64 (o.k : Int), .slice (some ⟨g, 0, none⟩) o.v.length o.v.length] := by unfold objAt; rw [hi]
  rw [e] at h
  exact ⟨h 0 hl (by omega), h 1 hl (by omega), h 2 hl (by omega)⟩
theorem fm_congr (f g : Nat → List Value) : ∀ l : List Nat, (∀ x ∈ l, f x = g x) → l.flatMap f = l.flatMap g
  | [], _ => rfl
  | a :: r, h => by rw [List.flatMap_cons, List.flatMap_cons, h a (by simp), fm_congr f g r (fun x hx => h x (by simp [hx]))]
theorem objCells_snoc (Q : List (Ob × Nat)) (o : Ob) (g : Nat) : objCells (Q ++ [(o, g)]) = objCells Q ++ [.int .i64 ((wordsO (Q.map Prod.fst)).length : Int), .int .i64 (o.k : Int), .slice (some ⟨g, 0, none⟩) o.v.length o.v.length] := by
  unfold objCells
  rw [List.length_append, List.length_singleton, List.range_succ, List.flatMap_append]
  congr 1
  · refine fm_congr _ _ _ (fun i hi => ?_)
    have hi := List.mem_range.1 hi
    unfold objAt
    rw [List.getElem?_append_left hi, List.map_append]
    obtain ⟨q, hq⟩ : ∃ q, Q[i]? = some q := ⟨_, List.getElem?_eq_getElem hi⟩
    rw [hq]
    simp only [List.map_cons, List.map_nil]
    rw [pl_snoc _ _ _ (by rw [List.length_map]; omega)]
  · simp only [List.flatMap_cons, List.flatMap_nil, List.append_nil]
    unfold objAt
    rw [List.getElem?_append_right (Nat.le_refl _), Nat.sub_self]
    simp only [List.getElem?_cons_zero, List.map_append, List.map_cons, List.map_nil]
    rw [show pl (Q.map Prod.fst ++ [o]) Q.length = (wordsO (Q.map Prod.fst)).length by
      rw [pl_snoc _ _ _ (by rw [List.length_map]; exact Nat.le_refl _), ← pl_all, List.length_map]]
/-- The rows as they are read. -/
structure RowsR (B : Nat) (w : World) (lv : Value) (Q : List (Ob × Nat)) : Prop where
  row : w.ownsRow B 33 3 lv Q.length (objCells Q)
  vs : ∀ (i : Nat) (o : Ob) (g : Nat), Q[i]? = some (o, g) → w.ownsRow B 21 1 (.slice (some ⟨g, 0, none⟩) o.v.length o.v.length) o.v.length (o.v.map (Value.int .i32))
theorem RowsR.later {B : Nat} {w w' : World} {lv : Value} {Q : List (Ob × Nat)} (h : RowsR B w lv Q) (hb : Below w.heap.size w w') : RowsR B w' lv Q :=
  ⟨own_later h.row hb, fun i o g hi => own_later (h.vs i o g hi) hb⟩
theorem RowsR.off {B : Nat} {w w' : World} {lv : Value} {Q : List (Ob × Nat)} {S : Nat → Prop} (h : RowsR B w lv Q) (hf : Off S w w') (h1 : ∀ k, lv.ownBlock = some k → ¬ S k) (h2 : ∀ (i : Nat) (o : Ob) (g : Nat), Q[i]? = some (o, g) → ¬ S g) : RowsR B w' lv Q :=
  ⟨own_off h.row hf h1, fun i o g hi => own_off (h.vs i o g hi) hf (fun k e => by cases e; exact h2 i o g hi)⟩
/-- One of them, as the walks ask it. -/
theorem RowsR.at {B : Nat} {w : World} {a : Option Addr} {n c : Nat} {Q : List (Ob × Nat)} (h : RowsR B w (.slice a n c) Q) (i : Nat) (o : Ob) (g : Nat) (hi : Q[i]? = some (o, g)) : n = Q.length ∧ ∃ b, a = some ⟨b, 0, none⟩ ∧ w.cell? ⟨b, i * 3, none⟩ = some (.int .i64 (pl (Q.map Prod.fst) i : Int)) ∧ w.cell? ⟨b, i * 3 + 1, none⟩ = some (.int .i64 (o.k : Int)) ∧ w.cell? ⟨b, i * 3 + 2, none⟩ = some (.slice (some ⟨g, 0, none⟩) o.v.length o.v.length) ∧ ∀ (j : Nat) (x : Int), o.v[j]? = some x → w.cell? ⟨g, j, none⟩ = some (.int .i32 x) := by
  obtain ⟨hl, _⟩ := List.getElem?_eq_some_iff.1 hi
  obtain ⟨b, cap, e, _, _, _, _⟩ := own_some h.row (by omega)
  simp only [Value.slice.injEq] at e
  obtain ⟨rfl, rfl, rfl⟩ := e
  obtain ⟨c1, c2, c3⟩ := objCells_at Q i o g hi
  have y1 := h.row.cells (g := b) rfl _ _ c1
  have y2 := h.row.cells (g := b) rfl _ _ c2
  have y3 := h.row.cells (g := b) rfl _ _ c3
  rw [Addr.add_lit, Nat.zero_add] at y1 y2 y3
  refine ⟨rfl, b, rfl, y1, y2, y3, fun j x hx => ?_⟩
  exact own_cell (h.vs i o g hi) j _ (by rw [List.getElem?_map, hx]; rfl)
theorem RowsR.len {B : Nat} {w : World} {a : Option Addr} {n c : Nat} {Q : List (Ob × Nat)} (h : RowsR B w (.slice a n c) Q) : n = Q.length := by
  obtain ⟨a', c', e⟩ := own_sl h.row
  simp only [Value.slice.injEq] at e
  exact e.2.1
set_option maxHeartbeats 2000000 in
theorem find_any (B : Nat) (w : World) (a : Option Addr) (n c : Nat) (Q : List (Ob × Nat)) (x : Int) (k : Int) (h : RowsR B w (.slice a n c) Q) (hq : Q.length ≤ 1000)
    (hk : (∃ i, i < Q.length ∧ x = (pl (Q.map Prod.fst) i : Int) ∧ k = (i : Int)) ∨ (hasO (Q.map Prod.fst) x = false ∧ k = -1)) :
    Calls Try.prog 22 #[.slice a n c, .int .i64 x] w fun e w' => e = .returned (.int .i64 k) ∧ w = w' := by
  have hn := h.len
  subst hn
  have HR : Hid (RowsR B w (.slice a Q.length c) Q) := h
  have HK : Hid _ := hk
  clear h hk
  go_enter Try.func22, Try.ntmps22
  go_wp2_with fail
  go_loopw [5] (fun i wr => ∃ (j : Nat), i = .int .i64 j ∧ j ≤ Q.length ∧ Hid (∀ t, t < j → (pl (Q.map Prod.fst) t : Int) ≠ x) ∧ Hid (w = wr)) (fun i _ => Q.length - (intOf i).toNat)
  case atStart => exact ⟨0, rfl, by omega, (fun t ht => by omega), rfl⟩
  case round =>
    obtain ⟨j, rfl, hj, HNO, hw⟩ := hrel
    have hw := hw.out
    subst hw
    by_cases hlj : j < Q.length
    · obtain ⟨q, hqj⟩ : ∃ q, Q[j]? = some q := ⟨_, List.getElem?_eq_getElem hlj⟩
      obtain ⟨o, g⟩ := q
      obtain ⟨_, b, ha, z0, z1, z2, hxx⟩ := RowsR.at HR.out j o g hqj
      subst ha
      have d1 : decide ((j : Int) < (Q.length : Int)) = true := by rw [decide_eq_true_eq]; omega
      have d2 : decide (j < Q.length) = true := by rw [decide_eq_true_eq]; omega
      clear hxx z1 z2 hqj
      by_cases hx : (pl (Q.map Prod.fst) j : Int) = x
      · have HRES : Hid ((j : Int) = k) := by
          show (j : Int) = k
          rcases HK.out with ⟨i, hi, e1, e2⟩ | ⟨hno, _⟩
          · have : j = i := pl_inj (os := Q.map Prod.fst) (by rw [List.length_map]; omega) (by rw [List.length_map]; omega) (by omega)
            omega
          · rw [← hx, pl_has _ j (by rw [List.length_map]; exact hlj)] at hno
            cases hno
        rw [hx] at z0
        clear hx
        go_wp2_with fail
        go_ret
        exact ⟨ret_i HRES.out, rfl⟩
      · have HNO2 : Hid (∀ t, t < j + 1 → (pl (Q.map Prod.fst) t : Int) ≠ x) := fun t ht => by
          by_cases h : t = j
          · subst h; exact hx
          · exact HNO.out t (by omega)
        generalize (pl (Q.map Prod.fst) j : Int) = y at *
        have d3 : decide (y = x) = false := by rw [decide_eq_false_iff_not]; exact hx
        have d4 : (y == x) = false := by rw [beq_eq_false_iff_ne]; exact hx
        go_wp2_with fail
        exact ⟨⟨j + 1, by go_num, by omega, HNO2, by first | rfl | trivial⟩, by simp [intOf]; omega⟩
    · have ej : j = Q.length := by omega
      have HRES : Hid ((-1 : Int) = k) := by
        show (-1 : Int) = k
        rcases HK.out with ⟨i, hi, e1, e2⟩ | ⟨_, e⟩
        · exact absurd e1.symm (HNO.out i (by omega))
        · exact e.symm
      subst ej
      have d1 : decide ((Q.length : Int) < (Q.length : Int)) = false := by simp
      have d2 : decide (Q.length < Q.length) = false := by simp
      go_wp2_with fail
      go_ret
      exact ⟨ret_i HRES.out, rfl⟩
end Heap
end Go.Proofs.Ytpjccmcbagoplaa
