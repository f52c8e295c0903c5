/- Contracts and laws, texts of mine put into one. -/
import Derived.Test.YthioaedhabfkgaaGreatFilBegun
import Derived.Test.YthioaedhabfkgaaGreatFilRef
/- What FileLong builds, in memory and as the document has it. -/
namespace Go.Proofs.YthioaedhabfkgaaGreat
namespace FileLong
open Num Kind Op4 Cls Fil
open Go.RowKit
set_option linter.unusedVariables false
set_option maxRecDepth 100000

def longG : InsL := ⟨38, 0, ⟨#[67, 100, 101, 102, 103, 104, 105, 106]⟩, ⟨#[107, 108, 109, 110, 111, 112, 113, 114]⟩⟩
def longC (nc : Nat) : List InsL := List.replicate (nc - 1) longG ++ [oneI]
def lL : List ByteArray := [⟨#[73]⟩, ⟨#[78]⟩, ⟨#[84]⟩, ⟨#[79, 98, 106, 101, 99, 116]⟩]
def lS : List ByteArray := [⟨#[73]⟩, ⟨#[91, 73]⟩]
def longX (k : Nat) : MapL := ⟨k, lL, lS⟩
def longM (nc nx i : Nat) : MethL := ⟨nmS 109 i, [], ⟨#[86]⟩, true, false, 4, 2, longC nc, (List.range nx).map longX, []⟩
def longL (nm nc nx : Nat) : ClsL := ⟨⟨#[65, 98]⟩, ⟨#[79, 98, 106, 101, 99, 116]⟩, false, [], [oneF], (List.range nm).map (longM nc nx)⟩

def i4 : List Value := [.int .i64 46, .int .i64 0, .string ⟨#[]⟩, .string ⟨#[]⟩]
def g4 : List Value := [.int .i64 38, .int .i64 0, .string ⟨#[67, 100, 101, 102, 103, 104, 105, 106]⟩, .string ⟨#[107, 108, 109, 110, 111, 112, 113, 114]⟩]
def rep (c : List Value) : Nat → List Value
  | 0 => []
  | n + 1 => rep c n ++ c
theorem rep_length (c : List Value) : ∀ n, (rep c n).length = n * c.length
  | 0 => by simp [rep]
  | n + 1 => by rw [rep, List.length_append, rep_length c n, Nat.succ_mul]
theorem rep_at (c : List Value) : ∀ (n q j : Nat), q < n → j < c.length → (rep c n)[q * c.length + j]? = c[j]?
  | n + 1, q, j, hq, hj => by
    by_cases h : q < n
    · have h1 : (q + 1) * c.length ≤ n * c.length := Nat.mul_le_mul_right _ (by omega)
      rw [Nat.succ_mul] at h1
      rw [rep, List.getElem?_append_left (by rw [rep_length]; omega)]
      exact rep_at c n q j h hj
    · obtain rfl : q = n := by omega
      rw [rep, List.getElem?_append_right (by rw [rep_length]; omega), rep_length]
      congr 1
      omega
abbrev X3 : Type := Int × Value × Value
def xcells (t : X3) : List Value := [.int .i64 t.1, t.2.1, t.2.2]
def cellsX : List X3 → List Value
  | [] => []
  | t :: r => xcells t ++ cellsX r
theorem cellsX_snoc (t : X3) : ∀ (l : List X3), cellsX (l ++ [t]) = cellsX l ++ xcells t
  | [] => by simp [cellsX]
  | x :: r => by
    show xcells x ++ cellsX (r ++ [t]) = (xcells x ++ cellsX r) ++ xcells t
    rw [cellsX_snoc t r, List.append_assoc]
theorem cellsX_at : ∀ (l : List X3) (q j : Nat) (hq : q < l.length), j < 3 → (cellsX l)[q * 3 + j]? = (xcells l[q])[j]?
  | x :: r, 0, j, _, hj => by
    show (xcells x ++ cellsX r)[0 * 3 + j]? = _
    rw [Nat.zero_mul, Nat.zero_add, List.getElem?_append_left (by simpa [xcells] using hj)]
    rfl
  | x :: r, q + 1, j, hq, hj => by
    have hq' : q < r.length := by simpa using hq
    have := cellsX_at r q j hq' hj
    show (xcells x ++ cellsX r)[(q + 1) * 3 + j]? = _
    rw [List.getElem?_append_right (by simp [xcells]; omega), show (q + 1) * 3 + j - (xcells x).length = q * 3 + j by simp [xcells]; omega, this]
    rfl
def sL : Array Value := #[.string ⟨#[73]⟩, .string ⟨#[78]⟩, .string ⟨#[84]⟩, .string ⟨#[79, 98, 106, 101, 99, 116]⟩]
def sS : Array Value := #[.string ⟨#[73]⟩, .string ⟨#[91, 73]⟩]
/-- One Map's cells, and its lists of texts, each in a block of its own. -/
def MapIn (w : World) (k : Nat) (t : X3) : Prop :=
  ∃ gL gS, t = ((k : Int), .slice (some ⟨gL, 0, none⟩) 4 4, .slice (some ⟨gS, 0, none⟩) 2 2) ∧ w.heap[gL]? = some (.cells sL 9 (0, 0)) ∧ w.heap[gS]? = some (.cells sS 9 (0, 0))
theorem MapIn.later {w w' : World} {k : Nat} {t : X3} (h : MapIn w k t) (hb : Below w.heap.size w w') : MapIn w' k t := by
  obtain ⟨gL, gS, e, h1, h2⟩ := h
  exact ⟨gL, gS, e, blk_on h1 hb, blk_on h2 hb⟩
theorem MapIn.grown {w w' : World} {k : Nat} {t : X3} {base e size n : Nat} {v : Value} {xs : List Value} (h : MapIn w k t) (ho : w.ownsRow base e size v n xs) (hne : e ≠ 9) (hg : w.grownBy w' v.ownBlock) : MapIn w' k t := by
  obtain ⟨gL, gS, e, h1, h2⟩ := h
  exact ⟨gL, gS, e, blk_grown h1 hg (own_ne_blk ho h1 hne), blk_grown h2 hg (own_ne_blk ho h2 hne)⟩
theorem MapIn.set {w : World} {k : Nat} {t : X3} (h : MapIn w k t) {B T : Nat} {cs : Array Value} (hb : w.heap[B]? = some (.cells cs T (0, 0))) (hT : T ≠ 9) (j : Nat) (u : Value) : MapIn (w.setCell ⟨B, j, none⟩ u) k t := by
  obtain ⟨gL, gS, e, h1, h2⟩ := h
  have ne : ∀ {g : Nat} {cs' : Array Value}, w.heap[g]? = some (.cells cs' 9 (0, 0)) → g ≠ B := fun h e => by
    subst e
    rw [hb] at h
    simp at h
    exact hT h.2
  exact ⟨gL, gS, e, blk_other h1 (a := ⟨B, j, none⟩) u (ne h1), blk_other h2 (a := ⟨B, j, none⟩) u (ne h2)⟩
def Maps9 (w : World) (XL : List X3) : Prop := ∀ q (h : q < XL.length), MapIn w q XL[q]
theorem Maps9.snoc {w : World} {XL : List X3} {t : X3} (h : Maps9 w XL) (ht : MapIn w XL.length t) : Maps9 w (XL ++ [t]) := fun q hq => by
  by_cases hq2 : q < XL.length
  · rw [List.getElem_append_left hq2]
    exact h q hq2
  · obtain rfl : q = XL.length := by simp at hq; omega
    simpa using ht
structure InnerOK (w : World) (base nc nx : Nat) (t : Value × Value) : Prop where
  c : w.ownsRow base 48 4 t.1 nc (rep g4 (nc - 1) ++ i4)
  x : ∃ XL : List X3, XL.length = nx ∧ w.ownsRow base 50 3 t.2 nx (cellsX XL) ∧ Maps9 w XL
theorem InnerOK.later {w w' : World} {base nc nx : Nat} {t : Value × Value} (h : InnerOK w base nc nx t) (hb : Below w.heap.size w w') : InnerOK w' base nc nx t := by
  obtain ⟨h1, XL, h2, h3, h4⟩ := h
  exact ⟨own_later h1 hb, XL, h2, own_later h3 hb, fun q hq => (h4 q hq).later hb⟩
theorem InnerOK.low {w : World} {base base' nc nx : Nat} {t : Value × Value} (h : InnerOK w base nc nx t) (hb : base' ≤ base) : InnerOK w base' nc nx t := by
  obtain ⟨h1, XL, h2, h3, h4⟩ := h
  exact ⟨own_low h1 hb, XL, h2, own_low h3 hb, h4⟩
theorem InnerOK.grown {w w' : World} {base base' nc nx n : Nat} {t : Value × Value} {v : Value} {xs : List Value} (h : InnerOK w base nc nx t) (ho : w.ownsRow base' 46 10 v n xs) (hg : w.grownBy w' v.ownBlock) : InnerOK w' base nc nx t := by
  obtain ⟨h1, XL, h2, h3, h4⟩ := h
  exact ⟨h1.kept hg (own_apart h1 ho (by decide)), XL, h2, h3.kept hg (own_apart h3 ho (by decide)), fun q hq => (h4 q hq).grown ho (by decide) hg⟩
theorem InnerOK.set {w : World} {base nc nx : Nat} {t : Value × Value} (h : InnerOK w base nc nx t) {B : Nat} {cs : Array Value} (hb : w.heap[B]? = some (.cells cs 26 (0, 0))) (j : Nat) (u : Value) : InnerOK (w.setCell ⟨B, j, none⟩ u) base nc nx t := by
  obtain ⟨h1, XL, h2, h3, h4⟩ := h
  exact ⟨ownsRow_setCell_other h1 (a := ⟨B, j, none⟩) (fun e => own_ne_blk h1 hb (by decide) e.symm) u, XL, h2, ownsRow_setCell_other h3 (a := ⟨B, j, none⟩) (fun e => own_ne_blk h3 hb (by decide) e.symm) u, fun q hq => (h4 q hq).set hb (by decide) j u⟩
def mcells (i : Nat) (t : Value × Value) : List Value := [.string (nmS 109 i), .slice none 0 0, .string ⟨#[86]⟩, .bool true, .bool false, .int .i64 4, .int .i64 2, t.1, t.2, .slice none 0 0]
def cellsM : Nat → List (Value × Value) → List Value
  | _, [] => []
  | i, t :: r => mcells i t ++ cellsM (i + 1) r
theorem cellsM_snoc (t : Value × Value) : ∀ (l : List (Value × Value)) (i : Nat), cellsM i (l ++ [t]) = cellsM i l ++ mcells (i + l.length) t
  | [], i => by simp [cellsM]
  | x :: r, i => by
    have := cellsM_snoc t r (i + 1)
    show mcells i x ++ cellsM (i + 1) (r ++ [t]) = (mcells i x ++ cellsM (i + 1) r) ++ _
    rw [this, List.append_assoc, show i + 1 + r.length = i + (x :: r).length by simp; omega]
theorem cellsM_at : ∀ (l : List (Value × Value)) (i q j : Nat) (hq : q < l.length), j < 10 → (cellsM i l)[q * 10 + j]? = (mcells (i + q) l[q])[j]?
  | x :: r, i, 0, j, _, hj => by
    show (mcells i x ++ cellsM (i + 1) r)[0 * 10 + j]? = _
    rw [Nat.zero_mul, Nat.zero_add, List.getElem?_append_left (by simpa [mcells] using hj)]
    rfl
  | x :: r, i, q + 1, j, hq, hj => by
    have hq' : q < r.length := by simpa using hq
    have := cellsM_at r (i + 1) q j hq' hj
    show (mcells i x ++ cellsM (i + 1) r)[(q + 1) * 10 + j]? = _
    rw [List.getElem?_append_right (by simp [mcells]; omega), show (q + 1) * 10 + j - (mcells i x).length = q * 10 + j by simp [mcells]; omega, this, show i + 1 + q = i + (q + 1) by omega]
    rfl
theorem nmS_size (p : Int) (k : Nat) : (nmS p k).size ≤ maxLen := by
  unfold nmS
  rw [strOfNums_size]
  exact (by decide : (2 : Nat) ≤ maxLen)
theorem blk_strs {w : World} {g : Nat} {l : List ByteArray} (h : w.heap[g]? = some (.cells (l.map Value.string).toArray 9 (0, 0))) (hl : l.length ≤ maxLen) (hs : ∀ t ∈ l, t.size ≤ maxLen) : Sl strE 1 w (.slice (some ⟨g, 0, none⟩) l.length l.length) l := by
  refine ⟨_, _, rfl, Nat.le_refl _, hl, fun e => (by cases e), fun _ => ⟨g, 0, rfl, lt_of_block h, fun i hi => ⟨?_, hs _ (List.getElem_mem hi)⟩⟩⟩
  rw [blk_cell h]
  simp [List.getElem?_eq_getElem hi]
theorem MapIn.map {w : World} {k : Nat} {t : X3} (h : MapIn w k t) : ∃ v1 v2, t = ((k : Int), v1, v2) ∧ Sl strE 1 w v1 lL ∧ Sl strE 1 w v2 lS := by
  obtain ⟨gL, gS, e, h1, h2⟩ := h
  refine ⟨_, _, e, blk_strs (l := lL) h1 (by decide) (fun t ht => ?_), blk_strs (l := lS) h2 (by decide) (fun t ht => ?_)⟩
  · simp only [lL, List.mem_cons, List.not_mem_nil, or_false] at ht
    rcases ht with rfl | rfl | rfl | rfl <;> decide
  · simp only [lS, List.mem_cons, List.not_mem_nil, or_false] at ht
    rcases ht with rfl | rfl <;> decide
theorem InnerOK.meth {w : World} {base nc nx : Nat} {t : Value × Value} (hc : 1 ≤ nc) (h : InnerOK w base nc nx t) (i : Nat) : MethV w (.slice none 0 0) t.1 t.2 (.slice none 0 0) (longM nc nx i) := by
  obtain ⟨h1, XL, h2, h3, h4⟩ := h
  refine ⟨Sl.none _ _ _, Sl.own h1 (by simp [longM, longC]; omega) fun b hb q hq => ?_, Sl.own h3 (by simp [longM]) fun b hb q hq => ?_, Sl.none _ _ _, nmS_size _ _, (by decide : (1 : Nat) ≤ maxLen)⟩
  · have hq' : q < nc := by simp [longM, longC] at hq; omega
    by_cases hl : q < nc - 1
    · have e : (longM nc nx i).code[q] = longG := by simp [longM, longC, hl]
      rw [e]
      have hat : ∀ j, j < 4 → (rep g4 (nc - 1) ++ i4)[q * 4 + j]? = g4[j]? := fun j hj => by
        rw [List.getElem?_append_left (by rw [rep_length]; simp [g4]; omega)]
        exact rep_at g4 (nc - 1) q j hl (by simpa [g4] using hj)
      exact ⟨⟨hb _ _ (hat 0 (by decide)), hb _ _ (hat 1 (by decide)), hb _ _ (hat 2 (by decide)), hb _ _ (hat 3 (by decide))⟩, by decide, by decide⟩
    · have hqe : q = nc - 1 := by omega
      have e : (longM nc nx i).code[q] = oneI := by simp [longM, longC, hqe]
      rw [e]
      have hat : ∀ j, j < 4 → (rep g4 (nc - 1) ++ i4)[q * 4 + j]? = i4[j]? := fun j hj => by
        rw [List.getElem?_append_right (by rw [rep_length]; simp [g4]; omega), rep_length]
        congr 1
        simp [g4]
        omega
      exact ⟨⟨hb _ _ (hat 0 (by decide)), hb _ _ (hat 1 (by decide)), hb _ _ (hat 2 (by decide)), hb _ _ (hat 3 (by decide))⟩, by decide, by decide⟩
  · have hq' : q < nx := by simpa [longM] using hq
    have hq2 : q < XL.length := by omega
    have e : (longM nc nx i).maps[q] = longX q := by simp [longM]
    rw [e]
    obtain ⟨v1, v2, et, s1, s2⟩ := (h4 q hq2).map
    have hat : ∀ j u, (xcells XL[q])[j]? = some u → j < 3 → w.cell? ⟨b, q * 3 + j, none⟩ = some u := fun j u hu hj => hb _ _ (by rw [cellsX_at XL q j hq2 hj]; exact hu)
    rw [et] at hat
    exact ⟨v1, v2, hat 0 _ rfl (by decide), hat 1 _ rfl (by decide), hat 2 _ rfl (by decide), s1, s2⟩
theorem long_cls {w : World} {base nm nc nx : Nat} {v4 v5 : Value} {TL : List (Value × Value)} (hc : 1 ≤ nc) (hl : TL.length = nm) (hF : Sl fieldE 3 w v4 [oneF]) (hM : w.ownsRow base 46 10 v5 nm (cellsM 0 TL)) (hT : ∀ t ∈ TL, InnerOK w base nc nx t) :
    ClsV w (.slice none 0 0) v4 v5 (longL nm nc nx) := by
  refine ⟨Sl.none _ _ _, hF, Sl.own hM (by simp [longL]) fun b hb q hq => ?_, (by decide : (2 : Nat) ≤ maxLen), (by decide : (6 : Nat) ≤ maxLen)⟩
  have hq' : q < nm := by simpa [longL] using hq
  have e : (longL nm nc nx).methods[q] = longM nc nx q := by simp [longL]
  rw [e]
  have hq2 : q < TL.length := by omega
  refine ⟨.slice none 0 0, TL[q].1, TL[q].2, .slice none 0 0, (hT _ (List.getElem_mem hq2)).meth hc q, fun j hj => ?_⟩
  have h1 := cellsM_at TL 0 q j hq2 hj
  rw [Nat.zero_add] at h1
  have h2 : (mcells q TL[q])[j]? = (methCells (.slice none 0 0) TL[q].1 TL[q].2 (.slice none 0 0) (longM nc nx q))[j]? := by
    simp [mcells, methCells, longM]
  rw [← h2]
  have hj2 : j < (mcells q TL[q]).length := by simpa [mcells] using hj
  rw [List.getElem?_eq_getElem hj2] at h1 ⊢
  exact hb _ _ h1

/-! ### It may be -/
theorem place_map {α β : Type} (p : β → Bool) (f : α → β) : ∀ (l : List α) (k : Nat), place p k (l.map f) = place (fun x => p (f x)) k l
  | [], _ => rfl
  | x :: r, k => by
    show (if p (f x) = true then (k : Int) else place p (k + 1) (r.map f)) = if p (f x) = true then (k : Int) else place (fun x => p (f x)) (k + 1) r
    rw [place_map p f r (k + 1)]
theorem long_place : ∀ n, n ≤ 8 → ∀ i, i < n → place (fun k => (nmS 109 k).toList == (nmS 109 i).toList) 0 (List.range n) = (i : Int) := by decide +kernel
theorem long_name : ∀ i, i < 8 → nameB (nums (nmS 109 i)) = true ∧ (nums (nmS 109 i) == initL) = false := by decide +kernel
theorem long_ins (n : Nat) : insB n longG = true ∧ insB n oneI = true := by
  have e1 : mayIns longG.o longG.a (nums longG.c) (nums longG.m) = true := by decide +kernel
  have e2 : jumpsB longG.o = false := by decide +kernel
  have e3 : mayIns oneI.o oneI.a (nums oneI.c) (nums oneI.m) = true := by decide +kernel
  have e4 : jumpsB oneI.o = false := by decide +kernel
  unfold insB
  rw [e1, e2, e3, e4]
  simp
theorem long_code (n : Nat) (h : 1 ≤ n) (h2 : n ≤ 100) : codeP (longC n) = true := by
  have hl : (longC n).length = n := by simp [longC]; omega
  have e1 : (longC n).all (insB n) = true := by
    rw [List.all_eq_true]
    intro x hx
    rcases List.mem_append.1 hx with hx | hx
    · rw [List.eq_of_mem_replicate hx]
      exact (long_ins n).1
    · obtain rfl : x = oneI := by simpa using hx
      exact (long_ins n).2
  have e2 : ((longC n).getLast?.any fun x => endsB x.o) = true := by
    unfold longC
    rw [List.getLast?_append]
    show endsB 46 = true
    decide +kernel
  unfold codeP
  rw [hl, e1, e2]
  unfold withinB
  simp
  omega
theorem long_stand (k : Nat) : standB 4 2 (longX k) = true := by
  have : standB 4 2 (⟨0, lL, lS⟩ : MapL) = true := by decide +kernel
  exact this
theorem long_maps (nc : Nat) : ∀ (m k : Nat), k + m ≤ nc → ∀ least : Int, least ≤ k → mapsP nc 4 2 least ((List.range' k m).map longX) = true
  | 0, k, _, _, _ => rfl
  | m + 1, k, h, least, hl => by
    rw [List.range'_succ, List.map_cons]
    unfold mapsP
    rw [long_stand, long_maps nc m (k + 1) (by omega) _ (by show (k : Int) + 1 ≤ ((k + 1 : Nat) : Int); omega)]
    have e : (longX k).at' = (k : Int) := rfl
    rw [e]
    unfold withinB
    simp
    omega
theorem long_meth (nc nx i : Nat) (h1 : 1 ≤ nc) (h2 : nc ≤ 100) (hx : nx ≤ nc) (hi : i < 8) : methP (longM nc nx i) = true := by
  have c1 := (long_name i hi)
  have c2 : retB (nums ⟨#[86]⟩) = true := by decide +kernel
  have c3 := long_code nc h1 h2
  have c4 := long_maps nc nx 0 (by omega) 0 (by omega)
  rw [← List.range_eq_range'] at c4
  have hl : (longC nc).length = nc := by simp [longC]; omega
  have c5 : paramsP [] = true := by decide +kernel
  have c6 : roomP 0 true 4 2 = true := by decide +kernel
  unfold methP longM
  simp only [c1.1, c1.2, c2, c3, c5, hl, List.length_nil, c6, c4, List.length_map, List.length_range]
  simp [trapsP]
  omega
theorem allI_range {β : Type} (p : Nat → β → Bool) (f : Nat → β) : ∀ (m k : Nat), (∀ i, k ≤ i → i < k + m → p i (f i) = true) → allI p k ((List.range' k m).map f) = true
  | 0, _, _ => rfl
  | m + 1, k, h => by
    rw [List.range'_succ, List.map_cons]
    unfold allI
    rw [h k (Nat.le_refl _) (by omega), allI_range p f m (k + 1) (fun i h1 h2 => h i (by omega) (by omega))]
    rfl
theorem long_may (nm nc nx : Nat) (m1 : nm ≤ 8) (h1 : 1 ≤ nc) (h2 : nc ≤ 100) (hx : nx ≤ nc) : mayP (longL nm nc nx) = true := by
  have c1 : classB (nums ⟨#[65, 98]⟩) = true := by decide +kernel
  have c2 : classB (nums ⟨#[79, 98, 106, 101, 99, 116]⟩) = true := by decide +kernel
  have c3 : implP [] = true := by decide +kernel
  have c4 : fieldsP [oneF] = true := by decide +kernel
  have c5 : methsP ((List.range nm).map (longM nc nx)) = true := by
    unfold methsP
    simp only [List.length_map, List.length_range, Bool.and_eq_true, decide_eq_true_eq]
    refine ⟨m1, ?_⟩
    have hr : (List.range nm).map (longM nc nx) = (List.range' 0 nm).map (longM nc nx) := by rw [List.range_eq_range']
    conv => lhs; arg 3; rw [hr]
    refine allI_range _ _ nm 0 (fun i _ hi => ?_)
    simp only [Bool.and_eq_true]
    refine ⟨long_meth nc nx i h1 h2 hx (by omega), ?_⟩
    have := long_place nm m1 i (by omega)
    unfold mplace
    rw [place_map]
    simp only [longM]
    rw [this]
    simp
  have c6 : keepsP (longL nm nc nx) = true := by
    unfold keepsP longL
    simp [longM]
  unfold mayP
  simp only [longL] at c6 ⊢
  rw [c1, c2, c3, c4, c5, c6]
  rfl
end FileLong
end Go.Proofs.YthioaedhabfkgaaGreat

/- FileLong at numbers that it does not look at. -/
namespace Go.Proofs.YthioaedhabfkgaaGreat
namespace FileLong
open Num Kind Op4 Cls Fil
open Go.RowKit
set_option linter.unusedVariables false
set_option maxRecDepth 100000

set_option maxHeartbeats 8000000 in
theorem far (m c x : Int) (w : World) (h : ¬ (1 ≤ m ∧ m ≤ 8 ∧ 1 ≤ c ∧ c ≤ 100 ∧ 0 ≤ x ∧ x ≤ c)) :
    Calls Tryz.prog 6 #[.int .i64 m, .int .i64 c, .int .i64 x] w fun e w' => e = .returned (.bool true) ∧ Below w.heap.size w w' := by
  have HH : Hid _ := h
  clear h
  by_cases f0 : m < 1
  case pos =>
    clear HH
    go_enter Tryz.func6, Tryz.ntmps6
    go_wp2_with fail
    refine (Fil.begun_any _).mono ?_
    rintro e w1 ⟨rfl, e1⟩
    go_wp2_with fail
    go_ret
    exact ⟨rfl, e1⟩
  by_cases f1 : 8 < m
  case pos =>
    clear HH
    go_enter Tryz.func6, Tryz.ntmps6
    go_wp2_with fail
    refine (Fil.begun_any _).mono ?_
    rintro e w1 ⟨rfl, e1⟩
    go_wp2_with fail
    go_ret
    exact ⟨rfl, e1⟩
  by_cases f2 : c < 1
  case pos =>
    clear HH
    go_enter Tryz.func6, Tryz.ntmps6
    go_wp2_with fail
    refine (Fil.begun_any _).mono ?_
    rintro e w1 ⟨rfl, e1⟩
    go_wp2_with fail
    go_ret
    exact ⟨rfl, e1⟩
  by_cases f3 : 100 < c
  case pos =>
    clear HH
    go_enter Tryz.func6, Tryz.ntmps6
    go_wp2_with fail
    refine (Fil.begun_any _).mono ?_
    rintro e w1 ⟨rfl, e1⟩
    go_wp2_with fail
    go_ret
    exact ⟨rfl, e1⟩
  by_cases f4 : x < 0
  case pos =>
    clear HH
    go_enter Tryz.func6, Tryz.ntmps6
    go_wp2_with fail
    refine (Fil.begun_any _).mono ?_
    rintro e w1 ⟨rfl, e1⟩
    go_wp2_with fail
    go_ret
    exact ⟨rfl, e1⟩
  have f5 : c < x := by have h9 : ¬ (1 ≤ m ∧ m ≤ 8 ∧ 1 ≤ c ∧ c ≤ 100 ∧ 0 ≤ x ∧ x ≤ c) := HH.out; omega
  clear HH
  go_enter Tryz.func6, Tryz.ntmps6
  go_wp2_with fail
  refine (Fil.begun_any _).mono ?_
  rintro e w1 ⟨rfl, e1⟩
  go_wp2_with fail
  go_ret
  exact ⟨rfl, e1⟩
end FileLong
end Go.Proofs.YthioaedhabfkgaaGreat
