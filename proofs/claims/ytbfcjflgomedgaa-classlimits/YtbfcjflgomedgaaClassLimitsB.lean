/- What ClassLimits builds, in memory and as the document has it. -/
import Derived.Test.YtbfcjflgomedgaaClsGrow
namespace Go.Proofs.Ytbfcjflgomedgaa
namespace ClassLimits
open Num Kind Op4 Cls
open Go.RowKit
set_option linter.unusedVariables false
set_option maxRecDepth 100000

abbrev V3 : Type := Value × Value × Value
def mcells (np i : Nat) (t : V3) : List Value := [.string (nmS 109 i), t.1, .string ⟨#[86]⟩, .bool true, .bool false, .int .i64 np, .int .i64 0, t.2.1, .slice none 0 0, t.2.2]
def cellsM (np : Nat) : Nat → List V3 → List Value
  | _, [] => []
  | i, t :: r => mcells np i t ++ cellsM np (i + 1) r
theorem cellsM_snoc (np : Nat) (t : V3) : ∀ (l : List V3) (i : Nat), cellsM np i (l ++ [t]) = cellsM np i l ++ mcells np (i + l.length) t
  | [], i => by simp [cellsM]
  | x :: r, i => by
    have := cellsM_snoc np t r (i + 1)
    show mcells np i x ++ cellsM np (i + 1) (r ++ [t]) = (mcells np i x ++ cellsM np (i + 1) r) ++ _
    rw [this, List.append_assoc, show i + 1 + r.length = i + (x :: r).length by simp; omega]
theorem cellsM_at (np : Nat) : ∀ (l : List V3) (i q j : Nat) (hq : q < l.length), j < 10 → (cellsM np i l)[q * 10 + j]? = (mcells np (i + q) l[q])[j]?
  | x :: r, i, 0, j, _, hj => by
    show (mcells np i x ++ cellsM np (i + 1) r)[0 * 10 + j]? = _
    rw [Nat.zero_mul, Nat.zero_add, List.getElem?_append_left (by simpa [mcells] using hj)]
    rfl
  | x :: r, i, q + 1, j, hq, hj => by
    have hq' : q < r.length := by simpa using hq
    have := cellsM_at np r (i + 1) q j hq' hj
    show (mcells np i x ++ cellsM np (i + 1) r)[(q + 1) * 10 + j]? = _
    rw [List.getElem?_append_right (by simp [mcells]; omega), show (q + 1) * 10 + j - (mcells np i x).length = q * 10 + j by simp [mcells]; omega, this, show i + 1 + q = i + (q + 1) by omega]
    rfl
def i4 : List Value := [.int .i64 46, .int .i64 0, .string ⟨#[]⟩, .string ⟨#[]⟩]
def t4 : List Value := [.int .i64 0, .int .i64 1, .int .i64 0, .string ⟨#[]⟩]
def s1 : List Value := [.string ⟨#[73]⟩]
/-- The same cells over and over. -/
def rep (c : List Value) : Nat → List Value
  | 0 => []
  | n + 1 => rep c n ++ c
theorem rep_length (c : List Value) : ∀ n, (rep c n).length = n * c.length
  | 0 => by simp [rep]
  | n + 1 => by rw [rep, List.length_append, rep_length c n, Nat.succ_mul]
theorem rep_at (c : List Value) : ∀ (n q j : Nat), q < n → j < c.length → (rep c n)[q * c.length + j]? = c[j]?
  | n + 1, q, j, hq, hj => by
    by_cases h : q < n
    · rw [rep, List.getElem?_append_left (by rw [rep_length]; calc q * c.length + j < q * c.length + c.length := by omega
                                                                 _ = (q + 1) * c.length := by rw [Nat.succ_mul]
                                                                 _ ≤ n * c.length := Nat.mul_le_mul_right _ (by omega))]
      exact rep_at c n q j h hj
    · obtain rfl : q = n := by omega
      rw [rep, List.getElem?_append_right (by rw [rep_length]; omega), rep_length]
      congr 1
      omega
structure InnerOK (w : World) (base np nc nt : Nat) (t : V3) : Prop where
  p : w.ownsRow base 9 1 t.1 np (rep s1 np)
  c : w.ownsRow base 37 4 t.2.1 nc (rep i4 nc)
  t : w.ownsRow base 39 4 t.2.2 nt (rep t4 nt)
theorem InnerOK.later {w w' : World} {base np nc nt : Nat} {t : V3} (h : InnerOK w base np nc nt t) (hb : Below w.heap.size w w') : InnerOK w' base np nc nt t :=
  ⟨own_later h.p hb, own_later h.c hb, own_later h.t hb⟩
theorem InnerOK.low {w : World} {base base' np nc nt : Nat} {t : V3} (h : InnerOK w base np nc nt t) (hb : base' ≤ base) : InnerOK w base' np nc nt t :=
  ⟨own_low h.p hb, own_low h.c hb, own_low h.t hb⟩
theorem InnerOK.grown {w w' : World} {base base' np nc nt n : Nat} {t : V3} {v : Value} {xs : List Value} (h : InnerOK w base np nc nt t) (ho : w.ownsRow base' 35 10 v n xs) (hg : w.grownBy w' v.ownBlock) : InnerOK w' base np nc nt t :=
  ⟨h.p.kept hg (own_apart h.p ho (by decide)), h.c.kept hg (own_apart h.c ho (by decide)), h.t.kept hg (own_apart h.t ho (by decide))⟩
theorem InnerOK.set {w : World} {base np nc nt : Nat} {t : V3} (h : InnerOK w base np nc nt t) {a : Addr} (ha : a.block < base) (u : Value) : InnerOK (w.setCell a u) base np nc nt t :=
  ⟨ownsRow_setCell_below h.p ha u, ownsRow_setCell_below h.c ha u, ownsRow_setCell_below h.t ha u⟩

def limF (i : Nat) : FieldL := ⟨nmS 102 i, ⟨#[73]⟩, false⟩
def limT : TrapL := ⟨0, 1, 0, ⟨#[]⟩⟩
def limM (np nc nt i : Nat) : MethL := ⟨nmS 109 i, List.replicate np ⟨#[73]⟩, ⟨#[86]⟩, true, false, np, 0, List.replicate nc oneI, [], List.replicate nt limT⟩
def limL (nf nm np nc nt : Nat) : ClsL := ⟨⟨#[65, 98]⟩, ⟨#[79, 98, 106, 101, 99, 116]⟩, false, [], (List.range nf).map limF, (List.range nm).map (limM np nc nt)⟩
theorem cellsF_at : ∀ (n q j : Nat), q < n → j < 3 → (cellsF n)[q * 3 + j]? = (fcells q)[j]?
  | n + 1, q, j, hq, hj => by
    have hl : ∀ k, (cellsF k).length = k * 3 := by
      intro k
      induction k with
      | zero => rfl
      | succ k ih => rw [cellsF, List.length_append, ih]; simp [fcells]; omega
    by_cases h : q < n
    · rw [cellsF, List.getElem?_append_left (by rw [hl]; omega)]
      exact cellsF_at n q j h hj
    · obtain rfl : q = n := by omega
      rw [cellsF, List.getElem?_append_right (by rw [hl]; omega), hl]
      congr 1
      omega
theorem nmS_size (p : Int) (k : Nat) : (nmS p k).size ≤ maxLen := by
  unfold nmS
  rw [strOfNums_size]
  exact (by decide : (2 : Nat) ≤ maxLen)
theorem InnerOK.meth {w : World} {base np nc nt : Nat} {t : V3} (h : InnerOK w base np nc nt t) (i : Nat) : MethV w t.1 t.2.1 (.slice none 0 0) t.2.2 (limM np nc nt i) := by
  refine ⟨Sl.own h.p (by simp [limM]) fun b hb q hq => ?_, Sl.own h.c (by simp [limM]) fun b hb q hq => ?_, Sl.none _ _ _, Sl.own h.t (by simp [limM]) fun b hb q hq => ?_, nmS_size _ _, (by decide : (1 : Nat) ≤ maxLen)⟩
  · have hq' : q < np := by simpa [limM] using hq
    have e : (limM np nc nt i).params[q] = ⟨#[73]⟩ := by simp [limM]
    rw [e]
    exact ⟨hb _ _ (by have := rep_at s1 np q 0 hq' (by decide); simpa [s1] using this), by decide⟩
  · have hq' : q < nc := by simpa [limM] using hq
    have e : (limM np nc nt i).code[q] = oneI := by simp [limM]
    rw [e]
    exact ⟨⟨hb _ _ (rep_at i4 nc q 0 hq' (by decide)), hb _ _ (rep_at i4 nc q 1 hq' (by decide)), hb _ _ (rep_at i4 nc q 2 hq' (by decide)), hb _ _ (rep_at i4 nc q 3 hq' (by decide))⟩, by decide, by decide⟩
  · have hq' : q < nt := by simpa [limM] using hq
    have e : (limM np nc nt i).traps[q] = limT := by simp [limM]
    rw [e]
    exact ⟨hb _ _ (rep_at t4 nt q 0 hq' (by decide)), hb _ _ (rep_at t4 nt q 1 hq' (by decide)), hb _ _ (rep_at t4 nt q 2 hq' (by decide)), hb _ _ (rep_at t4 nt q 3 hq' (by decide)), by decide⟩
theorem lim_cls {w : World} {base nf nm np nc nt : Nat} {v4 v5 : Value} {TL : List V3} (hl : TL.length = nm) (hF : w.ownsRow base 30 3 v4 nf (cellsF nf)) (hM : w.ownsRow base 35 10 v5 nm (cellsM np 0 TL)) (hT : ∀ t ∈ TL, InnerOK w base np nc nt t) :
    ClsV w (.slice none 0 0) v4 v5 (limL nf nm np nc nt) := by
  refine ⟨Sl.none _ _ _, Sl.own hF (by simp [limL]) fun b hb q hq => ?_, Sl.own hM (by simp [limL]) fun b hb q hq => ?_, (by decide : (2 : Nat) ≤ maxLen), (by decide : (6 : Nat) ≤ maxLen)⟩
  · have hq' : q < nf := by simpa [limL] using hq
    have e : (limL nf nm np nc nt).fields[q] = limF q := by simp [limL]
    rw [e]
    exact ⟨hb _ _ (cellsF_at nf q 0 hq' (by decide)), hb _ _ (cellsF_at nf q 1 hq' (by decide)), hb _ _ (cellsF_at nf q 2 hq' (by decide)), nmS_size _ _, (by decide : (1 : Nat) ≤ maxLen)⟩
  · have hq' : q < nm := by simpa [limL] using hq
    have e : (limL nf nm np nc nt).methods[q] = limM np nc nt q := by simp [limL]
    rw [e]
    have hq2 : q < TL.length := by omega
    refine ⟨TL[q].1, TL[q].2.1, .slice none 0 0, TL[q].2.2, (hT _ (List.getElem_mem hq2)).meth q, fun j hj => ?_⟩
    have h1 := cellsM_at np TL 0 q j hq2 hj
    rw [Nat.zero_add] at h1
    have h2 : (mcells np q TL[q])[j]? = (methCells TL[q].1 TL[q].2.1 (.slice none 0 0) TL[q].2.2 (limM np nc nt q))[j]? := by
      simp [mcells, methCells, limM]
    rw [← h2]
    have hj2 : j < (mcells np q TL[q]).length := by simpa [mcells] using hj
    rw [List.getElem?_eq_getElem hj2] at h1 ⊢
    exact hb _ _ h1
end ClassLimits
end Go.Proofs.Ytbfcjflgomedgaa
