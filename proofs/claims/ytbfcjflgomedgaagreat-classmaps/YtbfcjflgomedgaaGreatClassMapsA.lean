/- What ClassMaps builds in memory; ClassMaps at arguments that it does not look at. -/
import Derived.Test.YtbfcjflgomedgaaGreatClsGrow
import Derived.Test.YtbfcjflgomedgaaGreatClsRefCls
namespace Go.Proofs.YtbfcjflgomedgaaGreat
namespace ClassMaps
open Num Kind Op4 Cls
open Go.RowKit
set_option linter.unusedVariables false
set_option maxRecDepth 100000

theorem own_ne_blk {w : World} {base e size n B T : Nat} {v : Value} {xs : List Value} {cs : Array Value} (h : w.ownsRow base e size v n xs) (hb : w.heap[B]? = some (.cells cs T (0, 0))) (hne : e ≠ T) : some B ≠ v.ownBlock := by
  rcases h.2 with ⟨rfl, _⟩ | ⟨g, cap, cur, rfl, _, hg, _⟩
  · intro e; cases e
  · intro e1
    have e2 : B = g := by simpa [Value.ownBlock] using e1
    subst e2
    rw [hg] at hb
    simp at hb
    exact hne hb.2
theorem blk_other {w : World} {B T : Nat} {cs : Array Value} (h : w.heap[B]? = some (.cells cs T (0, 0))) {a : Addr} (u : Value) (hne : B ≠ a.block) : (w.setCell a u).heap[B]? = some (.cells cs T (0, 0)) := by
  rw [Below.heap_setCell _ _ _ _ hne]
  exact h
def i4 : List Value := [.int .i64 46, .int .i64 0, .string ⟨#[]⟩, .string ⟨#[]⟩]
def rep (c : List Value) : Nat → List Value
  | 0 => []
  | n + 1 => rep c n ++ c
theorem rep_length (c : List Value) : ∀ n, (rep c n).length = n * c.length
  | 0 => by simp [rep]
  | n + 1 => by rw [rep, List.length_append, rep_length c n, Nat.succ_mul]
theorem rep_at (c : List Value) : ∀ (n q j : Nat), q < n → j < c.length → (rep c n)[q * c.length + j]? = c[j]?
  | n + 1, q, j, hq, hj => by
    by_cases h : q < n
    · have h1 : (q + 1) * c.length ≤ n * c.length := Nat.mul_le_mul_right _ (by omega)
      rw [Nat.succ_mul] at h1
      rw [rep, List.getElem?_append_left (by rw [rep_length]; omega)]
      exact rep_at c n q j h hj
    · obtain rfl : q = n := by omega
      rw [rep, List.getElem?_append_right (by rw [rep_length]; omega), rep_length]
      congr 1
      omega
abbrev X3 : Type := Int × Value × Value
def xcells (t : X3) : List Value := [.int .i64 t.1, t.2.1, t.2.2]
def cellsX : List X3 → List Value
  | [] => []
  | t :: r => xcells t ++ cellsX r
theorem cellsX_snoc (t : X3) : ∀ (l : List X3), cellsX (l ++ [t]) = cellsX l ++ xcells t
  | [] => by simp [cellsX]
  | x :: r => by
    show xcells x ++ cellsX (r ++ [t]) = (xcells x ++ cellsX r) ++ xcells t
    rw [cellsX_snoc t r, List.append_assoc]
theorem cellsX_at : ∀ (l : List X3) (q j : Nat) (hq : q < l.length), j < 3 → (cellsX l)[q * 3 + j]? = (xcells l[q])[j]?
  | x :: r, 0, j, _, hj => by
    show (xcells x ++ cellsX r)[0 * 3 + j]? = _
    rw [Nat.zero_mul, Nat.zero_add, List.getElem?_append_left (by simpa [xcells] using hj)]
    rfl
  | x :: r, q + 1, j, hq, hj => by
    have hq' : q < r.length := by simpa using hq
    have := cellsX_at r q j hq' hj
    show (xcells x ++ cellsX r)[(q + 1) * 3 + j]? = _
    rw [List.getElem?_append_right (by simp [xcells]; omega), show (q + 1) * 3 + j - (xcells x).length = q * 3 + j by simp [xcells]; omega, this]
    rfl
structure InnX (w : World) (base nl : Nat) (a b : ByteArray) (t : X3) : Prop where
  l : w.ownsRow base 9 1 t.2.1 nl (rep [.string a] nl)
  s : w.ownsRow base 9 1 t.2.2 1 (rep [.string b] 1)
theorem InnX.later {w w' : World} {base nl : Nat} {a b : ByteArray} {t : X3} (h : InnX w base nl a b t) (hb : Below w.heap.size w w') : InnX w' base nl a b t := ⟨own_later h.l hb, own_later h.s hb⟩
theorem InnX.low {w : World} {base base' nl : Nat} {a b : ByteArray} {t : X3} (h : InnX w base nl a b t) (hb : base' ≤ base) : InnX w base' nl a b t := ⟨own_low h.l hb, own_low h.s hb⟩
theorem InnX.grown {w w' : World} {base base' nl n : Nat} {a b : ByteArray} {t : X3} {v : Value} {xs : List Value} (h : InnX w base nl a b t) (ho : w.ownsRow base' 39 3 v n xs) (hg : w.grownBy w' v.ownBlock) : InnX w' base nl a b t :=
  ⟨h.l.kept hg (own_apart h.l ho (by decide)), h.s.kept hg (own_apart h.s ho (by decide))⟩
theorem InnX.set {w : World} {base nl B : Nat} {cs : Array Value} {a b : ByteArray} {t : X3} (h : InnX w base nl a b t) (hB : w.heap[B]? = some (.cells cs 35 (0, 0))) (j : Nat) (u : Value) : InnX (w.setCell ⟨B, j, none⟩ u) base nl a b t :=
  ⟨ownsRow_setCell_other h.l (fun e => own_ne_blk h.l hB (by decide) e.symm) u, ownsRow_setCell_other h.s (fun e => own_ne_blk h.s hB (by decide) e.symm) u⟩
def mapX (nl : Nat) (a b : ByteArray) (t : X3) : MapL := ⟨t.1, List.replicate nl a, [b]⟩
theorem InnX.map {w : World} {base nl : Nat} {a b : ByteArray} {t : X3} (h : InnX w base nl a b t) (ha : a.size ≤ maxLen) (hb : b.size ≤ maxLen) : Sl strE 1 w t.2.1 (List.replicate nl a) ∧ Sl strE 1 w t.2.2 [b] := by
  refine ⟨Sl.own h.l (by simp) fun bk hk q hq => ?_, Sl.own h.s rfl fun bk hk q hq => ?_⟩
  · have hq' : q < nl := by simpa using hq
    rw [List.getElem_replicate]
    exact ⟨hk _ _ (by have := rep_at [.string a] nl q 0 hq' (by simp); simpa using this), ha⟩
  · obtain rfl : q = 0 := by simpa using hq
    exact ⟨hk _ _ rfl, hb⟩
def mapsM (nl nk : Nat) (a b : ByteArray) (XL : List X3) : MethL := ⟨⟨#[109, 97, 105, 110]⟩, [], ⟨#[86]⟩, true, false, nl, nk, List.replicate 10 oneI, XL.map (mapX nl a b), []⟩
def mapsL (nl nk : Nat) (a b : ByteArray) (XL : List X3) : ClsL := ⟨⟨#[65, 98]⟩, ⟨#[79, 98, 106, 101, 99, 116]⟩, false, [], [oneF], [mapsM nl nk a b XL]⟩
theorem maps_cls {w : World} {B nl nk : Nat} {a b : ByteArray} {v7 v8 : Value} {XL : List X3} {base : Nat} (ha : a.size ≤ maxLen) (hb : b.size ≤ maxLen)
    (BF : w.heap[B + 1]? = some (.cells #[.string ⟨#[120]⟩, .string ⟨#[73]⟩, .bool false] 45 (0, 0)))
    (BM : w.heap[B + 1 + 1 + 1]? = some (.cells #[.string ⟨#[109, 97, 105, 110]⟩, .slice none 0 0, .string ⟨#[86]⟩, .bool true, .bool false, .int .i64 nl, .int .i64 nk, v7, v8, .slice none 0 0] 35 (0, 0)))
    (o7 : w.ownsRow base 37 4 v7 10 (rep i4 10)) (o8 : w.ownsRow base 39 3 v8 XL.length (cellsX XL)) (hX : ∀ t ∈ XL, InnX w base nl a b t) :
    ClsV w (.slice none 0 0) (.slice (some ⟨B + 1, 0, none⟩) 1 1) (.slice (some ⟨B + 1 + 1 + 1, 0, none⟩) 1 1) (mapsL nl nk a b XL) := by
  refine ⟨Sl.none _ _ _, Sl.one (lt_of_block BF) ⟨blk_cell BF 0, blk_cell BF 1, blk_cell BF 2, by decide, by decide⟩, Sl.one (lt_of_block BM) ⟨.slice none 0 0, v7, v8, .slice none 0 0, ⟨Sl.none _ _ _, Sl.own o7 (by simp [mapsM]) fun bk hk q hq => ?_, Sl.own o8 (by simp [mapsM]) fun bk hk q hq => ?_, Sl.none _ _ _, (by decide : (4 : Nat) ≤ maxLen), (by decide : (1 : Nat) ≤ maxLen)⟩, fun j hj => ?_⟩, (by decide : (2 : Nat) ≤ maxLen), (by decide : (6 : Nat) ≤ maxLen)⟩
  · have hq' : q < 10 := by simpa [mapsM] using hq
    have e : (mapsM nl nk a b XL).code[q] = oneI := List.eq_of_mem_replicate (List.getElem_mem hq)
    refine Eq.mpr (congrArg (insE w bk (q * 4)) e) ?_
    exact ⟨⟨hk _ _ (rep_at i4 10 q 0 hq' (by decide)), hk _ _ (rep_at i4 10 q 1 hq' (by decide)), hk _ _ (rep_at i4 10 q 2 hq' (by decide)), hk _ _ (rep_at i4 10 q 3 hq' (by decide))⟩, by decide, by decide⟩
  · have hq' : q < XL.length := by simpa [mapsM] using hq
    have e : (mapsM nl nk a b XL).maps[q] = mapX nl a b XL[q] := by simp [mapsM]
    refine Eq.mpr (congrArg (mapE w bk (q * 3)) e) ?_
    have hm := (hX _ (List.getElem_mem hq')).map ha hb
    exact ⟨XL[q].2.1, XL[q].2.2, hk _ _ (cellsX_at XL q 0 hq' (by decide)), hk _ _ (cellsX_at XL q 1 hq' (by decide)), hk _ _ (cellsX_at XL q 2 hq' (by decide)), hm.1, hm.2⟩
  · rw [Nat.zero_add, blk_cell BM j]
    rfl
set_option maxHeartbeats 8000000 in
theorem far (lo sk : Int) (v : Value) (a b : ByteArray) (w : World) (ha : a.size ≤ maxLen) (hb : b.size ≤ maxLen) (h : ¬ (0 ≤ lo ∧ lo ≤ 18 ∧ 0 ≤ sk ∧ sk ≤ 18 ∧ a.size ≤ 12 ∧ b.size ≤ 12)) :
    Calls Tryz.prog 3 #[.int .i64 lo, .int .i64 sk, v, .string a, .string b] w fun e w' => e = .returned (.bool true) ∧ Below w.heap.size w w' := by
  have HH : Hid _ := h
  clear h
  unfold maxLen at ha hb
  by_cases h329 : lo < 0
  case pos =>
    clear HH
    go_enter Tryz.func3, Tryz.ntmps3
    go_wp2_with fail
    refine (Cls.begun_any _).mono ?_
    rintro e w1 ⟨rfl, e1⟩
    go_wp2_with fail
    go_ret
    exact ⟨rfl, e1⟩
  by_cases h133 : 18 < lo
  case pos =>
    clear HH
    go_enter Tryz.func3, Tryz.ntmps3
    go_wp2_with fail
    refine (Cls.begun_any _).mono ?_
    rintro e w1 ⟨rfl, e1⟩
    go_wp2_with fail
    go_ret
    exact ⟨rfl, e1⟩
  by_cases h186 : sk < 0
  case pos =>
    clear HH
    go_enter Tryz.func3, Tryz.ntmps3
    go_wp2_with fail
    refine (Cls.begun_any _).mono ?_
    rintro e w1 ⟨rfl, e1⟩
    go_wp2_with fail
    go_ret
    exact ⟨rfl, e1⟩
  by_cases h486 : 18 < sk
  case pos =>
    clear HH
    go_enter Tryz.func3, Tryz.ntmps3
    go_wp2_with fail
    refine (Cls.begun_any _).mono ?_
    rintro e w1 ⟨rfl, e1⟩
    go_wp2_with fail
    go_ret
    exact ⟨rfl, e1⟩
  by_cases h516 : 12 < a.size
  case pos =>
    clear HH
    go_enter Tryz.func3, Tryz.ntmps3
    go_wp2_with fail
    refine (Cls.begun_any _).mono ?_
    rintro e w1 ⟨rfl, e1⟩
    go_wp2_with fail
    go_ret
    exact ⟨rfl, e1⟩
  by_cases h629 : 12 < b.size
  case pos =>
    clear HH
    go_enter Tryz.func3, Tryz.ntmps3
    go_wp2_with fail
    refine (Cls.begun_any _).mono ?_
    rintro e w1 ⟨rfl, e1⟩
    go_wp2_with fail
    go_ret
    exact ⟨rfl, e1⟩
  exact absurd ⟨by omega, by omega, by omega, by omega, by omega, by omega⟩ HH.out
end ClassMaps
end Go.Proofs.YtbfcjflgomedgaaGreat
