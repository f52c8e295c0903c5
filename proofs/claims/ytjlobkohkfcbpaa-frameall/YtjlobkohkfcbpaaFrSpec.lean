/- A frame as plain data: values, their cells, the places of references, what SetRefs makes of values. Nothing of the program is named here. -/
import Derived.Test.YtjlobkohkfcbpaaLibMem
namespace Go.Proofs.Ytjlobkohkfcbpaa
namespace Fr
open Go.RowKit
set_option linter.unusedVariables false
set_option linter.unusedSimpArgs false
set_option linter.unusedSectionVars false

/-- A value: a reference or an int, its number. -/
structure Vl where
  r : Bool
  n : Int
def Is32 (n : Int) : Prop := -2147483648 ≤ n ∧ n ≤ 2147483647
def vC (v : Vl) : List Value := [.bool v.r, .int .i32 v.n]
def cellsV (l : List Vl) : List Value := l.flatMap vC
theorem cellsV_nil : cellsV [] = [] := rfl
theorem cellsV_cons (v : Vl) (l : List Vl) : cellsV (v :: l) = .bool v.r :: .int .i32 v.n :: cellsV l := by simp [cellsV, vC]
theorem cellsV_append (l l' : List Vl) : cellsV (l ++ l') = cellsV l ++ cellsV l' := by simp [cellsV]
theorem cellsV_len (l : List Vl) : (cellsV l).length = 2 * l.length := by
  induction l with
  | nil => rfl
  | cons v l ih => rw [cellsV_cons]; simp only [List.length_cons, ih]; omega
theorem cellsV_at (l : List Vl) : ∀ i (h : i < l.length), (cellsV l)[2 * i]? = some (.bool l[i].r) ∧ (cellsV l)[2 * i + 1]? = some (.int .i32 l[i].n) := by
  induction l with
  | nil => intro i h; simp at h
  | cons v l ih =>
    intro i h
    rw [cellsV_cons]
    cases i with
    | zero => exact ⟨rfl, rfl⟩
    | succ i =>
      obtain ⟨h1, h2⟩ := ih i (by simpa using h)
      rw [show 2 * (i + 1) = 2 * i + 1 + 1 by omega, show 2 * i + 1 + 1 + 1 = 2 * i + 1 + 1 + 1 by rfl]
      exact ⟨h1, h2⟩
theorem cellsV_set (l : List Vl) : ∀ i (h : i < l.length) (x : Vl), ((cellsV l).set (2 * i) (.bool x.r)).set (2 * i + 1) (.int .i32 x.n) = cellsV (l.set i x) := by
  induction l with
  | nil => intro i h; simp at h
  | cons v l ih =>
    intro i h x
    cases i with
    | zero => simp [cellsV_cons]
    | succ i =>
      rw [cellsV_cons, List.set_cons_succ, cellsV_cons, ← ih i (by simpa using h) x, show 2 * (i + 1) = 2 * i + 1 + 1 by omega]
      rfl
theorem cellsV_take (l : List Vl) (k : Nat) : cellsV (l.take k) = (cellsV l).take (2 * k) := by
  induction l generalizing k with
  | nil => simp [cellsV]
  | cons v l ih =>
    cases k with
    | zero => rfl
    | succ k => rw [List.take_succ_cons, cellsV_cons, cellsV_cons, ih, show 2 * (k + 1) = 2 * k + 1 + 1 by omega]; rfl
theorem cellsV_drop (l : List Vl) (k : Nat) : cellsV (l.drop k) = (cellsV l).drop (2 * k) := by
  induction l generalizing k with
  | nil => simp [cellsV]
  | cons v l ih =>
    cases k with
    | zero => rfl
    | succ k => rw [List.drop_succ_cons, cellsV_cons, ih, show 2 * (k + 1) = 2 * k + 1 + 1 by omega]; rfl
theorem cellsV_one (l : List Vl) : ∀ u ∈ cellsV l, u.oneCell' = true := by
  induction l with
  | nil => intro u h; simp [cellsV] at h
  | cons v l ih =>
    intro u h
    rw [cellsV_cons] at h
    rcases List.mem_cons.1 h with rfl | h
    · rfl
    · rcases List.mem_cons.1 h with rfl | h
      · rfl
      · exact ih u h

/-- The int 0. -/
def v0 : Vl := ⟨false, 0⟩
/-- What references name. -/
def refsOf (l : List Vl) : List Int := (l.filter (·.r)).map (·.n - 1)
theorem refs_nil : refsOf [] = [] := rfl
theorem refs_cons (v : Vl) (l : List Vl) : refsOf (v :: l) = if v.r then (v.n - 1) :: refsOf l else refsOf l := by
  cases h : v.r <;> simp [refsOf, h]
theorem refs_append (l l' : List Vl) : refsOf (l ++ l') = refsOf l ++ refsOf l' := by simp [refsOf]
theorem refs_len (l : List Vl) : (refsOf l).length ≤ l.length := by
  simp only [refsOf, List.length_map]
  exact List.length_filter_le _ _
/-- Where references lie, if the values lie from b on. -/
def offs (b : Nat) : List Vl → List Nat
  | [] => []
  | v :: l => if v.r then b :: offs (b + 2) l else offs (b + 2) l
theorem offs_append (l l' : List Vl) : ∀ b, offs b (l ++ l') = offs b l ++ offs (b + 2 * l.length) l' := by
  induction l with
  | nil => intro b; rfl
  | cons v l ih =>
    intro b
    simp only [List.cons_append, offs, ih, List.length_cons]
    rw [show b + 2 + 2 * l.length = b + 2 * (l.length + 1) by omega]
    split <;> rfl
theorem offs_len (l : List Vl) : ∀ b, (offs b l).length = (refsOf l).length := by
  induction l with
  | nil => intro b; rfl
  | cons v l ih =>
    intro b
    rw [refs_cons]
    simp only [offs]
    split <;> simp [ih]
theorem offs_at (l : List Vl) : ∀ (b i o : Nat), (offs b l)[i]? = some o → ∃ n j, o = b + 2 * j ∧ j < l.length ∧ (cellsV l)[2 * j]? = some (.bool true) ∧ (cellsV l)[2 * j + 1]? = some (.int .i32 n) ∧ (refsOf l)[i]? = some (n - 1) ∧ (∃ v ∈ l, v.n = n) := by
  induction l with
  | nil => intro b i o h; simp [offs] at h
  | cons v l ih =>
    intro b i o h
    rw [refs_cons, cellsV_cons]
    simp only [offs] at h
    cases hr : v.r
    · simp only [hr, Bool.false_eq_true, if_false] at h ⊢
      obtain ⟨n, j, e, hj, c0, c1, c2, q, hq, hn⟩ := ih _ _ _ h
      refine ⟨n, j + 1, by omega, by simpa using hj, ?_, ?_, c2, q, List.mem_cons_of_mem _ hq, hn⟩
      · rw [show 2 * (j + 1) = 2 * j + 1 + 1 by omega]; exact c0
      · rw [show 2 * (j + 1) = 2 * j + 1 + 1 by omega]; exact c1
    · simp only [hr, if_true] at h ⊢
      cases i with
      | zero =>
        simp at h
        exact ⟨v.n, 0, by omega, by simp, rfl, rfl, rfl, v, by simp, rfl⟩
      | succ i =>
        obtain ⟨n, j, e, hj, c0, c1, c2, q, hq, hn⟩ := ih _ _ _ (by simpa using h)
        refine ⟨n, j + 1, by omega, by simpa using hj, ?_, ?_, by simpa using c2, q, List.mem_cons_of_mem _ hq, hn⟩
        · rw [show 2 * (j + 1) = 2 * j + 1 + 1 by omega]; exact c0
        · rw [show 2 * (j + 1) = 2 * j + 1 + 1 by omega]; exact c1
/-- References turned, one by one. -/
def setR : List Vl → List Int → List Vl
  | [], _ => []
  | v :: l, ts => if v.r then (match ts with | [] => v :: l | t :: ts => ⟨true, t + 1⟩ :: setR l ts) else v :: setR l ts
theorem setR_len (l : List Vl) : ∀ ts, (setR l ts).length = l.length := by
  induction l with
  | nil => intro ts; rfl
  | cons v l ih =>
    intro ts
    simp only [setR]
    split
    · cases ts <;> simp [ih]
    · simp [ih]
theorem setR_nil (l : List Vl) : setR l [] = l := by
  induction l with
  | nil => rfl
  | cons v l ih => simp only [setR, ih]; split <;> rfl
theorem refs_setR (l : List Vl) : ∀ ts, ts.length = (refsOf l).length → refsOf (setR l ts) = ts := by
  induction l with
  | nil => intro ts h; rw [List.eq_nil_of_length_eq_zero h]; rfl
  | cons v l ih =>
    intro ts h
    rw [refs_cons] at h
    simp only [setR]
    cases hr : v.r
    · simp only [hr, Bool.false_eq_true, if_false] at h ⊢
      rw [refs_cons, hr]
      exact ih ts h
    · simp only [hr, if_true] at h ⊢
      cases ts with
      | nil => simp at h
      | cons t ts =>
        simp only
        rw [refs_cons]
        simp only [if_true, Int.add_sub_cancel]
        rw [ih ts (by simpa using h)]
theorem setR_32 (l : List Vl) : ∀ ts, (∀ v ∈ l, Is32 v.n) → (∀ t ∈ ts, Is32 (t + 1)) → ∀ v ∈ setR l ts, Is32 v.n := by
  induction l with
  | nil => intro ts _ _ v hv; simp [setR] at hv
  | cons x l ih =>
    intro ts h1 h2 v hv
    simp only [setR] at hv
    split at hv
    · cases ts with
      | nil => exact h1 v hv
      | cons t ts =>
        rcases List.mem_cons.1 hv with rfl | hv
        · exact h2 t (by simp)
        · exact ih ts (fun v hv => h1 v (by simp [hv])) (fun t ht => h2 t (by simp [ht])) v hv
    · rcases List.mem_cons.1 hv with rfl | hv
      · exact h1 v (by simp)
      · exact ih ts (fun v hv => h1 v (by simp [hv])) h2 v hv
theorem setR_split (l : List Vl) : ∀ ts us, ts.length = (refsOf l).length → setR l (ts ++ us) = setR l ts := by
  induction l with
  | nil => intro ts us _; rfl
  | cons v l ih =>
    intro ts us h
    rw [refs_cons] at h
    simp only [setR]
    cases hr : v.r
    · simp only [hr, Bool.false_eq_true, if_false] at h ⊢
      rw [ih ts us h]
    · simp only [hr, if_true] at h ⊢
      cases ts with
      | nil => simp at h
      | cons t ts =>
        simp only [List.cons_append]
        rw [ih ts us (by simpa using h)]
/-- Numbers laid behind places. -/
def setAll (C : List Value) (ps : List (Nat × Int)) : List Value := ps.foldl (fun C p => C.set (p.1 + 1) (.int .i32 p.2)) C
theorem setAll_append (C : List Value) (ps qs : List (Nat × Int)) : setAll C (ps ++ qs) = setAll (setAll C ps) qs := by simp [setAll]
theorem setAll_len (ps : List (Nat × Int)) : ∀ C, (setAll C ps).length = C.length := by
  induction ps with
  | nil => intro C; rfl
  | cons p ps ih => intro C; show (setAll _ ps).length = _; rw [ih]; simp
theorem setAll_cells (l : List Vl) : ∀ (pre post : List Value) (ts : List Int), ts.length = (refsOf l).length →
    setAll (pre ++ (cellsV l ++ post)) ((offs pre.length l).zip (ts.map (· + 1))) = pre ++ (cellsV (setR l ts) ++ post) := by
  induction l with
  | nil => intro pre post ts h; rfl
  | cons v l ih =>
    intro pre post ts h
    rw [refs_cons] at h
    simp only [setR, offs]
    cases hr : v.r
    · simp only [hr, Bool.false_eq_true, if_false] at h ⊢
      rw [cellsV_cons, cellsV_cons]
      have := ih (pre ++ [.bool v.r, .int .i32 v.n]) post ts h
      simp only [List.length_append, List.length_cons, List.length_nil, Nat.zero_add, List.append_assoc, List.cons_append, List.nil_append] at this
      exact this
    · simp only [hr, if_true] at h ⊢
      cases ts with
      | nil => simp at h
      | cons t ts =>
        simp only [List.map_cons, List.zip_cons_cons]
        rw [cellsV_cons, cellsV_cons]
        show setAll ((pre ++ (.bool v.r :: .int .i32 v.n :: cellsV l ++ post)).set (pre.length + 1) (.int .i32 (t + 1))) _ = _
        have e : (pre ++ (.bool v.r :: .int .i32 v.n :: cellsV l ++ post)).set (pre.length + 1) (.int .i32 (t + 1)) = (pre ++ [.bool true, .int .i32 (t + 1)]) ++ (cellsV l ++ post) := by
          rw [List.set_append_right _ _ (by omega)]
          simp [hr]
        rw [e]
        have := ih (pre ++ [.bool true, .int .i32 (t + 1)]) post ts (by simpa using h)
        simp only [List.length_append, List.length_cons, List.length_nil, Nat.zero_add, List.append_assoc, List.cons_append, List.nil_append] at this ⊢
        exact this

/-! ### The cells of a frame -/
def frC (m pc : Int) (L : List Vl) (c : Nat) (S : List Vl) (r d : Nat) : List Value :=
  [.int .i64 m, .int .i64 pc] ++ (cellsV L ++ ([.int .i64 c] ++ (cellsV S ++ [.int .i64 r, .int .i64 d])))
section
variable (m pc : Int) (L : List Vl) (c : Nat) (S : List Vl) (r d : Nat) (hL : L.length = 16) (hS : S.length = 16)
include hL hS
theorem frC_len : (frC m pc L c S r d).length = 69 := by simp [frC, cellsV_len, hL, hS]
theorem frC_0 : (frC m pc L c S r d)[0]? = some (.int .i64 m) := rfl
theorem frC_1 : (frC m pc L c S r d)[1]? = some (.int .i64 pc) := rfl
theorem frC_34 : (frC m pc L c S r d)[34]? = some (.int .i64 c) := by simp [frC, List.getElem?_append, cellsV_len, hL, hS]
theorem frC_67 : (frC m pc L c S r d)[67]? = some (.int .i64 r) := by simp [frC, List.getElem?_append, cellsV_len, hL, hS]
theorem frC_68 : (frC m pc L c S r d)[68]? = some (.int .i64 d) := by simp [frC, List.getElem?_append, cellsV_len, hL, hS]
theorem frC_L (j : Nat) (hj : j < 32) : (frC m pc L c S r d)[2 + j]? = (cellsV L)[j]? := by
  unfold frC
  rw [List.getElem?_append_right (by simp), List.getElem?_append_left (by rw [cellsV_len]; simp; omega)]
  simp
theorem frC_S (j : Nat) (hj : j < 32) : (frC m pc L c S r d)[35 + j]? = (cellsV S)[j]? := by
  unfold frC
  rw [List.getElem?_append_right (by simp; omega), List.getElem?_append_right (by rw [cellsV_len]; simp; omega), List.getElem?_append_right (by rw [cellsV_len]; simp; omega), List.getElem?_append_left (by rw [cellsV_len, cellsV_len]; simp; omega), cellsV_len]
  congr 1
  simp
  omega
theorem frC_set1 (pc' : Int) : (frC m pc L c S r d).set 1 (.int .i64 pc') = frC m pc' L c S r d := rfl
theorem frC_set68 (d' : Nat) : (frC m pc L c S r d).set 68 (.int .i64 d') = frC m pc L c S r d' := by
  simp [frC, List.set_append, cellsV_len, hL, hS]
theorem frC_setL (i : Nat) (hi : i < 16) (x : Vl) : ((frC m pc L c S r d).set (2 + 2 * i) (.bool x.r)).set (2 + 2 * i + 1) (.int .i32 x.n) = frC m pc (L.set i x) c S r d := by
  unfold frC
  rw [List.set_append_right _ _ (by simp), List.set_append_right _ _ (by simp; omega)]
  rw [List.set_append_left _ _ (by rw [cellsV_len]; simp; omega), List.set_append_left _ _ (by rw [List.length_set, cellsV_len]; simp; omega)]
  rw [← cellsV_set L i (by omega) x]
  have e1 : 2 + 2 * i - [Value.int IntKind.i64 m, Value.int IntKind.i64 pc].length = 2 * i := by simp
  have e2 : 2 + 2 * i + 1 - [Value.int IntKind.i64 m, Value.int IntKind.i64 pc].length = 2 * i + 1 := by simp; omega
  rw [e1, e2]
theorem frC_copy (cs : List Vl) (o : Nat) (h : o + cs.length ≤ 16) : (frC m pc L c S r d).take (35 + 2 * o) ++ cellsV cs ++ (frC m pc L c S r d).drop (35 + 2 * o + (cellsV cs).length) = frC m pc L c (S.take o ++ (cs ++ S.drop (o + cs.length))) r d := by
  have e : ∀ X, frC m pc L c X r d = ([.int .i64 m, .int .i64 pc] ++ (cellsV L ++ [.int .i64 c])) ++ (cellsV X ++ [.int .i64 r, .int .i64 d]) := fun X => by simp [frC]
  have hl : ([.int .i64 m, .int .i64 pc] ++ (cellsV L ++ [.int .i64 c]) : List Value).length = 35 := by simp [cellsV_len, hL]
  rw [e, e]
  generalize ([.int .i64 m, .int .i64 pc] ++ (cellsV L ++ [.int .i64 c]) : List Value) = P at hl
  rw [cellsV_len, List.take_append, List.drop_append, List.take_of_length_le (by omega), List.drop_eq_nil_of_le (by omega), hl, List.nil_append]
  rw [show 35 + 2 * o - 35 = 2 * o by omega, show 35 + 2 * o + 2 * cs.length - 35 = 2 * (o + cs.length) by omega]
  rw [List.take_append_of_le_length (by rw [cellsV_len]; omega), List.drop_append_of_le_length (by rw [cellsV_len]; omega), ← cellsV_take, ← cellsV_drop, cellsV_append, cellsV_append]
  simp
theorem frC_copyL (cs : List Vl) (h : cs.length ≤ 16) : (frC m pc L c S r d).take 2 ++ cellsV cs ++ (frC m pc L c S r d).drop (2 + (cellsV cs).length) = frC m pc (cs ++ L.drop cs.length) c S r d := by
  unfold frC
  rw [cellsV_len, List.take_append_of_le_length (by simp), List.take_of_length_le (by simp), List.drop_append, List.drop_eq_nil_of_le (by simp), List.nil_append, List.length_cons, List.length_cons, List.length_nil, Nat.add_sub_cancel_left]
  rw [List.drop_append_of_le_length (by rw [cellsV_len]; omega), ← cellsV_drop, cellsV_append]
  simp
theorem frC_setR (l st : List Vl) (lx sx : List Vl) (hl : l ++ lx = L) (hs : st ++ sx = S) (ts : List Int) (ht : ts.length = (refsOf (l ++ st)).length) :
    setAll (frC m pc L c S r d) ((offs 2 l ++ offs 35 st).zip (ts.map (· + 1))) = frC m pc (setR l ts ++ lx) c (setR st (ts.drop (refsOf l).length) ++ sx) r d := by
  subst hl hs
  rw [refs_append, List.length_append] at ht
  have e : ts = ts.take (refsOf l).length ++ ts.drop (refsOf l).length := (List.take_append_drop _ _).symm
  have h1 : (ts.take (refsOf l).length).length = (refsOf l).length := by rw [List.length_take]; omega
  have h2 : (ts.drop (refsOf l).length).length = (refsOf st).length := by rw [List.length_drop]; omega
  have hsplit : setR l ts = setR l (ts.take (refsOf l).length) := by
    have := setR_split l (ts.take (refsOf l).length) (ts.drop (refsOf l).length) h1
    rw [← e] at this
    exact this
  rw [hsplit]
  generalize ts.drop (refsOf l).length = t2 at *
  generalize ts.take (refsOf l).length = t1 at *
  rw [e, List.map_append, List.zip_append (by rw [offs_len, List.length_map, h1]), setAll_append]
  have k1 := setAll_cells l [.int .i64 m, .int .i64 pc] (cellsV lx ++ ([.int .i64 c] ++ (cellsV (st ++ sx) ++ [.int .i64 r, .int .i64 d]))) t1 h1
  have f1 : frC m pc (l ++ lx) c (st ++ sx) r d = [.int .i64 m, .int .i64 pc] ++ (cellsV l ++ (cellsV lx ++ ([.int .i64 c] ++ (cellsV (st ++ sx) ++ [.int .i64 r, .int .i64 d])))) := by simp [frC, cellsV_append]
  rw [f1]
  have e2 : ([.int .i64 m, .int .i64 pc] : List Value).length = 2 := rfl
  rw [e2] at k1
  rw [k1]
  have hl16 : 2 * (setR l t1).length + 2 * lx.length = 32 := by rw [setR_len]; rw [List.length_append] at hL; omega
  have k2 := setAll_cells st ([.int .i64 m, .int .i64 pc] ++ (cellsV (setR l t1) ++ (cellsV lx ++ [.int .i64 c]))) (cellsV sx ++ [.int .i64 r, .int .i64 d]) t2 h2
  have e3 : ([.int .i64 m, .int .i64 pc] ++ (cellsV (setR l t1) ++ (cellsV lx ++ [.int .i64 c])) : List Value).length = 35 := by
    simp only [List.length_append, List.length_cons, List.length_nil, cellsV_len]
    omega
  rw [e3] at k2
  simp only [frC, cellsV_append, List.append_assoc, List.cons_append, List.nil_append] at k2 ⊢
  exact k2
end
end Fr
end Go.Proofs.Ytjlobkohkfcbpaa
