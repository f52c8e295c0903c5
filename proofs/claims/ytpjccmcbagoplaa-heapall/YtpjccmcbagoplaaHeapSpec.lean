/- A heap's objects as plain data: their words, where each begins, and what is answered of them (no program in it). -/
import Derived.WalkKit
namespace Go.Proofs.Ytpjccmcbagoplaa
namespace Heap
set_option linter.unusedVariables false
set_option linter.unusedSimpArgs false

def Is32 (n : Int) : Prop := -2147483648 ≤ n ∧ n ≤ 2147483647
/-- An object: its kind, its words. -/
structure Ob where
  k : Nat
  v : List Int
structure Ob.Ok (o : Ob) : Prop where
  k : o.k ≤ 10000
  n : o.v.length ≤ 1000
  v : ∀ x ∈ o.v, Is32 x
def obW (o : Ob) : List Int := (o.k : Int) :: (o.v.length : Int) :: o.v
def obM (o : Ob) : List Bool := true :: List.replicate (o.v.length + 1) false
def wordsO (os : List Ob) : List Int := os.flatMap obW
def marksO (os : List Ob) : List Bool := os.flatMap obM
theorem obW_len (o : Ob) : (obW o).length = o.v.length + 2 := by simp [obW]
theorem obM_len (o : Ob) : (obM o).length = o.v.length + 2 := by simp [obM]
theorem wordsO_cons (o : Ob) (r : List Ob) : wordsO (o :: r) = obW o ++ wordsO r := by simp [wordsO]
theorem wordsO_append (a b : List Ob) : wordsO (a ++ b) = wordsO a ++ wordsO b := by simp [wordsO]
theorem marksO_append (a b : List Ob) : marksO (a ++ b) = marksO a ++ marksO b := by simp [marksO]
theorem marks_len : ∀ os : List Ob, (marksO os).length = (wordsO os).length
  | [] => rfl
  | o :: r => by
    have ih := marks_len r
    simp only [marksO, wordsO, List.flatMap_cons, List.length_append, obW_len, obM_len] at ih ⊢
    omega
/-- Where a mark stands an object begins. -/
theorem mark_split : ∀ (os : List Ob) (a : Nat), (marksO os)[a]? = some true → ∃ pre o post, os = pre ++ o :: post ∧ a = (wordsO pre).length
  | [], a, h => by simp [marksO] at h
  | o :: r, a, h => by
    have e : marksO (o :: r) = obM o ++ marksO r := by simp [marksO]
    rw [e, List.getElem?_append] at h
    split at h
    · rename_i hlt
      cases a with
      | zero => exact ⟨[], o, r, rfl, rfl⟩
      | succ a =>
        rw [obM, List.getElem?_cons_succ, List.getElem?_replicate] at h
        split at h <;> simp at h
    · rename_i hge
      obtain ⟨pre, o', post, e1, e2⟩ := mark_split r _ h
      refine ⟨o :: pre, o', post, by rw [e1]; rfl, ?_⟩
      rw [wordsO_cons, List.length_append, obW_len, ← e2]
      rw [obM_len] at hge ⊢
      omega
theorem mark_at (pre : List Ob) (o : Ob) (post : List Ob) : (marksO (pre ++ o :: post))[(wordsO pre).length]? = some true := by
  rw [marksO_append, List.getElem?_append_right (by rw [marks_len]; exact Nat.le_refl _), marks_len, Nat.sub_self]
  rfl
def hasO (os : List Ob) (a : Int) : Bool := decide (0 ≤ a) && ((marksO os)[a.toNat]? == some true)
def lenO (os : List Ob) (a : Int) : Int := if hasO os a then (wordsO os).getD (a.toNat + 1) 0 else 0
def kindO (os : List Ob) (a : Int) : Int := if hasO os a then (wordsO os).getD a.toNat 0 else -1
def holdsO (os : List Ob) (a i : Int) : Bool := decide (0 ≤ i) && decide (i < lenO os a)
def getO (os : List Ob) (a i : Int) : Int := if holdsO os a i then (wordsO os).getD (a.toNat + 2 + i.toNat) 0 else 0
/-- The word i of the object at a turned. -/
def putO : List Ob → Nat → Nat → Int → List Ob
  | [], _, _, _ => []
  | o :: r, a, i, x => if a = 0 then ⟨o.k, o.v.set i x⟩ :: r else o :: putO r (a - (o.v.length + 2)) i x
theorem has_split {os : List Ob} {a : Int} (h : hasO os a = true) : ∃ pre o post, os = pre ++ o :: post ∧ a = ((wordsO pre).length : Int) := by
  simp only [hasO, Bool.and_eq_true, decide_eq_true_eq, beq_iff_eq] at h
  obtain ⟨pre, o, post, e1, e2⟩ := mark_split os _ h.2
  exact ⟨pre, o, post, e1, by omega⟩
theorem has_at (pre : List Ob) (o : Ob) (post : List Ob) : hasO (pre ++ o :: post) ((wordsO pre).length : Int) = true := by
  simp [hasO, mark_at]
theorem words_at (pre : List Ob) (o : Ob) (post : List Ob) (j : Nat) (hj : j < o.v.length + 2) : (wordsO (pre ++ o :: post))[(wordsO pre).length + j]? = (obW o)[j]? := by
  rw [wordsO_append, List.getElem?_append_right (by omega), Nat.add_sub_cancel_left, wordsO_cons, List.getElem?_append_left (by rw [obW_len]; exact hj)]
theorem words_len (pre : List Ob) (o : Ob) (post : List Ob) : (wordsO (pre ++ o :: post)).length = (wordsO pre).length + (o.v.length + 2) + (wordsO post).length := by
  rw [wordsO_append, wordsO_cons, List.length_append, List.length_append, obW_len]; omega
theorem kind_at (pre : List Ob) (o : Ob) (post : List Ob) : kindO (pre ++ o :: post) ((wordsO pre).length : Int) = (o.k : Int) := by
  have := words_at pre o post 0 (by omega)
  unfold kindO
  rw [if_pos (has_at pre o post)]
  simp only [Int.toNat_natCast, List.getD, Nat.add_zero] at this ⊢
  rw [this]
  rfl
theorem len_at (pre : List Ob) (o : Ob) (post : List Ob) : lenO (pre ++ o :: post) ((wordsO pre).length : Int) = (o.v.length : Int) := by
  have := words_at pre o post 1 (by omega)
  unfold lenO
  rw [if_pos (has_at pre o post)]
  simp only [Int.toNat_natCast, List.getD] at this ⊢
  rw [this]
  rfl
theorem get_at (pre : List Ob) (o : Ob) (post : List Ob) (i : Nat) (hi : i < o.v.length) : getO (pre ++ o :: post) ((wordsO pre).length : Int) (i : Int) = o.v.getD i 0 := by
  have := words_at pre o post (2 + i) (by omega)
  have hh : holdsO (pre ++ o :: post) ((wordsO pre).length : Int) (i : Int) = true := by
    unfold holdsO
    rw [len_at]
    simp; omega
  unfold getO
  rw [if_pos hh]
  simp only [Int.toNat_natCast, List.getD] at this ⊢
  rw [Nat.add_assoc, this]
  rw [show 2 + i = i + 1 + 1 by omega]
  rfl
theorem put_at : ∀ (pre : List Ob) (o : Ob) (post : List Ob) (i : Nat) (x : Int), putO (pre ++ o :: post) (wordsO pre).length i x = pre ++ ⟨o.k, o.v.set i x⟩ :: post
  | [], o, post, i, x => by simp [putO, wordsO]
  | q :: pre, o, post, i, x => by
    have ih := put_at pre o post i x
    rw [List.cons_append, putO, wordsO_cons, List.length_append, obW_len, if_neg (by omega), show q.v.length + 2 + (wordsO pre).length - (q.v.length + 2) = (wordsO pre).length by omega, ih]
    rfl
theorem words_put (pre : List Ob) (o : Ob) (post : List Ob) (i : Nat) (x : Int) (hi : i < o.v.length) : wordsO (pre ++ ⟨o.k, o.v.set i x⟩ :: post) = (wordsO (pre ++ o :: post)).set ((wordsO pre).length + 2 + i) x := by
  rw [wordsO_append, wordsO_append, wordsO_cons, wordsO_cons, List.set_append_right _ _ (by omega), show (wordsO pre).length + 2 + i - (wordsO pre).length = i + 1 + 1 by omega,
    List.set_append_left _ _ (by rw [obW_len]; omega)]
  simp [obW]
theorem marks_put (pre : List Ob) (o : Ob) (post : List Ob) (i : Nat) (x : Int) : marksO (pre ++ ⟨o.k, o.v.set i x⟩ :: post) = marksO (pre ++ o :: post) := by
  rw [marksO_append, marksO_append]
  simp [marksO, obM]
theorem holds_split {os : List Ob} {a i : Int} (h : holdsO os a i = true) : ∃ pre o post, os = pre ++ o :: post ∧ a = ((wordsO pre).length : Int) ∧ 0 ≤ i ∧ i < (o.v.length : Int) := by
  simp only [holdsO, Bool.and_eq_true, decide_eq_true_eq] at h
  have hh : hasO os a = true := by
    cases hq : hasO os a
    · have := h.2
      unfold lenO at this
      rw [hq] at this
      simp at this
      omega
    · rfl
  obtain ⟨pre, o, post, rfl, rfl⟩ := has_split hh
  rw [len_at] at h
  exact ⟨pre, o, post, rfl, rfl, h.1, h.2⟩
theorem is32_zero : Is32 0 := ⟨by omega, by omega⟩
theorem Ob.Ok.set {o : Ob} (h : o.Ok) (i : Nat) {x : Int} (hx : Is32 x) : Ob.Ok ⟨o.k, o.v.set i x⟩ :=
  ⟨h.k, by simpa using h.n, fun y hy => by
    rcases List.mem_or_eq_of_mem_set hy with hy | rfl
    · exact h.v y hy
    · exact hx⟩
theorem words_is32 : ∀ (os : List Ob), (∀ o ∈ os, Ob.Ok o) → ∀ x ∈ wordsO os, Is32 x
  | [], _, x, hx => by simp [wordsO] at hx
  | o :: r, h, x, hx => by
    rw [wordsO_cons, List.mem_append] at hx
    rcases hx with hx | hx
    · have ho := h o (by simp)
      simp only [obW, List.mem_cons] at hx
      have h1 := ho.k
      have h2 := ho.n
      rcases hx with rfl | rfl | hx
      · exact ⟨by omega, by omega⟩
      · exact ⟨by omega, by omega⟩
      · exact ho.v x hx
    · exact words_is32 r (fun o ho => h o (by simp [ho])) x hx
/-- May there be such an object? -/
def mayB (k n : Int) : Bool := decide (0 ≤ k) && (decide (k ≤ 10000) && (decide (0 ≤ n) && decide (n ≤ 1000)))
def newOb (k n : Int) : Ob := ⟨k.toNat, List.replicate n.toNat 0⟩
theorem newOb_ok {k n : Int} (h : mayB k n = true) : (newOb k n).Ok := by
  simp only [mayB, Bool.and_eq_true, decide_eq_true_eq] at h
  exact ⟨by show k.toNat ≤ 10000; omega, by show (List.replicate n.toNat (0 : Int)).length ≤ 1000; rw [List.length_replicate]; omega, fun x hx => by rw [(List.mem_replicate.1 hx).2]; exact is32_zero⟩
def clampN (n : Int) : Nat := (min (max n 0) 1048576).toNat
theorem clamp_le (n : Int) : clampN n ≤ 1048576 := by unfold clampN; omega

/-! ### Reading words -/
/-- The objects of which the words are, one behind the other; none: they are none. -/
def readO : Nat → List Int → Option (List Ob)
  | 0, _ => none
  | f + 1, [] => some []
  | f + 1, [_] => none
  | f + 1, k :: n :: r => if mayB k n && decide (n ≤ r.length) then (readO f (r.drop n.toNat)).map (⟨k.toNat, r.take n.toNat⟩ :: ·) else none
theorem read_words : ∀ (f : Nat) (l : List Int) (os : List Ob), readO f l = some os → wordsO os = l ∧ (∀ x ∈ l, Is32 x) → ∀ o ∈ os, Ob.Ok o
  | 0, l, os, h, _ => by simp [readO] at h
  | f + 1, [], os, h, _ => by simp [readO] at h; subst h; simp
  | f + 1, [_], os, h, _ => by simp [readO] at h
  | f + 1, k :: n :: r, os, h, hx => by
    rw [readO] at h
    split at h
    · rename_i hc
      simp only [Bool.and_eq_true, decide_eq_true_eq] at hc
      cases hr : readO f (r.drop n.toNat) with
      | none => rw [hr] at h; simp at h
      | some t =>
        rw [hr] at h
        simp at h
        subst h
        obtain ⟨hm, hl⟩ := hc
        simp only [mayB, Bool.and_eq_true, decide_eq_true_eq] at hm
        obtain ⟨hw, hx⟩ := hx
        have hlen : (r.take n.toNat).length = n.toNat := by rw [List.length_take]; omega
        have hwt : wordsO t = r.drop n.toNat := by
          rw [wordsO_cons] at hw
          have := congrArg (List.drop (n.toNat + 2)) hw
          rw [List.drop_left' (by rw [obW_len]; show (r.take n.toNat).length + 2 = _; rw [hlen])] at this
          simpa using this
        intro o ho
        rcases List.mem_cons.1 ho with rfl | ho
        · exact ⟨by show k.toNat ≤ 10000; omega, by show (r.take n.toNat).length ≤ 1000; omega, fun x hxx => hx x (by simp [List.mem_of_mem_take hxx])⟩
        · exact read_words f _ t hr ⟨hwt, fun x hxx => hx x (by simp [List.mem_of_mem_drop hxx])⟩ o ho
    · simp at h
theorem read_flat : ∀ (f : Nat) (l : List Int) (os : List Ob), readO f l = some os → wordsO os = l
  | 0, l, os, h => by simp [readO] at h
  | f + 1, [], os, h => by simp [readO] at h; subst h; rfl
  | f + 1, [_], os, h => by simp [readO] at h
  | f + 1, k :: n :: r, os, h => by
    rw [readO] at h
    split at h
    · rename_i hc
      simp only [Bool.and_eq_true, decide_eq_true_eq] at hc
      cases hr : readO f (r.drop n.toNat) with
      | none => rw [hr] at h; simp at h
      | some t =>
        rw [hr] at h
        simp at h
        subst h
        obtain ⟨hm, hl⟩ := hc
        simp only [mayB, Bool.and_eq_true, decide_eq_true_eq] at hm
        have hlen : (r.take n.toNat).length = n.toNat := by rw [List.length_take]; omega
        rw [wordsO_cons, read_flat f _ t hr, obW]
        simp only [hlen]
        rw [show ((k.toNat : Nat) : Int) = k by omega, show ((n.toNat : Nat) : Int) = n by omega]
        simp [List.take_append_drop]
    · simp at h
/-- What words of objects read as. -/
theorem read_of : ∀ (os : List Ob) (f : Nat), os.length < f → (∀ o ∈ os, Ob.Ok o) → readO f (wordsO os) = some os
  | [], 0, hf, _ => absurd hf (by omega)
  | [], f + 1, _, _ => rfl
  | o :: r, 0, hf, _ => absurd hf (by omega)
  | o :: r, f + 1, hf, h => by
    have ho := h o (by simp)
    have h1 := ho.k
    have h2 := ho.n
    rw [wordsO_cons]
    simp only [obW, List.cons_append]
    rw [readO, if_pos (by simp [mayB]; omega)]
    simp only [Int.toNat_natCast]
    rw [List.drop_left' rfl, List.take_left' rfl, read_of r f (by simp at hf; omega) (fun o ho => h o (by simp [ho]))]
    rfl
end Heap
end Go.Proofs.Ytpjccmcbagoplaa
