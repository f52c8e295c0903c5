/- What lives, as plain data: which objects are copied, in which order, where they lie then, what their words are (no program in it). -/
import Derived.Test.YtpjccmcbagoplaaHeapSpec
namespace Go.Proofs.Ytpjccmcbagoplaa
namespace Coll
open Heap
set_option linter.unusedVariables false
set_option linter.unusedSimpArgs false

/-- The object that begins at that place. -/
def obAt : List Ob → Nat → Ob
  | [], _ => ⟨0, []⟩
  | o :: r, a => if a = 0 then o else obAt r (a - (o.v.length + 2))
def sz (os : List Ob) (a : Nat) : Nat := (obAt os a).v.length + 2
theorem obAt_at : ∀ (pre : List Ob) (o : Ob) (post : List Ob), obAt (pre ++ o :: post) (wordsO pre).length = o
  | [], o, post => by simp [obAt, wordsO]
  | q :: pre, o, post => by
    rw [List.cons_append, obAt, wordsO_cons, List.length_append, obW_len, if_neg (by omega), show q.v.length + 2 + (wordsO pre).length - (q.v.length + 2) = (wordsO pre).length by omega]
    exact obAt_at pre o post
/-- The place of the copy of the object at a. -/
def posOf (os : List Ob) : List Nat → Nat → Nat
  | [], _ => 0
  | b :: r, a => if b = a then 0 else sz os b + posOf os r a
def total (os : List Ob) (out : List Nat) : Nat := (out.map (sz os)).sum
theorem total_nil (os : List Ob) : total os [] = 0 := rfl
theorem total_cons (os : List Ob) (a : Nat) (r : List Nat) : total os (a :: r) = sz os a + total os r := by simp [total]
theorem total_append (os : List Ob) (a b : List Nat) : total os (a ++ b) = total os a + total os b := by simp [total]
theorem total_snoc (os : List Ob) (out : List Nat) (a : Nat) : total os (out ++ [a]) = total os out + sz os a := by rw [total_append, total_cons, total_nil, Nat.add_zero]
theorem pos_append (os : List Ob) (e : List Nat) (a : Nat) : ∀ out : List Nat, a ∈ out → posOf os (out ++ e) a = posOf os out a
  | [], h => by simp at h
  | b :: r, h => by
    rw [List.cons_append, posOf, posOf]
    by_cases hb : b = a
    · rw [if_pos hb, if_pos hb]
    · rw [if_neg hb, if_neg hb, pos_append os e a r (by rcases List.mem_cons.1 h with h | h; exact absurd h.symm hb; exact h)]
theorem pos_new (os : List Ob) (a : Nat) (e : List Nat) : ∀ out : List Nat, a ∉ out → posOf os (out ++ a :: e) a = total os out
  | [], h => by simp [posOf, total]
  | b :: r, h => by
    rw [List.cons_append, posOf, total_cons, if_neg (fun hb => h (by simp [hb])), pos_new os a e r (fun hb => h (by simp [hb]))]
theorem pos_lt (os : List Ob) (a : Nat) : ∀ out : List Nat, a ∈ out → posOf os out a + sz os a ≤ total os out
  | [], h => by simp at h
  | b :: r, h => by
    rw [posOf, total_cons]
    by_cases hb : b = a
    · rw [if_pos hb, hb]; omega
    · rw [if_neg hb]
      have := pos_lt os a r (by rcases List.mem_cons.1 h with h | h; exact absurd h.symm hb; exact h)
      omega
theorem has_nat {os : List Ob} {x : Int} (h : hasO os x = true) : hasO os (x.toNat : Int) = true ∧ (x.toNat : Int) = x := by
  have h0 : 0 ≤ x := by
    simp only [hasO, Bool.and_eq_true, decide_eq_true_eq] at h
    exact h.1
  have e : (x.toNat : Int) = x := by omega
  rw [e]
  exact ⟨h, rfl⟩
theorem has_fit {os : List Ob} {a : Nat} (h : hasO os (a : Int) = true) : a + sz os a ≤ (wordsO os).length ∧ ∃ pre post, os = pre ++ obAt os a :: post ∧ a = (wordsO pre).length := by
  obtain ⟨pre, o, post, e1, e2⟩ := has_split h
  have e2 : a = (wordsO pre).length := by omega
  have hob : obAt os a = o := by rw [e1, e2]; exact obAt_at _ _ _
  refine ⟨?_, pre, post, by rw [hob]; exact e1, e2⟩
  rw [sz, hob, e1, words_len]
  omega
theorem has_cons (o : Ob) (r : List Ob) (a : Nat) (h : hasO (o :: r) (a : Int) = true) (h0 : a ≠ 0) : o.v.length + 2 ≤ a ∧ hasO r ((a - (o.v.length + 2) : Nat) : Int) = true := by
  obtain ⟨pre, o', post, e1, e2⟩ := has_split h
  cases pre with
  | nil => simp [wordsO] at e2; omega
  | cons q pre =>
    simp only [List.cons_append, List.cons.injEq] at e1
    obtain ⟨rfl, rfl⟩ := e1
    rw [wordsO_cons, List.length_append, obW_len] at e2
    have e3 : a - (o.v.length + 2) = (wordsO pre).length := by omega
    exact ⟨by omega, by rw [e3]; exact has_at _ _ _⟩
/-- Of objects that are told once each there are no more words than there are. -/
theorem total_le : ∀ (os : List Ob) (out : List Nat), out.Nodup → (∀ a ∈ out, hasO os (a : Int) = true) → total os out ≤ (wordsO os).length
  | [], out, hn, h => by
    cases out with
    | nil => simp [total]
    | cons a r => have := h a (by simp); simp [hasO, marksO] at this
  | o :: r, out, hn, h => by
    have key : ∀ (l : List Nat), l.Nodup → (∀ a ∈ l, hasO (o :: r) (a : Int) = true) → total (o :: r) l = (if 0 ∈ l then o.v.length + 2 else 0) + total r ((l.filter (· ≠ 0)).map (· - (o.v.length + 2))) := by
      intro l
      induction l with
      | nil => intros; simp [total]
      | cons a l ih =>
        intro hn h
        obtain ⟨hn1, hn2⟩ := List.nodup_cons.1 hn
        have ih := ih hn2 (fun b hb => h b (by simp [hb]))
        rw [total_cons, ih]
        by_cases ha : a = 0
        · subst ha
          have hs : sz (o :: r) 0 = o.v.length + 2 := by simp [sz, obAt]
          rw [hs, if_neg hn1]
          simp
        · have hs : sz (o :: r) a = sz r (a - (o.v.length + 2)) := by simp [sz, obAt, ha]
          have h0 : (0 ∈ a :: l) = (0 ∈ l) := by simp; omega
          simp only [h0]
          rw [List.filter_cons_of_pos (by simpa using ha), List.map_cons, total_cons, hs]
          omega
    rw [key out hn h, wordsO_cons, List.length_append, obW_len]
    have ih := total_le r ((out.filter (· ≠ 0)).map (· - (o.v.length + 2))) (by
      have hf : (out.filter (· ≠ 0)).Nodup := hn.filter _
      rw [List.Nodup, List.pairwise_map]
      refine List.Pairwise.imp_of_mem ?_ hf
      intro a b ha hb hab
      simp only [List.mem_filter, decide_eq_true_eq] at ha hb
      have h1 := (has_cons o r a (h a ha.1) (by simpa using ha.2)).1
      have h2 := (has_cons o r b (h b hb.1) (by simpa using hb.2)).1
      omega) (by
      intro a ha
      simp only [List.mem_map, List.mem_filter, decide_eq_true_eq] at ha
      obtain ⟨b, ⟨hb, hb0⟩, rfl⟩ := ha
      exact (has_cons o r b (h b hb) (by simpa using hb0)).2)
    split <;> omega
/-- Places of objects, each told once. -/
def Good (os : List Ob) (out : List Nat) : Prop := out.Nodup ∧ ∀ a ∈ out, hasO os (a : Int) = true
theorem Good.nil (os : List Ob) : Good os [] := ⟨List.nodup_nil, by simp⟩
theorem Good.total {os : List Ob} {out : List Nat} (h : Good os out) : total os out ≤ (wordsO os).length := total_le os out h.1 h.2
theorem Good.snoc {os : List Ob} {out : List Nat} {a : Nat} (h : Good os out) (ha : hasO os (a : Int) = true) (hn : a ∉ out) : Good os (out ++ [a]) :=
  ⟨by rw [List.nodup_append]; exact ⟨h.1, by simp, fun b hb c hc => by simp at hc; subst hc; exact fun e => hn (e ▸ hb)⟩, fun b hb => by
    rcases List.mem_append.1 hb with hb | hb
    · exact h.2 b hb
    · simp at hb; subst hb; exact ha⟩
theorem len_total (os : List Ob) (out : List Nat) : 2 * out.length ≤ Coll.total os out := by
  induction out with
  | nil => simp
  | cons a r ih => rw [total_cons, List.length_cons]; unfold sz; omega
/-- What is named there is told, if it is an object, and was not. -/
def addRef (os : List Ob) (out : List Nat) (x : Int) : List Nat := if hasO os x = true then (if x.toNat ∈ out then out else out ++ [x.toNat]) else out
theorem Good.add {os : List Ob} {out : List Nat} (h : Good os out) (x : Int) : Good os (addRef os out x) := by
  unfold addRef
  split
  · rename_i hx
    split
    · exact h
    · rename_i hn
      exact h.snoc (has_nat hx).1 hn
  · exact h
theorem add_prefix (os : List Ob) (out : List Nat) (x : Int) : out <+: addRef os out x := by
  unfold addRef
  split
  · split
    · exact List.prefix_refl _
    · exact List.prefix_append _ _
  · exact List.prefix_refl _
theorem add_mem {os : List Ob} {out : List Nat} {x : Int} (h : hasO os x = true) : x.toNat ∈ addRef os out x := by
  unfold addRef
  rw [if_pos h]
  split
  · assumption
  · simp
/-- Where the copy of what is named there lies; -1: there is none. -/
def placeR (os : List Ob) (out : List Nat) (x : Int) : Int := if hasO os x = true then (posOf os out x.toNat : Int) else -1
/-- What was told for the place a. -/
def movedV (os : List Ob) (out : List Nat) (a : Nat) : Int := if a ∈ out then (posOf os out a : Int) + 1 else 0
def movedL (os : List Ob) (out : List Nat) : List Int := (List.range (wordsO os).length).map (movedV os out)
theorem moved_len (os : List Ob) (out : List Nat) : (movedL os out).length = (wordsO os).length := by simp [movedL]
theorem moved_at (os : List Ob) (out : List Nat) (a : Nat) (h : a < (wordsO os).length) : (movedL os out)[a]? = some (movedV os out a) := by simp [movedL, h]
theorem moved_nil (os : List Ob) : movedL os [] = List.replicate (wordsO os).length 0 := by
  apply List.ext_getElem
  · simp [movedL]
  · intro i h1 h2; simp [movedL, movedV]
theorem moved_snoc (os : List Ob) (out : List Nat) (a : Nat) (ha : a ∉ out) : movedL os (out ++ [a]) = (movedL os out).set a ((total os out : Int) + 1) := by
  apply List.ext_getElem
  · simp [movedL]
  · intro i h1 h2
    rw [List.getElem_set]
    simp only [movedL, List.getElem_map, List.getElem_range, movedV]
    by_cases hi : i = a
    · subst hi
      rw [if_pos (by simp), if_pos rfl, pos_new os i [] out ha]
    · rw [if_neg (show ¬ a = i from fun e => hi e.symm)]
      by_cases hm : i ∈ out
      · rw [if_pos (by simp [hm]), if_pos hm, pos_append os _ _ _ hm]
      · rw [if_neg (by simp [hm, hi]), if_neg hm]
/-- What the first n words name, told. -/
def scanN (f : Nat → Bool) (os : List Ob) (v : List Int) (out : List Nat) : Nat → List Nat
  | 0 => out
  | i + 1 => if f i then addRef os (scanN f os v out i) (v.getD i 0 - 1) else scanN f os v out i
theorem scan_good {f : Nat → Bool} {os : List Ob} {v : List Int} {out : List Nat} (h : Good os out) : ∀ n, Good os (scanN f os v out n)
  | 0 => h
  | n + 1 => by
    rw [scanN]
    split
    · exact (scan_good h n).add _
    · exact scan_good h n
theorem scan_step (f : Nat → Bool) (os : List Ob) (v : List Int) (out : List Nat) (n : Nat) : scanN f os v out n <+: scanN f os v out (n + 1) := by
  rw [scanN]
  split
  · exact add_prefix _ _ _
  · exact List.prefix_refl _
theorem scan_mono (f : Nat → Bool) (os : List Ob) (v : List Int) (out : List Nat) (n : Nat) : ∀ k, scanN f os v out n <+: scanN f os v out (n + k)
  | 0 => List.prefix_refl _
  | k + 1 => (scan_mono f os v out n k).trans (scan_step f os v out (n + k))
theorem scan_prefix (f : Nat → Bool) (os : List Ob) (v : List Int) (out : List Nat) (n : Nat) : out <+: scanN f os v out n := by
  have := scan_mono f os v out 0 n
  rwa [Nat.zero_add] at this
theorem scan_le (f : Nat → Bool) (os : List Ob) (v : List Int) (out : List Nat) {n m : Nat} (h : n ≤ m) : scanN f os v out n <+: scanN f os v out m := by
  obtain ⟨k, rfl⟩ := Nat.exists_eq_add_of_le h
  exact scan_mono f os v out n k
/-- What all words of the object at a name, told. -/
def scanA (f : Nat → Nat → Bool) (os : List Ob) (out : List Nat) (a : Nat) : List Nat := scanN (f (obAt os a).k) os (obAt os a).v out (obAt os a).v.length
/-- And so on, from the j-th one on. -/
def clo (f : Nat → Nat → Bool) (os : List Ob) : Nat → Nat → List Nat → List Nat
  | 0, _, out => out
  | n + 1, j, out => match out[j]? with
    | none => out
    | some a => clo f os n (j + 1) (scanA f os out a)
theorem clo_prefix (f : Nat → Nat → Bool) (os : List Ob) : ∀ n j out, out <+: clo f os n j out
  | 0, _, out => List.prefix_refl _
  | n + 1, j, out => by
    rw [clo]
    split
    · exact List.prefix_refl _
    · exact (scan_prefix _ _ _ _ _).trans (clo_prefix f os n _ _)
theorem clo_good (f : Nat → Nat → Bool) (os : List Ob) : ∀ n j out, Good os out → Good os (clo f os n j out)
  | 0, _, out, h => h
  | n + 1, j, out, h => by
    rw [clo]
    split
    · exact h
    · exact clo_good f os n _ _ (scan_good h _)
theorem clo_step {f : Nat → Nat → Bool} {os : List Ob} {n j a : Nat} {out : List Nat} (h : out[j]? = some a) : clo f os (n + 1) j out = clo f os n (j + 1) (scanA f os out a) := by
  rw [clo, h]
theorem clo_stop {f : Nat → Nat → Bool} {os : List Ob} {n j : Nat} {out : List Nat} (h : out.length ≤ j) : clo f os n j out = out := by
  cases n with
  | zero => rfl
  | succ n => rw [clo, List.getElem?_eq_none h]
/-- What the roots name, told. -/
def rootN (os : List Ob) (rs : List Int) : Nat → List Nat
  | 0 => []
  | i + 1 => addRef os (rootN os rs i) (rs.getD i 0)
theorem root_good (os : List Ob) (rs : List Int) : ∀ n, Good os (rootN os rs n)
  | 0 => Good.nil os
  | n + 1 => (root_good os rs n).add _
/-- All that live, in the order of their copies. -/
def live (f : Nat → Nat → Bool) (os : List Ob) (rs : List Int) : List Nat := clo f os (wordsO os).length 0 (rootN os rs rs.length)
theorem live_good (f : Nat → Nat → Bool) (os : List Ob) (rs : List Int) : Good os (live f os rs) := clo_good f os _ _ _ (root_good os rs _)
/-- A reference, as it is in the copy. -/
def refT (os : List Ob) (out : List Nat) (x : Int) : Int := placeR os out (x - 1) + 1
/-- Words of which the first i are as in the copy. -/
def partV (f : Nat → Bool) (os : List Ob) (out : List Nat) (v : List Int) (i : Nat) : List Int := v.mapIdx fun j x => if j < i ∧ f j = true then refT os out x else x
def partO (f : Nat → Nat → Bool) (os : List Ob) (out : List Nat) (a i : Nat) : Ob := ⟨(obAt os a).k, partV (f (obAt os a).k) os out (obAt os a).v i⟩
/-- The copy of the object at a. -/
def turnO (f : Nat → Nat → Bool) (os : List Ob) (out : List Nat) (a : Nat) : Ob := partO f os out a (obAt os a).v.length
theorem part_len (f : Nat → Bool) (os : List Ob) (out : List Nat) (v : List Int) (i : Nat) : (partV f os out v i).length = v.length := by simp [partV]
theorem part_zero (f : Nat → Bool) (os : List Ob) (out : List Nat) (v : List Int) : partV f os out v 0 = v := by
  apply List.ext_getElem
  · simp [partV]
  · intro i h1 h2; simp [partV]
theorem partO_zero (f : Nat → Nat → Bool) (os : List Ob) (out : List Nat) (a : Nat) : partO f os out a 0 = obAt os a := by
  unfold partO; rw [part_zero]
theorem part_get (f : Nat → Bool) (os : List Ob) (out : List Nat) (v : List Int) (i : Nat) (hi : i < v.length) : (partV f os out v i).getD i 0 = v.getD i 0 := by
  simp [partV, List.getD, hi]
theorem part_no (f : Nat → Bool) (os : List Ob) (out : List Nat) (v : List Int) (i : Nat) (h : f i = false) : partV f os out v (i + 1) = partV f os out v i := by
  apply List.ext_getElem
  · simp [partV]
  · intro j h1 h2
    simp only [partV, List.getElem_mapIdx]
    by_cases hj : j = i
    · subst hj; simp [h]
    · have : (j < i + 1) = (j < i) := by simp; omega
      simp only [this]
theorem part_yes (f : Nat → Bool) (os : List Ob) (out : List Nat) (v : List Int) (i : Nat) (h : f i = true) (hi : i < v.length) : partV f os out v (i + 1) = (partV f os out v i).set i (refT os out (v.getD i 0)) := by
  apply List.ext_getElem
  · simp [partV]
  · intro j h1 h2
    rw [List.getElem_set]
    simp only [partV, List.getElem_mapIdx]
    by_cases hj : j = i
    · subst hj; simp [h, List.getD, hi]
    · have : (j < i + 1) = (j < i) := by simp; omega
      rw [if_neg (show ¬ i = j from fun e => hj e.symm)]
      simp only [this]
/-- Words of which the first i are laid. -/
def layV (v : List Int) (i : Nat) : List Int := v.mapIdx fun j x => if j < i then x else 0
theorem lay_zero (v : List Int) : layV v 0 = List.replicate v.length 0 := by
  apply List.ext_getElem
  · simp [layV]
  · intro i h1 h2; simp [layV]
theorem lay_all (v : List Int) : layV v v.length = v := by
  apply List.ext_getElem
  · simp [layV]
  · intro i h1 h2
    simp only [layV, List.getElem_mapIdx]
    rw [if_pos h2]
theorem lay_succ (v : List Int) (i : Nat) (hi : i < v.length) : layV v (i + 1) = (layV v i).set i (v.getD i 0) := by
  apply List.ext_getElem
  · simp [layV]
  · intro j h1 h2
    rw [List.getElem_set]
    simp only [layV, List.getElem_mapIdx]
    by_cases hj : j = i
    · subst hj; simp [List.getD, hi]
    · have : (j < i + 1) = (j < i) := by simp; omega
      rw [if_neg (show ¬ i = j from fun e => hj e.symm)]
      simp only [this]
theorem lay_len (v : List Int) (i : Nat) : (layV v i).length = v.length := by simp [layV]
/-- The objects' words together. -/
theorem words_sum (os : List Ob) (g : Nat → Ob) (hg : ∀ a, (g a).v.length + 2 = sz os a) : ∀ out : List Nat, (wordsO (out.map g)).length = total os out
  | [] => by simp [wordsO, total]
  | a :: r => by rw [List.map_cons, wordsO_cons, List.length_append, obW_len, words_sum os g hg r, total_cons, hg]
theorem place_fin {os : List Ob} {out fin : List Nat} {x : Int} (h : out <+: fin) (hm : hasO os x = true → x.toNat ∈ out) : placeR os fin x = placeR os out x := by
  obtain ⟨e, rfl⟩ := h
  unfold placeR
  split
  · rename_i hx
    rw [pos_append os e _ _ (hm hx)]
  · rfl
theorem place_low {os : List Ob} {out : List Nat} {x : Int} (hg : Good os out) (hm : hasO os x = true → x.toNat ∈ out) : -1 ≤ placeR os out x ∧ placeR os out x < ((wordsO os).length : Int) := by
  unfold placeR
  split
  · rename_i hx
    have := pos_lt os _ _ (hm hx)
    have := hg.total
    unfold sz at *
    omega
  · omega
end Coll
end Go.Proofs.Ytpjccmcbagoplaa
