/- Objects by their numbers: what lives, by numbers; the places follow (no program in it). -/
import Derived.Test.YtpjccmcbagoplaaCollSpec
namespace Go.Proofs.Ytpjccmcbagoplaa
namespace Coll
open Heap
set_option linter.unusedVariables false
set_option linter.unusedSimpArgs false

/-- Where the object of number i begins. -/
def pl (os : List Ob) (i : Nat) : Nat := (wordsO (os.take i)).length
theorem pl_split (os : List Ob) (i : Nat) (hi : i < os.length) : os = os.take i ++ os[i] :: os.drop (i + 1) := by
  rw [← List.drop_eq_getElem_cons hi, List.take_append_drop]
theorem pl_has (os : List Ob) (i : Nat) (hi : i < os.length) : hasO os (pl os i : Int) = true := by
  have h := has_at (os.take i) os[i] (os.drop (i + 1))
  rw [← pl_split os i hi] at h
  exact h
theorem pl_ob (os : List Ob) (i : Nat) (hi : i < os.length) : obAt os (pl os i) = os[i] := by
  have h := obAt_at (os.take i) os[i] (os.drop (i + 1))
  rw [← pl_split os i hi] at h
  exact h
theorem pl_succ (os : List Ob) (i : Nat) (hi : i < os.length) : pl os (i + 1) = pl os i + (os[i].v.length + 2) := by
  unfold pl
  rw [List.take_add_one, List.getElem?_eq_getElem hi]
  simp only [Option.toList]
  rw [wordsO_append, List.length_append]
  simp [wordsO, obW]
theorem pl_le (os : List Ob) (i : Nat) : ∀ k, i + k ≤ os.length → pl os i + 2 * k ≤ pl os (i + k)
  | 0, _ => by simp
  | k + 1, h => by
    have := pl_le os i k (by omega)
    rw [← Nat.add_assoc, pl_succ os (i + k) (by omega)]
    omega
theorem pl_inj {os : List Ob} {i j : Nat} (hi : i ≤ os.length) (hj : j ≤ os.length) (h : pl os i = pl os j) : i = j := by
  rcases Nat.lt_trichotomy i j with hl | hl | hl
  · obtain ⟨k, rfl⟩ := Nat.exists_eq_add_of_le (Nat.le_of_lt hl)
    have := pl_le os i k hj
    omega
  · exact hl
  · obtain ⟨k, rfl⟩ := Nat.exists_eq_add_of_le (Nat.le_of_lt hl)
    have := pl_le os j k hi
    omega
theorem pl_all (os : List Ob) : pl os os.length = (wordsO os).length := by unfold pl; rw [List.take_length]
theorem has_pl {os : List Ob} {x : Int} (h : hasO os x = true) : ∃ i, i < os.length ∧ x = (pl os i : Int) := by
  obtain ⟨pre, o, post, rfl, e⟩ := has_split h
  refine ⟨pre.length, by simp, ?_⟩
  unfold pl
  rw [e, List.take_left]
theorem pl_same {os os' : List Ob} (hl : os.map (·.v.length) = os'.map (·.v.length)) (i : Nat) : pl os i = pl os' i := by
  unfold pl
  have h : ∀ (a b : List Ob), a.map (·.v.length) = b.map (·.v.length) → (wordsO a).length = (wordsO b).length := by
    intro a
    induction a with
    | nil => intro b hb; cases b with
      | nil => rfl
      | cons o r => simp at hb
    | cons o r ih =>
      intro b hb
      cases b with
      | nil => simp at hb
      | cons o' r' =>
        simp only [List.map_cons, List.cons.injEq] at hb
        rw [wordsO_cons, wordsO_cons, List.length_append, List.length_append, obW_len, obW_len, ih r' hb.2, hb.1]
  apply h
  rw [List.map_take, List.map_take, hl]
/-- A number is told once. -/
def addI (I : List Nat) (i : Nat) : List Nat := if i ∈ I then I else I ++ [i]
def Low (os : List Ob) (I : List Nat) : Prop := ∀ b ∈ I, b < os.length
theorem Low.add {os : List Ob} {I : List Nat} {i : Nat} (h : Low os I) (hi : i < os.length) : Low os (addI I i) := by
  unfold addI
  split
  · exact h
  · intro b hb
    rcases List.mem_append.1 hb with hb | hb
    · exact h b hb
    · simp at hb; omega
theorem mem_pl {os : List Ob} {I : List Nat} {i : Nat} (h : Low os I) (hi : i < os.length) : pl os i ∈ I.map (pl os) ↔ i ∈ I := by
  rw [List.mem_map]
  constructor
  · rintro ⟨b, hb, e⟩
    rw [← pl_inj (Nat.le_of_lt (h b hb)) (Nat.le_of_lt hi) e]
    exact hb
  · exact fun hb => ⟨i, hb, rfl⟩
theorem add_idx {os : List Ob} {I : List Nat} {i : Nat} (h : Low os I) (hi : i < os.length) : addRef os (I.map (pl os)) (pl os i : Int) = (addI I i).map (pl os) := by
  unfold addRef addI
  rw [if_pos (pl_has os i hi), Int.toNat_natCast]
  by_cases hm : i ∈ I
  · rw [if_pos ((mem_pl h hi).2 hm), if_pos hm]
  · rw [if_neg (fun e => hm ((mem_pl h hi).1 e)), if_neg hm, List.map_append]
    rfl
theorem add_no {os : List Ob} {out : List Nat} {x : Int} (h : hasO os x = false) : addRef os out x = out := by
  unfold addRef
  rw [h]
  rfl
/-- The place of the copy of number i. -/
def posI (os : List Ob) : List Nat → Nat → Nat
  | [], _ => 0
  | b :: r, i => if b = i then 0 else sz os (pl os b) + posI os r i
theorem pos_idx {os : List Ob} {i : Nat} (hi : i < os.length) : ∀ {I : List Nat}, Low os I → posOf os (I.map (pl os)) (pl os i) = posI os I i
  | [], h => rfl
  | b :: r, h => by
    rw [List.map_cons, posOf, posI]
    by_cases hb : b = i
    · rw [if_pos (by rw [hb]), if_pos hb]
    · rw [if_neg (fun e => hb (pl_inj (Nat.le_of_lt (h b (by simp))) (Nat.le_of_lt hi) e)), if_neg hb, pos_idx hi (fun c hc => h c (by simp [hc]))]
theorem pos_at (os : List Ob) (i : Nat) (q : List Nat) : ∀ p : List Nat, i ∉ p → posI os (p ++ i :: q) i = ((p.map fun b => sz os (pl os b)).sum)
  | [], h => by simp [posI]
  | b :: r, h => by
    rw [List.cons_append, posI, if_neg (fun e => h (by simp [e])), pos_at os i q r (fun e => h (by simp [e]))]
    simp
end Coll
end Go.Proofs.Ytpjccmcbagoplaa
