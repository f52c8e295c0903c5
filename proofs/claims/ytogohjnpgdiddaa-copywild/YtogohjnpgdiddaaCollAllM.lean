/- What the law CopyAll reckons (but for cut_sl no program in it). -/
import Derived.Test.YtogohjnpgdiddaaCollOrder
import Derived.Test.YtogohjnpgdiddaaCollEq
import Derived.Test.YtogohjnpgdiddaaCollMirror
import Derived.Test.YtogohjnpgdiddaaCollRing
namespace Go.Proofs.Ytogohjnpgdiddaa
namespace Coll
open Mem Heap
open Go.RowKit
set_option linter.unusedVariables false
set_option linter.unusedSimpArgs false
set_option maxRecDepth 100000

theorem cut_sl' {B : Nat} {w : World} {v : Value} {L : List Nv} (h : Cut B w v (cutN L)) : ∃ a c, v = .slice a (cutN L).length c ∧ Sl obE 2 w v ((cutN L).map toV) := by
  obtain ⟨P, hP, hPN⟩ := h
  obtain ⟨o1, o2, o3⟩ := cut_ok L
  have hmem : ∀ p ∈ P, p.1 ∈ cutN L := fun p hp => by rw [← hPN]; exact List.mem_map_of_mem hp
  have hl := cut_len L
  have hs := hP.sl (fun p hp => by have := o2 _ (hmem p hp); omega) (fun p hp x hx => by have := o1.w _ (hmem p hp) x hx; omega)
  have e : P.map (fun p => toV p.1) = (cutN L).map toV := by rw [← hPN, List.map_map]; rfl
  rw [e] at hs
  obtain ⟨a, c, rfl⟩ := own_sl hP.row
  have hlen : P.length = (cutN L).length := by rw [← hPN, List.length_map]
  rw [hlen] at hs ⊢
  exact ⟨a, c, rfl, hs⟩
/-- The roots of the law, by numbers. -/
def rootsR (n : Nat) (xs : List Int) : List Int := if n = 0 then [] else (xs.take 10).map fun x => (modN x (n + 1) : Int) - 1
def rootsK (n : Nat) (xs : List Int) (k : Nat) : List Int := (xs.take k).map fun x => (modN x (n + 1) : Int) - 1
theorem rootsK_succ (n : Nat) (xs : List Int) (k : Nat) (hk : k < xs.length) : rootsK n xs (k + 1) = rootsK n xs k ++ [(modN (xs.getD k 0) (n + 1) : Int) - 1] := by
  unfold rootsK
  rw [take_snoc xs k hk, List.map_append]
  simp [List.getD, hk]
theorem modN_le (x : Int) (n : Nat) : modN x (n + 1) ≤ n := by
  unfold modN
  have := Int.tmod_lt_of_pos (x.tmod ((n + 1 : Nat) : Int) + ((n + 1 : Nat) : Int)) (show (0 : Int) < ((n + 1 : Nat) : Int) by omega)
  omega
theorem rootsK_low (n : Nat) (xs : List Int) (k : Nat) : ∀ r ∈ rootsK n xs k, -1 ≤ r ∧ r < (n : Int) := by
  intro r hr
  unfold rootsK at hr
  rw [List.mem_map] at hr
  obtain ⟨x, _, rfl⟩ := hr
  have := modN_le x n
  omega
/-- Where the copies lie, one behind the other. -/
def preI (N : List No) (I : List Nat) (s : Nat) : Nat := ((I.take s).map fun b => (N.getD b ⟨0, []⟩).ws.length + 2).sum
theorem preI_zero (N : List No) (I : List Nat) : preI N I 0 = 0 := rfl
theorem preI_succ (N : List No) (I : List Nat) (s b : Nat) (o : No) (hb : I[s]? = some b) (ho : N[b]? = some o) : preI N I (s + 1) = preI N I s + (o.ws.length + 2) := by
  unfold preI
  rw [List.take_add_one, hb]
  simp [List.getD, ho]
theorem preI_pos (N : List No) (I : List Nat) (hn : I.Nodup) (s b : Nat) (hb : I[s]? = some b) : posN N I b = preI N I s := by
  obtain ⟨hs, e⟩ := List.getElem?_eq_some_iff.1 hb
  rw [← e, posN_nth N I hn s hs]
  rfl
theorem preI_all (N : List No) (I : List Nat) : preI N I I.length = (I.map fun b => (N.getD b ⟨0, []⟩).ws.length + 2).sum := by
  unfold preI
  rw [List.take_length]
def preL (N : List No) (I : List Nat) (k : Nat) : List Int := (List.range k).map fun s => (preI N I s : Int)
theorem preL_succ (N : List No) (I : List Nat) (k : Nat) : preL N I (k + 1) = preL N I k ++ [(preI N I k : Int)] := by
  unfold preL
  rw [List.range_succ, List.map_append]
  rfl
theorem preL_at (N : List No) (I : List Nat) (k s : Nat) (h : s < k) : (preL N I k)[s]? = some (preI N I s : Int) := by simp [preL, h]
theorem preL_len (N : List No) (I : List Nat) (k : Nat) : (preL N I k).length = k := by simp [preL]
/-- Where a number stands in a list of numbers. -/
theorem idx_ints (I : List Nat) (hn : I.Nodup) (s b : Nat) (hb : I[s]? = some b) : idxF (ints I) (b : Int) 0 = (s : Int) := by
  obtain ⟨hs, e⟩ := List.getElem?_eq_some_iff.1 hb
  have e2 : I = I.take s ++ b :: I.drop (s + 1) := by rw [← e, ← List.drop_eq_getElem_cons hs, List.take_append_drop]
  have hni : b ∉ I.take s := by
    intro h
    have h2 := hn
    rw [e2, List.nodup_append] at h2
    exact h2.2.2 _ h _ List.mem_cons_self rfl
  have e3 : ints I = ints (I.take s) ++ (b : Int) :: ints (I.drop (s + 1)) := by
    conv => lhs; rw [e2]
    simp [ints]
  rw [e3, idx_yes]
  · rw [ints_len, List.length_take, Nat.zero_add, Nat.min_eq_left (by omega)]
  · intro h
    unfold ints at h
    rw [List.mem_map] at h
    obtain ⟨c, hc, e⟩ := h
    have : c = b := by omega
    exact hni (this ▸ hc)
/-- The copies, one by one. -/
theorem copy_facts (N : List No) (I : List Nat) (hI : ∀ b ∈ I, b < N.length) (s b : Nat) (o : No) (hb : I[s]? = some b) (ho : N[b]? = some o) :
    kindO (copyO refsB N I) (preI N I s : Int) = (o.k : Int) ∧ lenO (copyO refsB N I) (preI N I s : Int) = (o.ws.length : Int) ∧ ∀ (k x : Nat), o.ws[k]? = some x → getO (copyO refsB N I) (preI N I s : Int) (k : Int) = if refsB o.k k = true ∧ 0 < x then (posN N I (x - 1) : Int) + 1 else (x : Int) := by
  obtain ⟨hs, e⟩ := List.getElem?_eq_some_iff.1 hb
  have e2 : I = I.take s ++ b :: I.drop (s + 1) := by rw [← e, ← List.drop_eq_getElem_cons hs, List.take_append_drop]
  have hw : (wordsO ((I.take s).map fun b => copyN refsB N I (N.getD b ⟨0, []⟩))).length = preI N I s := by
    unfold preI
    generalize I.take s = l
    induction l with
    | nil => rfl
    | cons c r ih => rw [List.map_cons, wordsO_cons, List.length_append, obW_len, ih]; simp [copyN]
  have e3 : copyO refsB N I = ((I.take s).map fun b => copyN refsB N I (N.getD b ⟨0, []⟩)) ++ copyN refsB N I o :: ((I.drop (s + 1)).map fun b => copyN refsB N I (N.getD b ⟨0, []⟩)) := by
    unfold copyO
    conv => lhs; arg 2; rw [e2]
    rw [List.map_append, List.map_cons]
    simp [List.getD, ho]
  rw [e3, ← hw]
  refine ⟨kind_at _ _ _, (len_at _ _ _).trans (by simp [copyN]), fun k x hx => ?_⟩
  obtain ⟨hk, ex⟩ := List.getElem?_eq_some_iff.1 hx
  rw [Heap.get_at _ _ _ k (by simp [copyN]; exact hk)]
  simp [copyN, List.getD, hk, ex]
/-- What a live object's references name lives. -/
theorem live_closed (N : List No) (hN : NOk N) (R : List Int) (hR : ∀ r ∈ R, r < (N.length : Int)) (s b : Nat) (o : No) (hb : (liveI refsB N R)[s]? = some b) (ho : N[b]? = some o) (k x : Nat) (hx : o.ws[k]? = some x) (hf : refsB o.k k = true) (h0 : 0 < x) : x - 1 ∈ liveI refsB N R := by
  obtain ⟨h1, h2⟩ := live_idx refsB N hN R hR
  have hd := live_done refsB (laidO refsB N) (R.map (rootP N))
  rw [h1] at hd
  have hbm := List.mem_of_getElem? hb
  have hbl : b < N.length := by have := h2 b hbm; rwa [laid_len] at this
  have hoe : N[b] = o := (List.getElem?_eq_some_iff.1 ho).2
  have hdb := hd (pl (laidO refsB N) b) (List.mem_map_of_mem hbm)
  unfold Done at hdb
  rw [laid_at refsB N b hbl, hoe] at hdb
  obtain ⟨hk, ex⟩ := List.getElem?_eq_some_iff.1 hx
  have hv : (laidN refsB N o).v.getD k 0 = (pl (laidO refsB N) (x - 1) : Int) + 1 := by
    simp only [laidN, List.getD, List.getElem?_mapIdx, hx, Option.map_some, Option.getD_some, wordN]
    rw [if_pos ⟨hf, h0⟩, pl_laid]
  have hx1 : x - 1 < (laidO refsB N).length := by
    rw [laid_len]
    have := hN.w o (List.mem_of_getElem? ho) x (List.mem_of_getElem? hx)
    omega
  have := hdb k (by rw [laidN_len]; exact hk) hf (by rw [hv, Int.add_sub_cancel]; exact pl_has _ _ hx1)
  rw [hv, Int.add_sub_cancel, Int.toNat_natCast] at this
  exact (mem_pl h2 hx1).1 this
theorem root_live (N : List No) (R : List Int) (r : Int) (hr : r ∈ R) (h0 : 0 ≤ r) : r.toNat ∈ liveI refsB N R := by
  have key : ∀ n, ∀ i, i < n → 0 ≤ R.getD i 0 → (R.getD i 0).toNat ∈ rootI R n := by
    intro n
    induction n with
    | zero => intro i hi; omega
    | succ n ih =>
      intro i hi h0
      rw [rootI]
      by_cases hin : i = n
      · subst hin
        rw [if_pos h0]
        unfold addI
        split
        · assumption
        · simp
      · have := ih i (by omega) h0
        split
        · unfold addI
          split
          · exact this
          · exact List.mem_append_left _ this
        · exact this
  obtain ⟨i, hi, rfl⟩ := List.getElem_of_mem hr
  have h1 := key R.length i hi (by simp [List.getD, hi]; exact h0)
  have h2 : (R.getD i 0).toNat = R[i].toNat := by simp [List.getD, hi]
  rw [h2] at h1
  have sub : ∀ (n j : Nat) (I : List Nat), ∀ b ∈ I, b ∈ cloI refsB N n j I := by
    intro n
    induction n with
    | zero => intro j I b hb; exact hb
    | succ n ih =>
      intro j I b hb
      rw [cloI]
      split
      · exact hb
      · split
        · exact hb
        · refine ih _ _ b ?_
          have : ∀ (g : Nat → Bool) ws t, b ∈ scanI g ws I t := by
            intro g ws t
            induction t with
            | zero => exact hb
            | succ t iht =>
              rw [scanI]
              split
              · unfold addI
                split
                · exact iht
                · simp [iht]
              · exact iht
          exact this _ _ _
  exact sub _ _ _ _ h1
theorem preI_le (N : List No) (I : List Nat) (s : Nat) : preI N I s ≤ preI N I I.length := by
  unfold preI
  rw [List.take_length]
  conv => rhs; rw [← List.take_append_drop s I]
  rw [List.map_append, List.sum_append]
  omega
theorem copy_words (N : List No) (I : List Nat) : (wordsO (copyO refsB N I)).length = preI N I I.length := by
  have key : ∀ l : List Nat, (wordsO (l.map fun b => copyN refsB N I (N.getD b ⟨0, []⟩))).length = (l.map fun b => (N.getD b ⟨0, []⟩).ws.length + 2).sum := by
    intro l
    induction l with
    | nil => rfl
    | cons c r ih => rw [List.map_cons, wordsO_cons, List.length_append, obW_len, ih]; simp [copyN]
  unfold preI
  rw [List.take_length]
  exact key I
end Coll
end Go.Proofs.Ytogohjnpgdiddaa
