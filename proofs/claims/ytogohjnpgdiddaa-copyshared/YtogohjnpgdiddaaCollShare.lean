/- Objects that name one: what lives of them (no program in it). -/
import Derived.Test.YtogohjnpgdiddaaCollRing
namespace Go.Proofs.Ytogohjnpgdiddaa
namespace Coll
open Heap
set_option linter.unusedVariables false
set_option linter.unusedSimpArgs false

def shN (n : Nat) : List No := ⟨1, [0, 0, 0, 0, 0]⟩ :: List.replicate n ⟨2, [1]⟩
def shO (n : Nat) : List Ob := ⟨1, [0, 0, 0, 0, 0]⟩ :: List.replicate n ⟨2, [1]⟩
def shC (n : Nat) : List Ob := List.replicate n ⟨2, [((3 * n + 1 : Nat) : Int)]⟩ ++ [⟨1, [0, 0, 0, 0, 0]⟩]
def shI (n : Nat) : List Nat := (List.range n).map (· + 1)
theorem sh_len (n : Nat) : (shN n).length = n + 1 := by simp [shN]
theorem sh_ok (n : Nat) : NOk (shN n) := by
  constructor
  · intro o ho; simp only [shN, List.mem_cons, List.mem_replicate] at ho; rcases ho with rfl | ⟨_, rfl⟩ <;> simp
  · intro o ho; simp only [shN, List.mem_cons, List.mem_replicate] at ho; rcases ho with rfl | ⟨_, rfl⟩ <;> simp
  · intro o ho x hx
    rw [sh_len]
    simp only [shN, List.mem_cons, List.mem_replicate] at ho
    rcases ho with rfl | ⟨_, rfl⟩
    · simp at hx; omega
    · simp at hx; omega
theorem sum_rep (n : Nat) : ((List.replicate n (⟨2, [1]⟩ : No)).map fun o => o.ws.length + 2).sum = 3 * n := by
  induction n with
  | zero => rfl
  | succ n ih => rw [List.replicate_succ, List.map_cons, List.sum_cons, ih]; simp; omega
theorem sh_pl (n i : Nat) (hi : i ≤ n) : plN (shN n) (i + 1) = 7 + 3 * i := by
  unfold plN shN
  rw [List.take_succ_cons, List.map_cons, List.sum_cons, List.take_replicate, sum_rep, Nat.min_eq_left hi]
  rfl
theorem sh_pl0 (n : Nat) : plN (shN n) 0 = 0 := rfl
theorem sh_laid (n : Nat) : laidO refsB (shN n) = shO n := by
  have h0 := sh_pl0 n
  generalize hN : shN n = N at *
  unfold laidO shO
  conv => lhs; arg 2; rw [← hN, shN]
  rw [List.map_cons, List.map_replicate]
  have e1 : laidN refsB N ⟨1, [0, 0, 0, 0, 0]⟩ = ⟨1, [0, 0, 0, 0, 0]⟩ := rfl
  have e2 : laidN refsB N ⟨2, [1]⟩ = ⟨2, [1]⟩ := by
    simp only [laidN, List.mapIdx_cons, List.mapIdx_nil, wordN]
    rw [if_pos ⟨by decide, by omega⟩, show 1 - 1 = 0 from rfl, h0]
    rfl
  rw [e1, e2]
theorem shI_len (n : Nat) : (shI n).length = n := by simp [shI]
theorem shI_get (n s : Nat) (hs : s < n) : (shI n)[s]? = some (s + 1) := by simp [shI, hs]
theorem sh_get (n s : Nat) (hs : s < n) : (shN n)[s + 1]? = some ⟨2, [1]⟩ := by simp [shN, hs]
theorem sh_zero (n : Nat) : 0 ∉ shI n := by simp [shI]
theorem sh_root (n : Nat) : ∀ m, m ≤ n → rootI ((List.range n).map fun i => ((i + 1 : Nat) : Int)) m = shI m
  | 0, _ => rfl
  | m + 1, hm => by
    have hg : ((List.range n).map fun i => ((i + 1 : Nat) : Int)).getD m 0 = ((m + 1 : Nat) : Int) := by simp [List.getD, show m < n by omega]
    rw [rootI, sh_root n m (by omega), hg, if_pos (by omega), Int.toNat_natCast]
    unfold addI
    rw [if_neg]
    · unfold shI
      rw [List.range_succ, List.map_append]
      rfl
    · unfold shI
      rw [List.mem_map]
      rintro ⟨i, hi, e⟩
      have := List.mem_range.1 hi
      omega
theorem sh_scan (I : List Nat) (h : 0 ∈ I) : scanI (refsB 2) [1] I 1 = I := by
  rw [scanI, scanI, if_pos ⟨by decide, by simp⟩]
  simp only [List.getD_cons_zero, Nat.sub_self]
  unfold addI
  rw [if_pos h]
theorem sh_scan0 (I : List Nat) : scanI (refsB 1) [0, 0, 0, 0, 0] I 5 = I := by
  simp [scanI]
theorem sh_clo (n : Nat) : ∀ (d j F : Nat), 1 ≤ j → j + d = n → n + 1 ≤ F + j → cloI refsB (shN n) F j (shI n ++ [0]) = shI n ++ [0] := by
  intro d
  induction d with
  | zero =>
    intro j F h1 hj hF
    obtain ⟨F, rfl⟩ : ∃ G, F = G + 1 := ⟨F - 1, by omega⟩
    have hb : (shI n ++ [0])[j]? = some 0 := by rw [List.getElem?_append_right (by rw [shI_len]; omega), shI_len, show j - n = 0 by omega]; rfl
    rw [clo_next hb (show (shN n)[0]? = some ⟨1, [0, 0, 0, 0, 0]⟩ from rfl), show ([0, 0, 0, 0, 0] : List Nat).length = 5 from rfl, sh_scan0]
    exact clo_end (by simp [shI_len]; omega)
  | succ d ih =>
    intro j F h1 hj hF
    obtain ⟨F, rfl⟩ : ∃ G, F = G + 1 := ⟨F - 1, by omega⟩
    have hb : (shI n ++ [0])[j]? = some (j + 1) := by rw [List.getElem?_append_left (by rw [shI_len]; omega), shI_get n j (by omega)]
    rw [clo_next hb (sh_get n j (by omega)), show ([1] : List Nat).length = 1 from rfl, sh_scan _ (by simp)]
    exact ih (j + 1) F (by omega) (by omega) (by omega)
theorem sh_live (n : Nat) (hn : 1 ≤ n) : liveI refsB (shN n) ((List.range n).map fun i => ((i + 1 : Nat) : Int)) = shI n ++ [0] := by
  unfold liveI
  rw [List.length_map, List.length_range, sh_root n n (Nat.le_refl _)]
  have hF : n + 1 ≤ (wordsO (laidO refsB (shN n))).length := by
    have := words_laid refsB (shN n) (shN n)
    rw [show laidO refsB (shN n) = (shN n).map (laidN refsB (shN n)) from rfl, this]
    unfold shN
    rw [List.map_cons, List.sum_cons, sum_rep]
    omega
  obtain ⟨F, hF2⟩ : ∃ G, (wordsO (laidO refsB (shN n))).length = G + 1 := ⟨(wordsO (laidO refsB (shN n))).length - 1, by omega⟩
  rw [hF2]
  have hb := shI_get n 0 (by omega)
  rw [clo_next hb (sh_get n 0 (by omega))]
  have hs : scanI (refsB 2) [1] (shI n) 1 = shI n ++ [0] := by
    rw [scanI, scanI, if_pos ⟨by decide, by simp⟩]
    simp only [List.getD_cons_zero, Nat.sub_self]
    unfold addI
    rw [if_neg (sh_zero n)]
  rw [show ([1] : List Nat).length = 1 from rfl, hs]
  exact sh_clo n (n - 1) (0 + 1) F (by omega) (by omega) (by omega)
theorem sh_sz (n b : Nat) (hb : b ∈ shI n) : ((shN n).getD b ⟨0, []⟩).ws.length + 2 = 3 := by
  unfold shI at hb
  rw [List.mem_map] at hb
  obtain ⟨i, hi, rfl⟩ := hb
  rw [List.getD, sh_get n i (List.mem_range.1 hi)]
  rfl
theorem sh_pos0 (n : Nat) : posN (shN n) (shI n ++ [0]) 0 = 3 * n := by
  rw [posN_at _ _ _ _ (sh_zero n), sum_same _ _ 3 (sh_sz n), shI_len]
theorem sh_pos (n s : Nat) (hs : s < n) : posN (shN n) (shI n ++ [0]) (s + 1) = 3 * s := by
  have e : shI n ++ [0] = shI s ++ (s + 1) :: ((shI n ++ [0]).drop (s + 1)) := by
    have h1 : s < (shI n ++ [0]).length := by simp [shI_len]; omega
    have h2 : (shI n ++ [0])[s] = s + 1 := by
      have := shI_get n s hs
      rw [List.getElem_append_left (by rw [shI_len]; exact hs)]
      simp [shI]
    have h3 : (shI n ++ [0]).take s = shI s := by
      rw [List.take_append_of_le_length (by rw [shI_len]; omega)]
      unfold shI
      rw [← List.map_take, List.take_range, Nat.min_eq_left (by omega)]
    have h4 := List.drop_eq_getElem_cons h1
    rw [h2] at h4
    rw [← h3, ← h4, List.take_append_drop]
  have hni : s + 1 ∉ shI s := by
    unfold shI
    rw [List.mem_map]
    rintro ⟨i, hi, e⟩
    have := List.mem_range.1 hi
    omega
  rw [e, posN_at _ _ _ _ hni, sum_same _ _ 3, shI_len]
  intro b hb
  refine sh_sz n b ?_
  unfold shI at hb ⊢
  rw [List.mem_map] at hb ⊢
  obtain ⟨i, hi, rfl⟩ := hb
  exact ⟨i, by rw [List.mem_range] at hi ⊢; omega, rfl⟩
theorem sh_copy (n : Nat) : copyO refsB (shN n) (shI n ++ [0]) = shC n := by
  have hp := sh_pos0 n
  have hg := sh_get n
  have hg0 : (shN n)[0]? = some ⟨1, [0, 0, 0, 0, 0]⟩ := rfl
  generalize shN n = N at *
  unfold copyO shC
  rw [List.map_append]
  congr 1
  · conv => lhs; arg 2; rw [shI]
    rw [List.map_map]
    apply List.ext_getElem
    · simp
    · intro i h1 h2
      have hi : i < n := by simpa using h1
      simp only [List.getElem_map, List.getElem_range, Function.comp, List.getElem_replicate]
      rw [List.getD, hg i hi]
      simp only [copyN, Option.getD_some, List.mapIdx_cons, List.mapIdx_nil]
      rw [if_pos ⟨by decide, by omega⟩, show 1 - 1 = 0 from rfl, hp]
      simp
  · simp only [List.map_cons, List.map_nil, List.getD, hg0]
    rfl
theorem sh_all (n : Nat) (hn : 1 ≤ n) : (live refsB (shO n) ((List.range n).map fun i => ((7 + 3 * i : Nat) : Int))).map (turnO refsB (shO n) (live refsB (shO n) ((List.range n).map fun i => ((7 + 3 * i : Nat) : Int)))) = shC n ∧ ((List.range n).map fun i => ((7 + 3 * i : Nat) : Int)).map (placeR (shO n) (live refsB (shO n) ((List.range n).map fun i => ((7 + 3 * i : Nat) : Int)))) = (List.range n).map fun i => ((3 * i : Nat) : Int) := by
  have hR : ∀ x ∈ ((List.range n).map fun i => ((i + 1 : Nat) : Int)), x < ((shN n).length : Int) := fun x hx => by
    rw [sh_len]
    rw [List.mem_map] at hx
    obtain ⟨i, hi, rfl⟩ := hx
    have := List.mem_range.1 hi
    omega
  have e0 : ((List.range n).map fun i => ((i + 1 : Nat) : Int)).map (rootP (shN n)) = (List.range n).map fun i => ((7 + 3 * i : Nat) : Int) := by
    rw [List.map_map]
    apply List.map_congr_left
    intro i hi
    have := List.mem_range.1 hi
    simp only [Function.comp, rootP]
    rw [if_pos (by omega), Int.toNat_natCast, sh_pl n i (by omega)]
  have h1 := copy_idx refsB (shN n) (sh_ok n) _ hR
  have h2 := places_idx refsB (shN n) (sh_ok n) _ hR
  rw [e0, sh_laid, sh_live n hn] at h1 h2
  refine ⟨by rw [h1, sh_copy], ?_⟩
  rw [h2, List.map_map]
  apply List.map_congr_left
  intro i hi
  have := List.mem_range.1 hi
  simp only [Function.comp]
  rw [if_pos (by omega), Int.toNat_natCast, sh_pos n i this]
theorem shO_words (n : Nat) : (wordsO (shO n)).length = 3 * n + 7 := by
  have := words_laid refsB (shN n) (shN n)
  rw [← sh_laid]
  rw [show laidO refsB (shN n) = (shN n).map (laidN refsB (shN n)) from rfl, this]
  unfold shN
  rw [List.map_cons, List.sum_cons, sum_rep]
  simp
  omega
theorem rep_words (n : Nat) (x : Int) : (wordsO (List.replicate n (⟨2, [x]⟩ : Ob))).length = 3 * n := by
  induction n with
  | zero => rfl
  | succ n ih => rw [List.replicate_succ, wordsO_cons, List.length_append, obW_len, ih]; simp; omega
theorem shC_facts (n : Nat) : (wordsO (shC n)).length = 3 * n + 7 ∧ hasO (shC n) ((3 * n : Nat) : Int) = true ∧ lenO (shC n) ((3 * n : Nat) : Int) = 5 ∧ ∀ i, i < n → getO (shC n) ((3 * i : Nat) : Int) 0 = ((3 * n + 1 : Nat) : Int) := by
  have hw := rep_words n ((3 * n + 1 : Nat) : Int)
  have h1 := has_at (List.replicate n (⟨2, [((3 * n + 1 : Nat) : Int)]⟩ : Ob)) ⟨1, [0, 0, 0, 0, 0]⟩ []
  have h2 := len_at (List.replicate n (⟨2, [((3 * n + 1 : Nat) : Int)]⟩ : Ob)) ⟨1, [0, 0, 0, 0, 0]⟩ []
  rw [hw] at h1 h2
  refine ⟨?_, h1, h2, ?_⟩
  · unfold shC
    rw [wordsO_append, List.length_append, hw]
    rfl
  · intro i hi
    have e : shC n = List.replicate i (⟨2, [((3 * n + 1 : Nat) : Int)]⟩ : Ob) ++ ⟨2, [((3 * n + 1 : Nat) : Int)]⟩ :: (List.replicate (n - i - 1) (⟨2, [((3 * n + 1 : Nat) : Int)]⟩ : Ob) ++ [⟨1, [0, 0, 0, 0, 0]⟩]) := by
      unfold shC
      conv => lhs; rw [show n = i + ((n - i - 1) + 1) by omega]
      rw [← List.replicate_append_replicate, List.replicate_succ]
      have e2 : i + (n - i - 1 + 1) = n := by omega
      rw [e2]
      simp
    have h3 := Heap.get_at (List.replicate i (⟨2, [((3 * n + 1 : Nat) : Int)]⟩ : Ob)) ⟨2, [((3 * n + 1 : Nat) : Int)]⟩ (List.replicate (n - i - 1) (⟨2, [((3 * n + 1 : Nat) : Int)]⟩ : Ob) ++ [⟨1, [0, 0, 0, 0, 0]⟩]) 0 (by simp)
    rw [← e, rep_words] at h3
    exact h3
end Coll
end Go.Proofs.Ytogohjnpgdiddaa
