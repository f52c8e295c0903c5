/- What was copied, copied again, is as it was (no program in it). -/
import Derived.Test.YtogohjnpgdiddaaCollIdx
namespace Go.Proofs.Ytogohjnpgdiddaa
namespace Coll
open Heap
set_option linter.unusedVariables false
set_option linter.unusedSimpArgs false

theorem clo_less (f : Nat → Nat → Bool) (os : List Ob) (m : Nat) : ∀ (n j : Nat) (out : List Nat), (clo f os (n + m) j out).length ≤ n + j → clo f os n j out = clo f os (n + m) j out
  | 0, j, out, h => by
    have hp := (clo_prefix f os (0 + m) j out).length_le
    rw [clo_stop (by omega), clo_stop (by omega)]
  | n + 1, j, out, h => by
    rw [show n + 1 + m = (n + m) + 1 by omega] at h ⊢
    rw [clo] at h ⊢
    conv => rhs; rw [clo]
    cases hj : out[j]? with
    | none => rfl
    | some a =>
      rw [hj] at h
      simp only at h ⊢
      exact clo_less f os m n (j + 1) _ (by omega)
section
variable {f : Nat → Nat → Bool} {os : List Ob} {fin : List Nat}
/-- The copies. -/
def cop (f : Nat → Nat → Bool) (os : List Ob) (fin : List Nat) : List Ob := fin.map (turnO f os fin)
theorem turn_len' (f : Nat → Nat → Bool) (os : List Ob) (fin : List Nat) (b : Nat) : (turnO f os fin b).v.length + 2 = sz os b := by simp [turnO, partO, part_len, sz]
theorem pos_split (os : List Ob) (a : Nat) : ∀ fin : List Nat, a ∈ fin → ∃ p q, fin = p ++ a :: q ∧ a ∉ p ∧ posOf os fin a = total os p
  | [], h => by simp at h
  | b :: r, h => by
    by_cases hb : b = a
    · subst hb
      exact ⟨[], r, rfl, by simp, by simp [posOf, total]⟩
    · obtain ⟨p, q, e1, e2, e3⟩ := pos_split os a r (by rcases List.mem_cons.1 h with h | h; exact absurd h.symm hb; exact h)
      refine ⟨b :: p, q, by rw [e1]; rfl, by simp [e2]; exact fun e => hb e.symm, ?_⟩
      rw [posOf, if_neg hb, e3, total_cons]
theorem cop_at (a : Nat) (ha : a ∈ fin) : hasO (cop f os fin) (posOf os fin a : Int) = true ∧ obAt (cop f os fin) (posOf os fin a) = turnO f os fin a := by
  obtain ⟨p, q, e1, e2, e3⟩ := pos_split os a fin ha
  have hw : (wordsO (p.map (turnO f os fin))).length = posOf os fin a := by rw [words_sum os _ (turn_len' f os fin), e3]
  have e : cop f os fin = p.map (turnO f os fin) ++ turnO f os fin a :: q.map (turnO f os fin) := by
    unfold cop
    conv => lhs; arg 2; rw [e1]
    rw [List.map_append, List.map_cons]
  rw [e, ← hw]
  exact ⟨has_at _ _ _, obAt_at _ _ _⟩
theorem pos_inj (hn : fin.Nodup) {a b : Nat} (ha : a ∈ fin) (hb : b ∈ fin) (h : posOf os fin a = posOf os fin b) : a = b := by
  obtain ⟨p, q, e1, e2, e3⟩ := pos_split os a fin ha
  obtain ⟨p', q', e1', e2', e3'⟩ := pos_split os b fin hb
  rw [e3, e3'] at h
  have key : ∀ (p p' : List Nat) (q q' : List Nat), p ++ a :: q = p' ++ b :: q' → total os p = total os p' → a = b := by
    intro p
    induction p with
    | nil =>
      intro p' q q' e h
      cases p' with
      | nil => simp at e; exact e.1
      | cons c p' => rw [total_cons, total_nil] at h; unfold sz at h; omega
    | cons c p ih =>
      intro p' q q' e h
      cases p' with
      | nil => rw [total_cons, total_nil] at h; unfold sz at h; omega
      | cons c' p' =>
        simp only [List.cons_append, List.cons.injEq] at e
        obtain ⟨rfl, e⟩ := e
        rw [total_cons, total_cons] at h
        exact ih p' q q' e (by omega)
  exact key p p' q q' (e1.symm.trans e1') h
theorem sz_cop (a : Nat) (ha : a ∈ fin) : sz (cop f os fin) (posOf os fin a) = sz os a := by
  have := turn_len' f os fin a
  unfold sz at *
  rw [(cop_at a ha).2]
  exact this
theorem mem_pos (hn : fin.Nodup) {out : List Nat} {a : Nat} (ho : ∀ b ∈ out, b ∈ fin) (ha : a ∈ fin) : posOf os fin a ∈ out.map (posOf os fin) ↔ a ∈ out := by
  rw [List.mem_map]
  constructor
  · rintro ⟨b, hb, e⟩
    rw [← pos_inj hn (ho b hb) ha e]
    exact hb
  · exact fun h => ⟨a, h, rfl⟩
theorem add_mirror (hn : fin.Nodup) {out : List Nat} (ho : ∀ b ∈ out, b ∈ fin) (y : Int) (hy : hasO os y = true → y.toNat ∈ fin) : addRef (cop f os fin) (out.map (posOf os fin)) (placeR os fin y) = (addRef os out y).map (posOf os fin) := by
  unfold placeR
  by_cases h : hasO os y = true
  · have hm := hy h
    rw [if_pos h]
    unfold addRef
    rw [if_pos (cop_at _ hm).1, if_pos h, Int.toNat_natCast]
    by_cases hmm : y.toNat ∈ out
    · rw [if_pos ((mem_pos hn ho hm).2 hmm), if_pos hmm]
    · rw [if_neg (fun e => hmm ((mem_pos hn ho hm).1 e)), if_neg hmm, List.map_append]
      rfl
  · rw [if_neg h, add_no (os := os) (by simpa using h)]
    refine add_no ?_
    simp [hasO]
theorem scan_mirror (hn : fin.Nodup) (a : Nat) (out : List Nat) : ∀ n, n ≤ (obAt os a).v.length → (∀ b ∈ scanN (f (obAt os a).k) os (obAt os a).v out n, b ∈ fin) →
    scanN (f (obAt os a).k) (cop f os fin) (turnO f os fin a).v (out.map (posOf os fin)) n = (scanN (f (obAt os a).k) os (obAt os a).v out n).map (posOf os fin)
  | 0, _, _ => rfl
  | n + 1, hl, hf => by
    have hpre := scan_step (f (obAt os a).k) os (obAt os a).v out n
    have ho : ∀ b ∈ scanN (f (obAt os a).k) os (obAt os a).v out n, b ∈ fin := fun b hb => hf b (hpre.subset hb)
    have ih := scan_mirror hn a out n (by omega) ho
    rw [scanN] at hf
    rw [scanN, scanN, ih]
    by_cases hk : f (obAt os a).k n = true
    · rw [if_pos hk] at hf
      rw [if_pos hk, if_pos hk]
      have hv : (turnO f os fin a).v.getD n 0 = refT os fin ((obAt os a).v.getD n 0) := by
        have hnl : n < (obAt os a).v.length := by omega
        simp [turnO, partO, partV, List.getD, hnl, hk]
      rw [hv, refT, Int.add_sub_cancel]
      exact add_mirror hn ho _ (fun h => hf _ (add_mem h))
    · rw [if_neg hk, if_neg hk]
theorem clo_mirror (hn : fin.Nodup) : ∀ (n j : Nat) (out : List Nat), (∀ b ∈ clo f os n j out, b ∈ fin) → clo f (cop f os fin) n j (out.map (posOf os fin)) = (clo f os n j out).map (posOf os fin)
  | 0, j, out, _ => rfl
  | n + 1, j, out, h => by
    rw [clo] at h ⊢
    conv => rhs; rw [clo]
    rw [List.getElem?_map]
    cases hj : out[j]? with
    | none => rfl
    | some a =>
      rw [hj] at h
      simp only [Option.map_some] at h ⊢
      have ha : a ∈ fin := by
        refine h a ((clo_prefix f os n (j + 1) _).subset ((scan_prefix _ _ _ _ _).subset ?_))
        exact List.mem_of_getElem? hj
      have hs : scanA f (cop f os fin) (out.map (posOf os fin)) (posOf os fin a) = (scanA f os out a).map (posOf os fin) := by
        unfold scanA
        rw [(cop_at a ha).2]
        have hl : (turnO f os fin a).v.length = (obAt os a).v.length := by have := turn_len' f os fin a; unfold sz at this; omega
        rw [hl]
        exact scan_mirror hn a out _ (Nat.le_refl _) (fun b hb => h b ((clo_prefix f os n (j + 1) _).subset hb))
      rw [hs]
      exact clo_mirror hn n (j + 1) _ h
theorem pos_mirror (hn : fin.Nodup) (a : Nat) (ha : a ∈ fin) : posOf (cop f os fin) (fin.map (posOf os fin)) (posOf os fin a) = posOf os fin a := by
  have key : ∀ l : List Nat, (∀ b ∈ l, b ∈ fin) → posOf (cop f os fin) (l.map (posOf os fin)) (posOf os fin a) = posOf os l a := by
    intro l
    induction l with
    | nil => intro _; rfl
    | cons b r ih =>
      intro h
      rw [List.map_cons, posOf, posOf]
      by_cases hb : b = a
      · rw [if_pos (by rw [hb]), if_pos hb]
      · rw [if_neg (fun e => hb (pos_inj hn (h b (by simp)) ha e)), if_neg hb, sz_cop b (h b (by simp)), ih (fun c hc => h c (by simp [hc]))]
  exact key fin (fun b hb => hb)
theorem place_mirror (hn : fin.Nodup) (y : Int) (hy : hasO os y = true → y.toNat ∈ fin) : placeR (cop f os fin) (fin.map (posOf os fin)) (placeR os fin y) = placeR os fin y := by
  by_cases h : hasO os y = true
  · have hm := hy h
    have e : placeR os fin y = (posOf os fin y.toNat : Int) := by unfold placeR; rw [if_pos h]
    rw [e]
    unfold placeR
    rw [if_pos (cop_at _ hm).1, Int.toNat_natCast, pos_mirror hn _ hm]
  · have e : placeR os fin y = -1 := by unfold placeR; rw [if_neg h]
    rw [e]
    unfold placeR
    rw [if_neg (by simp [hasO])]
end
/-- All that lives has its references among what lives. -/
theorem closed_scan (f : Nat → Bool) (os : List Ob) (v : List Int) (out : List Nat) : ∀ n i, i < n → f i = true → hasO os (v.getD i 0 - 1) = true → (v.getD i 0 - 1).toNat ∈ scanN f os v out n
  | 0, i, hi, _, _ => by omega
  | n + 1, i, hi, hf, hh => by
    by_cases h : i = n
    · subst h
      rw [scanN, if_pos hf]
      exact add_mem hh
    · exact (scan_step f os v out n).subset (closed_scan f os v out n i (by omega) hf hh)
def Done (f : Nat → Nat → Bool) (os : List Ob) (fin : List Nat) (a : Nat) : Prop := ∀ i, i < (obAt os a).v.length → f (obAt os a).k i = true → hasO os ((obAt os a).v.getD i 0 - 1) = true → ((obAt os a).v.getD i 0 - 1).toNat ∈ fin
theorem closed_clo (f : Nat → Nat → Bool) (os : List Ob) : ∀ (n j : Nat) (out : List Nat), (clo f os n j out).length ≤ n + j → (∀ a ∈ out.take j, Done f os (clo f os n j out) a) → ∀ a ∈ clo f os n j out, Done f os (clo f os n j out) a
  | 0, j, out, hl, h => by
    intro a ha
    rw [clo] at hl
    refine h a ?_
    rw [clo] at ha
    rwa [List.take_of_length_le (by omega)]
  | n + 1, j, out, hl, h => by
    rw [clo] at hl h ⊢
    cases hj : out[j]? with
    | none =>
      rw [hj] at h
      simp only at h ⊢
      intro a ha
      have hlen := List.getElem?_eq_none_iff.1 hj
      exact h a (by rwa [List.take_of_length_le hlen])
    | some b =>
      rw [hj] at h hl
      simp only at h hl ⊢
      refine closed_clo f os n (j + 1) _ (by omega) ?_
      intro a ha
      obtain ⟨hjl, e⟩ := List.getElem?_eq_some_iff.1 hj
      obtain ⟨ext, he⟩ := scan_prefix (f (obAt os b).k) os (obAt os b).v out (obAt os b).v.length
      have hs : (scanA f os out b).take (j + 1) = out.take (j + 1) := by
        unfold scanA
        rw [← he, List.take_append_of_le_length (by omega)]
      rw [hs, List.take_add_one, hj] at ha
      simp only [Option.toList, List.mem_append, List.mem_singleton] at ha
      rcases ha with ha | rfl
      · exact h a ha
      · intro i hi hf hh
        exact (clo_prefix f os n (j + 1) _).subset (closed_scan _ os _ out _ i hi hf hh)
theorem live_done (f : Nat → Nat → Bool) (os : List Ob) (rs : List Int) : ∀ a ∈ live f os rs, Done f os (live f os rs) a := by
  have hg := live_good f os rs
  have h1 := len_total os (live f os rs)
  have h2 := hg.total
  unfold live at *
  exact closed_clo f os _ _ _ (by omega) (fun a ha => by simp at ha)
/-- Copied again by its only root. -/
theorem twice (f : Nat → Nat → Bool) (os : List Ob) (a0 : Nat) (h0 : hasO os (a0 : Int) = true) (T : List Ob) (hT : (live f os [(a0 : Int)]).map (turnO f os (live f os [(a0 : Int)])) = T) :
    placeR os (live f os [(a0 : Int)]) (a0 : Int) = 0 ∧ (live f T [0]).map (turnO f T (live f T [0])) = T ∧ placeR T (live f T [0]) 0 = 0 := by
  have hg := live_good f os [(a0 : Int)]
  have hd := live_done f os [(a0 : Int)]
  have hr : rootN os [(a0 : Int)] ([(a0 : Int)] : List Int).length = [a0] := by
    show rootN os [(a0 : Int)] 1 = _
    rw [rootN, rootN]
    simp [addRef, h0]
  have hpre : [a0] <+: live f os [(a0 : Int)] := by
    unfold live
    rw [hr]
    exact clo_prefix _ _ _ _ _
  have hlive : live f os [(a0 : Int)] = clo f os (wordsO os).length 0 [a0] := by unfold live; rw [hr]
  have h1 := len_total os (live f os [(a0 : Int)])
  have htot := hg.total
  have hwT : (wordsO T).length = total os (live f os [(a0 : Int)]) := by rw [← hT, words_sum os _ (turn_len' f os _)]
  generalize hfin : live f os [(a0 : Int)] = fin at *
  have hm0 : a0 ∈ fin := hpre.subset (by simp)
  have hp0 : posOf os fin a0 = 0 := by
    obtain ⟨e, rfl⟩ := hpre
    simp [posOf]
  have hcop : cop f os fin = T := hT
  have hclo : clo f os (wordsO T).length 0 [a0] = fin := by
    obtain ⟨m, hm⟩ := Nat.exists_eq_add_of_le (show (wordsO T).length ≤ (wordsO os).length by omega)
    rw [hm] at hlive
    rw [hlive]
    refine clo_less f os m _ 0 [a0] ?_
    rw [← hlive]
    omega
  have hT0 : hasO T 0 = true := by
    have := (cop_at (f := f) (os := os) a0 hm0).1
    rw [hp0, hcop] at this
    exact this
  have hrT : rootN T [0] ([0] : List Int).length = [0] := by
    show rootN T [0] 1 = _
    rw [rootN, rootN]
    simp [addRef, hT0]
  have hliveT : live f T [0] = fin.map (posOf os fin) := by
    unfold live
    rw [hrT]
    have := clo_mirror (f := f) (os := os) (fin := fin) hg.1 (wordsO T).length 0 [a0] (fun b hb => by rw [hclo] at hb; exact hb)
    rw [hcop, hclo] at this
    rw [← this]
    simp [hp0]
  have hpl0 : placeR os fin (a0 : Int) = 0 := by
    unfold placeR
    rw [if_pos h0, Int.toNat_natCast, hp0]
    rfl
  refine ⟨hpl0, ?_, ?_⟩
  · rw [hliveT, List.map_map]
    refine Eq.trans ?_ hcop
    unfold cop
    apply List.map_congr_left
    intro a ha
    simp only [Function.comp]
    have hob := (cop_at (f := f) (os := os) a ha).2
    rw [hcop] at hob
    unfold turnO partO
    rw [hob]
    have hk : (turnO f os fin a).k = (obAt os a).k := rfl
    rw [hk]
    show Ob.mk _ _ = Ob.mk _ _
    congr 1
    have hvv : (turnO f os fin a).v = partV (f (obAt os a).k) os fin (obAt os a).v (obAt os a).v.length := rfl
    rw [hvv]
    apply List.ext_getElem
    · simp [partV]
    · intro i h2 h3
      have hi : i < (obAt os a).v.length := by simpa [partV] using h3
      simp only [partV, List.getElem_mapIdx, List.length_mapIdx, hi, true_and]
      by_cases hf : f (obAt os a).k i = true
      · rw [if_pos hf, if_pos hf]
        have hdn := hd a ha i hi hf
        have hgd : (obAt os a).v.getD i 0 = (obAt os a).v[i] := by simp [List.getD, hi]
        rw [hgd] at hdn
        unfold refT
        rw [Int.add_sub_cancel]
        have := place_mirror (f := f) hg.1 ((obAt os a).v[i] - 1) hdn
        rw [hcop] at this
        rw [this]
      · rw [if_neg hf, if_neg hf]
  · rw [hliveT]
    have := place_mirror (f := f) (os := os) hg.1 (a0 : Int) (fun _ => by rw [Int.toNat_natCast]; exact hm0)
    rw [hcop, hpl0] at this
    exact this
end Coll
end Go.Proofs.Ytogohjnpgdiddaa
