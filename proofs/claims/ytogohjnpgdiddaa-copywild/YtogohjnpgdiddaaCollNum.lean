/- Objects whose words are numbers of objects; laid in a heap; what lives of them, by numbers (no program in it). -/
import Derived.Test.YtogohjnpgdiddaaCollIdx
namespace Go.Proofs.Ytogohjnpgdiddaa
namespace Coll
open Heap
set_option linter.unusedVariables false
set_option linter.unusedSimpArgs false

/-- An object by numbers: its kind, and what its words name (0: none; else another one's number and 1). -/
structure No where
  k : Nat
  ws : List Nat
def plN (N : List No) (i : Nat) : Nat := ((N.take i).map fun o => o.ws.length + 2).sum
/-- A word as it stands in the heap. -/
def wordN (f : Nat → Nat → Bool) (N : List No) (k j x : Nat) : Int := if f k j = true ∧ 0 < x then (plN N (x - 1) : Int) + 1 else (x : Int)
def laidN (f : Nat → Nat → Bool) (N : List No) (o : No) : Ob := ⟨o.k, o.ws.mapIdx fun j x => wordN f N o.k j x⟩
def laidO (f : Nat → Nat → Bool) (N : List No) : List Ob := N.map (laidN f N)
structure NOk (N : List No) : Prop where
  k : ∀ o ∈ N, o.k ≤ 10000
  n : ∀ o ∈ N, o.ws.length ≤ 1000
  w : ∀ o ∈ N, ∀ x ∈ o.ws, x ≤ N.length
theorem laid_len (f : Nat → Nat → Bool) (N : List No) : (laidO f N).length = N.length := by simp [laidO]
theorem laidN_len (f : Nat → Nat → Bool) (N : List No) (o : No) : (laidN f N o).v.length = o.ws.length := by simp [laidN]
theorem words_laid (f : Nat → Nat → Bool) (N : List No) : ∀ l : List No, (wordsO (l.map (laidN f N))).length = (l.map fun o => o.ws.length + 2).sum
  | [] => rfl
  | o :: r => by
    rw [List.map_cons, wordsO_cons, List.length_append, obW_len, words_laid f N r, laidN_len]
    simp
theorem pl_laid (f : Nat → Nat → Bool) (N : List No) (i : Nat) : pl (laidO f N) i = plN N i := by
  unfold pl laidO plN
  rw [← List.map_take, words_laid]
theorem laid_at (f : Nat → Nat → Bool) (N : List No) (i : Nat) (hi : i < N.length) : obAt (laidO f N) (pl (laidO f N) i) = laidN f N N[i] := by
  rw [pl_ob _ i (by rw [laid_len]; exact hi)]
  simp [laidO]
theorem sz_laid (f : Nat → Nat → Bool) (N : List No) (i : Nat) (hi : i < N.length) : sz (laidO f N) (pl (laidO f N) i) = N[i].ws.length + 2 := by
  unfold sz
  rw [laid_at f N i hi, laidN_len]
theorem no_minus (os : List Ob) (x : Int) (h : x < 0) : hasO os x = false := by
  simp [hasO]; omega
/-- What the first n words name. -/
def scanI (g : Nat → Bool) (ws : List Nat) (I : List Nat) : Nat → List Nat
  | 0 => I
  | j + 1 => if g j = true ∧ 0 < ws.getD j 0 then addI (scanI g ws I j) (ws.getD j 0 - 1) else scanI g ws I j
theorem scan_low {os : List Ob} {g : Nat → Bool} {ws : List Nat} {I : List Nat} (h : Low os I) (hw : ∀ x ∈ ws, x ≤ os.length) : ∀ n, n ≤ ws.length → Low os (scanI g ws I n)
  | 0, _ => h
  | j + 1, hj => by
    rw [scanI]
    split
    · rename_i hc
      have := hw (ws.getD j 0) (by rw [List.getD, List.getElem?_eq_getElem (by omega)]; exact List.getElem_mem (by omega))
      exact (scan_low h hw j (by omega)).add (by omega)
    · exact scan_low h hw j (by omega)
theorem scan_idx (f : Nat → Nat → Bool) (N : List No) (hN : NOk N) (o : No) (ho : o ∈ N) {I : List Nat} (h : Low (laidO f N) I) : ∀ n, n ≤ o.ws.length → scanN (f o.k) (laidO f N) (laidN f N o).v (I.map (pl (laidO f N))) n = (scanI (f o.k) o.ws I n).map (pl (laidO f N))
  | 0, _ => rfl
  | j + 1, hj => by
    have ih := scan_idx f N hN o ho h j (by omega)
    have hx : o.ws.getD j 0 ≤ N.length := hN.w o ho _ (by rw [List.getD, List.getElem?_eq_getElem (by omega)]; exact List.getElem_mem (by omega))
    have hv : (laidN f N o).v.getD j 0 = wordN f N o.k j (o.ws.getD j 0) := by simp [laidN, List.getD, show j < o.ws.length by omega]
    have hl := scan_low (g := f o.k) h (ws := o.ws) (fun x hx => by rw [laid_len]; exact hN.w o ho x hx) j (by omega)
    rw [scanN, scanI, ih, hv]
    by_cases hf : f o.k j = true
    · rw [if_pos hf]
      by_cases h0 : 0 < o.ws.getD j 0
      · rw [if_pos ⟨hf, h0⟩, wordN, if_pos ⟨hf, h0⟩, show (plN N (o.ws.getD j 0 - 1) : Int) + 1 - 1 = ((pl (laidO f N) (o.ws.getD j 0 - 1) : Nat) : Int) by rw [pl_laid]; omega]
        exact add_idx hl (by rw [laid_len]; omega)
      · rw [if_neg (fun e => h0 e.2), wordN, if_neg (fun e => h0 e.2)]
        exact add_no (no_minus _ _ (by omega))
    · rw [if_neg hf, if_neg (fun e => hf e.1)]
def cloI (f : Nat → Nat → Bool) (N : List No) : Nat → Nat → List Nat → List Nat
  | 0, _, I => I
  | n + 1, j, I => match I[j]? with
    | none => I
    | some b => match N[b]? with
      | none => I
      | some o => cloI f N n (j + 1) (scanI (f o.k) o.ws I o.ws.length)
theorem clo_idx (f : Nat → Nat → Bool) (N : List No) (hN : NOk N) : ∀ (n j : Nat) (I : List Nat), Low (laidO f N) I → clo f (laidO f N) n j (I.map (pl (laidO f N))) = (cloI f N n j I).map (pl (laidO f N)) ∧ Low (laidO f N) (cloI f N n j I)
  | 0, j, I, h => ⟨rfl, h⟩
  | n + 1, j, I, h => by
    rw [clo, cloI]
    rw [List.getElem?_map]
    cases hj : I[j]? with
    | none => exact ⟨rfl, h⟩
    | some b =>
      have hb : b < N.length := by
        have := h b (List.mem_of_getElem? hj)
        rwa [laid_len] at this
      simp only [Option.map_some, List.getElem?_eq_getElem hb]
      have ho : N[b] ∈ N := List.getElem_mem hb
      unfold scanA
      rw [laid_at f N b hb]
      have e : (laidN f N N[b]).v.length = N[b].ws.length := laidN_len _ _ _
      have e2 : (laidN f N N[b]).k = N[b].k := rfl
      rw [e, e2, scan_idx f N hN N[b] ho h _ (Nat.le_refl _)]
      exact clo_idx f N hN n (j + 1) _ (scan_low h (fun x hx => by rw [laid_len]; exact hN.w _ ho x hx) _ (Nat.le_refl _))
/-- What roots name; below nought: nothing. -/
def rootI (R : List Int) : Nat → List Nat
  | 0 => []
  | i + 1 => if 0 ≤ R.getD i 0 then addI (rootI R i) (R.getD i 0).toNat else rootI R i
def rootP (N : List No) (r : Int) : Int := if 0 ≤ r then (plN N r.toNat : Int) else -1
theorem root_idx (f : Nat → Nat → Bool) (N : List No) (R : List Int) (hR : ∀ r ∈ R, r < (N.length : Int)) : ∀ n, n ≤ R.length → rootN (laidO f N) (R.map (rootP N)) n = (rootI R n).map (pl (laidO f N)) ∧ Low (laidO f N) (rootI R n)
  | 0, _ => ⟨rfl, fun b hb => by simp [rootI] at hb⟩
  | i + 1, hi => by
    obtain ⟨ih, hl⟩ := root_idx f N R hR i (by omega)
    have hr : R.getD i 0 < (N.length : Int) := hR _ (by rw [List.getD, List.getElem?_eq_getElem (by omega)]; exact List.getElem_mem (by omega))
    have hm : (R.map (rootP N)).getD i 0 = rootP N (R.getD i 0) := by simp [List.getD, show i < R.length by omega]
    rw [rootN, rootI, ih, hm]
    by_cases h0 : 0 ≤ R.getD i 0
    · rw [if_pos h0, rootP, if_pos h0, ← pl_laid f N]
      have hlt : (R.getD i 0).toNat < (laidO f N).length := by rw [laid_len]; omega
      exact ⟨add_idx hl hlt, hl.add hlt⟩
    · rw [if_neg h0, rootP, if_neg h0]
      exact ⟨add_no (no_minus _ _ (by omega)), hl⟩
/-- All that live, by numbers. -/
def liveI (f : Nat → Nat → Bool) (N : List No) (R : List Int) : List Nat := cloI f N (wordsO (laidO f N)).length 0 (rootI R R.length)
theorem live_idx (f : Nat → Nat → Bool) (N : List No) (hN : NOk N) (R : List Int) (hR : ∀ r ∈ R, r < (N.length : Int)) : live f (laidO f N) (R.map (rootP N)) = (liveI f N R).map (pl (laidO f N)) ∧ Low (laidO f N) (liveI f N R) := by
  unfold live liveI
  obtain ⟨h1, h2⟩ := root_idx f N R hR R.length (Nat.le_refl _)
  rw [List.length_map, h1]
  exact clo_idx f N hN _ _ _ h2
/-- The place of the copy of number i, where these are copied. -/
def posN (N : List No) : List Nat → Nat → Nat
  | [], _ => 0
  | b :: r, i => if b = i then 0 else ((N.getD b ⟨0, []⟩).ws.length + 2) + posN N r i
theorem pos_num (f : Nat → Nat → Bool) (N : List No) (i : Nat) : ∀ I : List Nat, Low (laidO f N) I → posI (laidO f N) I i = posN N I i
  | [], h => rfl
  | b :: r, h => by
    have hb : b < N.length := by have := h b (by simp); rwa [laid_len] at this
    rw [posI, posN, pos_num f N i r (fun c hc => h c (by simp [hc])), sz_laid f N b hb]
    simp [List.getD, hb]
/-- The copies. -/
def copyN (f : Nat → Nat → Bool) (N : List No) (I : List Nat) (o : No) : Ob := ⟨o.k, o.ws.mapIdx fun j x => if f o.k j = true ∧ 0 < x then (posN N I (x - 1) : Int) + 1 else (x : Int)⟩
def copyO (f : Nat → Nat → Bool) (N : List No) (I : List Nat) : List Ob := I.map fun b => copyN f N I (N.getD b ⟨0, []⟩)
theorem turn_idx (f : Nat → Nat → Bool) (N : List No) (hN : NOk N) (I : List Nat) (hI : Low (laidO f N) I) (b : Nat) (hb : b < N.length) : turnO f (laidO f N) (I.map (pl (laidO f N))) (pl (laidO f N) b) = copyN f N I N[b] := by
  unfold turnO partO
  rw [laid_at f N b hb]
  have ho : N[b] ∈ N := List.getElem_mem hb
  unfold copyN
  have e2 : (laidN f N N[b]).k = N[b].k := rfl
  rw [e2]
  congr 1
  apply List.ext_getElem
  · simp [partV, laidN]
  · intro j h1 h2
    have hj : j < N[b].ws.length := by simpa [partV, laidN] using h1
    have hx := hN.w _ ho _ (List.getElem_mem hj)
    simp only [partV, laidN, List.getElem_mapIdx, List.length_mapIdx, hj, true_and]
    by_cases hf : f N[b].k j = true
    · rw [if_pos hf]
      by_cases h0 : 0 < N[b].ws[j]
      · have hlt : N[b].ws[j] - 1 < (laidO f N).length := by rw [laid_len]; omega
        have e3 : (plN N (N[b].ws[j] - 1) : Int) + 1 - 1 = ((pl (laidO f N) (N[b].ws[j] - 1) : Nat) : Int) := by rw [pl_laid]; omega
        rw [if_pos ⟨hf, h0⟩, wordN, if_pos ⟨hf, h0⟩, refT, placeR, e3, if_pos (pl_has _ _ hlt), Int.toNat_natCast, pos_idx hlt hI, pos_num f N _ _ hI]
      · rw [if_neg (fun e => h0 e.2), wordN, if_neg (fun e => h0 e.2), refT, placeR, no_minus _ _ (by omega)]
        simp
        omega
    · rw [if_neg hf, if_neg (fun e => hf e.1), wordN, if_neg (fun e => hf e.1)]
theorem copy_idx (f : Nat → Nat → Bool) (N : List No) (hN : NOk N) (R : List Int) (hR : ∀ r ∈ R, r < (N.length : Int)) : (live f (laidO f N) (R.map (rootP N))).map (turnO f (laidO f N) (live f (laidO f N) (R.map (rootP N)))) = copyO f N (liveI f N R) := by
  obtain ⟨h1, h2⟩ := live_idx f N hN R hR
  rw [h1, List.map_map]
  unfold copyO
  apply List.map_congr_left
  intro b hb
  have hb2 : b < N.length := by have := h2 b hb; rwa [laid_len] at this
  simp only [Function.comp]
  rw [turn_idx f N hN _ h2 b hb2]
  simp [List.getD, hb2]
theorem place_idx (f : Nat → Nat → Bool) (N : List No) (hN : NOk N) (R : List Int) (hR : ∀ r ∈ R, r < (N.length : Int)) (r : Int) (hr : r ∈ R) : placeR (laidO f N) (live f (laidO f N) (R.map (rootP N))) (rootP N r) = if 0 ≤ r then (posN N (liveI f N R) r.toNat : Int) else -1 := by
  obtain ⟨h1, h2⟩ := live_idx f N hN R hR
  rw [h1]
  have := hR r hr
  unfold rootP placeR
  by_cases h0 : 0 ≤ r
  · have hlt : r.toNat < (laidO f N).length := by rw [laid_len]; omega
    rw [if_pos h0, if_pos h0, ← pl_laid f N, if_pos (pl_has _ _ hlt), Int.toNat_natCast, pos_idx hlt h2, pos_num f N _ _ h2]
  · rw [if_neg h0, if_neg h0, no_minus _ _ (by omega)]
    simp
theorem places_idx (f : Nat → Nat → Bool) (N : List No) (hN : NOk N) (R : List Int) (hR : ∀ r ∈ R, r < (N.length : Int)) : (R.map (rootP N)).map (placeR (laidO f N) (live f (laidO f N) (R.map (rootP N)))) = R.map fun r => if 0 ≤ r then (posN N (liveI f N R) r.toNat : Int) else -1 := by
  rw [List.map_map]
  apply List.map_congr_left
  intro r hr
  exact place_idx f N hN R hR r hr
theorem total_idx (f : Nat → Nat → Bool) (N : List No) (hN : NOk N) (R : List Int) (hR : ∀ r ∈ R, r < (N.length : Int)) : total (laidO f N) (live f (laidO f N) (R.map (rootP N))) = ((liveI f N R).map fun b => (N.getD b ⟨0, []⟩).ws.length + 2).sum := by
  obtain ⟨h1, h2⟩ := live_idx f N hN R hR
  rw [h1]
  unfold total
  rw [List.map_map]
  congr 1
  apply List.map_congr_left
  intro b hb
  have hb2 : b < N.length := by have := h2 b hb; rwa [laid_len] at this
  simp only [Function.comp]
  rw [sz_laid f N b hb2]
  simp [List.getD, hb2]
theorem clo_next {f : Nat → Nat → Bool} {N : List No} {n j b : Nat} {I : List Nat} {o : No} (h : I[j]? = some b) (ho : N[b]? = some o) : cloI f N (n + 1) j I = cloI f N n (j + 1) (scanI (f o.k) o.ws I o.ws.length) := by
  rw [cloI, h]
  simp only [ho]
theorem clo_end {f : Nat → Nat → Bool} {N : List No} {n j : Nat} {I : List Nat} (h : I.length ≤ j) : cloI f N n j I = I := by
  cases n with
  | zero => rfl
  | succ n => rw [cloI, List.getElem?_eq_none h]
end Coll
end Go.Proofs.Ytogohjnpgdiddaa
