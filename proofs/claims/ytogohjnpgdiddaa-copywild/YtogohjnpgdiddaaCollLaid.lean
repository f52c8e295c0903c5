/- The laws' own 'laid': objects by numbers, laid in a heap. -/
import Derived.Test.YtogohjnpgdiddaaCollCut
import Derived.Test.YtogohjnpgdiddaaCollPut
namespace Go.Proofs.Ytogohjnpgdiddaa
namespace Coll
open Mem Heap
open Go.RowKit
set_option linter.unusedVariables false
set_option linter.unusedSimpArgs false
set_option maxRecDepth 100000

/-- Objects of which those below i are laid, and i's first k words. -/
def partN (N : List No) (i k : Nat) : List Ob := N.mapIdx fun b o => ⟨o.k, o.ws.mapIdx fun j x => if b < i ∨ (b = i ∧ j < k) then wordN refsB N o.k j x else 0⟩
/-- The first i, their words nought. -/
def zeroN (N : List No) (i : Nat) : List Ob := (N.take i).map fun o => ⟨o.k, List.replicate o.ws.length 0⟩
theorem partN_len (N : List No) (i k : Nat) : (partN N i k).length = N.length := by simp [partN]
theorem zero_words (N : List No) (i : Nat) : (wordsO (zeroN N i)).length = plN N i := by
  unfold zeroN plN
  generalize N.take i = l
  induction l with
  | nil => rfl
  | cons o r ih => rw [List.map_cons, wordsO_cons, List.length_append, obW_len, ih]; simp
theorem zero_succ (N : List No) (i : Nat) (hi : i < N.length) : zeroN N (i + 1) = zeroN N i ++ [⟨N[i].k, List.replicate N[i].ws.length 0⟩] := by
  unfold zeroN
  rw [take_snoc N i hi, List.map_append]
  rfl
theorem zero_all (N : List No) : zeroN N N.length = partN N 0 0 := by
  unfold zeroN
  rw [List.take_length]
  apply List.ext_getElem
  · simp [partN]
  · intro i h1 h2
    simp only [List.getElem_map, partN, List.getElem_mapIdx]
    congr 1
    apply List.ext_getElem
    · simp
    · intro j h3 h4
      simp
theorem part_pl (N : List No) (i k b : Nat) : pl (partN N i k) b = plN N b := by
  rw [← pl_laid refsB N b]
  apply pl_same
  apply List.ext_getElem
  · simp [partN, laidO]
  · intro j h1 h2
    simp [partN, laidO, laidN]
theorem part_next (N : List No) (i : Nat) (hi : i < N.length) : partN N i N[i].ws.length = partN N (i + 1) 0 := by
  apply List.ext_getElem
  · simp [partN]
  · intro b h1 h2
    simp only [partN, List.getElem_mapIdx]
    congr 1
    apply List.ext_getElem
    · simp
    · intro j h3 h4
      simp only [List.getElem_mapIdx]
      have hb : b < N.length := by simpa [partN] using h1
      have hj : j < N[b].ws.length := by simpa using h3
      by_cases hbi : b = i
      · subst hbi
        rw [if_pos (.inr ⟨rfl, hj⟩), if_pos (.inl (by omega))]
      · by_cases hlt : b < i
        · rw [if_pos (.inl hlt), if_pos (.inl (by omega))]
        · rw [if_neg (by omega), if_neg (by omega)]
theorem part_all (N : List No) : partN N N.length 0 = laidO refsB N := by
  apply List.ext_getElem
  · simp [partN, laidO]
  · intro b h1 h2
    have hb : b < N.length := by simpa [partN] using h1
    simp only [partN, laidO, laidN, List.getElem_mapIdx, List.getElem_map, hb, true_or, if_true]
theorem part_put (N : List No) (i k : Nat) (hi : i < N.length) (hk : k < N[i].ws.length) : holdsO (partN N i k) (plN N i : Int) (k : Int) = true ∧ putS (partN N i k) (plN N i : Int) (k : Int) (wordN refsB N N[i].k k N[i].ws[k]) = partN N i (k + 1) := by
  have h := put_idx (partN N i k) i k (wordN refsB N N[i].k k N[i].ws[k]) (by rw [partN_len]; exact hi) (by simp [partN]; exact hk)
  rw [part_pl] at h
  refine ⟨h.1, h.2.trans ?_⟩
  apply List.ext_getElem
  · simp [partN]
  · intro b h1 h2
    have hb : b < N.length := by simpa [partN] using h1
    rw [List.getElem_set]
    simp only [partN, List.getElem_mapIdx]
    by_cases hbi : i = b
    · subst hbi
      rw [if_pos rfl]
      congr 1
      apply List.ext_getElem
      · simp
      · intro j h3 h4
        rw [List.getElem_set]
        simp only [List.getElem_mapIdx]
        by_cases hjk : k = j
        · subst hjk
          rw [if_pos rfl]
          simp
        · rw [if_neg hjk]
          by_cases hj2 : j < k
          · simp [hj2, show j < k + 1 by omega]
          · simp [hj2, show ¬ j < k + 1 by omega]
    · rw [if_neg hbi]
      congr 1
      apply List.ext_getElem
      · simp
      · intro j h3 h4
        simp only [List.getElem_mapIdx]
        have : (b < i ∨ b = i ∧ j < k + 1) = (b < i ∨ b = i ∧ j < k) := by simp; omega
        simp only [this]
theorem plN_le (N : List No) (h5 : ∀ o ∈ N, o.ws.length ≤ 5) (i : Nat) : plN N i ≤ 7 * i := by
  have : ∀ (l : List No), (∀ o ∈ l, o.ws.length ≤ 5) → (l.map fun o => o.ws.length + 2).sum ≤ 7 * l.length := by
    intro l
    induction l with
    | nil => intro _; simp
    | cons o r ih =>
      intro h
      rw [List.map_cons, List.sum_cons, List.length_cons]
      have := ih (fun o ho => h o (by simp [ho]))
      have := h o (by simp)
      omega
  have := this (N.take i) (fun o ho => h5 o (List.mem_of_mem_take ho))
  have h2 : (N.take i).length ≤ i := by rw [List.length_take]; omega
  unfold plN
  omega
def places (N : List No) (i : Nat) : List Int := (List.range i).map fun b => (plN N b : Int)
theorem places_succ (N : List No) (i : Nat) : places N (i + 1) = places N i ++ [(plN N i : Int)] := by
  unfold places
  rw [List.range_succ, List.map_append]
  rfl
theorem places_at' (N : List No) (i b : Nat) (hb : b < i) : (places N i)[b]? = some (plN N b : Int) := by simp [places, hb]
theorem places_len' (N : List No) (i : Nat) : (places N i).length = i := by simp [places]
/-- One object of a slice of them, as the walks ask it. -/
theorem obs_at {w : World} {a : Option Addr} {n c : Nat} {N : List No} (h : Sl obE 2 w (.slice a n c) (N.map toV)) (i : Nat) (hi : i < N.length) : ∃ b off aw cw, a = some ⟨b, off, none⟩ ∧ n = N.length ∧ w.cell? ⟨b, off + i * 2, none⟩ = some (.int .i64 (N[i].k : Int)) ∧ w.cell? ⟨b, off + i * 2 + 1, none⟩ = some (.slice aw N[i].ws.length cw) ∧
    ∀ t (ht : t < N[i].ws.length), ∃ bw offw, aw = some ⟨bw, offw, none⟩ ∧ w.cell? ⟨bw, offw + t, none⟩ = some (.int .i64 (N[i].ws[t] : Int)) := by
  obtain ⟨a', c', e1, _, _, _, hx⟩ := h
  simp only [Value.slice.injEq, List.length_map] at e1
  obtain ⟨rfl, rfl, rfl⟩ := e1
  obtain ⟨b, off, rfl, _, hx⟩ := hx (by rw [List.length_map]; omega)
  have hx := hx i (by rw [List.length_map]; exact hi)
  rw [List.getElem_map] at hx
  obtain ⟨z0, _, vw, z1, hsw⟩ := hx
  obtain ⟨aw, cw, rfl, hrw, _⟩ := sl_reads hsw
  have hl : (toV N[i]).ws.length = N[i].ws.length := by simp [toV]
  rw [hl] at z1 hrw
  refine ⟨b, off, aw, cw, rfl, rfl, z0, z1, fun t ht => ?_⟩
  obtain ⟨bw, offw, e, hc⟩ := hrw.cells (by omega)
  refine ⟨bw, offw, e, ?_⟩
  rw [hc t ht]
  simp [toV, List.getD, ht]
theorem obs_at' {w : World} {a : Option Addr} {n c : Nat} {N : List No} (h : Sl obE 2 w (.slice a n c) (N.map toV)) (i K : Nat) (ws : List Nat) (hi : N[i]? = some ⟨K, ws⟩) : ∃ b off aw cw, a = some ⟨b, off, none⟩ ∧ w.cell? ⟨b, off + i * 2, none⟩ = some (.int .i64 (K : Int)) ∧ w.cell? ⟨b, off + i * 2 + 1, none⟩ = some (.slice aw ws.length cw) ∧
    ∀ (t x : Nat), ws[t]? = some x → ∃ bw offw, aw = some ⟨bw, offw, none⟩ ∧ w.cell? ⟨bw, offw + t, none⟩ = some (.int .i64 (x : Int)) := by
  obtain ⟨hi, e⟩ := List.getElem?_eq_some_iff.1 hi
  obtain ⟨b, off, aw, cw, h1, _, h2, h3, h4⟩ := obs_at h i hi
  rw [e] at h2 h3
  refine ⟨b, off, aw, cw, h1, h2, h3, fun t x hx => ?_⟩
  obtain ⟨ht, ex⟩ := List.getElem?_eq_some_iff.1 hx
  obtain ⟨bw, offw, g1, g2⟩ := h4 t (by rw [e]; exact ht)
  refine ⟨bw, offw, g1, ?_⟩
  rw [g2]
  congr 3
  simp only [e, ← ex]
theorem part_put' (N : List No) (i k K x : Nat) (ws : List Nat) (hi : N[i]? = some ⟨K, ws⟩) (hk : ws[k]? = some x) : holdsO (partN N i k) (plN N i : Int) (k : Int) = true ∧ putS (partN N i k) (plN N i : Int) (k : Int) (wordN refsB N K k x) = partN N i (k + 1) := by
  obtain ⟨hi, e⟩ := List.getElem?_eq_some_iff.1 hi
  obtain ⟨hk, ex⟩ := List.getElem?_eq_some_iff.1 hk
  have h := part_put N i k hi (by rw [e]; exact hk)
  simp only [e, ex] at h
  exact h
theorem part_next' (N : List No) (i K : Nat) (ws : List Nat) (hi : N[i]? = some ⟨K, ws⟩) : partN N i ws.length = partN N (i + 1) 0 := by
  obtain ⟨hi, e⟩ := List.getElem?_eq_some_iff.1 hi
  have h := part_next N i hi
  rw [e] at h
  exact h
theorem sl_len {α : Type} {E : World → Nat → Nat → α → Prop} {size : Nat} {w : World} {a : Option Addr} {n c : Nat} {L : List α} (h : Sl E size w (.slice a n c) L) : n = L.length ∧ n ≤ maxLen := by
  obtain ⟨a', c', e1, h2, h3, _⟩ := h
  simp only [Value.slice.injEq] at e1
  obtain ⟨_, e2, _⟩ := e1
  exact ⟨e2, by omega⟩
set_option maxHeartbeats 8000000 in
theorem laid_any (w : World) (a : Option Addr) (nn c : Nat) (N : List No) (hN : NOk N) (h50 : ∀ o ∈ N, o.k < 50) (h5 : ∀ o ∈ N, o.ws.length ≤ 5) (hl : N.length ≤ 20) (h : Sl obE 2 w (.slice a nn c) (N.map toV)) :
    Calls Try.prog 11 #[.slice a nn c, .int .i64 300] w fun e w' => ∃ q S va, e = .returned (.tuple #[.pointer (some ⟨q, 0, none⟩), va]) ∧ Hp w.heap.size w' S q 300 (laidO refsB N) ∧ w'.ownsRow w.heap.size 3 1 va N.length ((places N N.length).map (Value.int .i64)) ∧ (∀ k, va.ownBlock = some k → ¬ S k) ∧ Below w.heap.size w w' := by
  obtain ⟨iN, hiN, hzN0, hzN1, hzN2⟩ := info_parts infoN
  have hnl := (sl_len h).1
  rw [List.length_map] at hnl
  subst hnl
  have HL : Hid (Sl obE 2 w (.slice a N.length c) (N.map toV)) := h
  have c300 : clampN 300 = 300 := by decide
  clear h
  go_enter Try.func11, Try.ntmps11
  go_wp2_with fail
  refine (new_any 300 _ (by omega)).mono ?_
  rintro e w1 ⟨rfl, H1, b1⟩
  rw [c300] at H1
  have H1 : Hid _ := H1
  go_upto_region 4 with fail
  go_loopw [7, 8] (fun av i wr => ∃ (j : Nat) (S : Nat → Prop), i = .int .i64 j ∧ j ≤ N.length ∧ Hid (Hp w.heap.size wr S w.heap.size 300 (zeroN N j)) ∧ Hid (wr.ownsRow w.heap.size 3 1 av j ((places N j).map (Value.int .i64))) ∧ Hid (∀ k, av.ownBlock = some k → ¬ S k) ∧ Below w.heap.size w wr) (fun _ i _ => N.length - (intOf i).toNat)
  case atStart => exact ⟨0, _, rfl, by omega, H1, World.ownsRow_nil _ _ _ _, (fun k e => by cases e), b1⟩
  case round =>
    clear H1
    obtain ⟨j, S, rfl, hj, HH, HRO, HSE, bw⟩ := hrel
    by_cases hlj : j < N.length
    · obtain ⟨b, off, aw, cw, ha, _, z0, z1, hxx⟩ := obs_at (Sl.later obE_stable HL.out bw) j hlj
      clear hxx
      subst ha
      have d1 : decide ((j : Int) < (N.length : Int)) = true := by simp; omega
      have d2 : decide (j < N.length) = true := by simp; omega
      have ho : N[j] ∈ N := List.getElem_mem hlj
      have hk1 := h50 _ ho
      have hw1 := h5 _ ho
      have hple := plN_le N h5 j
      have hm := make_fit (n := 300) (ts := zeroN N j) (o := ⟨N[j].k, List.replicate N[j].ws.length 0⟩) ⟨by show N[j].k ≤ 10000; omega, by show (List.replicate _ _).length ≤ 1000; rw [List.length_replicate]; omega, fun x hx => by rw [(List.mem_replicate.1 hx).2]; exact is32_zero⟩ (by rw [zero_words, List.length_replicate]; omega)
      obtain ⟨m1, m2, m3⟩ := hm
      simp only [List.length_replicate] at m1 m2 m3
      have hz : layV (List.replicate N[j].ws.length (0 : Int)) 0 = List.replicate N[j].ws.length 0 := by rw [lay_zero, List.length_replicate]
      rw [hz, ← zero_succ N j hlj] at m3
      rw [zero_words] at m2
      have HMK := make_any _ _ _ _ _ _ (N[j].k : Int) (N[j].ws.length : Int) (HH.out.later ((Below.refl _ _).drew))
      rw [m1, m2, m3] at HMK
      have HM : Hid (Calls Try.prog 27 #[.pointer (some ⟨w.heap.size, 0, none⟩), .int .i64 (N[j].k : Int), .int .i64 (N[j].ws.length : Int)] wr.drew fun e w' => e = .returned (.tuple #[.int .i64 (plN N j : Int), .bool true]) ∧ ∃ S', Hp w.heap.size w' S' w.heap.size 300 (zeroN N (j + 1)) ∧ Off S wr.drew w' ∧ ∀ k, S' k → S k ∨ wr.drew.heap.size ≤ k) := HMK
      clear HMK m1 m2 m3 hz
      have HPS : Hid _ := places_succ N j
      generalize N[j].k = K at *
      generalize N[j].ws.length = W at *
      generalize hP : plN N j = P at *
      have HJ : Hid (j < N.length) := hlj
      clear hP ho hlj
      go_upto_region 6 with fail
      go_region_with (go_at_call 27; refine HM.out.mono ?_; rintro e w4 ⟨rfl, S4, H4, o4, l4⟩)
      all_goals
        have kd : Below wr.heap.size wr wr.drew := (Below.refl _ _).drew
        have o45 : Off S wr w4 := (Off.below S kd).trans o4 (fun k e => .inl e)
        have R5 := own_off (show World.ownsRow _ _ _ _ _ _ _ from HRO.out) o45 HSE.out
        have HSE5 : Hid (∀ k, (u7 : Value).ownBlock = some k → ¬ S4 k) := fun k e e' => by
          rcases l4 k e' with h | h
          · exact HSE.out k e h
          · have := (World.ownsRow.lt HRO.out k e).2; have := kd.size; omega
        have bw5 := bw.trans (o45.to (B := w.heap.size) (fun k e => (HH.out.raw.low k e).1) bw.size)
        obtain ⟨sa, sc, rfl⟩ := own_sl R5
        have ka := alloc1 w4 (.cells #[.int .i64 (P : Int)] 3)
        have R6 : Hid _ := own_later R5 ka
        have HNW : Hid _ := news_one w4 (.int .i64 (P : Int)) 3
        have kk := bw5.trans (ka.mono bw5.size)
        have hB := kk.size
        have HONE : Hid (∀ u ∈ ([.int .i64 (P : Int)] : List Value), u.oneCell' = true) := by intro u hu; rw [List.mem_singleton.1 hu]; rfl
        have H6 : Hid _ := H4.later ka
        have HLT : Hid (∀ kx, S4 kx → kx < w4.heap.size) := fun kx e => (H4.raw.low kx e).2
        clear H4 o4 o45 R5 HRO HSE HH HM l4 kd bw5 z0 z1 d1 d2
        go_wp2_with (at_builtin; refine wpList_append_lies _ rfl (.tmp 38) (.tmp 40) 23 rfl w.heap.size 3 iN (.int .i64 0) 1 8 Try.underlying23 hiN hzN0 hzN1 hzN2 rfl (by decide) (.slice sa j sc) j ((places N j).map (Value.int .i64)) rfl R6.out ⟨w4.heap.size, 0, none⟩ 1 1 [.int .i64 (P : Int)] rfl rfl HNW.out HONE.out (by decide) (by unfold maxLen; omega) (by omega) hB _ rfl ?_; intro g' cap' w7 own7 g7 hat7 hlt7; have H7 : Hid _ := (show Hp _ _ _ _ _ _ from H6.out).off (Off.grown (S := fun kx => (Value.slice sa j sc).ownBlock = some kx) g7 (fun kx e => e)) (fun kx e e' => HSE5.out kx e' e))
        have kk7 := kk.grown g7 hB (fun kx e => (World.ownsRow.lt R6.out kx e).1)
        have HN7 : Hid (w7.ownsRow w.heap.size 3 1 (.slice (some ⟨g', 0, none⟩) (j + 1) cap') (j + 1) ((places N (j + 1)).map (Value.int .i64))) := by
          show World.ownsRow _ _ _ _ _ _ _
          rw [HPS.out, List.map_append]
          exact own7
        have HS7 : Hid (∀ k, (Value.slice (some ⟨g', 0, none⟩) (j + 1) cap').ownBlock = some k → ¬ S4 k) := fun kx e h => by
          have e' : g' = kx := by simpa [Value.ownBlock] using e
          subst e'
          rcases hat7 with h7 | h7
          · exact HSE5.out _ h7 h
          · have := HLT.out _ h
            rw [alloc_size] at h7
            omega
        go_roundw
        case rel =>
          first
          | exact ⟨j + 1, S4, by go_num, HJ.out, H7, HN7, HS7, kk7⟩
          | ((repeat apply Exists.intro); exact ⟨⟨j + 1, S4, by go_num, HJ.out, H7, HN7, HS7, kk7⟩, rfl⟩)
        case measure => have := HJ.out; simp [intOf]; omega
    · have ej : j = N.length := by omega
      subst ej
      have HH0 : Hid (Hp w.heap.size wr S w.heap.size 300 (partN N 0 0)) := by
        have := HH.out
        rwa [zero_all] at this
      have d1 : decide ((N.length : Int) < (N.length : Int)) = false := by simp
      have d2 : decide (N.length < N.length) = false := by simp
      obtain ⟨sa, sc, rfl⟩ := own_sl HRO.out
      obtain ⟨wo, hwo⟩ : ∃ x, x = wr := ⟨_, rfl⟩
      subst hwo
      clear HH
      go_wp2_with fail
      clear d1 d2
      go_loopw [11] (fun i wr => ∃ (j : Nat), i = .int .i64 j ∧ j ≤ N.length ∧ Hid (Hp w.heap.size wr S w.heap.size 300 (partN N j 0)) ∧ Hid (Off S wo wr)) (fun i _ => N.length - (intOf i).toNat)
      case atStart => exact ⟨0, rfl, by omega, HH0, Off.refl _ _⟩
      case round =>
        obtain ⟨j, rfl, hj', HH, HOF⟩ := hrel
        by_cases hlj : j < N.length
        · have d1 : decide ((j : Int) < (N.length : Int)) = true := by simp; omega
          have d2 : decide (j < N.length) = true := by simp; omega
          have HJ : Hid (j < N.length) := hlj
          obtain ⟨o, hjo⟩ : ∃ o, N[j]? = some o := ⟨_, List.getElem?_eq_getElem hlj⟩
          have ho : o ∈ N := List.mem_of_getElem? hjo
          have hw5 := h5 _ ho
          have hk50 := h50 _ ho
          have hwx := hN.w _ ho
          obtain ⟨K, ws⟩ := o
          dsimp only at hw5 hk50 hwx
          have HWX : Hid (∀ x ∈ ws, x ≤ N.length) := hwx
          have HJO : Hid (N[j]? = some ⟨K, ws⟩) := hjo
          have hHH : Hid (Hp w.heap.size wr S w.heap.size 300 (partN N j 0)) := HH
          have hHO : Hid (Off S wo wr) := HOF
          obtain ⟨b0, off0, aw0, cw0, ha0, z00, z10, hxx0⟩ := obs_at' (Sl.later obE_stable HL.out bw) j K ws hjo
          obtain ⟨wm, hwm⟩ : ∃ x, x = wr := ⟨_, rfl⟩
          subst hwm
          clear HH HOF HH0 hlj hjo ho hwx hxx0 z00 z10
          subst ha0
          go_wp2_with fail
          clear d1 d2
          go_loopw [12] (fun kk wr => ∃ (t : Nat), kk = .int .i64 t ∧ t ≤ ws.length ∧ Hid (Hp w.heap.size wr S w.heap.size 300 (partN N j t)) ∧ Hid (Off S wo wr)) (fun kk _ => 5 - (intOf kk).toNat)
          case atStart => exact ⟨0, rfl, by omega, hHH, hHO⟩
          case round =>
            obtain ⟨t, rfl, ht, HH, HOF⟩ := hrel
            have hb1 : Below w.heap.size w wr := bw.trans (HOF.out.to (B := w.heap.size) (fun k e => (HH.out.raw.low k e).1) bw.size)
            obtain ⟨b, off, aw, cw, ha, z0, z1, hxx⟩ := obs_at' (Sl.later obE_stable HL.out hb1) j K ws HJO.out
            simp only [Option.some.injEq, Addr.mk.injEq, and_true] at ha
            obtain ⟨rfl, rfl⟩ := ha
            have hrow := own_off (show World.ownsRow _ _ _ _ _ _ _ from HRO.out) HOF.out HSE.out
            have d3 : decide ((j : Int) < (N.length : Int)) = true := by simp; exact HJ.out
            have d4 : decide (j < N.length) = true := by simp; exact HJ.out
            by_cases hlt : t < ws.length
            · obtain ⟨x, hxt⟩ : ∃ x, ws[t]? = some x := ⟨_, List.getElem?_eq_getElem hlt⟩
              obtain ⟨bw', offw, haw, z2⟩ := hxx t x hxt
              subst haw
              obtain ⟨g, cap, e6, _, _, hgc1, hgc2⟩ := own_some hrow (by have := HJ.out; omega)
              simp only [Value.slice.injEq, true_and] at e6
              obtain ⟨rfl, rfl⟩ := e6
              have y0 := own_cell hrow j (.int .i64 (plN N j : Int)) (by rw [List.getElem?_map, places_at' N _ j HJ.out]; rfl)
              obtain ⟨p1, p2⟩ := part_put' N j t K x ws HJO.out hxt
              have hx20 := HWX.out _ (List.mem_of_getElem? hxt)
              have hple := plN_le N h5 j
              have hrf := refs_any K t wr
              have HY : Hid (0 < x → wr.cell? ⟨g, x - 1, none⟩ = some (.int .i64 (plN N (x - 1) : Int))) := fun h0 => own_cell hrow _ _ (by rw [List.getElem?_map, places_at' N _ _ (by omega)]; rfl)
              have hpx := plN_le N h5 (x - 1)
              have HPT : Hid (∀ X, X = wordN refsB N K t x → Calls Try.prog 25 #[.pointer (some ⟨w.heap.size, 0, none⟩), .int .i64 (plN N j : Int), .int .i64 (t : Int), .int .i32 X] wr fun e w' => e = .returned (.bool true) ∧ Hp w.heap.size w' S w.heap.size 300 (partN N j (t + 1)) ∧ Off S wr w') := fun X hX => by
                have h32 : Is32 X := by
                  rw [hX]
                  unfold wordN
                  split
                  · exact ⟨by omega, by omega⟩
                  · exact ⟨by omega, by omega⟩
                have := put_any _ _ _ _ _ _ (plN N j : Int) (t : Int) X HH.out h32
                rw [hX] at this ⊢
                rw [p1, p2] at this
                exact this.mono fun e w' h => ⟨h.1, h.2.1, h.2.2.1⟩
              have HWD : Hid (∀ X, (refsB K t = true → 0 < x → X = (plN N (x - 1) : Int) + 1) → ((refsB K t = false ∨ ¬ 0 < x) → X = (x : Int)) → X = wordN refsB N K t x) := fun X hA hB => by
                unfold wordN
                split
                · rename_i h; exact hA h.1 h.2
                · rename_i h
                  refine hB ?_
                  cases hq : refsB K t
                  · exact .inl rfl
                  · exact .inr (fun h0 => h ⟨hq, h0⟩)
              have HJT : Hid (t < ws.length) := hlt
              have d1 : decide ((t : Int) < (ws.length : Int)) = true := by simp; omega
              have d2 : decide (t < ws.length) = true := by simp; omega
              clear p1 p2 hrow hxx hlt hxt
              generalize hPj : plN N j = P at *
              generalize hPx : plN N (x - 1) = Q at *
              clear hPj hPx
              cases hq : refsB K t
              · rw [hq] at hrf
                have HP := HPT.out (x : Int) (HWD.out _ (fun h => by rw [hq] at h; cases h) (fun _ => rfl))
                have HPh : Hid (Calls Try.prog 25 #[.pointer (some ⟨w.heap.size, 0, none⟩), .int .i64 (P : Int), .int .i64 (t : Int), .int .i32 (x : Int)] wr fun e w' => e = .returned (.bool true) ∧ Hp w.heap.size w' S w.heap.size 300 (partN N j (t + 1)) ∧ Off S wr w') := HP
                clear HP HPT HWD HY
                go_wp2_with fail
                refine hrf.mono ?_
                rintro e w' ⟨rfl, hw⟩
                have hw := hw.symm
                subst hw
                go_wp2_with fail
                refine HPh.out.mono ?_
                rintro e w5 ⟨rfl, H5, o5⟩
                have HN5 : Hid _ := H5
                have HO5 : Hid _ := HOF.out.trans o5 (fun k e => .inl e)
                clear H5 o5
                go_wp2_with fail
                go_roundw
                case rel =>
                  first
                  | exact ⟨t + 1, by go_num, HJT.out, HN5, HO5⟩
                  | ((repeat apply Exists.intro); exact ⟨⟨t + 1, by go_num, HJT.out, HN5, HO5⟩, rfl⟩)
                case measure => have := HJT.out; simp [intOf]; omega
              · rw [hq] at hrf
                by_cases h0 : 0 < x
                · have y1 := HY.out h0
                  have HPh : Hid (Calls Try.prog 25 #[.pointer (some ⟨w.heap.size, 0, none⟩), .int .i64 (P : Int), .int .i64 (t : Int), .int .i32 ((Q : Int) + 1)] wr fun e w' => e = .returned (.bool true) ∧ Hp w.heap.size w' S w.heap.size 300 (partN N j (t + 1)) ∧ Off S wr w') := HPT.out ((Q : Int) + 1) (HWD.out _ (fun _ _ => rfl) (fun h => by rcases h with h | h; rw [hq] at h; cases h; exact absurd h0 h))
                  obtain ⟨y, rfl⟩ : ∃ y, x = y + 1 := ⟨x - 1, by omega⟩
                  simp only [Nat.add_sub_cancel] at y1
                  have e1 : ((y + 1 : Nat) : Int) - 1 = (y : Int) := by omega
                  have d5 : decide ((0 : Int) < ((y + 1 : Nat) : Int)) = true := by rw [decide_eq_true_eq]; omega
                  have d6 : decide ((y : Int) < (N.length : Int)) = true := by rw [decide_eq_true_eq]; omega
                  have d7 : decide (y < N.length) = true := by rw [decide_eq_true_eq]; omega
                  clear HPT HWD HY
                  go_wp2_with fail
                  refine hrf.mono ?_
                  rintro e w' ⟨rfl, hw⟩
                  have hw := hw.symm
                  subst hw
                  go_wp2_with fail
                  refine HPh.out.mono ?_
                  rintro e w5 ⟨rfl, H5, o5⟩
                  have HN5 : Hid _ := H5
                  have HO5 : Hid _ := HOF.out.trans o5 (fun k e => .inl e)
                  clear H5 o5
                  go_wp2_with fail
                  go_roundw
                  case rel =>
                    first
                    | exact ⟨t + 1, by go_num, HJT.out, HN5, HO5⟩
                    | ((repeat apply Exists.intro); exact ⟨⟨t + 1, by go_num, HJT.out, HN5, HO5⟩, rfl⟩)
                  case measure => have := HJT.out; simp [intOf]; omega
                · have HPh : Hid (Calls Try.prog 25 #[.pointer (some ⟨w.heap.size, 0, none⟩), .int .i64 (P : Int), .int .i64 (t : Int), .int .i32 (x : Int)] wr fun e w' => e = .returned (.bool true) ∧ Hp w.heap.size w' S w.heap.size 300 (partN N j (t + 1)) ∧ Off S wr w') := HPT.out (x : Int) (HWD.out _ (fun _ h => absurd h h0) (fun _ => rfl))
                  have d5 : decide ((0 : Int) < (x : Int)) = false := by simp; omega
                  have d6 : decide (0 < x) = false := by simp; omega
                  clear HPT HWD HY
                  go_wp2_with fail
                  refine hrf.mono ?_
                  rintro e w' ⟨rfl, hw⟩
                  have hw := hw.symm
                  subst hw
                  go_wp2_with fail
                  refine HPh.out.mono ?_
                  rintro e w5 ⟨rfl, H5, o5⟩
                  have HN5 : Hid _ := H5
                  have HO5 : Hid _ := HOF.out.trans o5 (fun k e => .inl e)
                  clear H5 o5
                  go_wp2_with fail
                  go_roundw
                  case rel =>
                    first
                    | exact ⟨t + 1, by go_num, HJT.out, HN5, HO5⟩
                    | ((repeat apply Exists.intro); exact ⟨⟨t + 1, by go_num, HJT.out, HN5, HO5⟩, rfl⟩)
                  case measure => have := HJT.out; simp [intOf]; omega
            · have et : t = ws.length := by omega
              subst et
              have HNX : Hid (Hp w.heap.size wr S w.heap.size 300 (partN N (j + 1) 0)) := by
                have := HH.out
                rwa [part_next' N j K ws HJO.out] at this
              have d1 : decide ((ws.length : Int) < (ws.length : Int)) = false := by simp
              have d2 : decide (ws.length < ws.length) = false := by simp
              clear hxx hrow
              go_wp2_with fail
              go_roundw
              case rel =>
                first
                | exact ⟨j + 1, by go_num, HJ.out, HNX, HOF⟩
                | ((repeat apply Exists.intro); exact ⟨⟨j + 1, by go_num, HJ.out, HNX, HOF⟩, rfl⟩)
              case measure => have := HJ.out; simp [intOf]; omega
        · have ej : j = N.length := by omega
          subst ej
          have d1 : decide ((N.length : Int) < (N.length : Int)) = false := by simp
          have d2 : decide (N.length < N.length) = false := by simp
          go_wp2_with fail
          go_ret2
          have hh := HH.out
          rw [part_all] at hh
          exact ⟨_, S, _, rfl, hh, own_off (show World.ownsRow _ _ _ _ _ _ _ from HRO.out) HOF.out HSE.out, HSE.out, bw.trans (HOF.out.to (B := w.heap.size) (fun k e => (HH.out.raw.low k e).1) bw.size)⟩
end Coll
end Go.Proofs.Ytogohjnpgdiddaa
