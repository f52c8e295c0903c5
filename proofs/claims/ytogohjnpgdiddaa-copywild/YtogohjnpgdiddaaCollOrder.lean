/- The laws' own 'place', 'once', 'order'. -/
import Derived.Test.YtogohjnpgdiddaaCollLaid
namespace Go.Proofs.Ytogohjnpgdiddaa
namespace Coll
open Mem Heap
open Go.RowKit
set_option linter.unusedVariables false
set_option linter.unusedSimpArgs false
set_option maxRecDepth 100000

/-- Where x stands first, from i on; -1: nowhere. -/
def idxF : List Int → Int → Nat → Int
  | [], _, _ => -1
  | b :: r, x, i => if b = x then (i : Int) else idxF r x (i + 1)
theorem idx_drop (xs : List Int) (x : Int) (j : Nat) (hj : j < xs.length) : idxF (xs.drop j) x j = if xs.getD j 0 = x then (j : Int) else idxF (xs.drop (j + 1)) x (j + 1) := by
  rw [List.drop_eq_getElem_cons hj, idxF]
  simp [List.getD, hj]
theorem idx_no (x : Int) : ∀ (l : List Int) (i : Nat), x ∉ l → idxF l x i = -1
  | [], _, _ => rfl
  | b :: r, i, h => by
    rw [idxF, if_neg (fun e => h (by simp [e])), idx_no x r (i + 1) (fun e => h (by simp [e]))]
theorem idx_yes (x : Int) (q : List Int) : ∀ (p : List Int) (i : Nat), x ∉ p → idxF (p ++ x :: q) x i = ((i + p.length : Nat) : Int)
  | [], i, _ => by simp [idxF]
  | b :: r, i, h => by
    rw [List.cons_append, idxF, if_neg (fun e => h (by simp [e])), idx_yes x q r (i + 1) (fun e => h (by simp [e]))]
    simp only [List.length_cons]
    omega
theorem idx_ge (x : Int) : ∀ (l : List Int) (i : Nat), x ∈ l → (i : Int) ≤ idxF l x i ∧ idxF l x i < (i : Int) + (l.length : Int)
  | [], _, h => by simp at h
  | b :: r, i, h => by
    rw [idxF]
    by_cases hb : b = x
    · rw [if_pos hb]; simp; omega
    · rw [if_neg hb]
      have := idx_ge x r (i + 1) (by rcases List.mem_cons.1 h with h | h; exact absurd h.symm hb; exact h)
      simp only [List.length_cons]
      omega
set_option maxHeartbeats 2000000 in
theorem place_any (a : Option Addr) (n c : Nat) (xs : List Int) (x : Int) (w : World) (ha : Reads .i64 w a n c xs) : Calls Try.prog 17 #[.slice a n c, .int .i64 x] w fun e w' => e = .returned (.int .i64 (idxF xs x 0)) ∧ w = w' := by
  have hm := ha.max
  have hc := ha.cap
  have hl := ha.len
  unfold maxLen at hm
  have HA : Hid _ := ha
  clear ha
  go_enter Try.func17, Try.ntmps17
  go_wp2_with fail
  go_loopw [5] (fun i wr => ∃ (j : Nat), i = .int .i64 j ∧ j ≤ n ∧ Hid (idxF (xs.drop j) x j = idxF xs x 0) ∧ Hid (w = wr)) (fun i _ => n - (intOf i).toNat)
  case atStart => exact ⟨0, rfl, by omega, rfl, rfl⟩
  case round =>
    obtain ⟨j, rfl, hj, HI, hw⟩ := hrel
    have hw := hw.out
    subst hw
    by_cases hlj : j < n
    · have d1 : decide ((j : Int) < (n : Int)) = true := by simp; omega
      have d2 : decide (j < n) = true := by simp; omega
      obtain ⟨b1, o1, e1, h1⟩ := HA.out.cells (by omega)
      subst e1
      have z1 := h1 j hlj
      have hid := idx_drop xs x j (by omega)
      by_cases hx : xs.getD j 0 = x
      · rw [if_pos hx] at hid
        have HR : Hid ((j : Int) = idxF xs x 0) := hid.symm.trans HI.out
        rw [hx] at z1
        clear h1 hid hx HI
        go_wp2_with fail
        go_ret
        exact ⟨ret_i HR.out, rfl⟩
      · rw [if_neg hx] at hid
        have HR : Hid (idxF (xs.drop (j + 1)) x (j + 1) = idxF xs x 0) := hid.symm.trans HI.out
        clear h1 hid HI
        generalize xs.getD j 0 = y at *
        have d3 : decide (y = x) = false := by rw [decide_eq_false_iff_not]; exact hx
        have d4 : (y == x) = false := by rw [beq_eq_false_iff_ne]; exact hx
        go_wp2_with fail
        exact ⟨⟨j + 1, by go_num, by omega, HR, by first | rfl | trivial⟩, by simp [intOf]; omega⟩
    · have ej : j = n := by omega
      have HR : Hid ((-1 : Int) = idxF xs x 0) := by
        show (-1 : Int) = _
        rw [← HI.out, ej, List.drop_of_length_le (by omega)]
        rfl
      subst ej
      have d1 : decide ((j : Int) < (j : Int)) = false := by simp
      have d2 : decide (j < j) = false := by simp
      clear HI
      go_wp2_with fail
      go_ret
      exact ⟨ret_i HR.out, rfl⟩
def onceL (xs : List Int) (x : Int) : List Int := if x < 0 ∨ x ∈ xs then xs else xs ++ [x]
set_option maxHeartbeats 2000000 in
theorem once_any (B : Nat) (w : World) (v : Value) (xs : List Int) (x : Int) (h : w.ownsRow B 3 1 v xs.length (xs.map (Value.int .i64))) (hB : B ≤ w.heap.size) (hl : xs.length ≤ 1000) : Calls Try.prog 32 #[v, .int .i64 x] w fun e w' => ∃ v', e = .returned v' ∧ w'.ownsRow B 3 1 v' (onceL xs x).length ((onceL xs x).map (Value.int .i64)) ∧ Off (fun k => v.ownBlock = some k) w w' := by
  obtain ⟨iN, hiN, hzN0, hzN1, hzN2⟩ := info_parts infoN
  obtain ⟨a, c, rfl⟩ := own_sl h
  have hr := reads_of h
  have HP := place_any a xs.length c xs x w hr
  have HH : Hid (w.ownsRow B 3 1 (.slice a xs.length c) xs.length (xs.map (Value.int .i64))) := h
  clear h hr
  by_cases hx : x < 0
  · have HR : Hid (∃ v', (Value.slice a xs.length c) = v' ∧ w.ownsRow B 3 1 v' (onceL xs x).length ((onceL xs x).map (Value.int .i64)) ∧ Off (fun k => (Value.slice a xs.length c).ownBlock = some k) w w) := by
      refine ⟨_, rfl, ?_, Off.refl _ _⟩
      unfold onceL
      rw [if_pos (.inl hx)]
      exact HH.out
    have d1 : decide (x < 0) = true := by simpa using hx
    clear HP HH
    go_enter Try.func32, Try.ntmps32
    go_wp2_with fail
    go_ret
    obtain ⟨v', rfl, h2, h3⟩ := HR.out
    exact ⟨_, rfl, h2, h3⟩
  have d1 : decide (x < 0) = false := by simpa using hx
  by_cases hm : x ∈ xs
  · have HR : Hid (∃ v', (Value.slice a xs.length c) = v' ∧ w.ownsRow B 3 1 v' (onceL xs x).length ((onceL xs x).map (Value.int .i64)) ∧ Off (fun k => (Value.slice a xs.length c).ownBlock = some k) w w) := by
      refine ⟨_, rfl, ?_, Off.refl _ _⟩
      unfold onceL
      rw [if_pos (.inr hm)]
      exact HH.out
    have hge := idx_ge x xs 0 hm
    generalize idxF xs x 0 = y at *
    have d2 : decide (0 ≤ y) = true := by rw [decide_eq_true_eq]; omega
    have hy : 0 ≤ y := by omega
    clear HH hge
    go_enter Try.func32, Try.ntmps32
    go_wp2_with fail
    refine HP.mono ?_
    rintro e w' ⟨rfl, rfl⟩
    go_wp2_with fail
    go_ret
    obtain ⟨v', rfl, h2, h3⟩ := HR.out
    exact ⟨_, rfl, h2, h3⟩
  · rw [idx_no x xs 0 hm] at HP
    have ka := alloc1 w (.cells #[.int .i64 x] 3)
    have R6 : Hid _ := own_later (show World.ownsRow _ _ _ _ _ _ _ from HH.out) ka
    have HNW : Hid _ := news_one w (.int .i64 x) 3
    have HONE : Hid (∀ u ∈ ([.int .i64 x] : List Value), u.oneCell' = true) := by intro u hu; rw [List.mem_singleton.1 hu]; rfl
    have hB2 : B ≤ (w.alloc (.cells #[.int .i64 x] 3)).heap.size := Nat.le_trans hB ka.size
    have HL : Hid (onceL xs x = xs ++ [x]) := by
      show _ = _
      unfold onceL
      rw [if_neg (fun e => e.elim hx hm)]
    clear hm
    go_enter Try.func32, Try.ntmps32
    go_wp2_with fail
    refine HP.mono ?_
    rintro e w' ⟨rfl, rfl⟩
    go_wp2_with (at_builtin; refine wpList_append_lies _ rfl (.tmp 14) (.tmp 16) 23 rfl B 3 iN (.int .i64 0) 1 8 Try.underlying23 hiN hzN0 hzN1 hzN2 rfl (by decide) (.slice a xs.length c) xs.length (xs.map (Value.int .i64)) rfl R6.out ⟨w.heap.size, 0, none⟩ 1 1 [.int .i64 x] rfl rfl HNW.out HONE.out (by decide) (by unfold maxLen; omega) (by omega) hB2 _ rfl ?_; intro g' cap' w7 own7 g7 hat7 hlt7)
    go_ret
    refine ⟨_, rfl, ?_, (Off.below _ ka).trans (Off.grown (S := fun kx => (Value.slice a xs.length c).ownBlock = some kx) g7 (fun kx e => e)) (fun k e => .inl e)⟩
    rw [HL.out, List.map_append, List.length_append]
    exact own7
theorem once_add (I : List Nat) (i : Nat) : onceL (I.map fun (b : Nat) => (b : Int)) (i : Int) = (addI I i).map fun (b : Nat) => (b : Int) := by
  unfold onceL addI
  have hm : ((i : Int) ∈ I.map fun (b : Nat) => (b : Int)) ↔ i ∈ I := by
    rw [List.mem_map]
    constructor
    · rintro ⟨b, hb, e⟩
      have : b = i := by omega
      exact this ▸ hb
    · exact fun h => ⟨i, h, rfl⟩
  by_cases h : i ∈ I
  · rw [if_pos (.inr (hm.2 h)), if_pos h]
  · rw [if_neg (fun e => e.elim (fun h0 => by omega) (fun h1 => h (hm.1 h1))), if_neg h, List.map_append]
    rfl
theorem once_neg (xs : List Int) (x : Int) (h : x < 0) : onceL xs x = xs := by
  unfold onceL
  rw [if_pos (.inl h)]
def ints (I : List Nat) : List Int := I.map fun (b : Nat) => (b : Int)
theorem ints_len (I : List Nat) : (ints I).length = I.length := by simp [ints]
theorem ints_at (I : List Nat) (j b : Nat) (h : I[j]? = some b) : (ints I)[j]? = some (b : Int) := by simp [ints, h]
theorem nodup_add {I : List Nat} (h : I.Nodup) (i : Nat) : (addI I i).Nodup := by
  unfold addI
  split
  · exact h
  · rename_i hn
    rw [List.nodup_append]
    exact ⟨h, by simp, fun b hb c hc => by simp at hc; subst hc; exact fun e => hn (e ▸ hb)⟩
theorem nodup_scan {g : Nat → Bool} {ws : List Nat} {I : List Nat} (h : I.Nodup) : ∀ n, (scanI g ws I n).Nodup
  | 0 => h
  | n + 1 => by
    rw [scanI]
    split
    · exact nodup_add (nodup_scan h n) _
    · exact nodup_scan h n
theorem nodup_root (R : List Int) : ∀ n, (rootI R n).Nodup
  | 0 => List.nodup_nil
  | n + 1 => by
    rw [rootI]
    split
    · exact nodup_add (nodup_root R n) _
    · exact nodup_root R n
theorem nodup_clo (f : Nat → Nat → Bool) (N : List No) : ∀ (n j : Nat) (I : List Nat), I.Nodup → (cloI f N n j I).Nodup
  | 0, _, I, h => h
  | n + 1, j, I, h => by
    rw [cloI]
    split
    · exact h
    · split
      · exact h
      · exact nodup_clo f N n (j + 1) _ (nodup_scan h _)
theorem cnt {f : Nat → Nat → Bool} {N : List No} {I : List Nat} (hn : I.Nodup) (hl : Low (laidO f N) I) : 2 * I.length ≤ (wordsO (laidO f N)).length := by
  have hg : Good (laidO f N) (I.map (pl (laidO f N))) := by
    refine ⟨?_, fun a ha => ?_⟩
    · rw [List.Nodup, List.pairwise_map]
      refine List.Pairwise.imp_of_mem ?_ hn
      intro a b ha hb hab e
      exact hab (pl_inj (Nat.le_of_lt (hl a ha)) (Nat.le_of_lt (hl b hb)) e)
    · rw [List.mem_map] at ha
      obtain ⟨b, hb, rfl⟩ := ha
      exact pl_has _ _ (hl b hb)
  have h1 := len_total (laidO f N) (I.map (pl (laidO f N)))
  have h2 := hg.total
  rw [List.length_map] at h1
  omega
theorem root_low {os : List Ob} {R : List Int} (hR : ∀ r ∈ R, r < (os.length : Int)) : ∀ n, n ≤ R.length → Low os (rootI R n)
  | 0, _ => fun b hb => by simp [rootI] at hb
  | n + 1, hn => by
    have hr : R.getD n 0 < (os.length : Int) := hR _ (by rw [List.getD, List.getElem?_eq_getElem (by omega)]; exact List.getElem_mem (by omega))
    rw [rootI]
    split
    · exact (root_low hR n (by omega)).add (by omega)
    · exact root_low hR n (by omega)
theorem root_once (R : List Int) (j : Nat) : onceL (ints (rootI R j)) (R.getD j 0) = ints (rootI R (j + 1)) := by
  rw [rootI]
  by_cases h : 0 ≤ R.getD j 0
  · rw [if_pos h]
    have := once_add (rootI R j) (R.getD j 0).toNat
    rw [show (((R.getD j 0).toNat : Nat) : Int) = R.getD j 0 by omega] at this
    exact this
  · rw [if_neg h]
    exact once_neg _ _ (by omega)
theorem scan_once (g : Nat → Bool) (ws : List Nat) (I : List Nat) (t x : Nat) (hx : ws[t]? = some x) : ints (scanI g ws I (t + 1)) = if g t = true then onceL (ints (scanI g ws I t)) ((x : Int) - 1) else ints (scanI g ws I t) := by
  have hg : ws.getD t 0 = x := by simp [List.getD, hx]
  rw [scanI, hg]
  by_cases h : g t = true
  · rw [if_pos h]
    by_cases h0 : 0 < x
    · rw [if_pos ⟨h, h0⟩]
      have := once_add (scanI g ws I t) (x - 1)
      rw [show ((x - 1 : Nat) : Int) = (x : Int) - 1 by omega] at this
      exact this.symm
    · rw [if_neg (fun e => h0 e.2)]
      exact (once_neg _ _ (by omega)).symm
  · rw [if_neg h, if_neg (fun e => h e.1)]
theorem once_ints (B : Nat) (w : World) (v : Value) (I J : List Nat) (x : Int) (h : w.ownsRow B 3 1 v I.length ((ints I).map (Value.int .i64))) (hB : B ≤ w.heap.size) (hl : I.length ≤ 1000) (hJ : onceL (ints I) x = ints J) : Calls Try.prog 32 #[v, .int .i64 x] w fun e w' => ∃ v', e = .returned v' ∧ w'.ownsRow B 3 1 v' J.length ((ints J).map (Value.int .i64)) ∧ Off (fun k => v.ownBlock = some k) w w' := by
  have := once_any B w v (ints I) x (by rw [ints_len]; exact h) hB (by rw [ints_len]; exact hl)
  rw [hJ, ints_len] at this
  exact this
set_option maxHeartbeats 8000000 in
theorem order_any (w : World) (a : Option Addr) (nn c : Nat) (N : List No) (hN : NOk N) (h5 : ∀ o ∈ N, o.ws.length ≤ 5) (hl : N.length ≤ 20) (h : Sl obE 2 w (.slice a nn c) (N.map toV)) (ra : Option Addr) (m rc : Nat) (R : List Int) (hr : Reads .i64 w ra m rc R) (hR : ∀ r ∈ R, r < (N.length : Int)) (hm : m ≤ 1000) :
    Calls Try.prog 16 #[.slice a nn c, .slice ra m rc] w fun e w' => ∃ v', e = .returned v' ∧ w'.ownsRow w.heap.size 3 1 v' (liveI refsB N R).length ((ints (liveI refsB N R)).map (Value.int .i64)) ∧ Below w.heap.size w w' := by
  have hnl := (sl_len h).1
  rw [List.length_map] at hnl
  subst hnl
  have HL : Hid (Sl obE 2 w (.slice a N.length c) (N.map toV)) := h
  have HRD : Hid (Reads .i64 w ra m rc R) := hr
  have hrl := hr.len
  have hF : (wordsO (laidO refsB N)).length ≤ 140 := by
    rw [← pl_all, laid_len, pl_laid]
    have := plN_le N h5 N.length
    omega
  have hLn : (laidO refsB N).length = N.length := laid_len _ _
  have HRL : Hid (∀ n, n ≤ R.length → Low (laidO refsB N) (rootI R n)) := fun n hn => root_low (by rw [hLn]; exact hR) n hn
  obtain ⟨F, hFe⟩ : ∃ F, F = (wordsO (laidO refsB N)).length := ⟨_, rfl⟩
  have HLV : Hid (liveI refsB N R = cloI refsB N F 0 (rootI R R.length)) := by rw [hFe]; rfl
  have HFE : Hid _ := hFe
  rw [← hFe] at hF
  clear h hr hFe
  go_enter Try.func16, Try.ntmps16
  go_wp2_with fail
  go_loopw [5, 6] (fun ov i wr => ∃ (j : Nat), i = .int .i64 j ∧ j ≤ m ∧ Hid (wr.ownsRow w.heap.size 3 1 ov (rootI R j).length ((ints (rootI R j)).map (Value.int .i64))) ∧ Below w.heap.size w wr) (fun _ i _ => m - (intOf i).toNat)
  case atStart => exact ⟨0, rfl, by omega, World.ownsRow_nil _ _ _ _, Below.refl _ _⟩
  case round =>
    obtain ⟨j, rfl, hj, HO, bw⟩ := hrel
    by_cases hlj : j < m
    · have d1 : decide ((j : Int) < (m : Int)) = true := by simp; omega
      have d2 : decide (j < m) = true := by simp; omega
      obtain ⟨b1, o1, e1, h1⟩ := (HRD.out.later bw).cells (by omega)
      subst e1
      have z1 := h1 j hlj
      have hrt := root_once R j
      have hlen : (rootI R j).length ≤ 1000 := by
        have := cnt (f := refsB) (nodup_root R j) (HRL.out j (by omega))
        rw [← HFE.out] at this
        omega
      have HON := once_ints w.heap.size wr u5 (rootI R j) (rootI R (j + 1)) (R.getD j 0) HO.out bw.size hlen hrt
      have HOB : Hid (∀ k, (u5 : Value).ownBlock = some k → w.heap.size ≤ k) := fun k e => (World.ownsRow.lt HO.out k e).1
      obtain ⟨sa, sc, hsv⟩ := own_sl HO.out
      subst hsv
      clear h1 hrt hlen HO
      generalize R.getD j 0 = x at *
      have HONh : Hid (Calls Try.prog 32 #[.slice sa (rootI R j).length sc, .int .i64 x] wr fun e w' => ∃ v', e = .returned v' ∧ w'.ownsRow w.heap.size 3 1 v' (rootI R (j + 1)).length ((ints (rootI R (j + 1))).map (Value.int .i64)) ∧ Off (fun k => (Value.slice sa (rootI R j).length sc).ownBlock = some k) wr w') := HON
      clear HON
      go_wp2_with fail
      refine HONh.out.mono ?_
      rintro e w2 ⟨v2, rfl, own2, o2⟩
      have HN2 : Hid _ := own2
      have b2 := bw.trans (o2.to (B := w.heap.size) (fun k e => HOB.out k e) bw.size)
      obtain ⟨sa2, sc2, hsv2⟩ := own_sl own2
      subst hsv2
      clear own2 o2 HONh
      go_wp2_with fail
      go_roundw
      case rel =>
        first
        | exact ⟨j + 1, by go_num, by omega, HN2, b2⟩
        | ((repeat apply Exists.intro); exact ⟨⟨j + 1, by go_num, by omega, HN2, b2⟩, rfl⟩)
      case measure => simp [intOf]; omega
    · have ej : j = m := by omega
      subst ej
      have d1 : decide ((j : Int) < (j : Int)) = false := by simp
      have d2 : decide (j < j) = false := by simp
      have HO0 : Hid (wr.ownsRow w.heap.size 3 1 u5 (rootI R R.length).length ((ints (rootI R R.length)).map (Value.int .i64))) := by
        have := HO.out
        rw [← hrl] at this
        exact this
      have HLW0 : Hid (Low (laidO refsB N) (rootI R R.length)) := HRL.out _ (Nat.le_refl _)
      have HND0 : Hid ((rootI R R.length).Nodup) := nodup_root R _
      generalize rootI R R.length = I0 at *
      clear HO
      obtain ⟨sa, sc, hsv⟩ := own_sl HO0.out
      subst hsv
      go_wp2_with fail
      clear d1 d2
      go_loopw [5, 7] (fun ov i wr => ∃ (j : Nat) (I : List Nat), i = .int .i64 j ∧ j ≤ I.length ∧ Hid (I.Nodup) ∧ Hid (Low (laidO refsB N) I) ∧ Hid (cloI refsB N (F - j) j I = liveI refsB N R) ∧ Hid (wr.ownsRow w.heap.size 3 1 ov I.length ((ints I).map (Value.int .i64))) ∧ Below w.heap.size w wr) (fun _ i _ => F - (intOf i).toNat)
      case atStart => exact ⟨0, I0, rfl, by omega, HND0, HLW0, HLV.out.symm, HO0, bw⟩
      case round =>
        clear HO0 HND0 HLW0 bw
        obtain ⟨j, I, rfl, hj, HND, HLW, HCL, HO, bw⟩ := hrel
        have hcn := cnt (f := refsB) HND.out HLW.out
        rw [← HFE.out] at hcn
        by_cases hlj : j < I.length
        · obtain ⟨b, hIb⟩ : ∃ b, I[j]? = some b := ⟨_, List.getElem?_eq_getElem hlj⟩
          have hbN : b < N.length := by have := HLW.out b (List.mem_of_getElem? hIb); rwa [hLn] at this
          obtain ⟨o, hNo⟩ : ∃ o, N[b]? = some o := ⟨_, List.getElem?_eq_getElem hbN⟩
          have ho := List.mem_of_getElem? hNo
          have hw5 := h5 _ ho
          have hcl : cloI refsB N (F - (j + 1)) (j + 1) (scanI (refsB o.k) o.ws I o.ws.length) = liveI refsB N R := by
            have := HCL.out
            rw [show F - j = (F - (j + 1)) + 1 by omega, clo_next hIb hNo] at this
            exact this
          have hlw : ∀ t, t ≤ o.ws.length → Low (laidO refsB N) (scanI (refsB o.k) o.ws I t) := fun t ht => scan_low HLW.out (fun x hx => by rw [hLn]; exact hN.w _ ho x hx) t ht
          have hnd : ∀ t, (scanI (refsB o.k) o.ws I t).Nodup := fun t => nodup_scan HND.out t
          have hst : j + 1 ≤ (scanI (refsB o.k) o.ws I o.ws.length).length := by
            have : ∀ t, I.length ≤ (scanI (refsB o.k) o.ws I t).length := by
              intro t
              induction t with
              | zero => exact Nat.le_refl _
              | succ t ih =>
                rw [scanI]
                split
                · unfold addI
                  split
                  · exact ih
                  · rw [List.length_append]; omega
                · exact ih
            have := this o.ws.length
            omega
          have hso := fun t x hx => scan_once (refsB o.k) o.ws I t x hx
          obtain ⟨K, ws⟩ := o
          dsimp only at hw5 hcl hlw hnd hst hso
          have HCL1 : Hid _ := hcl
          have HLW1 : Hid _ := hlw
          have HND1 : Hid _ := hnd
          have HST1 : Hid _ := hst
          have HSO : Hid _ := hso
          have HXB : Hid (∀ x ∈ ws, x ≤ N.length) := hN.w _ ho
          obtain ⟨b1, off, aw, cw, ha, z0w, z1w, hxx⟩ := obs_at' (show Sl obE 2 w (.slice a N.length c) (N.map toV) from HL.out) b K ws hNo
          subst ha
          have z0 := cellOn z0w bw
          have z1 := cellOn z1w bw
          have HWC : Hid (∀ (t x : Nat), ws[t]? = some x → ∃ bw offw, aw = some ⟨bw, offw, none⟩ ∧ w.cell? ⟨bw, offw + t, none⟩ = some (.int .i64 (x : Int))) := hxx
          clear z0w z1w
          obtain ⟨sa, sc, hsv⟩ := own_sl HO.out
          subst hsv
          obtain ⟨g, cap, e6, hgB, hgl, hgc1, hgc2⟩ := own_some HO.out (by omega)
          simp only [Value.slice.injEq, true_and] at e6
          obtain ⟨rfl, rfl⟩ := e6
          have y0 := own_cell HO.out j (.int .i64 (b : Int)) (by rw [List.getElem?_map, ints_at I j b hIb]; rfl)
          have d1 : decide ((j : Int) < (I.length : Int)) = true := by rw [decide_eq_true_eq]; omega
          have d2 : decide (j < I.length) = true := by rw [decide_eq_true_eq]; omega
          have d3 : decide ((b : Int) < (N.length : Int)) = true := by rw [decide_eq_true_eq]; omega
          have d4 : decide (b < N.length) = true := by rw [decide_eq_true_eq]; omega
          have HOB : Hid (wr.ownsRow w.heap.size 3 1 (.slice (some ⟨g, 0, none⟩) (scanI (refsB K) ws I 0).length sc) (scanI (refsB K) ws I 0).length ((ints (scanI (refsB K) ws I 0)).map (Value.int .i64))) := HO.out
          have ka := alloc1 wr (.cells #[.int .i64 (K : Int), .slice aw ws.length cw] 36)
          have HB0 : Hid ((wr.alloc (.cells #[.int .i64 (K : Int), .slice aw ws.length cw] 36)).heap[wr.heap.size]? = some (.cells #[.int .i64 (K : Int), .slice aw ws.length cw] 36 (0, 0))) := blk_new wr _ _
          have HO2 : Hid ((wr.alloc (.cells #[.int .i64 (K : Int), .slice aw ws.length cw] 36)).ownsRow w.heap.size 3 1 (.slice (some ⟨g, 0, none⟩) (scanI (refsB K) ws I 0).length sc) (scanI (refsB K) ws I 0).length ((ints (scanI (refsB K) ws I 0)).map (Value.int .i64))) := own_later (show World.ownsRow _ _ _ _ _ _ _ from HOB.out) ka
          have bw2 := bw.trans (ka.mono bw.size)
          have hbx : w.heap.size ≤ wr.heap.size := bw.size
          obtain ⟨wo, hwo⟩ : ∃ x, x = wr := ⟨_, rfl⟩
          subst hwo
          clear hcl hlw hnd hst hso hxx HOB HND HLW HCL HO ho hNo hIb
          have hsc0 : scanI (refsB K) ws I 0 = I := rfl
          rw [hsc0] at HO2
          clear hsc0
          go_upto_region 10 with fail
          generalize wo.alloc (.cells #[.int .i64 (K : Int), .slice aw ws.length cw] 36) = wb at *
          clear y0 d1 d2 d3 d4 z0 z1
          go_wp2_with fail
          go_loopw [5, 9] (fun ov kk wr => ∃ (t : Nat), kk = .int .i64 t ∧ t ≤ ws.length ∧ Hid (wr.heap[wo.heap.size]? = some (.cells #[.int .i64 (K : Int), .slice aw ws.length cw] 36 (0, 0))) ∧ Hid (wr.ownsRow w.heap.size 3 1 ov (scanI (refsB K) ws I t).length ((ints (scanI (refsB K) ws I t)).map (Value.int .i64))) ∧ Below w.heap.size w wr) (fun _ kk _ => 5 - (intOf kk).toNat)
          case atStart => exact ⟨0, rfl, by omega, HB0, HO2, bw2⟩
          case round =>
            clear HB0 HO2 bw2
            obtain ⟨t, rfl, ht, HB, HO, bq⟩ := hrel
            have x0 := blk_cell HB.out 0
            have x1 := blk_cell HB.out 1
            simp only [List.getElem?_toArray, List.getElem?_cons_zero, List.getElem?_cons_succ] at x0 x1
            obtain ⟨sa, sc, hsv⟩ := own_sl HO.out
            subst hsv
            by_cases hlt : t < ws.length
            · have hlen : (scanI (refsB K) ws I t).length ≤ 1000 := by
                have := cnt (f := refsB) (HND1.out t) (HLW1.out t ht)
                rw [← HFE.out] at this
                omega
              obtain ⟨x, hxt⟩ : ∃ x, ws[t]? = some x := ⟨_, List.getElem?_eq_getElem hlt⟩
              obtain ⟨bw', offw, haw, z2⟩ := HWC.out t x hxt
              subst haw
              have z2 := cellOn z2 bq
              have hso := HSO.out t x hxt
              have hrf := refs_any K t wr
              have hx20 : x ≤ 1000000 := by
                have h1 := HXB.out x (List.mem_of_getElem? hxt)
                omega
              have HJ : Hid (t < ws.length) := hlt
              have d1 : decide ((t : Int) < (ws.length : Int)) = true := by rw [decide_eq_true_eq]; omega
              have d2 : decide (t < ws.length) = true := by rw [decide_eq_true_eq]; omega
              cases hq : refsB K t
              · rw [hq] at hrf
                rw [if_neg (by rw [hq]; decide)] at hso
                have hil := congrArg List.length hso
                rw [ints_len, ints_len] at hil
                have HNO : Hid (wr.ownsRow w.heap.size 3 1 (.slice sa (scanI (refsB K) ws I t).length sc) (scanI (refsB K) ws I (t + 1)).length ((ints (scanI (refsB K) ws I (t + 1))).map (Value.int .i64))) := by
                  show World.ownsRow _ _ _ _ _ _ _
                  rw [hso, hil]
                  exact HO.out
                clear hso hil hlen HO
                go_wp2_with fail
                refine hrf.mono ?_
                rintro e w' ⟨rfl, hw⟩
                have hw := hw.symm
                subst hw
                go_wp2_with fail
                go_roundw
                case rel =>
                  first
                  | exact ⟨t + 1, by go_num, HJ.out, HB, HNO, bq⟩
                  | ((repeat apply Exists.intro); exact ⟨⟨t + 1, by go_num, HJ.out, HB, HNO, bq⟩, rfl⟩)
                case measure => have := HJ.out; simp [intOf]; omega
              · rw [hq] at hrf
                rw [if_pos hq] at hso
                have HON := once_ints w.heap.size wr (.slice sa (scanI (refsB K) ws I t).length sc) (scanI (refsB K) ws I t) (scanI (refsB K) ws I (t + 1)) ((x : Int) - 1) HO.out bq.size hlen hso.symm
                have hne := own_ne_blk HO.out HB.out (by decide)
                have HNE : Hid (¬ (Value.slice sa (scanI (refsB K) ws I t).length sc).ownBlock = some wo.heap.size) := fun e => hne e.symm
                have HOB : Hid (∀ k, (Value.slice sa (scanI (refsB K) ws I t).length sc).ownBlock = some k → w.heap.size ≤ k) := fun k e => (World.ownsRow.lt HO.out k e).1
                have HONh : Hid (Calls Try.prog 32 #[.slice sa (scanI (refsB K) ws I t).length sc, .int .i64 ((x : Int) - 1)] wr fun e w' => ∃ v', e = .returned v' ∧ w'.ownsRow w.heap.size 3 1 v' (scanI (refsB K) ws I (t + 1)).length ((ints (scanI (refsB K) ws I (t + 1))).map (Value.int .i64)) ∧ Off (fun k => (Value.slice sa (scanI (refsB K) ws I t).length sc).ownBlock = some k) wr w') := HON
                clear hso hlen HO HON hne
                go_wp2_with fail
                refine hrf.mono ?_
                rintro e w' ⟨rfl, hw⟩
                have hw := hw.symm
                subst hw
                go_wp2_with fail
                refine HONh.out.mono ?_
                rintro e w4 ⟨v4, rfl, own4, o4⟩
                have HN4 : Hid _ := own4
                have HB4 : Hid _ := blk_off (show wr.heap[wo.heap.size]? = some _ from HB.out) o4 HNE.out
                have b4 := bq.trans (o4.to (B := w.heap.size) (fun k e => HOB.out k e) bq.size)
                obtain ⟨sa4, sc4, hsv4⟩ := own_sl own4
                subst hsv4
                clear own4 o4 HONh
                go_wp2_with fail
                go_roundw
                case rel =>
                  first
                  | exact ⟨t + 1, by go_num, HJ.out, HB4, HN4, b4⟩
                  | ((repeat apply Exists.intro); exact ⟨⟨t + 1, by go_num, HJ.out, HB4, HN4, b4⟩, rfl⟩)
                case measure => have := HJ.out; simp [intOf]; omega
            · have et : t = ws.length := by omega
              subst et
              have d1 : decide ((ws.length : Int) < (ws.length : Int)) = false := by simp
              have d2 : decide (ws.length < ws.length) = false := by simp
              have HNDx : Hid _ := HND1.out ws.length
              have HLWx : Hid _ := HLW1.out ws.length (Nat.le_refl _)
              go_wp2_with fail
              go_roundw
              case rel =>
                first
                | exact ⟨j + 1, _, by go_num, HST1.out, HNDx, HLWx, HCL1, HO, bq⟩
                | ((repeat apply Exists.intro); exact ⟨⟨j + 1, _, by go_num, HST1.out, HNDx, HLWx, HCL1, HO, bq⟩, rfl⟩)
              case measure => simp [intOf]; omega
        · have ej : j = I.length := by omega
          have hfin : liveI refsB N R = I := by rw [← HCL.out, clo_end (by omega)]
          have d1 : decide ((j : Int) < (I.length : Int)) = false := by rw [decide_eq_false_iff_not]; omega
          have d2 : decide (j < I.length) = false := by rw [decide_eq_false_iff_not]; omega
          have HRES : Hid (∃ v', u5 = v' ∧ wr.ownsRow w.heap.size 3 1 v' (liveI refsB N R).length ((ints (liveI refsB N R)).map (Value.int .i64)) ∧ Below w.heap.size w wr) := by
            refine ⟨_, rfl, ?_, bw⟩
            rw [hfin]
            exact HO.out
          obtain ⟨sa, sc, hsv⟩ := own_sl HO.out
          subst hsv
          clear HO hfin ej
          go_wp2_with fail
          go_ret
          obtain ⟨v', rfl, h2, h3⟩ := HRES.out
          exact ⟨_, rfl, h2, h3⟩
end Coll
end Go.Proofs.Ytogohjnpgdiddaa
