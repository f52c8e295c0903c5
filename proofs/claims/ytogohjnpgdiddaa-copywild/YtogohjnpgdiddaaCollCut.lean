/- The laws' own 'cut': objects that are not too many, in new memory. -/
import Derived.Test.YtogohjnpgdiddaaCollObs
import Derived.Test.YtogohjnpgdiddaaCollSays
import Derived.Deep.RegionWith
import Derived.Deep.DeepCutAuto
import Derived.Deep.AppendLies
import Derived.Deep.RegionHeldLaw
namespace Go.Proofs.Ytogohjnpgdiddaa
namespace Coll
open Mem Heap
open Go.RowKit
set_option linter.unusedVariables false
set_option linter.unusedSimpArgs false
set_option maxRecDepth 100000

theorem own_cap {w : World} {base e size n : Nat} {v : Value} {xs : List Value} (h : w.ownsRow base e size v n xs) : ∃ a c, v = .slice a n c ∧ c ≤ maxLen ∧ (a = none → c = 0) := by
  rcases h.2 with ⟨rfl, h0, _⟩ | ⟨g, cap, cur, rfl, _, _, h3⟩
  · first | exact ⟨none, 0, by rw [h0], Nat.zero_le _, fun _ => rfl⟩ | exact ⟨none, 0, rfl, Nat.zero_le _, fun _ => rfl⟩
  · exact ⟨_, _, rfl, by first | exact h3.2.1 | exact h3.2.2.1 | exact h3.1 | omega, fun e => by cases e⟩
def nums (ws : List Nat) : List Value := ws.map fun (x : Nat) => Value.int .i64 (x : Int)
def obCells (P : List (No × Value)) : List Value := P.flatMap fun p => [.int .i64 (p.1.k : Int), p.2]
/-- An owned row of objects; their words lie in rows of their own. -/
structure OwnObs (B : Nat) (w : World) (v : Value) (P : List (No × Value)) : Prop where
  row : w.ownsRow B 36 2 v P.length (obCells P)
  ws : ∀ p ∈ P, w.ownsRow B 3 1 p.2 p.1.ws.length (nums p.1.ws)
theorem OwnObs.later {B : Nat} {w w' : World} {v : Value} {P : List (No × Value)} (h : OwnObs B w v P) (hb : Below w.heap.size w w') : OwnObs B w' v P :=
  ⟨own_later h.row hb, fun p hp => own_later (h.ws p hp) hb⟩
theorem OwnObs.nil (B : Nat) (w : World) : OwnObs B w (.slice none 0 0) [] := ⟨World.ownsRow_nil _ _ _ _, fun p hp => by simp at hp⟩
theorem obCells_at (P : List (No × Value)) : ∀ i (hi : i < P.length), (obCells P)[i * 2]? = some (.int .i64 (P[i].1.k : Int)) ∧ (obCells P)[i * 2 + 1]? = some P[i].2 := by
  induction P with
  | nil => intro i hi; simp at hi
  | cons p r ih =>
    intro i hi
    cases i with
    | zero => exact ⟨rfl, rfl⟩
    | succ i =>
      obtain ⟨h1, h2⟩ := ih i (by simpa using hi)
      have e : obCells (p :: r) = [.int .i64 (p.1.k : Int), p.2] ++ obCells r := by simp [obCells]
      rw [e, show (i + 1) * 2 = i * 2 + 1 + 1 by omega, show i * 2 + 1 + 1 + 1 = (i * 2 + 1) + 1 + 1 by omega]
      exact ⟨h1, h2⟩
theorem nums_map (ws : List Nat) : nums ws = (ws.map fun (x : Nat) => (x : Int)).map (Value.int .i64) := by simp [nums]
theorem OwnObs.sl {B : Nat} {w : World} {v : Value} {P : List (No × Value)} (h : OwnObs B w v P) (hk : ∀ p ∈ P, p.1.k ≤ 1000000) (hw : ∀ p ∈ P, ∀ x ∈ p.1.ws, x ≤ 1000000) : Sl obE 2 w v (P.map fun p => toV p.1) := by
  obtain ⟨h1, h2⟩ := h
  cases hP : P with
  | nil =>
    subst hP
    obtain ⟨a, c, rfl, hc1, hc2⟩ := own_cap h1
    exact ⟨a, c, rfl, by simp, hc1, hc2, fun h => by simp at h⟩
  | cons p r =>
    rw [← hP]
    have h0 : 0 < P.length := by rw [hP]; simp
    obtain ⟨g, cap, rfl, _, hg, hc1, hc2⟩ := own_some h1 h0
    refine ⟨some ⟨g, 0, none⟩, cap, by rw [List.length_map], by rw [List.length_map]; exact hc1, hc2, (fun e => by cases e), fun _ => ⟨g, 0, rfl, hg, fun i hi => ?_⟩⟩
    have hi' : i < P.length := by simpa using hi
    obtain ⟨c1, c2⟩ := obCells_at P i hi'
    have hm : P[i] ∈ P := List.getElem_mem hi'
    have y1 := h1.cells (g := g) rfl _ _ c1
    have y2 := h1.cells (g := g) rfl _ _ c2
    rw [Addr.add_lit, Nat.zero_add] at y1 y2
    have hk1 := hk _ hm
    simp only [List.getElem_map, Nat.zero_add]
    refine ⟨y1, ⟨by simp only [toV]; omega, by simp only [toV]; omega⟩, P[i].2, y2, ?_⟩
    have hw1 := h2 _ hm
    rw [nums_map] at hw1
    have := own_ints (xs := P[i].1.ws.map fun (x : Nat) => (x : Int)) (by rw [List.length_map]; exact hw1) (fun x hx => by
      rw [List.mem_map] at hx
      obtain ⟨y, hy, rfl⟩ := hx
      have := hw _ hm y hy
      omega)
    exact this
theorem infoO : (Try.prog.info? 36).map (fun i => (i.zero, i.size, i.bytes)) = some (some (.agg #[.int .i64 0, .slice none 0 0]), 2, 32) := by kernel_rfl
theorem one_nums (ws : List Nat) : ∀ u ∈ nums ws, u.oneCell' = true := by
  intro u hu
  rw [nums_map] at hu
  exact one_ints .i64 _ u hu
theorem nums_len (ws : List Nat) : (nums ws).length = ws.length := by simp [nums]
/-- The objects so far, with their words' slices. -/
def Cut (B : Nat) (w : World) (v : Value) (N : List No) : Prop := ∃ P, OwnObs B w v P ∧ P.map Prod.fst = N
theorem take_snoc {α : Type} (l : List α) (k : Nat) (hk : k < l.length) : l.take (k + 1) = l.take k ++ [l[k]] := by
  rw [List.take_add_one, List.getElem?_eq_getElem hk]
  rfl
/-- An object's copy so far: in block bx, from B1 on. -/
def One (B1 : Nat) (w : World) (bx : Nat) (k : Nat) (ws : List Nat) : Prop := ∃ v1, w.heap[bx]? = some (.cells #[.int .i64 (k : Int), v1] 36 (0, 0)) ∧ w.ownsRow B1 3 1 v1 ws.length (nums ws)
theorem one_step {B1 : Nat} {wq w7 : World} {bx K t g' cap' m : Nat} {a1 : Option Addr} {c1 : Nat} {xs : List Nat} (B4 : wq.heap[bx]? = some (.cells #[.int .i64 (K : Int), .slice a1 t c1] 36 (0, 0))) (R4 : wq.ownsRow B1 3 1 (.slice a1 t c1) t (nums xs)) (hx : xs.length = t)
    (g7 : wq.grownBy w7 (Value.slice a1 t c1).ownBlock) (own7 : w7.ownsRow B1 3 1 (.slice (some ⟨g', 0, none⟩) (t + 1) cap') (t + 1) (nums xs ++ [.int .i64 (m : Int)])) :
    One B1 (w7.setCell ⟨bx, 1, none⟩ (.slice (some ⟨g', 0, none⟩) (t + 1) cap')) bx K (xs ++ [m]) := by
  have BPE := blk_grown B4 g7 (own_ne_blk R4 B4 (by decide))
  refine ⟨_, blk_set BPE 1 _, ?_⟩
  have hne := own_ne_blk own7 BPE (by decide)
  have e : nums (xs ++ [m]) = nums xs ++ [.int .i64 (m : Int)] := by simp [nums]
  rw [e, List.length_append, hx]
  exact own_other own7 (a := ⟨bx, 1, none⟩) (fun e => hne e.symm) _
theorem cut_step {B : Nat} {wq w8 : World} {v v8 v1 : Value} {P : List (No × Value)} {K : Nat} {xs : List Nat} (h : OwnObs B wq v P) (hr : wq.ownsRow B 3 1 v1 xs.length (nums xs)) (g8 : wq.grownBy w8 v.ownBlock) (own8 : w8.ownsRow B 36 2 v8 (P.length + 1) (obCells P ++ [.int .i64 (K : Int), v1])) : OwnObs B w8 v8 (P ++ [(⟨K, xs⟩, v1)]) := by
  refine ⟨?_, fun p hp => ?_⟩
  · have e : obCells (P ++ [(⟨K, xs⟩, v1)]) = obCells P ++ [.int .i64 (K : Int), v1] := by simp [obCells]
    rw [e, List.length_append]
    exact own8
  · rcases List.mem_append.1 hp with hp | hp
    · exact World.ownsRow.kept (h.ws p hp) g8 (own_apart (h.ws p hp) h.row (by decide))
    · rw [List.mem_singleton.1 hp]
      exact World.ownsRow.kept hr g8 (own_apart hr h.row (by decide))
set_option maxHeartbeats 8000000 in
theorem cut_any (w : World) (v : Value) (L : List Nv) (h : Sl obE 2 w v L) : Calls Try.prog 10 #[v] w fun e w' => ∃ v', e = .returned v' ∧ Cut w.heap.size w' v' (cutN L) ∧ Below w.heap.size w w' := by
  obtain ⟨iN, hiN, hzN0, hzN1, hzN2⟩ := info_parts infoN
  obtain ⟨iO, hiO, hzO0, hzO1, hzO2⟩ := info_parts infoO
  have HL : Hid (Sl obE 2 w v L) := h
  obtain ⟨a, c, rfl, hc1, hc2, _, _⟩ := h
  have hLm : L.length ≤ maxLen := by omega
  unfold maxLen at hLm
  clear hc1 hc2
  go_enter Try.func10, Try.ntmps10
  go_upto_region 1 with fail
  go_cut [3] (fun v3 wx => v3 = .int .i64 ((min L.length 20 : Nat) : Int) ∧ wx = w)
  case first =>
    by_cases h20 : 20 < L.length
    · have d1 : decide ((20 : Int) < (L.length : Int)) = true := by simp; omega
      have d2 : decide ((L.length : Int) < 20) = false := by simp; omega
      have e0 : min L.length 20 = 20 := by omega
      go_wp2_with fail
      go_meet
      case rel => exact ⟨by rw [e0]; rfl, rfl⟩
    · have d1 : decide ((20 : Int) < (L.length : Int)) = false := by simp; omega
      have e0 : min L.length 20 = L.length := by omega
      go_wp2_with fail
      go_meet
      case rel => exact ⟨by rw [e0], rfl⟩
  case rest =>
    obtain ⟨rfl, hw⟩ := hcut
    have hw := hw.symm
    subst hw
    have hn20 : min L.length 20 ≤ 20 := by omega
    have hnL : min L.length 20 ≤ L.length := by omega
    have HCN : Hid (cutN L = (L.take (min L.length 20)).map (cutO (min L.length 20))) := by
      show _ = _
      unfold cutN
      congr 1
      rw [Nat.min_comm, ← List.take_take, List.take_length]
    generalize hnn : min L.length 20 = n at *
    clear hnn
    go_wp2_with fail
    go_loopw [4, 5] (fun ov i wr => ∃ (j : Nat), i = .int .i64 j ∧ j ≤ n ∧ Hid (Cut w.heap.size wr ov ((L.take j).map (cutO n))) ∧ Below w.heap.size w wr) (fun _ i _ => n - (intOf i).toNat)
    case atStart => exact ⟨0, rfl, by omega, ⟨[], OwnObs.nil _ _, rfl⟩, Below.refl _ _⟩
    case round =>
      obtain ⟨j, rfl, hj, HC, bw⟩ := hrel
      by_cases hlj : j < n
      · have hjL : j < L.length := by omega
        obtain ⟨a', c', e1, _, _, _, hx⟩ := HL.out.later obE_stable bw
        simp only [Value.slice.injEq, true_and] at e1
        obtain ⟨rfl, rfl⟩ := e1
        obtain ⟨b, off, rfl, hbl, hx⟩ := hx (by omega)
        obtain ⟨z0, hkb, vw, z1, hsw⟩ := hx j hjL
        have HO : Hid (cutO n L[j] = cutO n L[j]) := rfl
        have HTK : Hid (L.take (j + 1) = L.take j ++ [L[j]]) := take_snoc L j hjL
        generalize hX : L[j] = X at *
        obtain ⟨k, ws⟩ := X
        dsimp only at z0 hkb z1 hsw
        obtain ⟨aw, cw, rfl, hrw, hwb⟩ := sl_reads hsw
        have d1 : decide ((j : Int) < (n : Int)) = true := by simp; omega
        have d2 : decide (j < n) = true := by simp; omega
        have d3 : decide ((j : Int) < (L.length : Int)) = true := by simp; omega
        have d4 : decide (j < L.length) = true := by simp; omega
        obtain ⟨f1, f2, f3, f4, f5⟩ := mod_facts k 50 (by omega) (by omega) hkb
        have F1 : Hid ((wrap64 (k.tmod 50 + 50)).tmod 50 = (modN k 50 : Int)) := f1
        have HW : Hid _ := hrw
        have HWB : Hid _ := hwb
        have hwm := hrw.max
        have hwc := hrw.cap
        unfold maxLen at hwm
        clear f1 f2 f3 f5 hx hsw hrw hwb hX
        go_upto_region 7 with fail
        rw [F1.out]
        have hone : One wr.heap.size (wr.alloc (.cells #[.int .i64 (modN k 50 : Int), .slice none 0 0] 36)) wr.heap.size (modN k 50) ((ws.take 0).map fun x => modN x (n + 1)) := ⟨_, blk_new wr _ _, World.ownsRow_nil _ _ _ _⟩
        have kb := alloc1 wr (.cells #[.int .i64 (modN k 50 : Int), .slice none 0 0] 36)
        generalize hwb : wr.alloc (.cells #[.int .i64 (modN k 50 : Int), .slice none 0 0] 36) = wb at *
        have HONE0 : Hid _ := hone
        clear hone hwb F1
        generalize hKK : modN k 50 = K at *
        have HKK : Hid _ := hKK
        clear hKK
        obtain ⟨wo, hwo⟩ : ∃ x, x = wr := ⟨_, rfl⟩
        subst hwo
        go_wp2_with fail
        go_loopw [7] (fun kk wr => ∃ (t : Nat), kk = .int .i64 t ∧ t ≤ ws.length ∧ t ≤ 5 ∧ Hid (One wo.heap.size wr wo.heap.size K ((ws.take t).map fun x => modN x (n + 1))) ∧ Below wo.heap.size wo wr) (fun kk _ => 5 - (intOf kk).toNat)
        case atStart => exact ⟨0, rfl, by omega, by omega, HONE0, kb⟩
        case round =>
          clear HONE0 kb
          obtain ⟨t, rfl, ht1, ht2, HON, bo⟩ := hrel
          have y1q := cellOn z1 bo
          by_cases hin : t < ws.length ∧ t < 5
          · obtain ⟨hin1, hin2⟩ := hin
            obtain ⟨_, _, _, _, hcc⟩ := HW.out.later bo
            obtain ⟨bw', offw, haw, hc2⟩ := hcc (by omega)
            subst haw
            have z2 := hc2 t hin1
            have hxb := HWB.out (ws.getD t 0) (by rw [List.getD, List.getElem?_eq_getElem hin1]; exact List.getElem_mem hin1)
            have htk := take_snoc ws t hin1
            have hgd : ws.getD t 0 = ws[t] := by simp [List.getD, hin1]
            rw [← hgd] at htk
            generalize ws.getD t 0 = x at *
            have HTW : Hid ((ws.take (t + 1)).map (fun x => modN x (n + 1)) = (ws.take t).map (fun x => modN x (n + 1)) ++ [modN x (n + 1)]) := by
              show _ = _
              rw [htk, List.map_append]
              rfl
            obtain ⟨f1, f2, f3, f4, f5, f6⟩ := mod_facts x (n + 1) (by omega) (by omega) hxb
            rw [show ((n + 1 : Nat) : Int) = (n : Int) + 1 by omega] at f1 f2 f3 f5 f6
            have e1 : IntKind.i64.wrap ((n : Int) + 1) = (n : Int) + 1 := by rw [IntKind.wrap_i64]; omega
            have e2 : IntKind.i64.wrap (x.tmod ((n : Int) + 1) + (n : Int)) = x.tmod ((n : Int) + 1) + (n : Int) := by rw [IntKind.wrap_i64]; omega
            have e3 : IntKind.i64.wrap (x.tmod ((n : Int) + 1) + (n : Int) + 1) = x.tmod ((n : Int) + 1) + (n : Int) + 1 := by rw [IntKind.wrap_i64]; omega
            have e4 : (x.tmod ((n : Int) + 1) + (n : Int) + 1).tmod ((n : Int) + 1) = (modN x (n + 1) : Int) := by rw [Int.add_assoc]; exact f3
            have e5 : ¬ ((n : Int) + 1 = 0) := by omega
            have e6 : decide ((n : Int) + 1 = 0) = false := by simp; omega
            have e7 : ((n : Int) + 1 == 0) = false := by simp; omega
            obtain ⟨v1, hb1, ho1⟩ := HON.out
            rw [List.length_map, List.length_take, Nat.min_eq_left ht1] at ho1
            obtain ⟨a1, c1, rfl⟩ := own_sl ho1
            have hgm : modN x (n + 1) < n + 1 := f4
            generalize hM : modN x (n + 1) = m at *
            clear f1 f2 f3 f4 f5 f6 hcc hc2 hgd htk hM
            have kq : Below wr.heap.size wr (wr.alloc (.cells #[.int .i64 (m : Int)] 3)) := alloc1 wr _
            have kd : Below wr.heap.size wr (wr.alloc (.cells #[.int .i64 (m : Int)] 3)).drew := kq.trans ((Below.refl _ _).drew.mono kq.size)
            have x1 := blk_cell hb1 1
            have x1a := blk_cell (blk_on hb1 kq) 1
            simp only [List.getElem?_toArray, List.getElem?_cons_zero, List.getElem?_cons_succ] at x1 x1a
            have R4 : Hid ((wr.alloc (.cells #[.int .i64 (m : Int)] 3)).drew.ownsRow wo.heap.size 3 1 (.slice a1 t c1) t (nums ((ws.take t).map fun x => modN x (n + 1)))) := own_later ho1 kd
            have B4 : Hid _ := blk_on hb1 kd
            have d1 : decide ((t : Int) < (ws.length : Int)) = true := by simp; omega
            have d2 : decide (t < ws.length) = true := by simp; omega
            have d3 : decide ((t : Int) < 5) = true := by simp; omega
            have d4 : decide (t < 5) = true := by simp; omega
            clear hb1 ho1
            go_upto_region 10 with fail
            have HNW : Hid (∀ j u, ([.int .i64 (m : Int)] : List Value)[j]? = some u → (wr.alloc (.cells #[.int .i64 (m : Int)] 3)).drew.cell? ((⟨wr.heap.size, 0, none⟩ : Addr).add j) = some u) := news_one wr (.int .i64 (m : Int)) 3
            have HON1 : Hid (∀ u ∈ ([.int .i64 (m : Int)] : List Value), u.oneCell' = true) := by intro u hu; rw [List.mem_singleton.1 hu]; rfl
            have hne := own_ne_blk R4.out B4.out (by decide)
            have hB4 : wo.heap.size ≤ (wr.alloc (.cells #[.int .i64 (m : Int)] 3)).drew.heap.size := Nat.le_trans bo.size kd.size
            have HBS : Hid _ := hB4
            have HNE : Hid _ := hne
            clear hne hB4
            go_region_law (first | (refine step_append_lies _ rfl (.tmp 40) (.tmp 58) 23 rfl wo.heap.size 3 iN (.int .i64 0) 1 8 Try.underlying23 hiN hzN0 hzN1 hzN2 rfl (by decide) (.slice a1 t c1) t (nums ((ws.take t).map fun x => modN x (n + 1))) (by simp [Act.eval, Act.put]) R4.out ⟨wr.heap.size, 0, none⟩ 1 1 [.int .i64 (m : Int)] (by simp [Act.eval, Act.put]) rfl HNW.out HON1.out (by decide) (by unfold maxLen; omega) (by omega) HBS.out _ rfl ?_; intro g' cap' w7 own7 g7 hat7 hlt7; have BPE := blk_grown B4.out g7 HNE.out; have x1 := blk_cell BPE 1; have f1 := blk_free BPE 1; simp only [List.getElem?_toArray, List.getElem?_cons_zero, List.getElem?_cons_succ] at x1))
            all_goals
              have HNO : Hid (One wo.heap.size (w7.setCell ⟨wo.heap.size, 1, none⟩ (.slice (some ⟨g', 0, none⟩) (t + 1) cap')) wo.heap.size K ((ws.take (t + 1)).map fun x => modN x (n + 1))) := by
                show One _ _ _ _ _
                rw [HTW.out]
                exact one_step B4.out R4.out (by rw [List.length_map, List.length_take, Nat.min_eq_left ht1]) g7 own7
              have HNB : Hid (Below wo.heap.size wo (w7.setCell ⟨wo.heap.size, 1, none⟩ (.slice (some ⟨g', 0, none⟩) (t + 1) cap'))) := ((bo.trans (kd.mono bo.size)).grown g7 HBS.out (fun kx e => (World.ownsRow.lt R4.out kx e).1)).setCell (p := ⟨wo.heap.size, 1, none⟩) (Nat.le_refl _) _
              clear own7 g7 hat7 hlt7 BPE x1 f1 y1q z2 e1 e2 e3 e4 e5 e6 e7
              go_wp2_with fail
              go_roundw
              case rel =>
                first
                | exact ⟨t + 1, by go_num, by omega, by omega, HNO, HNB.out⟩
                | ((repeat apply Exists.intro); exact ⟨⟨t + 1, by go_num, by omega, by omega, HNO, HNB.out⟩, rfl⟩)
              case measure => simp [intOf]; omega
          · have HT5 : Hid (ws.take 5 = ws.take t) := by
              show _ = _
              by_cases h5 : t = 5
              · rw [h5]
              · have : ¬ t < ws.length := fun h => hin ⟨h, by omega⟩
                rw [List.take_of_length_le (by omega), List.take_of_length_le (by omega)]
            obtain ⟨v1, hb1, ho1⟩ := HON.out
            rw [List.length_map, List.length_take, Nat.min_eq_left ht1] at ho1
            obtain ⟨a1, c1, rfl⟩ := own_sl ho1
            have x0 := blk_cell hb1 0
            have x1 := blk_cell hb1 1
            simp only [List.getElem?_toArray, List.getElem?_cons_zero, List.getElem?_cons_succ] at x0 x1
            have hlow := bw.size
            have bwo := bw.trans (bo.mono bw.size)
            obtain ⟨P, hP, hPN⟩ := HC.out
            have hP2 := hP.later bo
            obtain ⟨sa, sc, rfl⟩ := own_sl hP.row
            have hPl : P.length = j := by
              have := congrArg List.length hPN
              rw [List.length_map, List.length_map, List.length_take, Nat.min_eq_left (by omega)] at this
              exact this
            have ka := alloc1 wr (.cells #[.int .i64 (K : Int), .slice a1 t c1] 36)
            have HP3 : Hid _ := hP2.later ka
            have hra := own_later (own_low ho1 hlow) ka
            have HRA : Hid _ := hra
            have kk := bwo.trans (ka.mono bwo.size)
            have hB := kk.size
            have HNW : Hid (∀ j u, ([.int .i64 (K : Int), .slice a1 t c1] : List Value)[j]? = some u → (wr.alloc (.cells #[.int .i64 (K : Int), .slice a1 t c1] 36)).cell? ((⟨wr.heap.size, 0, none⟩ : Addr).add j) = some u) := fun j u hu => by
              rw [Addr.add_lit, Nat.zero_add, blk_cell (blk_new wr _ _) j]
              simpa using hu
            have HON1 : Hid (∀ u ∈ ([.int .i64 (K : Int), .slice a1 t c1] : List Value), u.oneCell' = true) := by
              intro u hu
              simp at hu
              rcases hu with rfl | rfl <;> rfl
            have HPN : Hid (P.map Prod.fst = (L.take j).map (cutO n)) := hPN
            have hPl20 : P.length ≤ 20 := by omega
            have HKT : Hid (cutO n ⟨k, ws⟩ = ⟨K, (ws.take t).map fun x => modN x (n + 1)⟩) := by
              show _ = _
              unfold cutO
              rw [HKK.out, HT5.out]
            have hd : (decide ((t : Int) < (ws.length : Int)) = false ∧ decide (t < ws.length) = false) ∨ (decide ((t : Int) < (ws.length : Int)) = true ∧ decide (t < ws.length) = true ∧ decide ((t : Int) < 5) = false ∧ decide (t < 5) = false ∧ ¬ ((t : Int) < 5) ∧ ¬ (t < 5)) := by
              simp only [decide_eq_false_iff_not, decide_eq_true_eq]
              omega
            clear hP hP2 hPN hPl hb1 ho1 hra HON hin
            rcases hd with ⟨d1, d2⟩ | ⟨d1, d2, d3, d4, d5, d6⟩
            all_goals
              go_wp2_with (at_builtin; refine wpList_append_lies _ rfl (.tmp 61) (.tmp 63) 22 rfl w.heap.size 36 iO (.agg #[.int .i64 0, .slice none 0 0]) 2 32 Try.underlying22 hiO hzO0 hzO1 hzO2 rfl (by decide) (.slice sa P.length sc) P.length (obCells P) rfl HP3.out.row ⟨wr.heap.size, 0, none⟩ 1 1 [.int .i64 (K : Int), .slice a1 t c1] rfl rfl HNW.out HON1.out (by decide) (by unfold maxLen; omega) (by omega) hB _ rfl ?_; intro g' cap' w8 own8 g8 hat8 hlt8)
              have kk8 := kk.grown g8 hB (fun kx e => (World.ownsRow.lt HP3.out.row kx e).1)
              have HNC : Hid (Cut w.heap.size w8 (.slice (some ⟨g', 0, none⟩) (P.length + 1) cap') ((L.take (j + 1)).map (cutO n))) := by
                refine ⟨P ++ [(⟨K, (ws.take t).map fun x => modN x (n + 1)⟩, .slice a1 t c1)], cut_step HP3.out ?_ g8 own8, ?_⟩
                · rw [List.length_map, List.length_take, Nat.min_eq_left ht1]
                  exact HRA.out
                · rw [List.map_append, HPN.out, HTK.out, List.map_append]
                  simp only [List.map_cons, List.map_nil, HKT.out]
              go_roundw
              case rel =>
                first
                | exact ⟨j + 1, by go_num, by omega, HNC, kk8⟩
                | ((repeat apply Exists.intro); exact ⟨⟨j + 1, by go_num, by omega, HNC, kk8⟩, rfl⟩)
              case measure => simp [intOf]; omega
      · have ej : j = n := by omega
        subst ej
        have d1 : decide ((j : Int) < (j : Int)) = false := by simp
        have d2 : decide (j < j) = false := by simp
        obtain ⟨P, hP, hPN⟩ := HC.out
        obtain ⟨sa, sc, rfl⟩ := own_sl hP.row
        have HFIN : Hid (Cut w.heap.size wr (.slice sa P.length sc) (cutN L)) := by
          show Cut _ _ _ _
          rw [HCN.out]
          exact HC.out
        clear hP hPN
        go_wp2_with fail
        go_ret
        exact ⟨_, rfl, HFIN.out, bw⟩
end Coll
end Go.Proofs.Ytogohjnpgdiddaa
