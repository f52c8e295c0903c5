/- For all numbers and tasks the law HeapAll answers true: objects are made one behind the other, as long as there is room; each word is its own; no condition on the input. -/
import Derived.Test.YtpjccmcbagoplaaRows
import Derived.Test.YtpjccmcbagoplaaHaOps
import Derived.WalkKit
import Derived.ProofKit
import Derived.OpenShut
import Derived.ShutString
import Derived.ChangeOld
import Derived.Below
namespace Go.Proofs.Ytpjccmcbagoplaa
namespace HeapAll
open Mem Heap Coll
open Go.ChangeShapes Go.WideShapes Go.ChangeAt Go.RowKit
open Go.ChangeMaps (open_string shut_string)
set_option linter.unusedVariables false
set_option linter.unusedSimpArgs false
set_option maxRecDepth 100000

theorem op_cells {w : World} {b off : Nat} {o : OpL} (h : opE w b off o) : w.cell? ⟨b, off, none⟩ = some (.int .i64 o.kd) ∧ w.cell? ⟨b, off + 1, none⟩ = some (.int .i64 o.k) ∧ w.cell? ⟨b, off + 2, none⟩ = some (.int .i64 o.n) ∧ w.cell? ⟨b, off + 3, none⟩ = some (.int .i64 o.at') ∧ w.cell? ⟨b, off + 4, none⟩ = some (.int .i64 o.i) ∧ w.cell? ⟨b, off + 5, none⟩ = some (.int .i32 o.x) :=
  ⟨h.1 0 _ rfl, h.1 1 _ rfl, h.1 2 _ rfl, h.1 3 _ rfl, h.1 4 _ rfl, h.1 5 _ rfl⟩
theorem makeB_iff (C : Nat) (os : List Ob) (k m : Int) : makeB C os k m = true ↔ 0 ≤ k ∧ k ≤ 10000 ∧ 0 ≤ m ∧ m ≤ 1000 ∧ m + 2 ≤ (C : Int) - ((wordsO os).length : Int) := by
  unfold makeB mayB
  simp only [Bool.and_eq_true, decide_eq_true_eq]
  constructor
  · rintro ⟨⟨a, b, c, d⟩, e⟩; exact ⟨a, b, c, d, by omega⟩
  · rintro ⟨a, b, c, d, e⟩; exact ⟨⟨a, b, c, d⟩, by omega⟩
theorem sep_more {lv v8 : Value} {Q : List (Ob × Nat)} {S S' : Nat → Prop} {o : Ob} {g N N' : Nat} (h : Sep lv Q S) (hS : ∀ k, S' k → S k ∨ N ≤ k) (hlv : ∀ k, lv.ownBlock = some k → k < N) (hQ : ∀ (i : Nat) (o : Ob) (g : Nat), Q[i]? = some (o, g) → g < N) (hS' : ∀ k, S' k → k < N') (hg : N' ≤ g) (hN : N ≤ N') (g' : Nat) (hv8 : v8.ownBlock = some g') (hat : lv.ownBlock = some g' ∨ N' ≤ g') : Sep v8 (Q ++ [(o, g)]) S' := by
  refine ⟨fun k e hk => ?_, fun i o' g1 hi hk => ?_, ?_⟩
  · rw [hv8] at e
    cases e
    rcases hat with h1 | h1
    · rcases hS _ hk with h2 | h2
      · exact h.row _ h1 h2
      · have := hlv _ h1
        omega
    · have := hS' _ hk
      omega
  · by_cases hl : i < Q.length
    · rw [List.getElem?_append_left hl] at hi
      rcases hS _ hk with h2 | h2
      · exact h.ns i o' g1 hi h2
      · have := hQ i o' g1 hi
        omega
    · rw [List.getElem?_append_right (by omega)] at hi
      have hz : i - Q.length = 0 := by
        cases hz : i - Q.length with
        | zero => rfl
        | succ m => rw [hz] at hi; simp at hi
      rw [hz] at hi
      simp only [List.getElem?_cons_zero, Option.some.injEq, Prod.mk.injEq] at hi
      obtain ⟨rfl, rfl⟩ := hi
      have := hS' _ hk
      omega
  · rw [List.map_append, List.nodup_append]
    refine ⟨h.nd, by simp, fun a ha b hb => ?_⟩
    have hb' : b = g := by simpa using hb
    subst hb'
    obtain ⟨i, hi⟩ := List.getElem?_of_mem ha
    rw [List.getElem?_map] at hi
    cases hq : Q[i]? with
    | none => rw [hq] at hi; cases hi
    | some y =>
      rw [hq] at hi
      obtain ⟨o1, g1⟩ := y
      have := hQ i o1 g1 hq
      simp at hi
      omega
theorem news_three (w : World) (x y z : Value) (T : Nat) : ∀ j u, ([x, y, z] : List Value)[j]? = some u → (w.alloc (.cells #[x, y, z] T)).cell? ((⟨w.heap.size, 0, none⟩ : Addr).add j) = some u := by
  intro j u h
  have e := blk_cell (blk_new w #[x, y, z] T) j
  rw [Addr.add_lit, Nat.zero_add, e, ← h]
  simp
theorem words_snoc (Q : List (Ob × Nat)) (k m g : Nat) : (wordsO ((Q ++ [(newOb (k : Int) (m : Int), g)]).map Prod.fst)).length = (wordsO (Q.map Prod.fst)).length + (m + 2) := by
  have e0 : (wordsO ([] : List Ob)).length = 0 := rfl
  have e2 : (newOb (k : Int) (m : Int)).v.length = m := by simp [newOb]
  rw [List.map_append, wordsO_append, List.length_append]
  show _ + (wordsO [newOb (k : Int) (m : Int)]).length = _
  rw [wordsO_cons, List.length_append, obW_len, e0, e2]
theorem newOb_eq (k m : Nat) : newOb (k : Int) (m : Int) = ⟨k, List.replicate m 0⟩ := by simp [newOb]
theorem rows_more' {B : Nat} {w w8 : World} {lv v8 : Value} {Q : List (Ob × Nat)} {k m U g : Nat} (hU : (wordsO (Q.map Prod.fst)).length = U) (h : RowsR B w lv Q) (hv : w.ownsRow B 21 1 (.slice (some ⟨g, 0, none⟩) m m) m (List.replicate m (.int .i32 0))) (g8 : w.grownBy w8 lv.ownBlock) (own8 : w8.ownsRow B 33 3 v8 (Q.length + 1) (objCells Q ++ [.int .i64 (U : Int), .int .i64 (k : Int), .slice (some ⟨g, 0, none⟩) m m])) : RowsR B w8 v8 (Q ++ [(newOb (k : Int) (m : Int), g)]) := by
  have e : (List.replicate m (0 : Int)).length = m := List.length_replicate
  rw [newOb_eq]
  refine rows_more (o := ⟨k, List.replicate m 0⟩) h ?_ g8 ?_
  · show w.ownsRow B _ 1 (.slice (some ⟨g, 0, none⟩) (List.replicate m (0 : Int)).length (List.replicate m (0 : Int)).length) (List.replicate m (0 : Int)).length ((List.replicate m (0 : Int)).map (Value.int .i32))
    rw [e, List.map_replicate]
    exact hv
  · show w8.ownsRow B _ 3 v8 (Q.length + 1) (objCells Q ++ [.int .i64 ((wordsO (Q.map Prod.fst)).length : Int), .int .i64 (k : Int), .slice (some ⟨g, 0, none⟩) (List.replicate m (0 : Int)).length (List.replicate m (0 : Int)).length])
    rw [e, hU]
    exact own8
theorem sep_same {lv : Value} {Q : List (Ob × Nat)} {S S' : Nat → Prop} {N : Nat} (h : Sep lv Q S) (hS : ∀ k, S' k → S k ∨ N ≤ k) (hlv : ∀ k, lv.ownBlock = some k → k < N) (hQ : ∀ (i : Nat) (o : Ob) (g : Nat), Q[i]? = some (o, g) → g < N) : Sep lv Q S' := by
  refine ⟨fun k e hk => ?_, fun i o g hi hk => ?_, h.nd⟩
  · rcases hS k hk with h1 | h1
    · exact h.row k e h1
    · have := hlv k e
      omega
  · rcases hS g hk with h1 | h1
    · exact h.ns i o g hi h1
    · have := hQ i o g hi
      omega
theorem sep_set {lv : Value} {Q : List (Ob × Nat)} {S : Nat → Prop} {i j : Nat} {x : Int} {o : Ob} {g : Nat} (h : Sep lv Q S) (hi : Q[i]? = some (o, g)) : Sep lv (setQ Q i j x) S := by
  refine ⟨h.row, fun c o' g' hc => ?_, by rw [(setQ_snd Q i j x o g hi).1]; exact h.nd⟩
  rw [setQ_at Q i j x o g hi c] at hc
  by_cases hci : c = i
  · rw [if_pos hci] at hc
    simp only [Option.some.injEq, Prod.mk.injEq] at hc
    obtain ⟨rfl, rfl⟩ := hc
    exact h.ns i o g hi
  · rw [if_neg hci] at hc
    exact h.ns c o' g' hc
theorem words_set (Q : List (Ob × Nat)) (i j : Nat) (x : Int) (o : Ob) (g : Nat) (hi : Q[i]? = some (o, g)) : (wordsO ((setQ Q i j x).map Prod.fst)).length = (wordsO (Q.map Prod.fst)).length := by
  have hoi : (Q.map Prod.fst)[i]? = some o := by rw [List.getElem?_map, hi]; rfl
  have e := set_pl (Q.map Prod.fst) i j o x hoi (Q.map Prod.fst).length
  unfold pl at e
  rw [(setQ_snd Q i j x o g hi).2.1]
  rw [List.take_of_length_le (by simp), List.take_of_length_le (Nat.le_refl _)] at e
  exact e
theorem mod_range (x : Int) (n : Nat) (hn : 0 < n) (h64 : n ≤ 1000000) (hx : -9223372036854775808 ≤ x ∧ x ≤ 9223372036854775807) : ∃ m : Nat, (wrap64 (x.tmod n + n)).tmod n = (m : Int) ∧ IntKind.i64.wrap (x.tmod n + n) = x.tmod n + n ∧ (x.tmod n + n).tmod n = (m : Int) ∧ m < n := by
  have h1 : -(n : Int) < x.tmod n := by
    have := Int.lt_tmod_of_pos x (show (0 : Int) < n by omega)
    omega
  have h2 : x.tmod n < n := Int.tmod_lt_of_pos x (by omega)
  have hw : wrap64 (x.tmod n + n) = x.tmod n + n := by unfold wrap64; omega
  have h3 : 0 ≤ (x.tmod n + n).tmod n := Int.tmod_nonneg _ (by omega)
  have h4 : (x.tmod n + n).tmod n < n := Int.tmod_lt_of_pos _ (by omega)
  refine ⟨((x.tmod n + n).tmod n).toNat, ?_, ?_, ?_, ?_⟩
  · rw [hw]; omega
  · rw [IntKind.wrap_i64]; omega
  · omega
  · omega
theorem words_ge : ∀ os : List Ob, os.length ≤ (wordsO os).length
  | [] => Nat.le_refl _
  | o :: os => by
    have := words_ge os
    rw [wordsO_cons, List.length_append, obW_len, List.length_cons]
    omega
set_option maxHeartbeats 16000000 in
theorem walk (n : Int) (a : Option Addr) (len cap : Nat) (L : List OpL) (w : World) (h1 : (Lit.int .i64 n).wf = true) (h2 : Sl opE 6 w (.slice a len cap) L) : Calls Try.prog 3 #[.int .i64 n, .slice a len cap] w fun e w' => e = .returned (.bool true) ∧ Below w.heap.size w w' := by
  have hn := bounds_i64 h1
  clear h1
  obtain ⟨iN, hiN, hzN0, hzN1, hzN2⟩ := info_parts infoW
  obtain ⟨iQ, hiQ, hzQ0, hzQ1, hzQ2⟩ := info_parts infoQ
  have hll : len = L.length ∧ len ≤ maxLen := by
    obtain ⟨a', c', e1, h2', h3, _⟩ := h2
    simp only [Value.slice.injEq] at e1
    exact ⟨e1.2.1, by omega⟩
  obtain ⟨hle, hlm⟩ := hll
  subst hle
  unfold maxLen at hlm
  have HL : Hid (Sl opE 6 w (.slice a L.length cap) L) := h2
  clear h2
  go_enter Try.func3, Try.ntmps3
  go_wp2_with fail
  refine (begun_any _).mono ?_
  rintro e w1 ⟨rfl, b1⟩
  go_upto_if 25 with fail
  go_cut [0] (fun v0 wx => ∃ n' : Int, v0 = .int .i64 n' ∧ n' ≤ 3000 ∧ -9223372036854775808 ≤ n' ∧ wx = w1)
  case first =>
    by_cases h3 : 3000 < n
    · have d1 : decide (3000 < n) = true := by rw [decide_eq_true_eq]; exact h3
      go_wp2_with fail
      go_meet
      case rel => exact ⟨3000, rfl, by omega, by omega, rfl⟩
    · have d1 : decide (3000 < n) = false := by rw [decide_eq_false_iff_not]; exact h3
      go_wp2_with fail
      go_meet
      case rel => exact ⟨n, rfl, by omega, by omega, rfl⟩
  case rest =>
    obtain ⟨n', rfl, hn1, hn2, hw⟩ := hcut
    have hw := hw.symm
    subst hw
    have hN := new_any n' w1 (by omega)
    have hCn : (clampN n' : Int) = max n' 0 := by unfold clampN; omega
    have hC3 : clampN n' ≤ 3000 := by unfold clampN; omega
    have HCn : Hid _ := hCn
    clear hCn hn
    apply_assumption
    go_wp2_with fail
    refine hN.mono ?_
    rintro e w2 ⟨rfl, H2, b2⟩
    have b12 := b1.trans (b2.mono b1.size)
    have H2h : Hid (Hp w1.heap.size w2 (fun k => k = w1.heap.size) w1.heap.size (clampN n') []) := H2
    clear H2 hN
    go_upto_region 7 with fail
    go_cut [7] (fun v7 wx => v7 = .int .i64 (clampN n' : Int) ∧ wx = w2)
    case first =>
      by_cases h0 : 0 < n'
      · have e0 : (clampN n' : Int) = n' := by rw [HCn.out]; omega
        have d1 : decide (0 < n') = true := by rw [decide_eq_true_eq]; exact h0
        have d2 : decide (n' < 0) = false := by rw [decide_eq_false_iff_not]; omega
        go_wp2_with fail
        go_meet
        case rel => exact ⟨by rw [e0], rfl⟩
      · have e0 : (clampN n' : Int) = 0 := by rw [HCn.out]; omega
        have d1 : decide (0 < n') = false := by rw [decide_eq_false_iff_not]; exact h0
        go_wp2_with fail
        all_goals go_meet
        all_goals (exact ⟨by first | (rw [e0]; done) | (rw [e0]; congr 1; omega), rfl⟩)
    case rest =>
      obtain ⟨rfl, hw⟩ := hcut
      have hw := hw.symm
      subst hw
      generalize clampN n' = C at *
      clear HCn
      apply_assumption
      go_upto_block 0 with fail
      go_cut [8, 9] (fun lv uv wr => ∃ (Q : List (Ob × Nat)) (S : Nat → Prop), uv = .int .i64 ((wordsO (Q.map Prod.fst)).length : Int) ∧ Q.length ≤ 50 ∧ Hid (Hp w1.heap.size wr S w1.heap.size C (Q.map Prod.fst)) ∧ Hid (RowsR w1.heap.size wr lv Q) ∧ Hid (Below w.heap.size w wr))
      case first =>
        go_wp2_with fail
        go_loopw [8, 9, 10] (fun lv uv iv wr => ∃ (j : Nat) (Q : List (Ob × Nat)) (S : Nat → Prop), iv = .int .i64 j ∧ j ≤ L.length ∧ j ≤ 50 ∧ Q.length ≤ j ∧ uv = .int .i64 ((wordsO (Q.map Prod.fst)).length : Int) ∧ Hid (Hp w1.heap.size wr S w1.heap.size C (Q.map Prod.fst)) ∧ Hid (RowsR w1.heap.size wr lv Q) ∧ Hid (Sep lv Q S) ∧ Hid (Below w.heap.size w wr)) (fun _ _ iv _ => 50 - (intOf iv).toNat)
        case atStart => exact ⟨0, [], _, rfl, by omega, by omega, by simp, rfl, H2h, RowsR.start _ _, Sep.start _, b12⟩
        case round =>
          clear H2h b12 b2
          obtain ⟨j, Q, S, rfl, hj1, hj2, hQl, rfl, HH, HR, HS, HB⟩ := hrel
          have hus := HH.out.used
          by_cases hin : j < L.length ∧ j < 50
          · obtain ⟨hin1, hin2⟩ := hin
            obtain ⟨a', c', e1, _, _, _, hx⟩ := Sl.later opE_stable HL.out HB.out
            simp only [Value.slice.injEq, true_and] at e1
            obtain ⟨rfl, rfl⟩ := e1
            obtain ⟨b, off, hab, hbl, hxo⟩ := hx (by omega)
            subst hab
            have hx := hxo j hin1
            generalize hoo : L[j] = o at *
            clear hoo
            obtain ⟨z0, z1, z2, z3, z4, z5⟩ := op_cells hx
            obtain ⟨okd, okk, okn, oka, oki, okx⟩ := hx.2
            obtain ⟨kd, K, M, A', I, X⟩ := o
            dsimp only at z0 z1 z2 z3 z4 z5 okd okk okn oka oki okx
            have d1 : decide ((j : Int) < (L.length : Int)) = true := by rw [decide_eq_true_eq]; omega
            have d2 : decide (j < L.length) = true := by rw [decide_eq_true_eq]; omega
            have d3 : decide ((j : Int) < 50) = true := by rw [decide_eq_true_eq]; omega
            have d4 : decide (j < 50) = true := by rw [decide_eq_true_eq]; omega
            have ka := alloc1 wr (.cells #[.int .i64 kd, .int .i64 K, .int .i64 M, .int .i64 A', .int .i64 I, .int .i32 X] 28)
            have HBX : Hid ((wr.alloc (.cells #[.int .i64 kd, .int .i64 K, .int .i64 M, .int .i64 A', .int .i64 I, .int .i32 X] 28)).heap[wr.heap.size]? = some (.cells #[.int .i64 kd, .int .i64 K, .int .i64 M, .int .i64 A', .int .i64 I, .int .i32 X] 28 (0, 0))) := blk_new wr _ _
            have HHb : Hid (Hp w1.heap.size (wr.alloc (.cells #[.int .i64 kd, .int .i64 K, .int .i64 M, .int .i64 A', .int .i64 I, .int .i32 X] 28)) S w1.heap.size C (Q.map Prod.fst)) := HH.out.later ka
            have HRb : Hid (RowsR w1.heap.size (wr.alloc (.cells #[.int .i64 kd, .int .i64 K, .int .i64 M, .int .i64 A', .int .i64 I, .int .i32 X] 28)) u8 Q) := RowsR.later HR.out ka
            have HBb : Hid (Below w.heap.size w (wr.alloc (.cells #[.int .i64 kd, .int .i64 K, .int .i64 M, .int .i64 A', .int .i64 I, .int .i32 X] 28))) := HB.out.trans (ka.mono HB.out.size)
            have HSl : Hid (∀ k, S k → k < wr.heap.size) := fun k e => (HH.out.raw.low k e).2
            have HQB : Hid (∀ k, (u8 : Value).ownBlock = some k → k < wr.heap.size) := fun k e => (World.ownsRow.lt HR.out.row k e).2
            have HGB : Hid (∀ (i : Nat) (o : Ob) (g : Nat), Q[i]? = some (o, g) → g < wr.heap.size) := fun i o g hi => (World.ownsRow.lt (HR.out.vs i o g hi) g rfl).2
            have hw1 : Hid (w1.heap.size ≤ wr.heap.size) := Nat.le_of_lt (Nat.lt_of_le_of_lt (HH.out.raw.low _ HH.out.raw.here).1 (HH.out.raw.low _ HH.out.raw.here).2)
            have HWOB : Hid _ := ka.size
            clear ka hx HH HR HB
            obtain ⟨wo, hwo⟩ : ∃ x, x = wr := ⟨_, rfl⟩
            subst hwo
            go_upto_region 14 with fail
            generalize wo.alloc (.cells #[.int .i64 kd, .int .i64 K, .int .i64 M, .int .i64 A', .int .i64 I, .int .i32 X] 28) = wb at *
            have x0 := blk_cell HBX.out 0
            have x1 := blk_cell HBX.out 1
            have x2 := blk_cell HBX.out 2
            have x3 := blk_cell HBX.out 3
            have x4 := blk_cell HBX.out 4
            have x5 := blk_cell HBX.out 5
            simp only [List.getElem?_toArray, List.getElem?_cons_zero, List.getElem?_cons_succ] at x0 x1 x2 x3 x4 x5
            clear z0 z1 z2 z3 z4 z5
            by_cases hkd : kd = 0
            · subst hkd
              by_cases hm : makeB C (Q.map Prod.fst) K M = true
              · as_aux_lemma =>
                  obtain ⟨q1, q2, q3, q4, q5⟩ := (makeB_iff _ _ _ _).1 hm
                  obtain ⟨k, rfl⟩ : ∃ k : Nat, K = (k : Int) := ⟨K.toNat, by omega⟩
                  obtain ⟨m, rfl⟩ : ∃ m : Nat, M = (m : Int) := ⟨M.toNat, by omega⟩
                  have hA : makeA C (Q.map Prod.fst) (k : Int) (m : Int) = ((wordsO (Q.map Prod.fst)).length : Int) := by unfold makeA; rw [hm]; rfl
                  have hSN : makeS C (Q.map Prod.fst) (k : Int) (m : Int) = Q.map Prod.fst ++ [newOb (k : Int) (m : Int)] := by unfold makeS; rw [hm]; rfl
                  have HM : Hid _ := hm
                  have HA : Hid _ := hA
                  have HSN : Hid _ := hSN
                  have hkb : (k : Int) ≤ 10000 := q2
                  have hkb' : k ≤ 10000 := by omega
                  have hmb' : m ≤ 1000 := by omega
                  have f1 : decide ((k : Int) ≤ 10000) = true := by rw [decide_eq_true_eq]; exact q2
                  have f2 : decide (k ≤ 10000) = true := by rw [decide_eq_true_eq]; omega
                  have f3 : decide ((m : Int) ≤ 1000) = true := by rw [decide_eq_true_eq]; exact q4
                  have f4 : decide (m ≤ 1000) = true := by rw [decide_eq_true_eq]; omega
                  have f5 : decide ((0 : Int) ≤ (k : Int)) = true := by rw [decide_eq_true_eq]; exact q1
                  have f6 : decide ((0 : Int) ≤ (m : Int)) = true := by rw [decide_eq_true_eq]; exact q3
                  clear hm hA hSN
                  generalize hU : (wordsO (Q.map Prod.fst)).length = U at *
                  have HU : Hid _ := hU
                  clear hU
                  have g1 : IntKind.i64.wrap ((m : Int) + 2) = (m : Int) + 2 := by rw [IntKind.wrap_i64]; omega
                  have g2 : IntKind.i64.wrap ((C : Int) - (U : Int)) = (C : Int) - (U : Int) := by rw [IntKind.wrap_i64]; omega
                  have g3 : IntKind.i64.wrap ((U : Int) + ((m : Int) + 2)) = (U : Int) + ((m : Int) + 2) := by rw [IntKind.wrap_i64]; omega
                  have g4 : decide ((m : Int) + 2 ≤ (C : Int) - (U : Int)) = true := by rw [decide_eq_true_eq]; omega
                  go_wp2_with fail
                  refine (make_any _ _ _ _ _ _ (k : Int) (m : Int) HHb.out).mono ?_
                  rintro e w3 ⟨rfl, S3, H3, o3, l3⟩
                  rw [HM.out, HA.out]
                  rw [HSN.out] at H3
                  have BP3 : Hid _ := blk_off HBX.out o3 (fun e => Nat.lt_irrefl _ (HSl.out _ e))
                  have R3 : Hid (RowsR w1.heap.size w3 u8 Q) := HRb.out.off o3 HS.out.row HS.out.ns
                  have Bw3 : Hid (Below w.heap.size w w3) := HBb.out.trans (o3.to (B := w.heap.size) (fun k e => Nat.le_trans b1.size (HHb.out.raw.low k e).1) HBb.out.size)
                  have H3h : Hid _ := H3
                  have L3 : Hid _ := l3
                  have hsz3 := o3.size
                  obtain ⟨y0, y1, y2, y3⟩ : w3.cell? ⟨wo.heap.size, 0, none⟩ = some (.int .i64 0) ∧ w3.cell? ⟨wo.heap.size, 1, none⟩ = some (.int .i64 (k : Int)) ∧ w3.cell? ⟨wo.heap.size, 2, none⟩ = some (.int .i64 (m : Int)) ∧ w3.cell? ⟨wo.heap.size, 3, none⟩ = some (.int .i64 A') := ⟨blk_cell BP3.out 0, blk_cell BP3.out 1, blk_cell BP3.out 2, blk_cell BP3.out 3⟩
                  have hS3lt : Hid (∀ kx, S3 kx → kx < w3.heap.size) := fun kx e => (H3h.out.raw.low kx e).2
                  clear o3 H3 l3
                  go_upto_region 20 with fail
                  clear x0 x1 x2 x3 x4 x5 y0 y3
                  obtain ⟨w4, hmk, own4, gr4⟩ := run_make_full (P := Try.prog) w3.drew w1.heap.size 31 21 iN (.int .i32 0) 1 Try.underlying31 hiN hzN0 hzN1 .i64 .i64 m (by rw [hzN2]; omega) (by unfold maxLen; omega) (by show w1.heap.size ≤ w3.heap.size; have := hw1.out; have := HWOB.out; omega)
                  have hmk1 : (Instr.makeSlice 31 (.int .i64 (m : Int)) (.int .i64 (m : Int))).run Try.prog w3.drew = .ok (.slice (some ⟨w3.heap.size, 0, none⟩) m m) w4 := hmk
                  have own4' : w4.ownsRow w1.heap.size 21 1 (.slice (some ⟨w3.heap.size, 0, none⟩) m m) m (List.replicate m (.int .i32 0)) := by
                    have := own4
                    rw [Nat.mul_one] at this
                    rw [show (Value.cells (.int .i32 0)) = #[.int .i32 0] from rfl, toList_madeCells_one] at this
                    exact this
                  clear hmk own4
                  have k34 : Below w3.heap.size w3 w4 := ((Below.refl w3.heap.size w3).drew).grown gr4 (Nat.le_refl _) (fun k e => by cases e)
                  have k35 : Below w3.heap.size w3 (w4.alloc (.cells #[.int .i64 (U : Int), .int .i64 (k : Int), .slice (some ⟨w3.heap.size, 0, none⟩) m m] 33)) := k34.trans ((alloc1 w4 _).mono k34.size)
                  have OWN5 : Hid _ := own_later own4' (alloc1 w4 (.cells #[.int .i64 (U : Int), .int .i64 (k : Int), .slice (some ⟨w3.heap.size, 0, none⟩) m m] 33))
                  have R5 : Hid _ := R3.out.later k35
                  have BP5 : Hid _ := blk_on BP3.out k35
                  have BP4 := blk_on BP3.out k34
                  have a1 := blk_cell BP4 1
                  have a2 := blk_cell BP4 2
                  have c1 := blk_cell BP5.out 1
                  have c2 := blk_cell BP5.out 2
                  simp only [List.getElem?_toArray, List.getElem?_cons_zero, List.getElem?_cons_succ] at a1 a2 c1 c2
                  clear BP4
                  have H5 : Hid _ := H3h.out.later k35
                  have B5 : Hid _ := Bw3.out.trans (k35.mono Bw3.out.size)
                  have HNW : Hid _ := news_three w4 (.int .i64 (U : Int)) (.int .i64 (k : Int)) (.slice (some ⟨w3.heap.size, 0, none⟩) m m) 33
                  have HONE : Hid (∀ u ∈ ([.int .i64 (U : Int), .int .i64 (k : Int), .slice (some ⟨w3.heap.size, 0, none⟩) m m] : List Value), u.oneCell' = true) := by intro u hu; simp only [List.mem_cons, List.not_mem_nil, or_false] at hu; rcases hu with rfl | rfl | rfl <;> rfl
                  obtain ⟨sa, sc, rfl⟩ := own_sl R5.out.row
                  have k35s := k35.size
                  have hbase : w1.heap.size ≤ (w4.alloc (.cells #[.int .i64 (U : Int), .int .i64 (k : Int), .slice (some ⟨w3.heap.size, 0, none⟩) m m] 33)).heap.size := by have := hw1.out; have := HWOB.out; omega
                  have HBS : Hid _ := hbase
                  have HNE : Hid (some wo.heap.size ≠ (Value.slice sa Q.length sc).ownBlock) := fun e => Nat.lt_irrefl _ (HQB.out _ e.symm)
                  clear own4' k34 k35 gr4 hbase
                  go_region_law (first | (refine step_append_lies _ rfl (.tmp 103) (.tmp 111) 26 rfl w1.heap.size 33 iQ _ 3 40 Try.underlying26 hiQ hzQ0 hzQ1 hzQ2 rfl (by decide) (.slice sa Q.length sc) Q.length (objCells Q) (by simp [Act.eval, Act.put]) R5.out.row ⟨w4.heap.size, 0, none⟩ 1 1 [.int .i64 (U : Int), .int .i64 (k : Int), .slice (some ⟨w3.heap.size, 0, none⟩) m m] (by simp [Act.eval, Act.put]) rfl HNW.out HONE.out (by decide) (by unfold maxLen; omega) (by omega) HBS.out _ rfl ?_; intro g' cap' w7 own7 g7 hat7 hlt7; have BP7 := blk_grown BP5.out g7 HNE.out; have y1 := blk_cell BP7 1; have y2 := blk_cell BP7 2; have OWN7 : Hid _ := own7; have G7 : Hid _ := g7; have HAT7 : Hid _ := hat7; clear own7 g7 hat7 BP7; simp only [List.getElem?_toArray, List.getElem?_cons_zero, List.getElem?_cons_succ] at y1 y2))
                  all_goals
                    have HUV : Hid ((wordsO ((Q ++ [(newOb (k : Int) (m : Int), w3.heap.size)]).map Prod.fst)).length = U + (m + 2)) := by
                      show _ = _
                      rw [words_snoc, HU.out]
                    have H7 : Hid (Hp w1.heap.size w7 S3 w1.heap.size C ((Q ++ [(newOb (k : Int) (m : Int), w3.heap.size)]).map Prod.fst)) := by
                      show Hp _ _ _ _ _ _
                      rw [List.map_append]
                      exact H5.out.off (Off.grown (S := fun kx => (Value.slice sa Q.length sc).ownBlock = some kx) G7.out (fun kx e => e)) (fun kx e e' => by
                        rcases L3.out kx e with h | h
                        · exact HS.out.row kx e' h
                        · have := HQB.out kx e'
                          have := HWOB.out
                          omega)
                    have R7 : Hid (RowsR w1.heap.size w7 (.slice (some ⟨g', 0, none⟩) (Q.length + 1) cap') (Q ++ [(newOb (k : Int) (m : Int), w3.heap.size)])) := rows_more' HU.out R5.out OWN5.out G7.out OWN7.out
                    have S7 : Hid (Sep (.slice (some ⟨g', 0, none⟩) (Q.length + 1) cap') (Q ++ [(newOb (k : Int) (m : Int), w3.heap.size)]) S3) := sep_more (N := wb.heap.size) (N' := w3.heap.size) HS.out L3.out (fun k e => Nat.lt_of_lt_of_le (HQB.out k e) HWOB.out) (fun i o g h => Nat.lt_of_lt_of_le (HGB.out i o g h) HWOB.out) hS3lt.out (Nat.le_refl _) hsz3 g' rfl (HAT7.out.imp id (fun h => by rw [h]; exact k35s))
                    have B7 : Hid (Below w.heap.size w w7) := B5.out.grown G7.out B5.out.size (fun kx e => Nat.le_trans b1.size (World.ownsRow.lt R5.out.row kx e).1)
                    have hql7 : (Q ++ [(newOb (k : Int) (m : Int), w3.heap.size)]).length ≤ j + 1 := by rw [List.length_append]; show Q.length + 1 ≤ j + 1; omega
                    clear OWN7 G7 HAT7 H5 R5 B5 OWN5 HNW HONE HBS HNE BP5 a1 a2 c1 c2 hmk1 L3 HBX HHb HRb HBb HS HSl HQB HGB BP3 R3 Bw3 H3h hS3lt hlt7
                    go_wp2_with fail
                    go_roundw
                    case rel => exact ⟨j + 1, _, S3, by go_num, by omega, by omega, hql7, by rw [HUV.out]; first | rfl | go_num | (congr 1; omega), H7, R7, S7, B7⟩
                    case measure => simp [intOf]; omega
              · as_aux_lemma =>
                  have hm : makeB C (Q.map Prod.fst) K M = false := by simpa using hm
                  have hA : makeA C (Q.map Prod.fst) K M = -1 := by unfold makeA; rw [hm]; rfl
                  have hSN : makeS C (Q.map Prod.fst) K M = Q.map Prod.fst := by unfold makeS; rw [hm]; rfl
                  have hiff := makeB_iff C (Q.map Prod.fst) K M
                  rw [hm] at hiff
                  have HM : Hid _ := hm
                  have HA : Hid _ := hA
                  have HSN : Hid _ := hSN
                  clear hm hA hSN
                  generalize hU : (wordsO (Q.map Prod.fst)).length = U at *
                  have HU : Hid _ := hU
                  clear hU
                  have hway : (decide (0 ≤ K) = false ∧ ¬ 0 ≤ K) ∨ (decide (0 ≤ K) = true ∧ 0 ≤ K ∧ decide (K ≤ 10000) = false ∧ ¬ K ≤ 10000) ∨ (decide (0 ≤ K) = true ∧ 0 ≤ K ∧ decide (K ≤ 10000) = true ∧ K ≤ 10000 ∧ decide (0 ≤ M) = false ∧ ¬ 0 ≤ M) ∨ (decide (0 ≤ K) = true ∧ 0 ≤ K ∧ decide (K ≤ 10000) = true ∧ K ≤ 10000 ∧ decide (0 ≤ M) = true ∧ 0 ≤ M ∧ decide (M ≤ 1000) = false ∧ ¬ M ≤ 1000) ∨ (decide (0 ≤ K) = true ∧ 0 ≤ K ∧ decide (K ≤ 10000) = true ∧ K ≤ 10000 ∧ decide (0 ≤ M) = true ∧ 0 ≤ M ∧ decide (M ≤ 1000) = true ∧ M ≤ 1000 ∧ decide (M + 2 ≤ (C : Int) - (U : Int)) = false ∧ ¬ M + 2 ≤ (C : Int) - (U : Int) ∧ IntKind.i64.wrap (M + 2) = M + 2 ∧ IntKind.i64.wrap ((C : Int) - (U : Int)) = (C : Int) - (U : Int)) := by
                    by_cases c1 : 0 ≤ K
                    · by_cases c2 : K ≤ 10000
                      · by_cases c3 : 0 ≤ M
                        · by_cases c4 : M ≤ 1000
                          · right; right; right; right
                            have c5 : ¬ M + 2 ≤ (C : Int) - (U : Int) := fun h => absurd (hiff.2 ⟨c1, c2, c3, c4, h⟩) (by decide)
                            refine ⟨decide_eq_true c1, c1, decide_eq_true c2, c2, decide_eq_true c3, c3, decide_eq_true c4, c4, decide_eq_false c5, c5, ?_, ?_⟩
                            · rw [IntKind.wrap_i64]; omega
                            · rw [IntKind.wrap_i64]; omega
                          · exact .inr (.inr (.inr (.inl ⟨decide_eq_true c1, c1, decide_eq_true c2, c2, decide_eq_true c3, c3, decide_eq_false c4, c4⟩)))
                        · exact .inr (.inr (.inl ⟨decide_eq_true c1, c1, decide_eq_true c2, c2, decide_eq_false c3, c3⟩))
                      · exact .inr (.inl ⟨decide_eq_true c1, c1, decide_eq_false c2, c2⟩)
                    · exact .inl ⟨decide_eq_false c1, c1⟩
                  clear hiff
                  rcases hway with ⟨p1, p1'⟩ | ⟨p1, p1', p2, p2'⟩ | ⟨p1, p1', p2, p2', p3, p3'⟩ | ⟨p1, p1', p2, p2', p3, p3', p4, p4'⟩ | ⟨p1, p1', p2, p2', p3, p3', p4, p4', p5, p5', p6, p7⟩
                  all_goals
                    go_wp2_with fail
                    refine (make_any _ _ _ _ _ _ K M HHb.out).mono ?_
                    rintro e w3 ⟨rfl, S3, H3, o3, l3⟩
                    rw [HM.out, HA.out]
                    rw [HSN.out] at H3
                    have BP3 := blk_off HBX.out o3 (fun e => Nat.lt_irrefl _ (HSl.out _ e))
                    have R3 : Hid (RowsR w1.heap.size w3 u8 Q) := HRb.out.off o3 HS.out.row HS.out.ns
                    have Bw3 : Hid (Below w.heap.size w w3) := HBb.out.trans (o3.to (B := w.heap.size) (fun k e => Nat.le_trans b1.size (HHb.out.raw.low k e).1) HBb.out.size)
                    have H3h : Hid _ := H3
                    have S7 : Hid (Sep u8 Q S3) := sep_same (N := wb.heap.size) HS.out l3 (fun k e => Nat.lt_of_lt_of_le (HQB.out k e) HWOB.out) (fun i o g h => Nat.lt_of_lt_of_le (HGB.out i o g h) HWOB.out)
                    have y1 := blk_cell BP3 1
                    have y2 := blk_cell BP3 2
                    simp only [List.getElem?_toArray, List.getElem?_cons_zero, List.getElem?_cons_succ] at y1 y2
                    clear o3 H3 l3 BP3 x0 x1 x2 x3 x4 x5 HBX HHb HRb HBb HS HSl HQB HGB
                    go_wp2_with fail
                    go_roundw
                    case rel => exact ⟨j + 1, Q, S3, by go_num, by omega, by omega, by omega, by rw [HU.out], H3h, R3, S7, Bw3⟩
                    case measure => simp [intOf]; omega
            · as_aux_lemma =>
                have k5 : decide (kd = 0) = false := by rw [decide_eq_false_iff_not]; exact hkd
                obtain ⟨sa, sc, rfl⟩ := own_sl HRb.out.row
                by_cases hq0 : Q.length = 0
                · have k6 : decide ((Q.length : Int) = 0) = true := by rw [decide_eq_true_eq]; omega
                  have k7 : decide (Q.length = 0) = true := by rw [decide_eq_true_eq]; exact hq0
                  have k8 : (Q.length : Int) = 0 := by omega
                  go_wp2_with fail
                  go_roundw
                  case rel => exact ⟨j + 1, Q, S, by go_num, by omega, by omega, by omega, rfl, HHb, HRb, HS, HBb⟩
                  case measure => simp [intOf]; omega
                · have k6 : decide ((Q.length : Int) = 0) = false := by rw [decide_eq_false_iff_not]; omega
                  have k7 : decide (Q.length = 0) = false := by rw [decide_eq_false_iff_not]; exact hq0
                  have k8 : ¬ (Q.length : Int) = 0 := by omega
                  have k9 : ((Q.length : Int) == 0) = false := by rw [beq_eq_false_iff_ne]; exact k8
                  obtain ⟨t, _, e1, e2, htq⟩ := mod_range A' Q.length (by omega) (by omega) oka
                  obtain ⟨⟨o, g⟩, hi⟩ : ∃ y, Q[t]? = some y := ⟨Q[t], List.getElem?_eq_getElem htq⟩
                  have hoi : (Q.map Prod.fst)[t]? = some o := by rw [List.getElem?_map, hi]; rfl
                  obtain ⟨_, b', hb', c0, c1, c2⟩ := RowsR.at HRb.out t o g hi
                  subst hb'
                  have HI : Hid _ := hi
                  have HOI : Hid _ := hoi
                  have hholds := holds_idx (Q.map Prod.fst) t o I hoi
                  have HHOLD : Hid _ := hholds
                  clear hi hoi hholds
                  have htq2 : t < Q.length := htq
                  have k10 : (t : Int) < (Q.length : Int) := by omega
                  have k11 : decide ((t : Int) < (Q.length : Int)) = true := by rw [decide_eq_true_eq]; exact k10
                  generalize hpt : pl (Q.map Prod.fst) t = pt at *
                  have HPT : Hid _ := hpt
                  clear hpt
                  have kc := alloc1 wb (.cells #[.int .i64 (pt : Int), .int .i64 (o.k : Int), .slice (some ⟨g, 0, none⟩) o.v.length o.v.length] 33)
                  have BXc : Hid _ := blk_on HBX.out kc
                  have BOc : Hid _ := blk_new wb #[.int .i64 (pt : Int), .int .i64 (o.k : Int), .slice (some ⟨g, 0, none⟩) o.v.length o.v.length] 33
                  have HHc : Hid _ := HHb.out.later kc
                  have HRc : Hid _ := HRb.out.later kc
                  have HBc : Hid _ := HBb.out.trans (kc.mono HBb.out.size)
                  clear kc HBX HHb HRb HBb
                  go_upto_region 24 with fail
                  clear c0 c1 c2 x0 x1 x2 x3 x4 x5
                  generalize wb.alloc (.cells #[.int .i64 (pt : Int), .int .i64 (o.k : Int), .slice (some ⟨g, 0, none⟩) o.v.length o.v.length] 33) = wc at *
                  have y4 := blk_cell BXc.out 4
                  have y5 := blk_cell BXc.out 5
                  have z0 := blk_cell BOc.out 0
                  have z2 := blk_cell BOc.out 2
                  simp only [List.getElem?_toArray, List.getElem?_cons_zero, List.getElem?_cons_succ] at y4 y5 z0 z2
                  have hov : o.v.length ≤ 1000 := (HHc.out.ok o (List.mem_of_getElem? HOI.out)).n
                  by_cases hin : 0 ≤ I ∧ I < (o.v.length : Int)
                  · obtain ⟨i, rfl⟩ : ∃ i : Nat, I = (i : Int) := ⟨I.toNat, by omega⟩
                    have hiv : i < o.v.length := by omega
                    have HIN : Hid (holdsO (Q.map Prod.fst) (pt : Int) (i : Int) = true) := by
                      show _ = _
                      have := HHOLD.out
                      rw [this]
                      simp only [Bool.and_eq_true, decide_eq_true_eq]
                      exact hin
                    have HPUT : Hid (putS (Q.map Prod.fst) (pt : Int) (i : Int) X = (setQ Q t i X).map Prod.fst) := by
                      show _ = _
                      unfold putS
                      rw [HIN.out, if_pos rfl, (setQ_snd Q t i X o g HI.out).2.1, Int.toNat_natCast, Int.toNat_natCast, ← HPT.out]
                      exact (put_idx2 (Q.map Prod.fst) t i o X HOI.out hiv).2
                    have n1 : decide ((i : Int) < (o.v.length : Int)) = true := by rw [decide_eq_true_eq]; omega
                    have n2 : decide (i < o.v.length) = true := by rw [decide_eq_true_eq]; exact hiv
                    have n3 : decide ((0 : Int) ≤ (i : Int)) = true := by rw [decide_eq_true_eq]; omega
                    clear hin
                    go_wp2_with fail
                    refine (put_any _ _ _ _ _ _ (pt : Int) (i : Int) X HHc.out okx).mono ?_
                    rintro e w5 ⟨rfl, H5, o5, _⟩
                    rw [HIN.out]
                    rw [HPUT.out] at H5
                    have BX5 := blk_off BXc.out o5 (fun e => Nat.lt_irrefl _ (HSl.out _ e))
                    have BO5 := blk_off BOc.out o5 (fun e => by have := HSl.out _ e; have := HWOB.out; omega)
                    have R5 : Hid _ := RowsR.off HRc.out o5 HS.out.row HS.out.ns
                    have r4 := blk_cell BX5 4
                    have r5 := blk_cell BX5 5
                    have r2 := blk_cell BO5 2
                    simp only [List.getElem?_toArray, List.getElem?_cons_zero, List.getElem?_cons_succ] at r4 r5 r2
                    have hvs := R5.out.vs t o g HI.out
                    obtain ⟨y, hy⟩ : ∃ y, o.v[i]? = some y := ⟨o.v[i], List.getElem?_eq_getElem hiv⟩
                    have s1 : w5.cell? ⟨g, i, none⟩ = some (.int .i32 y) := own_cell hvs i _ (by rw [List.getElem?_map, hy]; rfl)
                    have s2 : w5.frozen? ⟨g, i, none⟩ = false := own_free hvs i
                    have hgl : Hid (w1.heap.size ≤ g) := (World.ownsRow.lt hvs g rfl).1
                    have B5 : Hid (Below w.heap.size w w5) := HBc.out.trans (o5.to (B := w.heap.size) (fun k e => Nat.le_trans b1.size (HHc.out.raw.low k e).1) HBc.out.size)
                    have H8 : Hid (Hp w1.heap.size (w5.setCell ⟨g, i, none⟩ (.int .i32 X)) S w1.heap.size C ((setQ Q t i X).map Prod.fst)) := H5.off (Off.set (S := fun k => k = g) w5 ⟨g, i, none⟩ _ rfl) (fun k e e' => by subst e'; exact HS.out.ns t o _ HI.out e)
                    have R8 : Hid (RowsR w1.heap.size (w5.setCell ⟨g, i, none⟩ (.int .i32 X)) (.slice (some ⟨b', 0, none⟩) Q.length sc) (setQ Q t i X)) := rows_set R5.out HS.out.nd HI.out hiv
                    have S8 : Hid (Sep (.slice (some ⟨b', 0, none⟩) Q.length sc) (setQ Q t i X) S) := sep_set HS.out HI.out
                    have B8 : Hid (Below w.heap.size w (w5.setCell ⟨g, i, none⟩ (.int .i32 X))) := B5.out.setCell (p := ⟨g, i, none⟩) (Nat.le_trans b1.size hgl.out) _
                    have hl8 : (setQ Q t i X).length ≤ j + 1 := by rw [(setQ_snd Q t i X o g HI.out).2.2]; omega
                    have W8 : Hid ((wordsO ((setQ Q t i X).map Prod.fst)).length = (wordsO (Q.map Prod.fst)).length) := words_set Q t i X o g HI.out
                    clear H5 o5 BX5 BO5 hvs R5 B5 HBc HHc HRc BXc BOc
                    go_wp2_with fail
                    go_roundw
                    case rel => exact ⟨j + 1, setQ Q t i X, S, by go_num, by omega, by omega, hl8, by rw [W8.out], H8, R8, S8, B8⟩
                    case measure => simp [intOf]; omega
                  · have HIN : Hid (holdsO (Q.map Prod.fst) (pt : Int) I = false) := by
                      show _ = _
                      have := HHOLD.out
                      rw [this, Bool.and_eq_false_iff, decide_eq_false_iff_not, decide_eq_false_iff_not]
                      omega
                    have hway : (decide (0 ≤ I) = false ∧ ¬ 0 ≤ I) ∨ (decide (0 ≤ I) = true ∧ 0 ≤ I ∧ decide (I < (o.v.length : Int)) = false ∧ ¬ I < (o.v.length : Int)) := by
                      by_cases m1 : 0 ≤ I
                      · have m2 : ¬ I < (o.v.length : Int) := fun h => hin ⟨m1, h⟩
                        exact .inr ⟨decide_eq_true m1, m1, decide_eq_false m2, m2⟩
                      · exact .inl ⟨decide_eq_false m1, m1⟩
                    clear hin
                    rcases hway with ⟨n1, n2⟩ | ⟨n1, n2, n3, n4⟩
                    all_goals
                      go_wp2_with fail
                      refine (put_any _ _ _ _ _ _ (pt : Int) I X HHc.out okx).mono ?_
                      rintro e w5 ⟨rfl, _, _, h5⟩
                      obtain rfl := h5 HIN.out
                      rw [HIN.out]
                      go_wp2_with fail
                      go_roundw
                      case rel => exact ⟨j + 1, Q, S, by go_num, by omega, by omega, by omega, rfl, HHc, HRc, HS, HBc⟩
                      case measure => simp [intOf]; omega
          · have hq50 : Q.length ≤ 50 := by omega
            have hd : (decide ((j : Int) < (L.length : Int)) = false ∧ decide (j < L.length) = false) ∨ (decide ((j : Int) < (L.length : Int)) = true ∧ decide (j < L.length) = true ∧ decide ((j : Int) < 50) = false ∧ decide (j < 50) = false ∧ ¬ ((j : Int) < 50) ∧ ¬ (j < 50)) := by
              simp only [decide_eq_false_iff_not, decide_eq_true_eq]
              omega
            clear hin
            rcases hd with ⟨d1, d2⟩ | ⟨d1, d2, d3, d4, d5, d6⟩
            all_goals
              go_wp2_with fail
              go_meet
              case rel => exact ⟨Q, S, rfl, hq50, HH, HR, HB⟩
      case rest =>
        as_aux_lemma =>
          obtain ⟨Q, S, rfl, hq50, HH, HR, HB⟩ := hcut
          clear H2h b12 b2
          have hus := HH.out.used
          obtain ⟨sa, sc, rfl⟩ := own_sl HR.out.row
          have HF : Hid (ofO (wordsO (Q.map Prod.fst)) ((wordsO (Q.map Prod.fst)).length : Int) = some (Q.map Prod.fst)) := by
            show _ = _
            unfold ofO clampN
            rw [if_pos (by omega)]
            exact read_of _ _ (by have := words_ge (Q.map Prod.fst); omega) HH.out.ok
          have HI32 : Hid (∀ x ∈ wordsO (Q.map Prod.fst), Is32 x) := words_is32 _ HH.out.ok
          have HW := words_any _ _ _ _ _ _ _ HH.out.raw
          generalize hU : (wordsO (Q.map Prod.fst)).length = U at *
          have HU : Hid _ := hU
          clear hU
          apply_assumption
          go_wp2_with fail
          refine HW.mono ?_
          rintro e w2 ⟨v', rfl, own2, k2⟩
          clear HW
          obtain ⟨ga, gc, rfl⟩ := own_sl own2
          have RD : Hid (Reads .i32 w2 ga U gc (wordsO (Q.map Prod.fst))) := reads_of own2
          have OWN2 : Hid _ := own2
          have HWB := HB.out.size
          have HNS : Hid (∀ g0, (Value.slice ga U gc).ownBlock = some g0 → ¬ S g0 ∧ (Value.slice sa Q.length sc).ownBlock ≠ some g0 ∧ (∀ (i : Nat) (o : Ob) (g : Nat), Q[i]? = some (o, g) → g ≠ g0) ∧ g0 < w2.heap.size ∧ w.heap.size ≤ g0) := by
            intro g0 e
            have l := World.ownsRow.lt own2 g0 e
            refine ⟨fun h => ?_, fun h => ?_, fun i o g hi h => ?_, l.2, by omega⟩
            · have := (HH.out.raw.low _ h).2
              omega
            · have := (World.ownsRow.lt HR.out.row _ h).2
              omega
            · have := (World.ownsRow.lt (HR.out.vs i o g hi) g rfl).2
              omega
          have H2 : Hid _ := HH.out.later k2
          have R2 : Hid _ := RowsR.later HR.out k2
          have B2 : Hid _ := HB.out.trans (k2.mono HB.out.size)
          have K2 : Hid _ := k2.size
          clear own2 k2 HH HR HB
          have hUb : U ≤ 3000 := by omega
          go_wp2_with fail
          refine (of_any _ _ _ _ (U : Int) w2 RD.out HI32.out (by omega) (by omega)).mono ?_
          rintro e w3 hor
          obtain ⟨p, S', rfl, HG, k3⟩ : ∃ p S', e = .returned (.tuple #[.pointer (some ⟨p, 0, none⟩), .bool true]) ∧ Hp w2.heap.size w3 S' p (clampN (U : Int)) (Q.map Prod.fst) ∧ Below w2.heap.size w2 w3 := by
            rcases hor with ⟨h, _⟩ | ⟨os', p, S', h1, h2, h3, _, h5⟩
            · rw [HF.out] at h
              cases h
            · rw [HF.out] at h1
              obtain rfl := Option.some.inj h1
              exact ⟨p, S', h2, h3, h5⟩
          clear hor
          have H3 : Hid _ := H2.out.later k3
          have R3 : Hid _ := RowsR.later R2.out k3
          have B3 : Hid _ := B2.out.trans (k3.mono B2.out.size)
          have OWN3 : Hid _ := own_later OWN2.out k3
          have K3 : Hid _ := k3.size
          have HGh : Hid _ := HG
          clear HG k3 H2 R2 B2 OWN2 RD
          go_wp2_with fail
          refine (size_any _ _ _ _ _ _ _ H3.out.raw).mono ?_
          rintro e w3' ⟨rfl, hww⟩
          subst hww
          go_wp2_with fail
          refine (same_any _ _ _ _ _ _ _ _ _ _ _ H3.out R3.out rfl (by omega) U HU.out.symm).mono ?_
          rintro e w4 ⟨rfl, k4⟩
          have H4 : Hid _ := H3.out.later k4
          have R4 : Hid _ := RowsR.later R3.out k4
          have B4 : Hid _ := B3.out.trans (k4.mono B3.out.size)
          have OWN4 : Hid _ := own_later OWN3.out k4
          have G4 : Hid _ := HGh.out.later k4
          have K4 : Hid _ := k4.size
          clear k4 H3 R3 B3 OWN3 HGh
          go_wp2_with fail
          refine (same_any _ _ _ _ _ _ _ _ _ _ _ G4.out R4.out rfl (by omega) U HU.out.symm).mono ?_
          rintro e w5 ⟨rfl, k5⟩
          have H5 : Hid (Hp w1.heap.size w5 S w1.heap.size C (Q.map Prod.fst)) := H4.out.later k5
          have R5 : Hid (RowsR w1.heap.size w5 (.slice sa Q.length sc) Q) := RowsR.later R4.out k5
          have B5 : Hid (Below w.heap.size w w5) := B4.out.trans (k5.mono B4.out.size)
          have OWN5 : Hid (∃ B0 xs, w5.ownsRow B0 21 1 (.slice ga U gc) U xs) := ⟨_, _, own_later OWN4.out k5⟩
          have G5 : Hid (Hp w2.heap.size w5 S' p (clampN (U : Int)) (Q.map Prod.fst)) := G4.out.later k5
          clear k5 H4 R4 B4 OWN4 G4
          clear HWB K2 K3 K4 HI32 HF
          go_wp2_with fail
          go_loopw [202] (fun iv wq => ∃ (j : Nat), iv = .int .i64 j ∧ j ≤ U ∧ Hid (Hp w1.heap.size wq S w1.heap.size C (Q.map Prod.fst)) ∧ Hid (RowsR w1.heap.size wq (.slice sa Q.length sc) Q) ∧ Hid (Below w.heap.size w wq) ∧ Hid (∃ B0 xs, wq.ownsRow B0 21 1 (.slice ga U gc) U xs) ∧ Hid (Hp w2.heap.size wq S' p (clampN (U : Int)) (Q.map Prod.fst))) (fun iv _ => U - (intOf iv).toNat)
          case atStart => exact ⟨0, rfl, by omega, H5, R5, B5, OWN5, G5⟩
          case round =>
            clear H5 R5 B5 OWN5 G5
            obtain ⟨j, rfl, hj, H5, R5, B5, OWN5, G5⟩ := hrel
            by_cases hjU : j < U
            · obtain ⟨B0, xs, own⟩ := OWN5.out
              obtain ⟨g0, cap0, hv, _⟩ := own_some own (by omega)
              simp only [Value.slice.injEq, true_and] at hv
              obtain ⟨rfl, rfl⟩ := hv
              obtain ⟨m1, m2, m3, m4, m5⟩ := HNS.out g0 rfl
              have d1 : decide ((j : Int) < (U : Int)) = true := by rw [decide_eq_true_eq]; omega
              have d2 : decide (j < U) = true := by rw [decide_eq_true_eq]; omega
              have d3 : (j : Int) < (U : Int) := by omega
              have hxl : j < xs.length := by have := own.1; omega
              have s1 : wr.cell? ⟨g0, j, none⟩ = some xs[j] := own_cell own j _ (List.getElem?_eq_getElem hxl)
              have s2 : wr.frozen? ⟨g0, j, none⟩ = false := own_free own j
              generalize xs[j] = xj at *
              have H8 : Hid (Hp w1.heap.size (wr.setCell ⟨g0, j, none⟩ (.int .i32 77)) S w1.heap.size C (Q.map Prod.fst)) := H5.out.off (Off.set (S := fun k => k = g0) wr ⟨g0, j, none⟩ _ rfl) (fun k e e' => by subst e'; exact m1 e)
              have R8 : Hid (RowsR w1.heap.size (wr.setCell ⟨g0, j, none⟩ (.int .i32 77)) (.slice sa Q.length sc) Q) := R5.out.off (Off.set (S := fun k => k = g0) wr ⟨g0, j, none⟩ _ rfl) (fun k e e' => by subst e'; exact m2 e) (fun i o g hi e => m3 i o g hi e)
              have B8 : Hid (Below w.heap.size w (wr.setCell ⟨g0, j, none⟩ (.int .i32 77))) := B5.out.setCell (p := ⟨g0, j, none⟩) m5 _
              have O8 : Hid (∃ B0 xs, (wr.setCell ⟨g0, j, none⟩ (.int .i32 77)).ownsRow B0 21 1 (.slice (some ⟨g0, 0, none⟩) U gc) U xs) := ⟨_, _, own_set own j _ hjU⟩
              have G8 : Hid (Hp w2.heap.size (wr.setCell ⟨g0, j, none⟩ (.int .i32 77)) S' p (clampN (U : Int)) (Q.map Prod.fst)) := G5.out.off (Off.set (S := fun k => k = g0) wr ⟨g0, j, none⟩ _ rfl) (fun k e e' => by subst e'; have := (G5.out.raw.low _ e).1; omega)
              clear own H5 R5 B5 OWN5 G5
              go_wp2_with fail
              go_roundw
              case rel => exact ⟨j + 1, by go_num, by omega, H8, R8, B8, O8, G8⟩
              case measure => simp [intOf]; omega
            · have d1 : decide ((j : Int) < (U : Int)) = false := by rw [decide_eq_false_iff_not]; omega
              have d2 : decide (j < U) = false := by rw [decide_eq_false_iff_not]; omega
              have d3 : ¬ (j : Int) < (U : Int) := by omega
              go_wp2_with fail
              refine (same_any _ _ _ _ _ _ _ _ _ _ _ H5.out R5.out rfl (by omega) U HU.out.symm).mono ?_
              rintro e w6 ⟨rfl, k6⟩
              have R6 : Hid _ := RowsR.later R5.out k6
              have B6 : Hid _ := B5.out.trans (k6.mono B5.out.size)
              have G6 : Hid _ := G5.out.later k6
              clear k6 H5 R5 B5 OWN5 G5
              go_wp2_with fail
              refine (same_any _ _ _ _ _ _ _ _ _ _ _ G6.out R6.out rfl (by omega) U HU.out.symm).mono ?_
              rintro e w7 ⟨rfl, k7⟩
              have B7 : Below w.heap.size w w7 := B6.out.trans (k7.mono B6.out.size)
              clear k7
              go_wp2_with fail
              refine bodyPost_ret (by simp [results, Try.results3, go_sem]; try rfl) rfl ⟨rfl, B7⟩

/-! ### The row -/
theorem own : ownKnob Try.prog.godebug = none := by kernel_rfl
theorem laidOut : laidOutB Try.prog = true := by kernel_rfl
set_option maxRecDepth 100000 in
theorem lifted (os : Os) (started : os.Started) (H : Type) (enc : TypeId × Value → H) :
    ReturnsInHanded {} Try.checked os 3 .any (Rows.heapAllSpec.pre6 enc Try.prog Try.f3 Rows.heapAllRow.domain false) (Rows.heapAllSpec.post enc Try.prog Try.f3 false true false false) := by
  refine returnsInHanded_of_change (C := Try.checked) own started (by kernel_rfl) Try.func3
    (ChangeSpec.witness6 (enc := enc) (C := Try.checked) false ⟨#[], #[.int .i64 0, .slice none 0 0], []⟩ 8 (by kernel_rfl) (by kernel_rfl) (by kernel_rfl) (by kernel_rfl)) ?_
  intro W base args ds gs before hval0 hW hcnd _
  have hval : ∀ (j : Nat) t v, Try.f3.params[j]? = some t → args[j]? = some v → Value.okWide Try.prog W .any base t v := hval0
  have hW' := hW
  obtain ⟨p, q, hA0, hV, rfl, hfz, hnd⟩ := hW
  have hA : DataW.TrodAll enc Try.prog W 0 (fun _ => true) true Try.f3.params.toList args.toList ds p := hA0
  rw [Try.params3] at hA hval
  obtain ⟨v0, vs0, d0, ds0, p0, q0, hargs, rfl, rfl, h0, r0⟩ := trodAll_cons hA
  obtain ⟨v1, vs1, d1, ds1, p1, q1, rfl, rfl, rfl, h1, r1⟩ := trodAll_cons r0
  obtain ⟨rfl, rfl, rfl⟩ := trodAll_nil r1
  obtain rfl : args = #[v0, v1] := by cases args; simp_all
  obtain ⟨rfl, rfl⟩ := trodVars_none hV
  obtain ⟨a0, rfl, rfl, rfl, w0⟩ := open_int Try.underlying3 (hval 0 3 v0 rfl rfl) h0
  obtain ⟨a1, len1, cap1, rfl⟩ := okWide_slice Try.underlying22 (hval 1 22 v1 rfl rfl)
  have k1 := h1
  have lt1 : ∀ x ∈ p1, x.block < W.heap.size := by obtain ⟨m, hm⟩ := k1; exact DataW.trod_lt m _ _ _ hm
  obtain ⟨z1, w1⟩ : ∃ L, Sl opE 6 W (.slice a1 len1 cap1) L := by
    obtain ⟨fuel, hf⟩ := h1
    obtain ⟨v, L, e, hL⟩ := open_ops hf
    simp [Value.cells] at e
    subst e
    exact ⟨L, hL⟩
  clear hA0 hval0
  refine (walk a0 a1 len1 cap1 z1 W w0 w1).mono fun e W' ⟨he, bel⟩ => ?_
  subst he
  exact ⟨_, rfl, _, _, _, [], _, [], hW', trodAll_mk1 (shut_bool Try.underlying4 _), (trodAll_cons_mk (shut_int Try.underlying3 w0) (trodAll_cons_mk (Below.trod laidOut (by kernel_rfl) (of_decide_eq_true (by kernel_rfl)) k1 bel lt1) trodAll_mk0)), rfl, bel.frame _, fun h => by cases h⟩

theorem over : Rows.heapAllRow.holds Try.pinned (OpenSpec.ofChange Rows.heapAllSpec) :=
  OpenClaim.holds_of_wide 3 Try.f3 rfl rfl rfl rfl rfl rfl rfl ⟨rfl, rfl, rfl, rfl, rfl⟩ rfl rfl rfl rfl rfl (by kernel_rfl) Try.func3 (by kernel_rfl)
    (of_decide_eq_true (by kernel_rfl)) (by unfold Func.isWrapper; first | (rw [if_pos (by decide +kernel)]; kernel_rfl) | (rw [if_neg (by decide +kernel)]; exact ⟨rfl, rfl⟩))
    (fun os started H enc _ => lifted os started H enc)

end HeapAll

theorem heapAll_holds : Rows.HeapAllSaid := HeapAll.over
#print axioms heapAll_holds
end Go.Proofs.Ytpjccmcbagoplaa
