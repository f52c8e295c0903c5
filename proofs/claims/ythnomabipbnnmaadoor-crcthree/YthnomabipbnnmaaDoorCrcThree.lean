/- For all bytes a, b and c the law CrcThree answers true: of three texts of one length the sum of their exclusive or is the exclusive or of their sums; no condition on the input. -/
import Derived.Test.YthnomabipbnnmaaDoorCards
import Derived.Test.YthnomabipbnnmaaDoorTie
import Derived.Test.YthnomabipbnnmaaDoorCrcBegun
import Derived.WalkKit
import Derived.Deep.DeepHandedRow
import Derived.ProofKit
import Derived.OpenShut
import Derived.ShutString
import Derived.ChangeOld
import Derived.Below
import Derived.RegionTactic
import Derived.BigQuiet
import Derived.Deep.QuietTactic
import Derived.Deep.DeepCutAuto
import Derived.Deep.RegionWith
namespace Go.Proofs.YthnomabipbnnmaaDoor
namespace CrcThree
open Num Crc
open Go.ChangeShapes Go.WideShapes Go.ChangeAt Go.RowKit
open Go.ChangeMaps (open_string shut_string)
set_option linter.unusedVariables false

theorem ret_bool {a b : Bool} (h : a = b) : Ending.returned (.bool a) = .returned (.bool b) := by rw [h]

set_option maxRecDepth 100000 in
set_option maxHeartbeats 2000000 in
theorem walk_some (ba oa la ca bb ob lb cb bc oc lc cc N : Nat) (A B C : List Int) (w : World) (hN : N = min (min la 100) (min lb lc)) (hN0 : 0 < N)
    (hA : Has w (some ⟨ba, oa, none⟩) la ca A) (hB : Has w (some ⟨bb, ob, none⟩) lb cb B) (hC : Has w (some ⟨bc, oc, none⟩) lc cc C) (yA : Bytes A) (yB : Bytes B) (yC : Bytes C) (T : Tab w := by assumption) :
    Calls Tryd.prog 7 #[.slice (some ⟨ba, oa, none⟩) la ca, .slice (some ⟨bb, ob, none⟩) lb cb, .slice (some ⟨bc, oc, none⟩) lc cc] w fun e w' => e = .returned (.bool true) ∧ Below w.heap.size w w' := by
  obtain ⟨i0, hi, hz0, hz1, hz2⟩ := info_parts info8
  have hca := hA.cap
  have hcb := hB.cap
  have hcc := hC.cap
  have hma := hA.max
  have hmb := hB.max
  have hmc := hC.max
  unfold maxLen at hma hmb hmc
  have hn1 : N ≤ la := by omega
  have hn2 : N ≤ lb := by omega
  have hn3 : N ≤ lc := by omega
  have hn4 : N ≤ 100 := by omega
  have hn5 : la ≤ N ∨ lb ≤ N ∨ lc ≤ N ∨ 100 ≤ N := by omega
  clear hN
  go_enter Tryd.func7, Tryd.ntmps7
  go_wp2_with fail
  refine (begun_any _).mono ?_
  rintro e w1 ⟨rfl, b1⟩
  have T1 := T.later b1
  have hA1 := (hA.later b1).take N hn1
  have hB1 := (hB.later b1).take N hn2
  have hC1 := (hC.later b1).take N hn3
  have yA1 := bytes_take yA N
  have yB1 := bytes_take yB N
  have yC1 := bytes_take yC N
  clear hA hB hC yA yB yC
  generalize A.take N = A at *
  generalize B.take N = B at *
  generalize C.take N = C at *
  go_upto_region 4 with fail
  go_cut [8] (fun s8 wc => s8 = .int .i64 (N : Nat) ∧ wc = w1)
  case first =>
    clear hA1 hB1 hC1 yA1 yB1 yC1
    rcases hn5 with h | h | h | h
    all_goals
      go_wp2_with fail
    all_goals
      go_meet
      exact ⟨by go_num, rfl⟩
  case rest =>
  obtain ⟨rfl, rfl⟩ := hcut
  clear hn5
  go_wp2_with (at_make; go_must (refine wpList_make_full _ rfl _ _ 22 rfl wc.heap.size 5 i0 (.int .u8 0) 1 Tryd.underlying22 hi hz0 hz1 _ _ _ _ N rfl rfl rfl rfl (by rw [hz2]; omega) (by unfold maxLen; omega) (Nat.le_refl _) ?_; intro w2 o2 g2))
  have e2 : Below wc.heap.size wc w2 := (Below.refl _ _).grown g2 (Nat.le_refl _) (fun k e => by cases e)
  have o3 : w2.ownsRow wc.heap.size 5 1 (.slice (some ⟨wc.heap.size, 0, none⟩) N N) N (cellsOf (ints (List.replicate N 0))) := by
    have h := o2
    rw [Nat.mul_one, show (Value.int .u8 0).cells = #[.int .u8 0] from rfl, toList_madeCells_one] at h
    rw [show cellsOf (ints (List.replicate N 0)) = List.replicate N (.int .u8 0) by simp [cellsOf, ints]]
    exact h
  clear o2 g2
  have lA := hA1.len
  have lB := hB1.len
  have lC := hC1.len
  obtain ⟨X, hX⟩ : ∃ X, X = xorL (xorL (nats A) (nats B)) (nats C) := ⟨_, rfl⟩
  have lAB : (xorL (nats A) (nats B)).length = N := by rw [xorL_length _ _ (by rw [nats_length, nats_length, lA, lB]), nats_length, lA]
  have lX : X.length = N := by rw [hX, xorL_length _ _ (by rw [lAB, nats_length, lC]), lAB]
  have hXk : ∀ k, k < N → X.getD k 0 = (A.getD k 0).toNat ^^^ (B.getD k 0).toNat ^^^ (C.getD k 0).toNat := fun k hk => by
    rw [hX, xorL_getD (by rw [lAB, nats_length, lC]) (by rw [lAB]; exact hk), xorL_getD (by rw [nats_length, nats_length, lA, lB]) (by rw [nats_length, lA]; exact hk), nats_getD, nats_getD, nats_getD]
  have HX : Hid _ := hX
  have HXL : Hid _ := lX
  have HA : Hid _ := lA
  have HB : Hid _ := lB
  have HC : Hid _ := lC
  clear hX lX lA lB lC lAB
  go_loopw [10] (fun i wr => ∃ k : Nat, k ≤ N ∧ i = .int .i64 k ∧ wr.ownsRow wc.heap.size 5 1 (.slice (some ⟨wc.heap.size, 0, none⟩) N N) N (cellsOf (ints (X.take k ++ List.replicate (N - k) 0))) ∧ Below wc.heap.size wc wr) (fun i _ => N - (intOf i).toNat)
  case atStart => exact ⟨0, by omega, rfl, by simpa using o3, e2⟩
  case round =>
    obtain ⟨k, hk, rfl, hown, hbel⟩ := hrel
    by_cases hlt : k < N
    · obtain ⟨_, _, eA, ltA, qA⟩ := (hA1.later hbel).cells hN0
      obtain ⟨_, _, eB, ltB, qB⟩ := (hB1.later hbel).cells hN0
      obtain ⟨_, _, eC, ltC, qC⟩ := (hC1.later hbel).cells hN0
      simp only [Option.some.injEq, Addr.mk.injEq, and_true] at eA eB eC
      obtain ⟨rfl, rfl⟩ := eA
      obtain ⟨rfl, rfl⟩ := eB
      obtain ⟨rfl, rfl⟩ := eC
      have cA := qA k hlt
      have cB := qB k hlt
      have cC := qC k hlt
      clear qA qB qC
      have bA := getD_bd yA1 (show k < A.length by rw [HA.out]; exact hlt)
      have bB := getD_bd yB1 (show k < B.length by rw [HB.out]; exact hlt)
      have bC := getD_bd yC1 (show k < C.length by rw [HC.out]; exact hlt)
      have hxk := hXk k hlt
      have hf := fill_step HXL.out hlt
      obtain ⟨p, hp⟩ := Int.eq_ofNat_of_zero_le bA.1
      obtain ⟨q, hq⟩ := Int.eq_ofNat_of_zero_le bB.1
      obtain ⟨r, hr⟩ := Int.eq_ofNat_of_zero_le bC.1
      rw [hp, hq, hr] at hxk
      simp only [Int.toNat_natCast] at hxk
      rw [hxk] at hf
      rw [hp] at cA bA
      rw [hq] at cB bB
      rw [hr] at cC bC
      have x1 := xor_u8 p q (by omega) (by omega)
      have x2 := xor_u8 (p ^^^ q) r (Nat.xor_lt_two_pow (n := 8) (show p < 2 ^ 8 by omega) (show q < 2 ^ 8 by omega)) (by omega)
      have HF : Hid _ := hf
      clear hf hxk hp hq hr hXk bA bB bC
      have cD := hown.cellAt k (by omega)
      have fD := hown.frozenAt k
      rw [List.getElem?_eq_getElem (by rw [cellsOf_length, ints_length]; simp [HXL.out]; omega)] at cD
      generalize (cellsOf (ints (X.take k ++ List.replicate (N - k) 0)))[k]'_ = old at cD
      have st := hown.stored k (.int .u8 ((p ^^^ q ^^^ r : Nat) : Int))
      have hsz := hbel.size
      have l1 : (k : Int) < (la : Int) := by omega
      have l2 : (k : Int) < (lb : Int) := by omega
      have l3 : (k : Int) < (lc : Int) := by omega
      have l4 : (k : Int) < (N : Int) := by omega
      have hset : (cellsOf (ints (X.take k ++ List.replicate (N - k) 0))).set k (.int .u8 ((p ^^^ q ^^^ r : Nat) : Int)) = cellsOf (ints (X.take (k + 1) ++ List.replicate (N - (k + 1)) 0)) := by
        rw [← HF.out]
        simp [cellsOf, List.map_set]
      have st1 := st.1
      rw [hset] at st1
      have hb2 := hbel.setCell (p := ⟨wc.heap.size, k, none⟩) (Nat.le_refl _) (.int .u8 ((p ^^^ q ^^^ r : Nat) : Int))
      have HS : Hid _ := And.intro st1 hb2
      clear st st1 hset hb2 hown
      go_wp2_with fail
      go_region
      all_goals
        go_wp2_with fail
        go_roundw
        case rel => exact ⟨k + 1, by omega, by go_num, HS.out.1, HS.out.2.drew⟩
        case measure => simp [intOf]; omega
    · have hkm : N = k := by omega
      subst hkm
      have hD := Has.own hown
      rw [List.take_of_length_le (by rw [HXL.out]; exact Nat.le_refl _), Nat.sub_self, List.replicate_zero, List.append_nil] at hD
      have hA3 := hA1.later hbel
      have hB3 := hB1.later hbel
      have hC3 := hC1.later hbel
      have d3 : Below w.heap.size w wr := b1.trans (hbel.mono b1.size)
      have T3 := T.later d3
      have hsum : sum (nats (ints X)) = sum (nats A) ^^^ sum (nats B) ^^^ sum (nats C) := by
        rw [nats_ints, HX.out, sum_three _ _ _ (by rw [nats_length, nats_length, HA.out, HB.out]) (by rw [nats_length, nats_length, HB.out, HC.out])]
      have sA := sum_lt _ (nats_small A yA1)
      have sB := sum_lt _ (nats_small B yB1)
      have sC := sum_lt _ (nats_small C yC1)
      have yX : Bytes (ints X) := ints_bytes (by rw [HX.out]; exact xorL_small (xorL_small (nats_small A yA1) (nats_small B yB1)) (nats_small C yC1))
      have x1 := xor_u32 _ _ sA sB
      have x2 := xor_u32 _ _ (Nat.xor_lt_two_pow (n := 32) sA sB) sC
      have qD : ∀ m, _ := fun m => sum_any _ _ _ (ints X) (wr.drewN m) (hD.later (below_drewN (Below.refl _ _) m)) yX (T3.later (below_drewN (Below.refl _ _) m))
      have qA : ∀ m, _ := fun m => sum_any _ _ _ A (wr.drewN m) (hA3.later (below_drewN (Below.refl _ _) m)) yA1 (T3.later (below_drewN (Below.refl _ _) m))
      have qB : ∀ m, _ := fun m => sum_any _ _ _ B (wr.drewN m) (hB3.later (below_drewN (Below.refl _ _) m)) yB1 (T3.later (below_drewN (Below.refl _ _) m))
      have qC : ∀ m, _ := fun m => sum_any _ _ _ C (wr.drewN m) (hC3.later (below_drewN (Below.refl _ _) m)) yC1 (T3.later (below_drewN (Below.refl _ _) m))
      have HQ : Hid _ := hsum
      clear hown hlt hXk hsum hA1 hB1 hC1 hA3 hB3 hC3 hD
      go_wp2_with fail
      go_quiet (first | (go_at_call_of 10 (some (⟨wc.heap.size, 0, none⟩ : Addr)); exact Calls.quiet_of_same ((qD _).mono fun _ _ h => ⟨h.1, h.2.symm⟩)) | (go_at_call_of 10 (some (⟨ba, oa, none⟩ : Addr)); exact Calls.quiet_of_same ((qA _).mono fun _ _ h => ⟨h.1, h.2.symm⟩)) | (go_at_call_of 10 (some (⟨bb, ob, none⟩ : Addr)); exact Calls.quiet_of_same ((qB _).mono fun _ _ h => ⟨h.1, h.2.symm⟩)) | (go_at_call_of 10 (some (⟨bc, oc, none⟩ : Addr)); exact Calls.quiet_of_same ((qC _).mono fun _ _ h => ⟨h.1, h.2.symm⟩)))
      go_wp2_with fail
      go_ret
      exact ⟨ret_bool (by rw [HQ.out]; simp), below_drewN d3 _⟩

/-- Nothing is common: no byte at all. -/
theorem has_zero {w : World} {a : Option Addr} {n c : Nat} {xs : List Int} (h : Has w a n c xs) : Has w a 0 c [] := h.take 0 (Nat.zero_le _)

set_option maxRecDepth 100000 in
set_option maxHeartbeats 2000000 in
theorem walk_zero (a0 : Option Addr) (la ca : Nat) (b0 : Option Addr) (lb cb : Nat) (c0 : Option Addr) (lc cc : Nat) (A B C : List Int) (w : World) (hN : min (min la 100) (min lb lc) = 0)
    (hA : Has w a0 la ca A) (hB : Has w b0 lb cb B) (hC : Has w c0 lc cc C) (T : Tab w := by assumption) :
    Calls Tryd.prog 7 #[.slice a0 la ca, .slice b0 lb cb, .slice c0 lc cc] w fun e w' => e = .returned (.bool true) ∧ Below w.heap.size w w' := by
  obtain ⟨i0, hi, hz0, hz1, hz2⟩ := info_parts info8
  have hca := hA.cap
  have hcb := hB.cap
  have hcc := hC.cap
  have hma := hA.max
  have hmb := hB.max
  have hmc := hC.max
  unfold maxLen at hma hmb hmc
  have hn5 : la = 0 ∨ lb = 0 ∨ lc = 0 := by omega
  clear hN
  go_enter Tryd.func7, Tryd.ntmps7
  go_wp2_with fail
  refine (begun_any _).mono ?_
  rintro e w1 ⟨rfl, b1⟩
  have T1 := T.later b1
  have hA1 := hA.later b1
  have hB1 := hB.later b1
  have hC1 := hC.later b1
  clear hA hB hC
  go_upto_region 4 with fail
  go_cut [8] (fun s8 wc => s8 = .int .i64 0 ∧ wc = w1)
  case first =>
    clear hA1 hB1 hC1
    rcases hn5 with rfl | rfl | rfl
    all_goals
      go_wp2_with fail
    all_goals
      go_meet
      exact ⟨by go_num, rfl⟩
  case rest =>
  obtain ⟨rfl, rfl⟩ := hcut
  clear hn5
  go_wp2_with (at_make; go_must (refine wpList_make_full _ rfl _ _ 22 rfl wc.heap.size 5 i0 (.int .u8 0) 1 Tryd.underlying22 hi hz0 hz1 _ _ _ _ 0 rfl rfl rfl rfl (by rw [hz2]; omega) (by unfold maxLen; omega) (Nat.le_refl _) ?_; intro w2 o2 g2))
  have e2 : Below wc.heap.size wc w2 := (Below.refl _ _).grown g2 (Nat.le_refl _) (fun k e => by cases e)
  have hD : Has w2 (some ⟨wc.heap.size, 0, none⟩) 0 0 [] := ⟨rfl, Nat.le_refl _, Nat.zero_le _, fun e => (by cases e), fun h => absurd h (by omega)⟩
  have hA2 := has_zero (hA1.later e2)
  have hB2 := has_zero (hB1.later e2)
  have hC2 := has_zero (hC1.later e2)
  have d2 : Below w.heap.size w w2 := b1.trans (e2.mono b1.size)
  have nA := hA1.nil
  have nB := hB1.nil
  have nC := hC1.nil
  have T2 := T.later d2
  have qT : ∀ m, Tab (w2.drewN m) := fun m => T2.later (below_drewN (Below.refl _ _) m)
  clear o2 g2 e2 b1
  refine wp_loop_rounds 1 ?_
  rw [rounds_succ]
  have yN : Bytes [] := fun x hx => by simp at hx
  have qD : ∀ m, Has (w2.drewN m) (some ⟨wc.heap.size, 0, none⟩) 0 0 [] := fun m => hD.later (below_drewN (Below.refl _ _) m)
  have qA : ∀ m, Has (w2.drewN m) a0 0 ca [] := fun m => hA2.later (below_drewN (Below.refl _ _) m)
  have qB : ∀ m, Has (w2.drewN m) b0 0 cb [] := fun m => hB2.later (below_drewN (Below.refl _ _) m)
  have qC : ∀ m, Has (w2.drewN m) c0 0 cc [] := fun m => hC2.later (below_drewN (Below.refl _ _) m)
  clear hD hA1 hB1 hC1 hA2 hB2 hC2
  rcases a0 with _ | a0
  all_goals try (obtain ⟨rfl, rfl⟩ := nA rfl)
  all_goals clear nA
  all_goals rcases b0 with _ | b0
  all_goals try (obtain ⟨rfl, rfl⟩ := nB rfl)
  all_goals clear nB
  all_goals rcases c0 with _ | c0
  all_goals try (obtain ⟨rfl, rfl⟩ := nC rfl)
  all_goals clear nC
  all_goals
    go_wp2_with fail
    go_quiet ((go_at_call 10; refine Calls.quiet_of_same ((sum_any _ _ _ [] _ ?_ yN (qT _)).mono fun _ _ h => ⟨h.1, h.2.symm⟩); first | exact qD _ | exact qA _ | exact qB _ | exact qC _))
    go_wp2_with fail
    go_ret
    exact ⟨rfl, below_drewN d2 _⟩

theorem walk (a0 : Option Addr) (len0 cap0 : Nat) (z0 : List Int) (a1 : Option Addr) (len1 cap1 : Nat) (z1 : List Int) (a2 : Option Addr) (len2 cap2 : Nat) (z2 : List Int) (w : World)
    (w0 : IsRow .u8 w a0 len0 cap0 z0) (w1 : IsRow .u8 w a1 len1 cap1 z1) (w2 : IsRow .u8 w a2 len2 cap2 z2) (T : Tab w := by assumption) :
    Calls Tryd.prog 7 #[.slice a0 len0 cap0, .slice a1 len1 cap1, .slice a2 len2 cap2] w fun e w' => e = .returned (.bool true) ∧ Below w.heap.size w w' := by
  obtain ⟨hA, yA⟩ := w0.has
  obtain ⟨hB, yB⟩ := w1.has
  obtain ⟨hC, yC⟩ := w2.has
  rcases Nat.eq_zero_or_pos (min (min len0 100) (min len1 len2)) with h0 | h0
  · exact walk_zero a0 len0 cap0 a1 len1 cap1 a2 len2 cap2 _ _ _ w h0 hA hB hC
  · obtain ⟨ba, oa, rfl, _, _⟩ := hA.cells (by omega)
    obtain ⟨bb, ob, rfl, _, _⟩ := hB.cells (by omega)
    obtain ⟨bc, oc, rfl, _, _⟩ := hC.cells (by omega)
    exact walk_some ba oa len0 cap0 bb ob len1 cap1 bc oc len2 cap2 _ _ _ _ w rfl h0 hA hB hC yA yB yC

/-! ### The row -/
theorem own : ownKnob Tryd.prog.godebug = none := by kernel_rfl
theorem laidOut : laidOutB Tryd.prog = true := by kernel_rfl
theorem contract (H : Type) (enc : TypeId × Value → H) (W : World) (base : Nat) (args : Array Value) (ds gs : List (DataW H)) (before : List MemPlace)
    (hval0 : ∀ (j : Nat) t v, Tryd.f7.params[j]? = some t → args[j]? = some v → Value.okWide Tryd.prog W .any base t v)
    (hW : DataW.Whole enc Tryd.prog Tryd.f7.params.toList Rows.crcThreeSpec.vars false W args.toList ds gs before) (hL : laidMetH Tryd.prog Rows.crcThreeRow.laid W) :
    Calls Tryd.prog 7 args W fun e W' => ∃ v, e = .returned v ∧ Rows.crcThreeSpec.post enc Tryd.prog Tryd.f7 false true false false W args v W' := by
  have hval : ∀ (j : Nat) t v, Tryd.f7.params[j]? = some t → args[j]? = some v → Value.okWide Tryd.prog W .any base t v := hval0
  have T : Tab W := tabOf hL
  have hW' := hW
  obtain ⟨p, q, hA0, hV, rfl, hfz, hnd⟩ := hW
  have hA : DataW.TrodAll enc Tryd.prog W 0 (fun _ => true) true Tryd.f7.params.toList args.toList ds p := hA0
  rw [Tryd.params7] at hA hval
  obtain ⟨v0, vs0, d0, ds0, p0, q0, hargs, rfl, rfl, h0, r0⟩ := trodAll_cons hA
  obtain ⟨v1, vs1, d1, ds1, p1, q1, rfl, rfl, rfl, h1, r1⟩ := trodAll_cons r0
  obtain ⟨v2, vs2, d2, ds2, p2, q2, rfl, rfl, rfl, h2, r2⟩ := trodAll_cons r1
  obtain ⟨rfl, rfl, rfl⟩ := trodAll_nil r2
  obtain rfl : args = #[v0, v1, v2] := by cases args; simp_all
  obtain ⟨rfl, rfl⟩ := trodVars_none hV
  obtain ⟨a0, len0, cap0, rfl⟩ := okWide_slice Tryd.underlying22 (hval 0 22 v0 rfl rfl)
  have k0 := h0
  have lt0 : ∀ x ∈ p0, x.block < W.heap.size := by obtain ⟨m, hm⟩ := k0; exact DataW.trod_lt m _ _ _ hm
  obtain ⟨z0, w0⟩ : ∃ zs, IsRow .u8 W a0 len0 cap0 zs := by
    obtain ⟨fuel, hf⟩ := h0
    rcases open_ints Tryd.underlying22 Tryd.underlying5 (by kernel_rfl) hf with ⟨hcs, _⟩ | ⟨x, l, c, zs, hcs, _, hl, hm, hz, _, hcell, hwz⟩
    · simp [Value.cells] at hcs
      obtain ⟨rfl, rfl, rfl⟩ := hcs
      exact ⟨[], .inl ⟨rfl, rfl, rfl, rfl⟩⟩
    · simp [Value.cells] at hcs
      obtain ⟨rfl, rfl, rfl⟩ := hcs
      exact ⟨zs, .inr ⟨_, rfl, hl, hm, by simpa using hz, hcell, hwz⟩⟩
  obtain ⟨a1, len1, cap1, rfl⟩ := okWide_slice Tryd.underlying22 (hval 1 22 v1 rfl rfl)
  have k1 := h1
  have lt1 : ∀ x ∈ p1, x.block < W.heap.size := by obtain ⟨m, hm⟩ := k1; exact DataW.trod_lt m _ _ _ hm
  obtain ⟨z1, w1⟩ : ∃ zs, IsRow .u8 W a1 len1 cap1 zs := by
    obtain ⟨fuel, hf⟩ := h1
    rcases open_ints Tryd.underlying22 Tryd.underlying5 (by kernel_rfl) hf with ⟨hcs, _⟩ | ⟨x, l, c, zs, hcs, _, hl, hm, hz, _, hcell, hwz⟩
    · simp [Value.cells] at hcs
      obtain ⟨rfl, rfl, rfl⟩ := hcs
      exact ⟨[], .inl ⟨rfl, rfl, rfl, rfl⟩⟩
    · simp [Value.cells] at hcs
      obtain ⟨rfl, rfl, rfl⟩ := hcs
      exact ⟨zs, .inr ⟨_, rfl, hl, hm, by simpa using hz, hcell, hwz⟩⟩
  obtain ⟨a2, len2, cap2, rfl⟩ := okWide_slice Tryd.underlying22 (hval 2 22 v2 rfl rfl)
  have k2 := h2
  have lt2 : ∀ x ∈ p2, x.block < W.heap.size := by obtain ⟨m, hm⟩ := k2; exact DataW.trod_lt m _ _ _ hm
  obtain ⟨z2, w2⟩ : ∃ zs, IsRow .u8 W a2 len2 cap2 zs := by
    obtain ⟨fuel, hf⟩ := h2
    rcases open_ints Tryd.underlying22 Tryd.underlying5 (by kernel_rfl) hf with ⟨hcs, _⟩ | ⟨x, l, c, zs, hcs, _, hl, hm, hz, _, hcell, hwz⟩
    · simp [Value.cells] at hcs
      obtain ⟨rfl, rfl, rfl⟩ := hcs
      exact ⟨[], .inl ⟨rfl, rfl, rfl, rfl⟩⟩
    · simp [Value.cells] at hcs
      obtain ⟨rfl, rfl, rfl⟩ := hcs
      exact ⟨zs, .inr ⟨_, rfl, hl, hm, by simpa using hz, hcell, hwz⟩⟩
  clear hA0 hval0
  refine (walk a0 len0 cap0 z0 a1 len1 cap1 z1 a2 len2 cap2 z2 W w0 w1 w2 T).mono fun e W' ⟨he, bel⟩ => ?_
  subst he
  exact ⟨_, rfl, _, _, _, [], _, [], hW', trodAll_mk1 (shut_bool Tryd.underlying4 _), (trodAll_cons_mk (Below.trod laidOut (by kernel_rfl) (of_decide_eq_true (by kernel_rfl)) k0 bel lt0) (trodAll_cons_mk (Below.trod laidOut (by kernel_rfl) (of_decide_eq_true (by kernel_rfl)) k1 bel lt1) (trodAll_cons_mk (Below.trod laidOut (by kernel_rfl) (of_decide_eq_true (by kernel_rfl)) k2 bel lt2) trodAll_mk0))), rfl, bel.frame _, fun h => by cases h⟩
theorem laid_met (os : Os) : laidMet Tryd.prog Rows.crcThreeRow.laid ((layTab (World.holding Tryd.prog os ⟨#[], #[], []⟩)).forCall (fun _ _ => 0) ⟨#[], #[.slice none 0 0, .slice none 0 0, .slice none 0 0], []⟩).memory :=
  laidMet_of_run' 8 (by kernel_rfl) (by kernel_rfl)
theorem reads (os : Os) {H : Type} (enc : TypeId × Value → H) : ∃ places, DataW.whole enc Tryd.prog ((layTab (World.holding Tryd.prog os ⟨#[], #[], []⟩)).forCall (fun _ _ => 0) ⟨#[], #[.slice none 0 0, .slice none 0 0, .slice none 0 0], []⟩).memory Tryd.f7.params.toList Rows.crcThreeSpec.vars false (#[.slice none 0 0, .slice none 0 0, .slice none 0 0] : Array Value).toList 8 = some ([.nil, .nil, .nil], [], places) :=
  ⟨[], by kernel_rfl⟩
set_option maxRecDepth 100000 in
theorem lifted (os : Os) (started : os.Started) (H : Type) (enc : TypeId × Value → H) (F : Stop.Interp) :
    ReturnsInHanded {} Tryd.checked os 7 .any ((OpenSpec.ofChange Rows.crcThreeSpec).preRow enc Tryd.prog Tryd.f7 Rows.crcThreeRow.domain false Rows.crcThreeRow.laid) (((OpenSpec.ofChange Rows.crcThreeSpec).at F).post enc Tryd.prog Tryd.f7 false true false false) := by
  obtain ⟨places, hx⟩ := reads os enc
  refine returnsInHanded_of_row (C := Tryd.checked) (s := OpenSpec.ofChange Rows.crcThreeSpec) own started (by kernel_rfl) Tryd.func7
    (witness_row_at (enc := enc) (C := Tryd.checked) false (layTab (World.holding Tryd.prog os ⟨#[], #[], []⟩)) #[.slice none 0 0, .slice none 0 0, .slice none 0 0] rfl (by kernel_rfl) (by kernel_rfl) (by kernel_rfl)
      (OpenSpec.preRow_of_cond 8 hx (by kernel_rfl) (fun k hk => by cases hk) (by kernel_rfl) (laid_met os))) ?_
  intro W base args ds gs before hval hW _ _ _ hL _ _
  exact contract H enc W base args ds gs before hval hW hL
theorem said : Rows.CrcThreeSaid :=
  OpenClaim.holds_of_cond 7 Tryd.f7 rfl rfl rfl rfl rfl rfl rfl ⟨rfl, rfl, rfl, rfl, rfl⟩ rfl rfl rfl rfl rfl (by kernel_rfl) Tryd.func7 (by kernel_rfl)
    (of_decide_eq_true (by kernel_rfl)) (by unfold Func.isWrapper; first | (rw [if_pos (by decide +kernel)]; kernel_rfl) | (rw [if_neg (by decide +kernel)]; exact ⟨rfl, rfl⟩))
    (fun os started H enc _ F => by rw [OpenClaim.pre_eq_preRow]; exact lifted os started H enc F)
theorem plain (f : FuncId) (fn : Func) (hf : Tryd.pinned.checked.prog.funcNamed "daguerre/daguerrelaw2.CrcThree" = some f) (hfn : Tryd.pinned.checked.prog.funcs[f]? = some fn) :
    false = Tryd.pinned.checked.prog.looks [] ∧ ∀ (j : Nat) t, fn.params[j]? = some t → Tryd.pinned.checked.prog.wantsStandIn t = false := by
  obtain rfl : f = 7 := Option.some.inj ((show Tryd.prog.funcNamed "daguerre/daguerrelaw2.CrcThree" = some 7 by kernel_rfl).symm.trans hf) |>.symm
  obtain rfl : fn = Tryd.f7 := (Option.some.inj (Tryd.func7.symm.trans hfn)).symm
  refine ⟨by kernel_rfl, fun j t ht => ?_⟩
  rw [Tryd.params7] at ht
  have hm := Array.mem_of_getElem? ht
  simp only [List.mem_toArray, List.mem_cons, List.not_mem_nil, or_false] at hm
  rcases hm with rfl | rfl | rfl
  · exact (show Tryd.prog.wantsStandIn 22 = false by kernel_rfl)
  · exact (show Tryd.prog.wantsStandIn 22 = false by kernel_rfl)
  · exact (show Tryd.prog.wantsStandIn 22 = false by kernel_rfl)
theorem card : Rows.CrcThreeCardSaid :=
  Claim7.holds_tied_plain_at .later [] _ _ _ _ said (fun _ h => by cases h) (by kernel_rfl) (fun _ h => by cases h) crcThree_row_tie rfl ⟨rfl, rfl⟩ (by kernel_rfl) rfl plain (by kernel_rfl)

end CrcThree

theorem crcThree_holds : Rows.CrcThreeCardSaid := CrcThree.card
#print axioms crcThree_holds
end Go.Proofs.YthnomabipbnnmaaDoor
