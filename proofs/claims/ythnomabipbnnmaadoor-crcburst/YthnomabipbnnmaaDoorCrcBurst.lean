/- For all bytes b and x and every place the law CrcBurst answers true: up to four bytes behind one another that were changed change the sum; no condition on the input. -/
import Derived.Test.YthnomabipbnnmaaDoorCards
import Derived.Test.YthnomabipbnnmaaDoorTie
import Derived.Test.YthnomabipbnnmaaDoorCrcBegun
import Derived.Test.YthnomabipbnnmaaDoorCrcLists
import Derived.WalkKit
import Derived.Deep.DeepHandedRow
import Derived.ProofKit
import Derived.OpenShut
import Derived.ShutString
import Derived.ChangeOld
import Derived.Below
import Derived.RegionTactic
namespace Go.Proofs.YthnomabipbnnmaaDoor
namespace CrcBurst
open Num Crc
open Go.ChangeShapes Go.WideShapes Go.ChangeAt Go.RowKit
open Go.ChangeMaps (open_string shut_string)
set_option linter.unusedVariables false

/-- Is there a byte that is not nought? -/
def nz (L : List Int) : Bool := L.any fun x => x != 0
theorem nz_nil : nz [] = false := rfl
theorem nz_snoc {X : List Int} {k : Nat} (hk : k < X.length) : nz (X.take (k + 1)) = (nz (X.take k) || (X.getD k 0 != 0)) := by
  unfold nz
  rw [List.take_succ_eq_append_getElem hk, List.any_append]
  simp [List.getD, List.getElem?_eq_getElem hk]
theorem nz_some {X : List Int} (y : Bytes X) (h : nz X = true) : ∃ v ∈ nats X, v ≠ 0 := by
  unfold nz at h
  obtain ⟨x, hx, h0⟩ := List.any_eq_true.1 h
  have := y x hx
  refine ⟨x.toNat, List.mem_map.2 ⟨x, hx, rfl⟩, ?_⟩
  simp at h0
  omega

set_option maxRecDepth 100000 in
set_option maxHeartbeats 1000000 in
theorem walk_none (a0 : Option Addr) (len0 cap0 : Nat) (a1 : Option Addr) (cap1 : Nat) (at' : Int) (B0 : List Int) (w : World) (hB0 : Has w a0 len0 cap0 B0) (hX0 : Has w a1 0 cap1 []) (hat : -9223372036854775808 ≤ at' ∧ at' ≤ 9223372036854775807) (T : Tab w := by assumption) :
    Calls Tryd.prog 4 #[.slice a0 len0 cap0, .int .i64 at', .slice a1 0 cap1] w fun e w' => e = .returned (.bool true) ∧ Below w.heap.size w w' := by
  go_enter Tryd.func4, Tryd.ntmps4
  go_wp2_with fail
  refine (begun_any _).mono ?_
  rintro e w1 ⟨rfl, b1⟩
  have T1 := T.later b1
  go_wp2_with fail
  refine (short_any a0 len0 cap0 B0 _ 200 200 rfl (by decide) (hB0.later b1)).mono ?_
  rintro e w2 ⟨rfl, rfl⟩
  go_wp2_with fail
  refine (short_any a1 0 cap1 [] _ 4 4 rfl (by decide) (hX0.later b1)).mono ?_
  rintro e w2 ⟨rfl, rfl⟩
  have hB := (hB0.later b1).take (min len0 200) (by omega)
  have hX := (hX0.later b1).take (min 0 4) (by omega)
  have hn0 : min len0 200 ≤ 200 := by omega
  rw [show min 0 4 = 0 by decide]
  clear hB hX hB0 hX0
  generalize min len0 200 = n0 at *
  go_wp2_with fail
  refine wp_loop_rounds 1 ?_
  rw [rounds_succ]
  by_cases h1 : at' < 0
  · go_wp2_with fail
    go_ret
    exact ⟨rfl, b1⟩
  · by_cases h2 : (n0 : Int) < at'
    · go_wp2_with fail
      go_ret
      exact ⟨rfl, b1⟩
    · go_wp2_with fail
      go_ret
      exact ⟨rfl, b1⟩

set_option maxRecDepth 100000 in
set_option maxHeartbeats 2000000 in
theorem walk_early (a0 : Option Addr) (len0 cap0 bx ox len1 cap1 : Nat) (at' : Int) (B0 X0 : List Int) (w : World) (h1 : 0 < len1) (hB0 : Has w a0 len0 cap0 B0) (hX0 : Has w (some ⟨bx, ox, none⟩) len1 cap1 X0) (yB0 : Bytes B0) (yX0 : Bytes X0)
    (hat : -9223372036854775808 ≤ at' ∧ at' ≤ 9223372036854775807) (hE : at' < 0 ∨ ((min len0 200 : Nat) : Int) - ((min len1 4 : Nat) : Int) < at' ∨ nz (X0.take (min len1 4)) = false) (T : Tab w := by assumption) :
    Calls Tryd.prog 4 #[.slice a0 len0 cap0, .int .i64 at', .slice (some ⟨bx, ox, none⟩) len1 cap1] w fun e w' => e = .returned (.bool true) ∧ Below w.heap.size w w' := by
  have HE : Hid _ := hE
  clear hE
  go_enter Tryd.func4, Tryd.ntmps4
  go_wp2_with fail
  refine (begun_any _).mono ?_
  rintro e w1 ⟨rfl, b1⟩
  have T1 := T.later b1
  go_wp2_with fail
  refine (short_any a0 len0 cap0 B0 _ 200 200 rfl (by decide) (hB0.later b1)).mono ?_
  rintro e w2 ⟨rfl, rfl⟩
  go_wp2_with fail
  refine (short_any _ len1 cap1 X0 _ 4 4 rfl (by decide) (hX0.later b1)).mono ?_
  rintro e w2 ⟨rfl, rfl⟩
  have hB := (hB0.later b1).take (min len0 200) (by omega)
  have hX := (hX0.later b1).take (min len1 4) (by omega)
  have yX := bytes_take yX0 (min len1 4)
  have yB := bytes_take yB0 (min len0 200)
  have hn0 : min len0 200 ≤ 200 := by omega
  have hn1 : min len1 4 ≤ 4 := by omega
  have hn1' : 0 < min len1 4 := by omega
  clear hB0 hX0 yX0 yB0
  generalize B0.take (min len0 200) = B at *
  generalize X0.take (min len1 4) = X at *
  generalize min len0 200 = n0 at *
  generalize min len1 4 = n1 at *
  have lX := hX.len
  have HL : Hid _ := lX
  clear lX
  obtain ⟨_, _, eX, ltX, qX⟩ := hX.cells hn1'
  simp only [Option.some.injEq, Addr.mk.injEq, and_true] at eX
  obtain ⟨rfl, rfl⟩ := eX
  go_wp2_with fail
  go_loop [8, 9] (fun s i => ∃ k : Nat, k ≤ n1 ∧ i = .int .i64 k ∧ s = .bool (nz (X.take k))) (fun _ i => n1 - (intOf i).toNat)
  case atStart => exact ⟨0, by omega, rfl, rfl⟩
  case round =>
    obtain ⟨k, hk, rfl, rfl⟩ := hrel
    by_cases hlt : k < n1
    · have cx := qX k hlt
      have hs := nz_snoc (show k < X.length by rw [HL.out]; exact hlt)
      have HS : Hid _ := hs
      clear qX hs 
      generalize X.getD k 0 = x at *
      cases hb : nz (X.take k)
      · rw [hb, Bool.false_or] at HS
        go_wp2_with fail
        go_round
        case rel => exact ⟨k + 1, by omega, by go_num, by rw [HS.out]⟩
        case measure => simp [intOf]; omega
      · rw [hb, Bool.true_or] at HS
        go_wp2_with fail
        go_round
        case rel => exact ⟨k + 1, by omega, by go_num, by rw [HS.out]⟩
        case measure => simp [intOf]; omega
    · have hkm : n1 = k := by omega
      subst hkm
      rw [List.take_of_length_le (by rw [HL.out]; exact Nat.le_refl _)]
      clear hlt hk
      by_cases h1 : at' < 0
      · go_wp2_with fail
        go_ret
        exact ⟨rfl, b1⟩
      · by_cases h2 : (n0 : Int) - (n1 : Int) < at'
        · go_wp2_with fail
          go_ret
          exact ⟨rfl, b1⟩
        · have h3 : nz X = false := by
            rcases HE.out with h | h | h
            · omega
            · omega
            · exact h
          go_wp2_with fail
          go_ret
          exact ⟨rfl, b1⟩

set_option maxRecDepth 100000 in
set_option maxHeartbeats 2000000 in
theorem walk_full (bb ob len0 cap0 bx ox len1 cap1 p : Nat) (B0 X0 : List Int) (w : World) (h1 : 0 < len1) (hB0 : Has w (some ⟨bb, ob, none⟩) len0 cap0 B0) (hX0 : Has w (some ⟨bx, ox, none⟩) len1 cap1 X0) (yB0 : Bytes B0) (yX0 : Bytes X0)
    (hat : p + min len1 4 ≤ min len0 200) (hE : nz (X0.take (min len1 4)) = true) (T : Tab w := by assumption) :
    Calls Tryd.prog 4 #[.slice (some ⟨bb, ob, none⟩) len0 cap0, .int .i64 p, .slice (some ⟨bx, ox, none⟩) len1 cap1] w fun e w' => e = .returned (.bool true) ∧ Below w.heap.size w w' := by
  obtain ⟨i0, hi, hz0, hz1, hz2⟩ := info_parts info8
  have HE : Hid _ := hE
  clear hE
  go_enter Tryd.func4, Tryd.ntmps4
  go_wp2_with fail
  refine (begun_any _).mono ?_
  rintro e w1 ⟨rfl, b1⟩
  have T1 := T.later b1
  go_wp2_with fail
  refine (short_any _ len0 cap0 B0 _ 200 200 rfl (by decide) (hB0.later b1)).mono ?_
  rintro e w2 ⟨rfl, rfl⟩
  go_wp2_with fail
  refine (short_any _ len1 cap1 X0 _ 4 4 rfl (by decide) (hX0.later b1)).mono ?_
  rintro e w2 ⟨rfl, rfl⟩
  have hB := (hB0.later b1).take (min len0 200) (by omega)
  have hX := (hX0.later b1).take (min len1 4) (by omega)
  have yX := bytes_take yX0 (min len1 4)
  have yB := bytes_take yB0 (min len0 200)
  have hn0 : min len0 200 ≤ 200 := by omega
  have hn1 : min len1 4 ≤ 4 := by omega
  have hn1' : 0 < min len1 4 := by omega
  clear hB0 hX0 yX0 yB0
  generalize B0.take (min len0 200) = B at *
  generalize X0.take (min len1 4) = X at *
  generalize min len0 200 = n0 at *
  generalize min len1 4 = n1 at *
  have lX := hX.len
  have HL : Hid _ := lX
  clear lX
  obtain ⟨_, _, eX, ltX, qX⟩ := hX.cells hn1'
  simp only [Option.some.injEq, Addr.mk.injEq, and_true] at eX
  obtain ⟨rfl, rfl⟩ := eX
  go_wp2_with fail
  go_loop [8, 9] (fun s i => ∃ k : Nat, k ≤ n1 ∧ i = .int .i64 k ∧ s = .bool (nz (X.take k))) (fun _ i => n1 - (intOf i).toNat)
  case atStart => exact ⟨0, by omega, rfl, rfl⟩
  case round =>
    obtain ⟨k, hk, rfl, rfl⟩ := hrel
    by_cases hlt : k < n1
    · have cx := qX k hlt
      have hs := nz_snoc (show k < X.length by rw [HL.out]; exact hlt)
      have HS : Hid _ := hs
      clear qX hs 
      generalize X.getD k 0 = x at *
      cases hb : nz (X.take k)
      · rw [hb, Bool.false_or] at HS
        go_wp2_with fail
        go_round
        case rel => exact ⟨k + 1, by omega, by go_num, by rw [HS.out]⟩
        case measure => simp [intOf]; omega
      · rw [hb, Bool.true_or] at HS
        go_wp2_with fail
        go_round
        case rel => exact ⟨k + 1, by omega, by go_num, by rw [HS.out]⟩
        case measure => simp [intOf]; omega
    · have hkm : n1 = k := by omega
      subst hkm
      rw [List.take_of_length_le (by rw [HL.out]; exact Nat.le_refl _)]
      clear hlt hk
      have h3 : nz X = true := HE.out
      have l1 : ¬ (p : Int) < 0 := by omega
      have l2 : ¬ (n0 : Int) - (n1 : Int) < (p : Int) := by omega
      have hBc := hB.cap
      go_wp2_with (at_builtin; go_must (refine wpList_append_lies _ rfl (.const (.slice none 0 0)) (.tmp 48) 22 rfl w1.heap.size 5 i0 (.int .u8 0) 1 1 Tryd.underlying22 hi hz0 hz1 hz2 rfl (by decide) (.slice none 0 0) 0 [] rfl (World.ownsRow_nil _ _ _ _) ⟨bb, ob, none⟩ n0 cap0 (cellsOf B) rfl (by rw [cellsOf_length, hB.len, Nat.mul_one]) (hB.news _ rfl) (cellsOf_one B) (by omega) (by unfold maxLen; omega) (by omega) (Nat.le_refl _) _ rfl ?_; intro gc cc w3 oc rc ac lc; simp only [Nat.zero_add, List.nil_append] at oc))
      have e3 : Below w1.heap.size w1 w3 := (Below.refl _ _).grown rc (Nat.le_refl _) (fun k e => by cases e)
      have hB3 := hB.later e3
      have hX3 := hX.later e3
      have d3 := b1.trans (e3.mono b1.size)
      have gl := (oc.lt gc rfl).1
      have lB := hB.len
      have sB := nats_small B yB
      have sX := nats_small X yX
      have o0 : w3.ownsRow w1.heap.size 5 1 (.slice (some ⟨gc, 0, none⟩) n0 cc) n0 (cellsOf (ints (cl (nats B) (nats X) p 0))) := by
        rw [cl_zero, ints_nats yB]; exact oc
      have HB : Hid _ := lB
      clear lB oc rc ac lc qX ltX
      go_loopw [11] (fun i wr => ∃ k : Nat, k ≤ n1 ∧ i = .int .i64 k ∧ wr.ownsRow w1.heap.size 5 1 (.slice (some ⟨gc, 0, none⟩) n0 cc) n0 (cellsOf (ints (cl (nats B) (nats X) p k))) ∧ Below w1.heap.size w1 wr) (fun i _ => n1 - (intOf i).toNat)
      case atStart => exact ⟨0, by omega, rfl, o0, e3⟩
      case round =>
        clear o0
        obtain ⟨k, hk, rfl, hown, hbel⟩ := hrel
        by_cases hlt : k < n1
        · obtain ⟨_, _, eX, ltX, qX⟩ := (hX.later hbel).cells hn1'
          simp only [Option.some.injEq, Addr.mk.injEq, and_true] at eX
          obtain ⟨rfl, rfl⟩ := eX
          have cx := qX k hlt
          have hkX : k < X.length := by rw [HL.out]; exact hlt
          have hpB : p + k < B.length := by rw [HB.out]; omega
          have hpN : p + k < (nats B).length := by rw [nats_length]; exact hpB
          have bx' := getD_bd yX hkX
          have bb' := getD_bd yB hpB
          obtain ⟨x, hx⟩ := Int.eq_ofNat_of_zero_le bx'.1
          obtain ⟨y, hy⟩ := Int.eq_ofNat_of_zero_le bb'.1
          rw [hx] at cx bx'
          rw [hy] at bb'
          have hst := cl_step (nats B) (nats X) p k hpN
          rw [nats_getD, nats_getD, hx, hy] at hst
          simp only [Int.toNat_natCast] at hst
          have cc0 : (cellsOf (ints (cl (nats B) (nats X) p k)))[p + k]? = some (.int .u8 (y : Int)) := by
            have e := cl_getElem? (nats B) (nats X) p k (p + k) hpN
            rw [if_neg (by omega), nats_getD, hy] at e
            simp only [Int.toNat_natCast] at e
            simp [cellsOf, ints, e]
          have cC := (hown.cellAt (p + k) (by omega)).trans cc0
          have fC := hown.frozenAt (p + k)
          have xo := xor_u8 y x (by omega) (by omega)
          have st := hown.stored (p + k) (.int .u8 ((y ^^^ x : Nat) : Int))
          have hset : (cellsOf (ints (cl (nats B) (nats X) p k))).set (p + k) (.int .u8 ((y ^^^ x : Nat) : Int)) = cellsOf (ints (cl (nats B) (nats X) p (k + 1))) := by
            rw [← hst, ← Crc.ints_set]
            simp [cellsOf, List.map_set]
          have st1 := st.1
          rw [hset] at st1
          have hb2 := hbel.setCell (p := ⟨gc, p + k, none⟩) gl (.int .u8 ((y ^^^ x : Nat) : Int))
          have HS : Hid _ := And.intro st1 hb2
          have l3 : (k : Int) < (n1 : Int) := by omega
          have l4 : (p : Int) + (k : Int) < (n0 : Int) := by omega
          have gne : ¬ gc = bx := by
            intro e
            have := (hX.cells hn1')
            obtain ⟨_, _, eX, lt, _⟩ := this
            simp only [Option.some.injEq, Addr.mk.injEq, and_true] at eX
            omega
          clear st st1 hset hb2 hown hst cc0 qX hx hy bx' bb' hkX hpB hpN
          generalize y ^^^ x = v at *
          go_wp2_with fail
          go_region
          all_goals
            go_wp2_with fail
            go_roundw
            case rel => exact ⟨k + 1, by omega, by go_num, HS.out.1, HS.out.2.drew⟩
            case measure => simp [intOf]; omega
        · have hkm : n1 = k := by omega
          subst hkm
          have lX : (nats X).length = n1 := by rw [nats_length, HL.out]
          have hC := Has.own hown
          have hB4 := hB.later hbel
          have d4 := b1.trans (hbel.mono b1.size)
          have T4 := T.later d4
          have hne : sum (nats B) ≠ sum (cl (nats B) (nats X) p n1) := by
            have := cl_burst (nats B) (nats X) p (by rw [lX, nats_length, HB.out]; omega) sX (by omega) (nz_some yX h3)
            rw [lX] at this
            exact this
          have t1 : (((sum (nats B) : Nat) : Int) != ((sum (cl (nats B) (nats X) p n1) : Nat) : Int)) = true := by rw [bne_iff_ne]; omega
          have yC : Bytes (ints (cl (nats B) (nats X) p n1)) := ints_bytes (cl_small sB sX)
          clear hown hlt hne lX hX hX3 hB3
          go_wp2_with fail
          refine (sum_any _ _ _ _ _ hB4 yB).mono ?_
          rintro e w5 ⟨rfl, rfl⟩
          go_wp2_with fail
          refine (sum_any _ _ _ _ _ hC yC).mono ?_
          rintro e w5 ⟨rfl, rfl⟩
          rw [nats_ints]
          go_wp2_with fail
          go_ret
          exact ⟨rfl, d4⟩

theorem walk (a0 : Option Addr) (len0 cap0 : Nat) (z0 : List Int) (at' : Int) (a1 : Option Addr) (len1 cap1 : Nat) (z1 : List Int) (w : World)
    (w0 : IsRow .u8 w a0 len0 cap0 z0) (w1 : (Lit.int .i64 at').wf = true) (w2 : IsRow .u8 w a1 len1 cap1 z1) (T : Tab w := by assumption) :
    Calls Tryd.prog 4 #[.slice a0 len0 cap0, .int .i64 at', .slice a1 len1 cap1] w fun e w' => e = .returned (.bool true) ∧ Below w.heap.size w w' := by
  obtain ⟨hB, yB⟩ := w0.has
  obtain ⟨hX, yX⟩ := w2.has
  have hat := bounds_i64 w1
  rcases Nat.eq_zero_or_pos len1 with h1 | h1
  · subst h1
    exact walk_none a0 len0 cap0 a1 cap1 at' _ w hB (by simpa using hX) hat
  · obtain ⟨bx, ox, rfl, _, _⟩ := hX.cells h1
    by_cases hE : at' < 0 ∨ ((min len0 200 : Nat) : Int) - ((min len1 4 : Nat) : Int) < at' ∨ nz ((z1.take len1).take (min len1 4)) = false
    · exact walk_early a0 len0 cap0 bx ox len1 cap1 at' _ _ w h1 hB hX yB yX hat hE
    · have h2 : ¬ at' < 0 := fun h => hE (.inl h)
      have h3 : ¬ ((min len0 200 : Nat) : Int) - ((min len1 4 : Nat) : Int) < at' := fun h => hE (.inr (.inl h))
      have h4 : nz ((z1.take len1).take (min len1 4)) = true := by
        cases h : nz ((z1.take len1).take (min len1 4))
        · exact absurd (.inr (.inr h)) hE
        · rfl
      obtain ⟨p, rfl⟩ := Int.eq_ofNat_of_zero_le (show 0 ≤ at' by omega)
      obtain ⟨bb, ob, rfl, _, _⟩ := hB.cells (by omega)
      exact walk_full bb ob len0 cap0 bx ox len1 cap1 p _ _ w h1 hB hX yB yX (by omega) h4

/-! ### The row -/
theorem own : ownKnob Tryd.prog.godebug = none := by kernel_rfl
theorem laidOut : laidOutB Tryd.prog = true := by kernel_rfl
theorem contract (H : Type) (enc : TypeId × Value → H) (W : World) (base : Nat) (args : Array Value) (ds gs : List (DataW H)) (before : List MemPlace)
    (hval0 : ∀ (j : Nat) t v, Tryd.f4.params[j]? = some t → args[j]? = some v → Value.okWide Tryd.prog W .any base t v)
    (hW : DataW.Whole enc Tryd.prog Tryd.f4.params.toList Rows.crcBurstSpec.vars false W args.toList ds gs before) (hL : laidMetH Tryd.prog Rows.crcBurstRow.laid W) :
    Calls Tryd.prog 4 args W fun e W' => ∃ v, e = .returned v ∧ Rows.crcBurstSpec.post enc Tryd.prog Tryd.f4 false true false false W args v W' := by
  have hval : ∀ (j : Nat) t v, Tryd.f4.params[j]? = some t → args[j]? = some v → Value.okWide Tryd.prog W .any base t v := hval0
  have T : Tab W := tabOf hL
  have hW' := hW
  obtain ⟨p, q, hA0, hV, rfl, hfz, hnd⟩ := hW
  have hA : DataW.TrodAll enc Tryd.prog W 0 (fun _ => true) true Tryd.f4.params.toList args.toList ds p := hA0
  rw [Tryd.params4] at hA hval
  obtain ⟨v0, vs0, d0, ds0, p0, q0, hargs, rfl, rfl, h0, r0⟩ := trodAll_cons hA
  obtain ⟨v1, vs1, d1, ds1, p1, q1, rfl, rfl, rfl, h1, r1⟩ := trodAll_cons r0
  obtain ⟨v2, vs2, d2, ds2, p2, q2, rfl, rfl, rfl, h2, r2⟩ := trodAll_cons r1
  obtain ⟨rfl, rfl, rfl⟩ := trodAll_nil r2
  obtain rfl : args = #[v0, v1, v2] := by cases args; simp_all
  obtain ⟨rfl, rfl⟩ := trodVars_none hV
  obtain ⟨a0, len0, cap0, rfl⟩ := okWide_slice Tryd.underlying22 (hval 0 22 v0 rfl rfl)
  have k0 := h0
  have lt0 : ∀ x ∈ p0, x.block < W.heap.size := by obtain ⟨m, hm⟩ := k0; exact DataW.trod_lt m _ _ _ hm
  obtain ⟨z0, w0⟩ : ∃ zs, IsRow .u8 W a0 len0 cap0 zs := by
    obtain ⟨fuel, hf⟩ := h0
    rcases open_ints Tryd.underlying22 Tryd.underlying5 (by kernel_rfl) hf with ⟨hcs, _⟩ | ⟨x, l, c, zs, hcs, _, hl, hm, hz, _, hcell, hwz⟩
    · simp [Value.cells] at hcs
      obtain ⟨rfl, rfl, rfl⟩ := hcs
      exact ⟨[], .inl ⟨rfl, rfl, rfl, rfl⟩⟩
    · simp [Value.cells] at hcs
      obtain ⟨rfl, rfl, rfl⟩ := hcs
      exact ⟨zs, .inr ⟨_, rfl, hl, hm, by simpa using hz, hcell, hwz⟩⟩
  obtain ⟨a1, rfl, rfl, rfl, w1⟩ := open_int Tryd.underlying3 (hval 1 3 v1 rfl rfl) h1
  obtain ⟨a2, len2, cap2, rfl⟩ := okWide_slice Tryd.underlying22 (hval 2 22 v2 rfl rfl)
  have k2 := h2
  have lt2 : ∀ x ∈ p2, x.block < W.heap.size := by obtain ⟨m, hm⟩ := k2; exact DataW.trod_lt m _ _ _ hm
  obtain ⟨z2, w2⟩ : ∃ zs, IsRow .u8 W a2 len2 cap2 zs := by
    obtain ⟨fuel, hf⟩ := h2
    rcases open_ints Tryd.underlying22 Tryd.underlying5 (by kernel_rfl) hf with ⟨hcs, _⟩ | ⟨x, l, c, zs, hcs, _, hl, hm, hz, _, hcell, hwz⟩
    · simp [Value.cells] at hcs
      obtain ⟨rfl, rfl, rfl⟩ := hcs
      exact ⟨[], .inl ⟨rfl, rfl, rfl, rfl⟩⟩
    · simp [Value.cells] at hcs
      obtain ⟨rfl, rfl, rfl⟩ := hcs
      exact ⟨zs, .inr ⟨_, rfl, hl, hm, by simpa using hz, hcell, hwz⟩⟩
  clear hA0 hval0
  refine (walk a0 len0 cap0 z0 a1 a2 len2 cap2 z2 W w0 w1 w2 T).mono fun e W' ⟨he, bel⟩ => ?_
  subst he
  exact ⟨_, rfl, _, _, _, [], _, [], hW', trodAll_mk1 (shut_bool Tryd.underlying4 _), (trodAll_cons_mk (Below.trod laidOut (by kernel_rfl) (of_decide_eq_true (by kernel_rfl)) k0 bel lt0) (trodAll_cons_mk (shut_int Tryd.underlying3 w1) (trodAll_cons_mk (Below.trod laidOut (by kernel_rfl) (of_decide_eq_true (by kernel_rfl)) k2 bel lt2) trodAll_mk0))), rfl, bel.frame _, fun h => by cases h⟩
theorem laid_met (os : Os) : laidMet Tryd.prog Rows.crcBurstRow.laid ((layTab (World.holding Tryd.prog os ⟨#[], #[], []⟩)).forCall (fun _ _ => 0) ⟨#[], #[.slice none 0 0, .int .i64 0, .slice none 0 0], []⟩).memory :=
  laidMet_of_run' 8 (by kernel_rfl) (by kernel_rfl)
theorem reads (os : Os) {H : Type} (enc : TypeId × Value → H) : ∃ places, DataW.whole enc Tryd.prog ((layTab (World.holding Tryd.prog os ⟨#[], #[], []⟩)).forCall (fun _ _ => 0) ⟨#[], #[.slice none 0 0, .int .i64 0, .slice none 0 0], []⟩).memory Tryd.f4.params.toList Rows.crcBurstSpec.vars false (#[.slice none 0 0, .int .i64 0, .slice none 0 0] : Array Value).toList 8 = some ([.nil, .lit (.int .i64 0), .nil], [], places) :=
  ⟨[], by kernel_rfl⟩
set_option maxRecDepth 100000 in
theorem lifted (os : Os) (started : os.Started) (H : Type) (enc : TypeId × Value → H) (F : Stop.Interp) :
    ReturnsInHanded {} Tryd.checked os 4 .any ((OpenSpec.ofChange Rows.crcBurstSpec).preRow enc Tryd.prog Tryd.f4 Rows.crcBurstRow.domain false Rows.crcBurstRow.laid) (((OpenSpec.ofChange Rows.crcBurstSpec).at F).post enc Tryd.prog Tryd.f4 false true false false) := by
  obtain ⟨places, hx⟩ := reads os enc
  refine returnsInHanded_of_row (C := Tryd.checked) (s := OpenSpec.ofChange Rows.crcBurstSpec) own started (by kernel_rfl) Tryd.func4
    (witness_row_at (enc := enc) (C := Tryd.checked) false (layTab (World.holding Tryd.prog os ⟨#[], #[], []⟩)) #[.slice none 0 0, .int .i64 0, .slice none 0 0] rfl (by kernel_rfl) (by kernel_rfl) (by kernel_rfl)
      (OpenSpec.preRow_of_cond 8 hx (by kernel_rfl) (fun k hk => by cases hk) (by kernel_rfl) (laid_met os))) ?_
  intro W base args ds gs before hval hW _ _ _ hL _ _
  exact contract H enc W base args ds gs before hval hW hL
theorem said : Rows.CrcBurstSaid :=
  OpenClaim.holds_of_cond 4 Tryd.f4 rfl rfl rfl rfl rfl rfl rfl ⟨rfl, rfl, rfl, rfl, rfl⟩ rfl rfl rfl rfl rfl (by kernel_rfl) Tryd.func4 (by kernel_rfl)
    (of_decide_eq_true (by kernel_rfl)) (by unfold Func.isWrapper; first | (rw [if_pos (by decide +kernel)]; kernel_rfl) | (rw [if_neg (by decide +kernel)]; exact ⟨rfl, rfl⟩))
    (fun os started H enc _ F => by rw [OpenClaim.pre_eq_preRow]; exact lifted os started H enc F)
theorem plain (f : FuncId) (fn : Func) (hf : Tryd.pinned.checked.prog.funcNamed "daguerre/daguerrelaw2.CrcBurst" = some f) (hfn : Tryd.pinned.checked.prog.funcs[f]? = some fn) :
    false = Tryd.pinned.checked.prog.looks [] ∧ ∀ (j : Nat) t, fn.params[j]? = some t → Tryd.pinned.checked.prog.wantsStandIn t = false := by
  obtain rfl : f = 4 := Option.some.inj ((show Tryd.prog.funcNamed "daguerre/daguerrelaw2.CrcBurst" = some 4 by kernel_rfl).symm.trans hf) |>.symm
  obtain rfl : fn = Tryd.f4 := (Option.some.inj (Tryd.func4.symm.trans hfn)).symm
  refine ⟨by kernel_rfl, fun j t ht => ?_⟩
  rw [Tryd.params4] at ht
  have hm := Array.mem_of_getElem? ht
  simp only [List.mem_toArray, List.mem_cons, List.not_mem_nil, or_false] at hm
  rcases hm with rfl | rfl | rfl
  · exact (show Tryd.prog.wantsStandIn 22 = false by kernel_rfl)
  · exact (show Tryd.prog.wantsStandIn 3 = false by kernel_rfl)
  · exact (show Tryd.prog.wantsStandIn 22 = false by kernel_rfl)
theorem card : Rows.CrcBurstCardSaid :=
  Claim7.holds_tied_plain_at .later [] _ _ _ _ said (fun _ h => by cases h) (by kernel_rfl) (fun _ h => by cases h) crcBurst_row_tie rfl ⟨rfl, rfl⟩ (by kernel_rfl) rfl plain (by kernel_rfl)

end CrcBurst

theorem crcBurst_holds : Rows.CrcBurstCardSaid := CrcBurst.card
#print axioms crcBurst_holds
end Go.Proofs.YthnomabipbnnmaaDoor
