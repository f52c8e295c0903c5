/- For all instructions a and b and bytes ahead and rest the law OpAll answers true; no condition on the input. -/
import Derived.Test.YtegamajcipgkhaaRows
import Derived.Test.YtegamajcipgkhaaOpBegun
import Derived.Test.YtegamajcipgkhaaOpCut
import Derived.Test.YtegamajcipgkhaaOpBox
import Derived.Test.YtegamajcipgkhaaOpEq
import Derived.Test.YtegamajcipgkhaaLibShort
import Derived.Test.YtegamajcipgkhaaLibStep
import Derived.Deep.RegionHeld
import Derived.Deep.CutRange
import Derived.Deep.DeepCutAuto
import Derived.WalkKit
import Derived.Lib.SmallJoins
import Derived.ProofKit
import Derived.OpenShut
import Derived.ShutString
import Derived.ChangeOld
import Derived.Below
namespace Go.Proofs.Ytegamajcipgkhaa
namespace OpAll
open Num Kind Op4
open Go.ChangeShapes Go.WideShapes Go.ChangeAt Go.RowKit
open Go.ChangeMaps (open_string shut_string)
set_option linter.unusedVariables false
set_option linter.unusedSimpArgs false

set_option maxRecDepth 100000 in
set_option maxHeartbeats 4000000 in
theorem walk (o a : Int) (c m : ByteArray) (o' a' : Int) (c' m' : ByteArray) (p0 : Option Addr) (n0 k0 : Nat) (z0 : List Int) (p1 : Option Addr) (n1 k1 : Nat) (z1 : List Int) (w : World)
    (ho : Is64 o) (ha : Is64 a) (hc : c.size ≤ maxLen) (hm : m.size ≤ maxLen) (ho' : Is64 o') (ha' : Is64 a') (hc' : c'.size ≤ maxLen) (hm' : m'.size ≤ maxLen)
    (w0 : IsRow .u8 w p0 n0 k0 z0) (w1 : IsRow .u8 w p1 n1 k1 z1) :
    Calls Try.prog 3 #[insV o a c m, insV o' a' c' m', .slice p0 n0 k0, .slice p1 n1 k1] w fun e w' => e = .returned (.bool true) ∧ Below w.heap.size w w' := by
  unfold insV
  obtain ⟨i0, hi, hz0, hz1, hz2⟩ := info_parts info8
  obtain ⟨hA, bA⟩ := w0.has
  obtain ⟨hR, bR⟩ := w1.has
  have hAw := hA.take (min n0 8) (by omega)
  have hRw := hR.take (min n1 8) (by omega)
  have bA2 := bytes_take bA (min n0 8)
  have bR2 := bytes_take bR (min n1 8)
  have HAw : Hid _ := hAw
  have HRw : Hid _ := hRw
  clear w0 w1 hAw hRw
  have d0 := ((Below.refl w.heap.size w).alloc (Nat.le_refl _) (.cells #[.int .i64 o, .int .i64 a, .string c, .string m] 23)).alloc (by simp) (.cells #[.int .i64 o', .int .i64 a', .string c', .string m'] 23)
  have X0 := (Box.new w o a c m 23).alloc (.cells #[.int .i64 o', .int .i64 a', .string c', .string m'] 23)
  have Y0 := Box.new (w.alloc (.cells #[.int .i64 o, .int .i64 a, .string c, .string m] 23)) o' a' c' m' 23
  rw [show (w.alloc (.cells #[.int .i64 o, .int .i64 a, .string c, .string m] 23)).heap.size = w.heap.size + 1 by simp] at Y0
  go_enter Try.func3, Try.ntmps3
  go_wp2_with fail
  refine (Op4.begun_any _).mono ?_
  rintro e w1 ⟨rfl, b1⟩
  have X1 := X0.later b1
  have Y1 := Y0.later b1
  have d1 := d0.trans (b1.mono d0.size)
  have hA1 := hA.later d1
  have hR1 := hR.later d1
  clear X0 Y0 d0 b1 hA hR
  go_upto_region 4 with fail
  go_cut [2, 3] (fun s2 s3 wc => s2 = .slice p0 (min n0 8) k0 ∧ s3 = .slice p1 (min n1 8) k1 ∧ Box wc w.heap.size o a (cutS c 14) (cutS m 12) ∧ Box wc (w.heap.size + 1) o' a' (cutS c' 14) (cutS m' 12) ∧ Below w.heap.size w wc)
  case first =>
    have kk : Below w1.heap.size w1 w1.drew := (Below.refl _ _).drew
    obtain ⟨xl, x0, x1, x2, x3, xf0, xf1, xf2, xf3⟩ := X1.later kk
    obtain ⟨yl, y0, y1, y2, y3, yf0, yf1, yf2, yf3⟩ := Y1.later kk
    go_region_with (first | (go_at_call_of 7 c; refine (cut_ins o a c m _ hc hm).mono ?_; rintro e w' ⟨rfl, b'⟩; have kk := kk.trans (b'.mono kk.size); obtain ⟨xl, x0, x1, x2, x3, xf0, xf1, xf2, xf3⟩ := X1.later kk; obtain ⟨yl, y0, y1, y2, y3, yf0, yf1, yf2, yf3⟩ := Y1.later kk; simp only [insV]) | (go_at_call_of 7 c'; refine (cut_ins o' a' c' m' _ hc' hm').mono ?_; rintro e w' ⟨rfl, b'⟩; have kk := kk.trans (b'.mono kk.size); obtain ⟨xl, x0, x1, x2, x3, xf0, xf1, xf2, xf3⟩ := X1.later kk; obtain ⟨yl, y0, y1, y2, y3, yf0, yf1, yf2, yf3⟩ := Y1.later kk; simp only [insV]) | (go_at_call_of 8 p0; refine (short_any p0 n0 k0 (z0.take n0) _ 8 8 rfl (by decide) (hA1.later kk)).mono ?_; rintro e w' ⟨rfl, rfl⟩) | (go_at_call_of 8 p1; refine (short_any p1 n1 k1 (z1.take n1) _ 8 8 rfl (by decide) (hR1.later kk)).mono ?_; rintro e w' ⟨rfl, rfl⟩))
    all_goals
      go_wp2_with fail
      go_meet
      have X2 := (X1.later kk).stored o a (cutS c 14) (cutS m 12)
      have Y2 := (Y1.later kk).other (Nat.succ_ne_self w.heap.size) o a (cutS c 14) (cutS m 12)
      have d2 := put4_below (put4_below (d1.trans (kk.mono d1.size)) (Nat.le_refl _) o a (cutS c 14) (cutS m 12)) (Nat.le_succ _) o' a' (cutS c' 14) (cutS m' 12)
      exact ⟨rfl, rfl, X2.other (Nat.succ_ne_self _).symm o' a' (cutS c' 14) (cutS m' 12), Y2.stored o' a' (cutS c' 14) (cutS m' 12), d2⟩
  case rest =>
  obtain ⟨rfl, rfl, X2, Y2, d2⟩ := hcut
  have sc := cutS_size c 14
  have sm := cutS_size m 12
  have sc' := cutS_size c' 14
  have sm' := cutS_size m' 12
  have hA2 := HAw.out.later d2
  have hR2 := HRw.out.later d2
  have hn0 : min n0 8 ≤ 8 := by omega
  have hn1 : min n1 8 ≤ 8 := by omega
  clear hc hm hc' hm' X1 Y1 hA1 hR1 bA bR d1 HAw HRw
  generalize (z0.take n0).take (min n0 8) = A at *
  generalize (z1.take n1).take (min n1 8) = R at *
  generalize min n0 8 = nA at *
  generalize min n1 8 = nR at *
  clear n0 n1 z0 z1
  generalize cutS c 14 = C at *
  generalize cutS m 12 = M at *
  generalize cutS c' 14 = C' at *
  generalize cutS m' 12 = M' at *
  have kC : C.size ≤ maxLen := by unfold maxLen; omega
  have kM : M.size ≤ maxLen := by unfold maxLen; omega
  have kC' : C'.size ≤ maxLen := by unfold maxLen; omega
  have kM' : M'.size ≤ maxLen := by unfold maxLen; omega
  generalize wc = W2 at *
  obtain ⟨xl, x0, x1, x2, x3, xf0, xf1, xf2, xf3⟩ := id X2
  go_wp2_with fail
  refine (may_ins o a C M _ kC kM).mono ?_
  rintro e w3 ⟨rfl, b3⟩
  have X3 := X2.later b3
  have Y3 := Y2.later b3
  have hA3 := hA2.later b3
  have hR3 := hR2.later b3
  have d3 := d2.trans (b3.mono d2.size)
  clear X2 Y2 hA2 hR2 d2 b3 xl x0 x1 x2 x3 xf0 xf1 xf2 xf3
  generalize hmay : mayIns o a (nums C) (nums M) = q at *
  have HM : Hid _ := hmay
  clear hmay
  go_upto_region 6 with fail
  go_cut [49] (fun s49 wc => s49 = .bool false ∧ Below w3.heap.size w3 wc)
  case first =>
    have kk : Below w3.heap.size w3 w3.drew := (Below.refl _ _).drew
    obtain ⟨xl, x0, x1, x2, x3, xf0, xf1, xf2, xf3⟩ := X3.later kk
    go_region_held (fun W' => W'.cell? ⟨w.heap.size, 0, none⟩ = some (.int .i64 o) ∧ W'.cell? ⟨w.heap.size, 1, none⟩ = some (.int .i64 a) ∧ W'.cell? ⟨w.heap.size, 2, none⟩ = some (.string C) ∧ W'.cell? ⟨w.heap.size, 3, none⟩ = some (.string M)) (first | assumption | exact ⟨x0, x1, x2, x3⟩) (first | (go_at_call 10; refine (omay_any o a C M _ kC kM).mono ?_; rintro e w' ⟨rfl, b'⟩; rw [HM.out]; have x0 := cellOn x0 b'; have x1 := cellOn x1 b'; have x2 := cellOn x2 b'; have x3 := cellOn x3 b'; have kk := kk.trans (b'.mono kk.size)) | (go_at_call 11; refine (ojumps_any o _).mono ?_; rintro e w' ⟨rfl, rfl⟩) | (go_at_call 12; refine (jumps_any o _).mono ?_; rintro e w' ⟨rfl, rfl⟩) | (go_at_call 13; refine (oends_any o _).mono ?_; rintro e w' ⟨rfl, rfl⟩) | (go_at_call 14; refine (ends_any o _).mono ?_; rintro e w' ⟨rfl, rfl⟩))
    all_goals
      go_wp2_with fail
      go_meet
      exact ⟨rfl, kk⟩
  case rest =>
  obtain ⟨rfl, b4⟩ := hcut
  generalize wc = w4 at *
  have X4 := X3.later b4
  have Y4 := Y3.later b4
  have hA4 := hA3.later b4
  have hR4 := hR3.later b4
  have d4 := d3.trans (b4.mono d3.size)
  clear X3 Y3 hA3 hR3 d3 b4
  cases q
  · go_wp2_with fail
    go_ret
    exact ⟨rfl, d4⟩
  · have tC : C.size ≤ 100 := by omega
    have tM : M.size ≤ 100 := by omega
    go_upto_region 10 with fail
    go_cut [11] (fun s11 wc => ∃ (g cap l : Nat), l = nA + (putI o a C M).length ∧ s11 = .slice (some ⟨g, 0, none⟩) l cap ∧ wc.ownsRow w4.heap.size 5 1 (.slice (some ⟨g, 0, none⟩) l cap) l (cellsOf (A ++ putI o a C M)) ∧ Below w4.heap.size w4 wc)
    case first =>
      have kk : Below w4.heap.size w4 w4.drew := (Below.refl _ _).drew
      obtain ⟨xl, x0, x1, x2, x3, xf0, xf1, xf2, xf3⟩ := X4.later kk
      go_region_law (first | (refine step_has rfl (.const (.slice none 0 0)) (.tmp 52) 24 rfl w4.heap.size i0 Try.underlying24 hi hz0 hz1 hz2 (.slice none 0 0) 0 [] (by simp [Act.eval]) (World.ownsRow_nil _ _ _ _) p0 nA k0 A (by simp [Act.eval, Act.put]) (hA4.later kk) (by omega) kk.size ?_; intro aE cE wE oE hE gE; simp only [Nat.zero_add, List.nil_append] at oE hE ⊢; have kE : Below w4.heap.size w4 wE := kk.grown gE kk.size (fun k e => by cases e); obtain ⟨xl, x0, x1, x2, x3, xf0, xf1, xf2, xf3⟩ := X4.later kE) | (go_simp; go_wp2_with (go_at_call 15; refine (oput_any aE nA cE A o a C M _ hE ho ha tC tM (by omega) HM.out).mono ?_; rintro e w' ⟨g, cap, l, hl, rfl, own, b'⟩; subst hl)))
      all_goals
        go_wp2_with fail
        go_meet
        exact ⟨g, cap, _, rfl, rfl, own_low own kE.size, kE.trans (b'.mono kE.size)⟩
    case rest =>
    obtain ⟨g, cap, l, hl, rfl, own5, b5⟩ := hcut
    generalize wc = w5 at *
    have X5 := X4.later b5
    have Y5 := Y4.later b5
    have hA5 := hA4.later b5
    have hR5 := hR4.later b5
    have d5 := d4.trans (b5.mono d4.size)
    have hP5 := Has.own own5
    clear X4 Y4 hA4 hR4 d4 b5 own5
    have hl5 := hP5.len
    have HL : Hid _ := hl
    clear hl hl5
    have hab : Bytes (A ++ putI o a C M) := bytes_append bA2 (putI_bytes o a C M ho ha tC tM)
    go_upto_region 11 with fail
    go_cut [64] (fun s64 wc => s64 = .bool false ∧ Below w5.heap.size w5 wc)
    case first =>
      have kk : Below w5.heap.size w5 w5.drew := (Below.refl _ _).drew
      obtain ⟨xl, x0, x1, x2, x3, xf0, xf1, xf2, xf3⟩ := X5.later kk
      have HA : Hid _ := hA5
      have HQ : Hid _ := hP5
      have lp := putI_len o a C M tC tM
      have hsum' : ¬ 9223372036854775807 < (strOfNums A).size + (strOfNums (putI o a C M)).size := by rw [strOfNums_size, strOfNums_size, hA5.len]; omega
      have heq : ((strOfNums (A ++ putI o a C M)).toList == (strOfNums A ++ strOfNums (putI o a C M)).toList) = true := by rw [str_append]; simp
      clear hA5 hP5 hR5 X5 Y5 lp
      go_region_held (fun W' => (W'.cell? ⟨w.heap.size, 0, none⟩ = some (.int .i64 o) ∧ W'.cell? ⟨w.heap.size, 1, none⟩ = some (.int .i64 a) ∧ W'.cell? ⟨w.heap.size, 2, none⟩ = some (.string C) ∧ W'.cell? ⟨w.heap.size, 3, none⟩ = some (.string M)) ∧ Sem.run Try.prog (convert 24 9 (.slice (some ⟨g, 0, none⟩) l cap)) W' = .ok (.string (strOfNums (A ++ putI o a C M))) W' ∧ Sem.run Try.prog (convert 24 9 (.slice p0 nA k0)) W' = .ok (.string (strOfNums A)) W') (first | assumption | exact ⟨⟨x0, x1, x2, x3⟩, (HQ.out.later kk).str, (HA.out.later kk).str⟩) (first | (go_at_call 16; refine (put_ins o a C M _ ho ha tC tM).mono ?_; rintro e w' ⟨g', c', n', hn', rfl, o', b'⟩; have x0 := cellOn x0 b'; have x1 := cellOn x1 b'; have x2 := cellOn x2 b'; have x3 := cellOn x3 b'; have kk := kk.trans (b'.mono kk.size); have sE' := (Has.own o').str; clear o' b' hn'))
      all_goals (go_wp2_with fail; go_meet; exact ⟨by simp, kk⟩)
    case rest =>
    obtain ⟨rfl, b6⟩ := hcut
    generalize wc = w6 at *
    have X6 := X5.later b6
    have Y6 := Y5.later b6
    have hA6 := hA5.later b6
    have hR6 := hR5.later b6
    have hP6 := hP5.later b6
    have d6 := d5.trans (b6.mono d5.size)
    clear X5 Y5 hA5 hR5 hP5 d5 b6
    have lp := putI_len o a C M tC tM
    have hlA := hA6.len
    have hcP := hP6.cap
    have hmP := hP6.max
    unfold maxLen at hmP
    have hlL : nA < l ∧ l ≤ 308 := by have := HL.out; omega
    have hneP : ¬ cap = nA := by omega
    have hD6 : Has w6 (some ⟨g, nA, none⟩) (l - nA) (cap - nA) (putI o a C M) := by
      have := hP6.drop nA (by omega)
      rw [Nat.zero_add, show (A ++ putI o a C M).drop nA = putI o a C M by rw [← hlA, List.drop_left]] at this
      exact this
    have HLL : Hid (l - nA = (putI o a C M).length) := by show _ = _; have := HL.out; omega
    have G := getI_put o a C M R HM.out ho ha tC tM
    have HG : Hid _ := G
    have HLA : Hid _ := hlA
    clear G lp hlA
    go_wp2_with (first | (at_builtin; refine wpList_has _ rfl (.const (.slice none 0 0)) (.tmp 69) 24 rfl w6.heap.size i0 Try.underlying24 hi hz0 hz1 hz2 _ 0 [] rfl (World.ownsRow_nil _ _ _ _) _ _ _ (putI o a C M) rfl hD6 (by omega) (Nat.le_refl _) ?_; intro aE cE w7 oE hE gE; simp only [Nat.zero_add, List.nil_append] at oE hE; have f7 : Below w6.heap.size w6 w7 := (Below.refl _ _).grown gE (Nat.le_refl _) (fun k e => by cases e); have hR7 := hR6.later f7) | (at_builtin; refine wpList_has _ rfl (.tmp 70) (.tmp 71) 24 rfl w6.heap.size i0 Try.underlying24 hi hz0 hz1 hz2 _ (l - nA) (putI o a C M) rfl oE _ _ _ R rfl hR7 (by omega) f7.size ?_; intro aF cF w8 oF hF gF))
    have f8 : Below w6.heap.size w6 w8 := f7.grown gF f7.size (fun k e => (oE.lt k e).1)
    clear hR7 oE hE gE f7 oF gF
    refine (oget_any _ _ _ _ _ hF (bytes_append (putI_bytes o a C M ho ha tC tM) bR2) (by omega)).mono ?_
    rintro e w9 ⟨rfl, b9⟩
    rw [HG.out]
    simp only [resI, insV, str_nums]
    have k9 := f8.trans (b9.mono f8.size)
    have X9 := (X6.later k9).alloc (.cells #[.int .i64 o, .int .i64 a, .string C, .string M] 23)
    have Y9 := (Y6.later k9).alloc (.cells #[.int .i64 o, .int .i64 a, .string C, .string M] 23)
    have Z9 := Box.new w9 o a C M 23
    have e9 := (Below.refl w9.heap.size w9).alloc (Nat.le_refl _) (.cells #[.int .i64 o, .int .i64 a, .string C, .string M] 23)
    have hD9 := (hD6.later k9).later e9
    have d9 := (d6.trans (k9.mono d6.size))
    have d9 := d9.trans (e9.mono d9.size)
    clear hF f8 b9 k9 X6 Y6 hA6 hR6 hP6 hD6 d6
    go_upto_region 14 with fail
    generalize w9.alloc (.cells #[.int .i64 o, .int .i64 a, .string C, .string M] 23) = W at *
    generalize w9.heap.size = bz at *
    have tC' : C'.size ≤ 100 := by omega
    have tM' : M'.size ≤ 100 := by omega
    have hk1 : IntKind.i64.wrap ((l : Int) - (nA : Int)) = ((putI o a C M).length : Int) := by rw [IntWalk.i64_in _ (by omega)]; have := HLL.out; omega
    have HD : Hid _ := hD9
    have kk : Below W.heap.size W W.drew := (Below.refl _ _).drew
    generalize hmay' : mayIns o' a' (nums C') (nums M') = q'
    have HM' : Hid _ := hmay'
    clear hD9 hmay'
    obtain ⟨_, x0, x1, x2, x3, _, _, _, _⟩ := X9.later kk
    obtain ⟨_, y0, y1, y2, y3, _, _, _, _⟩ := Y9.later kk
    obtain ⟨_, z0, z1, z2, z3, _, _, _, _⟩ := Z9.later kk
    cases q'
    · refine wp_region_held_drew (S := fun W' => (W'.cell? ⟨bz, 0, none⟩ = some (.int .i64 o) ∧ W'.cell? ⟨bz, 1, none⟩ = some (.int .i64 a) ∧ W'.cell? ⟨bz, 2, none⟩ = some (.string C) ∧ W'.cell? ⟨bz, 3, none⟩ = some (.string M)) ∧ (W'.cell? ⟨w.heap.size, 0, none⟩ = some (.int .i64 o) ∧ W'.cell? ⟨w.heap.size, 1, none⟩ = some (.int .i64 a) ∧ W'.cell? ⟨w.heap.size, 2, none⟩ = some (.string C) ∧ W'.cell? ⟨w.heap.size, 3, none⟩ = some (.string M)) ∧ (W'.cell? ⟨w.heap.size + 1, 0, none⟩ = some (.int .i64 o') ∧ W'.cell? ⟨w.heap.size + 1, 1, none⟩ = some (.int .i64 a') ∧ W'.cell? ⟨w.heap.size + 1, 2, none⟩ = some (.string C') ∧ W'.cell? ⟨w.heap.size + 1, 3, none⟩ = some (.string M'))) (by kernel_rfl) ?_ (fun hHeld => ?_)
      · exact ⟨⟨z0, z1, z2, z3⟩, ⟨x0, x1, x2, x3⟩, ⟨y0, y1, y2, y3⟩⟩
      refine wpAnyH_take (i := 0) (oi := ⟨some 77, _, _, _, _, _⟩) (v := ?_) rfl (by kernel_rfl) (by kernel_rfl) (by kernel_rfl) (fun _ _ _ h => h) (Or.inl ⟨by kernel_rfl, fun Wx hSw => ?_⟩) (by assumption) ?_
      rotate_left
      · ((try dsimp only at hSw); go_simp; try with_reducible rfl)
      simp only [Act.put, List.setIfInBounds_toArray, List.set_cons_zero, List.set_cons_succ]
      refine wpAnyH_take (i := 1) (oi := ⟨some 78, _, _, _, _, _⟩) (v := ?_) rfl (by kernel_rfl) (by kernel_rfl) (by kernel_rfl) (fun _ _ _ h => h) (Or.inl ⟨by kernel_rfl, fun Wx hSw => ?_⟩) (by assumption) ?_
      rotate_left
      · ((try dsimp only at hSw); go_simp; try with_reducible rfl)
      simp only [Act.put, List.setIfInBounds_toArray, List.set_cons_zero, List.set_cons_succ]
      refine wpAnyH_take (i := 2) (oi := ⟨some 79, _, _, _, _, _⟩) (v := ?_) rfl (by kernel_rfl) (by kernel_rfl) (by kernel_rfl) (fun _ _ _ h => h) (Or.inl ⟨by kernel_rfl, fun Wx hSw => ?_⟩) (by assumption) ?_
      rotate_left
      · ((try dsimp only at hSw); go_simp; try with_reducible rfl)
      simp only [Act.put, List.setIfInBounds_toArray, List.set_cons_zero, List.set_cons_succ]
      refine wpAnyH_take (i := 3) (oi := ⟨some 80, _, _, _, _, _⟩) (v := ?_) rfl (by kernel_rfl) (by kernel_rfl) (by kernel_rfl) (fun _ _ _ h => h) (Or.inl ⟨by kernel_rfl, fun Wx hSw => ?_⟩) (by assumption) ?_
      rotate_left
      · ((try dsimp only at hSw); go_simp; try with_reducible rfl)
      simp only [Act.put, List.setIfInBounds_toArray, List.set_cons_zero, List.set_cons_succ]
      refine wpAnyH_take (i := 4) (oi := ⟨some 81, _, _, _, _, _⟩) (v := ?_) rfl (by kernel_rfl) (by kernel_rfl) (by kernel_rfl) (fun _ _ _ h => h) (Or.inl ⟨by kernel_rfl, fun Wx hSw => ?_⟩) (by assumption) ?_
      rotate_left
      · ((try dsimp only at hSw); go_simp; try with_reducible rfl)
      simp only [Act.put, List.setIfInBounds_toArray, List.set_cons_zero, List.set_cons_succ]
      refine wpAnyH_take (i := 5) (oi := ⟨some 82, _, _, _, _, _⟩) (v := ?_) rfl (by kernel_rfl) (by kernel_rfl) (by kernel_rfl) (fun _ _ _ h => h) (Or.inl ⟨by kernel_rfl, fun Wx hSw => ?_⟩) (by assumption) ?_
      rotate_left
      · ((try dsimp only at hSw); go_simp; try with_reducible rfl)
      simp only [Act.put, List.setIfInBounds_toArray, List.set_cons_zero, List.set_cons_succ]
      refine wpAnyH_take (i := 6) (oi := ⟨some 83, _, _, _, _, _⟩) (v := ?_) rfl (by kernel_rfl) (by kernel_rfl) (by kernel_rfl) (fun _ _ _ h => h) (Or.inl ⟨by kernel_rfl, fun Wx hSw => ?_⟩) (by assumption) ?_
      rotate_left
      · ((try dsimp only at hSw); go_simp; try with_reducible rfl)
      simp only [Act.put, List.setIfInBounds_toArray, List.set_cons_zero, List.set_cons_succ]
      refine wpAnyH_take (i := 7) (oi := ⟨some 84, _, _, _, _, _⟩) (v := ?_) rfl (by kernel_rfl) (by kernel_rfl) (by kernel_rfl) (fun _ _ _ h => h) (Or.inl ⟨by kernel_rfl, fun Wx hSw => ?_⟩) (by assumption) ?_
      rotate_left
      · ((try dsimp only at hSw); go_simp; try with_reducible rfl)
      simp only [Act.put, List.setIfInBounds_toArray, List.set_cons_zero, List.set_cons_succ]
      refine wpAnyH_take (i := 8) (oi := ⟨some 85, _, _, _, _, _⟩) (v := ?_) rfl (by kernel_rfl) (by kernel_rfl) (by kernel_rfl) (fun _ _ _ h => h) (Or.inl ⟨by kernel_rfl, fun Wx hSw => ?_⟩) (by assumption) ?_
      rotate_left
      · ((try dsimp only at hSw); go_simp; try with_reducible rfl)
      simp only [Act.put, List.setIfInBounds_toArray, List.set_cons_zero, List.set_cons_succ]
      refine wpAnyH_take (i := 9) (oi := ⟨some 86, _, _, _, _, _⟩) (v := ?_) rfl (by kernel_rfl) (by kernel_rfl) (by kernel_rfl) (fun _ _ _ h => h) (Or.inl ⟨by kernel_rfl, fun Wx hSw => ?_⟩) (by assumption) ?_
      rotate_left
      · ((try dsimp only at hSw); go_simp; try with_reducible rfl)
      simp only [Act.put, List.setIfInBounds_toArray, List.set_cons_zero, List.set_cons_succ]
      refine wpAnyH_take (i := 10) (oi := ⟨some 87, _, _, _, _, _⟩) (v := ?_) rfl (by kernel_rfl) (by kernel_rfl) (by kernel_rfl) (fun _ _ _ h => h) (Or.inl ⟨by kernel_rfl, fun Wx hSw => ?_⟩) (by assumption) ?_
      rotate_left
      · ((try dsimp only at hSw); go_simp; try with_reducible rfl)
      simp only [Act.put, List.setIfInBounds_toArray, List.set_cons_zero, List.set_cons_succ]
      refine wpAnyH_take (i := 11) (oi := ⟨some 88, _, _, _, _, _⟩) (v := ?_) rfl (by kernel_rfl) (by kernel_rfl) (by kernel_rfl) (fun _ _ _ h => h) (Or.inl ⟨by kernel_rfl, fun Wx hSw => ?_⟩) (by assumption) ?_
      rotate_left
      · ((try dsimp only at hSw); go_simp; try with_reducible rfl)
      simp only [Act.put, List.setIfInBounds_toArray, List.set_cons_zero, List.set_cons_succ]
      refine wpAnyH_take (i := 12) (oi := ⟨some 89, _, _, _, _, _⟩) (v := ?_) rfl (by kernel_rfl) (by kernel_rfl) (by kernel_rfl) (fun _ _ _ h => h) (Or.inl ⟨by kernel_rfl, fun Wx hSw => ?_⟩) (by assumption) ?_
      rotate_left
      · ((try dsimp only at hSw); go_simp; try with_reducible rfl)
      simp only [Act.put, List.setIfInBounds_toArray, List.set_cons_zero, List.set_cons_succ]
      refine wpAnyH_take (i := 13) (oi := ⟨some 90, _, _, _, _, _⟩) (v := ?_) rfl (by kernel_rfl) (by kernel_rfl) (by kernel_rfl) (fun _ _ _ h => h) (Or.inl ⟨by kernel_rfl, fun Wx hSw => ?_⟩) (by assumption) ?_
      rotate_left
      · ((try dsimp only at hSw); go_simp; try with_reducible rfl)
      simp only [Act.put, List.setIfInBounds_toArray, List.set_cons_zero, List.set_cons_succ]
      refine wpAnyH_ready (rs := [14]) (by kernel_rfl) (by simp) ?_
      refine AllReadyH.cons (o := ⟨some 91, _, _, _, _, _⟩) rfl (fun K hK => ?_) AllReadyH.nil
      go_simp
      go_wp2_with (go_at_call 18; refine (eq_any o a C M o a C M _).mono ?_; rintro e w' ⟨rfl, b'⟩; rw [eqB_self]; have kk := kk.trans (b'.mono kk.size); obtain ⟨_, x0, x1, x2, x3, _, _, _, _⟩ := X9.later kk; obtain ⟨_, y0, y1, y2, y3, _, _, _, _⟩ := Y9.later kk; obtain ⟨_, z0, z1, z2, z3, _, _, _, _⟩ := Z9.later kk)
      refine hK.out _ _ ⟨⟨z0, z1, z2, z3⟩, ⟨x0, x1, x2, x3⟩, ⟨y0, y1, y2, y3⟩⟩ (fun hHeld => ?_)
      clear hK K
      refine wpAnyH_take (i := 15) (oi := ⟨some 92, _, _, _, _, _⟩) (v := ?_) rfl (by kernel_rfl) (by kernel_rfl) (by kernel_rfl) (fun _ _ _ h => h) (Or.inl ⟨by kernel_rfl, fun Wx hSw => ?_⟩) (by assumption) ?_
      rotate_left
      · ((try dsimp only at hSw); go_simp; try with_reducible rfl)
      simp only [Act.put, List.setIfInBounds_toArray, List.set_cons_zero, List.set_cons_succ]
      refine wpAnyH_take (i := 16) (oi := ⟨some 93, _, _, _, _, _⟩) (v := ?_) rfl (by kernel_rfl) (by kernel_rfl) (by kernel_rfl) (fun _ _ _ h => h) (Or.inl ⟨by kernel_rfl, fun Wx hSw => ?_⟩) (by assumption) ?_
      rotate_left
      · ((try dsimp only at hSw); go_simp; try with_reducible rfl)
      simp only [Act.put, List.setIfInBounds_toArray, List.set_cons_zero, List.set_cons_succ]
      refine wpAnyH_take (i := 17) (oi := ⟨some 94, _, _, _, _, _⟩) (v := ?_) rfl (by kernel_rfl) (by kernel_rfl) (by kernel_rfl) (fun _ _ _ h => h) (Or.inl ⟨by kernel_rfl, fun Wx hSw => ?_⟩) (by assumption) ?_
      rotate_left
      · ((try dsimp only at hSw); go_simp; try with_reducible rfl)
      simp only [Act.put, List.setIfInBounds_toArray, List.set_cons_zero, List.set_cons_succ]
      refine wpAnyH_ready (rs := [18]) (by kernel_rfl) (by simp) ?_
      refine AllReadyH.cons (o := ⟨some 95, _, _, _, _, _⟩) rfl (fun K hK => ?_) AllReadyH.nil
      go_simp
      go_wp2_with (go_at_call 9; refine (may_ins o' a' C' M' _ kC' kM').mono ?_; rintro e w' ⟨rfl, b'⟩; rw [HM'.out]; have kk := kk.trans (b'.mono kk.size); obtain ⟨_, x0, x1, x2, x3, _, _, _, _⟩ := X9.later kk; obtain ⟨_, y0, y1, y2, y3, _, _, _, _⟩ := Y9.later kk; obtain ⟨_, z0, z1, z2, z3, _, _, _, _⟩ := Z9.later kk)
      refine hK.out _ _ ⟨⟨z0, z1, z2, z3⟩, ⟨x0, x1, x2, x3⟩, ⟨y0, y1, y2, y3⟩⟩ (fun hHeld => ?_)
      clear hK K
      refine wpAnyH_take (i := 19) (oi := ⟨some 96, _, _, _, _, _⟩) (v := ?_) rfl (by kernel_rfl) (by kernel_rfl) (by kernel_rfl) (fun _ _ _ h => h) (Or.inl ⟨by kernel_rfl, fun Wx hSw => ?_⟩) (by assumption) ?_
      rotate_left
      · ((try dsimp only at hSw); go_simp; try with_reducible rfl)
      simp only [Act.put, List.setIfInBounds_toArray, List.set_cons_zero, List.set_cons_succ]
      refine wpAnyH_take (i := 20) (oi := ⟨some 97, _, _, _, _, _⟩) (v := ?_) rfl (by kernel_rfl) (by kernel_rfl) (by kernel_rfl) (fun _ _ _ h => h) (Or.inl ⟨by kernel_rfl, fun Wx hSw => ?_⟩) (by assumption) ?_
      rotate_left
      · ((try dsimp only at hSw); go_simp; try with_reducible rfl)
      simp only [Act.put, List.setIfInBounds_toArray, List.set_cons_zero, List.set_cons_succ]
      refine wpAnyH_take (i := 21) (oi := ⟨some 98, _, _, _, _, _⟩) (v := undef) rfl (by kernel_rfl) (by kernel_rfl) (by kernel_rfl) (fun _ _ _ h => h) (Or.inr ⟨by kernel_rfl, rfl⟩) (by assumption) ?_
      simp only [Act.put, List.setIfInBounds_toArray, List.set_cons_zero, List.set_cons_succ]
      refine wpAnyH_take (i := 22) (oi := ⟨some 99, _, _, _, _, _⟩) (v := undef) rfl (by kernel_rfl) (by kernel_rfl) (by kernel_rfl) (fun _ _ _ h => h) (Or.inr ⟨by kernel_rfl, rfl⟩) (by assumption) ?_
      simp only [Act.put, List.setIfInBounds_toArray, List.set_cons_zero, List.set_cons_succ]
      refine wpAnyH_take (i := 23) (oi := ⟨some 100, _, _, _, _, _⟩) (v := undef) rfl (by kernel_rfl) (by kernel_rfl) (by kernel_rfl) (fun _ _ _ h => h) (Or.inr ⟨by kernel_rfl, rfl⟩) (by assumption) ?_
      simp only [Act.put, List.setIfInBounds_toArray, List.set_cons_zero, List.set_cons_succ]
      refine wpAnyH_take (i := 24) (oi := ⟨some 101, _, _, _, _, _⟩) (v := undef) rfl (by kernel_rfl) (by kernel_rfl) (by kernel_rfl) (fun _ _ _ h => h) (Or.inr ⟨by kernel_rfl, rfl⟩) (by assumption) ?_
      simp only [Act.put, List.setIfInBounds_toArray, List.set_cons_zero, List.set_cons_succ]
      refine wpAnyH_take (i := 25) (oi := ⟨some 102, _, _, _, _, _⟩) (v := undef) rfl (by kernel_rfl) (by kernel_rfl) (by kernel_rfl) (fun _ _ _ h => h) (Or.inr ⟨by kernel_rfl, rfl⟩) (by assumption) ?_
      simp only [Act.put, List.setIfInBounds_toArray, List.set_cons_zero, List.set_cons_succ]
      refine wpAnyH_take (i := 26) (oi := ⟨some 103, _, _, _, _, _⟩) (v := undef) rfl (by kernel_rfl) (by kernel_rfl) (by kernel_rfl) (fun _ _ _ h => h) (Or.inr ⟨by kernel_rfl, rfl⟩) (by assumption) ?_
      simp only [Act.put, List.setIfInBounds_toArray, List.set_cons_zero, List.set_cons_succ]
      refine wpAnyH_take (i := 27) (oi := ⟨some 104, _, _, _, _, _⟩) (v := undef) rfl (by kernel_rfl) (by kernel_rfl) (by kernel_rfl) (fun _ _ _ h => h) (Or.inr ⟨by kernel_rfl, rfl⟩) (by assumption) ?_
      simp only [Act.put, List.setIfInBounds_toArray, List.set_cons_zero, List.set_cons_succ]
      refine wpAnyH_take (i := 28) (oi := ⟨some 105, _, _, _, _, _⟩) (v := undef) rfl (by kernel_rfl) (by kernel_rfl) (by kernel_rfl) (fun _ _ _ h => h) (Or.inr ⟨by kernel_rfl, rfl⟩) (by assumption) ?_
      simp only [Act.put, List.setIfInBounds_toArray, List.set_cons_zero, List.set_cons_succ]
      refine wpAnyH_take (i := 29) (oi := ⟨some 106, _, _, _, _, _⟩) (v := undef) rfl (by kernel_rfl) (by kernel_rfl) (by kernel_rfl) (fun _ _ _ h => h) (Or.inr ⟨by kernel_rfl, rfl⟩) (by assumption) ?_
      simp only [Act.put, List.setIfInBounds_toArray, List.set_cons_zero, List.set_cons_succ]
      refine wpAnyH_take (i := 30) (oi := ⟨some 107, _, _, _, _, _⟩) (v := undef) rfl (by kernel_rfl) (by kernel_rfl) (by kernel_rfl) (fun _ _ _ h => h) (Or.inr ⟨by kernel_rfl, rfl⟩) (by assumption) ?_
      simp only [Act.put, List.setIfInBounds_toArray, List.set_cons_zero, List.set_cons_succ]
      refine wpAnyH_take (i := 31) (oi := ⟨some 108, _, _, _, _, _⟩) (v := undef) rfl (by kernel_rfl) (by kernel_rfl) (by kernel_rfl) (fun _ _ _ h => h) (Or.inr ⟨by kernel_rfl, rfl⟩) (by assumption) ?_
      simp only [Act.put, List.setIfInBounds_toArray, List.set_cons_zero, List.set_cons_succ]
      refine wpAnyH_take (i := 32) (oi := ⟨some 109, _, _, _, _, _⟩) (v := undef) rfl (by kernel_rfl) (by kernel_rfl) (by kernel_rfl) (fun _ _ _ h => h) (Or.inr ⟨by kernel_rfl, rfl⟩) (by assumption) ?_
      simp only [Act.put, List.setIfInBounds_toArray, List.set_cons_zero, List.set_cons_succ]
      refine wpAnyH_take (i := 33) (oi := ⟨some 110, _, _, _, _, _⟩) (v := undef) rfl (by kernel_rfl) (by kernel_rfl) (by kernel_rfl) (fun _ _ _ h => h) (Or.inr ⟨by kernel_rfl, rfl⟩) (by assumption) ?_
      simp only [Act.put, List.setIfInBounds_toArray, List.set_cons_zero, List.set_cons_succ]
      refine wpAnyH_take (i := 34) (oi := ⟨some 111, _, _, _, _, _⟩) (v := ?_) rfl (by kernel_rfl) (by kernel_rfl) (by kernel_rfl) (fun _ _ _ h => h) (Or.inl ⟨by kernel_rfl, fun Wx hSw => ?_⟩) (by assumption) ?_
      rotate_left
      · ((try dsimp only at hSw); go_simp; try with_reducible rfl)
      simp only [Act.put, List.setIfInBounds_toArray, List.set_cons_zero, List.set_cons_succ]
      refine wpAnyH_take (i := 35) (oi := ⟨some 112, _, _, _, _, _⟩) (v := ?_) rfl (by kernel_rfl) (by kernel_rfl) (by kernel_rfl) (fun _ _ _ h => h) (Or.inl ⟨by kernel_rfl, fun Wx hSw => ?_⟩) (by assumption) ?_
      rotate_left
      · ((try dsimp only at hSw); go_simp; try with_reducible rfl)
      simp only [Act.put, List.setIfInBounds_toArray, List.set_cons_zero, List.set_cons_succ]
      refine wpAnyH_take (i := 36) (oi := ⟨some 8, _, _, _, _, _⟩) (v := ?_) rfl (by kernel_rfl) (by kernel_rfl) (by kernel_rfl) (fun _ _ _ h => h) (Or.inl ⟨by kernel_rfl, fun Wx hSw => ?_⟩) (by assumption) ?_
      rotate_left
      · ((try dsimp only at hSw); go_simp; try with_reducible rfl)
      simp only [Act.put, List.setIfInBounds_toArray, List.set_cons_zero, List.set_cons_succ]
      refine wpAnyH_done (by kernel_rfl) ?_ _
      go_wp2_with fail
      go_ret
      exact ⟨rfl, d9.trans (kk.mono d9.size)⟩
    · have HE := put_eq o a C M o' a' C' M' HM.out HM'.out ho ha tC tM ho' ha' tC' tM'
      have hle : nA ≤ l := by omega
      refine wp_region_held_drew (S := fun W' => (W'.cell? ⟨bz, 0, none⟩ = some (.int .i64 o) ∧ W'.cell? ⟨bz, 1, none⟩ = some (.int .i64 a) ∧ W'.cell? ⟨bz, 2, none⟩ = some (.string C) ∧ W'.cell? ⟨bz, 3, none⟩ = some (.string M)) ∧ (W'.cell? ⟨w.heap.size, 0, none⟩ = some (.int .i64 o) ∧ W'.cell? ⟨w.heap.size, 1, none⟩ = some (.int .i64 a) ∧ W'.cell? ⟨w.heap.size, 2, none⟩ = some (.string C) ∧ W'.cell? ⟨w.heap.size, 3, none⟩ = some (.string M)) ∧ (W'.cell? ⟨w.heap.size + 1, 0, none⟩ = some (.int .i64 o') ∧ W'.cell? ⟨w.heap.size + 1, 1, none⟩ = some (.int .i64 a') ∧ W'.cell? ⟨w.heap.size + 1, 2, none⟩ = some (.string C') ∧ W'.cell? ⟨w.heap.size + 1, 3, none⟩ = some (.string M')) ∧ Sem.run Try.prog (convert 24 9 (.slice (some ⟨g, nA, none⟩) (l - nA) (cap - nA))) W' = .ok (.string (strOfNums (putI o a C M))) W') (by kernel_rfl) ?_ (fun hHeld => ?_)
      · exact ⟨⟨z0, z1, z2, z3⟩, ⟨x0, x1, x2, x3⟩, ⟨y0, y1, y2, y3⟩, (HD.out.later kk).str⟩
      refine wpAnyH_take (i := 0) (oi := ⟨some 77, _, _, _, _, _⟩) (v := ?_) rfl (by kernel_rfl) (by kernel_rfl) (by kernel_rfl) (fun _ _ _ h => h) (Or.inl ⟨by kernel_rfl, fun Wx hSw => ?_⟩) (by assumption) ?_
      rotate_left
      · ((try dsimp only at hSw); go_simp; try with_reducible rfl)
      simp only [Act.put, List.setIfInBounds_toArray, List.set_cons_zero, List.set_cons_succ]
      refine wpAnyH_take (i := 1) (oi := ⟨some 78, _, _, _, _, _⟩) (v := ?_) rfl (by kernel_rfl) (by kernel_rfl) (by kernel_rfl) (fun _ _ _ h => h) (Or.inl ⟨by kernel_rfl, fun Wx hSw => ?_⟩) (by assumption) ?_
      rotate_left
      · ((try dsimp only at hSw); go_simp; try with_reducible rfl)
      simp only [Act.put, List.setIfInBounds_toArray, List.set_cons_zero, List.set_cons_succ]
      refine wpAnyH_take (i := 2) (oi := ⟨some 79, _, _, _, _, _⟩) (v := ?_) rfl (by kernel_rfl) (by kernel_rfl) (by kernel_rfl) (fun _ _ _ h => h) (Or.inl ⟨by kernel_rfl, fun Wx hSw => ?_⟩) (by assumption) ?_
      rotate_left
      · ((try dsimp only at hSw); go_simp; try with_reducible rfl)
      simp only [Act.put, List.setIfInBounds_toArray, List.set_cons_zero, List.set_cons_succ]
      refine wpAnyH_take (i := 3) (oi := ⟨some 80, _, _, _, _, _⟩) (v := ?_) rfl (by kernel_rfl) (by kernel_rfl) (by kernel_rfl) (fun _ _ _ h => h) (Or.inl ⟨by kernel_rfl, fun Wx hSw => ?_⟩) (by assumption) ?_
      rotate_left
      · ((try dsimp only at hSw); go_simp; try with_reducible rfl)
      simp only [Act.put, List.setIfInBounds_toArray, List.set_cons_zero, List.set_cons_succ]
      refine wpAnyH_take (i := 4) (oi := ⟨some 81, _, _, _, _, _⟩) (v := ?_) rfl (by kernel_rfl) (by kernel_rfl) (by kernel_rfl) (fun _ _ _ h => h) (Or.inl ⟨by kernel_rfl, fun Wx hSw => ?_⟩) (by assumption) ?_
      rotate_left
      · ((try dsimp only at hSw); go_simp; try with_reducible rfl)
      simp only [Act.put, List.setIfInBounds_toArray, List.set_cons_zero, List.set_cons_succ]
      refine wpAnyH_take (i := 5) (oi := ⟨some 82, _, _, _, _, _⟩) (v := ?_) rfl (by kernel_rfl) (by kernel_rfl) (by kernel_rfl) (fun _ _ _ h => h) (Or.inl ⟨by kernel_rfl, fun Wx hSw => ?_⟩) (by assumption) ?_
      rotate_left
      · ((try dsimp only at hSw); go_simp; try with_reducible rfl)
      simp only [Act.put, List.setIfInBounds_toArray, List.set_cons_zero, List.set_cons_succ]
      refine wpAnyH_take (i := 6) (oi := ⟨some 83, _, _, _, _, _⟩) (v := ?_) rfl (by kernel_rfl) (by kernel_rfl) (by kernel_rfl) (fun _ _ _ h => h) (Or.inl ⟨by kernel_rfl, fun Wx hSw => ?_⟩) (by assumption) ?_
      rotate_left
      · ((try dsimp only at hSw); go_simp; try with_reducible rfl)
      simp only [Act.put, List.setIfInBounds_toArray, List.set_cons_zero, List.set_cons_succ]
      refine wpAnyH_take (i := 7) (oi := ⟨some 84, _, _, _, _, _⟩) (v := ?_) rfl (by kernel_rfl) (by kernel_rfl) (by kernel_rfl) (fun _ _ _ h => h) (Or.inl ⟨by kernel_rfl, fun Wx hSw => ?_⟩) (by assumption) ?_
      rotate_left
      · ((try dsimp only at hSw); go_simp; try with_reducible rfl)
      simp only [Act.put, List.setIfInBounds_toArray, List.set_cons_zero, List.set_cons_succ]
      refine wpAnyH_take (i := 8) (oi := ⟨some 85, _, _, _, _, _⟩) (v := ?_) rfl (by kernel_rfl) (by kernel_rfl) (by kernel_rfl) (fun _ _ _ h => h) (Or.inl ⟨by kernel_rfl, fun Wx hSw => ?_⟩) (by assumption) ?_
      rotate_left
      · ((try dsimp only at hSw); go_simp; try with_reducible rfl)
      simp only [Act.put, List.setIfInBounds_toArray, List.set_cons_zero, List.set_cons_succ]
      refine wpAnyH_take (i := 9) (oi := ⟨some 86, _, _, _, _, _⟩) (v := ?_) rfl (by kernel_rfl) (by kernel_rfl) (by kernel_rfl) (fun _ _ _ h => h) (Or.inl ⟨by kernel_rfl, fun Wx hSw => ?_⟩) (by assumption) ?_
      rotate_left
      · ((try dsimp only at hSw); go_simp; try with_reducible rfl)
      simp only [Act.put, List.setIfInBounds_toArray, List.set_cons_zero, List.set_cons_succ]
      refine wpAnyH_take (i := 10) (oi := ⟨some 87, _, _, _, _, _⟩) (v := ?_) rfl (by kernel_rfl) (by kernel_rfl) (by kernel_rfl) (fun _ _ _ h => h) (Or.inl ⟨by kernel_rfl, fun Wx hSw => ?_⟩) (by assumption) ?_
      rotate_left
      · ((try dsimp only at hSw); go_simp; try with_reducible rfl)
      simp only [Act.put, List.setIfInBounds_toArray, List.set_cons_zero, List.set_cons_succ]
      refine wpAnyH_take (i := 11) (oi := ⟨some 88, _, _, _, _, _⟩) (v := ?_) rfl (by kernel_rfl) (by kernel_rfl) (by kernel_rfl) (fun _ _ _ h => h) (Or.inl ⟨by kernel_rfl, fun Wx hSw => ?_⟩) (by assumption) ?_
      rotate_left
      · ((try dsimp only at hSw); go_simp; try with_reducible rfl)
      simp only [Act.put, List.setIfInBounds_toArray, List.set_cons_zero, List.set_cons_succ]
      refine wpAnyH_take (i := 12) (oi := ⟨some 89, _, _, _, _, _⟩) (v := ?_) rfl (by kernel_rfl) (by kernel_rfl) (by kernel_rfl) (fun _ _ _ h => h) (Or.inl ⟨by kernel_rfl, fun Wx hSw => ?_⟩) (by assumption) ?_
      rotate_left
      · ((try dsimp only at hSw); go_simp; try with_reducible rfl)
      simp only [Act.put, List.setIfInBounds_toArray, List.set_cons_zero, List.set_cons_succ]
      refine wpAnyH_take (i := 13) (oi := ⟨some 90, _, _, _, _, _⟩) (v := ?_) rfl (by kernel_rfl) (by kernel_rfl) (by kernel_rfl) (fun _ _ _ h => h) (Or.inl ⟨by kernel_rfl, fun Wx hSw => ?_⟩) (by assumption) ?_
      rotate_left
      · ((try dsimp only at hSw); go_simp; try with_reducible rfl)
      simp only [Act.put, List.setIfInBounds_toArray, List.set_cons_zero, List.set_cons_succ]
      refine wpAnyH_ready (rs := [14]) (by kernel_rfl) (by simp) ?_
      refine AllReadyH.cons (o := ⟨some 91, _, _, _, _, _⟩) rfl (fun K hK => ?_) AllReadyH.nil
      go_simp
      go_wp2_with (go_at_call 18; refine (eq_any o a C M o a C M _).mono ?_; rintro e w' ⟨rfl, b'⟩; rw [eqB_self]; have kk := kk.trans (b'.mono kk.size); obtain ⟨_, x0, x1, x2, x3, _, _, _, _⟩ := X9.later kk; obtain ⟨_, y0, y1, y2, y3, _, _, _, _⟩ := Y9.later kk; obtain ⟨_, z0, z1, z2, z3, _, _, _, _⟩ := Z9.later kk)
      refine hK.out _ _ ⟨⟨z0, z1, z2, z3⟩, ⟨x0, x1, x2, x3⟩, ⟨y0, y1, y2, y3⟩, (HD.out.later kk).str⟩ (fun hHeld => ?_)
      clear hK K
      refine wpAnyH_take (i := 15) (oi := ⟨some 92, _, _, _, _, _⟩) (v := ?_) rfl (by kernel_rfl) (by kernel_rfl) (by kernel_rfl) (fun _ _ _ h => h) (Or.inl ⟨by kernel_rfl, fun Wx hSw => ?_⟩) (by assumption) ?_
      rotate_left
      · ((try dsimp only at hSw); go_simp; try with_reducible rfl)
      simp only [Act.put, List.setIfInBounds_toArray, List.set_cons_zero, List.set_cons_succ]
      refine wpAnyH_take (i := 16) (oi := ⟨some 93, _, _, _, _, _⟩) (v := ?_) rfl (by kernel_rfl) (by kernel_rfl) (by kernel_rfl) (fun _ _ _ h => h) (Or.inl ⟨by kernel_rfl, fun Wx hSw => ?_⟩) (by assumption) ?_
      rotate_left
      · ((try dsimp only at hSw); go_simp; try with_reducible rfl)
      simp only [Act.put, List.setIfInBounds_toArray, List.set_cons_zero, List.set_cons_succ]
      refine wpAnyH_take (i := 17) (oi := ⟨some 94, _, _, _, _, _⟩) (v := ?_) rfl (by kernel_rfl) (by kernel_rfl) (by kernel_rfl) (fun _ _ _ h => h) (Or.inl ⟨by kernel_rfl, fun Wx hSw => ?_⟩) (by assumption) ?_
      rotate_left
      · ((try dsimp only at hSw); go_simp; try with_reducible rfl)
      simp only [Act.put, List.setIfInBounds_toArray, List.set_cons_zero, List.set_cons_succ]
      refine wpAnyH_ready (rs := [18]) (by kernel_rfl) (by simp) ?_
      refine AllReadyH.cons (o := ⟨some 95, _, _, _, _, _⟩) rfl (fun K hK => ?_) AllReadyH.nil
      go_simp
      go_wp2_with (go_at_call 9; refine (may_ins o' a' C' M' _ kC' kM').mono ?_; rintro e w' ⟨rfl, b'⟩; rw [HM'.out]; have kk := kk.trans (b'.mono kk.size); obtain ⟨_, x0, x1, x2, x3, _, _, _, _⟩ := X9.later kk; obtain ⟨_, y0, y1, y2, y3, _, _, _, _⟩ := Y9.later kk; obtain ⟨_, z0, z1, z2, z3, _, _, _, _⟩ := Z9.later kk)
      refine hK.out _ _ ⟨⟨z0, z1, z2, z3⟩, ⟨x0, x1, x2, x3⟩, ⟨y0, y1, y2, y3⟩, (HD.out.later kk).str⟩ (fun hHeld => ?_)
      clear hK K
      refine wpAnyH_take (i := 19) (oi := ⟨some 96, _, _, _, _, _⟩) (v := ?_) rfl (by kernel_rfl) (by kernel_rfl) (by kernel_rfl) (fun _ _ _ h => h) (Or.inl ⟨by kernel_rfl, fun Wx hSw => ?_⟩) (by assumption) ?_
      rotate_left
      · ((try dsimp only at hSw); go_simp; try with_reducible rfl)
      simp only [Act.put, List.setIfInBounds_toArray, List.set_cons_zero, List.set_cons_succ]
      refine wpAnyH_take (i := 20) (oi := ⟨some 97, _, _, _, _, _⟩) (v := ?_) rfl (by kernel_rfl) (by kernel_rfl) (by kernel_rfl) (fun _ _ _ h => h) (Or.inl ⟨by kernel_rfl, fun Wx hSw => ?_⟩) (by assumption) ?_
      rotate_left
      · ((try dsimp only at hSw); go_simp; try with_reducible rfl)
      simp only [Act.put, List.setIfInBounds_toArray, List.set_cons_zero, List.set_cons_succ]
      refine wpAnyH_take (i := 21) (oi := ⟨some 98, _, _, _, _, _⟩) (v := ?_) rfl (by kernel_rfl) (by kernel_rfl) (by kernel_rfl) (fun _ _ _ h => h) (Or.inl ⟨by kernel_rfl, fun Wx hSw => ?_⟩) (by assumption) ?_
      rotate_left
      · ((try dsimp only at hSw); go_simp; try with_reducible rfl)
      simp only [Act.put, List.setIfInBounds_toArray, List.set_cons_zero, List.set_cons_succ]
      refine wpAnyH_take (i := 24) (oi := ⟨some 101, _, _, _, _, _⟩) (v := ?_) rfl (by kernel_rfl) (by kernel_rfl) (by kernel_rfl) (fun _ _ _ h => h) (Or.inl ⟨by kernel_rfl, fun Wx hSw => ?_⟩) (by assumption) ?_
      rotate_left
      · ((try dsimp only at hSw); go_simp; try with_reducible rfl)
      simp only [Act.put, List.setIfInBounds_toArray, List.set_cons_zero, List.set_cons_succ]
      refine wpAnyH_take (i := 25) (oi := ⟨some 102, _, _, _, _, _⟩) (v := ?_) rfl (by kernel_rfl) (by kernel_rfl) (by kernel_rfl) (fun _ _ _ h => h) (Or.inl ⟨by kernel_rfl, fun Wx hSw => ?_⟩) (by assumption) ?_
      rotate_left
      · ((try dsimp only at hSw); go_simp; try with_reducible rfl)
      simp only [Act.put, List.setIfInBounds_toArray, List.set_cons_zero, List.set_cons_succ]
      refine wpAnyH_take (i := 26) (oi := ⟨some 103, _, _, _, _, _⟩) (v := ?_) rfl (by kernel_rfl) (by kernel_rfl) (by kernel_rfl) (fun _ _ _ h => h) (Or.inl ⟨by kernel_rfl, fun Wx hSw => ?_⟩) (by assumption) ?_
      rotate_left
      · ((try dsimp only at hSw); go_simp; try with_reducible rfl)
      simp only [Act.put, List.setIfInBounds_toArray, List.set_cons_zero, List.set_cons_succ]
      refine wpAnyH_take (i := 27) (oi := ⟨some 104, _, _, _, _, _⟩) (v := ?_) rfl (by kernel_rfl) (by kernel_rfl) (by kernel_rfl) (fun _ _ _ h => h) (Or.inl ⟨by kernel_rfl, fun Wx hSw => ?_⟩) (by assumption) ?_
      rotate_left
      · ((try dsimp only at hSw); go_simp; try with_reducible rfl)
      simp only [Act.put, List.setIfInBounds_toArray, List.set_cons_zero, List.set_cons_succ]
      refine wpAnyH_take (i := 28) (oi := ⟨some 105, _, _, _, _, _⟩) (v := ?_) rfl (by kernel_rfl) (by kernel_rfl) (by kernel_rfl) (fun _ _ _ h => h) (Or.inl ⟨by kernel_rfl, fun Wx hSw => ?_⟩) (by assumption) ?_
      rotate_left
      · ((try dsimp only at hSw); go_simp; try with_reducible rfl)
      simp only [Act.put, List.setIfInBounds_toArray, List.set_cons_zero, List.set_cons_succ]
      refine wpAnyH_take (i := 30) (oi := ⟨some 107, _, _, _, _, _⟩) (v := ?_) rfl (by kernel_rfl) (by kernel_rfl) (by kernel_rfl) (fun _ _ _ h => h) (Or.inl ⟨by kernel_rfl, fun Wx hSw => ?_⟩) (by assumption) ?_
      rotate_left
      · ((try dsimp only at hSw); go_simp; try with_reducible rfl)
      simp only [Act.put, List.setIfInBounds_toArray, List.set_cons_zero, List.set_cons_succ]
      refine wpAnyH_take (i := 31) (oi := ⟨some 108, _, _, _, _, _⟩) (v := ?_) rfl (by kernel_rfl) (by kernel_rfl) (by kernel_rfl) (fun _ _ _ h => h) (Or.inl ⟨by kernel_rfl, fun Wx hSw => ?_⟩) (by assumption) ?_
      rotate_left
      · ((try dsimp only at hSw); go_simp; try with_reducible rfl)
      simp only [Act.put, List.setIfInBounds_toArray, List.set_cons_zero, List.set_cons_succ]
      refine wpAnyH_ready (rs := [22]) (by kernel_rfl) (by simp) ?_
      refine AllReadyH.cons (o := ⟨some 99, _, _, _, _, _⟩) rfl (fun K hK => ?_) AllReadyH.nil
      go_simp
      go_wp2_with (go_at_call 15; refine (oput_any none 0 0 [] o' a' C' M' _ (Has.none _) ho' ha' tC' tM' (by omega) HM'.out).mono ?_; rintro e w' ⟨g', c1, n', hn', rfl, own', b'⟩; have kk := kk.trans (b'.mono kk.size); obtain ⟨_, x0, x1, x2, x3, _, _, _, _⟩ := X9.later kk; obtain ⟨_, y0, y1, y2, y3, _, _, _, _⟩ := Y9.later kk; obtain ⟨_, z0, z1, z2, z3, _, _, _, _⟩ := Z9.later kk; have hO := Has.own own'; simp only [List.nil_append] at hO; have sE' := hO.str; clear own' hn')
      refine hK.out _ _ ⟨⟨z0, z1, z2, z3⟩, ⟨x0, x1, x2, x3⟩, ⟨y0, y1, y2, y3⟩, (HD.out.later kk).str⟩ (fun hHeld => ?_)
      clear hK K
      refine wpAnyH_ready (rs := [23, 32]) (by kernel_rfl) (by simp) ?_
      refine AllReadyH.cons (o := ⟨some 100, _, _, _, _, _⟩) rfl (fun K hK => ?_) (AllReadyH.cons (o := ⟨some 109, _, _, _, _, _⟩) rfl (fun K hK => ?_) AllReadyH.nil)
      · go_simp
        refine hK.out _ _ ⟨⟨z0, z1, z2, z3⟩, ⟨x0, x1, x2, x3⟩, ⟨y0, y1, y2, y3⟩, (HD.out.later kk).str⟩ (fun hHeld => ?_)
        clear hK K
        refine wpAnyH_take (i := 29) (oi := ⟨some 106, _, _, _, _, _⟩) (v := ?_) rfl (by kernel_rfl) (by kernel_rfl) (by kernel_rfl) (fun _ _ _ h => h) (Or.inl ⟨by kernel_rfl, fun Wx hSw => ?_⟩) (by assumption) ?_
        rotate_left
        · ((try dsimp only at hSw); go_simp; try with_reducible rfl)
        simp only [Act.put, List.setIfInBounds_toArray, List.set_cons_zero, List.set_cons_succ]
        refine wpAnyH_ready (rs := [32]) (by kernel_rfl) (by simp) ?_
        refine AllReadyH.cons (o := ⟨some 109, _, _, _, _, _⟩) rfl (fun K hK => ?_) AllReadyH.nil
        go_simp
        go_wp2_with (go_at_call 18; refine (eq_any o a C M o' a' C' M' _).mono ?_; rintro e w' ⟨rfl, b'⟩; have sE' := (hO.later b').str; have kk := kk.trans (b'.mono kk.size); obtain ⟨_, x0, x1, x2, x3, _, _, _, _⟩ := X9.later kk; obtain ⟨_, y0, y1, y2, y3, _, _, _, _⟩ := Y9.later kk; obtain ⟨_, z0, z1, z2, z3, _, _, _, _⟩ := Z9.later kk)
        refine hK.out _ _ ⟨⟨z0, z1, z2, z3⟩, ⟨x0, x1, x2, x3⟩, ⟨y0, y1, y2, y3⟩, (HD.out.later kk).str⟩ (fun hHeld => ?_)
        clear hK K
        refine wpAnyH_take (i := 33) (oi := ⟨some 110, _, _, _, _, _⟩) (v := ?_) rfl (by kernel_rfl) (by kernel_rfl) (by kernel_rfl) (fun _ _ _ h => h) (Or.inl ⟨by kernel_rfl, fun Wx hSw => ?_⟩) (by assumption) ?_
        rotate_left
        · ((try dsimp only at hSw); go_simp; try with_reducible rfl)
        simp only [Act.put, List.setIfInBounds_toArray, List.set_cons_zero, List.set_cons_succ]
        refine wpAnyH_take (i := 34) (oi := ⟨some 111, _, _, _, _, _⟩) (v := ?_) rfl (by kernel_rfl) (by kernel_rfl) (by kernel_rfl) (fun _ _ _ h => h) (Or.inl ⟨by kernel_rfl, fun Wx hSw => ?_⟩) (by assumption) ?_
        rotate_left
        · ((try dsimp only at hSw); go_simp; try with_reducible rfl)
        simp only [Act.put, List.setIfInBounds_toArray, List.set_cons_zero, List.set_cons_succ]
        refine wpAnyH_take (i := 35) (oi := ⟨some 112, _, _, _, _, _⟩) (v := ?_) rfl (by kernel_rfl) (by kernel_rfl) (by kernel_rfl) (fun _ _ _ h => h) (Or.inl ⟨by kernel_rfl, fun Wx hSw => ?_⟩) (by assumption) ?_
        rotate_left
        · ((try dsimp only at hSw); go_simp; try with_reducible rfl)
        simp only [Act.put, List.setIfInBounds_toArray, List.set_cons_zero, List.set_cons_succ]
        refine wpAnyH_take (i := 36) (oi := ⟨some 8, _, _, _, _, _⟩) (v := ?_) rfl (by kernel_rfl) (by kernel_rfl) (by kernel_rfl) (fun _ _ _ h => h) (Or.inl ⟨by kernel_rfl, fun Wx hSw => ?_⟩) (by assumption) ?_
        rotate_left
        · ((try dsimp only at hSw); go_simp; try with_reducible rfl)
        simp only [Act.put, List.setIfInBounds_toArray, List.set_cons_zero, List.set_cons_succ]
        refine wpAnyH_done (by kernel_rfl) ?_ _
        go_wp2_with fail
        go_ret
        exact ⟨ret_b (by simp), d9.trans (kk.mono d9.size)⟩
      · go_simp
        go_wp2_with (go_at_call 18; refine (eq_any o a C M o' a' C' M' _).mono ?_; rintro e w' ⟨rfl, b'⟩; have sE' := (hO.later b').str; have kk := kk.trans (b'.mono kk.size); obtain ⟨_, x0, x1, x2, x3, _, _, _, _⟩ := X9.later kk; obtain ⟨_, y0, y1, y2, y3, _, _, _, _⟩ := Y9.later kk; obtain ⟨_, z0, z1, z2, z3, _, _, _, _⟩ := Z9.later kk)
        refine hK.out _ _ ⟨⟨z0, z1, z2, z3⟩, ⟨x0, x1, x2, x3⟩, ⟨y0, y1, y2, y3⟩, (HD.out.later kk).str⟩ (fun hHeld => ?_)
        clear hK K
        refine wpAnyH_ready (rs := [23]) (by kernel_rfl) (by simp) ?_
        refine AllReadyH.cons (o := ⟨some 100, _, _, _, _, _⟩) rfl (fun K hK => ?_) AllReadyH.nil
        go_simp
        refine hK.out _ _ ⟨⟨z0, z1, z2, z3⟩, ⟨x0, x1, x2, x3⟩, ⟨y0, y1, y2, y3⟩, (HD.out.later kk).str⟩ (fun hHeld => ?_)
        clear hK K
        refine wpAnyH_take (i := 29) (oi := ⟨some 106, _, _, _, _, _⟩) (v := ?_) rfl (by kernel_rfl) (by kernel_rfl) (by kernel_rfl) (fun _ _ _ h => h) (Or.inl ⟨by kernel_rfl, fun Wx hSw => ?_⟩) (by assumption) ?_
        rotate_left
        · ((try dsimp only at hSw); go_simp; try with_reducible rfl)
        simp only [Act.put, List.setIfInBounds_toArray, List.set_cons_zero, List.set_cons_succ]
        refine wpAnyH_take (i := 33) (oi := ⟨some 110, _, _, _, _, _⟩) (v := ?_) rfl (by kernel_rfl) (by kernel_rfl) (by kernel_rfl) (fun _ _ _ h => h) (Or.inl ⟨by kernel_rfl, fun Wx hSw => ?_⟩) (by assumption) ?_
        rotate_left
        · ((try dsimp only at hSw); go_simp; try with_reducible rfl)
        simp only [Act.put, List.setIfInBounds_toArray, List.set_cons_zero, List.set_cons_succ]
        refine wpAnyH_take (i := 34) (oi := ⟨some 111, _, _, _, _, _⟩) (v := ?_) rfl (by kernel_rfl) (by kernel_rfl) (by kernel_rfl) (fun _ _ _ h => h) (Or.inl ⟨by kernel_rfl, fun Wx hSw => ?_⟩) (by assumption) ?_
        rotate_left
        · ((try dsimp only at hSw); go_simp; try with_reducible rfl)
        simp only [Act.put, List.setIfInBounds_toArray, List.set_cons_zero, List.set_cons_succ]
        refine wpAnyH_take (i := 35) (oi := ⟨some 112, _, _, _, _, _⟩) (v := ?_) rfl (by kernel_rfl) (by kernel_rfl) (by kernel_rfl) (fun _ _ _ h => h) (Or.inl ⟨by kernel_rfl, fun Wx hSw => ?_⟩) (by assumption) ?_
        rotate_left
        · ((try dsimp only at hSw); go_simp; try with_reducible rfl)
        simp only [Act.put, List.setIfInBounds_toArray, List.set_cons_zero, List.set_cons_succ]
        refine wpAnyH_take (i := 36) (oi := ⟨some 8, _, _, _, _, _⟩) (v := ?_) rfl (by kernel_rfl) (by kernel_rfl) (by kernel_rfl) (fun _ _ _ h => h) (Or.inl ⟨by kernel_rfl, fun Wx hSw => ?_⟩) (by assumption) ?_
        rotate_left
        · ((try dsimp only at hSw); go_simp; try with_reducible rfl)
        simp only [Act.put, List.setIfInBounds_toArray, List.set_cons_zero, List.set_cons_succ]
        refine wpAnyH_done (by kernel_rfl) ?_ _
        go_wp2_with fail
        go_ret
        exact ⟨ret_b (by simp), d9.trans (kk.mono d9.size)⟩
theorem wf64 {n : Int} (h : (Lit.int .i64 n).wf = true) : Is64 n := bounds_i64 h

/-! ### The row -/
theorem own : ownKnob Try.prog.godebug = none := by kernel_rfl
theorem laidOut : laidOutB Try.prog = true := by kernel_rfl
set_option maxRecDepth 100000 in
theorem lifted (os : Os) (started : os.Started) (H : Type) (enc : TypeId × Value → H) :
    ReturnsInHanded {} Try.checked os 3 .any (Rows.opAllSpec.pre6 enc Try.prog Try.f3 Rows.opAllRow.domain false) (Rows.opAllSpec.post enc Try.prog Try.f3 false true false false) := by
  refine returnsInHanded_of_change (C := Try.checked) own started (by kernel_rfl) Try.func3
    (ChangeSpec.witness6 (enc := enc) (C := Try.checked) false ⟨#[], #[.agg #[.int .i64 0, .int .i64 0, .string ByteArray.empty, .string ByteArray.empty], .agg #[.int .i64 0, .int .i64 0, .string ByteArray.empty, .string ByteArray.empty], .slice none 0 0, .slice none 0 0], []⟩ 8 (by kernel_rfl) (by kernel_rfl) (by kernel_rfl) (by kernel_rfl)) ?_
  intro W base args ds gs before hval0 hW hcnd _
  have hval : ∀ (j : Nat) t v, Try.f3.params[j]? = some t → args[j]? = some v → Value.okWide Try.prog W .any base t v := hval0
  have hW' := hW
  obtain ⟨p, q, hA0, hV, rfl, hfz, hnd⟩ := hW
  have hA : DataW.TrodAll enc Try.prog W 0 (fun _ => true) true Try.f3.params.toList args.toList ds p := hA0
  rw [Try.params3] at hA hval
  obtain ⟨v0, vs0, d0, ds0, p0, q0, hargs, rfl, rfl, h0, r0⟩ := trodAll_cons hA
  obtain ⟨v1, vs1, d1, ds1, p1, q1, rfl, rfl, rfl, h1, r1⟩ := trodAll_cons r0
  obtain ⟨v2, vs2, d2, ds2, p2, q2, rfl, rfl, rfl, h2, r2⟩ := trodAll_cons r1
  obtain ⟨v3, vs3, d3, ds3, p3, q3, rfl, rfl, rfl, h3, r3⟩ := trodAll_cons r2
  obtain ⟨rfl, rfl, rfl⟩ := trodAll_nil r3
  obtain rfl : args = #[v0, v1, v2, v3] := by cases args; simp_all
  obtain ⟨rfl, rfl⟩ := trodVars_none hV
  obtain ⟨v00, v01, v02, v03, y00, y01, y02, y03, m0, rfl, rfl, rfl, t00, t01, t02, t03⟩ := Joins.open_agg4 Try.underlying23 (by kernel_rfl) (by kernel_rfl) (hval 0 23 v0 rfl rfl) h0
  obtain ⟨a00, e00, rfl, w00⟩ := DataW.trod_int Try.underlying3 t00
  obtain rfl : v00 = .int .i64 a00 := by simpa using e00
  obtain ⟨a01, e01, rfl, w01⟩ := DataW.trod_int Try.underlying3 t01
  obtain rfl : v01 = .int .i64 a01 := by simpa using e01
  obtain ⟨a02, e02, rfl, w02⟩ := DataW.trod_string Try.underlying9 t02
  obtain rfl : v02 = .string a02 := by simpa using e02
  obtain ⟨a03, e03, rfl, w03⟩ := DataW.trod_string Try.underlying9 t03
  obtain rfl : v03 = .string a03 := by simpa using e03
  obtain ⟨v10, v11, v12, v13, y10, y11, y12, y13, m1, rfl, rfl, rfl, t10, t11, t12, t13⟩ := Joins.open_agg4 Try.underlying23 (by kernel_rfl) (by kernel_rfl) (hval 1 23 v1 rfl rfl) h1
  obtain ⟨a10, e10, rfl, w10⟩ := DataW.trod_int Try.underlying3 t10
  obtain rfl : v10 = .int .i64 a10 := by simpa using e10
  obtain ⟨a11, e11, rfl, w11⟩ := DataW.trod_int Try.underlying3 t11
  obtain rfl : v11 = .int .i64 a11 := by simpa using e11
  obtain ⟨a12, e12, rfl, w12⟩ := DataW.trod_string Try.underlying9 t12
  obtain rfl : v12 = .string a12 := by simpa using e12
  obtain ⟨a13, e13, rfl, w13⟩ := DataW.trod_string Try.underlying9 t13
  obtain rfl : v13 = .string a13 := by simpa using e13
  obtain ⟨a2, len2, cap2, rfl⟩ := okWide_slice Try.underlying24 (hval 2 24 v2 rfl rfl)
  have k2 := h2
  have lt2 : ∀ x ∈ p2, x.block < W.heap.size := by obtain ⟨m, hm⟩ := k2; exact DataW.trod_lt m _ _ _ hm
  obtain ⟨z2, w2⟩ : ∃ zs, IsRow .u8 W a2 len2 cap2 zs := by
    obtain ⟨fuel, hf⟩ := h2
    rcases open_ints Try.underlying24 Try.underlying5 (by kernel_rfl) hf with ⟨hcs, _⟩ | ⟨x, l, c, zs, hcs, _, hl, hm, hz, _, hcell, hwz⟩
    · simp [Value.cells] at hcs
      obtain ⟨rfl, rfl, rfl⟩ := hcs
      exact ⟨[], .inl ⟨rfl, rfl, rfl, rfl⟩⟩
    · simp [Value.cells] at hcs
      obtain ⟨rfl, rfl, rfl⟩ := hcs
      exact ⟨zs, .inr ⟨_, rfl, hl, hm, by simpa using hz, hcell, hwz⟩⟩
  obtain ⟨a3, len3, cap3, rfl⟩ := okWide_slice Try.underlying24 (hval 3 24 v3 rfl rfl)
  have k3 := h3
  have lt3 : ∀ x ∈ p3, x.block < W.heap.size := by obtain ⟨m, hm⟩ := k3; exact DataW.trod_lt m _ _ _ hm
  obtain ⟨z3, w3⟩ : ∃ zs, IsRow .u8 W a3 len3 cap3 zs := by
    obtain ⟨fuel, hf⟩ := h3
    rcases open_ints Try.underlying24 Try.underlying5 (by kernel_rfl) hf with ⟨hcs, _⟩ | ⟨x, l, c, zs, hcs, _, hl, hm, hz, _, hcell, hwz⟩
    · simp [Value.cells] at hcs
      obtain ⟨rfl, rfl, rfl⟩ := hcs
      exact ⟨[], .inl ⟨rfl, rfl, rfl, rfl⟩⟩
    · simp [Value.cells] at hcs
      obtain ⟨rfl, rfl, rfl⟩ := hcs
      exact ⟨zs, .inr ⟨_, rfl, hl, hm, by simpa using hz, hcell, hwz⟩⟩
  clear hA0 hval0
  refine (walk a00 a01 a02 a03 a10 a11 a12 a13 a2 len2 cap2 z2 a3 len3 cap3 z3 W (wf64 w00) (wf64 w01) w02 w03 (wf64 w10) (wf64 w11) w12 w13 w2 w3).mono fun e W' ⟨he, bel⟩ => ?_
  subst he
  exact ⟨_, rfl, _, _, _, [], _, [], hW', trodAll_mk1 (shut_bool Try.underlying4 _), (trodAll_cons_mk (Joins.shut_agg4 Try.underlying23 (by kernel_rfl) (by kernel_rfl) (Joins.field_of_Trod (shut_int Try.underlying3 w00) rfl) (Joins.field_of_Trod (shut_int Try.underlying3 w01) rfl) (Joins.field_of_Trod (shut_string Try.underlying9 w02) rfl) (Joins.field_of_Trod (shut_string Try.underlying9 w03) rfl)) (trodAll_cons_mk (Joins.shut_agg4 Try.underlying23 (by kernel_rfl) (by kernel_rfl) (Joins.field_of_Trod (shut_int Try.underlying3 w10) rfl) (Joins.field_of_Trod (shut_int Try.underlying3 w11) rfl) (Joins.field_of_Trod (shut_string Try.underlying9 w12) rfl) (Joins.field_of_Trod (shut_string Try.underlying9 w13) rfl)) (trodAll_cons_mk (Below.trod laidOut (by kernel_rfl) (of_decide_eq_true (by kernel_rfl)) k2 bel lt2) (trodAll_cons_mk (Below.trod laidOut (by kernel_rfl) (of_decide_eq_true (by kernel_rfl)) k3 bel lt3) trodAll_mk0)))), rfl, bel.frame _, fun h => by cases h⟩

theorem over : Rows.opAllRow.holds Try.pinned (OpenSpec.ofChange Rows.opAllSpec) :=
  OpenClaim.holds_of_wide 3 Try.f3 rfl rfl rfl rfl rfl rfl rfl ⟨rfl, rfl, rfl, rfl, rfl⟩ rfl rfl rfl rfl rfl (by kernel_rfl) Try.func3 (by kernel_rfl)
    (of_decide_eq_true (by kernel_rfl)) (by unfold Func.isWrapper; first | (rw [if_pos (by decide +kernel)]; kernel_rfl) | (rw [if_neg (by decide +kernel)]; exact ⟨rfl, rfl⟩))
    (fun os started H enc _ => lifted os started H enc)

end OpAll

theorem opAll_holds : Rows.OpAllSaid := OpAll.over
#print axioms opAll_holds
end Go.Proofs.Ytegamajcipgkhaa
