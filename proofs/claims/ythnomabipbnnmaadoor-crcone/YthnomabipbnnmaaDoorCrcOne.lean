/- For all bytes and all i and k the law CrcOne answers true: one bit that is turned turns the sum, and no two bits turn it alike; no condition on the input. -/
import Derived.Test.YthnomabipbnnmaaDoorCards
import Derived.Test.YthnomabipbnnmaaDoorTie
import Derived.Test.YthnomabipbnnmaaDoorCrcBegun
import Derived.Test.YthnomabipbnnmaaDoorCrcLists
import Derived.WalkKit
import Derived.Deep.DeepHandedRow
import Derived.ProofKit
import Derived.OpenShut
import Derived.ShutString
import Derived.ChangeOld
import Derived.Below
import Derived.RegionTactic
import Derived.BigQuiet
import Derived.Deep.QuietTactic
import Derived.Deep.DeepCutAuto
namespace Go.Proofs.YthnomabipbnnmaaDoor
namespace CrcOne
open Num Crc
open Go.ChangeShapes Go.WideShapes Go.ChangeAt Go.RowKit
open Go.ChangeMaps (open_string shut_string)
set_option linter.unusedVariables false

theorem pow_small (i : Nat) : 2 ^ (i % 8) < 256 := Nat.lt_of_lt_of_le (Nat.pow_lt_pow_right (by decide) (Nat.mod_lt i (by decide))) (by decide)
theorem ret_bool {a b : Bool} (h : a = b) : Ending.returned (.bool a) = .returned (.bool b) := by rw [h]

set_option maxRecDepth 100000 in
set_option maxHeartbeats 2000000 in
theorem walk_short (b0 off n cap m : Nat) (B : List Int) (I0 K0 : Nat) (w : World) (hm : n ≤ 100 ∧ m = n) (hm0 : 0 < m) (hB : Has w (some ⟨b0, off, none⟩) m cap B) (hnc : n ≤ cap) (yB : Bytes B) (hi0 : I0 ≤ 9223372036854775807) (hk0 : K0 ≤ 9223372036854775807) (T : Tab w := by assumption) :
    Calls Tryd.prog 5 #[.slice (some ⟨b0, off, none⟩) n cap, .int .i64 I0, .int .i64 K0] w fun e w' => e = .returned (.bool true) ∧ Below w.heap.size w w' := by
  obtain ⟨i0, hi, hz0, hz1, hz2⟩ := info_parts info8
  have hcm := hB.max
  unfold maxLen at hcm
  obtain ⟨hm, rfl⟩ := hm
  have hnz : (((m : Nat) : Int) == 0) = false := beq_eq_false_iff_ne.2 (by omega)
  go_enter Tryd.func5, Tryd.ntmps5
  go_wp2_with fail
  refine (begun_any _).mono ?_
  rintro e w1 ⟨rfl, b1⟩
  have T1 := T.later b1
  have hB1 := hB.later b1
  clear hB
  have hpos : (0 : Int) < 8 * ((m : Nat) : Int) := by omega
  have hI1 : ((I0 : Int) % (8 * ((m : Nat) : Int))) = ((I0 % (8 * m) : Nat) : Int) := by push_cast; rfl
  have hK1 : ((K0 : Int) % (8 * ((m : Nat) : Int))) = ((K0 % (8 * m) : Nat) : Int) := by push_cast; rfl
  have hI2 : I0 % (8 * m) < 8 * m := Nat.mod_lt _ (by omega)
  have hK2 : K0 % (8 * m) < 8 * m := Nat.mod_lt _ (by omega)
  generalize I0 % (8 * m) = I at *
  generalize K0 % (8 * m) = K at *
  go_wp2_with fail
  go_quiet (fail)
  simp only [hI1, hK1]
  clear hI1 hK1 hpos hnz
  have e1 : Below w1.heap.size w1 (w1.drewN nq) := below_drewN (Below.refl _ _) nq
  have hB2 := hB1.later e1
  have d1 := b1.trans (e1.mono b1.size)
  clear hB1 e1 b1
  generalize w1.drewN nq = w2 at *
  obtain ⟨pi, hpi⟩ : ∃ x, x = I / 8 := ⟨_, rfl⟩
  obtain ⟨ji, hji⟩ : ∃ x, x = I % 8 := ⟨_, rfl⟩
  obtain ⟨pk, hpk⟩ : ∃ x, x = K / 8 := ⟨_, rfl⟩
  obtain ⟨jk, hjk⟩ : ∃ x, x = K % 8 := ⟨_, rfl⟩
  have pI : ((I : Int) / 8) = (pi : Int) := by omega
  have jI : ((I : Int) % 8) = (ji : Int) := by omega
  have pK : ((K : Int) / 8) = (pk : Int) := by omega
  have jK : ((K : Int) % 8) = (jk : Int) := by omega
  have pI1 : pi < m := by omega
  have pK1 : pk < m := by omega
  have jI1 : ji < 8 := by omega
  have jK1 : jk < 8 := by omega
  have H1 : Hid _ := hpi
  have H2 : Hid _ := hji
  have H3 : Hid _ := hpk
  have H4 : Hid _ := hjk
  have bI := getD_bd yB (show pi < B.length by rw [hB2.len]; exact pI1)
  have bK := getD_bd yB (show pk < B.length by rw [hB2.len]; exact pK1)
  obtain ⟨xi, hxi⟩ := Int.eq_ofNat_of_zero_le bI.1
  obtain ⟨xk, hxk⟩ := Int.eq_ofNat_of_zero_le bK.1
  have cBi : (cellsOf B)[pi]? = some (.int .u8 (xi : Int)) := by
    rw [← hxi]
    have hl : pi < B.length := by rw [hB2.len]; exact pI1
    simp [cellsOf, List.getD, List.getElem?_eq_getElem hl]
  have cBk : (cellsOf B)[pk]? = some (.int .u8 (xk : Int)) := by
    rw [← hxk]
    have hl : pk < B.length := by rw [hB2.len]; exact pK1
    simp [cellsOf, List.getD, List.getElem?_eq_getElem hl]
  have xi1 : xi < 256 := by omega
  have xk1 : xk < 256 := by omega
  have H5 : Hid _ := hxi
  have H6 : Hid _ := hxk
  have ti : 2 ^ ji < 256 := Nat.lt_of_lt_of_le (Nat.pow_lt_pow_right (by decide) jI1) (by decide)
  have tk : 2 ^ jk < 256 := Nat.lt_of_lt_of_le (Nat.pow_lt_pow_right (by decide) jK1) (by decide)
  have xo1 : bits .xor .u8 (xi : Int) ((2 : Int) ^ ji % 256) = ((xi ^^^ 2 ^ ji : Nat) : Int) := by rw [two_mod ji jI1, xor_u8 xi (2 ^ ji) xi1 ti]
  have xo2 : bits .xor .u8 (xk : Int) ((2 : Int) ^ jk % 256) = ((xk ^^^ 2 ^ jk : Nat) : Int) := by rw [two_mod jk jK1, xor_u8 xk (2 ^ jk) xk1 tk]
  have lB := hB2.len
  have sI := bit_set yB I pi ji xi H1.out H2.out H5.out (by rw [lB]; exact pI1)
  have sK := bit_set yB K pk jk xk H3.out H4.out H6.out (by rw [lB]; exact pK1)
  generalize xi ^^^ 2 ^ ji = vi at xo1 sI
  generalize xk ^^^ 2 ^ jk = vk at xo2 sK
  have H7 : Hid _ := sI
  have H8 : Hid _ := sK
  have HB : Hid _ := lB
  clear sI sK lB
  clear hpi hji hpk hjk hxi hxk bI bK
  go_upto_region 10 with (first | (at_builtin; refine wpList_append_lies _ rfl (.const (.slice none 0 0)) (.tmp 39) 22 rfl w2.heap.size 5 i0 (.int .u8 0) 1 1 Tryd.underlying22 hi hz0 hz1 hz2 rfl (by decide) (.slice none 0 0) 0 [] rfl (World.ownsRow_nil _ _ _ _) ⟨b0, off, none⟩ m cap (cellsOf B) rfl (by rw [cellsOf_length, hB2.len, Nat.mul_one]) (hB2.news _ rfl) (cellsOf_one B) (by omega) (by unfold maxLen; omega) (by omega) (Nat.le_refl _) _ rfl ?_; intro gc cc w3 oc rc ac lc; simp only [Nat.zero_add, List.nil_append] at oc; have e3 : Below w2.heap.size w2 w3 := (Below.refl _ _).grown rc (Nat.le_refl _) (fun k e => by cases e); have hB3 := hB2.later e3) | (at_builtin; refine wpList_append_lies _ rfl (.const (.slice none 0 0)) (.tmp 41) 22 rfl w3.heap.size 5 i0 (.int .u8 0) 1 1 Tryd.underlying22 hi hz0 hz1 hz2 rfl (by decide) (.slice none 0 0) 0 [] rfl (World.ownsRow_nil _ _ _ _) ⟨b0, off, none⟩ m cap (cellsOf B) rfl (by rw [cellsOf_length, hB3.len, Nat.mul_one]) (hB3.news _ rfl) (cellsOf_one B) (by omega) (by unfold maxLen; omega) (by omega) (Nat.le_refl _) _ rfl ?_; intro gd cd w4 od rd ad ld; simp only [Nat.zero_add, List.nil_append] at od; have oc2 := oc.kept rd (.inr (by simp [Value.ownBlock])); have gcl := (oc.lt gc rfl).2; have gdl := (od.lt gd rfl).1; have gne : ¬ gc = gd := by omega))
  have cC := (oc2.cellAt pi (by omega)).trans cBi
  have fC := oc2.frozenAt pi
  have cD := (od.cellAt pk (by omega)).trans cBk
  have fD := od.frozenAt pk
  have e4 : Below w2.heap.size w2 w4 := e3.grown rd e3.size (fun k e => by cases e)
  have o1 := oc2.stored pi (.int .u8 (vi : Int))
  have o2 := ownsRow_setCell_below od (a := ⟨gc, pi, none⟩) (show gc < w3.heap.size from gcl) (.int .u8 (vi : Int))
  have o3 := o2.stored pk (.int .u8 (vk : Int))
  have o4 := o1.1.kept o3.2 (.inr (by simp [Value.ownBlock, gne]))
  have e5 := (e4.setCell (p := ⟨gc, pi, none⟩) (oc.lt gc rfl).1 (.int .u8 (vi : Int))).setCell (p := ⟨gd, pk, none⟩) (Nat.le_trans e3.size gdl) (.int .u8 (vk : Int))
  have hB5 := hB2.later e5
  have hC5 : Has ((w4.setCell ⟨gc, pi, none⟩ (.int .u8 (vi : Int))).setCell ⟨gd, pk, none⟩ (.int .u8 (vk : Int))) (some ⟨gc, 0, none⟩) m cc (ints (bitAt (nats B) I)) := Has.own (by rw [← H7.out]; simpa [cellsOf, List.map_set] using o4)
  have hD5 : Has ((w4.setCell ⟨gc, pi, none⟩ (.int .u8 (vi : Int))).setCell ⟨gd, pk, none⟩ (.int .u8 (vk : Int))) (some ⟨gd, 0, none⟩) m cd (ints (bitAt (nats B) K)) := Has.own (by rw [← H8.out]; simpa [cellsOf, List.map_set] using o3.1)
  have d5 := d1.trans (e5.mono d1.size)
  clear o1 o2 o3 o4 e5 e4 oc od oc2 rc rd ac ad lc ld e3 hB2 hB3 H1 H2 H3 H4 H5 H6 H7 H8 cBi cBk
  go_wp2_with fail
  generalize (w4.setCell ⟨gc, pi, none⟩ (.int .u8 (vi : Int))).setCell ⟨gd, pk, none⟩ (.int .u8 (vk : Int)) = W at *
  clear cC fC cD fD xo1 xo2 pI jI pK jK
  have ss : Small (nats B) := nats_small B yB
  have yC : Bytes (ints (bitAt (nats B) I)) := ints_bytes (cl_small ss (by intro x hx; simp only [List.mem_singleton] at hx; subst hx; exact pow_small _))
  have yD : Bytes (ints (bitAt (nats B) K)) := ints_bytes (cl_small ss (by intro x hx; simp only [List.mem_singleton] at hx; subst hx; exact pow_small _))
  have lN : (nats B).length = m := by rw [nats_length, HB.out]
  have n1 := bit_ne (nats B) I (by omega)
  have n2 := bit_two (nats B) I K (by omega) (by omega) (by omega)
  have t1 : (((sum (bitAt (nats B) I) : Nat) : Int) != ((sum (nats B) : Nat) : Int)) = true := by rw [bne_iff_ne]; omega
  have H1 : Hid _ := n2
  clear n1 n2
  have t3 : ((I : Int) == (K : Int)) = (((sum (bitAt (nats B) I) : Nat) : Int) == ((sum (bitAt (nats B) K) : Nat) : Int)) := by
    by_cases e : I = K
    · rw [e]; simp
    · rw [beq_eq_false_iff_ne.2 (by omega), beq_eq_false_iff_ne.2 (fun h => e (H1.out (by omega)))]
  have T5 := T.later d5
  have H3 : Hid _ := t3
  clear t3
  refine (sum_any _ _ _ _ _ hC5 yC).mono ?_
  rintro e w5 ⟨rfl, rfl⟩
  rw [nats_ints]
  go_wp2_with fail
  refine (sum_any _ _ _ _ _ hB5 yB).mono ?_
  rintro e w5 ⟨rfl, rfl⟩
  go_wp2_with fail
  refine (sum_any _ _ _ _ _ hC5 yC).mono ?_
  rintro e w5 ⟨rfl, rfl⟩
  rw [nats_ints]
  go_wp2_with fail
  refine (sum_any _ _ _ _ _ hD5 yD).mono ?_
  rintro e w5 ⟨rfl, rfl⟩
  rw [nats_ints]
  go_wp2_with fail
  go_ret
  exact ⟨ret_bool (by rw [H3.out]; simp), d5⟩

set_option maxRecDepth 100000 in
set_option maxHeartbeats 2000000 in
theorem walk_long (b0 off n cap m : Nat) (B : List Int) (I0 K0 : Nat) (w : World) (hm : 100 < n ∧ m = 100) (hm0 : 0 < m) (hB : Has w (some ⟨b0, off, none⟩) m cap B) (hnc : n ≤ cap) (yB : Bytes B) (hi0 : I0 ≤ 9223372036854775807) (hk0 : K0 ≤ 9223372036854775807) (T : Tab w := by assumption) :
    Calls Tryd.prog 5 #[.slice (some ⟨b0, off, none⟩) n cap, .int .i64 I0, .int .i64 K0] w fun e w' => e = .returned (.bool true) ∧ Below w.heap.size w w' := by
  obtain ⟨i0, hi, hz0, hz1, hz2⟩ := info_parts info8
  have hcm := hB.max
  unfold maxLen at hcm
  obtain ⟨hm, rfl⟩ := hm
  have hnz : (((100 : Nat) : Int) == 0) = false := beq_eq_false_iff_ne.2 (by omega)
  go_enter Tryd.func5, Tryd.ntmps5
  go_wp2_with fail
  refine (begun_any _).mono ?_
  rintro e w1 ⟨rfl, b1⟩
  have T1 := T.later b1
  have hB1 := hB.later b1
  clear hB
  have hpos : (0 : Int) < 8 * ((100 : Nat) : Int) := by omega
  have hI1 : ((I0 : Int) % 800) = ((I0 % 800 : Nat) : Int) := by omega
  have hK1 : ((K0 : Int) % 800) = ((K0 % 800 : Nat) : Int) := by omega
  have hI2 : I0 % 800 < 8 * 100 := Nat.mod_lt _ (by omega)
  have hK2 : K0 % 800 < 8 * 100 := Nat.mod_lt _ (by omega)
  generalize I0 % 800 = I at *
  generalize K0 % 800 = K at *
  go_wp2_with fail
  go_quiet (fail)
  simp only [hI1, hK1]
  clear hI1 hK1 hpos hnz
  have e1 : Below w1.heap.size w1 (w1.drewN nq) := below_drewN (Below.refl _ _) nq
  have hB2 := hB1.later e1
  have d1 := b1.trans (e1.mono b1.size)
  clear hB1 e1 b1
  generalize w1.drewN nq = w2 at *
  obtain ⟨pi, hpi⟩ : ∃ x, x = I / 8 := ⟨_, rfl⟩
  obtain ⟨ji, hji⟩ : ∃ x, x = I % 8 := ⟨_, rfl⟩
  obtain ⟨pk, hpk⟩ : ∃ x, x = K / 8 := ⟨_, rfl⟩
  obtain ⟨jk, hjk⟩ : ∃ x, x = K % 8 := ⟨_, rfl⟩
  have pI : ((I : Int) / 8) = (pi : Int) := by omega
  have jI : ((I : Int) % 8) = (ji : Int) := by omega
  have pK : ((K : Int) / 8) = (pk : Int) := by omega
  have jK : ((K : Int) % 8) = (jk : Int) := by omega
  have pI1 : pi < 100 := by omega
  have pK1 : pk < 100 := by omega
  have jI1 : ji < 8 := by omega
  have jK1 : jk < 8 := by omega
  have H1 : Hid _ := hpi
  have H2 : Hid _ := hji
  have H3 : Hid _ := hpk
  have H4 : Hid _ := hjk
  have bI := getD_bd yB (show pi < B.length by rw [hB2.len]; exact pI1)
  have bK := getD_bd yB (show pk < B.length by rw [hB2.len]; exact pK1)
  obtain ⟨xi, hxi⟩ := Int.eq_ofNat_of_zero_le bI.1
  obtain ⟨xk, hxk⟩ := Int.eq_ofNat_of_zero_le bK.1
  have cBi : (cellsOf B)[pi]? = some (.int .u8 (xi : Int)) := by
    rw [← hxi]
    have hl : pi < B.length := by rw [hB2.len]; exact pI1
    simp [cellsOf, List.getD, List.getElem?_eq_getElem hl]
  have cBk : (cellsOf B)[pk]? = some (.int .u8 (xk : Int)) := by
    rw [← hxk]
    have hl : pk < B.length := by rw [hB2.len]; exact pK1
    simp [cellsOf, List.getD, List.getElem?_eq_getElem hl]
  have xi1 : xi < 256 := by omega
  have xk1 : xk < 256 := by omega
  have H5 : Hid _ := hxi
  have H6 : Hid _ := hxk
  have ti : 2 ^ ji < 256 := Nat.lt_of_lt_of_le (Nat.pow_lt_pow_right (by decide) jI1) (by decide)
  have tk : 2 ^ jk < 256 := Nat.lt_of_lt_of_le (Nat.pow_lt_pow_right (by decide) jK1) (by decide)
  have xo1 : bits .xor .u8 (xi : Int) ((2 : Int) ^ ji % 256) = ((xi ^^^ 2 ^ ji : Nat) : Int) := by rw [two_mod ji jI1, xor_u8 xi (2 ^ ji) xi1 ti]
  have xo2 : bits .xor .u8 (xk : Int) ((2 : Int) ^ jk % 256) = ((xk ^^^ 2 ^ jk : Nat) : Int) := by rw [two_mod jk jK1, xor_u8 xk (2 ^ jk) xk1 tk]
  have lB := hB2.len
  have sI := bit_set yB I pi ji xi H1.out H2.out H5.out (by rw [lB]; exact pI1)
  have sK := bit_set yB K pk jk xk H3.out H4.out H6.out (by rw [lB]; exact pK1)
  generalize xi ^^^ 2 ^ ji = vi at xo1 sI
  generalize xk ^^^ 2 ^ jk = vk at xo2 sK
  have H7 : Hid _ := sI
  have H8 : Hid _ := sK
  have HB : Hid _ := lB
  clear sI sK lB
  clear hpi hji hpk hjk hxi hxk bI bK
  go_upto_region 10 with (first | (at_builtin; refine wpList_append_lies _ rfl (.const (.slice none 0 0)) (.tmp 39) 22 rfl w2.heap.size 5 i0 (.int .u8 0) 1 1 Tryd.underlying22 hi hz0 hz1 hz2 rfl (by decide) (.slice none 0 0) 0 [] rfl (World.ownsRow_nil _ _ _ _) ⟨b0, off, none⟩ 100 cap (cellsOf B) rfl (by rw [cellsOf_length, hB2.len, Nat.mul_one]) (hB2.news _ rfl) (cellsOf_one B) (by omega) (by unfold maxLen; omega) (by omega) (Nat.le_refl _) _ rfl ?_; intro gc cc w3 oc rc ac lc; simp only [Nat.zero_add, List.nil_append] at oc; have e3 : Below w2.heap.size w2 w3 := (Below.refl _ _).grown rc (Nat.le_refl _) (fun k e => by cases e); have hB3 := hB2.later e3) | (at_builtin; refine wpList_append_lies _ rfl (.const (.slice none 0 0)) (.tmp 41) 22 rfl w3.heap.size 5 i0 (.int .u8 0) 1 1 Tryd.underlying22 hi hz0 hz1 hz2 rfl (by decide) (.slice none 0 0) 0 [] rfl (World.ownsRow_nil _ _ _ _) ⟨b0, off, none⟩ 100 cap (cellsOf B) rfl (by rw [cellsOf_length, hB3.len, Nat.mul_one]) (hB3.news _ rfl) (cellsOf_one B) (by omega) (by unfold maxLen; omega) (by omega) (Nat.le_refl _) _ rfl ?_; intro gd cd w4 od rd ad ld; simp only [Nat.zero_add, List.nil_append] at od; have oc2 := oc.kept rd (.inr (by simp [Value.ownBlock])); have gcl := (oc.lt gc rfl).2; have gdl := (od.lt gd rfl).1; have gne : ¬ gc = gd := by omega))
  have cC := (oc2.cellAt pi (by omega)).trans cBi
  have fC := oc2.frozenAt pi
  have cD := (od.cellAt pk (by omega)).trans cBk
  have fD := od.frozenAt pk
  have e4 : Below w2.heap.size w2 w4 := e3.grown rd e3.size (fun k e => by cases e)
  have o1 := oc2.stored pi (.int .u8 (vi : Int))
  have o2 := ownsRow_setCell_below od (a := ⟨gc, pi, none⟩) (show gc < w3.heap.size from gcl) (.int .u8 (vi : Int))
  have o3 := o2.stored pk (.int .u8 (vk : Int))
  have o4 := o1.1.kept o3.2 (.inr (by simp [Value.ownBlock, gne]))
  have e5 := (e4.setCell (p := ⟨gc, pi, none⟩) (oc.lt gc rfl).1 (.int .u8 (vi : Int))).setCell (p := ⟨gd, pk, none⟩) (Nat.le_trans e3.size gdl) (.int .u8 (vk : Int))
  have hB5 := hB2.later e5
  have hC5 : Has ((w4.setCell ⟨gc, pi, none⟩ (.int .u8 (vi : Int))).setCell ⟨gd, pk, none⟩ (.int .u8 (vk : Int))) (some ⟨gc, 0, none⟩) 100 cc (ints (bitAt (nats B) I)) := Has.own (by rw [← H7.out]; simpa [cellsOf, List.map_set] using o4)
  have hD5 : Has ((w4.setCell ⟨gc, pi, none⟩ (.int .u8 (vi : Int))).setCell ⟨gd, pk, none⟩ (.int .u8 (vk : Int))) (some ⟨gd, 0, none⟩) 100 cd (ints (bitAt (nats B) K)) := Has.own (by rw [← H8.out]; simpa [cellsOf, List.map_set] using o3.1)
  have d5 := d1.trans (e5.mono d1.size)
  clear o1 o2 o3 o4 e5 e4 oc od oc2 rc rd ac ad lc ld e3 hB2 hB3 H1 H2 H3 H4 H5 H6 H7 H8 cBi cBk
  go_wp2_with fail
  generalize (w4.setCell ⟨gc, pi, none⟩ (.int .u8 (vi : Int))).setCell ⟨gd, pk, none⟩ (.int .u8 (vk : Int)) = W at *
  clear cC fC cD fD xo1 xo2 pI jI pK jK
  have ss : Small (nats B) := nats_small B yB
  have yC : Bytes (ints (bitAt (nats B) I)) := ints_bytes (cl_small ss (by intro x hx; simp only [List.mem_singleton] at hx; subst hx; exact pow_small _))
  have yD : Bytes (ints (bitAt (nats B) K)) := ints_bytes (cl_small ss (by intro x hx; simp only [List.mem_singleton] at hx; subst hx; exact pow_small _))
  have lN : (nats B).length = 100 := by rw [nats_length, HB.out]
  have n1 := bit_ne (nats B) I (by omega)
  have n2 := bit_two (nats B) I K (by omega) (by omega) (by omega)
  have t1 : (((sum (bitAt (nats B) I) : Nat) : Int) != ((sum (nats B) : Nat) : Int)) = true := by rw [bne_iff_ne]; omega
  have H1 : Hid _ := n2
  clear n1 n2
  have t3 : ((I : Int) == (K : Int)) = (((sum (bitAt (nats B) I) : Nat) : Int) == ((sum (bitAt (nats B) K) : Nat) : Int)) := by
    by_cases e : I = K
    · rw [e]; simp
    · rw [beq_eq_false_iff_ne.2 (by omega), beq_eq_false_iff_ne.2 (fun h => e (H1.out (by omega)))]
  have T5 := T.later d5
  have H3 : Hid _ := t3
  clear t3
  refine (sum_any _ _ _ _ _ hC5 yC).mono ?_
  rintro e w5 ⟨rfl, rfl⟩
  rw [nats_ints]
  go_wp2_with fail
  refine (sum_any _ _ _ _ _ hB5 yB).mono ?_
  rintro e w5 ⟨rfl, rfl⟩
  go_wp2_with fail
  refine (sum_any _ _ _ _ _ hC5 yC).mono ?_
  rintro e w5 ⟨rfl, rfl⟩
  rw [nats_ints]
  go_wp2_with fail
  refine (sum_any _ _ _ _ _ hD5 yD).mono ?_
  rintro e w5 ⟨rfl, rfl⟩
  rw [nats_ints]
  go_wp2_with fail
  go_ret
  exact ⟨ret_bool (by rw [H3.out]; simp), d5⟩


set_option maxRecDepth 100000 in
set_option maxHeartbeats 1000000 in
theorem walk_no (a0 : Option Addr) (n cap : Nat) (i k : Int) (w : World) (hn : n ≤ 100) (h : n = 0 ∨ i < 0 ∨ k < 0) (T : Tab w := by assumption) :
    Calls Tryd.prog 5 #[.slice a0 n cap, .int .i64 i, .int .i64 k] w fun e w' => e = .returned (.bool true) ∧ Below w.heap.size w w' := by
  by_cases h0 : n = 0
  · subst h0
    go_enter Tryd.func5, Tryd.ntmps5
    go_wp2_with fail
    refine (begun_any _).mono ?_
    rintro e w1 ⟨rfl, b1⟩
    have T1 := T.later b1
    go_wp2_with fail
    go_ret
    exact ⟨rfl, b1⟩
  · have hnz : ((n : Int) == 0) = false := beq_eq_false_iff_ne.2 (by omega)
    by_cases h1 : i < 0
    · go_enter Tryd.func5, Tryd.ntmps5
      go_wp2_with fail
      refine (begun_any _).mono ?_
      rintro e w1 ⟨rfl, b1⟩
      have T1 := T.later b1
      go_wp2_with fail
      go_ret
      exact ⟨rfl, b1⟩
    · have h2 : k < 0 := by omega
      clear h h0
      go_enter Tryd.func5, Tryd.ntmps5
      go_wp2_with fail
      refine (begun_any _).mono ?_
      rintro e w1 ⟨rfl, b1⟩
      have T1 := T.later b1
      go_wp2_with fail
      go_ret
      exact ⟨rfl, b1⟩

set_option maxRecDepth 100000 in
set_option maxHeartbeats 1000000 in
theorem walk_noLong (b0 off n cap : Nat) (i k : Int) (w : World) (hn : 100 < n) (hnc : n ≤ cap) (hcm : cap ≤ 9223372036854775807) (h : i < 0 ∨ k < 0) (T : Tab w := by assumption) :
    Calls Tryd.prog 5 #[.slice (some ⟨b0, off, none⟩) n cap, .int .i64 i, .int .i64 k] w fun e w' => e = .returned (.bool true) ∧ Below w.heap.size w w' := by
  by_cases h1 : i < 0
  · go_enter Tryd.func5, Tryd.ntmps5
    go_wp2_with fail
    refine (begun_any _).mono ?_
    rintro e w1 ⟨rfl, b1⟩
    have T1 := T.later b1
    go_wp2_with fail
    go_ret
    exact ⟨rfl, b1⟩
  · have h2 : k < 0 := by omega
    clear h
    go_enter Tryd.func5, Tryd.ntmps5
    go_wp2_with fail
    refine (begun_any _).mono ?_
    rintro e w1 ⟨rfl, b1⟩
    have T1 := T.later b1
    go_wp2_with fail
    go_ret
    exact ⟨rfl, b1⟩

theorem walk (a0 : Option Addr) (len0 cap0 : Nat) (z0 : List Int) (i k : Int) (w : World) (w0 : IsRow .u8 w a0 len0 cap0 z0) (w1 : (Lit.int .i64 i).wf = true) (w2 : (Lit.int .i64 k).wf = true) (T : Tab w := by assumption) :
    Calls Tryd.prog 5 #[.slice a0 len0 cap0, .int .i64 i, .int .i64 k] w fun e w' => e = .returned (.bool true) ∧ Below w.heap.size w w' := by
  obtain ⟨hA, yA⟩ := w0.has
  have bi := bounds_i64 w1
  have bk := bounds_i64 w2
  have hm := hA.max
  unfold maxLen at hm
  by_cases h100 : len0 ≤ 100
  · by_cases h : len0 = 0 ∨ i < 0 ∨ k < 0
    · exact walk_no a0 len0 cap0 i k w h100 h
    · obtain ⟨b0, off, rfl, _, _⟩ := hA.cells (by omega)
      obtain ⟨I, rfl⟩ := Int.eq_ofNat_of_zero_le (show 0 ≤ i by omega)
      obtain ⟨K, rfl⟩ := Int.eq_ofNat_of_zero_le (show 0 ≤ k by omega)
      exact walk_short b0 off len0 cap0 len0 _ I K w ⟨h100, rfl⟩ (by omega) hA hA.cap yA (by omega) (by omega)
  · obtain ⟨b0, off, rfl, _, _⟩ := hA.cells (by omega)
    by_cases h : i < 0 ∨ k < 0
    · exact walk_noLong b0 off len0 cap0 i k w (by omega) hA.cap (by omega) h
    · obtain ⟨I, rfl⟩ := Int.eq_ofNat_of_zero_le (show 0 ≤ i by omega)
      obtain ⟨K, rfl⟩ := Int.eq_ofNat_of_zero_le (show 0 ≤ k by omega)
      exact walk_long b0 off len0 cap0 100 _ I K w ⟨by omega, rfl⟩ (by decide) (hA.take 100 (by omega)) hA.cap (bytes_take yA 100) (by omega) (by omega)

/-! ### The row -/
theorem own : ownKnob Tryd.prog.godebug = none := by kernel_rfl
theorem laidOut : laidOutB Tryd.prog = true := by kernel_rfl
theorem contract (H : Type) (enc : TypeId × Value → H) (W : World) (base : Nat) (args : Array Value) (ds gs : List (DataW H)) (before : List MemPlace)
    (hval0 : ∀ (j : Nat) t v, Tryd.f5.params[j]? = some t → args[j]? = some v → Value.okWide Tryd.prog W .any base t v)
    (hW : DataW.Whole enc Tryd.prog Tryd.f5.params.toList Rows.crcOneSpec.vars false W args.toList ds gs before) (hL : laidMetH Tryd.prog Rows.crcOneRow.laid W) :
    Calls Tryd.prog 5 args W fun e W' => ∃ v, e = .returned v ∧ Rows.crcOneSpec.post enc Tryd.prog Tryd.f5 false true false false W args v W' := by
  have hval : ∀ (j : Nat) t v, Tryd.f5.params[j]? = some t → args[j]? = some v → Value.okWide Tryd.prog W .any base t v := hval0
  have T : Tab W := tabOf hL
  have hW' := hW
  obtain ⟨p, q, hA0, hV, rfl, hfz, hnd⟩ := hW
  have hA : DataW.TrodAll enc Tryd.prog W 0 (fun _ => true) true Tryd.f5.params.toList args.toList ds p := hA0
  rw [Tryd.params5] at hA hval
  obtain ⟨v0, vs0, d0, ds0, p0, q0, hargs, rfl, rfl, h0, r0⟩ := trodAll_cons hA
  obtain ⟨v1, vs1, d1, ds1, p1, q1, rfl, rfl, rfl, h1, r1⟩ := trodAll_cons r0
  obtain ⟨v2, vs2, d2, ds2, p2, q2, rfl, rfl, rfl, h2, r2⟩ := trodAll_cons r1
  obtain ⟨rfl, rfl, rfl⟩ := trodAll_nil r2
  obtain rfl : args = #[v0, v1, v2] := by cases args; simp_all
  obtain ⟨rfl, rfl⟩ := trodVars_none hV
  obtain ⟨a0, len0, cap0, rfl⟩ := okWide_slice Tryd.underlying22 (hval 0 22 v0 rfl rfl)
  have k0 := h0
  have lt0 : ∀ x ∈ p0, x.block < W.heap.size := by obtain ⟨m, hm⟩ := k0; exact DataW.trod_lt m _ _ _ hm
  obtain ⟨z0, w0⟩ : ∃ zs, IsRow .u8 W a0 len0 cap0 zs := by
    obtain ⟨fuel, hf⟩ := h0
    rcases open_ints Tryd.underlying22 Tryd.underlying5 (by kernel_rfl) hf with ⟨hcs, _⟩ | ⟨x, l, c, zs, hcs, _, hl, hm, hz, _, hcell, hwz⟩
    · simp [Value.cells] at hcs
      obtain ⟨rfl, rfl, rfl⟩ := hcs
      exact ⟨[], .inl ⟨rfl, rfl, rfl, rfl⟩⟩
    · simp [Value.cells] at hcs
      obtain ⟨rfl, rfl, rfl⟩ := hcs
      exact ⟨zs, .inr ⟨_, rfl, hl, hm, by simpa using hz, hcell, hwz⟩⟩
  obtain ⟨a1, rfl, rfl, rfl, w1⟩ := open_int Tryd.underlying3 (hval 1 3 v1 rfl rfl) h1
  obtain ⟨a2, rfl, rfl, rfl, w2⟩ := open_int Tryd.underlying3 (hval 2 3 v2 rfl rfl) h2
  clear hA0 hval0
  refine (walk a0 len0 cap0 z0 a1 a2 W w0 w1 w2 T).mono fun e W' ⟨he, bel⟩ => ?_
  subst he
  exact ⟨_, rfl, _, _, _, [], _, [], hW', trodAll_mk1 (shut_bool Tryd.underlying4 _), (trodAll_cons_mk (Below.trod laidOut (by kernel_rfl) (of_decide_eq_true (by kernel_rfl)) k0 bel lt0) (trodAll_cons_mk (shut_int Tryd.underlying3 w1) (trodAll_cons_mk (shut_int Tryd.underlying3 w2) trodAll_mk0))), rfl, bel.frame _, fun h => by cases h⟩
theorem laid_met (os : Os) : laidMet Tryd.prog Rows.crcOneRow.laid ((layTab (World.holding Tryd.prog os ⟨#[], #[], []⟩)).forCall (fun _ _ => 0) ⟨#[], #[.slice none 0 0, .int .i64 0, .int .i64 0], []⟩).memory :=
  laidMet_of_run' 8 (by kernel_rfl) (by kernel_rfl)
theorem reads (os : Os) {H : Type} (enc : TypeId × Value → H) : ∃ places, DataW.whole enc Tryd.prog ((layTab (World.holding Tryd.prog os ⟨#[], #[], []⟩)).forCall (fun _ _ => 0) ⟨#[], #[.slice none 0 0, .int .i64 0, .int .i64 0], []⟩).memory Tryd.f5.params.toList Rows.crcOneSpec.vars false (#[.slice none 0 0, .int .i64 0, .int .i64 0] : Array Value).toList 8 = some ([.nil, .lit (.int .i64 0), .lit (.int .i64 0)], [], places) :=
  ⟨[], by kernel_rfl⟩
set_option maxRecDepth 100000 in
theorem lifted (os : Os) (started : os.Started) (H : Type) (enc : TypeId × Value → H) (F : Stop.Interp) :
    ReturnsInHanded {} Tryd.checked os 5 .any ((OpenSpec.ofChange Rows.crcOneSpec).preRow enc Tryd.prog Tryd.f5 Rows.crcOneRow.domain false Rows.crcOneRow.laid) (((OpenSpec.ofChange Rows.crcOneSpec).at F).post enc Tryd.prog Tryd.f5 false true false false) := by
  obtain ⟨places, hx⟩ := reads os enc
  refine returnsInHanded_of_row (C := Tryd.checked) (s := OpenSpec.ofChange Rows.crcOneSpec) own started (by kernel_rfl) Tryd.func5
    (witness_row_at (enc := enc) (C := Tryd.checked) false (layTab (World.holding Tryd.prog os ⟨#[], #[], []⟩)) #[.slice none 0 0, .int .i64 0, .int .i64 0] rfl (by kernel_rfl) (by kernel_rfl) (by kernel_rfl)
      (OpenSpec.preRow_of_cond 8 hx (by kernel_rfl) (fun k hk => by cases hk) (by kernel_rfl) (laid_met os))) ?_
  intro W base args ds gs before hval hW _ _ _ hL _ _
  exact contract H enc W base args ds gs before hval hW hL
theorem said : Rows.CrcOneSaid :=
  OpenClaim.holds_of_cond 5 Tryd.f5 rfl rfl rfl rfl rfl rfl rfl ⟨rfl, rfl, rfl, rfl, rfl⟩ rfl rfl rfl rfl rfl (by kernel_rfl) Tryd.func5 (by kernel_rfl)
    (of_decide_eq_true (by kernel_rfl)) (by unfold Func.isWrapper; first | (rw [if_pos (by decide +kernel)]; kernel_rfl) | (rw [if_neg (by decide +kernel)]; exact ⟨rfl, rfl⟩))
    (fun os started H enc _ F => by rw [OpenClaim.pre_eq_preRow]; exact lifted os started H enc F)
theorem plain (f : FuncId) (fn : Func) (hf : Tryd.pinned.checked.prog.funcNamed "daguerre/daguerrelaw2.CrcOne" = some f) (hfn : Tryd.pinned.checked.prog.funcs[f]? = some fn) :
    false = Tryd.pinned.checked.prog.looks [] ∧ ∀ (j : Nat) t, fn.params[j]? = some t → Tryd.pinned.checked.prog.wantsStandIn t = false := by
  obtain rfl : f = 5 := Option.some.inj ((show Tryd.prog.funcNamed "daguerre/daguerrelaw2.CrcOne" = some 5 by kernel_rfl).symm.trans hf) |>.symm
  obtain rfl : fn = Tryd.f5 := (Option.some.inj (Tryd.func5.symm.trans hfn)).symm
  refine ⟨by kernel_rfl, fun j t ht => ?_⟩
  rw [Tryd.params5] at ht
  have hm := Array.mem_of_getElem? ht
  simp only [List.mem_toArray, List.mem_cons, List.not_mem_nil, or_false] at hm
  rcases hm with rfl | rfl | rfl
  · exact (show Tryd.prog.wantsStandIn 22 = false by kernel_rfl)
  · exact (show Tryd.prog.wantsStandIn 3 = false by kernel_rfl)
  · exact (show Tryd.prog.wantsStandIn 3 = false by kernel_rfl)
theorem card : Rows.CrcOneCardSaid :=
  Claim7.holds_tied_plain_at .later [] _ _ _ _ said (fun _ h => by cases h) (by kernel_rfl) (fun _ h => by cases h) crcOne_row_tie rfl ⟨rfl, rfl⟩ (by kernel_rfl) rfl plain (by kernel_rfl)

end CrcOne

theorem crcOne_holds : Rows.CrcOneCardSaid := CrcOne.card
#print axioms crcOne_holds
end Go.Proofs.YthnomabipbnnmaaDoor
