/- The contract of the laws' own 'begun': it answers true; nothing old is turned. -/
import Derived.Test.YtjlobkohkfcbpaaFrNew
import Derived.Test.YtjlobkohkfcbpaaFrPush
import Derived.Test.YtjlobkohkfcbpaaFrPop
import Derived.Test.YtjlobkohkfcbpaaFrLoad
import Derived.Test.YtjlobkohkfcbpaaFrSet
namespace Go.Proofs.Ytjlobkohkfcbpaa
namespace Fr
open Mem
open Go.RowKit
set_option linter.unusedVariables false
set_option linter.unusedSimpArgs false
set_option maxRecDepth 100000

/-- A slice written out. -/
theorem vs_new (w : World) (l : List Vl) (h32 : ∀ x ∈ l, Is32 x.n) (hl : l.length ≤ 1000) : Vs (w.alloc (.cells (cellsV l).toArray 31)) (.slice (some ⟨w.heap.size, 0, none⟩) l.length l.length) l :=
  vs_of rfl (Nat.le_refl _) (by unfold maxLen; omega) h32 (fun j u hu => by rw [Nat.zero_add, blk_cell (blk_new w _ _) j]; simpa using hu)
theorem is_new (w : World) (l : List Int) (h64 : ∀ x ∈ l, -9223372036854775808 ≤ x ∧ x ≤ 9223372036854775807) (hl : l.length ≤ 1000) : Is (w.alloc (.cells (l.map (Value.int .i64)).toArray 3)) (.slice (some ⟨w.heap.size, 0, none⟩) l.length l.length) l :=
  ⟨_, l.length, rfl, Nat.le_refl _, by unfold maxLen; omega, fun e => (by cases e), fun h0 => ⟨w.heap.size, 0, rfl, by rw [alloc_size]; omega, fun i hi => ⟨by
    rw [Nat.zero_add, Nat.mul_one, blk_cell (blk_new w _ _) i, List.getElem?_toArray, List.getElem?_map, List.getElem?_eq_getElem hi]; rfl, h64 _ (List.getElem_mem hi)⟩⟩⟩
def b1 : List Vl := [⟨false, 5⟩, ⟨true, 4⟩]
def b2 : List Vl := [⟨false, 5⟩, ⟨true, 4⟩, ⟨false, 0⟩]
def b3 : List Vl := [⟨false, 1⟩, ⟨true, 0⟩]
def b4 : List Vl := [⟨false, 5⟩, ⟨true, 10⟩, ⟨false, 0⟩]
def b5 : List Vl := [⟨false, 0⟩]
set_option maxHeartbeats 4000000 in
theorem begun_any (w : World) : Calls Try.prog 6 #[] w fun e w' => e = .returned (.bool true) ∧ Below w.heap.size w w' := by
  have V1 : Vs (w.alloc (.cells #[.bool false, .int .i32 5, .bool true, .int .i32 4] 31)) (.slice (some ⟨w.heap.size, 0, none⟩) 2 2) b1 := vs_new w b1 (by simp [b1, Is32]) (by decide)
  have N1 : newL 3 b1 = b2 := rfl
  have kA := alloc1 w (.cells #[.bool false, .int .i32 5, .bool true, .int .i32 4] 31)
  have HCN := new_any 7 3 2 _ _ _ b1 _ V1 (by decide)
  go_enter Try.func6, Try.ntmps6
  go_wp2_with fail
  refine HCN.mono ?_
  rintro e w1 ⟨rfl, H1, k1⟩
  clear V1 HCN
  have K1 := kA.trans (k1.mono kA.size)
  have hp := kA.size
  generalize (w.alloc (.cells #[.bool false, .int .i32 5, .bool true, .int .i32 4] 31)).heap.size = p at *
  have F1 : Hid (Fr p w1 p 7 0 b2 2 []) := H1
  clear H1 k1 kA
  go_upto_region 4 with fail
  have C1 := load_any 2 F1.out
  rw [show loadV b2 2 = ⟨false, 0⟩ from rfl, show hasL b2.length 2 = true from rfl] at C1
  dsimp only at C1
  go_wp2_with fail
  refine C1.mono ?_
  rintro e w2 ⟨rfl, k2⟩
  clear C1
  have K2 := K1.trans (k2.mono K1.size)
  have hpA := Nat.lt_of_lt_of_le F1.out.lt k2.size
  have F2 : Hid (Fr p w2 p 7 0 b2 2 []) := F1.out.later k2
  clear F1 k2 K1
  go_upto_region 5 with fail
  have kB := alloc1 w2 (.cells #[.bool false, .int .i32 0] 31)
  have HA : Hid _ := blk_new w2 #[.bool false, .int .i32 0] 31
  have K3 := K2.trans (kB.mono K2.size)
  have F3 : Hid (Fr p _ p 7 0 b2 2 []) := F2.out.later kB
  have hA := K2.size
  clear kB K2 F2
  generalize w2.alloc (.cells #[.bool false, .int .i32 0] 31) = w3 at *
  generalize w2.heap.size = A at *
  have V3 : Vs (w3.alloc (.cells #[.bool false, .int .i32 1, .bool true, .int .i32 0] 31)) (.slice (some ⟨w3.heap.size, 0, none⟩) 2 2) b3 := vs_new w3 b3 (by simp [b3, Is32]) (by decide)
  have kC := alloc1 w3 (.cells #[.bool false, .int .i32 1, .bool true, .int .i32 0] 31)
  have C3 := push_any _ 2 2 b3 (F3.out.later kC) V3 (by decide)
  have HA3 : Hid _ := blk_on HA.out kC
  have K3b := K3.trans (kC.mono K3.size)
  clear HA F3 V3 kC K3
  go_wp2_with fail
  refine C3.mono ?_
  rintro e w4 ⟨rfl, F4, o4⟩
  clear C3
  have HA4 : Hid _ := blk_off HA3.out o4 (show ¬ A = p by omega)
  have K4 := K3b.trans (At.below o4 hp K3b.size)
  have F4 : Hid (Fr p w4 p 7 0 b2 2 b3) := F4
  clear HA3 o4 K3b
  have kD := alloc1 w4 (.cells #[.bool false, .int .i32 0] 31)
  have C4 := push_no (some ⟨w4.heap.size, 0, none⟩) 1 1 (F4.out.later kD) (by decide)
  have HA5 : Hid _ := blk_on HA4.out kD
  have K5 := K4.trans (kD.mono K4.size)
  have F5 : Hid (Fr p _ p 7 0 b2 2 b3) := F4.out.later kD
  clear HA4 K4 F4 kD
  go_wp2_with fail
  refine C4.mono ?_
  rintro e w5 ⟨rfl, nq, rfl⟩
  clear C4
  generalize w4.alloc (.cells #[.bool false, .int .i32 0] 31) = w4b at *
  have kE := below_draws w4b.heap.size w4b nq
  have HA6 : Hid _ := blk_on HA5.out kE
  have K6 := K5.trans (kE.mono K5.size)
  have F6 : Hid (Fr p _ p 7 0 b2 2 b3) := F5.out.later kE
  clear HA5 K5 F5 kE
  generalize w4b.drewN nq = w6 at *
  have C6 := refs_any F6.out
  rw [show refsOf (b2 ++ b3) = [3, -1] from rfl] at C6
  go_upto_region 6 with fail
  go_wp2_with fail
  refine C6.mono ?_
  rintro e w7 ⟨v7, rfl, own7, k7⟩
  clear C6
  obtain ⟨g, cap, rfl, hg1, hg2, hcap1, hcap2⟩ := own_some own7 (by decide)
  have HR7 : Hid (w7.ownsRow w6.heap.size 3 1 (.slice (some ⟨g, 0, none⟩) 2 cap) 2 [.int .i64 3, .int .i64 (-1)]) := own7
  have HA7 : Hid _ := blk_on HA6.out k7
  have hA6 := lt_of_block HA6.out
  have hp6 := F6.out.lt
  have K7 := K6.trans (k7.mono K6.size)
  have F7 : Hid (Fr p _ p 7 0 b2 2 b3) := F6.out.later k7
  clear own7 HA6 K6 F6 k7
  have hgA : g ≠ A := by omega
  have hgp : g ≠ p := by omega
  have kG := alloc1 w7 (.cells #[.int .i64 9, .int .i64 (-1)] 3)
  have I7 : Is (w7.alloc (.cells #[.int .i64 9, .int .i64 (-1)] 3)) (.slice (some ⟨w7.heap.size, 0, none⟩) 2 2) [9, -1] := is_new w7 [9, -1] (by simp) (by decide)
  have C7 := setrefs_any (F7.out.later kG) _ _ I7 (by
    intro e
    have e' : w7.heap.size = p := (by simpa [Value.ownBlock] using e)
    omega)
  rw [show setL b2 b3 [9, -1] = b4 from rfl, show setS b2 b3 [9, -1] = b3 from rfl] at C7
  have HR8 : Hid _ := own_later HR7.out kG
  have HA8 : Hid _ := blk_on HA7.out kG
  have K8 := K7.trans (kG.mono K7.size)
  clear HR7 HA7 K7 F7 kG I7
  go_upto_region 9 with fail
  go_wp2_with fail
  refine C7.mono ?_
  rintro e w8 ⟨rfl, F8, o8⟩
  clear C7
  have HR9 : Hid (w8.ownsRow w6.heap.size 3 1 (.slice (some ⟨g, 0, none⟩) 2 cap) 2 [.int .i64 3, .int .i64 (-1)]) := own_off HR8.out o8 (fun k e => by have e' : g = k := (by simpa [Value.ownBlock] using e); subst e'; exact hgp)
  have HA9 : Hid _ := blk_off HA8.out o8 (show ¬ A = p by omega)
  have K9 := K8.trans (At.below o8 hp K8.size)
  have F9 : Hid (Fr p w8 p 7 0 b4 2 b3) := F8
  clear HR8 HA8 K8 F8 o8
  have C9 := load_any 1 F9.out
  rw [show loadV b4 1 = ⟨true, 10⟩ from rfl, show hasL b4.length 1 = true from rfl] at C9
  dsimp only at C9
  go_upto_region 10 with fail
  go_wp2_with fail
  refine C9.mono ?_
  rintro e w9 ⟨rfl, k9⟩
  clear C9
  have HR10 : Hid _ := own_later HR9.out k9
  have HA10 : Hid _ := blk_on HA9.out k9
  have hp9 := Nat.lt_of_lt_of_le F9.out.lt k9.size
  have K10 := K9.trans (k9.mono K9.size)
  have F10 : Hid (Fr p _ p 7 0 b4 2 b3) := F9.out.later k9
  clear HR9 HA9 K9 F9 k9
  go_upto_region 11 with fail
  have kJ := alloc1 w9 (.cells #[.bool true, .int .i32 10] 31)
  have HD : Hid _ := blk_new w9 #[.bool true, .int .i32 10] 31
  have HR11 : Hid _ := own_later HR10.out kJ
  have HA11 : Hid _ := blk_on HA10.out kJ
  have K11 := K10.trans (kJ.mono K10.size)
  have F11 : Hid (Fr p _ p 7 0 b4 2 ([] ++ b3)) := F10.out.later kJ
  clear kJ K10 F10 HR10 HA10
  generalize w9.alloc (.cells #[.bool true, .int .i32 10] 31) = w10 at *
  generalize w9.heap.size = D at *
  have C11 := pop_any F11.out 2 rfl
  go_wp2_with fail
  refine C11.mono ?_
  rintro e w11 ⟨v11, rfl, own11, F12, o11⟩
  clear C11
  have HR12 := own_off HR11.out o11 (fun k e => by have e' : g = k := (by simpa [Value.ownBlock] using e); subst e'; exact hgp)
  have HA12 := blk_off HA11.out o11 (show ¬ A = p by omega)
  have HD12 := blk_off HD.out o11 (show ¬ D = p by omega)
  have K12 := K11.trans (At.below o11 hp K11.size)
  have a0 := two0 HA12
  have a1 := two1 HA12
  have dd := two1 HD12
  have r0 := own_cell HR12 0 _ rfl
  have r1 := own_cell HR12 1 _ rfl
  obtain ⟨g', cap', rfl, hg1', hg2', hcap1', hcap2'⟩ := own_some own11 (by decide)
  have q1 := own11.cells (g := g') rfl 1 (.int .i32 1) rfl
  have q2 := own11.cells (g := g') rfl 2 (.bool true) rfl
  rw [Addr.add_lit, Nat.zero_add] at q1 q2
  have F13 : Hid (Fr p w11 p 7 0 b4 2 []) := F12
  have M := method_any F13.out
  have P := pc_any F13.out
  have DP := depth_any F13.out
  rw [show (([] : List Vl).length : Int) = 0 from rfl] at DP
  clear HR12 HA12 HD12 own11 F12 o11 HR11 HA11 HD F11 K11
  go_wp2_with fail
  refine M.mono ?_
  rintro e w' ⟨rfl, rfl⟩
  go_wp2_with fail
  refine P.mono ?_
  rintro e w' ⟨rfl, rfl⟩
  go_wp2_with fail
  refine DP.mono ?_
  rintro e w' ⟨rfl, rfl⟩
  go_wp2_with fail
  go_ret
  exact ⟨rfl, K12⟩
end Fr
end Go.Proofs.Ytjlobkohkfcbpaa
