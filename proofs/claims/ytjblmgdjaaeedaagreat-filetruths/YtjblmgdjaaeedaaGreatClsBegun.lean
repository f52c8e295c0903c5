/- The laws' own 'begun' answers true. -/
import Derived.Test.YtjblmgdjaaeedaaGreatClsOne
import Derived.Test.YtjblmgdjaaeedaaGreatOpBegun
namespace Go.Proofs.YtjblmgdjaaeedaaGreat
namespace Cls
open Num Kind Op4
open Go.RowKit
set_option linter.unusedVariables false
set_option maxRecDepth 100000

theorem obegun_any (w : World) : Calls Tryz.prog 69 #[] w fun e w' => e = .returned (.bool true) ∧ Below w.heap.size w w' := by
  go_enter Tryz.func69, Tryz.ntmps69
  go_wp2_with fail
  refine (Op4.begun_any _).mono ?_
  rintro e w' ⟨rfl, b⟩
  go_wp2_with fail
  go_ret
  exact ⟨rfl, b⟩
def abS : ByteArray := ⟨#[65, 98]⟩
theorem m1 : mayP (oneL ⟨#[65, 98]⟩ 0) = true := by decide +kernel
theorem m2 : mayP ⟨⟨#[65, 98]⟩, ⟨#[]⟩, false, [], [], []⟩ = false := by decide +kernel
theorem m3 : clsEq (oneL ⟨#[65, 98]⟩ 0) (oneL ⟨#[65, 98]⟩ 0) = true := by decide +kernel
theorem m4 : clsEq (oneL ⟨#[65, 98]⟩ 0) (oneL ⟨#[65, 98]⟩ 1) = false := by decide +kernel
theorem m5 : mplace (oneL ⟨#[65, 98]⟩ 0).methods ⟨#[109, 97, 105, 110]⟩ = 0 := by decide +kernel
theorem m6 : mplace (oneL ⟨#[65, 98]⟩ 0).methods ⟨#[120]⟩ = -1 := by decide +kernel
theorem m7 : fplace (oneL ⟨#[65, 98]⟩ 0).fields ⟨#[120]⟩ = 0 := by decide +kernel
theorem m8 : fplace (oneL ⟨#[65, 98]⟩ 0).fields ⟨#[109, 97, 105, 110]⟩ = -1 := by decide +kernel
set_option maxHeartbeats 4000000 in
theorem begun_any (w : World) : Calls Tryz.prog 42 #[] w fun e w' => e = .returned (.bool true) ∧ Below w.heap.size w w' := by
  go_enter Tryz.func42, Tryz.ntmps42
  go_upto_region 1 with fail
  go_wp2_with fail
  refine (one_abs _ _ (by decide)).mono ?_
  rintro e w1 ⟨b4, b5, rfl, V1, e1⟩
  have e2 := (Below.refl w1.heap.size w1).alloc (Nat.le_refl _) (.cells #[.string ⟨#[65, 98]⟩, .string ⟨#[79, 98, 106, 101, 99, 116]⟩, .bool false, .slice none 0 0, .slice (some ⟨b4, 0, none⟩) 1 1, .slice (some ⟨b5, 0, none⟩) 1 1] 26)
  have V2 := V1.later e2
  have C2 := ClsCells.new w1 (.string ⟨#[65, 98]⟩) (.string ⟨#[79, 98, 106, 101, 99, 116]⟩) (.bool false) (.slice none 0 0) (.slice (some ⟨b4, 0, none⟩) 1 1) (.slice (some ⟨b5, 0, none⟩) 1 1) 26
  have k2 := e1.trans (e2.mono e1.size)
  clear V1 e1 e2
  go_upto_region 2 with fail
  generalize w1.alloc (.cells #[.string ⟨#[65, 98]⟩, .string ⟨#[79, 98, 106, 101, 99, 116]⟩, .bool false, .slice none 0 0, .slice (some ⟨b4, 0, none⟩) 1 1, .slice (some ⟨b5, 0, none⟩) 1 1] 26) = W2 at *
  have V3 := one_cls W2 (oneC W2 ⟨#[65, 98]⟩) ⟨#[65, 98]⟩ 1 (by decide)
  have hs3 := oneW_size W2 (oneC W2 ⟨#[65, 98]⟩) 1
  have e3 := oneW_below W2 (oneC W2 ⟨#[65, 98]⟩) 1
  have D3 := ClsCells.new (oneW W2 (oneC W2 ⟨#[65, 98]⟩) 1) (.string ⟨#[65, 98]⟩) (.string ⟨#[79, 98, 106, 101, 99, 116]⟩) (.bool false) (.slice none 0 0) (.slice (some ⟨W2.heap.size + 1, 0, none⟩) 1 1) (.slice (some ⟨W2.heap.size + 1 + 1 + 1, 0, none⟩) 1 1) 26
  rw [hs3] at D3
  have e4 := e3.alloc e3.size (.cells #[.string ⟨#[65, 98]⟩, .string ⟨#[79, 98, 106, 101, 99, 116]⟩, .bool false, .slice none 0 0, .slice (some ⟨W2.heap.size + 1, 0, none⟩) 1 1, .slice (some ⟨W2.heap.size + 1 + 1 + 1, 0, none⟩) 1 1] 26)
  have V4 := V3.later ((Below.refl _ _).alloc (Nat.le_refl _) (.cells #[.string ⟨#[65, 98]⟩, .string ⟨#[79, 98, 106, 101, 99, 116]⟩, .bool false, .slice none 0 0, .slice (some ⟨W2.heap.size + 1, 0, none⟩) 1 1, .slice (some ⟨W2.heap.size + 1 + 1 + 1, 0, none⟩) 1 1] 26))
  have C4 := C2.later e4
  have U4 := V2.later e4
  have k4 := k2.trans (e4.mono k2.size)
  clear V3 e3 e4 C2 V2 k2 hs3
  simp only [oneW, oneC] at V4 D3 C4 U4 k4
  go_upto_region 4 with (go_at_call 17; refine (one_any _ _).mono ?_; rintro e w' ⟨rfl, rfl⟩; simp only [oneC, oneW])
  go_wp2_with fail
  refine (obegun_any _).mono ?_
  rintro e w5 ⟨rfl, b5'⟩
  have C5 := C4.later b5'
  have D5 := D3.later b5'
  have U5 := U4.later b5'
  have V5 := V4.later b5'
  have k5 := k4.trans (b5'.mono k4.size)
  clear C4 D3 U4 V4 k4 b5'
  have HC : Hid _ := C5
  obtain ⟨c0, c1, c2, c3, c4, c5⟩ := C5
  go_wp2_with fail
  refine (cmay_any _ _ _ (oneL ⟨#[65, 98]⟩ 0) _ U5).mono ?_
  rintro e w6 ⟨rfl, b6⟩
  rw [m1]
  have HC6 : Hid _ := ClsCells.later HC.out b6
  have D6 := D5.later b6
  have U6 := U5.later b6
  have V6 := V5.later b6
  have k6 := k5.trans (b6.mono k5.size)
  clear c0 c1 c2 c3 c4 c5 HC D5 U5 V5 k5 b6
  go_wp2_with fail
  refine (cmay_any (.slice none 0 0) (.slice none 0 0) (.slice none 0 0) ⟨⟨#[65, 98]⟩, ⟨#[]⟩, false, [], [], []⟩ _ ⟨Sl.none _ _ _, Sl.none _ _ _, Sl.none _ _ _, (by decide : (2 : Nat) ≤ maxLen), (by decide : (0 : Nat) ≤ maxLen)⟩).mono ?_
  rintro e w7 ⟨rfl, b7⟩
  rw [m2]
  have C7 := ClsCells.later HC6.out b7
  have HC7 : Hid _ := C7
  have D7 := D6.later b7
  have U7 := U6.later b7
  have V7 := V6.later b7
  have k7 := k6.trans (b7.mono k6.size)
  clear HC6 D6 U6 V6 k6 b7
  obtain ⟨c0, c1, c2, c3, c4, c5⟩ := C7
  go_wp2_with fail
  refine (ceq_any _ _ _ _ _ _ (oneL ⟨#[65, 98]⟩ 0) (oneL ⟨#[65, 98]⟩ 0) _ U7 U7).mono ?_
  rintro e w8 ⟨rfl, b8⟩
  rw [m3]
  have C8 := ClsCells.later HC7.out b8
  have HC8 : Hid _ := C8
  have D8 := D7.later b8
  have U8 := U7.later b8
  have V8 := V7.later b8
  have k8 := k7.trans (b8.mono k7.size)
  clear c0 c1 c2 c3 c4 c5 HC7 D7 U7 V7 k7 b8
  obtain ⟨c0, c1, c2, c3, c4, c5⟩ := C8
  obtain ⟨d0, d1, d2, d3, d4, d5⟩ := D8
  go_wp2_with fail
  refine (ceq_any _ _ _ _ _ _ (oneL ⟨#[65, 98]⟩ 0) (oneL ⟨#[65, 98]⟩ 1) _ U8 V8).mono ?_
  rintro e w9 ⟨rfl, b9⟩
  rw [m4]
  have C9 := ClsCells.later HC8.out b9
  have HC9 : Hid _ := C9
  have U9 := U8.later b9
  have k9 := k8.trans (b9.mono k8.size)
  clear c0 c1 c2 c3 c4 c5 d0 d1 d2 d3 d4 d5 HC8 U8 V8 k8 b9
  obtain ⟨c0, c1, c2, c3, c4, c5⟩ := C9
  go_wp2_with fail
  refine (cmethod_any _ _ _ (oneL ⟨#[65, 98]⟩ 0) _ _ U9).mono ?_
  rintro e w10 ⟨rfl, b10⟩
  rw [m5]
  have C10 := ClsCells.later HC9.out b10
  have HC10 : Hid _ := C10
  have U10 := U9.later b10
  have k10 := k9.trans (b10.mono k9.size)
  clear c0 c1 c2 c3 c4 c5 HC9 U9 k9 b10
  obtain ⟨c0, c1, c2, c3, c4, c5⟩ := C10
  go_wp2_with fail
  refine (cmethod_any _ _ _ (oneL ⟨#[65, 98]⟩ 0) _ _ U10).mono ?_
  rintro e w11 ⟨rfl, b11⟩
  rw [m6]
  have C11 := ClsCells.later HC10.out b11
  have HC11 : Hid _ := C11
  have U11 := U10.later b11
  have k11 := k10.trans (b11.mono k10.size)
  clear c0 c1 c2 c3 c4 c5 HC10 U10 k10 b11
  obtain ⟨c0, c1, c2, c3, c4, c5⟩ := C11
  go_wp2_with fail
  refine (cfield_any _ _ _ (oneL ⟨#[65, 98]⟩ 0) _ _ U11).mono ?_
  rintro e w12 ⟨rfl, b12⟩
  rw [m7]
  have C12 := ClsCells.later HC11.out b12
  have U12 := U11.later b12
  have k12 := k11.trans (b12.mono k11.size)
  clear c0 c1 c2 c3 c4 c5 HC11 U11 k11 b12
  obtain ⟨c0, c1, c2, c3, c4, c5⟩ := C12
  go_wp2_with fail
  refine (cfield_any _ _ _ (oneL ⟨#[65, 98]⟩ 0) _ _ U12).mono ?_
  rintro e w13 ⟨rfl, b13⟩
  rw [m8]
  have k13 := k12.trans (b13.mono k12.size)
  clear c0 c1 c2 c3 c4 c5 U12 k12 b13
  go_wp2_with fail
  go_ret
  exact ⟨rfl, k13⟩
end Cls
end Go.Proofs.YtjblmgdjaaeedaaGreat
