/- The contract of the files' laws' own 'begun'. -/
import Derived.Test.YtjblmgdjaaeedaaGreatFilDec
import Derived.Test.YtjblmgdjaaeedaaGreatFilSame
import Derived.Test.YtjblmgdjaaeedaaGreatClsBegun
namespace Go.Proofs.YtjblmgdjaaeedaaGreat
namespace Fil
open Num Kind Op4 Cls
open Go.RowKit
set_option linter.unusedVariables false
set_option linter.unusedSimpArgs false
set_option maxRecDepth 100000

theorem zero_cls (w : World) : ClsV w (.slice none 0 0) (.slice none 0 0) (.slice none 0 0) ⟨⟨#[]⟩, ⟨#[]⟩, false, [], [], []⟩ :=
  ⟨Sl.none _ _ _, Sl.none _ _ _, Sl.none _ _ _, (by decide : (0 : Nat) ≤ maxLen), (by decide : (0 : Nat) ≤ maxLen)⟩
theorem zero_enc : encodeL ⟨⟨#[]⟩, ⟨#[]⟩, false, [], [], []⟩ = [] := by
  unfold encodeL
  rw [if_neg]
  intro h
  have h1 : mayP ⟨⟨#[]⟩, ⟨#[]⟩, false, [], [], []⟩ = false := by decide +kernel
  rw [h1] at h
  exact absurd h.1 (by decide)
theorem one_may : mayP (oneL ⟨#[65, 98]⟩ 0) = true := by decide +kernel
theorem one_len : (bytesL (oneL ⟨#[65, 98]⟩ 0)).length ≤ 6000 ∧ 10 < (bytesL (oneL ⟨#[65, 98]⟩ 0)).length := by decide +kernel
theorem one_head : (bytesL (oneL ⟨#[65, 98]⟩ 0)).getD 0 0 = 74 := by decide +kernel
theorem one_enc : encodeL (oneL ⟨#[65, 98]⟩ 0) = bytesL (oneL ⟨#[65, 98]⟩ 0) := by
  unfold encodeL
  rw [if_pos ⟨one_may, one_len.1⟩]
/-- Decode of what Encode gives of a class. -/
theorem decoded_back {w w' : World} {c : ClsL} {e : Ending} (hm : mayP c = true) (hl : (bytesL c).length ≤ 6000) (h : Decoded w w' (bytesL c) e) :
    ∃ us, e = .returned (.tuple #[.agg us.toArray, .int .i64 0]) ∧ clsN w.heap.size (young w.heap.size w') us c := by
  have hr := read_bytes c (may_ok hm)
  have hne : bytesL c ≠ [] := by unfold bytesL whole; simp [magic]
  have he : encodeL (readL (bytesL c)) = bytesL c := by
    rw [hr]
    unfold encodeL
    rw [if_pos ⟨hm, hl⟩]
  rcases h with ⟨h1, _⟩ | ⟨_, _, _, us, h1, h2⟩ | ⟨_, h1, _⟩
  · omega
  · rw [hr] at h2
    exact ⟨us, h1, h2⟩
  · exact absurd ⟨hne, he⟩ h1
theorem decoded_nil {w w' : World} {e : Ending} (h : Decoded w w' [] e) : e = .returned (.tuple #[zeroCls, .int .i64 1]) := by
  rcases h with ⟨h1, _⟩ | ⟨_, h1, _⟩ | ⟨_, _, h1⟩
  · simp at h1
  · exact absurd rfl h1
  · exact h1
theorem lbegun_any (w : World) : Calls Tryz.prog 18 #[] w fun e w' => e = .returned (.bool true) ∧ Below w.heap.size w w' := by
  go_enter Tryz.func18, Tryz.ntmps18
  go_wp2_with fail
  refine (Cls.begun_any w).mono ?_
  rintro e w1 ⟨rfl, b1⟩
  go_wp2_with fail
  go_ret
  exact ⟨rfl, b1⟩
set_option maxHeartbeats 8000000 in
theorem begun_any (w : World) : Calls Tryz.prog 8 #[] w fun e w' => e = .returned (.bool true) ∧ Below w.heap.size w w' := by
  have HC0 := one_abs ⟨#[65, 98]⟩ w (by decide)
  go_enter Tryz.func8, Tryz.ntmps8
  go_wp2_with fail
  refine HC0.mono ?_
  rintro e w1 ⟨b4, b5, rfl, hV, b1⟩
  clear HC0
  have ka := alloc1 w1 (.cells #[.string ⟨#[65, 98]⟩, .string ⟨#[79, 98, 106, 101, 99, 116]⟩, .bool false, .slice none 0 0, .slice (some ⟨b4, 0, none⟩) 1 1, .slice (some ⟨b5, 0, none⟩) 1 1] 26)
  have BC := blk_new w1 #[.string ⟨#[65, 98]⟩, .string ⟨#[79, 98, 106, 101, 99, 116]⟩, .bool false, .slice none 0 0, .slice (some ⟨b4, 0, none⟩) 1 1, .slice (some ⟨b5, 0, none⟩) 1 1] 26
  have HC1 := encode_any _ _ _ _ _ (hV.later ka)
  unfold clsVal at HC1
  rw [one_enc] at HC1
  simp only [oneL] at HC1
  go_wp2_with fail
  generalize w1.alloc (.cells #[.string ⟨#[65, 98]⟩, .string ⟨#[79, 98, 106, 101, 99, 116]⟩, .bool false, .slice none 0 0, .slice (some ⟨b4, 0, none⟩) 1 1, .slice (some ⟨b5, 0, none⟩) 1 1] 26) = w2 at *
  refine HC1.mono ?_
  rintro e w3 ⟨v, rfl, own3, _, b3⟩
  clear HC1
  have hlen := one_len
  have hhd := one_head
  have hbb := bytesL_bytes _ (may_ok one_may)
  have hback := fun w' (e : Ending) => decoded_back (w := w3) (w' := w') (e := e) one_may one_len.1
  simp only [oneL] at hlen hhd hbb hback
  generalize bytesL ⟨⟨#[65, 98]⟩, ⟨#[79, 98, 106, 101, 99, 116]⟩, false, [], [oneF], [oneM 0]⟩ = xs at *
  obtain ⟨g, cap, rfl, _, _⟩ := own3.form (by omega)
  have hR3 := Has.own own3
  have HC2 := decode_any _ _ _ xs w3 hR3 hbb
  have hk1 := b1.trans (ka.mono b1.size)
  have hk3 := hk1.trans (b3.mono hk1.size)
  have BC3 := blk_on BC b3
  clear own3
  go_wp2_with fail
  refine HC2.mono ?_
  rintro e w4 ⟨hD, b4'⟩
  obtain ⟨us, rfl, hN⟩ := hback w4 e hD
  obtain ⟨v3, v4, v5, hus, hV4⟩ := hN.cls
  simp only at hus hV4
  obtain ⟨q3, d3, e3, _⟩ := id hV4.impl
  obtain ⟨q4, d4, e4, _⟩ := id hV4.fields
  obtain ⟨q5, d5, e5, _⟩ := id hV4.methods
  simp only [List.length_nil, List.length_cons, Nat.zero_add] at e3 e4 e5
  subst e3 e4 e5 hus
  clear hback HC2 hD hN
  have hk4 := hk3.trans (b4'.mono hk3.size)
  have kd := alloc1 w4 (.cells #[.string ⟨#[65, 98]⟩, .string ⟨#[79, 98, 106, 101, 99, 116]⟩, .bool false, .slice q3 0 d3, .slice q4 1 d4, .slice q5 1 d5] 26)
  have BD := blk_new w4 #[.string ⟨#[65, 98]⟩, .string ⟨#[79, 98, 106, 101, 99, 116]⟩, .bool false, .slice q3 0 d3, .slice q4 1 d4, .slice q5 1 d5] 26
  have HC3 := decode_any none 0 0 [] _ (Has.none (w4.alloc (.cells #[.string ⟨#[65, 98]⟩, .string ⟨#[79, 98, 106, 101, 99, 116]⟩, .bool false, .slice q3 0 d3, .slice q4 1 d4, .slice q5 1 d5] 26))) (fun x hx => by cases hx)
  go_wp2_with fail
  generalize w4.alloc (.cells #[.string ⟨#[65, 98]⟩, .string ⟨#[79, 98, 106, 101, 99, 116]⟩, .bool false, .slice q3 0 d3, .slice q4 1 d4, .slice q5 1 d5] 26) = w5 at *
  refine HC3.mono ?_
  rintro e w6 ⟨hD, b6⟩
  obtain rfl := decoded_nil hD
  unfold zeroCls
  clear HC3 hD
  have kz := alloc1 w6 (.cells #[.string ⟨#[]⟩, .string ⟨#[]⟩, .bool false, .slice none 0 0, .slice none 0 0, .slice none 0 0] 26)
  have hk5 := hk4.trans (kd.mono hk4.size)
  have hk6 := hk5.trans (b6.mono hk5.size)
  have hk7 := hk6.trans (kz.mono hk6.size)
  have e46 := kd.trans (b6.mono kd.size)
  have e47 := e46.trans (kz.mono e46.size)
  have e37 := b4'.trans (e47.mono b4'.size)
  have e27 := b3.trans (e37.mono b3.size)
  have e17 := ka.trans (e27.mono ka.size)
  have hV7 := hV.later e17
  have hV47 := hV4.later e47
  have BC7 := blk_on BC3 e37
  have BD7 := blk_on (blk_on BD b6) kz
  have hR7 := hR3.later e37
  go_wp2_with fail
  refine (lbegun_any _).mono ?_
  rintro e w7 ⟨rfl, b7⟩
  have e37 := e37.trans (b7.mono e37.size)
  have hV8 := hV7.later b7
  have hV48 := hV47.later b7
  obtain ⟨c0, c1, c2, c3, c4, c5⟩ : ClsCells w7 w1.heap.size (.string ⟨#[65, 98]⟩) (.string ⟨#[79, 98, 106, 101, 99, 116]⟩) (.bool false) (.slice none 0 0) (.slice (some ⟨b4, 0, none⟩) 1 1) (.slice (some ⟨b5, 0, none⟩) 1 1) := by
    have B := blk_on BC7 b7
    exact ⟨blk_cell B 0, blk_cell B 1, blk_cell B 2, blk_cell B 3, blk_cell B 4, blk_cell B 5⟩
  obtain ⟨g0, g1, g2, g3, g4, g5⟩ : ClsCells w7 w4.heap.size (.string ⟨#[65, 98]⟩) (.string ⟨#[79, 98, 106, 101, 99, 116]⟩) (.bool false) (.slice q3 0 d3) (.slice q4 1 d4) (.slice q5 1 d5) := by
    have B := blk_on BD7 b7
    exact ⟨blk_cell B 0, blk_cell B 1, blk_cell B 2, blk_cell B 3, blk_cell B 4, blk_cell B 5⟩
  have hk8 := hk7.trans (b7.mono hk7.size)
  have d10 : decide ((10 : Int) < (xs.length : Int)) = true := by simp; omega
  have x0 : w7.cell? ⟨g, 0, none⟩ = some (.int .u8 74) := by
    obtain ⟨b, off, e, _, hc⟩ := (hR7.later b7).cells (by omega)
    simp only [Option.some.injEq, Addr.mk.injEq, and_true] at e
    obtain ⟨rfl, rfl⟩ := e
    have := hc 0 (by omega)
    rw [hhd] at this
    simpa using this
  have hpos : 0 < xs.length := by omega
  have hc0 := hR7.cap
  have hc1 := hR7.max
  unfold maxLen at hc1
  have HC5 := ecls_same ⟨#[65, 98]⟩ ⟨#[79, 98, 106, 101, 99, 116]⟩ false [] [oneF] [oneM 0] _ _ _ _ _ _ _ _ _ _ _ _ w7 hV8 hV48
  have HC6 := fun W => encode_any _ _ _ _ W (zero_cls W)
  unfold clsVal at HC6
  simp only [zero_enc] at HC6
  simp only [List.length_nil, List.length_cons, Nat.zero_add] at HC5
  clear hlen hV hV7 hV8 hV4 hV47 hV48 BC7 BD7 hR7 hR3 hhd e37 e27 e17 e47 e46
  go_wp2_with fail
  refine HC5.mono ?_
  rintro e w8 ⟨rfl, b8⟩
  clear HC5 c0 c1 c2 c3 c4 c5 g0 g1 g2 g3 g4 g5 x0
  go_wp2_with fail
  refine (HC6 _).mono ?_
  rintro e w9 ⟨v, rfl, _, hnil, b9⟩
  obtain rfl := hnil trivial
  have hk9 := hk8.trans (b8.mono hk8.size)
  go_wp2_with fail
  go_ret
  exact ⟨rfl, hk9.trans (b9.mono hk9.size)⟩
end Fil
end Go.Proofs.YtjblmgdjaaeedaaGreat
