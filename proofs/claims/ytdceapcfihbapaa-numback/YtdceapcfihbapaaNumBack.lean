/- For all bytes ahead and behind, every number, text and uint32 the law NumBack answers true: a number and a text go to their bytes, as the document writes them, and back, whatever stands behind; no condition on the input. -/
import Derived.Test.YtdceapcfihbapaaRows
import Derived.Test.YtdceapcfihbapaaNumBegun
import Derived.Test.YtdceapcfihbapaaNumMore
import Derived.WalkKit
import Derived.ProofKit
import Derived.OpenShut
import Derived.ShutString
import Derived.ChangeOld
import Derived.Below
import Derived.Deep.RegionHeld
import Derived.Deep.DeepCutAuto
namespace Go.Proofs.Ytdceapcfihbapaa
namespace NumBack
open Num
open Go.ChangeShapes Go.WideShapes Go.ChangeAt Go.RowKit
open Go.ChangeMaps (open_string shut_string)
set_option linter.unusedVariables false

set_option maxRecDepth 100000 in
set_option maxHeartbeats 2000000 in
theorem walk (a0 : Option Addr) (len0 cap0 : Nat) (z0 : List Int) (a1 : Option Addr) (len1 cap1 : Nat) (z1 : List Int) (n : Int) (s : ByteArray) (u : Int) (w : World)
    (w0 : IsRow .u8 w a0 len0 cap0 z0) (w1 : IsRow .u8 w a1 len1 cap1 z1) (w2 : (Lit.int .i64 n).wf = true) (w3 : s.size ≤ maxLen) (w4 : (Lit.int .u32 u).wf = true) :
    Calls Try.prog 3 #[.slice a0 len0 cap0, .slice a1 len1 cap1, .int .i64 n, .string s, .int .u32 u] w fun e w' => e = .returned (.bool true) ∧ Below w.heap.size w w' := by
  obtain ⟨hA, bA⟩ := w0.has
  obtain ⟨hR, bR⟩ := w1.has
  have hn : Is64 n := bounds_i64 w2
  have hu := bounds_u32 w4
  obtain ⟨i0, hi, hz0, hz1, hz2⟩ := info_parts info8
  obtain ⟨t, ht, hT⟩ := cut_text s
  have HC : ∀ W, _ := fun W => cut_any s t W w3 hT
  have HS0 : ∀ W, Has W a0 len0 cap0 (z0.take len0) → _ := fun W h => short_any a0 len0 cap0 (z0.take len0) W h
  have HS1 : ∀ W, Has W a1 len1 cap1 (z1.take len1) → _ := fun W h => short_any a1 len1 cap1 (z1.take len1) W h
  have hA2 := hA.take (min len0 20) (by omega)
  have hR2 := hR.take (min len1 20) (by omega)
  have bA2 := bytes_take bA (min len0 20)
  have bR2 := bytes_take bR (min len1 20)
  have hn0 : min len0 20 ≤ 20 := by omega
  have hn1 : min len1 20 ≤ 20 := by omega
  have hen := enc_len n
  have hlT := encT_length t
  have het := enc_len t.size
  have hlT' : (encT t).length ≤ 110 := by omega
  clear w0 w1 w2 w4 hT bA bR hlT het
  go_enter Try.func3, Try.ntmps3
  go_wp2_with fail
  refine (begun_any _).mono ?_
  rintro e w1 ⟨rfl, b1⟩
  go_wp2_with fail
  refine (HS0 _ (hA.later b1)).mono ?_
  rintro e w2 ⟨rfl, rfl⟩
  go_wp2_with fail
  refine (HS1 _ (hR.later b1)).mono ?_
  rintro e w2 ⟨rfl, rfl⟩
  go_wp2_with fail
  refine (HC _).mono ?_
  rintro e w2 ⟨rfl, rfl⟩
  have hA3 := hA2.later b1
  have hR3 := hR2.later b1
  clear HS0 HS1 HC hA hR hA2 hR2
  generalize (z0.take len0).take (min len0 20) = A at *
  generalize (z1.take len1).take (min len1 20) = R at *
  generalize min len0 20 = n0 at *
  generalize min len1 20 = n1 at *
  go_wp2_with (at_builtin; go_must (refine wpList_has _ rfl _ _ 22 rfl w1.heap.size i0 Try.underlying22 hi hz0 hz1 hz2 _ 0 [] rfl (World.ownsRow_nil _ _ _ _) _ _ _ A rfl hA3 (by omega) (Nat.le_refl _) ?_; intro aA cA w2 oA hhA gA))
  simp only [Nat.zero_add, List.nil_append] at oA hhA ⊢
  have d2 : Below w.heap.size w w2 := b1.grown gA b1.size (fun k e => by cases e)
  have e2 : Below w1.heap.size w1 w2 := (Below.refl _ _).grown gA (Nat.le_refl _) (fun k e => by cases e)
  have hA4 := hA3.later e2
  have hR4 := hR3.later e2
  clear oA gA b1 e2 hA3 hR3
  refine (put_any aA n0 cA A n _ hhA hn (by omega)).mono ?_
  rintro e w3 ⟨g3, c3, rfl, o3, b3⟩
  have d3 : Below w.heap.size w w3 := d2.trans (b3.mono d2.size)
  have hA5 := hA4.later b3
  have hR5 := hR4.later b3
  have hB := Has.own o3
  clear o3 b3 d2 hA4 hR4 hhA
  go_upto_region 6 with fail
  go_cut [42] (fun s6 wc => s6 = .bool false ∧ Below w3.heap.size w3 wc)
  case first =>
    have HB : Hid _ := hB
    have HA : Hid _ := hA5
    have hsum' : ¬ 9223372036854775807 < (strOfNums A).size + (strOfNums (enc n)).size := by rw [strOfNums_size, strOfNums_size, hA5.len]; omega
    have heq : ((strOfNums (A ++ enc n)).toList == (strOfNums A ++ strOfNums (enc n)).toList) = true := by rw [str_append]; simp
    have kk : Below w3.heap.size w3 w3.drew := (Below.refl _ _).drew
    clear hB hA5 hR5
    go_region_held (fun W' => Below w3.heap.size w3 W' ∧ Sem.run Try.prog (convert 22 9 (.slice (some ⟨g3, 0, none⟩) (n0 + (enc n).length) c3)) W' = .ok (.string (strOfNums (A ++ enc n))) W' ∧ Sem.run Try.prog (convert 22 9 (.slice a0 n0 cap0)) W' = .ok (.string (strOfNums A)) W') (first | assumption | exact ⟨kk, (HB.out.later kk).str, (HA.out.later kk).str⟩) (first | (go_at_call 11; refine (ref_put n _ hn).mono ?_; rintro e w' ⟨g', c', rfl, o', b'⟩; have kk := kk.trans (b'.mono kk.size); have sE' := (Has.own o').str; clear o' b'))
    all_goals (go_wp2_with fail; go_meet; exact ⟨by simp, kk⟩)
  case rest =>
  obtain ⟨rfl, bc⟩ := hcut
  have d4 : Below w.heap.size w wc := d3.trans (bc.mono d3.size)
  have hA6 := hA5.later bc
  have hR6 := hR5.later bc
  have hB6 := hB.later bc
  clear d3 bc hA5 hR5 hB
  have hcB := hB6.cap
  have hnc : ¬ c3 = n0 := by omega
  have hmB := hB6.max
  unfold maxLen at hmB
  have hE := hB6.drop n0 (by omega)
  rw [← hA6.len, List.drop_left, hA6.len] at hE
  simp only [Nat.zero_add, Nat.add_sub_cancel_left] at hE
  have hs4 := d4.size
  go_wp2_with (first | (at_builtin; refine wpList_has _ rfl (.const (.slice none 0 0)) (.tmp 47) 22 rfl wc.heap.size i0 Try.underlying22 hi hz0 hz1 hz2 _ 0 [] rfl (World.ownsRow_nil _ _ _ _) _ _ _ (enc n) rfl hE (by omega) (Nat.le_refl _) ?_; intro aE cE w5 oE hhE gE; simp only [Nat.zero_add, List.nil_append] at oE hhE; have e5 : Below wc.heap.size wc w5 := (Below.refl _ _).grown gE (Nat.le_refl _) (fun k e => by cases e); have hR7 := hR6.later e5) | (at_builtin; refine wpList_has _ rfl (.tmp 48) (.tmp 49) 22 rfl wc.heap.size i0 Try.underlying22 hi hz0 hz1 hz2 _ _ (enc n) rfl oE _ _ _ R rfl hR7 (by omega) e5.size ?_; intro aF cF w6 oF hhF gF))
  have e6 : Below wc.heap.size wc w6 := e5.grown gF e5.size (fun k e => (oE.lt k e).1)
  have d6 : Below w.heap.size w w6 := d4.trans (e6.mono hs4)
  have hA7 := hA6.later e6
  have hR8 := hR6.later e6
  have hB8 := hB6.later e6
  refine (get_any _ _ _ _ _ hhF (bytes_append (enc_bd n hn) bR2)).mono ?_
  rintro e w7 ⟨rfl, rfl⟩
  rw [get_enc n R hn]
  simp only [resG]
  clear oE hhE gE e5 hR7 oF hhF gF e6 hA6 hR6 hB6 hE d4 hs4
  go_wp2_with (at_builtin; refine wpList_has _ rfl (.const (.slice none 0 0)) (.tmp 55) 22 rfl w6.heap.size i0 Try.underlying22 hi hz0 hz1 hz2 _ 0 [] rfl (World.ownsRow_nil _ _ _ _) _ _ _ A rfl hA7 (by omega) (Nat.le_refl _) ?_; intro aG cG w8 oG hhG gG; simp only [Nat.zero_add, List.nil_append] at oG hhG)
  have e8 : Below w6.heap.size w6 w8 := (Below.refl _ _).grown gG (Nat.le_refl _) (fun k e => by cases e)
  have d8 : Below w.heap.size w w8 := d6.trans (e8.mono d6.size)
  have hA9 := hA7.later e8
  have hR9 := hR8.later e8
  have hB9 := hB8.later e8
  clear oG gG e8 d6 hA7 hR8 hB8
  refine (put_text aG n0 cG A t _ hhG (by omega)).mono ?_
  rintro e w9 ⟨g9, c9, rfl, o9, b9⟩
  have d9 : Below w.heap.size w w9 := d8.trans (b9.mono d8.size)
  have hA10 := hA9.later b9
  have hR10 := hR9.later b9
  have hB10 := hB9.later b9
  have hC10 := Has.own o9
  clear o9 b9 d8 hA9 hR9 hB9 hhG
  have hcC := hC10.cap
  have hmC := hC10.max
  unfold maxLen at hmC
  have hlT1 : 0 < (encT t).length := by rw [encT_length]; have := enc_len t.size; omega
  have hnc9 : ¬ c9 = n0 := by omega
  have hE := hC10.drop n0 (by omega)
  rw [← hA10.len, List.drop_left, hA10.len] at hE
  simp only [Nat.zero_add, Nat.add_sub_cancel_left] at hE
  have hs9 := d9.size
  go_wp2_with (first | (at_builtin; refine wpList_has _ rfl (.const (.slice none 0 0)) (.tmp 63) 22 rfl w9.heap.size i0 Try.underlying22 hi hz0 hz1 hz2 _ 0 [] rfl (World.ownsRow_nil _ _ _ _) _ _ _ (encT t) rfl hE (by omega) (Nat.le_refl _) ?_; intro aE cE w10 oE hhE gE; simp only [Nat.zero_add, List.nil_append] at oE hhE; have e10 : Below w9.heap.size w9 w10 := (Below.refl _ _).grown gE (Nat.le_refl _) (fun k e => by cases e); have hR11 := hR10.later e10) | (at_builtin; refine wpList_has _ rfl (.tmp 64) (.tmp 65) 22 rfl w9.heap.size i0 Try.underlying22 hi hz0 hz1 hz2 _ _ (encT t) rfl oE _ _ _ R rfl hR11 (by omega) e10.size ?_; intro aF cF w11 oF hhF gF))
  have e11 : Below w9.heap.size w9 w11 := e10.grown gF e10.size (fun k e => (oE.lt k e).1)
  have d11 : Below w.heap.size w w11 := d9.trans (e11.mono hs9)
  have hA12 := hA10.later e11
  have hB12 := hB10.later e11
  have hC12 := hC10.later e11
  refine (get_text _ _ _ _ _ hhF (bytes_append (encT_bytes t ht) bR2) (by omega)).mono ?_
  rintro e w12 ⟨rfl, rfl⟩
  rw [getText_enc t R ht]
  simp only [resT, str_nums]
  clear oE hhE gE e10 hR11 oF hhF gF e11 hA10 hR10 hB10 hC10 hE d9 hs9
  have hst4 : Sem.run Try.prog (convert 22 9 (.slice (some ⟨w11.heap.size, 0, none⟩) 4 4)) (w11.alloc (.cells #[.int .u8 (u / 16777216), .int .u8 (u / 65536 % 256), .int .u8 (u / 256 % 256), .int .u8 (u % 256)] 5)) = .ok (.string (strOfNums (four u))) (w11.alloc (.cells #[.int .u8 (u / 16777216), .int .u8 (u / 65536 % 256), .int .u8 (u / 256 % 256), .int .u8 (u % 256)] 5)) := (Has.lit w11 (four u) (by simp [four, maxLen])).str
  have e13 : Below w11.heap.size w11 (w11.alloc (.cells #[.int .u8 (u / 16777216), .int .u8 (u / 65536 % 256), .int .u8 (u / 256 % 256), .int .u8 (u % 256)] 5)) := (Below.refl _ _).alloc (Nat.le_refl _) _
  have d13 := d11.trans (e13.mono d11.size)
  have hA14 := hA12.later e13
  have hB14 := hB12.later e13
  have hC14 := hC12.later e13
  clear hA12 hB12 hC12 e13 d11
  go_upto_region 12 with fail
  clear hst4
  generalize w11.alloc (.cells #[.int .u8 (u / 16777216), .int .u8 (u / 65536 % 256), .int .u8 (u / 256 % 256), .int .u8 (u % 256)] 5) = W at *
  have HC : Hid _ := hC14
  have HA : Hid _ := hA14
  have hsum' : ¬ 9223372036854775807 < (strOfNums A).size + (strOfNums (encT t)).size := by rw [strOfNums_size, strOfNums_size, hA14.len]; omega
  have heq1 : ((strOfNums (A ++ encT t)).toList == (strOfNums A ++ strOfNums (encT t)).toList) = true := by rw [str_append]; simp
  have kk : Below W.heap.size W W.drew := (Below.refl _ _).drew
  have hk1 : IntKind.i64.wrap ((n0 : Int) + ((enc n).length : Nat) - (n0 : Int)) = ((enc n).length : Nat) := by rw [IntWalk.i64_in _ (by omega)]; omega
  have hk2 : IntKind.i64.wrap ((n0 : Int) + ((encT t).length : Nat) - (n0 : Int)) = ((encT t).length : Nat) := by rw [IntWalk.i64_in _ (by omega)]; omega
  clear hC14 hA14 hB14
  go_region_held (fun W' => Below W.heap.size W W' ∧ Sem.run Try.prog (convert 22 9 (.slice (some ⟨g9, 0, none⟩) (n0 + (encT t).length) c9)) W' = .ok (.string (strOfNums (A ++ encT t))) W' ∧ Sem.run Try.prog (convert 22 9 (.slice a0 n0 cap0)) W' = .ok (.string (strOfNums A)) W') (first | assumption | exact ⟨kk, (HC.out.later kk).str, (HA.out.later kk).str⟩) (first | (go_at_call 15; refine (ref_text t _ (by omega)).mono ?_; rintro e w' ⟨g', c', rfl, o', b'⟩; have kk := kk.trans (b'.mono kk.size); have sE' := (Has.own o').str; clear o' b') | (go_at_call 16; refine (four_any u _ hu.1 (by omega)).mono ?_; rintro e w' ⟨g', rfl, h', b'⟩; have kk := kk.trans (b'.mono kk.size); have s4' := h'.str; clear h' b'))
  all_goals (go_wp2_with fail; go_ret; exact ⟨rfl, d13.trans (kk.mono d13.size)⟩)

/-! ### The row -/
theorem own : ownKnob Try.prog.godebug = none := by kernel_rfl
theorem laidOut : laidOutB Try.prog = true := by kernel_rfl
set_option maxRecDepth 100000 in
theorem lifted (os : Os) (started : os.Started) (H : Type) (enc : TypeId × Value → H) :
    ReturnsInHanded {} Try.checked os 3 .any (Rows.numBackSpec.pre6 enc Try.prog Try.f3 Rows.numBackRow.domain false) (Rows.numBackSpec.post enc Try.prog Try.f3 false true false false) := by
  refine returnsInHanded_of_change (C := Try.checked) own started (by kernel_rfl) Try.func3
    (ChangeSpec.witness6 (enc := enc) (C := Try.checked) false ⟨#[], #[.slice none 0 0, .slice none 0 0, .int .i64 0, .string ByteArray.empty, .int .u32 0], []⟩ 8 (by kernel_rfl) (by kernel_rfl) (by kernel_rfl) (by kernel_rfl)) ?_
  intro W base args ds gs before hval0 hW hcnd _
  have hval : ∀ (j : Nat) t v, Try.f3.params[j]? = some t → args[j]? = some v → Value.okWide Try.prog W .any base t v := hval0
  have hW' := hW
  obtain ⟨p, q, hA0, hV, rfl, hfz, hnd⟩ := hW
  have hA : DataW.TrodAll enc Try.prog W 0 (fun _ => true) true Try.f3.params.toList args.toList ds p := hA0
  rw [Try.params3] at hA hval
  obtain ⟨v0, vs0, d0, ds0, p0, q0, hargs, rfl, rfl, h0, r0⟩ := trodAll_cons hA
  obtain ⟨v1, vs1, d1, ds1, p1, q1, rfl, rfl, rfl, h1, r1⟩ := trodAll_cons r0
  obtain ⟨v2, vs2, d2, ds2, p2, q2, rfl, rfl, rfl, h2, r2⟩ := trodAll_cons r1
  obtain ⟨v3, vs3, d3, ds3, p3, q3, rfl, rfl, rfl, h3, r3⟩ := trodAll_cons r2
  obtain ⟨v4, vs4, d4, ds4, p4, q4, rfl, rfl, rfl, h4, r4⟩ := trodAll_cons r3
  obtain ⟨rfl, rfl, rfl⟩ := trodAll_nil r4
  obtain rfl : args = #[v0, v1, v2, v3, v4] := by cases args; simp_all
  obtain ⟨rfl, rfl⟩ := trodVars_none hV
  obtain ⟨a0, len0, cap0, rfl⟩ := okWide_slice Try.underlying22 (hval 0 22 v0 rfl rfl)
  have k0 := h0
  have lt0 : ∀ x ∈ p0, x.block < W.heap.size := by obtain ⟨m, hm⟩ := k0; exact DataW.trod_lt m _ _ _ hm
  obtain ⟨z0, w0⟩ : ∃ zs, IsRow .u8 W a0 len0 cap0 zs := by
    obtain ⟨fuel, hf⟩ := h0
    rcases open_ints Try.underlying22 Try.underlying5 (by kernel_rfl) hf with ⟨hcs, _⟩ | ⟨x, l, c, zs, hcs, _, hl, hm, hz, _, hcell, hwz⟩
    · simp [Value.cells] at hcs
      obtain ⟨rfl, rfl, rfl⟩ := hcs
      exact ⟨[], .inl ⟨rfl, rfl, rfl, rfl⟩⟩
    · simp [Value.cells] at hcs
      obtain ⟨rfl, rfl, rfl⟩ := hcs
      exact ⟨zs, .inr ⟨_, rfl, hl, hm, by simpa using hz, hcell, hwz⟩⟩
  obtain ⟨a1, len1, cap1, rfl⟩ := okWide_slice Try.underlying22 (hval 1 22 v1 rfl rfl)
  have k1 := h1
  have lt1 : ∀ x ∈ p1, x.block < W.heap.size := by obtain ⟨m, hm⟩ := k1; exact DataW.trod_lt m _ _ _ hm
  obtain ⟨z1, w1⟩ : ∃ zs, IsRow .u8 W a1 len1 cap1 zs := by
    obtain ⟨fuel, hf⟩ := h1
    rcases open_ints Try.underlying22 Try.underlying5 (by kernel_rfl) hf with ⟨hcs, _⟩ | ⟨x, l, c, zs, hcs, _, hl, hm, hz, _, hcell, hwz⟩
    · simp [Value.cells] at hcs
      obtain ⟨rfl, rfl, rfl⟩ := hcs
      exact ⟨[], .inl ⟨rfl, rfl, rfl, rfl⟩⟩
    · simp [Value.cells] at hcs
      obtain ⟨rfl, rfl, rfl⟩ := hcs
      exact ⟨zs, .inr ⟨_, rfl, hl, hm, by simpa using hz, hcell, hwz⟩⟩
  obtain ⟨a2, rfl, rfl, rfl, w2⟩ := open_int Try.underlying2 (hval 2 2 v2 rfl rfl) h2
  obtain ⟨a3, rfl, rfl, rfl, w3⟩ := open_string Try.underlying9 (hval 3 9 v3 rfl rfl) h3
  obtain ⟨a4, rfl, rfl, rfl, w4⟩ := open_int Try.underlying23 (hval 4 23 v4 rfl rfl) h4
  clear hA0 hval0
  refine (walk a0 len0 cap0 z0 a1 len1 cap1 z1 a2 a3 a4 W w0 w1 w2 w3 w4).mono fun e W' ⟨he, bel⟩ => ?_
  subst he
  exact ⟨_, rfl, _, _, _, [], _, [], hW', trodAll_mk1 (shut_bool Try.underlying4 _), (trodAll_cons_mk (Below.trod laidOut (by kernel_rfl) (of_decide_eq_true (by kernel_rfl)) k0 bel lt0) (trodAll_cons_mk (Below.trod laidOut (by kernel_rfl) (of_decide_eq_true (by kernel_rfl)) k1 bel lt1) (trodAll_cons_mk (shut_int Try.underlying2 w2) (trodAll_cons_mk (shut_string Try.underlying9 w3) (trodAll_cons_mk (shut_int Try.underlying23 w4) trodAll_mk0))))), rfl, bel.frame _, fun h => by cases h⟩

theorem over : Rows.numBackRow.holds Try.pinned (OpenSpec.ofChange Rows.numBackSpec) :=
  OpenClaim.holds_of_wide 3 Try.f3 rfl rfl rfl rfl rfl rfl rfl ⟨rfl, rfl, rfl, rfl, rfl⟩ rfl rfl rfl rfl rfl (by kernel_rfl) Try.func3 (by kernel_rfl)
    (of_decide_eq_true (by kernel_rfl)) (by unfold Func.isWrapper; first | (rw [if_pos (by decide +kernel)]; kernel_rfl) | (rw [if_neg (by decide +kernel)]; exact ⟨rfl, rfl⟩))
    (fun os started H enc _ => lifted os started H enc)

end NumBack

theorem numBack_holds : Rows.NumBackSaid := NumBack.over
#print axioms numBack_holds
end Go.Proofs.Ytdceapcfihbapaa
