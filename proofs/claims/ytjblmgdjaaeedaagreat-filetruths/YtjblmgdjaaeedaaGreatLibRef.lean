/- The contracts of the documents' own answers (Put, PutText) and of the laws' Short and Cut. -/
import Derived.Test.YtjblmgdjaaeedaaGreatLibText
namespace Go.Proofs.YtjblmgdjaaeedaaGreat
namespace Num
open Go.RowKit
set_option linter.unusedVariables false
set_option maxRecDepth 100000

theorem ref_u (n : Int) (hn : Is64 n) (h : n < 0) : IntKind.u64.wrap (IntKind.u64.wrap n * 2) = 2 * n + 18446744073709551616 := by
  have e : ∀ m : Int, IntKind.u64.wrap m = m % 18446744073709551616 := fun m => by simp [IntKind.wrap, IntKind.bits, IntKind.signed]
  obtain ⟨h1, h2⟩ := hn
  rw [e, e]
  omega

theorem ref_not (n : Int) (hn : Is64 n) (h : n < 0) : bits .xor .u64 IntKind.u64.max (2 * n + 18446744073709551616) = zig n := by
  obtain ⟨h1, h2⟩ := hn
  have := not_u64 (2 * n + 18446744073709551616) (by omega) (by omega)
  have e : IntKind.u64.max = 18446744073709551615 := rfl
  rw [e, this]
  unfold zig
  rw [if_pos h]
  omega

set_option maxHeartbeats 800000 in
theorem ref_put (N : Int) (w : World) (hN : Is64 N) :
    Calls Tryz.prog 36 #[.int .i64 N] w fun e w' => ∃ g' cap', e = .returned (.slice (some ⟨g', 0, none⟩) (enc N).length cap') ∧
      w'.ownsRow w.heap.size 5 1 (.slice (some ⟨g', 0, none⟩) (enc N).length cap') (enc N).length (cellsOf (enc N)) ∧ Below w.heap.size w w' := by
  obtain ⟨i0, hi, hz0, hz1, hz2⟩ := info_parts info8
  have hzz := zig_bd N hN.1 hN.2
  obtain ⟨hN1, hN2⟩ := id hN
  by_cases hneg : N < 0
  · have hu := ref_u N hN hneg
    have hx := ref_not N hN hneg
    go_enter Tryz.func36, Tryz.ntmps36
    go_wp2_with fail
    go_loopw [4, 3] (fun v u wr => ∃ (m f : Nat) (U : Int) (ys : List Int), u = .int .u64 U ∧ m + f = 9 ∧ ys.length = m ∧ 0 ≤ U ∧ U < 2 * 128 ^ f ∧ ys ++ encU f U = enc N ∧
        wr.ownsRow w.heap.size 5 1 v m (cellsOf ys) ∧ Below w.heap.size w wr) (fun _ u _ => (intOf u).toNat)
    case atStart => exact ⟨0, 9, zig N, [], rfl, rfl, rfl, hzz.1, hzz.2, rfl, World.ownsRow_nil _ _ _ _, Below.refl _ _⟩
    case round =>
      obtain ⟨m, f, U, ys, rfl, hf, hy, h0, h1, he, hown, hbel⟩ := hrel
      have hp := pow_le f 9 (by omega)
      have hU64 : U < 18446744073709551616 := by omega
      have hbs := hbel.size
      by_cases hU : 128 ≤ U
      · have R := rel_next (n := 0) (xs := []) hf hy h0 h1 he hU
        have HR : Hid _ := R
        clear R he h1 hp hzz hu hx
        go_wp2_with (at_builtin; go_must (refine wpList_append_lies _ rfl _ _ 29 rfl w.heap.size 5 i0 (.int .u8 0) 1 1 Tryz.underlying29 hi hz0 hz1 hz2 rfl (by decide) _ _ _ rfl (hown.alloc _) ⟨wr.heap.size, 0, none⟩ 1 1 [.int .u8 (U % 128 + 128)] rfl rfl (cell_one_new _ _ _) (ints_oneCell .u8 [U % 128 + 128]) (by decide) (by unfold maxLen; omega) (by omega) (by simp; omega) _ rfl ?_; intro g' cap' w1 hown1 hgrow1 hat hlt))
        obtain ⟨r1, r2, r3, r4, r5, r6, r7⟩ := HR.out
        simp only [List.nil_append] at r7
        rw [r7] at hown1
        have hb1 : Below w.heap.size w w1 := (hbel.alloc (by omega) _).grown hgrow1 (by simp; omega) (fun k e => (hown.lt k e).1)
        go_roundw
        case rel => exact ⟨m + 1, f - 1, U / 128, ys ++ [U % 128 + 128], rfl, r1, r2, r3, r4, r5, hown1, hb1⟩
        case measure => simp [intOf]; omega
      · have hl : encU f U = [U] := rel_last (by omega)
        have HE : Hid (ys ++ [U] = enc N) := by rw [← hl]; exact he
        have hU' : U < 128 := by omega
        clear he h1 hp hl hU hzz hu hx
        go_wp2_with (at_builtin; go_must (refine wpList_append_lies _ rfl _ _ 29 rfl w.heap.size 5 i0 (.int .u8 0) 1 1 Tryz.underlying29 hi hz0 hz1 hz2 rfl (by decide) _ _ _ rfl (hown.alloc _) ⟨wr.heap.size, 0, none⟩ 1 1 [.int .u8 U] rfl rfl (cell_one_new _ _ _) (ints_oneCell .u8 [U]) (by decide) (by unfold maxLen; omega) (by omega) (by simp; omega) _ rfl ?_; intro g' cap' w1 hown1 hgrow1 hat hlt))
        have hlen : m + 1 = (enc N).length := by rw [← HE.out]; simp; omega
        have hcl : cellsOf ys ++ [.int .u8 U] = cellsOf (enc N) := by rw [← HE.out]; simp [cellsOf]
        rw [hcl] at hown1
        have hb1 : Below w.heap.size w w1 := (hbel.alloc (by omega) _).grown hgrow1 (by simp; omega) (fun k e => (hown.lt k e).1)
        go_ret
        rw [hlen] at hown1
        exact ⟨g', cap', by simp [hlen], hown1, hb1⟩
  · have hz : N * 2 = zig N := by unfold zig; rw [if_neg hneg]; omega
    go_enter Tryz.func36, Tryz.ntmps36
    go_wp2_with fail
    go_loopw [4, 3] (fun v u wr => ∃ (m f : Nat) (U : Int) (ys : List Int), u = .int .u64 U ∧ m + f = 9 ∧ ys.length = m ∧ 0 ≤ U ∧ U < 2 * 128 ^ f ∧ ys ++ encU f U = enc N ∧
        wr.ownsRow w.heap.size 5 1 v m (cellsOf ys) ∧ Below w.heap.size w wr) (fun _ u _ => (intOf u).toNat)
    case atStart => exact ⟨0, 9, zig N, [], rfl, rfl, rfl, hzz.1, hzz.2, rfl, World.ownsRow_nil _ _ _ _, Below.refl _ _⟩
    case round =>
      obtain ⟨m, f, U, ys, rfl, hf, hy, h0, h1, he, hown, hbel⟩ := hrel
      have hp := pow_le f 9 (by omega)
      have hU64 : U < 18446744073709551616 := by omega
      have hbs := hbel.size
      by_cases hU : 128 ≤ U
      · have R := rel_next (n := 0) (xs := []) hf hy h0 h1 he hU
        have HR : Hid _ := R
        clear R he h1 hp hzz hz
        go_wp2_with (at_builtin; go_must (refine wpList_append_lies _ rfl _ _ 29 rfl w.heap.size 5 i0 (.int .u8 0) 1 1 Tryz.underlying29 hi hz0 hz1 hz2 rfl (by decide) _ _ _ rfl (hown.alloc _) ⟨wr.heap.size, 0, none⟩ 1 1 [.int .u8 (U % 128 + 128)] rfl rfl (cell_one_new _ _ _) (ints_oneCell .u8 [U % 128 + 128]) (by decide) (by unfold maxLen; omega) (by omega) (by simp; omega) _ rfl ?_; intro g' cap' w1 hown1 hgrow1 hat hlt))
        obtain ⟨r1, r2, r3, r4, r5, r6, r7⟩ := HR.out
        simp only [List.nil_append] at r7
        rw [r7] at hown1
        have hb1 : Below w.heap.size w w1 := (hbel.alloc (by omega) _).grown hgrow1 (by simp; omega) (fun k e => (hown.lt k e).1)
        go_roundw
        case rel => exact ⟨m + 1, f - 1, U / 128, ys ++ [U % 128 + 128], rfl, r1, r2, r3, r4, r5, hown1, hb1⟩
        case measure => simp [intOf]; omega
      · have hl : encU f U = [U] := rel_last (by omega)
        have HE : Hid (ys ++ [U] = enc N) := by rw [← hl]; exact he
        have hU' : U < 128 := by omega
        clear he h1 hp hl hU hzz hz
        go_wp2_with (at_builtin; go_must (refine wpList_append_lies _ rfl _ _ 29 rfl w.heap.size 5 i0 (.int .u8 0) 1 1 Tryz.underlying29 hi hz0 hz1 hz2 rfl (by decide) _ _ _ rfl (hown.alloc _) ⟨wr.heap.size, 0, none⟩ 1 1 [.int .u8 U] rfl rfl (cell_one_new _ _ _) (ints_oneCell .u8 [U]) (by decide) (by unfold maxLen; omega) (by omega) (by simp; omega) _ rfl ?_; intro g' cap' w1 hown1 hgrow1 hat hlt))
        have hlen : m + 1 = (enc N).length := by rw [← HE.out]; simp; omega
        have hcl : cellsOf ys ++ [.int .u8 U] = cellsOf (enc N) := by rw [← HE.out]; simp [cellsOf]
        rw [hcl] at hown1
        have hb1 : Below w.heap.size w w1 := (hbel.alloc (by omega) _).grown hgrow1 (by simp; omega) (fun k e => (hown.lt k e).1)
        go_ret
        rw [hlen] at hown1
        exact ⟨g', cap', by simp [hlen], hown1, hb1⟩

theorem ref_text (s : ByteArray) (w : World) (hsz : 10 + s.size ≤ 140737488355328) :
    Calls Tryz.prog 37 #[.string s] w fun e w' => ∃ g cap, e = .returned (.slice (some ⟨g, 0, none⟩) (encT s).length cap) ∧
      w'.ownsRow w.heap.size 5 1 (.slice (some ⟨g, 0, none⟩) (encT s).length cap) (encT s).length (cellsOf (encT s)) ∧ Below w.heap.size w w' := by
  obtain ⟨i0, hi, hz0, hz1, hz2⟩ := info_parts info8
  have hN : Is64 s.size := by unfold Is64; omega
  have hl := enc_len s.size
  go_enter Tryz.func37, Tryz.ntmps37
  go_wp2_with fail
  refine (ref_put s.size _ hN).mono ?_
  rintro e w2 ⟨g, cap, rfl, hown2, hb12⟩
  go_wp2_with (at_builtin; go_must (refine wpList_str _ rfl _ _ 29 9 rfl w.heap.size 5 i0 Tryz.underlying29 Tryz.underlying9 hi hz0 hz1 hz2 _ _ _ rfl hown2 s rfl (by omega) (by omega) hb12.size ?_; intro g' cap' w3 hown3 hgrow3))
  have hb3 : Below w.heap.size w w3 := hb12.grown hgrow3 hb12.size (fun k e => by cases e; exact (hown2.lt g rfl).1)
  have e1 : (enc s.size).length + s.size = (encT s).length := by rw [encT_length]
  rw [show enc s.size ++ nums s = encT s from rfl, e1] at hown3
  go_ret
  exact ⟨g', cap', by simp [e1], hown3, hb3⟩
end Num
end Go.Proofs.YtjblmgdjaaeedaaGreat
