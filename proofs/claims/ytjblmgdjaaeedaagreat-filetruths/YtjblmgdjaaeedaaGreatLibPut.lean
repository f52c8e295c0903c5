/- The contracts of num.copyWithRoom, num.appendNumber, num.Put: the answer lies in new memory and holds the old bytes and the number's. -/
import Derived.Test.YtjblmgdjaaeedaaGreatLibHas
import Derived.Test.YtjblmgdjaaeedaaGreatNumSmall
namespace Go.Proofs.YtjblmgdjaaeedaaGreat
namespace Num
open Go.RowKit
set_option linter.unusedVariables false
set_option maxRecDepth 100000

theorem copy_any (a : Option Addr) (n c : Nat) (xs : List Int) (R : Int) (r : Nat) (w : World) (h : Has w a n c xs) (hR : R = r) (hr : n + r ≤ 140737488355328) :
    Calls Tryz.prog 88 #[.slice a n c, .int .i64 R] w fun e w' => e = .returned (.slice (some ⟨w.heap.size, 0, none⟩) n (n + r)) ∧
      w'.ownsRow w.heap.size 5 1 (.slice (some ⟨w.heap.size, 0, none⟩) n (n + r)) n (cellsOf xs) ∧ Below w.heap.size w w' := by
  obtain ⟨i0, hi, hz0, hz1, hz2⟩ := info_parts info8
  subst hR
  go_enter Tryz.func88, Tryz.ntmps88
  have hmx : n + r ≤ maxLen := by unfold maxLen; omega
  have hcp := h.cap
  go_wp2_with (first | (at_make; refine wpList_make_own _ rfl _ _ 29 rfl w.heap.size 5 i0 (.int .u8 0) 1 Tryz.underlying29 hi hz0 hz1 _ _ _ (n + r) rfl rfl (by omega) (by rw [hz2]; omega) hmx (Nat.le_refl _) ?_; intro w1 hown1 hgrow1) | (at_builtin; refine wpList_append_fits_any _ rfl _ _ 29 rfl w.heap.size 5 i0 1 Tryz.underlying29 hi hz1 w.heap.size 0 (n + r) [] rfl hown1 a n c (cellsOf xs) rfl (by rw [cellsOf_length, h.len, Nat.mul_one]) h.nil ((h.later ((Below.refl _ _).grown hgrow1 (Nat.le_refl _) (fun k e => by cases e))).news) (cellsOf_one xs) (by omega) ?_; intro w2 hown2 hgrow2))
  have b1 : Below w.heap.size w w1 := (Below.refl _ _).grown hgrow1 (Nat.le_refl _) (fun k e => by cases e)
  have b2 : Below w.heap.size w w2 := b1.grown hgrow2 b1.size (fun k e => by cases e; exact Nat.le_refl _)
  simp only [Nat.zero_add, List.nil_append] at hown2
  go_wp2
  go_ret
  exact ⟨by simp, hown2, b2⟩

theorem rel_next {f m n : Nat} {U N : Int} {xs ys : List Int} (hf : m + f = 9) (hy : ys.length = m) (h0 : 0 ≤ U) (h1 : U < 2 * 128 ^ f) (he : ys ++ encU f U = enc N) (hU : 128 ≤ U) :
    m + 1 + (f - 1) = 9 ∧ (ys ++ [U % 128 + 128]).length = m + 1 ∧ 0 ≤ U / 128 ∧ U / 128 < 2 * 128 ^ (f - 1) ∧ (ys ++ [U % 128 + 128]) ++ encU (f - 1) (U / 128) = enc N ∧ n + m + 1 = n + (m + 1) ∧
    cellsOf (xs ++ ys) ++ [.int .u8 (U % 128 + 128)] = cellsOf (xs ++ (ys ++ [U % 128 + 128])) := by
  cases f with
  | zero => simp at h1; omega
  | succ f =>
    refine ⟨by simp; omega, by simp [hy], by omega, div_lt h1, ?_, by omega, by simp [cellsOf]⟩
    rw [← he]
    simp only [Nat.add_sub_cancel, List.append_assoc, List.singleton_append]
    conv => rhs; unfold encU
    rw [if_neg (by omega)]
theorem rel_last {f : Nat} {U : Int} (h : U < 128) : encU f U = [U] := by
  cases f with
  | zero => rfl
  | succ f => unfold encU; rw [if_pos h]

set_option maxRecDepth 100000 in
set_option maxHeartbeats 400000 in
theorem append_any (B g n cap : Nat) (xs : List Int) (N : Int) (w : World) (hN : Is64 N) (hB : B ≤ w.heap.size) (hsz : n + 10 ≤ 140737488355328)
    (hown : w.ownsRow B 5 1 (.slice (some ⟨g, 0, none⟩) n cap) n (cellsOf xs)) :
    Calls Tryz.prog 87 #[.slice (some ⟨g, 0, none⟩) n cap, .int .i64 N] w fun e w' => ∃ g' cap', e = .returned (.slice (some ⟨g', 0, none⟩) (n + (enc N).length) cap') ∧
      w'.ownsRow B 5 1 (.slice (some ⟨g', 0, none⟩) (n + (enc N).length) cap') (n + (enc N).length) (cellsOf (xs ++ enc N)) ∧ Below B w w' := by
  obtain ⟨i0, hi, hz0, hz1, hz2⟩ := info_parts info8
  have hzz := zig_bd N hN.1 hN.2
  go_enter Tryz.func87, Tryz.ntmps87
  go_wp2_with (go_at_call 122; refine (unsigned_any N _ hN).mono ?_; rintro e w' ⟨rfl, rfl⟩)
  go_loopw [0, 5] (fun v u wr => ∃ (g cap m f : Nat) (U : Int) (ys : List Int), v = .slice (some ⟨g, 0, none⟩) (n + m) cap ∧ u = .int .u64 U ∧ m + f = 9 ∧ ys.length = m ∧ 0 ≤ U ∧ U < 2 * 128 ^ f ∧ ys ++ encU f U = enc N ∧
      wr.ownsRow B 5 1 (.slice (some ⟨g, 0, none⟩) (n + m) cap) (n + m) (cellsOf (xs ++ ys)) ∧ Below B w wr) (fun _ u _ => (intOf u).toNat)
  case atStart => exact ⟨g, cap, 0, 9, zig N, [], rfl, rfl, rfl, rfl, hzz.1, hzz.2, rfl, by simpa using hown, Below.refl _ _⟩
  case round =>
    obtain ⟨g, cap, m, f, U, ys, rfl, rfl, hf, hy, h0, h1, he, hown, hbel⟩ := hrel
    have hp := pow_le f 9 (by omega)
    have hU64 : U < 18446744073709551616 := by omega
    have hbs := hbel.size
    by_cases hU : 128 ≤ U
    · have hm := and127_u64 U h0 (by omega)
      have ho := or128_u8 (U % 128) (by omega) (by omega)
      have R := rel_next (n := n) (xs := xs) hf hy h0 h1 he hU
      have HR : Hid _ := R
      clear R he h1 hp
      go_wp2_with (at_builtin; go_must (refine wpList_append_lies _ rfl _ _ 29 rfl B 5 i0 (.int .u8 0) 1 1 Tryz.underlying29 hi hz0 hz1 hz2 rfl (by decide) _ _ _ rfl (hown.alloc _) ⟨wr.heap.size, 0, none⟩ 1 1 [.int .u8 (U % 128 + 128)] rfl rfl (cell_one_new _ _ _) (ints_oneCell .u8 [U % 128 + 128]) (by decide) (by unfold maxLen; omega) (by omega) (by simp; omega) _ rfl ?_; intro g' cap' w1 hown1 hgrow1 hat hlt))
      obtain ⟨r1, r2, r3, r4, r5, r6, r7⟩ := HR.out
      rw [r7] at hown1
      have hb1 : Below B w w1 := (hbel.alloc (by omega) _).grown hgrow1 (by simp; omega) (fun k e => by cases e; exact (hown.lt g rfl).1)
      go_roundw
      case rel => exact ⟨g', cap', m + 1, f - 1, U / 128, ys ++ [U % 128 + 128], rfl, rfl, r1, r2, r3, r4, r5, hown1, hb1⟩
      case measure => simp [intOf]; omega
    · have hl : encU f U = [U] := rel_last (by omega)
      have HE : Hid (ys ++ [U] = enc N) := by rw [← hl]; exact he
      have hU' : U < 128 := by omega
      clear he h1 hp hl hU
      go_wp2_with (at_builtin; go_must (refine wpList_append_lies _ rfl _ _ 29 rfl B 5 i0 (.int .u8 0) 1 1 Tryz.underlying29 hi hz0 hz1 hz2 rfl (by decide) _ _ _ rfl (hown.alloc _) ⟨wr.heap.size, 0, none⟩ 1 1 [.int .u8 U] rfl rfl (cell_one_new _ _ _) (ints_oneCell .u8 [U]) (by decide) (by unfold maxLen; omega) (by omega) (by simp; omega) _ rfl ?_; intro g' cap' w1 hown1 hgrow1 hat hlt))
      have hlen : n + m + 1 = n + (enc N).length := by rw [← HE.out]; simp; omega
      have hcl : cellsOf (xs ++ ys) ++ [.int .u8 U] = cellsOf (xs ++ enc N) := by rw [← HE.out]; simp [cellsOf]
      rw [hcl] at hown1
      have hb1 : Below B w w1 := (hbel.alloc (by omega) _).grown hgrow1 (by simp; omega) (fun k e => by cases e; exact (hown.lt g rfl).1)
      go_ret
      rw [hlen] at hown1
      exact ⟨g', cap', by simp [hlen], hown1, hb1⟩

theorem put_any (a : Option Addr) (n c : Nat) (xs : List Int) (N : Int) (w : World) (h : Has w a n c xs) (hN : Is64 N) (hsz : n + 10 ≤ 140737488355328) :
    Calls Tryz.prog 56 #[.slice a n c, .int .i64 N] w fun e w' => ∃ g cap, e = .returned (.slice (some ⟨g, 0, none⟩) (n + (enc N).length) cap) ∧
      w'.ownsRow w.heap.size 5 1 (.slice (some ⟨g, 0, none⟩) (n + (enc N).length) cap) (n + (enc N).length) (cellsOf (xs ++ enc N)) ∧ Below w.heap.size w w' := by
  go_enter Tryz.func56, Tryz.ntmps56
  go_wp2_with fail
  refine (copy_any a n c xs 10 10 _ h rfl hsz).mono ?_
  rintro e w1 ⟨rfl, hown1, hb1⟩
  go_wp2_with fail
  refine (append_any w.heap.size w.heap.size n (n + 10) xs N _ hN hb1.size hsz hown1).mono ?_
  rintro e w2 ⟨g, cap, rfl, hown2, hb2⟩
  go_wp2_with fail
  go_ret
  exact ⟨g, cap, rfl, hown2, hb1.trans hb2⟩
end Num
end Go.Proofs.YtjblmgdjaaeedaaGreat
