/- frame's Pop: what speaks of the program. -/
import Derived.Test.YtjlobkohkfcbpaaFrCopy
namespace Go.Proofs.Ytjlobkohkfcbpaa
namespace Fr
open Mem
open Go.RowKit
set_option linter.unusedVariables false
set_option linter.unusedSimpArgs false
set_option maxRecDepth 100000

theorem pop_nil (i : Int) (w : World) : Calls Try.prog 10 #[.pointer none, .int .i64 i] w fun e w' => e = .returned (.tuple #[.slice none 0 0, .bool false]) ∧ w = w' := by
  go_enter Try.func10, Try.ntmps10
  go_wp2_with fail
  go_returns
  exact ⟨rfl, rfl⟩
theorem pop_no {B : Nat} {w : World} {p : Nat} {m pc : Int} {ls st : List Vl} {r : Nat} (i : Int) (H : Fr B w p m pc ls r st) (hi : i < 0 ∨ (st.length : Int) < i) : Calls Try.prog 10 #[.pointer (some ⟨p, 0, none⟩), .int .i64 i] w fun e w' => e = .returned (.tuple #[.slice none 0 0, .bool false]) ∧ w = w' := by
  obtain ⟨⟨lx, sx, h1, h2, h3⟩, r1, r2, r3, r4, r5⟩ := H
  have x1 := (blk_cell h1 68).trans (toA (frC_68 m pc _ _ _ _ _ h2 h3))
  clear h1 h2 h3 r1 r2 r3 r4 r5
  generalize st.length = D at *
  by_cases h0 : i < 0
  · have d1 : decide (i < 0) = true := by simp; omega
    clear hi h0
    go_enter Try.func10, Try.ntmps10
    go_wp2_with fail
    go_returns
    exact ⟨rfl, rfl⟩
  · have d1 : decide (i < 0) = false := by simp; omega
    have d2 : decide ((D : Int) < i) = true := by simp; omega
    clear hi h0
    go_enter Try.func10, Try.ntmps10
    go_wp2_with fail
    go_returns
    exact ⟨rfl, rfl⟩
theorem pop_cut {B : Nat} {w : World} {p : Nat} {m pc : Int} {ls s1 s2 : List Vl} {r : Nat} (H : Fr B w p m pc ls r (s1 ++ s2)) :
    Fr B (w.setCell ⟨p, 68, none⟩ (.int .i64 (s1.length : Int))) p m pc ls r s1 ∧ (∀ j u, (cellsV s2)[j]? = some u → (w.setCell ⟨p, 68, none⟩ (.int .i64 (s1.length : Int))).cell? ⟨p, 35 + s1.length * 2 + j, none⟩ = some u) ∧
    w.cell? ⟨p, 68, none⟩ = some (.int .i64 ((s1.length + s2.length : Nat) : Int)) ∧ w.frozen? ⟨p, 68, none⟩ = false := by
  obtain ⟨⟨lx, sx, h1, h2, h3⟩, r1, r2, r3, r4, r5⟩ := H
  have x1 := (blk_cell h1 68).trans (toA (frC_68 m pc _ _ _ _ _ h2 h3))
  have f1 := blk_free h1 68
  rw [List.length_append] at x1 r3
  have HS := blk_set h1 68 (.int .i64 (s1.length : Int))
  rw [setA, frC_set68 m pc _ _ _ _ _ h2 h3 s1.length] at HS
  refine ⟨⟨⟨lx, s2 ++ sx, by rw [List.append_assoc] at HS; exact HS, h2, by rw [← List.append_assoc]; exact h3⟩, r1, r2, by omega, r4, fun x hx => r5 x (by simp [hx])⟩, fun j u hu => ?_, x1, f1⟩
  have hj := (List.getElem?_eq_some_iff.1 hu).1
  rw [cellsV_len] at hj
  rw [blk_cell HS, List.getElem?_toArray, show 35 + s1.length * 2 + j = 35 + (2 * s1.length + j) by omega, frC_S m pc _ _ _ _ _ h2 h3 _ (by simp only [List.length_append] at h3; omega), cellsV_append, cellsV_append, List.append_assoc, List.getElem?_append_right (by rw [cellsV_len]; omega), List.getElem?_append_left (by rw [cellsV_len, cellsV_len]; omega), ← hu, cellsV_len]
  congr 1
  omega
set_option maxHeartbeats 4000000 in
theorem pop_any {B : Nat} {w : World} {p : Nat} {m pc : Int} {ls s1 s2 : List Vl} {r : Nat} (H : Fr B w p m pc ls r (s1 ++ s2)) (n : Nat) (hn : s2.length = n) : Calls Try.prog 10 #[.pointer (some ⟨p, 0, none⟩), .int .i64 n] w fun e w' => ∃ v', e = .returned (.tuple #[v', .bool true]) ∧ w'.ownsRow w.heap.size 31 2 v' n (cellsV s2) ∧ Fr B w' p m pc ls r s1 ∧ Off (At p) w w' := by
  obtain ⟨_, _, x1, f1⟩ := pop_cut H
  rw [hn] at x1
  have HH : Hid (Fr _ _ _ _ _ _ _ _) := H
  have hl := H.len
  rw [List.length_append, hn] at hl
  have h16 : s1.length + n ≤ 16 := by omega
  clear hl
  have h32 : Hid (∀ x ∈ s2, Is32 x.n) := fun x hx => H.s32 x (by simp [hx])
  clear H
  have hd : decide ((n : Int) < 0) = false := by simp
  obtain ⟨K, hK⟩ : ∃ K, K = s1.length := ⟨_, rfl⟩
  rw [← hK] at x1 h16
  by_cases hk : K = 16
  · obtain rfl : n = 0 := by omega
    obtain rfl : s2 = [] := List.eq_nil_of_length_eq_zero hn
    have HK : Hid (K = s1.length) := hK
    clear hK
    subst hk
    go_enter Try.func10, Try.ntmps10
    go_upto_region 3 with fail
    go_quiet (fail)
    all_goals
      go_wp2_with fail
      have H' := HH.out.later (below_draws w.heap.size w nq)
      obtain ⟨HF, HT, _, _⟩ := pop_cut H'
      rw [← HK.out] at HF
      refine (clone_any ⟨p, 35, none⟩ 0 0 [] _ (vs_of rfl (Nat.le_refl _) (Nat.zero_le _) h32.out (fun j u hu => by simp [cellsV] at hu)) (by omega)).mono ?_
      rintro e w' ⟨v', rfl, own, b⟩
      go_wp2_with fail
      go_returns
      refine ⟨_, rfl, own_low own (by simp [World.setCell]), HF.later b, ((Off.below (At p) (below_draws w.heap.size w nq)).trans (Off.set (S := At p) _ ⟨p, 68, none⟩ _ rfl) (fun k e => .inl e)).trans (Off.below (At p) b) (fun k e => .inl e)⟩
  · have hk16 : K < 16 := by omega
    obtain ⟨D, hD⟩ : ∃ D, D = K + n := ⟨_, rfl⟩
    rw [← hD] at x1 h16
    have e1 : (D : Int) - (n : Int) = (K : Int) := by omega
    have e2 : IntKind.i64.wrap ((D : Int) - (n : Int)) = (K : Int) := by rw [IntKind.wrap_i64]; omega
    have e3 : IntKind.i64.wrap (K : Int) = (K : Int) := by rw [IntKind.wrap_i64]; omega
    have d2 : decide ((D : Int) < (n : Int)) = false := by simp; omega
    have d4 : decide (D < n) = false := by simp; omega
    have hne : ¬ 16 = K := by omega
    have i1 : K ≤ D := by omega
    have i3 : K ≤ 16 := by omega
    have e5 : D - K = n := by omega
    clear hD
    have hsl := slice_lh p K D i1 h16 hne
    rw [e5] at hsl
    have HK : Hid (K = s1.length) := hK
    have HN : Hid (s2.length = n) := hn
    clear hK hn
    go_enter Try.func10, Try.ntmps10
    go_upto_region 3 with fail
    go_quiet (fail)
    all_goals
      go_wp2_with fail
      have H' := HH.out.later (below_draws w.heap.size w nq)
      obtain ⟨HF, HT, _, _⟩ := pop_cut H'
      rw [← HK.out] at HF HT
      refine (clone_any ⟨p, 35 + K * 2, none⟩ n (16 - K) s2 _ (vs_of HN.out.symm (by omega) (by unfold maxLen; omega) h32.out HT) (by omega)).mono ?_
      rintro e w' ⟨v', rfl, own, b⟩
      go_wp2_with fail
      go_returns
      refine ⟨_, rfl, own_low own (by simp [World.setCell]), HF.later b, ((Off.below (At p) (below_draws w.heap.size w nq)).trans (Off.set (S := At p) _ ⟨p, 68, none⟩ _ rfl) (fun k e => .inl e)).trans (Off.below (At p) b) (fun k e => .inl e)⟩
end Fr
end Go.Proofs.Ytjlobkohkfcbpaa
