/- The contract of op.Get: of any bytes. -/
import Derived.Test.YthioaedhabfkgaaGreatOpGetA
import Derived.Test.YthioaedhabfkgaaGreatOpGetC
import Derived.Test.YthioaedhabfkgaaGreatOpGetM
namespace Go.Proofs.YthioaedhabfkgaaGreat
namespace Op4
open Num Kind
open Go.RowKit
set_option linter.unusedVariables false
set_option maxRecDepth 100000

theorem getF_err : ∀ (xs : List Int) (i : Nat) (u : Int), (getF i u xs).2.2 ≠ 0 → (getF i u xs).1 = 0 ∧ (getF i u xs).2.1 = 0
  | [], i, u, h => ⟨rfl, rfl⟩
  | x :: r, i, u, h => by
    unfold getF at h ⊢
    split
    · exact ⟨rfl, rfl⟩
    · rename_i h1
      rw [if_neg h1] at h
      split
      · rename_i h2
        rw [if_pos h2] at h
        exact getF_err r _ _ h
      · rename_i h2
        rw [if_neg h2] at h
        split
        · exact ⟨rfl, rfl⟩
        · rename_i h3
          rw [if_neg h3] at h
          exact absurd rfl h
theorem get_err (xs : List Int) (h : (get xs).2.2 ≠ 0) : (get xs).1 = 0 ∧ (get xs).2.1 = 0 := getF_err xs 0 0 h
theorem getText_err (xs : List Int) (h : (getText xs).2.2 ≠ 0) : (getText xs).1 = [] ∧ (getText xs).2.1 = 0 := by
  unfold getText at h ⊢
  split
  · exact ⟨rfl, rfl⟩
  · rename_i h1
    rw [if_neg h1] at h
    split
    · exact ⟨rfl, rfl⟩
    · rename_i h2
      rw [if_neg h2] at h
      split
      · exact ⟨rfl, rfl⟩
      · rename_i h3
        rw [if_neg h3] at h
        exact absurd rfl h

theorem parts0 : partsF 0 = (false, 0, false) := by decide
theorem askF_true (e : Int) : askF e true = e := by unfold askF; rw [if_neg (fun h => by cases h.2)]
theorem askF_err (e : Int) (q : Bool) (h : e ≠ 0) : askF e q = e := by unfold askF; rw [if_neg (fun x => h x.1)]
theorem askF_false : askF 0 false = 1 := rfl
theorem opB_of (o : Int) (h : partsF o ≠ (false, 0, false)) : opB o = true := by
  rcases kinds o with ⟨hk, hp⟩ | ⟨hk, hp⟩ | ⟨hk, hp⟩ | ⟨hk, hp⟩ | ⟨hk, hp⟩
  · unfold opB; simp; omega
  · unfold opB; simp; omega
  · unfold opB; simp; omega
  · unfold opB; simp; omega
  · exact absurd hp h
theorem fin_ok (n : Nat) (zs : List Int) (o a : Int) (c m : List Int) (K : Int) (h : (n : Int) - zs.length = K) : finI n zs 0 o a c m = ((o, a, c, m), K, 0) := by
  unfold finI; rw [if_pos rfl, h]
theorem fin_err (n : Nat) (zs : List Int) (e o a : Int) (c m : List Int) (h : e ≠ 0) : finI n zs e o a c m = failI e := by
  unfold finI; rw [if_neg h]

/-- op.Get of any bytes. -/
theorem oget_any (p : Option Addr) (n k : Nat) (xs : List Int) (w : World) (h : Has w p n k xs) (hb : Bytes xs) (hn : n ≤ 100000000) :
    Calls Tryz.prog 135 #[.slice p n k] w fun e w' => e = .returned (resI (getI xs)) ∧ Below w.heap.size w w' := by
  have hlen := h.len
  have bd := get_bd xs hb
  rw [hlen] at bd
  have hr1 : rdN 0 xs = ((get xs).1, xs.drop (get xs).2.1.toNat, (get xs).2.2) := by unfold rdN; rw [if_pos rfl]
  have hE := get_err xs
  have hI : getI xs = if (get xs).2.2 ≠ 0 then failI (get xs).2.2 else if (get xs).1 < 1 ∨ 61 < (get xs).1 then failI 1 else getA (get xs).1 (get xs).2.1.toNat xs := rfl
  generalize get xs = r at *
  obtain ⟨o, K1, E1⟩ := r
  simp only at bd hr1 hE hI
  obtain ⟨ho, hK0, hK1, he0, he2⟩ := bd
  obtain ⟨K1, rfl⟩ := Int.eq_ofNat_of_zero_le hK0
  rw [Int.toNat_natCast] at hr1 hI
  have hby := bytes_drop' hb K1
  have hly : (xs.drop K1).length = n - K1 := by rw [List.length_drop, hlen]
  have hK1n : K1 ≤ n := by omega
  -- a part behind: no error ahead
  have ahead : partsF o ≠ (false, 0, false) → E1 = 0 ∧ opB o = true ∧ getI xs = getA o K1 xs := by
    intro hp
    have h1 := opB_of o hp
    have h0 : E1 = 0 := Classical.byContradiction fun hne => hp (by rw [(hE hne).1]; exact parts0)
    refine ⟨h0, h1, ?_⟩
    have : ¬ (o < 1 ∨ 61 < o) := by unfold opB at h1; simp at h1; omega
    rw [hI, if_neg (by simp [h0]), if_neg this]
  have partC : ∀ j : Int, (j = 1 ∨ j = 2) → partsF o = (false, j, false) → Calls Tryz.prog 135 #[.slice p n k] w fun e w' => e = .returned (resI (getI xs)) ∧ Below w.heap.size w w' := by
    intro j hj hp
    have hj0 : 0 < j := by omega
    obtain ⟨rfl, h1, hG⟩ := ahead (by rw [hp]; intro e; injection e with _ e; injection e with e _; omega)
    have bd2 := getText_bd (xs.drop K1) hby
    rw [hly] at bd2
    have hr2 : rdT (askF 0 (opB o)) (xs.drop K1) = ((getText (xs.drop K1)).1, (xs.drop K1).drop (getText (xs.drop K1)).2.1.toNat, (getText (xs.drop K1)).2.2) := by rw [h1]; unfold rdT askF; simp
    have hV : getI xs = if (getText (xs.drop K1)).2.2 ≠ 0 then failI (getText (xs.drop K1)).2.2 else if textB j (getText (xs.drop K1)).1 = true then ((o, 0, (getText (xs.drop K1)).1, []), ((K1 + (getText (xs.drop K1)).2.1.toNat : Nat) : Int), 0) else failI 1 := by
      rw [hG]; unfold getA getC getM; simp [hp, hj0]
    have ht : textB j (getText (xs.drop K1)).1 = tB o (getText (xs.drop K1)).1 := by
      unfold textB tB; rw [hp]; rcases hj with rfl | rfl <;> simp
    rw [ht] at hV
    clear ht
    generalize getText (xs.drop K1) = r2 at *
    obtain ⟨c, K2, E2⟩ := r2
    simp only at bd2 hr2 hV
    obtain ⟨hbc, hlc, hK20, hK2, he20, he22⟩ := bd2
    obtain ⟨K2, rfl⟩ := Int.eq_ofNat_of_zero_le hK20
    rw [Int.toNat_natCast] at hr2 hV
    have hlz : ((xs.drop K1).drop K2).length = n - K1 - K2 := by rw [List.length_drop, hly]
    refine (oget_C p n k xs w h hb hn o (xs.drop K1) 0 hr1 hby (by omega) j hj0 hp c _ E2 hr2 (by omega) hbc (by omega)).mono ?_
    rintro e w' ⟨rfl, b⟩
    refine ⟨?_, b⟩
    rw [hV]
    by_cases hE2 : E2 = 0
    · subst hE2
      cases hq : tB o c
      · rw [askF_false, fin_err _ _ _ _ _ _ _ (by decide)]; simp
      · rw [askF_true, fin_ok _ _ _ _ _ _ ((K1 + K2 : Nat) : Int) (by omega)]; simp
    · rw [askF_err _ _ hE2, fin_err _ _ _ _ _ _ _ hE2, if_pos hE2]
  rcases kinds o with ⟨hk, hp⟩ | ⟨hk, hp⟩ | ⟨hk, hp⟩ | ⟨hk, hp⟩ | ⟨hk, hp⟩
  · obtain ⟨rfl, h1, hG⟩ := ahead (by rw [hp]; decide)
    have bd2 := get_bd (xs.drop K1) hby
    rw [hly] at bd2
    have hr2 : rdN (askF 0 (opB o)) (xs.drop K1) = ((get (xs.drop K1)).1, (xs.drop K1).drop (get (xs.drop K1)).2.1.toNat, (get (xs.drop K1)).2.2) := by rw [h1]; unfold rdN askF; simp
    have hV : getI xs = if (get (xs.drop K1)).2.2 ≠ 0 then failI (get (xs.drop K1)).2.2 else if numberB o (get (xs.drop K1)).1 = true then ((o, (get (xs.drop K1)).1, [], []), ((K1 + (get (xs.drop K1)).2.1.toNat : Nat) : Int), 0) else failI 1 := by
      rw [hG]; unfold getA getC getM; simp [hp]
    rw [number_aB o _ (by rw [hp])] at hV
    generalize get (xs.drop K1) = r2 at *
    obtain ⟨a, K2, E2⟩ := r2
    simp only at bd2 hr2 hV
    obtain ⟨ha, hK20, hK2, he20, he22⟩ := bd2
    obtain ⟨K2, rfl⟩ := Int.eq_ofNat_of_zero_le hK20
    rw [Int.toNat_natCast] at hr2 hV
    have hlz : ((xs.drop K1).drop K2).length = n - K1 - K2 := by rw [List.length_drop, hly]
    have := oget_A p n k xs w h hb hn o (xs.drop K1) 0 hr1 hby (by omega) hp a _ E2 hr2 (by omega)
    refine this.mono ?_
    rintro e w' ⟨rfl, b⟩
    refine ⟨?_, b⟩
    rw [hV]
    by_cases hE2 : E2 = 0
    · subst hE2
      cases hq : aB o a
      · rw [askF_false, fin_err _ _ _ _ _ _ _ (by decide)]; simp
      · rw [askF_true, fin_ok _ _ _ _ _ _ ((K1 + K2 : Nat) : Int) (by omega)]; simp
    · rw [askF_err _ _ hE2, fin_err _ _ _ _ _ _ _ hE2, if_pos hE2]
  · exact partC 1 (.inl rfl) hp
  · obtain ⟨rfl, h1, hG⟩ := ahead (by rw [hp]; decide)
    have bd2 := getText_bd (xs.drop K1) hby
    rw [hly] at bd2
    have hr2 : rdT (askF 0 (opB o)) (xs.drop K1) = ((getText (xs.drop K1)).1, (xs.drop K1).drop (getText (xs.drop K1)).2.1.toNat, (getText (xs.drop K1)).2.2) := by rw [h1]; unfold rdT askF; simp
    have hV : getI xs = if (getText (xs.drop K1)).2.2 ≠ 0 then failI (getText (xs.drop K1)).2.2 else if textB 1 (getText (xs.drop K1)).1 = true then getM o 0 (getText (xs.drop K1)).1 (K1 + (getText (xs.drop K1)).2.1.toNat) xs else failI 1 := by
      rw [hG]; unfold getA getC; simp [hp]
    have ht : textB 1 (getText (xs.drop K1)).1 = tB o (getText (xs.drop K1)).1 := by
      unfold textB tB; rw [hp]; simp
    rw [ht] at hV
    clear ht
    generalize getText (xs.drop K1) = r2 at *
    obtain ⟨c, K2, E2⟩ := r2
    simp only at bd2 hr2 hV
    obtain ⟨hbc, hlc, hK20, hK2, he20, he22⟩ := bd2
    obtain ⟨K2, rfl⟩ := Int.eq_ofNat_of_zero_le hK20
    rw [Int.toNat_natCast] at hr2 hV
    have hlz : ((xs.drop K1).drop K2).length = n - K1 - K2 := by rw [List.length_drop, hly]
    have hbz := bytes_drop' hby K2
    have hdd : (xs.drop K1).drop K2 = xs.drop (K1 + K2) := by rw [List.drop_drop]
    have hM : getM o 0 c (K1 + K2) xs = if (getText (xs.drop (K1 + K2))).2.2 ≠ 0 then failI (getText (xs.drop (K1 + K2))).2.2 else if nB o (getText (xs.drop (K1 + K2))).1 = true then ((o, 0, c, (getText (xs.drop (K1 + K2))).1), ((K1 + K2 : Nat) : Int) + (getText (xs.drop (K1 + K2))).2.1, 0) else failI 1 := by
      unfold getM nB; simp [hp]
    rw [← hdd] at hM
    clear hdd
    generalize (xs.drop K1).drop K2 = zs at *
    obtain ⟨m, us, E3, hr3⟩ : ∃ m us E3, rdT (askF E2 (tB o c)) zs = (m, us, E3) := ⟨_, _, _, rfl⟩
    have bd3 := getText_bd zs hbz
    rw [hlz] at bd3
    have facts : us.length ≤ n ∧ Bytes m ∧ m.length ≤ n := by
      unfold rdT at hr3
      split at hr3
      · injection hr3 with q1 q2
        injection q2 with q2 q3
        subst q1 q2
        refine ⟨by rw [List.length_drop]; omega, bd3.1, by omega⟩
      · injection hr3 with q1 q2
        injection q2 with q2 q3
        subst q1 q2
        exact ⟨by omega, fun x hx => by simp at hx, by simp⟩
    obtain ⟨hlu, hbm, hlm⟩ := facts
    refine (oget_M p n k xs w h hb hn o (xs.drop K1) 0 hr1 hby (by omega) 1 (by decide) hp c zs E2 hr2 (by omega) hbz hbc (by omega) m us E3 hr3 hlu hbm hlm).mono ?_
    rintro e w' ⟨rfl, b⟩
    refine ⟨?_, b⟩
    rw [hV]
    by_cases hE2 : E2 = 0
    · subst hE2
      cases hq : tB o c
      · rw [hq, askF_false] at hr3
        unfold rdT at hr3
        rw [if_neg (by decide)] at hr3
        injection hr3 with q1 q2
        injection q2 with q2 q3
        subst q3
        rw [askF_err _ _ (by decide), fin_err _ _ _ _ _ _ _ (by decide)]; simp
      · rw [hq, askF_true] at hr3
        unfold rdT at hr3
        rw [if_pos rfl] at hr3
        rw [if_neg (by simp), if_pos rfl, hM]
        generalize getText zs = r3 at *
        obtain ⟨m', K3, E3'⟩ := r3
        simp only at bd3 hr3
        injection hr3 with q1 q2
        injection q2 with q2 q3
        subst q1 q2 q3
        obtain ⟨_, _, hK30, hK3, _, _⟩ := bd3
        obtain ⟨K3, rfl⟩ := Int.eq_ofNat_of_zero_le hK30
        by_cases hE3 : E3' = 0
        · subst hE3
          cases hq3 : nB o m'
          · rw [askF_false, fin_err _ _ _ _ _ _ _ (by decide)]; simp
          · rw [askF_true, fin_ok _ _ _ _ _ _ ((K1 + K2 : Nat) + (K3 : Int)) (by rw [Int.toNat_natCast, List.length_drop]; omega)]; simp
        · rw [askF_err _ _ hE3, fin_err _ _ _ _ _ _ _ hE3, if_pos hE3]
    · rw [askF_err _ _ hE2] at hr3
      unfold rdT at hr3
      rw [if_neg hE2] at hr3
      injection hr3 with q1 q2
      injection q2 with q2 q3
      subst q3
      rw [askF_err _ _ hE2, fin_err _ _ _ _ _ _ _ hE2, if_pos hE2]
  · exact partC 2 (.inr rfl) hp
  · refine (oget_N p n k xs w h hb hn o (xs.drop K1) E1 hr1 hby (by omega) hp).mono ?_
    rintro e w' ⟨rfl, b⟩
    refine ⟨?_, b⟩
    rw [hI]
    by_cases hE1 : E1 = 0
    · subst hE1
      cases hq : opB o
      · have : o < 1 ∨ 61 < o := by unfold opB at hq; simp at hq; omega
        rw [askF_false, fin_err _ _ _ _ _ _ _ (by decide)]; simp [this]
      · have : ¬ (o < 1 ∨ 61 < o) := by unfold opB at hq; simp at hq; omega
        rw [askF_true, fin_ok _ _ _ _ _ _ (K1 : Int) (by omega)]
        unfold getA getC getM
        simp [this, hp]
    · rw [askF_err _ _ hE1, fin_err _ _ _ _ _ _ _ hE1, if_pos hE1]
end Op4
end Go.Proofs.YthioaedhabfkgaaGreat
